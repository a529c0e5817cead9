/- The functions of layer 11, En. Conditions: none. -/
import Derived.Test.YtkjjioigbpkifaaeA3
namespace Go.Proofs.Ytkjjioigbpkifaa
open Go Go.RowKit
set_option linter.unusedVariables false
set_option linter.unusedSimpArgs false
set_option maxRecDepth 20000
set_option maxHeartbeats 2000000
theorem Px : Has Try.prog 37 := ⟨fun args w => Am Try.func37 rfl (by decide) args w⟩
noncomputable def AV (p0 : List (Int × (Int × (Int × Int × Int × Int) × (Int × Int × Int × Int)) × (List (Int × Int × Int)))) (p1c0 : Int) (p1c1 : Int × Int × Int × Int) : Int → Option (Int ⊕ (Unit ⊕ Int))
  | x1 => (if x1 < (p0.length : Int) then (ix p0 x1).bind fun x2 => (DL x2 p1c0 p1c1).bind fun x3 => (if x3 = true then some (.inr (.inr x1)) else some (.inl (CA (x1 + 1)))) else some (.inr (.inl ())))
noncomputable def Ba (p0 : List (Int × (Int × (Int × Int × Int × Int) × (Int × Int × Int × Int)) × (List (Int × Int × Int)))) (p1c0 : Int) (p1c1 : Int × Int × Int × Int) : Option Int := Fp (Bk (AV p0 p1c0 p1c1) 0) fun _ => some (-1)
theorem Du (Y : Nat → Prop) (w0 : World) (v1 : Value) (q_p1c0 : Nat) (q_p1c1 : Nat) (p0 : List (Int × (Int × (Int × Int × Int × Int) × (Int × Int × Int × Int)) × (List (Int × Int × Int)))) (p1c0 : Int) (p1c1 : Int × Int × Int × Int) (r : Int) (H : Ba p0 p1c0 p1c1 = some r) (h_v1 : Sl w0 (NX []) Bc v1 p0) (a_q_p1c0 : At ⟨Y, [], w0⟩ q_p1c0 0 [.int .i64 p1c0]) (a_q_p1c1 : At ⟨Y, [], w0⟩ q_p1c1 0 [.int .i64 p1c1.1, .int .i64 p1c1.2.1, .int .i64 p1c1.2.2.1, .int .i64 p1c1.2.2.2]) :
    Calls Try.prog 36 #[v1, .func (.func 37) #[] #[.pointer (some ⟨q_p1c0, 0, none⟩), .pointer (some ⟨q_p1c1, 0, none⟩)]] w0 fun e w' => e = .returned (.int .i64 r) ∧ Below w0.heap.size w0 w' := by
 refine enter Try.func36 Aa Try.ntmps36 Aa fun a F => ?_
 have W := Stw.start Y w0
 obtain ⟨v2, h1, h_v1⟩ := h_v1.ex Bl
 unfold Ba at H
 refine Ak (Ae ?_)
 refine ls F W Aa (Ag F Aa).q fun a w F W => ?_
 refine Af (Ad ?_)
 obtain ⟨o1, G1, K1, L1⟩ := HZ H
 refine AH (fun a w => some (Sum.inl ()) = some o1 ∧ Fr 19 [] [(4, .int .i64 0)] a ∧ Stw ⟨Y, [], w0⟩ [] [] w) ?_ ?_
 ·
  have H := G1
  clear G1 K1
  refine Ak (Ae ?_)
  refine ls F W Aa (Ah F Aa).q fun a w F W => ?_
  refine ls F W Aa (B1 (r := Bc) (l := p0) DZ Aa F Aa (Be Bl h1 (Au h_v1))).q fun a w F W => ?_
  refine ls F W Aa (Ah F Aa).q fun a w F W => ?_
  refine Af (Ad (AC ?_))
  refine Bz H (fun s a w => Fr 19 [] [(0, v1), (1, .func (.func 37) #[] #[.pointer (some ⟨q_p1c0, 0, none⟩), .pointer (some ⟨q_p1c1, 0, none⟩)]), (4, .int .i64 0), (7, .int .i64 (p0.length : Int)), (8, .int .i64 s)] a ∧ Stw ⟨Y, [], w0⟩ [] [] w) ⟨F.re ⟨rfl, Aa, Aa, Aa, Aa, trivial⟩, W⟩ fun s o a w H L2 hR => ?_
  obtain ⟨x1, rfl⟩ : ∃ x, x = s := ⟨s, rfl⟩
  obtain ⟨F, W⟩ := hR
  have F : Fr 19 [] [(0, v1), (1, .func (.func 37) #[] #[.pointer (some ⟨q_p1c0, 0, none⟩), .pointer (some ⟨q_p1c1, 0, none⟩)]), (4, .int .i64 0), (7, .int .i64 (p0.length : Int)), (8, .int .i64 x1)] a := F
  have W : Stw ⟨Y, [], w0⟩ [] [] w := W
  rw [AV] at H
  refine Ak (Ae ?_)
  refine ls F W Aa (BN F Aa Aa).q fun a w F W => ?_
  refine Af (Ad (Ak ?_))
  refine AA F Aa (fun hb => ?_) fun hb => ?_
  ·
   have H := AK (Bi hb) H
   rw [hb] at F
   clear hb
   refine Ay (Ad (Ak (AC (Ak (Ae ?_)))))
   refine ls F W Aa (Ah F Aa).q fun a w F W => ?_
   refine ls F W Aa (Ag F Aa).q fun a w F W => ?_
   refine Af (Ad (Ak (Ae ?_)))
   iterate 3 refine ls F W Aa (Ah F Aa).q fun a w F W => ?_
   obtain ⟨x2, h2, H⟩ := Ap H
   obtain ⟨v3, h3, h4⟩ := CE h1 h2
   have h5 : B9 v3 = [.int .i64 x2.1, .int .i64 x2.2.1.1, .int .i64 x2.2.1.2.1.1, .int .i64 x2.2.1.2.1.2.1, .int .i64 x2.2.1.2.1.2.2.1, .int .i64 x2.2.1.2.1.2.2.2, .int .i64 x2.2.1.2.2.1, .int .i64 x2.2.1.2.2.2.1, .int .i64 x2.2.1.2.2.2.2.1, .int .i64 x2.2.1.2.2.2.2.2, (v3.2.2.1)] := congrArg (fun q : Int × (Int × (Int × Int × Int × Int) × (Int × Int × Int × Int)) × (List (Int × Int × Int)) => ([.int .i64 q.1, .int .i64 q.2.1.1, .int .i64 q.2.1.2.1.1, .int .i64 q.2.1.2.1.2.1, .int .i64 q.2.1.2.1.2.2.1, .int .i64 q.2.1.2.1.2.2.2, .int .i64 q.2.1.2.2.1, .int .i64 q.2.1.2.2.2.1, .int .i64 q.2.1.2.2.2.2.1, .int .i64 q.2.1.2.2.2.2.2, (v3.2.2.1)] : List Value)) h4
   refine ls F W Aa (Bd (r := CM) Fh F Aa Aa (Au h_v1) h3).q fun a w F W => ?_
   refine ls F W Aa (A1 (y := Value.agg #[.int .i64 x2.1, .int .i64 x2.2.1.1, .int .i64 x2.2.1.2.1.1, .int .i64 x2.2.1.2.1.2.1, .int .i64 x2.2.1.2.1.2.2.1, .int .i64 x2.2.1.2.1.2.2.2, .int .i64 x2.2.1.2.2.1, .int .i64 x2.2.1.2.2.2.1, .int .i64 x2.2.1.2.2.2.2.1, .int .i64 x2.2.1.2.2.2.2.2, (v3.2.2.1)]) (j := 0) (i := x1) (enc := B9) F Aa Aa (Au h_v1) h3 D8 C6 (by rw [h5]; rfl)).q fun a w F W => ?_
   obtain ⟨x3, h6, H⟩ := Ap H
   refine ls F W Aa (EY (ws := [.agg #[.int .i64 x2.1, .int .i64 x2.2.1.1, .int .i64 x2.2.1.2.1.1, .int .i64 x2.2.1.2.1.2.1, .int .i64 x2.2.1.2.1.2.2.1, .int .i64 x2.2.1.2.1.2.2.2, .int .i64 x2.2.1.2.2.1, .int .i64 x2.2.1.2.2.2.1, .int .i64 x2.2.1.2.2.2.2.1, .int .i64 x2.2.1.2.2.2.2.2, (v3.2.2.1)], .pointer (some ⟨q_p1c0, 0, none⟩), .pointer (some ⟨q_p1c1, 0, none⟩)]) (v := Value.bool x3) F Px Aa (fun w W => IB any w ((v3.2.2.1)) q_p1c0 q_p1c1 x2 p1c0 p1c1 _ h6 (((DU (Au h_v1) h3 (BC.snd (BC.snd BC.here)) (congrArg (fun q : Int × (Int × (Int × Int × Int × Int) × (Int × Int × Int × Int)) × (List (Int × Int × Int)) => q.2.2) h4)) : CV _ _ _ _ _ _) w W).nx (At.re a_q_p1c0 W) (At.re a_q_p1c1 W))) fun a w F W => ?_
   refine Af (Ad ?_)
   refine AA F Aa (fun hb => ?_) fun hb => ?_
   ·
    have H := AK hb H
    rw [hb] at F
    clear hb
    refine Ak (Ae ?_)
    refine ls F W Aa (Ah F Aa).q fun a w F W => ?_
    refine ls F W Aa (Ag F Aa).q fun a w F W => ?_
    refine Af (Ad (Ax (AO ?_)))
    iterate 2 refine AD ?_
    refine AO (AD ?_)
    have H := L2 _ H
    have H := L1 _ H
    have H := AL H
    subst H
    refine AF (.inl Aa) F W Aa (Av F Aa) ?_
    exact ⟨rfl, W.done⟩
   have H := AJ (by rw [hb]; decide) H
   rw [hb] at F
   clear hb
   refine Ay (A5 (Ad (Ae ?_)))
   refine ls F W Aa (B7 F Aa Aa Aa).q fun a w F W => ?_
   refine ls F W Aa (Ah F Aa).q fun a w F W => ?_
   refine Af (Ad ?_)
   exact ⟨_, H, F.re ⟨rfl, Aa, Aa, Aa, Aa, trivial⟩, W⟩
  have H := AJ (Bh hb) H
  rw [hb] at F
  clear hb
  refine Bw ?_
  iterate 2 refine B3 ?_
  refine Bx (Ad ?_)
  have H := L2 _ H
  exact ⟨H, F.re ⟨rfl, trivial⟩, W⟩
 rintro a w ⟨hj, F, W⟩
 have H := K1 _ hj
 clear hj G1 K1 L1
 refine Ak (Ae ?_)
 refine ls F W Aa (Ag F Aa).q fun a w F W => ?_
 refine Af (Ad (Ax ?_))
 have H := AL H
 subst H
 refine AF (.inl Aa) F W Aa (Av F Aa) ?_
 exact ⟨rfl, W.done⟩
noncomputable def Dt (p0 : List (Int × (Int × (Int × Int × Int × Int) × (Int × Int × Int × Int)) × (List (Int × Int × Int)))) (p1 : Int) (p2 : Int × Int × Int × Int) : Option Int := (Ba p0 p1 p2).bind fun x1 => some x1
theorem Hh (Y : Nat → Prop) (w0 : World) (v1 : Value) (p0 : List (Int × (Int × (Int × Int × Int × Int) × (Int × Int × Int × Int)) × (List (Int × Int × Int)))) (p1 : Int) (p2 : Int × Int × Int × Int) (r : Int) (H : Dt p0 p1 p2 = some r) (h_v1 : Sl w0 (NX []) Bc v1 p0) :
    Calls Try.prog 14 #[v1, .int .i64 p1, .agg #[.int .i64 p2.1, .int .i64 p2.2.1, .int .i64 p2.2.2.1, .int .i64 p2.2.2.2]] w0 fun e w' => e = .returned (.int .i64 r) ∧ Below w0.heap.size w0 w' := by
 refine enter Try.func14 Aa Try.ntmps14 Aa fun a F => ?_
 have W := Stw.start Y w0
 obtain ⟨v2, h1, h_v1⟩ := h_v1.ex Bl
 unfold Dt at H
 refine Ak (Ae ?_)
 refine BS (cs := [.int .i64 p1]) F W Aa Aa Aa fun b1 a w F W => ?_
 refine BS (cs := [.int .i64 p2.1, .int .i64 p2.2.1, .int .i64 p2.2.2.1, .int .i64 p2.2.2.2]) F W Aa Aa Aa fun b2 a w F W => ?_
 refine ls F W Aa (Ag F Aa).q fun a w F W => ?_
 refine Af (Ad (Ak (Ae ?_)))
 refine ls F W Aa (Ah F Aa).q fun a w F W => ?_
 refine ls F W Aa (Ff (us := []) (vs := [.pointer (some ⟨b1, 0, none⟩), .pointer (some ⟨b2, 0, none⟩)]) F Aa Aa).q fun a w F W => ?_
 obtain ⟨x1, h2, H⟩ := Ap H
 refine ls F W Aa (AY (v := Value.int .i64 x1) F NR Aa (fun w W => Du any w (v1) b1 b2 p0 p1 p2 _ h2 (((Be Bl h1 (Au h_v1)) : CV _ _ _ _ _ _) w W).nx (Ki W 1 Aa) (Ki W 0 Aa))) fun a w F W => ?_
 refine ls F W Aa (Ag F Aa).q fun a w F W => ?_
 refine Af (Ad (Ax ?_))
 have H := AL H
 subst H
 refine AF (.inl Aa) F W Aa (Av F Aa) ?_
 exact ⟨rfl, W.done⟩
theorem O2 : Has Try.prog 14 := ⟨fun args w => Am Try.func14 rfl (by decide) args w⟩
theorem Oo : (Try.prog.info? 24).bind (·.zero) = some (.agg #[.int .i64 0, .int .i64 0, .int .i64 0, .int .i64 0]) := by kernel_rfl
def CI (p0 : Int) : Bool := (decide (0 ≤ p0) && decide (p0 < 4))
theorem H0 (Y : Nat → Prop) (w0 : World)  (p0 : Int) (r : Bool) (H : CI p0 = r)  :
    Calls Try.prog 76 #[.int .i64 p0] w0 fun e w' => e = .returned (.bool r) ∧ Below w0.heap.size w0 w' := by
 refine enter Try.func76 Aa Try.ntmps76 Aa fun a F => ?_
 have W := Stw.start Y w0
 unfold CI at H
 refine Ak (Ae ?_)
 refine ls F W Aa (Ag F Aa).q fun a w F W => ?_
 refine Af (Ad ?_)
 refine AH (fun a w => Fr 9 [] [(2, .bool (decide (0 ≤ p0) && decide (p0 < 4)))] a ∧ Stw ⟨Y, [], w0⟩ [] [] w) ?_ ?_
 ·
  refine Ae ?_
  refine ls F W Aa (Ah F Aa).q fun a w F W => ?_
  refine ls F W Aa (D7 F Aa Aa).q fun a w F W => ?_
  refine ls F W Aa (Ah F Aa).q fun a w F W => ?_
  rcases Bool.eq_false_or_eq_true (decide (0 ≤ p0)) with hb0 | hb0
  ·
   rw [hb0] at F
   refine AG F W (Ai F Aa Aa Aa Aa) Aa (Ao Aa) (Ah F Aa).q fun a w F W => ?_
   refine AG F W (Ai F Aa Aa Aa Aa) Aa (Ao Aa) (BN F Aa Aa).q fun a w F W => ?_
   refine ls F W Aa (Aw F Aa Aa Aa).q fun a w F W => ?_
   refine ls F W Aa (Ag F Aa).q fun a w F W => ?_
   refine Af (Ad ?_)
   exact ⟨F.re ⟨(by show some (Value.bool (decide (p0 < 4))) = some (Value.bool (decide (0 ≤ p0) && decide (p0 < 4))); try rw [hb0]; all_goals simp only [Bool.not_true, Bool.not_false, Bool.true_and, Bool.false_and, Bool.true_or, Bool.false_or, Bool.and_true, Bool.or_false, cond_true, cond_false]), trivial⟩, W⟩
  rw [hb0] at F
  iterate 2 refine Cs F Aa Aa Aa Aa Aa Aa Aa fun a F => ?_
  refine ls F W Aa (Aq F Aa Aa Aa).q fun a w F W => ?_
  refine ls F W Aa (Ag F Aa).q fun a w F W => ?_
  refine Af (Ad ?_)
  exact ⟨F.re ⟨(by show some (Value.bool false) = some (Value.bool (decide (0 ≤ p0) && decide (p0 < 4))); try rw [hb0]; all_goals simp only [Bool.not_true, Bool.not_false, Bool.true_and, Bool.false_and, Bool.true_or, Bool.false_or, Bool.and_true, Bool.or_false, cond_true, cond_false]), trivial⟩, W⟩
 rintro a w ⟨F, W⟩
 refine Ax ?_
 subst H
 refine AF (.inl Aa) F W Aa (Av F Aa) ?_
 exact ⟨rfl, W.done⟩
theorem PU : Has Try.prog 76 := ⟨fun args w => Am Try.func76 rfl (by decide) args w⟩
noncomputable def Dp (p0 : Int) (p1 : Int) : Option Bool := (if 0 ≤ p1 then (CD p0).bind fun x2 => some (decide (p1 ≤ x2)) else some false).bind fun x1 => some x1
theorem IH (Y : Nat → Prop) (w0 : World)  (p0 : Int) (p1 : Int) (r : Bool) (H : Dp p0 p1 = some r)  :
    Calls Try.prog 77 #[.int .i64 p0, .int .i64 p1] w0 fun e w' => e = .returned (.bool r) ∧ Below w0.heap.size w0 w' := by
 refine enter Try.func77 Aa Try.ntmps77 Aa fun a F => ?_
 have W := Stw.start Y w0
 unfold Dp at H
 refine Ak (Ae ?_)
 refine ls F W Aa (Ag F Aa).q fun a w F W => ?_
 refine Af (Ad ?_)
 obtain ⟨o1, G1, K1⟩ := Ap H
 refine AH (fun a w => ∃ x1 : Bool, some (x1) = some o1 ∧ Fr 13 [] [(4, .bool x1)] a ∧ Stw ⟨Y, [], w0⟩ [] [] w) ?_ ?_
 ·
  have H := G1
  clear G1 K1
  refine Ae ?_
  refine ls F W Aa (Ah F Aa).q fun a w F W => ?_
  refine ls F W Aa (D7 F Aa Aa).q fun a w F W => ?_
  refine ls F W Aa (Ah F Aa).q fun a w F W => ?_
  rcases Bool.eq_false_or_eq_true (decide (0 ≤ p1)) with hb | hb
  ·
   have H := AK (Bi hb) H
   rw [hb] at F
   clear hb
   iterate 2 refine AG F W (Ai F Aa Aa Aa Aa) Aa (Ao Aa) (Ah F Aa).q fun a w F W => ?_
   refine FD (Ai F Aa Aa Aa Aa) ?_
   obtain ⟨x2, h1, H⟩ := Ap H
   refine ls F W Aa (AY (v := Value.int .i64 x2) F Og Aa (fun w W => Ed any w p0 _ h1)) fun a w F W => ?_
   refine AG F W (Ai F Aa Aa Aa Aa) Aa (Ao Aa) (He F Aa Aa).q fun a w F W => ?_
   refine ls F W Aa (Aw F Aa Aa Aa).q fun a w F W => ?_
   refine ls F W Aa (Ag F Aa).q fun a w F W => ?_
   refine Af (Ad ?_)
   exact ⟨_, H, F.re ⟨rfl, trivial⟩, W⟩
  have H := AJ (Bh hb) H
  rw [hb] at F
  clear hb
  iterate 4 refine Cs F Aa Aa Aa Aa Aa Aa Aa fun a F => ?_
  refine ls F W Aa (Aq F Aa Aa Aa).q fun a w F W => ?_
  refine ls F W Aa (Ag F Aa).q fun a w F W => ?_
  refine Af (Ad ?_)
  exact ⟨_, H, F.re ⟨rfl, trivial⟩, W⟩
 rintro a w ⟨x1, hj, F, W⟩
 have hj := AL hj
 subst hj
 have H := K1
 clear G1 K1
 refine Ax ?_
 have H := AL H
 subst H
 refine AF (.inl Aa) F W Aa (Av F Aa) ?_
 exact ⟨rfl, W.done⟩
theorem P2 : Has Try.prog 77 := ⟨fun args w => Am Try.func77 rfl (by decide) args w⟩
noncomputable def DB (p0 : Int × Int × Int × Int) (p1 : Int) (p2 : Int) : Option (Int × Int × Int × Int) := ((if (CI p1) = true then (Dp p1 p2).bind fun x6 => some x6 else some false).bind fun x5 => (if x5 = true then (ix ([p0.1, p0.2.1, p0.2.2.1, p0.2.2.2] : List Int) p1).bind fun x7 => some ((if p1 = 0 then p2 else p0.1), (if p1 = 1 then p2 else p0.2.1), (if p1 = 2 then p2 else p0.2.2.1), (if p1 = 3 then p2 else p0.2.2.2)) else some (p0.1, p0.2.1, p0.2.2.1, p0.2.2.2))).bind fun (x1, x2, x3, x4) => some (x1, x2, x3, x4)
theorem IP (Y : Nat → Prop) (w0 : World)  (p0 : Int × Int × Int × Int) (p1 : Int) (p2 : Int) (r : (Int × Int × Int × Int)) (H : DB p0 p1 p2 = some r)  :
    Calls Try.prog 58 #[.agg #[.int .i64 p0.1, .int .i64 p0.2.1, .int .i64 p0.2.2.1, .int .i64 p0.2.2.2], .int .i64 p1, .int .i64 p2] w0 fun e w' => e = .returned (.agg #[.int .i64 r.1, .int .i64 r.2.1, .int .i64 r.2.2.1, .int .i64 r.2.2.2]) ∧ Below w0.heap.size w0 w' := by
 refine enter Try.func58 Aa Try.ntmps58 Aa fun a F => ?_
 have W := Stw.start Y w0
 unfold DB at H
 refine Ak (Ae ?_)
 refine BS (cs := [.int .i64 p0.1, .int .i64 p0.2.1, .int .i64 p0.2.2.1, .int .i64 p0.2.2.2]) F W Aa Aa Aa fun b1 a w F W => ?_
 refine Cp (cs := [.int .i64 0, .int .i64 0, .int .i64 0, .int .i64 0]) F W Aa Oo Aa fun b2 a w F W => ?_
 refine Af (Ad ?_)
 obtain ⟨o1, G1, K1⟩ := Ap H
 refine AH (fun a w => ∃ x1 : Int, ∃ x2 : Int, ∃ x3 : Int, ∃ x4 : Int, some ((x1, x2, x3, x4)) = some o1 ∧ Fr 18 [] [(3, .pointer (some ⟨b1, 0, none⟩)), (6, .pointer (some ⟨b2, 0, none⟩))] a ∧ Stw ⟨Y, [], w0⟩ [(b2, [.int .i64 0, .int .i64 0, .int .i64 0, .int .i64 0]), (b1, [.int .i64 x1, .int .i64 x2, .int .i64 x3, .int .i64 x4])] [] w) ?_ ?_
 ·
  have H := G1
  clear G1 K1
  obtain ⟨o2, G2, K2⟩ := Ap H
  refine AH (fun a w => ∃ x5 : Bool, some (x5) = some o2 ∧ Fr 18 [] [(1, .int .i64 p1), (2, .int .i64 p2), (3, .pointer (some ⟨b1, 0, none⟩)), (6, .pointer (some ⟨b2, 0, none⟩)), (13, .bool x5)] a ∧ Stw ⟨Y, [], w0⟩ [(b2, [.int .i64 0, .int .i64 0, .int .i64 0, .int .i64 0]), (b1, [.int .i64 p0.1, .int .i64 p0.2.1, .int .i64 p0.2.2.1, .int .i64 p0.2.2.2])] [] w) ?_ ?_
  ·
   have H := G2
   clear G2 K2
   refine Ae ?_
   refine ls F W Aa (Ah F Aa).q fun a w F W => ?_
   refine ls F W Aa (AY (v := Value.bool (CI p1)) F PU Aa (fun w W => H0 any w p1 _ Aa)) fun a w F W => ?_
   refine ls F W Aa (Ah F Aa).q fun a w F W => ?_
   rcases Bool.eq_false_or_eq_true (CI p1) with hb | hb
   ·
    have H := AK hb H
    rw [hb] at F
    clear hb
    iterate 2 refine AG F W (Ai F Aa Aa Aa Aa) Aa (Ao Aa) (Ah F Aa).q fun a w F W => ?_
    refine FD (Ai F Aa Aa Aa Aa) ?_
    obtain ⟨x6, h1, H⟩ := Ap H
    refine ls F W Aa (AY (v := Value.bool x6) F P2 Aa (fun w W => IH any w p1 p2 _ h1)) fun a w F W => ?_
    refine ls F W Aa (Aw F Aa Aa Aa).q fun a w F W => ?_
    refine Af (Ad ?_)
    have W := W.frontM (i := 1) Aa Aa
    have W := W.frontM (i := 1) Aa Aa
    exact ⟨_, H, F.re ⟨rfl, Aa, Aa, Aa, Aa, trivial⟩, W⟩
   have H := AJ (by rw [hb]; decide) H
   rw [hb] at F
   clear hb
   iterate 3 refine Cs F Aa Aa Aa Aa Aa Aa Aa fun a F => ?_
   refine ls F W Aa (Aq F Aa Aa Aa).q fun a w F W => ?_
   refine Af (Ad ?_)
   have W := W.frontM (i := 1) Aa Aa
   have W := W.frontM (i := 1) Aa Aa
   exact ⟨_, H, F.re ⟨rfl, Aa, Aa, Aa, Aa, trivial⟩, W⟩
  rintro a w ⟨x5, hj, F, W⟩
  have hj := AL hj
  subst hj
  have H := K2
  clear G2 K2
  refine AA F Aa (fun hb => ?_) fun hb => ?_
  ·
   have H := AK hb H
   rw [hb] at F
   clear hb
   refine Ae ?_
   iterate 2 refine ls F W Aa (Ah F Aa).q fun a w F W => ?_
   obtain ⟨x7, h2, H⟩ := Ap H
   refine ls F W Aa (Bo (0 + (p1).toNat * 1) Jg F Aa Aa Aa h2 Aa).q fun a w F W => ?_
   refine DY (o := 0) (m := 4) (i := p1) (l := ([p0.1, p0.2.1, p0.2.2.1, p0.2.2.2] : List Int)) (x := x7) (cs := [.int .i64 p0.1, .int .i64 p0.2.1, .int .i64 p0.2.2.1, .int .i64 p0.2.2.2]) (cs' := [.int .i64 (if p1 = 0 then p2 else p0.1), .int .i64 (if p1 = 1 then p2 else p0.2.1), .int .i64 (if p1 = 2 then p2 else p0.2.2.1), .int .i64 (if p1 = 3 then p2 else p0.2.2.2)]) 1 F W Aa Aa Aa T3 Aa Aa Aa Aa h2 (by intro k hk hn; rw [hk]; match k, hn with | 0, _ => rfl | 1, _ => rfl | 2, _ => rfl | 3, _ => rfl | (z + 4), h => exact absurd h (by omega)) fun w W => ?_
   have W : Stw ⟨Y, [], w0⟩ [(b2, [.int .i64 0, .int .i64 0, .int .i64 0, .int .i64 0]), (b1, [.int .i64 (if p1 = 0 then p2 else p0.1), .int .i64 (if p1 = 1 then p2 else p0.2.1), .int .i64 (if p1 = 2 then p2 else p0.2.2.1), .int .i64 (if p1 = 3 then p2 else p0.2.2.2)])] [] w := W
   refine Af (Ad ?_)
   have W := W.frontM (i := 1) Aa Aa
   have W := W.frontM (i := 1) Aa Aa
   exact ⟨_, _, _, _, H, F.re ⟨rfl, Aa, trivial⟩, W⟩
  have H := AJ (by rw [hb]; decide) H
  rw [hb] at F
  clear hb
  refine Ay (Ad ?_)
  have W := W.frontM (i := 1) Aa Aa
  have W := W.frontM (i := 1) Aa Aa
  exact ⟨_, _, _, _, H, F.re ⟨rfl, Aa, trivial⟩, W⟩
 rintro a w ⟨x1, x2, x3, x4, hj, F, W⟩
 have hj := AL hj
 subst hj
 have H := K1
 clear G1 K1
 refine Ak (Ae ?_)
 refine ls F W Aa (As (v := Value.agg #[.int .i64 x1, .int .i64 x2, .int .i64 x3, .int .i64 x4]) 1 F Aa Aa GD Aa).q fun a w F W => ?_
 refine BB (vs := [.int .i64 x1, .int .i64 x2, .int .i64 x3, .int .i64 x4]) (M' := [(b2, [.int .i64 x1, .int .i64 x2, .int .i64 x3, .int .i64 x4]), (b1, [.int .i64 x1, .int .i64 x2, .int .i64 x3, .int .i64 x4])]) 0 F W Aa Aa Aa GD Aa Aa Aa Aa Aa fun w W => ?_
 refine Af (Ad (Ax ?_))
 have H := AL H
 subst H
 refine AF (.inl Aa) F W Aa (Ey 0 F Aa Aa GD Aa) ?_
 exact ⟨rfl, W.done⟩
theorem L9 : type_of% Try.underlying32 := Try.underlying32
theorem Nu : type_of% Try.underlying64 := Try.underlying64
theorem PY : Has Try.prog 58 := ⟨fun args w => Am Try.func58 rfl (by decide) args w⟩
theorem OZ : Bt Try.prog 64 [.int .i64 0, .int .i64 0, .int .i64 0, .int .i64 0, .int .i64 0] [(0, 1), (1, 4)] := ⟨⟨.agg #[.int .i64 0, .int .i64 0, .int .i64 0, .int .i64 0, .int .i64 0], by kernel_rfl, rfl⟩, ⟨_, Nu, fun w => by kernel_rfl⟩⟩
theorem O0 : (Try.prog.info? 64).bind (·.zero) = some (.agg #[.int .i64 0, .int .i64 0, .int .i64 0, .int .i64 0, .int .i64 0]) := by kernel_rfl
abbrev Ow : Rp (Int × Int × Int × Int) := (Rp.pair (Rp.int .i64) (Rp.pair (Rp.int .i64) (Rp.pair (Rp.int .i64) (Rp.int .i64))))
abbrev DN : Rp (Int × (Int × Int × Int × Int)) := (Rp.pair (Rp.int .i64) Ow)
def Pg (a : Int × Int × Int × Int) : List Value := [.int .i64 a.1, .int .i64 a.2.1, .int .i64 a.2.2.1, .int .i64 a.2.2.2]
theorem OU : Fl Ow Pg := (Fl.pair Fl.int (Fl.pair Fl.int (Fl.pair Fl.int Fl.int)))
def PP (a : Int × (Int × Int × Int × Int)) : List Value := [.int .i64 a.1, .int .i64 a.2.1, .int .i64 a.2.2.1, .int .i64 a.2.2.2.1, .int .i64 a.2.2.2.2]
theorem N7 : Fl DN PP := (Fl.pair Fl.int OU)
theorem Nj : Et Try.prog 32 64 5 40 := Et.of L9 (by kernel_rfl) (by kernel_rfl) (by kernel_rfl) (by decide)
noncomputable def DV (p0 : List (Int × Int × Int)) (p1 : Int × Int × Int × Int) : ((List (Int × (Int × Int × Int × Int))) × Int × Int × Int × Int × Int) → Option (((List (Int × (Int × Int × Int × Int))) × Int × Int × Int × Int × Int) ⊕ ((List (Int × (Int × Int × Int × Int))) × Int × Int × Int × Int))
  | (x6, x7, x8, x9, x10, x11) => (if x7 < (p0.length : Int) then ((ix p0 x7).bind fun x17 => (if x17.1 = 1 then (DB (x8, x9, x10, x11) x17.2.1 x17.2.2).bind fun x18 => some (x6, x18.1, x18.2.1, x18.2.2.1, x18.2.2.2) else (if x17.1 = 2 then (J0 x6 ([(x17.2.2, (x8, x9, x10, x11))] : List (Int × (Int × Int × Int × Int)))).bind fun x19 => some (x19, x8, x9, x10, x11) else (if x17.1 = 3 then some (x6, p1.1, p1.2.1, p1.2.2.1, p1.2.2.2) else some (x6, x8, x9, x10, x11))))).bind fun (x12, x13, x14, x15, x16) => some (.inl (x12, CA (x7 + 1), x13, x14, x15, x16)) else some (.inr (x6, x8, x9, x10, x11)))
noncomputable def F1 (p0 : List (Int × Int × Int)) (p1 : Int × Int × Int × Int) : Option (List (Int × (Int × Int × Int × Int))) := (Bk (DV p0 p1) ([], 0, p1.1, p1.2.1, p1.2.2.1, p1.2.2.2)).bind fun (x1, x2, x3, x4, x5) => some x1
theorem Lk (Y : Nat → Prop) (w0 : World) (v1 : Value) (p0 : List (Int × Int × Int)) (p1 : Int × Int × Int × Int) (r : (List (Int × (Int × Int × Int × Int)))) (H : F1 p0 p1 = some r) (h_v1 : Sl w0 (NX []) Bu v1 p0) :
    Calls Try.prog 39 #[v1, .agg #[.int .i64 p1.1, .int .i64 p1.2.1, .int .i64 p1.2.2.1, .int .i64 p1.2.2.2]] w0 fun e w' => ∃ x : Value, e = .returned (x) ∧ Stw ⟨Y, [], w0⟩ [] [row (x) 64 DN r] w' := by
 refine enter Try.func39 Aa Try.ntmps39 Aa fun a F => ?_
 have W := Stw.start Y w0
 unfold F1 at H
 refine Ak (Ae ?_)
 refine BS (cs := [.int .i64 p1.1, .int .i64 p1.2.1, .int .i64 p1.2.2.1, .int .i64 p1.2.2.2]) F W Aa Aa Aa fun b1 a w F W => ?_
 refine ls F W Aa (Ag F Aa).q fun a w F W => ?_
 refine Af (Ad (Ak (Ae ?_)))
 refine ls F W Aa (Ag F Aa).q fun a w F W => ?_
 refine Af (Ad (Ak (Ae ?_)))
 refine ls F W Aa (As (v := Value.agg #[.int .i64 p1.1, .int .i64 p1.2.1, .int .i64 p1.2.2.1, .int .i64 p1.2.2.2]) 0 F Aa Aa GD Aa).q fun a w F W => ?_
 refine Cp (cs := [.int .i64 0, .int .i64 0, .int .i64 0, .int .i64 0]) F W Aa Oo Aa fun b2 a w F W => ?_
 refine BB (vs := [.int .i64 p1.1, .int .i64 p1.2.1, .int .i64 p1.2.2.1, .int .i64 p1.2.2.2]) (M' := [(b2, [.int .i64 p1.1, .int .i64 p1.2.1, .int .i64 p1.2.2.1, .int .i64 p1.2.2.2]), (b1, [.int .i64 p1.1, .int .i64 p1.2.1, .int .i64 p1.2.2.1, .int .i64 p1.2.2.2])]) 0 F W Aa Aa Aa GD Aa Aa Aa Aa Aa fun w W => ?_
 refine Af (Ad ?_)
 obtain ⟨o1, G1, K1⟩ := Ap H
 refine AH (fun a w => ∃ x1 : List (Int × (Int × Int × Int × Int)), ∃ x2 : Int, ∃ x3 : Int, ∃ x4 : Int, ∃ x5 : Int, ∃ v2 : Value, some ((x1, x2, x3, x4, x5)) = some o1 ∧ Fr 40 [] [(4, .slice none 0 0), (5, v2)] a ∧ Stw ⟨Y, [], w0⟩ [(b2, [.int .i64 x2, .int .i64 x3, .int .i64 x4, .int .i64 x5]), (b1, [.int .i64 p1.1, .int .i64 p1.2.1, .int .i64 p1.2.2.1, .int .i64 p1.2.2.2])] [row v2 64 DN x1] w) ?_ ?_
 ·
  have H := G1
  clear G1 K1
  refine Ak (Ae ?_)
  refine ls F W Aa (Ah F Aa).q fun a w F W => ?_
  refine ls F W Aa (B1 (r := Bu) (l := p0) Hs Aa F Aa (Au h_v1)).q fun a w F W => ?_
  refine ls F W Aa (Ah F Aa).q fun a w F W => ?_
  refine Af (Ad (AC ?_))
  have W := W.nilRow 64 DN
  have W := W.frontM (i := 1) Aa Aa
  have W := W.frontM (i := 1) Aa Aa
  refine Bz H (fun s a w => ∃ v3 : Value, Fr 40 [] [(3, .pointer (some ⟨b1, 0, none⟩)), (4, .slice none 0 0), (5, v3), (6, .pointer (some ⟨b2, 0, none⟩)), (10, v1), (11, .int .i64 (p0.length : Int)), (12, .int .i64 s.2.1)] a ∧ Stw ⟨Y, [], w0⟩ [(b2, [.int .i64 s.2.2.1, .int .i64 s.2.2.2.1, .int .i64 s.2.2.2.2.1, .int .i64 s.2.2.2.2.2]), (b1, [.int .i64 p1.1, .int .i64 p1.2.1, .int .i64 p1.2.2.1, .int .i64 p1.2.2.2])] [row v3 64 DN s.1] w) ⟨(Value.slice none 0 0), F.re ⟨rfl, Aa, Aa, Aa, Aa, Aa, Aa, trivial⟩, W⟩ fun s o a w H L2 hR => ?_
  obtain ⟨x6, x7, x8, x9, x10, x11⟩ := s
  obtain ⟨v3, F, W⟩ := hR
  have F : Fr 40 [] [(3, .pointer (some ⟨b1, 0, none⟩)), (4, .slice none 0 0), (5, v3), (6, .pointer (some ⟨b2, 0, none⟩)), (10, v1), (11, .int .i64 (p0.length : Int)), (12, .int .i64 x7)] a := F
  have W : Stw ⟨Y, [], w0⟩ [(b2, [.int .i64 x8, .int .i64 x9, .int .i64 x10, .int .i64 x11]), (b1, [.int .i64 p1.1, .int .i64 p1.2.1, .int .i64 p1.2.2.1, .int .i64 p1.2.2.2])] [row v3 64 DN x6] w := W
  rw [DV] at H
  refine Ak (Ae ?_)
  refine ls F W Aa (BN F Aa Aa).q fun a w F W => ?_
  refine Af (Ad (Ak ?_))
  refine AA F Aa (fun hb => ?_) fun hb => ?_
  ·
   have H := AK (Bi hb) H
   rw [hb] at F
   clear hb
   refine Ay (Ad ?_)
   obtain ⟨o3, G3, K3⟩ := Ap H
   refine AH (fun a w => ∃ x12 : List (Int × (Int × Int × Int × Int)), ∃ x13 : Int, ∃ x14 : Int, ∃ x15 : Int, ∃ x16 : Int, ∃ v4 : Value, some ((x12, x13, x14, x15, x16)) = some o3 ∧ Fr 40 [] [(3, .pointer (some ⟨b1, 0, none⟩)), (4, .slice none 0 0), (5, v4), (6, .pointer (some ⟨b2, 0, none⟩)), (10, v1), (11, .int .i64 (p0.length : Int)), (12, .int .i64 x7)] a ∧ Stw ⟨Y, [], w0⟩ [(b2, [.int .i64 x13, .int .i64 x14, .int .i64 x15, .int .i64 x16]), (b1, [.int .i64 p1.1, .int .i64 p1.2.1, .int .i64 p1.2.2.1, .int .i64 p1.2.2.2])] [row v4 64 DN x12] w) ?_ ?_
   ·
    have H := G3
    clear G3 K3
    refine AC (Ak (Ae ?_))
    obtain ⟨x17, h1, H⟩ := Ap H
    refine ls F W Aa (Bd (r := Bu) Ke F Aa Aa (Au h_v1) h1).q fun a w F W => ?_
    refine ls F W Aa (A1 (y := Value.agg #[.int .i64 x17.1, .int .i64 x17.2.1, .int .i64 x17.2.2]) (j := 0) (i := x7) F Aa Aa (Au h_v1) h1 KV.to Nd Aa).q fun a w F W => ?_
    refine Cp (cs := [.int .i64 0, .int .i64 0, .int .i64 0]) F W Aa Oh Aa fun b3 a w F W => ?_
    refine BB (vs := [.int .i64 x17.1, .int .i64 x17.2.1, .int .i64 x17.2.2]) (M' := [(b3, [.int .i64 x17.1, .int .i64 x17.2.1, .int .i64 x17.2.2]), (b2, [.int .i64 x8, .int .i64 x9, .int .i64 x10, .int .i64 x11]), (b1, [.int .i64 p1.1, .int .i64 p1.2.1, .int .i64 p1.2.2.1, .int .i64 p1.2.2.2])]) 0 F W Aa Aa Aa Nd Aa Aa Aa Aa Aa fun w W => ?_
    refine Af (Ad (Ak (Ae ?_)))
    refine ls F W Aa (Al Dk Aa Aa Aa T3 F Aa 0 Aa).q fun a w F W => ?_
    refine ls F W Aa (As (v := Value.int .i64 x17.1) 0 F Aa Aa T3 Aa).q fun a w F W => ?_
    refine Af (Ad (AC (Ak (Ae ?_))))
    refine ls F W Aa (BJ F Aa Aa).q fun a w F W => ?_
    refine ls F W Aa (Ag F Aa).q fun a w F W => ?_
    refine Af (Ad ?_)
    refine AA F Aa (fun hb => ?_) fun hb => ?_
    ·
     have H := AK (Bi hb) H
     rw [hb] at F
     clear hb
     refine Ae ?_
     refine ls F W Aa (As (v := Value.agg #[.int .i64 x8, .int .i64 x9, .int .i64 x10, .int .i64 x11]) 1 F Aa Aa GD Aa).q fun a w F W => ?_
     refine ls F W Aa (Al Dk Aa Aa Aa T3 F Aa 1 Aa).q fun a w F W => ?_
     refine ls F W Aa (As (v := Value.int .i64 x17.2.1) 0 F Aa Aa T3 Aa).q fun a w F W => ?_
     refine ls F W Aa (Al Dk Aa Aa Aa T3 F Aa 2 Aa).q fun a w F W => ?_
     refine ls F W Aa (As (v := Value.int .i64 x17.2.2) 0 F Aa Aa T3 Aa).q fun a w F W => ?_
     obtain ⟨x18, h2, H⟩ := Ap H
     refine ls F W Aa (AY (v := Value.agg #[.int .i64 x18.1, .int .i64 x18.2.1, .int .i64 x18.2.2.1, .int .i64 x18.2.2.2]) F PY Aa (fun w W => IP any w (x8, x9, x10, x11) x17.2.1 x17.2.2 _ h2)) fun a w F W => ?_
     refine BB (vs := [.int .i64 x18.1, .int .i64 x18.2.1, .int .i64 x18.2.2.1, .int .i64 x18.2.2.2]) (M' := [(b3, [.int .i64 x17.1, .int .i64 x17.2.1, .int .i64 x17.2.2]), (b2, [.int .i64 x18.1, .int .i64 x18.2.1, .int .i64 x18.2.2.1, .int .i64 x18.2.2.2]), (b1, [.int .i64 p1.1, .int .i64 p1.2.1, .int .i64 p1.2.2.1, .int .i64 p1.2.2.2])]) 1 F W Aa Aa Aa GD Aa Aa Aa Aa Aa fun w W => ?_
     refine Af ?_
     iterate 2 refine A5 ?_
     refine Ad ?_
     have W := W.frontM (i := 2) Aa Aa
     have W := W.frontM (i := 2) Aa Aa
     have W := W.sub (M' := [(b2, [.int .i64 x18.1, .int .i64 x18.2.1, .int .i64 x18.2.2.1, .int .i64 x18.2.2.2]), (b1, [.int .i64 p1.1, .int .i64 p1.2.1, .int .i64 p1.2.2.1, .int .i64 p1.2.2.2])]) (Z' := [row v3 64 DN x6]) (List.Sublist.cons_cons _ (List.Sublist.cons_cons _ (List.nil_sublist _))) (List.Sublist.refl _)
     exact ⟨_, _, _, _, _, (v3), H, F.re ⟨rfl, Aa, Aa, Aa, Aa, Aa, Aa, trivial⟩, W⟩
    have H := AJ (Bh hb) H
    rw [hb] at F
    clear hb
    refine Ak (Ae ?_)
    refine ls F W Aa (BJ F Aa Aa).q fun a w F W => ?_
    refine ls F W Aa (Ag F Aa).q fun a w F W => ?_
    refine Af (Ad ?_)
    refine AA F Aa (fun hb => ?_) fun hb => ?_
    ·
     have H := AK (Bi hb) H
     rw [hb] at F
     clear hb
     refine Ae ?_
     refine ls F W Aa (Ah F Aa).q fun a w F W => ?_
     refine ls F W Aa (Al Dk Aa Aa Aa T3 F Aa 2 Aa).q fun a w F W => ?_
     refine ls F W Aa (As (v := Value.int .i64 x17.2.2) 0 F Aa Aa T3 Aa).q fun a w F W => ?_
     refine ls F W Aa (As (v := Value.agg #[.int .i64 x8, .int .i64 x9, .int .i64 x10, .int .i64 x11]) 1 F Aa Aa GD Aa).q fun a w F W => ?_
     refine ls F W Aa (DI (v := Value.agg #[.int .i64 x17.2.2, .int .i64 x8, .int .i64 x9, .int .i64 x10, .int .i64 x11]) OZ F Aa Aa Aa).q fun a w F W => ?_
     refine IA (z := Value.agg #[.int .i64 0, .int .i64 0, .int .i64 0, .int .i64 0, .int .i64 0]) (cs := [.int .i64 x17.2.2, .int .i64 x8, .int .i64 x9, .int .i64 x10, .int .i64 x11]) DN ([(x17.2.2, (x8, x9, x10, x11))] : List (Int × (Int × Int × Int × Int))) F W Aa Nj O0 Aa Aa Aa Aa Aa Aa (N7.repL _ _ ([(x17.2.2, (x8, x9, x10, x11))] : List (Int × (Int × Int × Int × Int)))) fun v5 a w F W => ?_
     obtain ⟨x19, h3, H⟩ := Ap H
     refine Io (r := DN) (i := 1) F W Aa Nj Aa Aa Aa Aa (Kv W 0 Aa) h3 Aa fun v6 a w F W => ?_
     have W : Stw ⟨Y, [], w0⟩ [(b3, [.int .i64 x17.1, .int .i64 x17.2.1, .int .i64 x17.2.2]), (b2, [.int .i64 x8, .int .i64 x9, .int .i64 x10, .int .i64 x11]), (b1, [.int .i64 p1.1, .int .i64 p1.2.1, .int .i64 p1.2.2.1, .int .i64 p1.2.2.2])] [row v6 64 DN x19, row v5 64 DN ([(x17.2.2, (x8, x9, x10, x11))] : List (Int × (Int × Int × Int × Int)))] w := W
     refine ls F W Aa (Ag F Aa).q fun a w F W => ?_
     refine Af ?_
     iterate 2 refine A5 ?_
     refine Ad ?_
     have W := W.frontM (i := 2) Aa Aa
     have W := W.frontM (i := 2) Aa Aa
     have W := W.sub (M' := [(b2, [.int .i64 x8, .int .i64 x9, .int .i64 x10, .int .i64 x11]), (b1, [.int .i64 p1.1, .int .i64 p1.2.1, .int .i64 p1.2.2.1, .int .i64 p1.2.2.2])]) (Z' := [row v6 64 DN x19]) (List.Sublist.cons_cons _ (List.Sublist.cons_cons _ (List.nil_sublist _))) (List.Sublist.cons_cons _ (List.nil_sublist _))
     exact ⟨_, _, _, _, _, (v6), H, F.re ⟨rfl, Aa, Aa, Aa, Aa, Aa, Aa, trivial⟩, W⟩
    have H := AJ (Bh hb) H
    rw [hb] at F
    clear hb
    refine Ak (Ae ?_)
    refine ls F W Aa (BJ F Aa Aa).q fun a w F W => ?_
    refine ls F W Aa (Ag F Aa).q fun a w F W => ?_
    refine Af (Ad ?_)
    refine AA F Aa (fun hb => ?_) fun hb => ?_
    ·
     have H := AK (Bi hb) H
     rw [hb] at F
     clear hb
     refine Ae ?_
     refine ls F W Aa (As (v := Value.agg #[.int .i64 p1.1, .int .i64 p1.2.1, .int .i64 p1.2.2.1, .int .i64 p1.2.2.2]) 2 F Aa Aa GD Aa).q fun a w F W => ?_
     refine BB (vs := [.int .i64 p1.1, .int .i64 p1.2.1, .int .i64 p1.2.2.1, .int .i64 p1.2.2.2]) (M' := [(b3, [.int .i64 x17.1, .int .i64 x17.2.1, .int .i64 x17.2.2]), (b2, [.int .i64 p1.1, .int .i64 p1.2.1, .int .i64 p1.2.2.1, .int .i64 p1.2.2.2]), (b1, [.int .i64 p1.1, .int .i64 p1.2.1, .int .i64 p1.2.2.1, .int .i64 p1.2.2.2])]) 1 F W Aa Aa Aa GD Aa Aa Aa Aa Aa fun w W => ?_
     refine Af ?_
     iterate 2 refine A5 ?_
     refine Ad ?_
     have W := W.frontM (i := 2) Aa Aa
     have W := W.frontM (i := 2) Aa Aa
     have W := W.sub (M' := [(b2, [.int .i64 p1.1, .int .i64 p1.2.1, .int .i64 p1.2.2.1, .int .i64 p1.2.2.2]), (b1, [.int .i64 p1.1, .int .i64 p1.2.1, .int .i64 p1.2.2.1, .int .i64 p1.2.2.2])]) (Z' := [row v3 64 DN x6]) (List.Sublist.cons_cons _ (List.Sublist.cons_cons _ (List.nil_sublist _))) (List.Sublist.refl _)
     exact ⟨_, _, _, _, _, (v3), H, F.re ⟨rfl, Aa, Aa, Aa, Aa, Aa, Aa, trivial⟩, W⟩
    have H := AJ (Bh hb) H
    rw [hb] at F
    clear hb
    refine Ay ?_
    iterate 2 refine A5 ?_
    refine Ad ?_
    have W := W.frontM (i := 2) Aa Aa
    have W := W.frontM (i := 2) Aa Aa
    have W := W.sub (M' := [(b2, [.int .i64 x8, .int .i64 x9, .int .i64 x10, .int .i64 x11]), (b1, [.int .i64 p1.1, .int .i64 p1.2.1, .int .i64 p1.2.2.1, .int .i64 p1.2.2.2])]) (Z' := [row v3 64 DN x6]) (List.Sublist.cons_cons _ (List.Sublist.cons_cons _ (List.nil_sublist _))) (List.Sublist.refl _)
    exact ⟨_, _, _, _, _, (v3), H, F.re ⟨rfl, Aa, Aa, Aa, Aa, Aa, Aa, trivial⟩, W⟩
   rintro a w ⟨x12, x13, x14, x15, x16, v4, hj, F, W⟩
   have hj := AL hj
   subst hj
   have H := K3
   clear G3 K3
   refine Ae ?_
   refine ls F W Aa (B7 F Aa Aa Aa).q fun a w F W => ?_
   refine ls F W Aa (Ah F Aa).q fun a w F W => ?_
   refine Af (Ad ?_)
   have W := W.frontM (i := 1) Aa Aa
   have W := W.frontM (i := 1) Aa Aa
   exact ⟨_, H, (v4), F.re ⟨rfl, Aa, Aa, Aa, Aa, Aa, Aa, trivial⟩, W⟩
  have H := AJ (Bh hb) H
  rw [hb] at F
  clear hb
  refine Bw ?_
  iterate 2 refine B3 ?_
  refine Bx (Ad ?_)
  have W := W.frontM (i := 1) Aa Aa
  have W := W.frontM (i := 1) Aa Aa
  have H := L2 _ H
  exact ⟨_, _, _, _, _, (v3), H, F.re ⟨rfl, Aa, trivial⟩, W⟩
 rintro a w ⟨x1, x2, x3, x4, x5, v2, hj, F, W⟩
 have hj := AL hj
 subst hj
 have H := K1
 clear G1 K1
 refine Ak (Ae ?_)
 refine ls F W Aa (Ah F Aa).q fun a w F W => ?_
 refine ls F W Aa (Ag F Aa).q fun a w F W => ?_
 refine Af (Ad (Ax ?_))
 have H := AL H
 subst H
 refine AF (.inl Aa) F W Aa (Av F Aa) ?_
 have W := W.sub (M' := []) (Z' := [row v2 64 DN x1]) (List.nil_sublist _) (List.Sublist.refl _)
 exact ⟨(v2), Aa, W⟩
theorem P6 : Has Try.prog 39 := ⟨fun args w => Am Try.func39 rfl (by decide) args w⟩
noncomputable def CS (p0 : List (Int × (Int × (Int × Int × Int × Int) × (Int × Int × Int × Int)) × (List (Int × Int × Int)))) (p1 : Int) (p2 : Int × Int × Int × Int) : Option (List (Int × (Int × Int × Int × Int))) := (Dt p0 p1 p2).bind fun x1 => (if x1 < 0 then some ([] : List (Int × (Int × Int × Int × Int))) else (ix p0 x1).bind fun x2 => (F1 x2.2.2 p2).bind fun x3 => some x3)
theorem Gw (Y : Nat → Prop) (w0 : World) (v1 : Value) (p0 : List (Int × (Int × (Int × Int × Int × Int) × (Int × Int × Int × Int)) × (List (Int × Int × Int)))) (p1 : Int) (p2 : Int × Int × Int × Int) (r : (List (Int × (Int × Int × Int × Int)))) (H : CS p0 p1 p2 = some r) (h_v1 : Sl w0 (NX []) Bc v1 p0) :
    Calls Try.prog 17 #[v1, .int .i64 p1, .agg #[.int .i64 p2.1, .int .i64 p2.2.1, .int .i64 p2.2.2.1, .int .i64 p2.2.2.2]] w0 fun e w' => ∃ x : Value, e = .returned (x) ∧ Stw ⟨Y, [], w0⟩ [] [row (x) 64 DN r] w' := by
 refine enter Try.func17 Aa Try.ntmps17 Aa fun a F => ?_
 have W := Stw.start Y w0
 obtain ⟨v2, h1, h_v1⟩ := h_v1.ex Bl
 unfold CS at H
 refine Ak (Ae ?_)
 refine BS (cs := [.int .i64 p2.1, .int .i64 p2.2.1, .int .i64 p2.2.2.1, .int .i64 p2.2.2.2]) F W Aa Aa Aa fun b1 a w F W => ?_
 refine ls F W Aa (Ag F Aa).q fun a w F W => ?_
 refine Af (Ad (Ak (Ae ?_)))
 iterate 2 refine ls F W Aa (Ah F Aa).q fun a w F W => ?_
 refine ls F W Aa (As (v := Value.agg #[.int .i64 p2.1, .int .i64 p2.2.1, .int .i64 p2.2.2.1, .int .i64 p2.2.2.2]) 0 F Aa Aa GD Aa).q fun a w F W => ?_
 obtain ⟨x1, h2, H⟩ := Ap H
 refine ls F W Aa (AY (v := Value.int .i64 x1) F O2 Aa (fun w W => Hh any w (v1) p0 p1 p2 _ h2 (((Be Bl h1 (Au h_v1)) : CV _ _ _ _ _ _) w W).nx)) fun a w F W => ?_
 refine ls F W Aa (Ag F Aa).q fun a w F W => ?_
 refine Af (Ad (Ak (Ak (Ae ?_))))
 refine ls F W Aa (Ah F Aa).q fun a w F W => ?_
 refine ls F W Aa (BN F Aa Aa).q fun a w F W => ?_
 refine Af (Ad ?_)
 refine AA F Aa (fun hb => ?_) fun hb => ?_
 ·
  have H := AK (Bi hb) H
  rw [hb] at F
  clear hb
  refine Ak (Ae ?_)
  refine ls F W Aa (Ag F Aa).q fun a w F W => ?_
  refine Af (Ad (Ax (AD ?_)))
  have H := AL H
  subst H
  refine AF (.inl Aa) F W Aa (Av F Aa) ?_
  have W := W.nilRow 64 DN
  have W := W.sub (M' := []) (Z' := [row (Value.slice none 0 0) 64 DN ([])]) (List.nil_sublist _) (List.Sublist.refl _)
  exact ⟨(Value.slice none 0 0), Aa, W⟩
 have H := AJ (Bh hb) H
 rw [hb] at F
 clear hb
 refine Ay (Ad (Ak ?_))
 refine FN 6 W MO (by kernel_rfl) ?_
 iterate 2 refine qs F Aa (Ah F Aa).q fun a F => ?_
 obtain ⟨x2, h3, H⟩ := Ap H
 obtain ⟨v3, h4, h5⟩ := CE h1 h3
 have h6 : B9 v3 = [.int .i64 x2.1, .int .i64 x2.2.1.1, .int .i64 x2.2.1.2.1.1, .int .i64 x2.2.1.2.1.2.1, .int .i64 x2.2.1.2.1.2.2.1, .int .i64 x2.2.1.2.1.2.2.2, .int .i64 x2.2.1.2.2.1, .int .i64 x2.2.1.2.2.2.1, .int .i64 x2.2.1.2.2.2.2.1, .int .i64 x2.2.1.2.2.2.2.2, (v3.2.2.1)] := congrArg (fun q : Int × (Int × (Int × Int × Int × Int) × (Int × Int × Int × Int)) × (List (Int × Int × Int)) => ([.int .i64 q.1, .int .i64 q.2.1.1, .int .i64 q.2.1.2.1.1, .int .i64 q.2.1.2.1.2.1, .int .i64 q.2.1.2.1.2.2.1, .int .i64 q.2.1.2.1.2.2.2, .int .i64 q.2.1.2.2.1, .int .i64 q.2.1.2.2.2.1, .int .i64 q.2.1.2.2.2.2.1, .int .i64 q.2.1.2.2.2.2.2, (v3.2.2.1)] : List Value)) h5
 refine qs F Aa (Bd (r := CM) Fh F Aa Aa (Au h_v1) h4).q fun a F => ?_
 refine qs F Aa (Al Ct Aa Aa Aa Hr F Aa (DS v1 + (x1).toNat * 11 + 10) Aa).q fun a F => ?_
 refine qs F Aa (A1 (y := (v3.2.2.1)) (j := 10) (i := x1) (enc := B9) F Aa Aa (Au h_v1) h4 D8 Hr (by rw [h6]; rfl)).q fun a F => ?_
 refine qs F Aa (As (v := Value.agg #[.int .i64 p2.1, .int .i64 p2.2.1, .int .i64 p2.2.2.1, .int .i64 p2.2.2.2]) 0 F Aa Aa GD Aa).q fun a F => ?_
 refine A9 fun w W => ?_
 obtain ⟨x3, h7, H⟩ := Ap H
 refine Bp (Ml := []) (Zl := []) (M := [(b1, [.int .i64 p2.1, .int .i64 p2.2.1, .int .i64 p2.2.2.1, .int .i64 p2.2.2.2])]) (Z := []) (β := Value) (rv := fun x => x) (MM := fun x => []) (ZZ := fun x => [row x 64 DN x3]) F W P6 Aa Aa (fun hL => Lk _ w ((v3.2.2.1)) x2.2.2 p2 _ h7 ((DU (Au h_v1) h4 (BC.snd (BC.snd BC.here)) (congrArg (fun q : Int × (Int × (Int × Int × Int × Int) × (Int × Int × Int × Int)) × (List (Int × Int × Int)) => q.2.2) h5)) w W).nx) fun x a w F W => ?_
 obtain ⟨v4, rfl⟩ : ∃ y, y = x := ⟨x, rfl⟩
 have W : Stw ⟨Y, [], w0⟩ [(b1, [.int .i64 p2.1, .int .i64 p2.2.1, .int .i64 p2.2.2.1, .int .i64 p2.2.2.2])] [row v4 64 DN x3] w := W
 refine ls F W Aa (Ag F Aa).q fun a w F W => ?_
 refine Af (Ad (Ax ?_))
 have H := AL H
 subst H
 refine AF (.inl Aa) F W Aa (Av F Aa) ?_
 have W := W.sub (M' := []) (Z' := [row v4 64 DN x3]) (List.nil_sublist _) (List.Sublist.refl _)
 exact ⟨(v4), Aa, W⟩
theorem OP : Has Try.prog 17 := ⟨fun args w => Am Try.func17 rfl (by decide) args w⟩
noncomputable def Dc  : Option Bool := (Fe 1 3 20 2).bind fun x1 => (E6 ([] : List (Int × (Int × (Int × Int × Int × Int) × (Int × Int × Int × Int)) × (List (Int × Int × Int)))) ([(1, (10, Ac, ([(2, 0, 1)] : List (Int × Int × Int))), false), (1, x1, false)] : List (Int × (Int × (Int × (Int × Int × Int × Int) × (Int × Int × Int × Int)) × (List (Int × Int × Int))) × Bool)) 4 9).bind fun x2 => (CS x2.1 0 (1, 3, 0, 0)).bind fun x3 => (if (x2.1.length : Int) = 2 then (if x2.2.1 = (-1) then (if x2.2.2 = 0 then (ix x2.1 0).bind fun x5 => (if x5.1 = 20 then (if (x3.length : Int) = 1 then (ix x3 0).bind fun x6 => (if x6.1 = 2 then (Dt x2.1 0 (0, 0, 0, 0)).bind fun x7 => some (decide (x7 = 1)) else some false) else some false) else some false) else some false) else some false) else some false).bind fun x4 => some x4
theorem EA (Y : Nat → Prop) (w0 : World)   (r : Bool) (H : Dc  = some r)  :
    Calls Try.prog 9 #[] w0 fun e w' => e = .returned (.bool r) ∧ Below w0.heap.size w0 w' := by
 refine enter Try.func9 Aa Try.ntmps9 Aa fun a F => ?_
 have W := Stw.start Y w0
 unfold Dc at H
 refine Ak (Ae ?_)
 refine ls F W Aa (Ag F Aa).q fun a w F W => ?_
 refine Af (Ad (Ak (Ae ?_)))
 refine ls F W Aa (AY (v := Value.agg #[.int .i64 Ac.1, .int .i64 Ac.2.1.1, .int .i64 Ac.2.1.2.1, .int .i64 Ac.2.1.2.2.1, .int .i64 Ac.2.1.2.2.2, .int .i64 Ac.2.2.1, .int .i64 Ac.2.2.2.1, .int .i64 Ac.2.2.2.2.1, .int .i64 Ac.2.2.2.2.2]) F Pd Aa (fun w W => HM any w _ Aa)) fun a w F W => ?_
 refine ls F W Aa (DI (v := Value.agg #[.int .i64 2, .int .i64 0, .int .i64 1]) Pj F Aa Aa Aa).q fun a w F W => ?_
 refine IA (z := Value.agg #[.int .i64 0, .int .i64 0, .int .i64 0]) (cs := [.int .i64 2, .int .i64 0, .int .i64 1]) Bu ([(2, 0, 1)] : List (Int × Int × Int)) F W Aa Ke Oh Aa Aa Aa Aa Aa Aa (KV.repL _ _ ([(2, 0, 1)] : List (Int × Int × Int))) fun v1 a w F W => ?_
 refine ls F W Aa (DI (v := Value.agg #[.int .i64 10, .int .i64 Ac.1, .int .i64 Ac.2.1.1, .int .i64 Ac.2.1.2.1, .int .i64 Ac.2.1.2.2.1, .int .i64 Ac.2.1.2.2.2, .int .i64 Ac.2.2.1, .int .i64 Ac.2.2.2.1, .int .i64 Ac.2.2.2.2.1, .int .i64 Ac.2.2.2.2.2, v1]) O1 F Aa (B5 Aa Aa Aa (B5 Aa Aa Aa (B5 Aa (FF (W.one (k := 0) Aa)) Aa EH))) Aa).q fun a w F W => ?_
 refine Cp (cs := [.int .i64 0, .int .i64 0, .int .i64 0, .int .i64 0, .int .i64 0, .int .i64 0, .int .i64 0, .int .i64 0, .int .i64 0, .int .i64 0, .slice none 0 0]) F W Aa K0 Aa fun b1 a w F W => ?_
 refine BB (vs := [.int .i64 10, .int .i64 Ac.1, .int .i64 Ac.2.1.1, .int .i64 Ac.2.1.2.1, .int .i64 Ac.2.1.2.2.1, .int .i64 Ac.2.1.2.2.2, .int .i64 Ac.2.2.1, .int .i64 Ac.2.2.2.1, .int .i64 Ac.2.2.2.2.1, .int .i64 Ac.2.2.2.2.2, v1]) (M' := [(b1, [.int .i64 10, .int .i64 Ac.1, .int .i64 Ac.2.1.1, .int .i64 Ac.2.1.2.1, .int .i64 Ac.2.1.2.2.1, .int .i64 Ac.2.1.2.2.2, .int .i64 Ac.2.2.1, .int .i64 Ac.2.2.2.1, .int .i64 Ac.2.2.2.2.1, .int .i64 Ac.2.2.2.2.2, v1])]) 0 F W Aa Aa Aa C6 Aa Aa Aa (An Aa (An Aa (An Aa (An Aa (An Aa (An Aa (An Aa (An Aa (An Aa (An Aa (An (W.one (k := 0) Aa) Di))))))))))) Aa fun w W => ?_
 refine Af (Ad (Ak ?_))
 refine E8 [(true, 0), (true, 1), (false, 2), (true, 3), (false, 4), (false, 5), (true, 6), (true, 7), (true, 8), (true, 9), (false, 10), (false, 11), (false, 12)] (CN ⟨Y, [], w0⟩ [(some 4, b1, [.int .i64 10, .int .i64 Ac.1, .int .i64 Ac.2.1.1, .int .i64 Ac.2.1.2.1, .int .i64 Ac.2.1.2.2.1, .int .i64 Ac.2.1.2.2.2, .int .i64 Ac.2.2.1, .int .i64 Ac.2.2.2.1, .int .i64 Ac.2.2.2.2.1, .int .i64 Ac.2.2.2.2.2, v1])] []) (fun ch a d v w h => by cases d <;> exact h) MO (by kernel_rfl) W (fun w W => ⟨_, _, W, (all_cons (fun _ => (.head _)) AB), AB⟩) fun w W => ?_
 refine CK (R := [4, 1]) F Aa Aa (yC fun M Z hN hZ => C8 (cs := [.int .i64 10, .int .i64 Ac.1, .int .i64 Ac.2.1.1, .int .i64 Ac.2.1.2.1, .int .i64 Ac.2.1.2.2.1, .int .i64 Ac.2.1.2.2.2, .int .i64 Ac.2.2.1, .int .i64 Ac.2.2.2.1, .int .i64 Ac.2.2.2.2.1, .int .i64 Ac.2.2.2.2.2, v1]) (v := Value.agg #[.int .i64 10, .int .i64 Ac.1, .int .i64 Ac.2.1.1, .int .i64 Ac.2.1.2.1, .int .i64 Ac.2.1.2.2.1, .int .i64 Ac.2.1.2.2.2, .int .i64 Ac.2.2.1, .int .i64 Ac.2.2.2.1, .int .i64 Ac.2.2.2.2.1, .int .i64 Ac.2.2.2.2.2, v1]) F Aa (hN ((some 4), b1, [.int .i64 10, .int .i64 Ac.1, .int .i64 Ac.2.1.1, .int .i64 Ac.2.1.2.1, .int .i64 Ac.2.1.2.2.1, .int .i64 Ac.2.1.2.2.2, .int .i64 Ac.2.2.1, .int .i64 Ac.2.2.2.1, .int .i64 Ac.2.2.2.2.1, .int .i64 Ac.2.2.2.2.2, v1]) (.head _) Aa) C6 Aa) (by kernel_rfl) Aa fun a F => ?_
 refine CK (R := []) F Aa Aa (yC fun M Z hN hZ => DI (v := Value.agg #[.int .i64 1, .int .i64 10, .int .i64 Ac.1, .int .i64 Ac.2.1.1, .int .i64 Ac.2.1.2.1, .int .i64 Ac.2.1.2.2.1, .int .i64 Ac.2.1.2.2.2, .int .i64 Ac.2.2.1, .int .i64 Ac.2.2.2.1, .int .i64 Ac.2.2.2.2.1, .int .i64 Ac.2.2.2.2.2, v1, .bool false]) Ot F Aa (B5 Aa Aa Aa (B5 Aa Aa Aa EH)) Aa) Aa Aa fun a F => ?_
 refine DE Aa ?_
 obtain ⟨x1, h1, H⟩ := Ap H
 refine Bp (Ml := []) (Zl := []) (M := [(b1, [.int .i64 10, .int .i64 Ac.1, .int .i64 Ac.2.1.1, .int .i64 Ac.2.1.2.1, .int .i64 Ac.2.1.2.2.1, .int .i64 Ac.2.1.2.2.2, .int .i64 Ac.2.2.1, .int .i64 Ac.2.2.2.1, .int .i64 Ac.2.2.2.2.1, .int .i64 Ac.2.2.2.2.2, v1])]) (Z := [row v1 61 Bu ([(2, 0, 1)] : List (Int × Int × Int))]) (β := Value) (rv := fun x => .agg #[.int .i64 x1.1, .int .i64 x1.2.1.1, .int .i64 x1.2.1.2.1.1, .int .i64 x1.2.1.2.1.2.1, .int .i64 x1.2.1.2.1.2.2.1, .int .i64 x1.2.1.2.1.2.2.2, .int .i64 x1.2.1.2.2.1, .int .i64 x1.2.1.2.2.2.1, .int .i64 x1.2.1.2.2.2.2.1, .int .i64 x1.2.1.2.2.2.2.2, x]) (MM := fun x => []) (ZZ := fun x => [row x 61 Bu x1.2.2]) F W PZ Aa Aa (fun hL => Jl _ w 1 3 20 2 _ h1) fun x a w F W => ?_
 obtain ⟨v2, rfl⟩ : ∃ y, y = x := ⟨x, rfl⟩
 have W : Stw ⟨Y, [], w0⟩ [(b1, [.int .i64 10, .int .i64 Ac.1, .int .i64 Ac.2.1.1, .int .i64 Ac.2.1.2.1, .int .i64 Ac.2.1.2.2.1, .int .i64 Ac.2.1.2.2.2, .int .i64 Ac.2.2.1, .int .i64 Ac.2.2.2.1, .int .i64 Ac.2.2.2.2.1, .int .i64 Ac.2.2.2.2.2, v1])] [row v2 61 Bu x1.2.2, row v1 61 Bu ([(2, 0, 1)] : List (Int × Int × Int))] w := W
 refine Bq (N2 := []) (NZ2 := []) (N3 := [(some 4, b1, [.int .i64 10, .int .i64 Ac.1, .int .i64 Ac.2.1.1, .int .i64 Ac.2.1.2.1, .int .i64 Ac.2.1.2.2.1, .int .i64 Ac.2.1.2.2.2, .int .i64 Ac.2.2.1, .int .i64 Ac.2.2.2.1, .int .i64 Ac.2.2.2.2.1, .int .i64 Ac.2.2.2.2.2, v1])]) (NZ3 := []) W Aa Aa (all_cons (fun _ => (.head _)) AB) AB ?_
 refine CK (R := []) F Aa Aa (yC fun M Z hN hZ => DI (v := Value.agg #[.int .i64 1, .int .i64 x1.1, .int .i64 x1.2.1.1, .int .i64 x1.2.1.2.1.1, .int .i64 x1.2.1.2.1.2.1, .int .i64 x1.2.1.2.1.2.2.1, .int .i64 x1.2.1.2.1.2.2.2, .int .i64 x1.2.1.2.2.1, .int .i64 x1.2.1.2.2.2.1, .int .i64 x1.2.1.2.2.2.2.1, .int .i64 x1.2.1.2.2.2.2.2, v2, .bool false]) Ot F Aa (B5 Aa Aa Aa (B5 Aa Aa Aa EH)) Aa) Aa Aa fun a F => ?_
 refine DE Aa ?_
 have W := W.frontZ (i := 1) Aa Aa
 have W := W.freeze
 have W := W.frontZ (i := 1) Aa Aa
 have W := W.freeze
 refine IA (z := Value.agg #[.int .i64 0, .int .i64 0, .int .i64 0, .int .i64 0, .int .i64 0, .int .i64 0, .int .i64 0, .int .i64 0, .int .i64 0, .int .i64 0, .int .i64 0, .slice none 0 0, .bool false]) (cs := [.int .i64 1, .int .i64 10, .int .i64 Ac.1, .int .i64 Ac.2.1.1, .int .i64 Ac.2.1.2.1, .int .i64 Ac.2.1.2.2.1, .int .i64 Ac.2.1.2.2.2, .int .i64 Ac.2.2.1, .int .i64 Ac.2.2.2.1, .int .i64 Ac.2.2.2.2.1, .int .i64 Ac.2.2.2.2.2, v1, .bool false, .int .i64 1, .int .i64 x1.1, .int .i64 x1.2.1.1, .int .i64 x1.2.1.2.1.1, .int .i64 x1.2.1.2.1.2.1, .int .i64 x1.2.1.2.1.2.2.1, .int .i64 x1.2.1.2.1.2.2.2, .int .i64 x1.2.1.2.2.1, .int .i64 x1.2.1.2.2.2.1, .int .i64 x1.2.1.2.2.2.2.1, .int .i64 x1.2.1.2.2.2.2.2, v2, .bool false]) M8 ([(1, (10, Ac, ([(2, 0, 1)] : List (Int × Int × Int))), false), (1, x1, false)] : List (Int × (Int × (Int × (Int × Int × Int × Int) × (Int × Int × Int × Int)) × (List (Int × Int × Int))) × Bool)) F W Aa Ph OX Aa Aa Aa (B5 Aa Aa Aa (B5 Aa Aa Aa EH)) Aa Aa ⟨[Value.int .i64 1, Value.int .i64 10, Value.int .i64 Ac.1, Value.int .i64 Ac.2.1.1, Value.int .i64 Ac.2.1.2.1, Value.int .i64 Ac.2.1.2.2.1, Value.int .i64 Ac.2.1.2.2.2, Value.int .i64 Ac.2.2.1, Value.int .i64 Ac.2.2.2.1, Value.int .i64 Ac.2.2.2.2.1, Value.int .i64 Ac.2.2.2.2.2, v1, Value.bool false], _, Aa, ⟨[Value.int .i64 1], [Value.int .i64 10, Value.int .i64 Ac.1, Value.int .i64 Ac.2.1.1, Value.int .i64 Ac.2.1.2.1, Value.int .i64 Ac.2.1.2.2.1, Value.int .i64 Ac.2.1.2.2.2, Value.int .i64 Ac.2.2.1, Value.int .i64 Ac.2.2.2.1, Value.int .i64 Ac.2.2.2.2.1, Value.int .i64 Ac.2.2.2.2.2, v1, Value.bool false], Aa, Aa, ⟨[Value.int .i64 10, Value.int .i64 Ac.1, Value.int .i64 Ac.2.1.1, Value.int .i64 Ac.2.1.2.1, Value.int .i64 Ac.2.1.2.2.1, Value.int .i64 Ac.2.1.2.2.2, Value.int .i64 Ac.2.2.1, Value.int .i64 Ac.2.2.2.1, Value.int .i64 Ac.2.2.2.2.1, Value.int .i64 Ac.2.2.2.2.2, v1], [Value.bool false], Aa, ⟨[Value.int .i64 10], [Value.int .i64 Ac.1, Value.int .i64 Ac.2.1.1, Value.int .i64 Ac.2.1.2.1, Value.int .i64 Ac.2.1.2.2.1, Value.int .i64 Ac.2.1.2.2.2, Value.int .i64 Ac.2.2.1, Value.int .i64 Ac.2.2.2.1, Value.int .i64 Ac.2.2.2.2.1, Value.int .i64 Ac.2.2.2.2.2, v1], Aa, Aa, ⟨[Value.int .i64 Ac.1, Value.int .i64 Ac.2.1.1, Value.int .i64 Ac.2.1.2.1, Value.int .i64 Ac.2.1.2.2.1, Value.int .i64 Ac.2.1.2.2.2, Value.int .i64 Ac.2.2.1, Value.int .i64 Ac.2.2.2.1, Value.int .i64 Ac.2.2.2.2.1, Value.int .i64 Ac.2.2.2.2.2], [v1], Aa, ⟨[Value.int .i64 Ac.1], [Value.int .i64 Ac.2.1.1, Value.int .i64 Ac.2.1.2.1, Value.int .i64 Ac.2.1.2.2.1, Value.int .i64 Ac.2.1.2.2.2, Value.int .i64 Ac.2.2.1, Value.int .i64 Ac.2.2.2.1, Value.int .i64 Ac.2.2.2.2.1, Value.int .i64 Ac.2.2.2.2.2], Aa, Aa, ⟨[Value.int .i64 Ac.2.1.1, Value.int .i64 Ac.2.1.2.1, Value.int .i64 Ac.2.1.2.2.1, Value.int .i64 Ac.2.1.2.2.2], [Value.int .i64 Ac.2.2.1, Value.int .i64 Ac.2.2.2.1, Value.int .i64 Ac.2.2.2.2.1, Value.int .i64 Ac.2.2.2.2.2], Aa, ⟨[Value.int .i64 Ac.2.1.1], [Value.int .i64 Ac.2.1.2.1, Value.int .i64 Ac.2.1.2.2.1, Value.int .i64 Ac.2.1.2.2.2], Aa, Aa, ⟨[Value.int .i64 Ac.2.1.2.1], [Value.int .i64 Ac.2.1.2.2.1, Value.int .i64 Ac.2.1.2.2.2], Aa, Aa, ⟨[Value.int .i64 Ac.2.1.2.2.1], [Value.int .i64 Ac.2.1.2.2.2], Aa, Aa, Aa⟩⟩⟩, ⟨[Value.int .i64 Ac.2.2.1], [Value.int .i64 Ac.2.2.2.1, Value.int .i64 Ac.2.2.2.2.1, Value.int .i64 Ac.2.2.2.2.2], Aa, Aa, ⟨[Value.int .i64 Ac.2.2.2.1], [Value.int .i64 Ac.2.2.2.2.1, Value.int .i64 Ac.2.2.2.2.2], Aa, Aa, ⟨[Value.int .i64 Ac.2.2.2.2.1], [Value.int .i64 Ac.2.2.2.2.2], Aa, Aa, Aa⟩⟩⟩⟩⟩, ⟨_, Aa, (W.item (i := 1) Aa)⟩⟩⟩, Aa⟩⟩, ⟨[Value.int .i64 1, Value.int .i64 x1.1, Value.int .i64 x1.2.1.1, Value.int .i64 x1.2.1.2.1.1, Value.int .i64 x1.2.1.2.1.2.1, Value.int .i64 x1.2.1.2.1.2.2.1, Value.int .i64 x1.2.1.2.1.2.2.2, Value.int .i64 x1.2.1.2.2.1, Value.int .i64 x1.2.1.2.2.2.1, Value.int .i64 x1.2.1.2.2.2.2.1, Value.int .i64 x1.2.1.2.2.2.2.2, v2, Value.bool false], _, Aa, ⟨[Value.int .i64 1], [Value.int .i64 x1.1, Value.int .i64 x1.2.1.1, Value.int .i64 x1.2.1.2.1.1, Value.int .i64 x1.2.1.2.1.2.1, Value.int .i64 x1.2.1.2.1.2.2.1, Value.int .i64 x1.2.1.2.1.2.2.2, Value.int .i64 x1.2.1.2.2.1, Value.int .i64 x1.2.1.2.2.2.1, Value.int .i64 x1.2.1.2.2.2.2.1, Value.int .i64 x1.2.1.2.2.2.2.2, v2, Value.bool false], Aa, Aa, ⟨[Value.int .i64 x1.1, Value.int .i64 x1.2.1.1, Value.int .i64 x1.2.1.2.1.1, Value.int .i64 x1.2.1.2.1.2.1, Value.int .i64 x1.2.1.2.1.2.2.1, Value.int .i64 x1.2.1.2.1.2.2.2, Value.int .i64 x1.2.1.2.2.1, Value.int .i64 x1.2.1.2.2.2.1, Value.int .i64 x1.2.1.2.2.2.2.1, Value.int .i64 x1.2.1.2.2.2.2.2, v2], [Value.bool false], Aa, ⟨[Value.int .i64 x1.1], [Value.int .i64 x1.2.1.1, Value.int .i64 x1.2.1.2.1.1, Value.int .i64 x1.2.1.2.1.2.1, Value.int .i64 x1.2.1.2.1.2.2.1, Value.int .i64 x1.2.1.2.1.2.2.2, Value.int .i64 x1.2.1.2.2.1, Value.int .i64 x1.2.1.2.2.2.1, Value.int .i64 x1.2.1.2.2.2.2.1, Value.int .i64 x1.2.1.2.2.2.2.2, v2], Aa, Aa, ⟨[Value.int .i64 x1.2.1.1, Value.int .i64 x1.2.1.2.1.1, Value.int .i64 x1.2.1.2.1.2.1, Value.int .i64 x1.2.1.2.1.2.2.1, Value.int .i64 x1.2.1.2.1.2.2.2, Value.int .i64 x1.2.1.2.2.1, Value.int .i64 x1.2.1.2.2.2.1, Value.int .i64 x1.2.1.2.2.2.2.1, Value.int .i64 x1.2.1.2.2.2.2.2], [v2], Aa, ⟨[Value.int .i64 x1.2.1.1], [Value.int .i64 x1.2.1.2.1.1, Value.int .i64 x1.2.1.2.1.2.1, Value.int .i64 x1.2.1.2.1.2.2.1, Value.int .i64 x1.2.1.2.1.2.2.2, Value.int .i64 x1.2.1.2.2.1, Value.int .i64 x1.2.1.2.2.2.1, Value.int .i64 x1.2.1.2.2.2.2.1, Value.int .i64 x1.2.1.2.2.2.2.2], Aa, Aa, ⟨[Value.int .i64 x1.2.1.2.1.1, Value.int .i64 x1.2.1.2.1.2.1, Value.int .i64 x1.2.1.2.1.2.2.1, Value.int .i64 x1.2.1.2.1.2.2.2], [Value.int .i64 x1.2.1.2.2.1, Value.int .i64 x1.2.1.2.2.2.1, Value.int .i64 x1.2.1.2.2.2.2.1, Value.int .i64 x1.2.1.2.2.2.2.2], Aa, ⟨[Value.int .i64 x1.2.1.2.1.1], [Value.int .i64 x1.2.1.2.1.2.1, Value.int .i64 x1.2.1.2.1.2.2.1, Value.int .i64 x1.2.1.2.1.2.2.2], Aa, Aa, ⟨[Value.int .i64 x1.2.1.2.1.2.1], [Value.int .i64 x1.2.1.2.1.2.2.1, Value.int .i64 x1.2.1.2.1.2.2.2], Aa, Aa, ⟨[Value.int .i64 x1.2.1.2.1.2.2.1], [Value.int .i64 x1.2.1.2.1.2.2.2], Aa, Aa, Aa⟩⟩⟩, ⟨[Value.int .i64 x1.2.1.2.2.1], [Value.int .i64 x1.2.1.2.2.2.1, Value.int .i64 x1.2.1.2.2.2.2.1, Value.int .i64 x1.2.1.2.2.2.2.2], Aa, Aa, ⟨[Value.int .i64 x1.2.1.2.2.2.1], [Value.int .i64 x1.2.1.2.2.2.2.1, Value.int .i64 x1.2.1.2.2.2.2.2], Aa, Aa, ⟨[Value.int .i64 x1.2.1.2.2.2.2.1], [Value.int .i64 x1.2.1.2.2.2.2.2], Aa, Aa, Aa⟩⟩⟩⟩⟩, ⟨_, Aa, (W.item (i := 0) Aa)⟩⟩⟩, Aa⟩⟩, Aa⟩⟩ fun v3 a w F W => ?_
 refine Bq (N2 := []) (NZ2 := []) (N3 := [(some 4, b1, [.int .i64 10, .int .i64 Ac.1, .int .i64 Ac.2.1.1, .int .i64 Ac.2.1.2.1, .int .i64 Ac.2.1.2.2.1, .int .i64 Ac.2.1.2.2.2, .int .i64 Ac.2.2.1, .int .i64 Ac.2.2.2.1, .int .i64 Ac.2.2.2.2.1, .int .i64 Ac.2.2.2.2.2, v1])]) (NZ3 := []) W Aa Aa (all_cons (fun h => AE (by kernel_rfl) h) AB) AB ?_
 refine DE Aa ?_
 obtain ⟨x2, h2, H⟩ := Ap H
 have W := W.freeze
 refine Bp (Ml := []) (Zl := []) (M := [(b1, [.int .i64 10, .int .i64 Ac.1, .int .i64 Ac.2.1.1, .int .i64 Ac.2.1.2.1, .int .i64 Ac.2.1.2.2.1, .int .i64 Ac.2.1.2.2.2, .int .i64 Ac.2.2.1, .int .i64 Ac.2.2.2.1, .int .i64 Ac.2.2.2.2.1, .int .i64 Ac.2.2.2.2.2, v1])]) (Z := [BM v3 M8 ([(1, (10, Ac, ([(2, 0, 1)] : List (Int × Int × Int))), false), (1, x1, false)] : List (Int × (Int × (Int × (Int × Int × Int × Int) × (Int × Int × Int × Int)) × (List (Int × Int × Int))) × Bool)), BM v2 Bu x1.2.2, BM v1 Bu ([(2, 0, 1)] : List (Int × Int × Int))]) (β := Value) (rv := fun x => .tuple #[x, .int .i64 x2.2.1, .int .i64 x2.2.2]) (MM := fun x => []) (ZZ := fun x => [BM x Bc x2.1]) F W PI Aa Aa (fun hL => Jr _ w (Value.slice none 0 0) (v3) ([] : List (Int × (Int × (Int × Int × Int × Int) × (Int × Int × Int × Int)) × (List (Int × Int × Int)))) ([(1, (10, Ac, ([(2, 0, 1)] : List (Int × Int × Int))), false), (1, x1, false)] : List (Int × (Int × (Int × (Int × Int × Int × Int) × (Int × Int × Int × Int)) × (List (Int × Int × Int))) × Bool)) 4 9 _ h2 Sl.nil (W.item (i := 0) Aa)) fun x a w F W => ?_
 obtain ⟨v4, rfl⟩ : ∃ y, y = x := ⟨x, rfl⟩
 have W : Stw ⟨Y, [], w0⟩ [(b1, [.int .i64 10, .int .i64 Ac.1, .int .i64 Ac.2.1.1, .int .i64 Ac.2.1.2.1, .int .i64 Ac.2.1.2.2.1, .int .i64 Ac.2.1.2.2.2, .int .i64 Ac.2.2.1, .int .i64 Ac.2.2.2.1, .int .i64 Ac.2.2.2.2.1, .int .i64 Ac.2.2.2.2.2, v1])] [BM v4 Bc x2.1, BM v3 M8 ([(1, (10, Ac, ([(2, 0, 1)] : List (Int × Int × Int))), false), (1, x1, false)] : List (Int × (Int × (Int × (Int × Int × Int × Int) × (Int × Int × Int × Int)) × (List (Int × Int × Int))) × Bool)), BM v2 Bu x1.2.2, BM v1 Bu ([(2, 0, 1)] : List (Int × Int × Int))] w := W
 refine Bq (N2 := []) (NZ2 := []) (N3 := [(some 4, b1, [.int .i64 10, .int .i64 Ac.1, .int .i64 Ac.2.1.1, .int .i64 Ac.2.1.2.1, .int .i64 Ac.2.1.2.2.1, .int .i64 Ac.2.1.2.2.2, .int .i64 Ac.2.2.1, .int .i64 Ac.2.2.2.1, .int .i64 Ac.2.2.2.2.1, .int .i64 Ac.2.2.2.2.2, v1])]) (NZ3 := []) W Aa Aa (all_cons (fun h => AE (by kernel_rfl) h) AB) AB ?_
 refine CK (R := []) F Aa Aa (yC fun M Z hN hZ => Ah F Aa) Aa Aa fun a F => ?_
 refine CK (R := []) F Aa Aa (yC fun M Z hN hZ => Ck (v := v4) F Aa Aa) Aa Aa fun a F => ?_
 refine CK (R := []) F Aa Aa (yC fun M Z hN hZ => Ck (v := Value.int .i64 x2.2.1) F Aa Aa) Aa Aa fun a F => ?_
 refine CK (R := []) F Aa Aa (yC fun M Z hN hZ => Ck (v := Value.int .i64 x2.2.2) F Aa Aa) Aa Aa fun a F => ?_
 refine DE Aa ?_
 refine ls F W Aa (Ag F Aa).q fun a w F W => ?_
 refine Bq (N2 := []) (NZ2 := []) (N3 := [(some 4, b1, [.int .i64 10, .int .i64 Ac.1, .int .i64 Ac.2.1.1, .int .i64 Ac.2.1.2.1, .int .i64 Ac.2.1.2.2.1, .int .i64 Ac.2.1.2.2.2, .int .i64 Ac.2.2.1, .int .i64 Ac.2.2.2.1, .int .i64 Ac.2.2.2.2.1, .int .i64 Ac.2.2.2.2.2, v1])]) (NZ3 := []) W Aa Aa (all_cons (fun h => AE (by kernel_rfl) h) AB) AB ?_
 refine DE Aa ?_
 refine ls F W Aa (Ag F Aa).q fun a w F W => ?_
 refine Bq (N2 := []) (NZ2 := []) (N3 := [(some 4, b1, [.int .i64 10, .int .i64 Ac.1, .int .i64 Ac.2.1.1, .int .i64 Ac.2.1.2.1, .int .i64 Ac.2.1.2.2.1, .int .i64 Ac.2.1.2.2.2, .int .i64 Ac.2.2.1, .int .i64 Ac.2.2.2.1, .int .i64 Ac.2.2.2.2.1, .int .i64 Ac.2.2.2.2.2, v1])]) (NZ3 := []) W Aa Aa (all_cons (fun h => AE (by kernel_rfl) h) AB) AB ?_
 refine DE Aa ?_
 refine ls F W Aa (Ag F Aa).q fun a w F W => ?_
 refine Bq (N2 := []) (NZ2 := []) (N3 := [(some 4, b1, [.int .i64 10, .int .i64 Ac.1, .int .i64 Ac.2.1.1, .int .i64 Ac.2.1.2.1, .int .i64 Ac.2.1.2.2.1, .int .i64 Ac.2.1.2.2.2, .int .i64 Ac.2.2.1, .int .i64 Ac.2.2.2.1, .int .i64 Ac.2.2.2.2.1, .int .i64 Ac.2.2.2.2.2, v1])]) (NZ3 := []) W Aa Aa (all_cons (fun h => AE (by kernel_rfl) h) AB) AB ?_
 refine F7 (Ad (Ak (Ae ?_)))
 refine ls F W Aa (Ah F Aa).q fun a w F W => ?_
 refine ls F W Aa (JL (v := Value.agg #[.int .i64 1, .int .i64 3, .int .i64 0, .int .i64 0]) Jg NV F Aa Aa Aa).q fun a w F W => ?_
 obtain ⟨x3, h3, H⟩ := Ap H
 refine Bp (Ml := []) (Zl := []) (M := [(b1, [.int .i64 10, .int .i64 Ac.1, .int .i64 Ac.2.1.1, .int .i64 Ac.2.1.2.1, .int .i64 Ac.2.1.2.2.1, .int .i64 Ac.2.1.2.2.2, .int .i64 Ac.2.2.1, .int .i64 Ac.2.2.2.1, .int .i64 Ac.2.2.2.2.1, .int .i64 Ac.2.2.2.2.2, v1])]) (Z := [BM v4 Bc x2.1, BM v3 M8 ([(1, (10, Ac, ([(2, 0, 1)] : List (Int × Int × Int))), false), (1, x1, false)] : List (Int × (Int × (Int × (Int × Int × Int × Int) × (Int × Int × Int × Int)) × (List (Int × Int × Int))) × Bool)), BM v2 Bu x1.2.2, BM v1 Bu ([(2, 0, 1)] : List (Int × Int × Int))]) (β := Value) (rv := fun x => x) (MM := fun x => []) (ZZ := fun x => [row x 64 DN x3]) F W OP Aa Aa (fun hL => Gw _ w (v4) x2.1 0 (1, 3, 0, 0) _ h3 ((CH 0 Aa) w W).nx) fun x a w F W => ?_
 obtain ⟨v5, rfl⟩ : ∃ y, y = x := ⟨x, rfl⟩
 have W : Stw ⟨Y, [], w0⟩ [(b1, [.int .i64 10, .int .i64 Ac.1, .int .i64 Ac.2.1.1, .int .i64 Ac.2.1.2.1, .int .i64 Ac.2.1.2.2.1, .int .i64 Ac.2.1.2.2.2, .int .i64 Ac.2.2.1, .int .i64 Ac.2.2.2.1, .int .i64 Ac.2.2.2.2.1, .int .i64 Ac.2.2.2.2.2, v1])] [row v5 64 DN x3, BM v4 Bc x2.1, BM v3 M8 ([(1, (10, Ac, ([(2, 0, 1)] : List (Int × Int × Int))), false), (1, x1, false)] : List (Int × (Int × (Int × (Int × Int × Int × Int) × (Int × Int × Int × Int)) × (List (Int × Int × Int))) × Bool)), BM v2 Bu x1.2.2, BM v1 Bu ([(2, 0, 1)] : List (Int × Int × Int))] w := W
 refine ls F W Aa (Ag F Aa).q fun a w F W => ?_
 refine Af (Ad ?_)
 obtain ⟨o1, G1, K1⟩ := Ap H
 refine AH (fun a w => ∃ x4 : Bool, some (x4) = some o1 ∧ Fr 59 [] [(0, .bool x4)] a ∧ Stw ⟨Y, [], w0⟩ [(b1, [.int .i64 10, .int .i64 Ac.1, .int .i64 Ac.2.1.1, .int .i64 Ac.2.1.2.1, .int .i64 Ac.2.1.2.2.1, .int .i64 Ac.2.1.2.2.2, .int .i64 Ac.2.2.1, .int .i64 Ac.2.2.2.1, .int .i64 Ac.2.2.2.2.1, .int .i64 Ac.2.2.2.2.2, v1])] [BM v1 Bu ([(2, 0, 1)] : List (Int × Int × Int))] w) ?_ ?_
 ·
  have H := G1
  clear G1 K1
  have W := W.frontZ (i := 1) Aa Aa
  obtain ⟨v6, h4, W⟩ := W.exF Bl
  have W := W.frontZ (i := 2) Aa Aa
  obtain ⟨v7, h5, W⟩ := W.exF NF
  refine Ae ?_
  refine ls F W Aa (Ah F Aa).q fun a w F W => ?_
  refine ls F W Aa (B1 (r := Bc) (l := x2.1) DZ Aa F Aa (Be Bl h4 (CH 1 Aa))).q fun a w F W => ?_
  refine ls F W Aa (BJ F Aa Aa).q fun a w F W => ?_
  refine ls F W Aa (Ah F Aa).q fun a w F W => ?_
  rcases Bool.eq_false_or_eq_true (decide ((x2.1.length : Int) = 2)) with hb | hb
  ·
   have H := AK (Bi hb) H
   rw [hb] at F
   clear hb
   refine AG F W (Ai F Aa Aa Aa Aa) Aa (Ao Aa) (Ah F Aa).q fun a w F W => ?_
   refine AG F W (Ai F Aa Aa Aa Aa) Aa (Ao Aa) (BJ F Aa Aa).q fun a w F W => ?_
   refine ls F W Aa (Aw F Aa Aa Aa).q fun a w F W => ?_
   refine ls F W Aa (Ah F Aa).q fun a w F W => ?_
   rcases Bool.eq_false_or_eq_true (decide (x2.2.1 = (-1))) with hb | hb
   ·
    have H := AK (Bi hb) H
    rw [hb] at F
    clear hb
    refine AG F W (Ai F Aa Aa Aa Aa) Aa (Ao Aa) (Ah F Aa).q fun a w F W => ?_
    refine AG F W (Ai F Aa Aa Aa Aa) Aa (Ao Aa) (BJ F Aa Aa).q fun a w F W => ?_
    refine ls F W Aa (Aw F Aa Aa Aa).q fun a w F W => ?_
    refine ls F W Aa (Ah F Aa).q fun a w F W => ?_
    rcases Bool.eq_false_or_eq_true (decide (x2.2.2 = 0)) with hb | hb
    ·
     have H := AK (Bi hb) H
     rw [hb] at F
     clear hb
     refine AG F W (Ai F Aa Aa Aa Aa) Aa (Ao Aa) (Ah F Aa).q fun a w F W => ?_
     obtain ⟨x5, h6, H⟩ := Ap H
     obtain ⟨v8, h7, h8⟩ := CE h4 h6
     have h9 : B9 v8 = [.int .i64 x5.1, .int .i64 x5.2.1.1, .int .i64 x5.2.1.2.1.1, .int .i64 x5.2.1.2.1.2.1, .int .i64 x5.2.1.2.1.2.2.1, .int .i64 x5.2.1.2.1.2.2.2, .int .i64 x5.2.1.2.2.1, .int .i64 x5.2.1.2.2.2.1, .int .i64 x5.2.1.2.2.2.2.1, .int .i64 x5.2.1.2.2.2.2.2, (v8.2.2.1)] := congrArg (fun q : Int × (Int × (Int × Int × Int × Int) × (Int × Int × Int × Int)) × (List (Int × Int × Int)) => ([.int .i64 q.1, .int .i64 q.2.1.1, .int .i64 q.2.1.2.1.1, .int .i64 q.2.1.2.1.2.1, .int .i64 q.2.1.2.1.2.2.1, .int .i64 q.2.1.2.1.2.2.2, .int .i64 q.2.1.2.2.1, .int .i64 q.2.1.2.2.2.1, .int .i64 q.2.1.2.2.2.2.1, .int .i64 q.2.1.2.2.2.2.2, (v8.2.2.1)] : List Value)) h8
     refine AG F W (Ai F Aa Aa Aa Aa) Aa (Ao Aa) (Bd (r := CM) Fh F Aa Aa (CH 1 Aa) h7).q fun a w F W => ?_
     refine AG F W (Ai F Aa Aa Aa Aa) Aa (Ao Aa) (Al Ct Aa Aa Aa T3 F Aa (DS v4 + (0 : Int).toNat * 11) Aa).q fun a w F W => ?_
     refine AG F W (Ai F Aa Aa Aa Aa) Aa (Ao Aa) (A1 (y := Value.int .i64 x5.1) (j := 0) (i := 0) (enc := B9) F Aa Aa (CH 1 Aa) h7 D8 T3 (by rw [h9]; rfl)).q fun a w F W => ?_
     refine AG F W (Ai F Aa Aa Aa Aa) Aa (Ao Aa) (BJ F Aa Aa).q fun a w F W => ?_
     refine ls F W Aa (Aw F Aa Aa Aa).q fun a w F W => ?_
     refine ls F W Aa (Ah F Aa).q fun a w F W => ?_
     rcases Bool.eq_false_or_eq_true (decide (x5.1 = 20)) with hb | hb
     ·
      have H := AK (Bi hb) H
      rw [hb] at F
      clear hb
      refine AG F W (Ai F Aa Aa Aa Aa) Aa (Ao Aa) (Ah F Aa).q fun a w F W => ?_
      refine AG F W (Ai F Aa Aa Aa Aa) Aa (Ao Aa) (B1 (r := DN) (l := x3) L9 Aa F Aa (Bg 2 Aa)).q fun a w F W => ?_
      refine AG F W (Ai F Aa Aa Aa Aa) Aa (Ao Aa) (BJ F Aa Aa).q fun a w F W => ?_
      refine ls F W Aa (Aw F Aa Aa Aa).q fun a w F W => ?_
      refine ls F W Aa (Ah F Aa).q fun a w F W => ?_
      rcases Bool.eq_false_or_eq_true (decide ((x3.length : Int) = 1)) with hb | hb
      ·
       have H := AK (Bi hb) H
       rw [hb] at F
       clear hb
       refine AG F W (Ai F Aa Aa Aa Aa) Aa (Ao Aa) (Ah F Aa).q fun a w F W => ?_
       obtain ⟨x6, h10, H⟩ := Ap H
       refine AG F W (Ai F Aa Aa Aa Aa) Aa (Ao Aa) (Bd (r := DN) Nj F Aa Aa (Bg 2 Aa) h10).q fun a w F W => ?_
       refine AG F W (Ai F Aa Aa Aa Aa) Aa (Ao Aa) (Al Nu Aa Aa Aa T3 F Aa (DS v5 + (0 : Int).toNat * 5) Aa).q fun a w F W => ?_
       refine AG F W (Ai F Aa Aa Aa Aa) Aa (Ao Aa) (A1 (y := Value.int .i64 x6.1) (j := 0) (i := 0) F Aa Aa (Bg 2 Aa) h10 N7.to T3 Aa).q fun a w F W => ?_
       refine AG F W (Ai F Aa Aa Aa Aa) Aa (Ao Aa) (BJ F Aa Aa).q fun a w F W => ?_
       refine ls F W Aa (Aw F Aa Aa Aa).q fun a w F W => ?_
       refine ls F W Aa (Ah F Aa).q fun a w F W => ?_
       rcases Bool.eq_false_or_eq_true (decide (x6.1 = 2)) with hb | hb
       ·
        have H := AK (Bi hb) H
        rw [hb] at F
        clear hb
        refine AG F W (Ai F Aa Aa Aa Aa) Aa (Ao Aa) (Ah F Aa).q fun a w F W => ?_
        refine AG F W (Ai F Aa Aa Aa Aa) Aa (Ao Aa) (JL (v := Value.agg #[.int .i64 0, .int .i64 0, .int .i64 0, .int .i64 0]) Jg NV F Aa Aa Aa).q fun a w F W => ?_
        refine FD (Ai F Aa Aa Aa Aa) ?_
        obtain ⟨x7, h11, H⟩ := Ap H
        refine ls F W Aa (AY (v := Value.int .i64 x7) F O2 Aa (fun w W => Hh any w (v4) x2.1 0 (0, 0, 0, 0) _ h11 (((Be Bl h4 (CH 1 Aa)) : CV _ _ _ _ _ _) w W).nx)) fun a w F W => ?_
        refine AG F W (Ai F Aa Aa Aa Aa) Aa (Ao Aa) (BJ F Aa Aa).q fun a w F W => ?_
        refine ls F W Aa (Aw F Aa Aa Aa).q fun a w F W => ?_
        refine ls F W Aa (Ag F Aa).q fun a w F W => ?_
        refine Af (Ad ?_)
        have W := W.frontZ (i := 4) Aa Aa
        have W := W.sub (M' := [(b1, [.int .i64 10, .int .i64 Ac.1, .int .i64 Ac.2.1.1, .int .i64 Ac.2.1.2.1, .int .i64 Ac.2.1.2.2.1, .int .i64 Ac.2.1.2.2.2, .int .i64 Ac.2.2.1, .int .i64 Ac.2.2.2.1, .int .i64 Ac.2.2.2.2.1, .int .i64 Ac.2.2.2.2.2, v1])]) (Z' := [BM v1 Bu ([(2, 0, 1)] : List (Int × Int × Int))]) (List.Sublist.refl _) (List.Sublist.cons_cons _ (List.nil_sublist _))
        exact ⟨_, H, F.re ⟨rfl, trivial⟩, W⟩
       have H := AJ (Bh hb) H
       rw [hb] at F
       clear hb
       iterate 4 refine Cs F Aa Aa Aa Aa Aa Aa Aa fun a F => ?_
       refine ls F W Aa (Aq F Aa Aa Aa).q fun a w F W => ?_
       refine ls F W Aa (Ag F Aa).q fun a w F W => ?_
       refine Af (Ad ?_)
       have W := W.frontZ (i := 4) Aa Aa
       have W := W.sub (M' := [(b1, [.int .i64 10, .int .i64 Ac.1, .int .i64 Ac.2.1.1, .int .i64 Ac.2.1.2.1, .int .i64 Ac.2.1.2.2.1, .int .i64 Ac.2.1.2.2.2, .int .i64 Ac.2.2.1, .int .i64 Ac.2.2.2.1, .int .i64 Ac.2.2.2.2.1, .int .i64 Ac.2.2.2.2.2, v1])]) (Z' := [BM v1 Bu ([(2, 0, 1)] : List (Int × Int × Int))]) (List.Sublist.refl _) (List.Sublist.cons_cons _ (List.nil_sublist _))
       exact ⟨_, H, F.re ⟨rfl, trivial⟩, W⟩
      have H := AJ (Bh hb) H
      rw [hb] at F
      clear hb
      iterate 5 refine Cs F Aa Aa Aa Aa Aa Aa Aa fun a F => ?_
      refine ls F W Aa (Aq F Aa Aa Aa).q fun a w F W => ?_
      refine ls F W Aa (Ah F Aa).q fun a w F W => ?_
      iterate 4 refine Cs F Aa Aa Aa Aa Aa Aa Aa fun a F => ?_
      refine ls F W Aa (Aq F Aa Aa Aa).q fun a w F W => ?_
      refine ls F W Aa (Ag F Aa).q fun a w F W => ?_
      refine Af (Ad ?_)
      have W := W.frontZ (i := 4) Aa Aa
      have W := W.sub (M' := [(b1, [.int .i64 10, .int .i64 Ac.1, .int .i64 Ac.2.1.1, .int .i64 Ac.2.1.2.1, .int .i64 Ac.2.1.2.2.1, .int .i64 Ac.2.1.2.2.2, .int .i64 Ac.2.2.1, .int .i64 Ac.2.2.2.1, .int .i64 Ac.2.2.2.2.1, .int .i64 Ac.2.2.2.2.2, v1])]) (Z' := [BM v1 Bu ([(2, 0, 1)] : List (Int × Int × Int))]) (List.Sublist.refl _) (List.Sublist.cons_cons _ (List.nil_sublist _))
      exact ⟨_, H, F.re ⟨rfl, trivial⟩, W⟩
     have H := AJ (Bh hb) H
     rw [hb] at F
     clear hb
     iterate 3 refine Cs F Aa Aa Aa Aa Aa Aa Aa fun a F => ?_
     refine ls F W Aa (Aq F Aa Aa Aa).q fun a w F W => ?_
     refine ls F W Aa (Ah F Aa).q fun a w F W => ?_
     iterate 5 refine Cs F Aa Aa Aa Aa Aa Aa Aa fun a F => ?_
     refine ls F W Aa (Aq F Aa Aa Aa).q fun a w F W => ?_
     refine ls F W Aa (Ah F Aa).q fun a w F W => ?_
     iterate 4 refine Cs F Aa Aa Aa Aa Aa Aa Aa fun a F => ?_
     refine ls F W Aa (Aq F Aa Aa Aa).q fun a w F W => ?_
     refine ls F W Aa (Ag F Aa).q fun a w F W => ?_
     refine Af (Ad ?_)
     have W := W.frontZ (i := 4) Aa Aa
     have W := W.sub (M' := [(b1, [.int .i64 10, .int .i64 Ac.1, .int .i64 Ac.2.1.1, .int .i64 Ac.2.1.2.1, .int .i64 Ac.2.1.2.2.1, .int .i64 Ac.2.1.2.2.2, .int .i64 Ac.2.2.1, .int .i64 Ac.2.2.2.1, .int .i64 Ac.2.2.2.2.1, .int .i64 Ac.2.2.2.2.2, v1])]) (Z' := [BM v1 Bu ([(2, 0, 1)] : List (Int × Int × Int))]) (List.Sublist.refl _) (List.Sublist.cons_cons _ (List.nil_sublist _))
     exact ⟨_, H, F.re ⟨rfl, trivial⟩, W⟩
    have H := AJ (Bh hb) H
    rw [hb] at F
    clear hb
    iterate 5 refine Cs F Aa Aa Aa Aa Aa Aa Aa fun a F => ?_
    refine ls F W Aa (Aq F Aa Aa Aa).q fun a w F W => ?_
    refine ls F W Aa (Ah F Aa).q fun a w F W => ?_
    iterate 3 refine Cs F Aa Aa Aa Aa Aa Aa Aa fun a F => ?_
    refine ls F W Aa (Aq F Aa Aa Aa).q fun a w F W => ?_
    refine ls F W Aa (Ah F Aa).q fun a w F W => ?_
    iterate 5 refine Cs F Aa Aa Aa Aa Aa Aa Aa fun a F => ?_
    refine ls F W Aa (Aq F Aa Aa Aa).q fun a w F W => ?_
    refine ls F W Aa (Ah F Aa).q fun a w F W => ?_
    iterate 4 refine Cs F Aa Aa Aa Aa Aa Aa Aa fun a F => ?_
    refine ls F W Aa (Aq F Aa Aa Aa).q fun a w F W => ?_
    refine ls F W Aa (Ag F Aa).q fun a w F W => ?_
    refine Af (Ad ?_)
    have W := W.frontZ (i := 4) Aa Aa
    have W := W.sub (M' := [(b1, [.int .i64 10, .int .i64 Ac.1, .int .i64 Ac.2.1.1, .int .i64 Ac.2.1.2.1, .int .i64 Ac.2.1.2.2.1, .int .i64 Ac.2.1.2.2.2, .int .i64 Ac.2.2.1, .int .i64 Ac.2.2.2.1, .int .i64 Ac.2.2.2.2.1, .int .i64 Ac.2.2.2.2.2, v1])]) (Z' := [BM v1 Bu ([(2, 0, 1)] : List (Int × Int × Int))]) (List.Sublist.refl _) (List.Sublist.cons_cons _ (List.nil_sublist _))
    exact ⟨_, H, F.re ⟨rfl, trivial⟩, W⟩
   have H := AJ (Bh hb) H
   rw [hb] at F
   clear hb
   iterate 2 refine Cs F Aa Aa Aa Aa Aa Aa Aa fun a F => ?_
   refine ls F W Aa (Aq F Aa Aa Aa).q fun a w F W => ?_
   refine ls F W Aa (Ah F Aa).q fun a w F W => ?_
   iterate 5 refine Cs F Aa Aa Aa Aa Aa Aa Aa fun a F => ?_
   refine ls F W Aa (Aq F Aa Aa Aa).q fun a w F W => ?_
   refine ls F W Aa (Ah F Aa).q fun a w F W => ?_
   iterate 3 refine Cs F Aa Aa Aa Aa Aa Aa Aa fun a F => ?_
   refine ls F W Aa (Aq F Aa Aa Aa).q fun a w F W => ?_
   refine ls F W Aa (Ah F Aa).q fun a w F W => ?_
   iterate 5 refine Cs F Aa Aa Aa Aa Aa Aa Aa fun a F => ?_
   refine ls F W Aa (Aq F Aa Aa Aa).q fun a w F W => ?_
   refine ls F W Aa (Ah F Aa).q fun a w F W => ?_
   iterate 4 refine Cs F Aa Aa Aa Aa Aa Aa Aa fun a F => ?_
   refine ls F W Aa (Aq F Aa Aa Aa).q fun a w F W => ?_
   refine ls F W Aa (Ag F Aa).q fun a w F W => ?_
   refine Af (Ad ?_)
   have W := W.frontZ (i := 4) Aa Aa
   have W := W.sub (M' := [(b1, [.int .i64 10, .int .i64 Ac.1, .int .i64 Ac.2.1.1, .int .i64 Ac.2.1.2.1, .int .i64 Ac.2.1.2.2.1, .int .i64 Ac.2.1.2.2.2, .int .i64 Ac.2.2.1, .int .i64 Ac.2.2.2.1, .int .i64 Ac.2.2.2.2.1, .int .i64 Ac.2.2.2.2.2, v1])]) (Z' := [BM v1 Bu ([(2, 0, 1)] : List (Int × Int × Int))]) (List.Sublist.refl _) (List.Sublist.cons_cons _ (List.nil_sublist _))
   exact ⟨_, H, F.re ⟨rfl, trivial⟩, W⟩
  have H := AJ (Bh hb) H
  rw [hb] at F
  clear hb
  iterate 2 refine Cs F Aa Aa Aa Aa Aa Aa Aa fun a F => ?_
  refine ls F W Aa (Aq F Aa Aa Aa).q fun a w F W => ?_
  refine ls F W Aa (Ah F Aa).q fun a w F W => ?_
  iterate 2 refine Cs F Aa Aa Aa Aa Aa Aa Aa fun a F => ?_
  refine ls F W Aa (Aq F Aa Aa Aa).q fun a w F W => ?_
  refine ls F W Aa (Ah F Aa).q fun a w F W => ?_
  iterate 5 refine Cs F Aa Aa Aa Aa Aa Aa Aa fun a F => ?_
  refine ls F W Aa (Aq F Aa Aa Aa).q fun a w F W => ?_
  refine ls F W Aa (Ah F Aa).q fun a w F W => ?_
  iterate 3 refine Cs F Aa Aa Aa Aa Aa Aa Aa fun a F => ?_
  refine ls F W Aa (Aq F Aa Aa Aa).q fun a w F W => ?_
  refine ls F W Aa (Ah F Aa).q fun a w F W => ?_
  iterate 5 refine Cs F Aa Aa Aa Aa Aa Aa Aa fun a F => ?_
  refine ls F W Aa (Aq F Aa Aa Aa).q fun a w F W => ?_
  refine ls F W Aa (Ah F Aa).q fun a w F W => ?_
  iterate 4 refine Cs F Aa Aa Aa Aa Aa Aa Aa fun a F => ?_
  refine ls F W Aa (Aq F Aa Aa Aa).q fun a w F W => ?_
  refine ls F W Aa (Ag F Aa).q fun a w F W => ?_
  refine Af (Ad ?_)
  have W := W.frontZ (i := 4) Aa Aa
  have W := W.sub (M' := [(b1, [.int .i64 10, .int .i64 Ac.1, .int .i64 Ac.2.1.1, .int .i64 Ac.2.1.2.1, .int .i64 Ac.2.1.2.2.1, .int .i64 Ac.2.1.2.2.2, .int .i64 Ac.2.2.1, .int .i64 Ac.2.2.2.1, .int .i64 Ac.2.2.2.2.1, .int .i64 Ac.2.2.2.2.2, v1])]) (Z' := [BM v1 Bu ([(2, 0, 1)] : List (Int × Int × Int))]) (List.Sublist.refl _) (List.Sublist.cons_cons _ (List.nil_sublist _))
  exact ⟨_, H, F.re ⟨rfl, trivial⟩, W⟩
 rintro a w ⟨x4, hj, F, W⟩
 have hj := AL hj
 subst hj
 have H := K1
 clear G1 K1
 refine Ax ?_
 have H := AL H
 subst H
 refine AF (.inl Aa) F W Aa (Av F Aa) ?_
 exact ⟨rfl, W.done⟩
theorem H9 : Has Try.prog 9 := ⟨fun args w => Am Try.func9 rfl (by decide) args w⟩
instance : DecidableEq (Int × Int) := inferInstance
instance : DecidableEq (Int × Int × Int) := inferInstance
instance : DecidableEq (Int × Int × Int × Int) := inferInstance
instance : DecidableEq ((Int × Int × Int × Int) × (Int × Int × Int × Int)) := inferInstance
instance : DecidableEq (Int × (Int × Int × Int × Int) × (Int × Int × Int × Int)) := inferInstance
instance : DecidableEq (Int × (Int × (Int × Int × Int × Int) × (Int × Int × Int × Int))) := inferInstance
def A8 (p0 : Int) : Int := (if p0 = 2 then 15 else (if (decide (p0 = 0) || (decide (p0 = 1) || decide (p0 = 3))) = true then 255 else 0))
theorem FO (Y : Nat → Prop) (w0 : World)  (p0 : Int) (r : Int) (H : A8 p0 = r)  :
    Calls Try.prog 35 #[.int .i64 p0] w0 fun e w' => e = .returned (.int .i64 r) ∧ Below w0.heap.size w0 w' := by
 refine enter Try.func35 Aa Try.ntmps35 Aa fun a F => ?_
 have W := Stw.start Y w0
 unfold A8 at H
 refine Ak (Ae ?_)
 refine ls F W Aa (Ag F Aa).q fun a w F W => ?_
 refine Af (Ad (Ak (Ak (Ae ?_))))
 refine ls F W Aa (Ah F Aa).q fun a w F W => ?_
 refine ls F W Aa (BJ F Aa Aa).q fun a w F W => ?_
 refine Af (Ad ?_)
 refine AA F Aa (fun hb => ?_) fun hb => ?_
 ·
  have H := AK (Bi hb) H
  rw [hb] at F
  clear hb
  refine Ak (Ae ?_)
  refine ls F W Aa (Ag F Aa).q fun a w F W => ?_
  refine Af (Ad (Ax (AD ?_)))
  subst H
  refine AF (.inl Aa) F W Aa (Av F Aa) ?_
  exact ⟨rfl, W.done⟩
 have H := AJ (Bh hb) H
 rw [hb] at F
 clear hb
 refine Ay (Ad (Ak ?_))
 refine AH (fun a w => Fr 15 [] [(2, .int .i64 0), (14, .bool (decide (p0 = 0) || (decide (p0 = 1) || decide (p0 = 3))))] a ∧ Stw ⟨Y, [], w0⟩ [] [] w) ?_ ?_
 ·
  refine Ae ?_
  refine ls F W Aa (Ah F Aa).q fun a w F W => ?_
  refine ls F W Aa (BJ F Aa Aa).q fun a w F W => ?_
  refine ls F W Aa (Ah F Aa).q fun a w F W => ?_
  rcases Bool.eq_false_or_eq_true (decide (p0 = 0)) with hb0 | hb0
  ·
   rw [hb0] at F
   iterate 2 refine Cs F Aa Aa Aa Aa Aa Aa Aa fun a F => ?_
   refine ls F W Aa (Aw F Aa Aa Aa).q fun a w F W => ?_
   refine ls F W Aa (Ah F Aa).q fun a w F W => ?_
   iterate 2 refine Cs F Aa Aa Aa Aa Aa Aa Aa fun a F => ?_
   refine ls F W Aa (Aw F Aa Aa Aa).q fun a w F W => ?_
   refine Af (Ad ?_)
   exact ⟨F.re ⟨rfl, (by show some (Value.bool true) = some (Value.bool (decide (p0 = 0) || (decide (p0 = 1) || decide (p0 = 3)))); try rw [hb0]; all_goals simp only [Bool.not_true, Bool.not_false, Bool.true_and, Bool.false_and, Bool.true_or, Bool.false_or, Bool.and_true, Bool.or_false, cond_true, cond_false]), trivial⟩, W⟩
  rw [hb0] at F
  refine AG F W (Ai F Aa Aa Aa Aa) Aa (Ao Aa) (Ah F Aa).q fun a w F W => ?_
  refine AG F W (Ai F Aa Aa Aa Aa) Aa (Ao Aa) (BJ F Aa Aa).q fun a w F W => ?_
  refine ls F W Aa (Aq F Aa Aa Aa).q fun a w F W => ?_
  refine ls F W Aa (Ah F Aa).q fun a w F W => ?_
  rcases Bool.eq_false_or_eq_true (decide (p0 = 1)) with hb1 | hb1
  ·
   rw [hb1] at F
   iterate 2 refine Cs F Aa Aa Aa Aa Aa Aa Aa fun a F => ?_
   refine ls F W Aa (Aw F Aa Aa Aa).q fun a w F W => ?_
   refine Af (Ad ?_)
   exact ⟨F.re ⟨rfl, (by show some (Value.bool true) = some (Value.bool (decide (p0 = 0) || (decide (p0 = 1) || decide (p0 = 3)))); try rw [hb0]; try rw [hb1]; all_goals simp only [Bool.not_true, Bool.not_false, Bool.true_and, Bool.false_and, Bool.true_or, Bool.false_or, Bool.and_true, Bool.or_false, cond_true, cond_false]), trivial⟩, W⟩
  rw [hb1] at F
  refine AG F W (Ai F Aa Aa Aa Aa) Aa (Ao Aa) (Ah F Aa).q fun a w F W => ?_
  refine AG F W (Ai F Aa Aa Aa Aa) Aa (Ao Aa) (BJ F Aa Aa).q fun a w F W => ?_
  refine ls F W Aa (Aq F Aa Aa Aa).q fun a w F W => ?_
  refine Af (Ad ?_)
  exact ⟨F.re ⟨rfl, (by show some (Value.bool (decide (p0 = 3))) = some (Value.bool (decide (p0 = 0) || (decide (p0 = 1) || decide (p0 = 3)))); try rw [hb0]; try rw [hb1]; all_goals simp only [Bool.not_true, Bool.not_false, Bool.true_and, Bool.false_and, Bool.true_or, Bool.false_or, Bool.and_true, Bool.or_false, cond_true, cond_false]), trivial⟩, W⟩
 rintro a w ⟨F, W⟩
 refine AA F Aa (fun hb => ?_) fun hb => ?_
 ·
  have H := AK hb H
  rw [hb] at F
  clear hb
  refine Ak (Ae ?_)
  refine ls F W Aa (Ag F Aa).q fun a w F W => ?_
  refine Af (Ad (Ax (AD ?_)))
  subst H
  refine AF (.inl Aa) F W Aa (Av F Aa) ?_
  exact ⟨rfl, W.done⟩
 have H := AJ (by rw [hb]; decide) H
 rw [hb] at F
 clear hb
 refine Ay (Ad (Ak (Ae ?_)))
 refine ls F W Aa (Ag F Aa).q fun a w F W => ?_
 refine Af (Ad (Ax ?_))
 subst H
 refine AF (.inl Aa) F W Aa (Av F Aa) ?_
 exact ⟨rfl, W.done⟩
theorem N8 : Has Try.prog 35 := ⟨fun args w => Am Try.func35 rfl (by decide) args w⟩
noncomputable def Fd (p1 : Int) : (Int × Int) → Option ((Int × Int) ⊕ Int)
  | (x2, x3) => (if x3 < p1 then some (.inl (CA (Int.tdiv x2 2), CA (x3 + 1))) else some (.inr x2))
noncomputable def E0 (p0 : Int) (p1 : Int) : Option Int := (Bk (Fd p1) (p0, 0)).bind fun x1 => some (Int.tmod x1 2)
theorem FS (Y : Nat → Prop) (w0 : World)  (p0 : Int) (p1 : Int) (r : Int) (H : E0 p0 p1 = some r)  :
    Calls Try.prog 57 #[.int .i64 p0, .int .i64 p1] w0 fun e w' => e = .returned (.int .i64 r) ∧ Below w0.heap.size w0 w' := by
 refine enter Try.func57 Aa Try.ntmps57 Aa fun a F => ?_
 have W := Stw.start Y w0
 unfold E0 at H
 refine Ak (Ae ?_)
 refine ls F W Aa (Ag F Aa).q fun a w F W => ?_
 refine Af (Ad ?_)
 obtain ⟨o1, G1, K1⟩ := Ap H
 refine AH (fun a w => ∃ x1 : Int, some (x1) = some o1 ∧ Fr 15 [] [(0, .int .i64 x1), (4, .int .i64 0)] a ∧ Stw ⟨Y, [], w0⟩ [] [] w) ?_ ?_
 ·
  have H := G1
  clear G1 K1
  refine Ak (Ae ?_)
  refine ls F W Aa (Ag F Aa).q fun a w F W => ?_
  refine Af (Ad (AC ?_))
  refine Bz H (fun s a w => Fr 15 [] [(0, .int .i64 s.1), (1, .int .i64 p1), (4, .int .i64 0), (5, .int .i64 s.2)] a ∧ Stw ⟨Y, [], w0⟩ [] [] w) ⟨F.re ⟨rfl, Aa, Aa, Aa, trivial⟩, W⟩ fun s o a w H L2 hR => ?_
  obtain ⟨x2, x3⟩ := s
  obtain ⟨F, W⟩ := hR
  have F : Fr 15 [] [(0, .int .i64 x2), (1, .int .i64 p1), (4, .int .i64 0), (5, .int .i64 x3)] a := F
  have W : Stw ⟨Y, [], w0⟩ [] [] w := W
  rw [Fd] at H
  refine Ak (Ak (Ae ?_))
  iterate 2 refine ls F W Aa (Ah F Aa).q fun a w F W => ?_
  refine ls F W Aa (BN F Aa Aa).q fun a w F W => ?_
  refine Af (Ad ?_)
  refine AA F Aa (fun hb => ?_) fun hb => ?_
  ·
   have H := AK (Bi hb) H
   rw [hb] at F
   clear hb
   refine Ay (Ad (Ak (AC (Ae ?_))))
   refine ls F W Aa (Ah F Aa).q fun a w F W => ?_
   refine ls F W Aa (Ob F Aa Aa (by decide) Aa).q fun a w F W => ?_
   refine ls F W Aa (Ag F Aa).q fun a w F W => ?_
   refine Af (A5 (Ad (Ae ?_)))
   refine ls F W Aa (Ah F Aa).q fun a w F W => ?_
   refine ls F W Aa (B7 F Aa Aa Aa).q fun a w F W => ?_
   refine ls F W Aa (Ag F Aa).q fun a w F W => ?_
   refine Af (Ad ?_)
   exact ⟨_, H, F.re ⟨rfl, Aa, Aa, Aa, trivial⟩, W⟩
  have H := AJ (Bh hb) H
  rw [hb] at F
  clear hb
  refine Bw ?_
  iterate 2 refine B3 ?_
  refine Bx (Ad ?_)
  have H := L2 _ H
  exact ⟨_, H, F.re ⟨rfl, Aa, trivial⟩, W⟩
 rintro a w ⟨x1, hj, F, W⟩
 have hj := AL hj
 subst hj
 have H := K1
 clear G1 K1
 refine Ak (Ae ?_)
 refine ls F W Aa (Ah F Aa).q fun a w F W => ?_
 refine ls F W Aa (NT F Aa Aa (by decide) Aa).q fun a w F W => ?_
 refine ls F W Aa (Ag F Aa).q fun a w F W => ?_
 refine Af (Ad (Ax ?_))
 have H := AL H
 subst H
 refine AF (.inl Aa) F W Aa (Av F Aa) ?_
 exact ⟨rfl, W.done⟩
end Go.Proofs.Ytkjjioigbpkifaa
