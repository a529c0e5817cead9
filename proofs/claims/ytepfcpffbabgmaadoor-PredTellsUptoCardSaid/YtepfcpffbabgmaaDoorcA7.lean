/- The functions of layer 26, Gx. Conditions: none. -/
import Derived.Test.YtepfcpffbabgmaaDoorcA6
namespace Go.Proofs.YtepfcpffbabgmaaDoor
open Go Go.RowKit
set_option linter.unusedVariables false
set_option linter.unusedSimpArgs false
set_option maxRecDepth 20000
theorem SJ : Has Tryd.prog 44 := ⟨fun args w => Ao Tryd.func44 rfl (by decide) args w⟩
noncomputable def Ef (fRec : Tr24 → Int → Int → Option Bool) (p0 : Tr24) (p1 : Int) (p2 : Int) : Int → Option (Int ⊕ (Unit ⊕ Bool))
  | x1 => (if x1 < (p0.un.2.2.2.length : Int) then (ix p0.un.2.2.2 x1).bind fun x2 => (fRec x2 p1 p2).bind fun x3 => (if x3 = true then some (.inr (.inr true)) else some (.inl (A1 (x1 + 1)))) else some (.inr (.inl ())))
noncomputable def Eh (fRec : Tr24 → Int → Int → Option Bool) (p0 : Tr24) (p1 : Int) (p2 : Int) : Option Bool := (if (decide (p0.un.1 = 3) && (decide (p0.un.2.1 = p1) && decide (p0.un.2.2.1 = p2))) = true then some true else IX (A3 (Ef fRec p0 p1 p2) 0) fun _ => some false)
noncomputable def D0 : Nat → Tr24 → Int → Int → Option Bool
  | 0 => fun _ _ _ => none
  | n + 1 => Eh (D0 n)
noncomputable def Lr (p0 : Tr24) (p1 : Int) (p2 : Int) : Option Bool := Fx fun n => D0 n p0 p1 p2
theorem My (fRec : Tr24 → Int → Int → Option Bool) (ih : ∀ (Y : Nat → Prop) (w0 : World) (v1 : Value) (p0 : Tr24) (p1 : Int) (p2 : Int) (r : Bool) (H : fRec p0 p1 p2 = some r) (h_v1 : Sl w0 (NX []) CJ v1 p0.un.2.2.2), Calls Tryd.prog 44 #[.agg #[.int .i64 p0.un.1, .int .i64 p0.un.2.1, .int .i64 p0.un.2.2.1, v1], .int .i64 p1, .int .i64 p2] w0 fun e w' => e = .returned (.bool r) ∧ Below w0.heap.size w0 w') (Y : Nat → Prop) (w0 : World) (v1 : Value) (p0 : Tr24) (p1 : Int) (p2 : Int) (r : Bool) (H : Eh fRec p0 p1 p2 = some r) (h_v1 : Sl w0 (NX []) CJ v1 p0.un.2.2.2) :
    Calls Tryd.prog 44 #[.agg #[.int .i64 p0.un.1, .int .i64 p0.un.2.1, .int .i64 p0.un.2.2.1, v1], .int .i64 p1, .int .i64 p2] w0 fun e w' => e = .returned (.bool r) ∧ Below w0.heap.size w0 w' := by
 refine enter Tryd.func44 Aa Tryd.ntmps44 Aa fun a F => ?_
 have W := Stw.start Y w0
 obtain ⟨v2, h1, h_v1⟩ := h_v1.ex C7
 unfold Eh at H
 refine Aj (Ae ?_)
 refine C5 (cs := [.int .i64 p0.un.1, .int .i64 p0.un.2.1, .int .i64 p0.un.2.2.1, v1]) F W Aa Aa Aa fun b1 a w F W => ?_
 refine ls F W Aa (Ah F Aa).q fun a w F W => ?_
 refine Ag (Ad (Aj ?_))
 refine AO (fun a w => Fr 38 [] [(1, .int .i64 p1), (2, .int .i64 p2), (3, .pointer (some ⟨b1, 0, none⟩)), (6, .bool false), (22, .bool (decide (p0.un.1 = 3) && (decide (p0.un.2.1 = p1) && decide (p0.un.2.2.1 = p2))))] a ∧ Stw ⟨Y, [], w0⟩ [(b1, [.int .i64 p0.un.1, .int .i64 p0.un.2.1, .int .i64 p0.un.2.2.1, v1])] [] w) ?_ ?_
 ·
  refine Ae ?_
  refine ls F W Aa (Ak BZ Aa Aa Aa T3 F Aa 0 Aa).q fun a w F W => ?_
  refine ls F W Aa (Aq (v := Value.int .i64 p0.un.1) 0 F Aa Aa T3 Aa).q fun a w F W => ?_
  refine ls F W Aa (Bq F Aa Aa).q fun a w F W => ?_
  refine ls F W Aa (Ai F Aa).q fun a w F W => ?_
  rcases Bool.eq_false_or_eq_true (decide (p0.un.1 = 3)) with hb0 | hb0
  ·
   rw [hb0] at F
   refine AL F W (Af F Aa Aa Aa Aa) Aa (An Aa) (Ak BZ Aa Aa Aa T3 F Aa 1 Aa).q fun a w F W => ?_
   refine AL F W (Af F Aa Aa Aa Aa) Aa (An Aa) (Aq (v := Value.int .i64 p0.un.2.1) 0 F Aa Aa T3 Aa).q fun a w F W => ?_
   refine AL F W (Af F Aa Aa Aa Aa) Aa (An Aa) (Ai F Aa).q fun a w F W => ?_
   refine AL F W (Af F Aa Aa Aa Aa) Aa (An Aa) (Bq F Aa Aa).q fun a w F W => ?_
   refine ls F W Aa (Au F Aa Aa Aa).q fun a w F W => ?_
   refine ls F W Aa (Ai F Aa).q fun a w F W => ?_
   rcases Bool.eq_false_or_eq_true (decide (p0.un.2.1 = p1)) with hb1 | hb1
   ·
    rw [hb1] at F
    refine AL F W (Af F Aa Aa Aa Aa) Aa (An Aa) (Ak BZ Aa Aa Aa T3 F Aa 2 Aa).q fun a w F W => ?_
    refine AL F W (Af F Aa Aa Aa Aa) Aa (An Aa) (Aq (v := Value.int .i64 p0.un.2.2.1) 0 F Aa Aa T3 Aa).q fun a w F W => ?_
    refine AL F W (Af F Aa Aa Aa Aa) Aa (An Aa) (Ai F Aa).q fun a w F W => ?_
    refine AL F W (Af F Aa Aa Aa Aa) Aa (An Aa) (Bq F Aa Aa).q fun a w F W => ?_
    refine ls F W Aa (Au F Aa Aa Aa).q fun a w F W => ?_
    refine Ag (Ad ?_)
    exact ⟨F.re ⟨rfl, Aa, Aa, Aa, (by show some (Value.bool (decide (p0.un.2.2.1 = p2))) = some (Value.bool (decide (p0.un.1 = 3) && (decide (p0.un.2.1 = p1) && decide (p0.un.2.2.1 = p2)))); try rw [hb1]; try rw [hb0]; all_goals simp only [Bool.not_true, Bool.not_false, Bool.true_and, Bool.false_and, Bool.true_or, Bool.false_or, Bool.and_true, Bool.or_false, cond_true, cond_false]), trivial⟩, W⟩
   rw [hb1] at F
   iterate 4 refine CD F Aa Aa Aa Aa Aa Aa Aa fun a F => ?_
   refine ls F W Aa (As F Aa Aa Aa).q fun a w F W => ?_
   refine Ag (Ad ?_)
   exact ⟨F.re ⟨rfl, Aa, Aa, Aa, (by show some (Value.bool false) = some (Value.bool (decide (p0.un.1 = 3) && (decide (p0.un.2.1 = p1) && decide (p0.un.2.2.1 = p2)))); try rw [hb1]; try rw [hb0]; all_goals simp only [Bool.not_true, Bool.not_false, Bool.true_and, Bool.false_and, Bool.true_or, Bool.false_or, Bool.and_true, Bool.or_false, cond_true, cond_false]), trivial⟩, W⟩
  rw [hb0] at F
  iterate 4 refine CD F Aa Aa Aa Aa Aa Aa Aa fun a F => ?_
  refine ls F W Aa (As F Aa Aa Aa).q fun a w F W => ?_
  refine ls F W Aa (Ai F Aa).q fun a w F W => ?_
  iterate 4 refine CD F Aa Aa Aa Aa Aa Aa Aa fun a F => ?_
  refine ls F W Aa (As F Aa Aa Aa).q fun a w F W => ?_
  refine Ag (Ad ?_)
  exact ⟨F.re ⟨rfl, Aa, Aa, Aa, (by show some (Value.bool false) = some (Value.bool (decide (p0.un.1 = 3) && (decide (p0.un.2.1 = p1) && decide (p0.un.2.2.1 = p2)))); try rw [hb0]; all_goals simp only [Bool.not_true, Bool.not_false, Bool.true_and, Bool.false_and, Bool.true_or, Bool.false_or, Bool.and_true, Bool.or_false, cond_true, cond_false]), trivial⟩, W⟩
 rintro a w ⟨F, W⟩
 refine Ay F Aa (fun hb => ?_) fun hb => ?_
 ·
  have H := AW hb H
  rw [hb] at F
  clear hb
  refine Aj (Ae ?_)
  refine ls F W Aa (Ah F Aa).q fun a w F W => ?_
  refine Ag (Ad (Az (AR ?_)))
  have H := AM H
  subst H
  refine AQ (.inl Aa) F W Aa (AD F Aa) ?_
  exact ⟨rfl, W.done⟩
 have H := AX (by rw [hb]; decide) H
 rw [hb] at F
 clear hb
 refine Aw (Ad ?_)
 obtain ⟨o1, G1, K1, L1⟩ := OP H
 refine AO (fun a w => some (Sum.inl ()) = some o1 ∧ Fr 38 [] [(6, .bool false)] a ∧ Stw ⟨Y, [], w0⟩ [(b1, [.int .i64 p0.un.1, .int .i64 p0.un.2.1, .int .i64 p0.un.2.2.1, v1])] [] w) ?_ ?_
 ·
  have H := G1
  clear G1 K1
  refine Aj (Ae ?_)
  refine ls F W Aa (Ah F Aa).q fun a w F W => ?_
  refine Ag (Ad (AA ?_))
  refine BI H (fun s a w => Fr 38 [] [(1, .int .i64 p1), (2, .int .i64 p2), (3, .pointer (some ⟨b1, 0, none⟩)), (6, .bool false), (7, .int .i64 s)] a ∧ Stw ⟨Y, [], w0⟩ [(b1, [.int .i64 p0.un.1, .int .i64 p0.un.2.1, .int .i64 p0.un.2.2.1, v1])] [] w) ⟨F.re ⟨rfl, Aa, Aa, Aa, Aa, trivial⟩, W⟩ fun s o a w H L2 hR => ?_
  obtain ⟨x1, rfl⟩ : ∃ x, x = s := ⟨s, rfl⟩
  obtain ⟨F, W⟩ := hR
  have F : Fr 38 [] [(1, .int .i64 p1), (2, .int .i64 p2), (3, .pointer (some ⟨b1, 0, none⟩)), (6, .bool false), (7, .int .i64 x1)] a := F
  have W : Stw ⟨Y, [], w0⟩ [(b1, [.int .i64 p0.un.1, .int .i64 p0.un.2.1, .int .i64 p0.un.2.2.1, v1])] [] w := W
  rw [Ef] at H
  refine Aj (Aj (Ae ?_))
  refine ls F W Aa (Ai F Aa).q fun a w F W => ?_
  refine ls F W Aa (Ak BZ Aa Aa Aa ER F Aa 3 Aa).q fun a w F W => ?_
  refine ls F W Aa (Aq (v := v1) 0 F Aa Aa ER Aa).q fun a w F W => ?_
  refine ls F W Aa (CT (r := CJ) (l := p0.un.2.2.2) ID Aa F Aa (AP C7 h1 (Av h_v1))).q fun a w F W => ?_
  refine ls F W Aa (Cy F Aa Aa).q fun a w F W => ?_
  refine Ag (Ad ?_)
  refine Ay F Aa (fun hb => ?_) fun hb => ?_
  ·
   have H := AW (Bm hb) H
   rw [hb] at F
   clear hb
   refine Aw (Ad (Aj (AA (Aj (Ae ?_)))))
   refine ls F W Aa (Ak BZ Aa Aa Aa ER F Aa 3 Aa).q fun a w F W => ?_
   refine ls F W Aa (Aq (v := v1) 0 F Aa Aa ER Aa).q fun a w F W => ?_
   refine ls F W Aa (Ai F Aa).q fun a w F W => ?_
   obtain ⟨x2, h2, H⟩ := Am H
   obtain ⟨v3, h3, h4⟩ := DL h1 h2
   have h5 : E5 v3 = [.int .i64 x2.un.1, .int .i64 x2.un.2.1, .int .i64 x2.un.2.2.1, (v3.2.2.2.1)] := congrArg (fun q : Tr24 => ([.int .i64 q.un.1, .int .i64 q.un.2.1, .int .i64 q.un.2.2.1, (v3.2.2.2.1)] : List Value)) h4
   refine ls F W Aa (AG (r := Gd) KF F Aa Aa (Av h_v1) h3).q fun a w F W => ?_
   refine ls F W Aa (Ax (y := Value.agg #[.int .i64 x2.un.1, .int .i64 x2.un.2.1, .int .i64 x2.un.2.2.1, (v3.2.2.2.1)]) (j := 0) (i := x1) (enc := E5) F Aa Aa (Av h_v1) h3 Id FC (by rw [h5]; rfl)).q fun a w F W => ?_
   iterate 2 refine ls F W Aa (Ai F Aa).q fun a w F W => ?_
   obtain ⟨x3, h6, H⟩ := Am H
   refine ls F W Aa (AU (v := Value.bool x3) F SJ Aa (fun w W => ih any w ((v3.2.2.2.1)) x2 p1 p2 _ h6 (((CG (Av h_v1) h3 (A5.snd (A5.snd (A5.snd A5.here))) (congrArg (fun q : Tr24 => q.un.2.2.2) h4)) : EC _ _ _ _ _ _) w W).nx)) fun a w F W => ?_
   refine Ag (Ad ?_)
   refine Ay F Aa (fun hb => ?_) fun hb => ?_
   ·
    have H := AW hb H
    rw [hb] at F
    clear hb
    refine Aj (Ae ?_)
    refine ls F W Aa (Ah F Aa).q fun a w F W => ?_
    refine Ag (Ad (Az (Bk ?_)))
    iterate 2 refine AR ?_
    refine Bk (AR ?_)
    have H := L2 _ H
    have H := L1 _ H
    have H := AM H
    subst H
    refine AQ (.inl Aa) F W Aa (AD F Aa) ?_
    exact ⟨rfl, W.done⟩
   have H := AX (by rw [hb]; decide) H
   rw [hb] at F
   clear hb
   refine Aw (A8 (Ad (Ae ?_)))
   refine ls F W Aa (Ai F Aa).q fun a w F W => ?_
   refine ls F W Aa (BC F Aa Aa Aa).q fun a w F W => ?_
   refine ls F W Aa (Ah F Aa).q fun a w F W => ?_
   refine Ag (Ad ?_)
   exact ⟨_, H, F.re ⟨rfl, Aa, Aa, Aa, Aa, trivial⟩, W⟩
  have H := AX (Bl hb) H
  rw [hb] at F
  clear hb
  refine Bx ?_
  iterate 2 refine BO ?_
  refine Bz (Ad ?_)
  have H := L2 _ H
  exact ⟨H, F.re ⟨rfl, trivial⟩, W⟩
 rintro a w ⟨hj, F, W⟩
 have H := K1 _ hj
 clear hj G1 K1 L1
 refine Aj (Ae ?_)
 refine ls F W Aa (Ah F Aa).q fun a w F W => ?_
 refine Ag (Ad (Az ?_))
 have H := AM H
 subst H
 refine AQ (.inl Aa) F W Aa (AD F Aa) ?_
 exact ⟨rfl, W.done⟩
theorem Ns : ∀ (n : Nat) (Y : Nat → Prop) (w0 : World) (v1 : Value) (p0 : Tr24) (p1 : Int) (p2 : Int) (r : Bool) (H : D0 n p0 p1 p2 = some r) (h_v1 : Sl w0 (NX []) CJ v1 p0.un.2.2.2), Calls Tryd.prog 44 #[.agg #[.int .i64 p0.un.1, .int .i64 p0.un.2.1, .int .i64 p0.un.2.2.1, v1], .int .i64 p1, .int .i64 p2] w0 fun e w' => e = .returned (.bool r) ∧ Below w0.heap.size w0 w' := by
  intro n
  induction n with
  | zero => intro Y w0 v1 p0 p1 p2 r H; exact nomatch H
  | succ n ih => intro Y w0 v1 p0 p1 p2 r H h_v1; exact My (D0 n) ih Y w0 v1 p0 p1 p2 r H h_v1
theorem Og (Y : Nat → Prop) (w0 : World) (v1 : Value) (p0 : Tr24) (p1 : Int) (p2 : Int) (r : Bool) (H : Lr p0 p1 p2 = some r) (h_v1 : Sl w0 (NX []) CJ v1 p0.un.2.2.2) :
    Calls Tryd.prog 44 #[.agg #[.int .i64 p0.un.1, .int .i64 p0.un.2.1, .int .i64 p0.un.2.2.1, v1], .int .i64 p1, .int .i64 p2] w0 fun e w' => e = .returned (.bool r) ∧ Below w0.heap.size w0 w' := by
  obtain ⟨n, H⟩ := Cs H
  exact Ns n Y w0 v1 p0 p1 p2 r H h_v1
noncomputable def EK (p0 : Tr24) (p1 : Int) : (List Int × Int) → Option ((List Int × Int) ⊕ (List Int))
  | (x2, x3) => (if x3 ≤ (CC p1) then ((Lr p0 p1 x3).bind fun x5 => (if x5 = true then (F7 x2 ([x3] : List Int)).bind fun x6 => some x6 else some x2)).bind fun x4 => some (.inl (x4, A1 (x3 + 1))) else some (.inr x2))
noncomputable def FH (p0 : Tr24) (p1 : Int) : Option (List Int) := (A3 (EK p0 p1) ([], 0)).bind fun x1 => some x1
theorem MT (Y : Nat → Prop) (w0 : World) (v1 : Value) (p0 : Tr24) (p1 : Int) (r : List Int) (H : FH p0 p1 = some r) (h_v1 : Sl w0 (NX []) CJ v1 p0.un.2.2.2) :
    Calls Tryd.prog 27 #[.agg #[.int .i64 p0.un.1, .int .i64 p0.un.2.1, .int .i64 p0.un.2.2.1, v1], .int .i64 p1] w0 fun e w' => ∃ x : Value, e = .returned (x) ∧ Stw ⟨Y, [], w0⟩ [] [row (x) 3 (Rp.int .i64) r] w' := by
 refine enter Tryd.func27 Aa Tryd.ntmps27 Aa fun a F => ?_
 have W := Stw.start Y w0
 obtain ⟨v2, h1, h_v1⟩ := h_v1.ex C7
 unfold FH at H
 refine Aj (Ae ?_)
 refine C5 (cs := [.int .i64 p0.un.1, .int .i64 p0.un.2.1, .int .i64 p0.un.2.2.1, v1]) F W Aa Aa Aa fun b1 a w F W => ?_
 refine ls F W Aa (Ah F Aa).q fun a w F W => ?_
 refine Ag (Ad (Aj (Ae ?_)))
 refine ls F W Aa (Ah F Aa).q fun a w F W => ?_
 refine Ag (Ad ?_)
 obtain ⟨o1, G1, K1⟩ := Am H
 refine AO (fun a w => ∃ x1 : List Int, ∃ v3 : Value, some (x1) = some o1 ∧ Fr 22 [] [(4, .slice none 0 0), (5, v3)] a ∧ Stw ⟨Y, [], w0⟩ [(b1, [.int .i64 p0.un.1, .int .i64 p0.un.2.1, .int .i64 p0.un.2.2.1, v1])] [row v3 3 (Rp.int .i64) x1] w) ?_ ?_
 ·
  have H := G1
  clear G1 K1
  refine Aj (Ae ?_)
  refine ls F W Aa (Ah F Aa).q fun a w F W => ?_
  refine Ag (Ad (AA ?_))
  have W := W.nilRow 3 (Rp.int .i64)
  refine BI H (fun s a w => ∃ v4 : Value, Fr 22 [] [(1, .int .i64 p1), (2, .pointer (some ⟨b1, 0, none⟩)), (4, .slice none 0 0), (5, v4), (6, .int .i64 s.2)] a ∧ Stw ⟨Y, [], w0⟩ [(b1, [.int .i64 p0.un.1, .int .i64 p0.un.2.1, .int .i64 p0.un.2.2.1, v1])] [row v4 3 (Rp.int .i64) s.1] w) ⟨(Value.slice none 0 0), F.re ⟨rfl, Aa, Aa, Aa, Aa, trivial⟩, W⟩ fun s o a w H L2 hR => ?_
  obtain ⟨x2, x3⟩ := s
  obtain ⟨v4, F, W⟩ := hR
  have F : Fr 22 [] [(1, .int .i64 p1), (2, .pointer (some ⟨b1, 0, none⟩)), (4, .slice none 0 0), (5, v4), (6, .int .i64 x3)] a := F
  have W : Stw ⟨Y, [], w0⟩ [(b1, [.int .i64 p0.un.1, .int .i64 p0.un.2.1, .int .i64 p0.un.2.2.1, v1])] [row v4 3 (Rp.int .i64) x2] w := W
  rw [EK] at H
  refine Aj (Aj (Ae ?_))
  iterate 2 refine ls F W Aa (Ai F Aa).q fun a w F W => ?_
  refine ls F W Aa (AU (v := Value.int .i64 (CC p1)) F Si Aa (fun w W => Ju any w p1 _ Aa)) fun a w F W => ?_
  refine ls F W Aa (F9 F Aa Aa).q fun a w F W => ?_
  refine Ag (Ad ?_)
  refine Ay F Aa (fun hb => ?_) fun hb => ?_
  ·
   have H := AW (Bm hb) H
   rw [hb] at F
   clear hb
   refine Aw (Ad ?_)
   obtain ⟨o3, G3, K3⟩ := Am H
   refine AO (fun a w => ∃ x4 : List Int, ∃ v5 : Value, some (x4) = some o3 ∧ Fr 22 [] [(1, .int .i64 p1), (2, .pointer (some ⟨b1, 0, none⟩)), (4, .slice none 0 0), (5, v5), (6, .int .i64 x3)] a ∧ Stw ⟨Y, [], w0⟩ [(b1, [.int .i64 p0.un.1, .int .i64 p0.un.2.1, .int .i64 p0.un.2.2.1, v1])] [row v5 3 (Rp.int .i64) x4] w) ?_ ?_
   ·
    have H := G3
    clear G3 K3
    refine AA (Aj (Ae ?_))
    refine ls F W Aa (Aq (v := Value.agg #[.int .i64 p0.un.1, .int .i64 p0.un.2.1, .int .i64 p0.un.2.2.1, v1]) 0 F Aa Aa FC Aa).q fun a w F W => ?_
    iterate 2 refine ls F W Aa (Ai F Aa).q fun a w F W => ?_
    obtain ⟨x5, h2, H⟩ := Am H
    refine ls F W Aa (AU (v := Value.bool x5) F SJ Aa (fun w W => Og any w (v1) p0 p1 x3 _ h2 (((AP C7 h1 (Av h_v1)) : EC _ _ _ _ _ _) w W).nx)) fun a w F W => ?_
    refine Ag (Ad ?_)
    refine Ay F Aa (fun hb => ?_) fun hb => ?_
    ·
     have H := AW hb H
     rw [hb] at F
     clear hb
     refine Ae ?_
     iterate 2 refine ls F W Aa (Ai F Aa).q fun a w F W => ?_
     refine GE (z := Value.int .i64 0) (cs := [.int .i64 x3]) (Rp.int .i64) ([x3] : List Int) F W Aa Ds Z3 Aa Aa Aa Aa Aa Aa (Fl.int.repL _ _ ([x3] : List Int)) fun v6 a w F W => ?_
     obtain ⟨x6, h3, H⟩ := Am H
     refine E8 (r := (Rp.int .i64)) (i := 1) F W Aa Ds Aa Aa Aa Aa (FN W 0 Aa) h3 Aa fun v7 a w F W => ?_
     have W : Stw ⟨Y, [], w0⟩ [(b1, [.int .i64 p0.un.1, .int .i64 p0.un.2.1, .int .i64 p0.un.2.2.1, v1])] [row v7 3 (Rp.int .i64) x6, row v6 3 (Rp.int .i64) ([x3] : List Int)] w := W
     refine ls F W Aa (Ah F Aa).q fun a w F W => ?_
     refine Ag (A8 (Ad ?_))
     have W := W.sub (M' := [(b1, [.int .i64 p0.un.1, .int .i64 p0.un.2.1, .int .i64 p0.un.2.2.1, v1])]) (Z' := [row v7 3 (Rp.int .i64) x6]) (List.Sublist.refl _) (List.Sublist.cons_cons _ (List.nil_sublist _))
     exact ⟨_, (v7), H, F.re ⟨rfl, Aa, Aa, Aa, Aa, trivial⟩, W⟩
    have H := AX (by rw [hb]; decide) H
    rw [hb] at F
    clear hb
    refine Aw (A8 (Ad ?_))
    exact ⟨_, (v4), H, F.re ⟨rfl, Aa, Aa, Aa, Aa, trivial⟩, W⟩
   rintro a w ⟨x4, v5, hj, F, W⟩
   have hj := AM hj
   subst hj
   have H := K3
   clear G3 K3
   refine Ae ?_
   refine ls F W Aa (Ai F Aa).q fun a w F W => ?_
   refine ls F W Aa (BC F Aa Aa Aa).q fun a w F W => ?_
   refine ls F W Aa (Ah F Aa).q fun a w F W => ?_
   refine Ag (Ad ?_)
   exact ⟨_, H, (v5), F.re ⟨rfl, Aa, Aa, Aa, Aa, trivial⟩, W⟩
  have H := AX (Bl hb) H
  rw [hb] at F
  clear hb
  refine Bx ?_
  iterate 2 refine BO ?_
  refine Bz (Ad ?_)
  have H := L2 _ H
  exact ⟨_, (v4), H, F.re ⟨rfl, Aa, trivial⟩, W⟩
 rintro a w ⟨x1, v3, hj, F, W⟩
 have hj := AM hj
 subst hj
 have H := K1
 clear G1 K1
 refine Aj (Ae ?_)
 refine ls F W Aa (Ai F Aa).q fun a w F W => ?_
 refine ls F W Aa (Ah F Aa).q fun a w F W => ?_
 refine Ag (Ad (Az ?_))
 have H := AM H
 subst H
 refine AQ (.inl Aa) F W Aa (AD F Aa) ?_
 have W := W.sub (M' := []) (Z' := [row v3 3 (Rp.int .i64) x1]) (List.nil_sublist _) (List.Sublist.refl _)
 exact ⟨(v3), Aa, W⟩
theorem S9 : Has Tryd.prog 27 := ⟨fun args w => Ao Tryd.func27 rfl (by decide) args w⟩
noncomputable def FX (p0 : List Int) (p1 : List Int) : Int → Option (Int ⊕ (Unit ⊕ Bool))
  | x1 => (if x1 < (p0.length : Int) then (ix p0 x1).bind fun x2 => (ix p1 x1).bind fun x3 => (if x2 ≠ x3 then some (.inr (.inr false)) else some (.inl (A1 (x1 + 1)))) else some (.inr (.inl ())))
noncomputable def HF (p0 : List Int) (p1 : List Int) : Option Bool := (if (p0.length : Int) ≠ (p1.length : Int) then some false else IX (A3 (FX p0 p1) 0) fun _ => some true)
theorem NW (Y : Nat → Prop) (w0 : World) (v1 : Value) (v2 : Value) (p0 : List Int) (p1 : List Int) (r : Bool) (H : HF p0 p1 = some r) (h_v1 : Sl w0 (NX []) (Rp.int .i64) v1 p0) (h_v2 : Sl w0 (NX []) (Rp.int .i64) v2 p1) :
    Calls Tryd.prog 25 #[v1, v2] w0 fun e w' => e = .returned (.bool r) ∧ Below w0.heap.size w0 w' := by
 refine enter Tryd.func25 Aa Tryd.ntmps25 Aa fun a F => ?_
 have W := Stw.start Y w0
 unfold HF at H
 refine Aj (Ae ?_)
 refine ls F W Aa (Ah F Aa).q fun a w F W => ?_
 refine Ag (Ad (Aj (Aj (Ae ?_))))
 refine ls F W Aa (Ai F Aa).q fun a w F W => ?_
 refine ls F W Aa (CT (r := (Rp.int .i64)) (l := p0) Nk Aa F Aa (Av h_v1)).q fun a w F W => ?_
 refine ls F W Aa (Ai F Aa).q fun a w F W => ?_
 refine ls F W Aa (CT (r := (Rp.int .i64)) (l := p1) Nk Aa F Aa (Av h_v2)).q fun a w F W => ?_
 refine ls F W Aa (E7 F Aa Aa).q fun a w F W => ?_
 refine Ag (Ad ?_)
 refine Ay F Aa (fun hb => ?_) fun hb => ?_
 ·
  have H := AW (Bm hb) H
  rw [hb] at F
  clear hb
  refine Aj (Ae ?_)
  refine ls F W Aa (Ah F Aa).q fun a w F W => ?_
  refine Ag (Ad (Az (AR ?_)))
  have H := AM H
  subst H
  refine AQ (.inl Aa) F W Aa (AD F Aa) ?_
  exact ⟨rfl, W.done⟩
 have H := AX (Bl hb) H
 rw [hb] at F
 clear hb
 refine Aw (Ad ?_)
 obtain ⟨o1, G1, K1, L1⟩ := OP H
 refine AO (fun a w => some (Sum.inl ()) = some o1 ∧ Fr 26 [] [(4, .bool false)] a ∧ Stw ⟨Y, [], w0⟩ [] [] w) ?_ ?_
 ·
  have H := G1
  clear G1 K1
  refine Aj (Ae ?_)
  refine ls F W Aa (Ah F Aa).q fun a w F W => ?_
  refine Ag (Ad (AA ?_))
  refine BI H (fun s a w => Fr 26 [] [(0, v1), (1, v2), (4, .bool false), (5, .int .i64 s)] a ∧ Stw ⟨Y, [], w0⟩ [] [] w) ⟨F.re ⟨rfl, Aa, Aa, Aa, trivial⟩, W⟩ fun s o a w H L2 hR => ?_
  obtain ⟨x1, rfl⟩ : ∃ x, x = s := ⟨s, rfl⟩
  obtain ⟨F, W⟩ := hR
  have F : Fr 26 [] [(0, v1), (1, v2), (4, .bool false), (5, .int .i64 x1)] a := F
  have W : Stw ⟨Y, [], w0⟩ [] [] w := W
  rw [FX] at H
  refine Aj (Aj (Ae ?_))
  iterate 2 refine ls F W Aa (Ai F Aa).q fun a w F W => ?_
  refine ls F W Aa (CT (r := (Rp.int .i64)) (l := p0) Nk Aa F Aa (Av h_v1)).q fun a w F W => ?_
  refine ls F W Aa (Cy F Aa Aa).q fun a w F W => ?_
  refine Ag (Ad ?_)
  refine Ay F Aa (fun hb => ?_) fun hb => ?_
  ·
   have H := AW (Bm hb) H
   rw [hb] at F
   clear hb
   refine Aw (Ad (Aj (AA (Aj ?_))))
   refine BS W MO (by kernel_rfl) ?_
   iterate 2 refine qs F Aa (Ai F Aa).q fun a F => ?_
   obtain ⟨x2, h1, H⟩ := Am H
   refine qs F Aa (AG (r := (Rp.int .i64)) Ds F Aa Aa (Av h_v1) h1).q fun a F => ?_
   refine qs F Aa (Ax (y := Value.int .i64 x2) (j := 0) (i := x1) F Aa Aa (Av h_v1) h1 Fl.int.to T3 Aa).q fun a F => ?_
   iterate 2 refine qs F Aa (Ai F Aa).q fun a F => ?_
   obtain ⟨x3, h2, H⟩ := Am H
   refine qs F Aa (AG (r := (Rp.int .i64)) Ds F Aa Aa (Av h_v2) h2).q fun a F => ?_
   refine qs F Aa (Ax (y := Value.int .i64 x3) (j := 0) (i := x1) F Aa Aa (Av h_v2) h2 Fl.int.to T3 Aa).q fun a F => ?_
   refine qs F Aa (E7 F Aa Aa).q fun a F => ?_
   refine A2 fun w W => ?_
   refine Ad ?_
   refine Ay F Aa (fun hb => ?_) fun hb => ?_
   ·
    have H := AW (Bm hb) H
    rw [hb] at F
    clear hb
    refine Aj (Ae ?_)
    refine ls F W Aa (Ah F Aa).q fun a w F W => ?_
    refine Ag (Ad (Az (Bk ?_)))
    iterate 2 refine AR ?_
    refine Bk (AR ?_)
    have H := L2 _ H
    have H := L1 _ H
    have H := AM H
    subst H
    refine AQ (.inl Aa) F W Aa (AD F Aa) ?_
    exact ⟨rfl, W.done⟩
   have H := AX (Bl hb) H
   rw [hb] at F
   clear hb
   refine Aw (A8 (Ad (Ae ?_)))
   refine ls F W Aa (Ai F Aa).q fun a w F W => ?_
   refine ls F W Aa (BC F Aa Aa Aa).q fun a w F W => ?_
   refine ls F W Aa (Ah F Aa).q fun a w F W => ?_
   refine Ag (Ad ?_)
   exact ⟨_, H, F.re ⟨rfl, Aa, Aa, Aa, trivial⟩, W⟩
  have H := AX (Bl hb) H
  rw [hb] at F
  clear hb
  refine Bx ?_
  iterate 2 refine BO ?_
  refine Bz (Ad ?_)
  have H := L2 _ H
  exact ⟨H, F.re ⟨rfl, trivial⟩, W⟩
 rintro a w ⟨hj, F, W⟩
 have H := K1 _ hj
 clear hj G1 K1 L1
 refine Aj (Ae ?_)
 refine ls F W Aa (Ah F Aa).q fun a w F W => ?_
 refine Ag (Ad (Az ?_))
 have H := AM H
 subst H
 refine AQ (.inl Aa) F W Aa (AD F Aa) ?_
 exact ⟨rfl, W.done⟩
theorem S8 : Has Tryd.prog 25 := ⟨fun args w => Ao Tryd.func25 rfl (by decide) args w⟩
theorem T9 : Ty Tryd.prog 9 false 1 := ⟨by kernel_rfl, by kernel_rfl⟩
noncomputable def IV (p0 : Int) : Option (List UInt8) := (ix ([([115, 114, 99] : List UInt8), ([100, 115, 116] : List UInt8), ([107, 105, 110, 100] : List UInt8), ([116, 97, 103] : List UInt8), ([112, 111, 114, 116] : List UInt8), ([115, 119, 105, 116, 99, 104] : List UInt8)] : List (List UInt8)) p0).bind fun x1 => some x1
theorem Oa (Y : Nat → Prop) (w0 : World)  (p0 : Int) (r : List UInt8) (H : IV p0 = some r)  :
    Calls Tryd.prog 48 #[.int .i64 p0] w0 fun e w' => e = .returned (.string (bs r)) ∧ Below w0.heap.size w0 w' := by
 refine enter Tryd.func48 Aa Tryd.ntmps48 Aa fun a F => ?_
 have W := Stw.start Y w0
 unfold IV at H
 refine Aj (Ae ?_)
 refine ls F W Aa (Ah (v := Value.string (bs ([] : List UInt8))) F Aa).q fun a w F W => ?_
 refine Ag (Ad (Aj (Ae ?_)))
 refine GE (z := Value.string (bs ([] : List UInt8))) (cs := [.string (bs ([115, 114, 99] : List UInt8)), .string (bs ([100, 115, 116] : List UInt8)), .string (bs ([107, 105, 110, 100] : List UInt8)), .string (bs ([116, 97, 103] : List UInt8)), .string (bs ([112, 111, 114, 116] : List UInt8)), .string (bs ([115, 119, 105, 116, 99, 104] : List UInt8))]) Rp.str ([([115, 114, 99] : List UInt8), ([100, 115, 116] : List UInt8), ([107, 105, 110, 100] : List UInt8), ([116, 97, 103] : List UInt8), ([112, 111, 114, 116] : List UInt8), ([115, 119, 105, 116, 99, 104] : List UInt8)] : List (List UInt8)) F W Aa R7 Z9 Aa Aa Aa Aa Aa Aa (Fl.str.repL _ _ ([([115, 114, 99] : List UInt8), ([100, 115, 116] : List UInt8), ([107, 105, 110, 100] : List UInt8), ([116, 97, 103] : List UInt8), ([112, 111, 114, 116] : List UInt8), ([115, 119, 105, 116, 99, 104] : List UInt8)] : List (List UInt8))) fun v1 a w F W => ?_
 refine ls F W Aa (Ai F Aa).q fun a w F W => ?_
 obtain ⟨x1, h1, H⟩ := Am H
 refine ls F W Aa (AG (r := Rp.str) R7 F Aa Aa (Ap 0 Aa) h1).q fun a w F W => ?_
 refine ls F W Aa (Ax (y := Value.string (bs x1)) (j := 0) (i := p0) F Aa Aa (Ap 0 Aa) h1 Fl.str.to T9 Aa).q fun a w F W => ?_
 refine ls F W Aa (Ah F Aa).q fun a w F W => ?_
 refine Ag (Ad (Az ?_))
 have H := AM H
 subst H
 refine AQ (.inl Aa) F W Aa (AD F Aa) ?_
 exact ⟨rfl, W.done⟩
theorem S3 : Has Tryd.prog 48 := ⟨fun args w => Ao Tryd.func48 rfl (by decide) args w⟩
theorem RK : Has Tryd.prog 49 := ⟨fun args w => Ao Tryd.func49 rfl (by decide) args w⟩
noncomputable def FP (fRec : Int → Option (List UInt8)) (p0 : Int) : Option (List UInt8) := (if p0 < 0 then (if (-10) < p0 then (fRec (A1 (0 - p0))).bind fun x1 => (F7 ([45] : List UInt8) x1).bind fun x2 => some x2 else (fRec (A1 (0 - (A1 (Int.tdiv p0 10))))).bind fun x3 => (F7 ([45] : List UInt8) x3).bind fun x4 => (fRec (A1 (0 - (Int.tmod p0 10)))).bind fun x5 => (F7 x4 x5).bind fun x6 => some x6) else (if p0 < 10 then (GR ([48, 49, 50, 51, 52, 53, 54, 55, 56, 57] : List UInt8) p0 (A1 (p0 + 1))).bind fun x7 => some x7 else (fRec (A1 (Int.tdiv p0 10))).bind fun x8 => (GR ([48, 49, 50, 51, 52, 53, 54, 55, 56, 57] : List UInt8) (Int.tmod p0 10) (A1 ((Int.tmod p0 10) + 1))).bind fun x9 => (F7 x8 x9).bind fun x10 => some x10))
noncomputable def Fs : Nat → Int → Option (List UInt8)
  | 0 => fun _ => none
  | n + 1 => FP (Fs n)
noncomputable def IB (p0 : Int) : Option (List UInt8) := Fx fun n => Fs n p0
theorem Lk (fRec : Int → Option (List UInt8)) (ih : ∀ (Y : Nat → Prop) (w0 : World)  (p0 : Int) (r : List UInt8) (H : fRec p0 = some r) , Calls Tryd.prog 49 #[.int .i64 p0] w0 fun e w' => e = .returned (.string (bs r)) ∧ Below w0.heap.size w0 w') (Y : Nat → Prop) (w0 : World)  (p0 : Int) (r : List UInt8) (H : FP fRec p0 = some r)  :
    Calls Tryd.prog 49 #[.int .i64 p0] w0 fun e w' => e = .returned (.string (bs r)) ∧ Below w0.heap.size w0 w' := by
 refine enter Tryd.func49 Aa Tryd.ntmps49 Aa fun a F => ?_
 have W := Stw.start Y w0
 unfold FP at H
 refine Aj (Ae ?_)
 refine ls F W Aa (Ah (v := Value.string (bs ([] : List UInt8))) F Aa).q fun a w F W => ?_
 refine Ag (Ad (Aj (Aj (Ae ?_))))
 refine ls F W Aa (Ai F Aa).q fun a w F W => ?_
 refine ls F W Aa (Cy F Aa Aa).q fun a w F W => ?_
 refine Ag (Ad ?_)
 refine Ay F Aa (fun hb => ?_) fun hb => ?_
 ·
  have H := AW (Bm hb) H
  rw [hb] at F
  clear hb
  refine Aj (Aj (Ae ?_))
  refine ls F W Aa (Ai F Aa).q fun a w F W => ?_
  refine ls F W Aa (EW F Aa Aa).q fun a w F W => ?_
  refine Ag (Ad ?_)
  refine Ay F Aa (fun hb => ?_) fun hb => ?_
  ·
   have H := AW (Bm hb) H
   rw [hb] at F
   clear hb
   refine Aj (Ae ?_)
   refine ls F W Aa (Ai F Aa).q fun a w F W => ?_
   refine ls F W Aa (Cn F Aa Aa Aa).q fun a w F W => ?_
   obtain ⟨x1, h1, H⟩ := Am H
   refine ls F W Aa (AU (v := Value.string (bs x1)) F RK Aa (fun w W => ih any w (A1 (0 - p0)) _ h1)) fun a w F W => ?_
   obtain ⟨x2, h2, H⟩ := Am H
   refine ls F W Aa (E4 (l := ([45] : List UInt8)) (m := x1) F Aa Aa h2).q fun a w F W => ?_
   refine ls F W Aa (Ah F Aa).q fun a w F W => ?_
   refine Ag (Ad (Az ?_))
   iterate 2 refine AR ?_
   have H := AM H
   subst H
   refine AQ (.inl Aa) F W Aa (AD F Aa) ?_
   exact ⟨rfl, W.done⟩
  have H := AX (Bl hb) H
  rw [hb] at F
  clear hb
  refine Aw (Ad (Aj (Ae ?_)))
  refine ls F W Aa (Ai F Aa).q fun a w F W => ?_
  refine ls F W Aa (Ja F Aa Aa (by decide) Aa).q fun a w F W => ?_
  refine ls F W Aa (Cn F Aa Aa Aa).q fun a w F W => ?_
  obtain ⟨x3, h3, H⟩ := Am H
  refine ls F W Aa (AU (v := Value.string (bs x3)) F RK Aa (fun w W => ih any w (A1 (0 - (A1 (Int.tdiv p0 10)))) _ h3)) fun a w F W => ?_
  obtain ⟨x4, h4, H⟩ := Am H
  refine ls F W Aa (E4 (l := ([45] : List UInt8)) (m := x3) F Aa Aa h4).q fun a w F W => ?_
  refine ls F W Aa (Ai F Aa).q fun a w F W => ?_
  refine ls F W Aa (Qb F Aa Aa (by decide) Aa).q fun a w F W => ?_
  refine ls F W Aa (Cn F Aa Aa Aa).q fun a w F W => ?_
  obtain ⟨x5, h5, H⟩ := Am H
  refine ls F W Aa (AU (v := Value.string (bs x5)) F RK Aa (fun w W => ih any w (A1 (0 - (Int.tmod p0 10))) _ h5)) fun a w F W => ?_
  obtain ⟨x6, h6, H⟩ := Am H
  refine ls F W Aa (E4 (l := x4) (m := x5) F Aa Aa h6).q fun a w F W => ?_
  refine ls F W Aa (Ah F Aa).q fun a w F W => ?_
  refine Ag (Ad (Az (AR ?_)))
  have H := AM H
  subst H
  refine AQ (.inl Aa) F W Aa (AD F Aa) ?_
  exact ⟨rfl, W.done⟩
 have H := AX (Bl hb) H
 rw [hb] at F
 clear hb
 refine Aw (Ad (Aj (Aj (Ae ?_))))
 refine ls F W Aa (Ai F Aa).q fun a w F W => ?_
 refine ls F W Aa (Cy F Aa Aa).q fun a w F W => ?_
 refine Ag (Ad ?_)
 refine Ay F Aa (fun hb => ?_) fun hb => ?_
 ·
  have H := AW (Bm hb) H
  rw [hb] at F
  clear hb
  refine Aj (Ae ?_)
  iterate 2 refine ls F W Aa (Ai F Aa).q fun a w F W => ?_
  refine ls F W Aa (BC F Aa Aa Aa).q fun a w F W => ?_
  obtain ⟨x7, h7, H⟩ := Am H
  refine ls F W Aa (NP (l := ([48, 49, 50, 51, 52, 53, 54, 55, 56, 57] : List UInt8)) Sk F Aa Aa Aa h7).q fun a w F W => ?_
  refine ls F W Aa (Ah F Aa).q fun a w F W => ?_
  refine Ag (Ad (Az (AR ?_)))
  have H := AM H
  subst H
  refine AQ (.inl Aa) F W Aa (AD F Aa) ?_
  exact ⟨rfl, W.done⟩
 have H := AX (Bl hb) H
 rw [hb] at F
 clear hb
 refine Aw (Ad (Aj ?_))
 refine BS W MO (by kernel_rfl) ?_
 refine qs F Aa (Ai F Aa).q fun a F => ?_
 refine qs F Aa (Ja F Aa Aa (by decide) Aa).q fun a F => ?_
 obtain ⟨x8, h8, H⟩ := Am H
 refine qs F Aa (AU (v := Value.string (bs x8)) F RK Aa (fun w W => ih any w (A1 (Int.tdiv p0 10)) _ h8)) fun a F => ?_
 refine qs F Aa (Ai F Aa).q fun a F => ?_
 refine qs F Aa (Qb F Aa Aa (by decide) Aa).q fun a F => ?_
 refine qs F Aa (Ai F Aa).q fun a F => ?_
 refine qs F Aa (Qb F Aa Aa (by decide) Aa).q fun a F => ?_
 refine qs F Aa (BC F Aa Aa Aa).q fun a F => ?_
 obtain ⟨x9, h9, H⟩ := Am H
 refine qs F Aa (NP (l := ([48, 49, 50, 51, 52, 53, 54, 55, 56, 57] : List UInt8)) Sk F Aa Aa Aa h9).q fun a F => ?_
 obtain ⟨x10, h10, H⟩ := Am H
 refine qs F Aa (E4 (l := x8) (m := x9) F Aa Aa h10).q fun a F => ?_
 refine qs F Aa (Ah F Aa).q fun a F => ?_
 refine A2 fun w W => ?_
 refine Ad (Az ?_)
 have H := AM H
 subst H
 refine AQ (.inl Aa) F W Aa (AD F Aa) ?_
 exact ⟨rfl, W.done⟩
theorem LK : ∀ (n : Nat) (Y : Nat → Prop) (w0 : World)  (p0 : Int) (r : List UInt8) (H : Fs n p0 = some r) , Calls Tryd.prog 49 #[.int .i64 p0] w0 fun e w' => e = .returned (.string (bs r)) ∧ Below w0.heap.size w0 w' := by
  intro n
  induction n with
  | zero => intro Y w0  p0 r H; exact nomatch H
  | succ n ih => intro Y w0  p0 r H ; exact Lk (Fs n) ih Y w0  p0 r H 
theorem MH (Y : Nat → Prop) (w0 : World)  (p0 : Int) (r : List UInt8) (H : IB p0 = some r)  :
    Calls Tryd.prog 49 #[.int .i64 p0] w0 fun e w' => e = .returned (.string (bs r)) ∧ Below w0.heap.size w0 w' := by
  obtain ⟨n, H⟩ := Cs H
  exact LK n Y w0  p0 r H 
theorem SF : Has Tryd.prog 29 := ⟨fun args w => Ao Tryd.func29 rfl (by decide) args w⟩
noncomputable def Db (fRec : Tr24 → Option (List UInt8)) (p0 : Tr24) (x5 : List UInt8) : (List UInt8 × Int) → Option ((List UInt8 × Int) ⊕ (List UInt8))
  | (x7, x8) => (if x8 < (p0.un.2.2.2.length : Int) then (ix p0.un.2.2.2 x8).bind fun x9 => (fRec x9).bind fun x10 => ((ix p0.un.2.2.2 x8).bind fun x12 => (if 4 < x12.un.1 then (F7 ([40] : List UInt8) x10).bind fun x13 => (F7 x13 ([41] : List UInt8)).bind fun x14 => some x14 else some x10)).bind fun x11 => (if 0 < x8 then (F7 x7 x5).bind fun x16 => some x16 else some x7).bind fun x15 => (F7 x15 x11).bind fun x17 => some (.inl (x17, A1 (x8 + 1))) else some (.inr x7))
noncomputable def Ep (fRec : Tr24 → Option (List UInt8)) (p0 : Tr24) : Option (List UInt8) := (if p0.un.1 = 1 then some ([116, 114, 117, 101] : List UInt8) else (if p0.un.1 = 2 then some ([102, 97, 108, 115, 101] : List UInt8) else (if p0.un.1 = 3 then (IV p0.un.2.1).bind fun x1 => (F7 x1 ([32, 61, 32] : List UInt8)).bind fun x2 => (IB p0.un.2.2.1).bind fun x3 => (F7 x2 x3).bind fun x4 => some x4 else (if p0.un.1 = 5 then some ([32, 97, 110, 100, 32] : List UInt8) else some ([32, 111, 114, 32] : List UInt8)).bind fun x5 => (A3 (Db fRec p0 x5) (([] : List UInt8), 0)).bind fun x6 => (if p0.un.1 = 4 then (F7 ([110, 111, 116, 32] : List UInt8) x6).bind fun x18 => some x18 else some x6))))
noncomputable def Df : Nat → Tr24 → Option (List UInt8)
  | 0 => fun _ => none
  | n + 1 => Ep (Df n)
noncomputable def Lu (p0 : Tr24) : Option (List UInt8) := Fx fun n => Df n p0
theorem M0 (fRec : Tr24 → Option (List UInt8)) (ih : ∀ (Y : Nat → Prop) (w0 : World) (v1 : Value) (p0 : Tr24) (r : List UInt8) (H : fRec p0 = some r) (h_v1 : Sl w0 (NX []) CJ v1 p0.un.2.2.2), Calls Tryd.prog 29 #[.agg #[.int .i64 p0.un.1, .int .i64 p0.un.2.1, .int .i64 p0.un.2.2.1, v1]] w0 fun e w' => e = .returned (.string (bs r)) ∧ Below w0.heap.size w0 w') (Y : Nat → Prop) (w0 : World) (v1 : Value) (p0 : Tr24) (r : List UInt8) (H : Ep fRec p0 = some r) (h_v1 : Sl w0 (NX []) CJ v1 p0.un.2.2.2) :
    Calls Tryd.prog 29 #[.agg #[.int .i64 p0.un.1, .int .i64 p0.un.2.1, .int .i64 p0.un.2.2.1, v1]] w0 fun e w' => e = .returned (.string (bs r)) ∧ Below w0.heap.size w0 w' := by
 refine enter Tryd.func29 Aa Tryd.ntmps29 Aa fun a F => ?_
 have W := Stw.start Y w0
 obtain ⟨v2, h1, h_v1⟩ := h_v1.ex C7
 unfold Ep at H
 refine Aj (Ae ?_)
 refine C5 (cs := [.int .i64 p0.un.1, .int .i64 p0.un.2.1, .int .i64 p0.un.2.2.1, v1]) F W Aa Aa Aa fun b1 a w F W => ?_
 refine ls F W Aa (Ah (v := Value.string (bs ([] : List UInt8))) F Aa).q fun a w F W => ?_
 refine Ag (Ad (Aj (Aj (Ae ?_))))
 refine ls F W Aa (Ak BZ Aa Aa Aa T3 F Aa 0 Aa).q fun a w F W => ?_
 refine ls F W Aa (Aq (v := Value.int .i64 p0.un.1) 0 F Aa Aa T3 Aa).q fun a w F W => ?_
 refine ls F W Aa (Bq F Aa Aa).q fun a w F W => ?_
 refine Ag (Ad ?_)
 refine Ay F Aa (fun hb => ?_) fun hb => ?_
 ·
  have H := AW (Bm hb) H
  rw [hb] at F
  clear hb
  refine Aj (Ae ?_)
  refine ls F W Aa (Ah (v := Value.string (bs ([116, 114, 117, 101] : List UInt8))) F Aa).q fun a w F W => ?_
  refine Ag (Ad (Az (AR ?_)))
  have H := AM H
  subst H
  refine AQ (.inl Aa) F W Aa (AD F Aa) ?_
  exact ⟨rfl, W.done⟩
 have H := AX (Bl hb) H
 rw [hb] at F
 clear hb
 refine Aw (Ad (Aj (Aj (Ae ?_))))
 refine ls F W Aa (Ak BZ Aa Aa Aa T3 F Aa 0 Aa).q fun a w F W => ?_
 refine ls F W Aa (Aq (v := Value.int .i64 p0.un.1) 0 F Aa Aa T3 Aa).q fun a w F W => ?_
 refine ls F W Aa (Bq F Aa Aa).q fun a w F W => ?_
 refine Ag (Ad ?_)
 refine Ay F Aa (fun hb => ?_) fun hb => ?_
 ·
  have H := AW (Bm hb) H
  rw [hb] at F
  clear hb
  refine Aj (Ae ?_)
  refine ls F W Aa (Ah (v := Value.string (bs ([102, 97, 108, 115, 101] : List UInt8))) F Aa).q fun a w F W => ?_
  refine Ag (Ad (Az (AR ?_)))
  have H := AM H
  subst H
  refine AQ (.inl Aa) F W Aa (AD F Aa) ?_
  exact ⟨rfl, W.done⟩
 have H := AX (Bl hb) H
 rw [hb] at F
 clear hb
 refine Aw (Ad (Aj (Aj (Ae ?_))))
 refine ls F W Aa (Ak BZ Aa Aa Aa T3 F Aa 0 Aa).q fun a w F W => ?_
 refine ls F W Aa (Aq (v := Value.int .i64 p0.un.1) 0 F Aa Aa T3 Aa).q fun a w F W => ?_
 refine ls F W Aa (Bq F Aa Aa).q fun a w F W => ?_
 refine Ag (Ad ?_)
 refine Ay F Aa (fun hb => ?_) fun hb => ?_
 ·
  have H := AW (Bm hb) H
  rw [hb] at F
  clear hb
  refine Aj ?_
  refine BS W MO (by kernel_rfl) ?_
  refine qs F Aa (Ak BZ Aa Aa Aa T3 F Aa 1 Aa).q fun a F => ?_
  refine qs F Aa (Aq (v := Value.int .i64 p0.un.2.1) 0 F Aa Aa T3 Aa).q fun a F => ?_
  obtain ⟨x1, h2, H⟩ := Am H
  refine qs F Aa (AU (v := Value.string (bs x1)) F S3 Aa (fun w W => Oa any w p0.un.2.1 _ h2)) fun a F => ?_
  obtain ⟨x2, h3, H⟩ := Am H
  refine qs F Aa (E4 (l := x1) (m := ([32, 61, 32] : List UInt8)) F Aa Aa h3).q fun a F => ?_
  refine qs F Aa (Ak BZ Aa Aa Aa T3 F Aa 2 Aa).q fun a F => ?_
  refine qs F Aa (Aq (v := Value.int .i64 p0.un.2.2.1) 0 F Aa Aa T3 Aa).q fun a F => ?_
  obtain ⟨x3, h4, H⟩ := Am H
  refine qs F Aa (AU (v := Value.string (bs x3)) F RK Aa (fun w W => MH any w p0.un.2.2.1 _ h4)) fun a F => ?_
  obtain ⟨x4, h5, H⟩ := Am H
  refine qs F Aa (E4 (l := x2) (m := x3) F Aa Aa h5).q fun a F => ?_
  refine qs F Aa (Ah F Aa).q fun a F => ?_
  refine A2 fun w W => ?_
  refine Ad (Az (AR ?_))
  have H := AM H
  subst H
  refine AQ (.inl Aa) F W Aa (AD F Aa) ?_
  exact ⟨rfl, W.done⟩
 have H := AX (Bl hb) H
 rw [hb] at F
 clear hb
 refine Aw (Ad (Aj (Ae ?_)))
 refine ls F W Aa (Ah (v := Value.string (bs ([32, 111, 114, 32] : List UInt8))) F Aa).q fun a w F W => ?_
 refine Ag (Ad ?_)
 obtain ⟨o1, G1, K1⟩ := Am H
 refine AO (fun a w => ∃ x5 : List UInt8, some (x5) = some o1 ∧ Fr 64 [] [(1, .pointer (some ⟨b1, 0, none⟩)), (2, .string (bs ([] : List UInt8))), (3, .string (bs x5))] a ∧ Stw ⟨Y, [], w0⟩ [(b1, [.int .i64 p0.un.1, .int .i64 p0.un.2.1, .int .i64 p0.un.2.2.1, v1])] [] w) ?_ ?_
 ·
  have H := G1
  clear G1 K1
  refine Aj (Ae ?_)
  refine ls F W Aa (Ak BZ Aa Aa Aa T3 F Aa 0 Aa).q fun a w F W => ?_
  refine ls F W Aa (Aq (v := Value.int .i64 p0.un.1) 0 F Aa Aa T3 Aa).q fun a w F W => ?_
  refine ls F W Aa (Bq F Aa Aa).q fun a w F W => ?_
  refine Ag (Ad ?_)
  refine Ay F Aa (fun hb => ?_) fun hb => ?_
  ·
   have H := AW (Bm hb) H
   rw [hb] at F
   clear hb
   refine Ae ?_
   refine ls F W Aa (Ah (v := Value.string (bs ([32, 97, 110, 100, 32] : List UInt8))) F Aa).q fun a w F W => ?_
   refine Ag (Ad ?_)
   exact ⟨_, H, F.re ⟨rfl, Aa, Aa, trivial⟩, W⟩
  have H := AX (Bl hb) H
  rw [hb] at F
  clear hb
  refine Aw (Ad ?_)
  exact ⟨_, H, F.re ⟨rfl, Aa, Aa, trivial⟩, W⟩
 rintro a w ⟨x5, hj, F, W⟩
 have hj := AM hj
 subst hj
 have H := K1
 clear G1 K1
 refine Aj (Ae ?_)
 refine ls F W Aa (Ah (v := Value.string (bs ([] : List UInt8))) F Aa).q fun a w F W => ?_
 refine Ag (Ad ?_)
 obtain ⟨o2, G2, K2⟩ := Am H
 refine AO (fun a w => ∃ x6 : List UInt8, some (x6) = some o2 ∧ Fr 64 [] [(1, .pointer (some ⟨b1, 0, none⟩)), (2, .string (bs ([] : List UInt8))), (4, .string (bs x6))] a ∧ Stw ⟨Y, [], w0⟩ [(b1, [.int .i64 p0.un.1, .int .i64 p0.un.2.1, .int .i64 p0.un.2.2.1, v1])] [] w) ?_ ?_
 ·
  have H := G2
  clear G2 K2
  refine Aj (Ae ?_)
  refine ls F W Aa (Ah F Aa).q fun a w F W => ?_
  refine Ag (Ad (AA ?_))
  refine BI H (fun s a w => Fr 64 [] [(1, .pointer (some ⟨b1, 0, none⟩)), (2, .string (bs ([] : List UInt8))), (3, .string (bs x5)), (4, .string (bs s.1)), (5, .int .i64 s.2)] a ∧ Stw ⟨Y, [], w0⟩ [(b1, [.int .i64 p0.un.1, .int .i64 p0.un.2.1, .int .i64 p0.un.2.2.1, v1])] [] w) ⟨F.re ⟨rfl, Aa, Aa, Aa, Aa, trivial⟩, W⟩ fun s o a w H L3 hR => ?_
  obtain ⟨x7, x8⟩ := s
  obtain ⟨F, W⟩ := hR
  have F : Fr 64 [] [(1, .pointer (some ⟨b1, 0, none⟩)), (2, .string (bs ([] : List UInt8))), (3, .string (bs x5)), (4, .string (bs x7)), (5, .int .i64 x8)] a := F
  have W : Stw ⟨Y, [], w0⟩ [(b1, [.int .i64 p0.un.1, .int .i64 p0.un.2.1, .int .i64 p0.un.2.2.1, v1])] [] w := W
  rw [Db] at H
  refine Aj (Aj (Ae ?_))
  refine ls F W Aa (Ai F Aa).q fun a w F W => ?_
  refine ls F W Aa (Ak BZ Aa Aa Aa ER F Aa 3 Aa).q fun a w F W => ?_
  refine ls F W Aa (Aq (v := v1) 0 F Aa Aa ER Aa).q fun a w F W => ?_
  refine ls F W Aa (CT (r := CJ) (l := p0.un.2.2.2) ID Aa F Aa (AP C7 h1 (Av h_v1))).q fun a w F W => ?_
  refine ls F W Aa (Cy F Aa Aa).q fun a w F W => ?_
  refine Ag (Ad ?_)
  refine Ay F Aa (fun hb => ?_) fun hb => ?_
  ·
   have H := AW (Bm hb) H
   rw [hb] at F
   clear hb
   refine Aw (Ad (Aj (AA (Aj (Ae ?_)))))
   refine ls F W Aa (Ak BZ Aa Aa Aa ER F Aa 3 Aa).q fun a w F W => ?_
   refine ls F W Aa (Aq (v := v1) 0 F Aa Aa ER Aa).q fun a w F W => ?_
   refine ls F W Aa (Ai F Aa).q fun a w F W => ?_
   obtain ⟨x9, h6, H⟩ := Am H
   obtain ⟨v3, h7, h8⟩ := DL h1 h6
   have h9 : E5 v3 = [.int .i64 x9.un.1, .int .i64 x9.un.2.1, .int .i64 x9.un.2.2.1, (v3.2.2.2.1)] := congrArg (fun q : Tr24 => ([.int .i64 q.un.1, .int .i64 q.un.2.1, .int .i64 q.un.2.2.1, (v3.2.2.2.1)] : List Value)) h8
   refine ls F W Aa (AG (r := Gd) KF F Aa Aa (Av h_v1) h7).q fun a w F W => ?_
   refine ls F W Aa (Ax (y := Value.agg #[.int .i64 x9.un.1, .int .i64 x9.un.2.1, .int .i64 x9.un.2.2.1, (v3.2.2.2.1)]) (j := 0) (i := x8) (enc := E5) F Aa Aa (Av h_v1) h7 Id FC (by rw [h9]; rfl)).q fun a w F W => ?_
   obtain ⟨x10, h10, H⟩ := Am H
   refine ls F W Aa (AU (v := Value.string (bs x10)) F SF Aa (fun w W => ih any w ((v3.2.2.2.1)) x9 _ h10 (((CG (Av h_v1) h7 (A5.snd (A5.snd (A5.snd A5.here))) (congrArg (fun q : Tr24 => q.un.2.2.2) h8)) : EC _ _ _ _ _ _) w W).nx)) fun a w F W => ?_
   refine ls F W Aa (Ah F Aa).q fun a w F W => ?_
   refine Ag (Ad ?_)
   obtain ⟨o4, G4, K4⟩ := Am H
   refine AO (fun a w => ∃ x11 : List UInt8, some (x11) = some o4 ∧ Fr 64 [] [(1, .pointer (some ⟨b1, 0, none⟩)), (2, .string (bs ([] : List UInt8))), (3, .string (bs x5)), (4, .string (bs x7)), (5, .int .i64 x8), (6, .string (bs x11))] a ∧ Stw ⟨Y, [], w0⟩ [(b1, [.int .i64 p0.un.1, .int .i64 p0.un.2.1, .int .i64 p0.un.2.2.1, v1])] [] w) ?_ ?_
   ·
    have H := G4
    clear G4 K4
    refine Aj ?_
    obtain ⟨v4, h11, h12⟩ := Sl.ex C7 (Sl.at_ h_v1 h7 (A5.snd (A5.snd (A5.snd A5.here))) (congrArg (fun q : Tr24 => q.un.2.2.2) h8))
    refine Ae ?_
    refine ls F W Aa (Ak BZ Aa Aa Aa ER F Aa 3 Aa).q fun a w F W => ?_
    refine ls F W Aa (Aq (v := v1) 0 F Aa Aa ER Aa).q fun a w F W => ?_
    refine ls F W Aa (Ai F Aa).q fun a w F W => ?_
    obtain ⟨x12, h13, H⟩ := Am H
    obtain ⟨v5, h14, h15⟩ := DL h1 h13
    have h16 : E5 v5 = [.int .i64 x12.un.1, .int .i64 x12.un.2.1, .int .i64 x12.un.2.2.1, (v5.2.2.2.1)] := congrArg (fun q : Tr24 => ([.int .i64 q.un.1, .int .i64 q.un.2.1, .int .i64 q.un.2.2.1, (v5.2.2.2.1)] : List Value)) h15
    refine ls F W Aa (AG (r := Gd) KF F Aa Aa (Av h_v1) h14).q fun a w F W => ?_
    refine ls F W Aa (Ak BZ Aa Aa Aa T3 F Aa (Je v1 + (x8).toNat * 4) Aa).q fun a w F W => ?_
    refine ls F W Aa (Ax (y := Value.int .i64 x12.un.1) (j := 0) (i := x8) (enc := E5) F Aa Aa (Av h_v1) h14 Id T3 (by rw [h16]; rfl)).q fun a w F W => ?_
    refine ls F W Aa (EW F Aa Aa).q fun a w F W => ?_
    refine Ag (Ad ?_)
    refine Ay F Aa (fun hb => ?_) fun hb => ?_
    ·
     have H := AW (Bm hb) H
     rw [hb] at F
     clear hb
     refine Ae ?_
     refine ls F W Aa (Ai F Aa).q fun a w F W => ?_
     obtain ⟨x13, h17, H⟩ := Am H
     refine ls F W Aa (E4 (l := ([40] : List UInt8)) (m := x10) F Aa Aa h17).q fun a w F W => ?_
     obtain ⟨x14, h18, H⟩ := Am H
     refine ls F W Aa (E4 (l := x13) (m := ([41] : List UInt8)) F Aa Aa h18).q fun a w F W => ?_
     refine ls F W Aa (Ah F Aa).q fun a w F W => ?_
     refine Ag (Ad ?_)
     exact ⟨_, H, F.re ⟨rfl, Aa, Aa, Aa, Aa, Aa, trivial⟩, W⟩
    have H := AX (Bl hb) H
    rw [hb] at F
    clear hb
    refine Aw (Ad ?_)
    exact ⟨_, H, F.re ⟨rfl, Aa, Aa, Aa, Aa, Aa, trivial⟩, W⟩
   rintro a w ⟨x11, hj, F, W⟩
   have hj := AM hj
   subst hj
   have H := K4
   clear G4 K4
   obtain ⟨o5, G5, K5⟩ := Am H
   refine AO (fun a w => ∃ x15 : List UInt8, some (x15) = some o5 ∧ Fr 64 [] [(1, .pointer (some ⟨b1, 0, none⟩)), (2, .string (bs ([] : List UInt8))), (3, .string (bs x5)), (4, .string (bs x15)), (5, .int .i64 x8), (6, .string (bs x11))] a ∧ Stw ⟨Y, [], w0⟩ [(b1, [.int .i64 p0.un.1, .int .i64 p0.un.2.1, .int .i64 p0.un.2.2.1, v1])] [] w) ?_ ?_
   ·
    have H := G5
    clear G5 K5
    refine Aj (Ae ?_)
    refine ls F W Aa (Ai F Aa).q fun a w F W => ?_
    refine ls F W Aa (EW F Aa Aa).q fun a w F W => ?_
    refine Ag (Ad ?_)
    refine Ay F Aa (fun hb => ?_) fun hb => ?_
    ·
     have H := AW (Bm hb) H
     rw [hb] at F
     clear hb
     refine Ae ?_
     iterate 2 refine ls F W Aa (Ai F Aa).q fun a w F W => ?_
     obtain ⟨x16, h19, H⟩ := Am H
     refine ls F W Aa (E4 (l := x7) (m := x5) F Aa Aa h19).q fun a w F W => ?_
     refine ls F W Aa (Ah F Aa).q fun a w F W => ?_
     refine Ag (Ad ?_)
     exact ⟨_, H, F.re ⟨rfl, Aa, Aa, Aa, Aa, Aa, trivial⟩, W⟩
    have H := AX (Bl hb) H
    rw [hb] at F
    clear hb
    refine Aw (Ad ?_)
    exact ⟨_, H, F.re ⟨rfl, Aa, Aa, Aa, Aa, Aa, trivial⟩, W⟩
   rintro a w ⟨x15, hj, F, W⟩
   have hj := AM hj
   subst hj
   have H := K5
   clear G5 K5
   refine Ae ?_
   iterate 2 refine ls F W Aa (Ai F Aa).q fun a w F W => ?_
   obtain ⟨x17, h20, H⟩ := Am H
   refine ls F W Aa (E4 (l := x15) (m := x11) F Aa Aa h20).q fun a w F W => ?_
   refine ls F W Aa (Ah F Aa).q fun a w F W => ?_
   refine Ag (A8 (Ad (Ae ?_)))
   refine ls F W Aa (Ai F Aa).q fun a w F W => ?_
   refine ls F W Aa (BC F Aa Aa Aa).q fun a w F W => ?_
   refine ls F W Aa (Ah F Aa).q fun a w F W => ?_
   refine Ag (Ad ?_)
   exact ⟨_, H, F.re ⟨rfl, Aa, Aa, Aa, Aa, trivial⟩, W⟩
  have H := AX (Bl hb) H
  rw [hb] at F
  clear hb
  refine Bx ?_
  iterate 2 refine BO ?_
  refine Bz (Ad ?_)
  have H := L3 _ H
  exact ⟨_, H, F.re ⟨rfl, Aa, Aa, trivial⟩, W⟩
 rintro a w ⟨x6, hj, F, W⟩
 have hj := AM hj
 subst hj
 have H := K2
 clear G2 K2
 refine Aj (Aj (Ae ?_))
 refine ls F W Aa (Ak BZ Aa Aa Aa T3 F Aa 0 Aa).q fun a w F W => ?_
 refine ls F W Aa (Aq (v := Value.int .i64 p0.un.1) 0 F Aa Aa T3 Aa).q fun a w F W => ?_
 refine ls F W Aa (Bq F Aa Aa).q fun a w F W => ?_
 refine Ag (Ad ?_)
 refine Ay F Aa (fun hb => ?_) fun hb => ?_
 ·
  have H := AW (Bm hb) H
  rw [hb] at F
  clear hb
  refine Aj (Ae ?_)
  refine ls F W Aa (Ai F Aa).q fun a w F W => ?_
  obtain ⟨x18, h21, H⟩ := Am H
  refine ls F W Aa (E4 (l := ([110, 111, 116, 32] : List UInt8)) (m := x6) F Aa Aa h21).q fun a w F W => ?_
  refine ls F W Aa (Ah F Aa).q fun a w F W => ?_
  refine Ag (Ad (Az (AR ?_)))
  have H := AM H
  subst H
  refine AQ (.inl Aa) F W Aa (AD F Aa) ?_
  exact ⟨rfl, W.done⟩
 have H := AX (Bl hb) H
 rw [hb] at F
 clear hb
 refine Aw (Ad (Aj (Ae ?_)))
 refine ls F W Aa (Ai F Aa).q fun a w F W => ?_
 refine ls F W Aa (Ah F Aa).q fun a w F W => ?_
 refine Ag (Ad (Az ?_))
 have H := AM H
 subst H
 refine AQ (.inl Aa) F W Aa (AD F Aa) ?_
 exact ⟨rfl, W.done⟩
theorem M4 : ∀ (n : Nat) (Y : Nat → Prop) (w0 : World) (v1 : Value) (p0 : Tr24) (r : List UInt8) (H : Df n p0 = some r) (h_v1 : Sl w0 (NX []) CJ v1 p0.un.2.2.2), Calls Tryd.prog 29 #[.agg #[.int .i64 p0.un.1, .int .i64 p0.un.2.1, .int .i64 p0.un.2.2.1, v1]] w0 fun e w' => e = .returned (.string (bs r)) ∧ Below w0.heap.size w0 w' := by
  intro n
  induction n with
  | zero => intro Y w0 v1 p0 r H; exact nomatch H
  | succ n ih => intro Y w0 v1 p0 r H h_v1; exact M0 (Df n) ih Y w0 v1 p0 r H h_v1
theorem Oj (Y : Nat → Prop) (w0 : World) (v1 : Value) (p0 : Tr24) (r : List UInt8) (H : Lu p0 = some r) (h_v1 : Sl w0 (NX []) CJ v1 p0.un.2.2.2) :
    Calls Tryd.prog 29 #[.agg #[.int .i64 p0.un.1, .int .i64 p0.un.2.1, .int .i64 p0.un.2.2.1, v1]] w0 fun e w' => e = .returned (.string (bs r)) ∧ Below w0.heap.size w0 w' := by
  obtain ⟨n, H⟩ := Cs H
  exact M4 n Y w0 v1 p0 r H h_v1
end Go.Proofs.YtepfcpffbabgmaaDoor
