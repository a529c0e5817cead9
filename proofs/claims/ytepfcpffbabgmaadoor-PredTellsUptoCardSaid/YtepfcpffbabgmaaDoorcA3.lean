/- The functions of layer 26, Gx. Conditions: none. -/
import Derived.Test.YtepfcpffbabgmaaDoorcA2
namespace Go.Proofs.YtepfcpffbabgmaaDoor
open Go Go.RowKit
set_option linter.unusedVariables false
set_option linter.unusedSimpArgs false
set_option maxRecDepth 20000
noncomputable def Di (fRec : Tr31 → Option Tr31) (p0 : Tr31) : Option Tr31 := (if (decide (p0.un.1 = 4) && decide (0 < (p0.un.2.2.2.length : Int))) = true then (ix p0.un.2.2.2 0).bind fun x1 => ((E1 fRec) x1).bind fun x2 => some x2 else ((DC fRec) p0.un.2.2.2).bind fun x3 => some (Tr31.of (p0.un.1, p0.un.2.1, p0.un.2.2.1, x3)))
noncomputable def CY : Nat → Tr31 → Option Tr31
  | 0 => fun _ => none
  | n + 1 => Di (CY n)
noncomputable def GY (p0 : Tr31) : Option Tr31 := Fx fun n => CY n p0
theorem LR (fRec : Tr31 → Option Tr31) (ih : ∀ (Y : Nat → Prop) (w0 : World) (v1 : Value) (p0 : Tr31) (r : Tr31) (H : fRec p0 = some r) (h_v1 : Sl w0 (NX []) BJ v1 p0.un.2.2.2), Calls Tryd.prog 23 #[.agg #[.int .i64 p0.un.1, .int .i64 p0.un.2.1, .int .i64 p0.un.2.2.1, v1]] w0 fun e w' => ∃ x : Value, e = .returned (.agg #[.int .i64 r.un.1, .int .i64 r.un.2.1, .int .i64 r.un.2.2.1, x]) ∧ Stw ⟨Y, [], w0⟩ [] [row (x) 31 BJ r.un.2.2.2] w') (Y : Nat → Prop) (w0 : World) (v1 : Value) (p0 : Tr31) (r : Tr31) (H : Di fRec p0 = some r) (h_v1 : Sl w0 (NX []) BJ v1 p0.un.2.2.2) :
    Calls Tryd.prog 23 #[.agg #[.int .i64 p0.un.1, .int .i64 p0.un.2.1, .int .i64 p0.un.2.2.1, v1]] w0 fun e w' => ∃ x : Value, e = .returned (.agg #[.int .i64 r.un.1, .int .i64 r.un.2.1, .int .i64 r.un.2.2.1, x]) ∧ Stw ⟨Y, [], w0⟩ [] [row (x) 31 BJ r.un.2.2.2] w' := by
 refine enter Tryd.func23 Aa Tryd.ntmps23 Aa fun a F => ?_
 have W := Stw.start Y w0
 obtain ⟨v2, h1, h_v1⟩ := h_v1.ex CB
 unfold Di at H
 refine Aj (Ae ?_)
 refine C5 (cs := [.int .i64 p0.un.1, .int .i64 p0.un.2.1, .int .i64 p0.un.2.2.1, v1]) F W Aa Aa Aa fun b1 a w F W => ?_
 refine CK (cs := [.int .i64 0, .int .i64 0, .int .i64 0, .slice none 0 0]) F W Aa KD Aa fun b2 a w F W => ?_
 refine Ag (Ad (Aj ?_))
 refine AO (fun a w => Fr 22 [] [(1, .pointer (some ⟨b1, 0, none⟩)), (2, .pointer (some ⟨b2, 0, none⟩)), (11, .bool (decide (p0.un.1 = 4) && decide (0 < (p0.un.2.2.2.length : Int))))] a ∧ Stw ⟨Y, [], w0⟩ [(b2, [.int .i64 0, .int .i64 0, .int .i64 0, .slice none 0 0]), (b1, [.int .i64 p0.un.1, .int .i64 p0.un.2.1, .int .i64 p0.un.2.2.1, v1])] [] w) ?_ ?_
 ·
  refine Ae ?_
  refine ls F W Aa (Ak CM Aa Aa Aa T3 F Aa 0 Aa).q fun a w F W => ?_
  refine ls F W Aa (Aq (v := Value.int .i64 p0.un.1) 1 F Aa Aa T3 Aa).q fun a w F W => ?_
  refine ls F W Aa (Bq F Aa Aa).q fun a w F W => ?_
  refine ls F W Aa (Ai F Aa).q fun a w F W => ?_
  rcases Bool.eq_false_or_eq_true (decide (p0.un.1 = 4)) with hb0 | hb0
  ·
   rw [hb0] at F
   refine AL F W (Af F Aa Aa Aa Aa) Aa (An Aa) (Ak CM Aa Aa Aa Fp F Aa 3 Aa).q fun a w F W => ?_
   refine AL F W (Af F Aa Aa Aa Aa) Aa (An Aa) (Aq (v := v1) 1 F Aa Aa Fp Aa).q fun a w F W => ?_
   refine AL F W (Af F Aa Aa Aa Aa) Aa (An Aa) (CT (r := BJ) (l := p0.un.2.2.2) GA Aa F Aa (AP CB h1 (Av h_v1))).q fun a w F W => ?_
   refine AL F W (Af F Aa Aa Aa Aa) Aa (An Aa) (EW F Aa Aa).q fun a w F W => ?_
   refine ls F W Aa (Au F Aa Aa Aa).q fun a w F W => ?_
   refine Ag (Ad ?_)
   exact ⟨F.re ⟨rfl, Aa, (by show some (Value.bool (decide (0 < (p0.un.2.2.2.length : Int)))) = some (Value.bool (decide (p0.un.1 = 4) && decide (0 < (p0.un.2.2.2.length : Int)))); try rw [hb0]; all_goals simp only [Bool.not_true, Bool.not_false, Bool.true_and, Bool.false_and, Bool.true_or, Bool.false_or, Bool.and_true, Bool.or_false, cond_true, cond_false]), trivial⟩, W⟩
  rw [hb0] at F
  iterate 4 refine CD F Aa Aa Aa Aa Aa Aa Aa fun a F => ?_
  refine ls F W Aa (As F Aa Aa Aa).q fun a w F W => ?_
  refine Ag (Ad ?_)
  exact ⟨F.re ⟨rfl, Aa, (by show some (Value.bool false) = some (Value.bool (decide (p0.un.1 = 4) && decide (0 < (p0.un.2.2.2.length : Int)))); try rw [hb0]; all_goals simp only [Bool.not_true, Bool.not_false, Bool.true_and, Bool.false_and, Bool.true_or, Bool.false_or, Bool.and_true, Bool.or_false, cond_true, cond_false]), trivial⟩, W⟩
 rintro a w ⟨F, W⟩
 refine Ay F Aa (fun hb => ?_) fun hb => ?_
 ·
  have H := AW hb H
  rw [hb] at F
  clear hb
  refine Aj (Ae ?_)
  refine ls F W Aa (Ak CM Aa Aa Aa Fp F Aa 3 Aa).q fun a w F W => ?_
  refine ls F W Aa (Aq (v := v1) 1 F Aa Aa Fp Aa).q fun a w F W => ?_
  obtain ⟨x1, h2, H⟩ := Am H
  obtain ⟨v3, h3, h4⟩ := DL h1 h2
  have h5 : Fd v3 = [.int .i64 x1.un.1, .int .i64 x1.un.2.1, .int .i64 x1.un.2.2.1, (v3.2.2.2.1)] := congrArg (fun q : Tr31 => ([.int .i64 q.un.1, .int .i64 q.un.2.1, .int .i64 q.un.2.2.1, (v3.2.2.2.1)] : List Value)) h4
  refine ls F W Aa (AG (r := Gm) Ke F Aa Aa (Av h_v1) h3).q fun a w F W => ?_
  refine ls F W Aa (Ax (y := Value.agg #[.int .i64 x1.un.1, .int .i64 x1.un.2.1, .int .i64 x1.un.2.2.1, (v3.2.2.2.1)]) (j := 0) (i := 0) (enc := Fd) F Aa Aa (Av h_v1) h3 IH EA (by rw [h5]; rfl)).q fun a w F W => ?_
  obtain ⟨x2, h6, H⟩ := Am H
  refine BD (Ml := []) (Zl := []) (M := [(b2, [.int .i64 0, .int .i64 0, .int .i64 0, .slice none 0 0]), (b1, [.int .i64 p0.un.1, .int .i64 p0.un.2.1, .int .i64 p0.un.2.2.1, v1])]) (Z := []) (β := Value) (rv := fun x => .agg #[.int .i64 x2.un.1, .int .i64 x2.un.2.1, .int .i64 x2.un.2.2.1, x]) (MM := fun x => []) (ZZ := fun x => [row x 31 BJ x2.un.2.2.2]) F W Sw Aa Aa (fun hL => (KL fRec ih) _ w ((v3.2.2.2.1)) x1 _ h6 ((CG (Av h_v1) h3 (A5.snd (A5.snd (A5.snd A5.here))) (congrArg (fun q : Tr31 => q.un.2.2.2) h4)) w W).nx) fun x a w F W => ?_
  obtain ⟨v4, rfl⟩ : ∃ y, y = x := ⟨x, rfl⟩
  have W : Stw ⟨Y, [], w0⟩ [(b2, [.int .i64 0, .int .i64 0, .int .i64 0, .slice none 0 0]), (b1, [.int .i64 p0.un.1, .int .i64 p0.un.2.1, .int .i64 p0.un.2.2.1, v1])] [row v4 31 BJ x2.un.2.2.2] w := W
  refine BN (vs := [.int .i64 x2.un.1, .int .i64 x2.un.2.1, .int .i64 x2.un.2.2.1, v4]) (M' := [(b2, [.int .i64 x2.un.1, .int .i64 x2.un.2.1, .int .i64 x2.un.2.2.1, v4]), (b1, [.int .i64 p0.un.1, .int .i64 p0.un.2.1, .int .i64 p0.un.2.2.1, v1])]) 0 F W Aa Aa Aa EA Aa Aa Aa (AB Aa (AB Aa (AB Aa (AB (W.one (k := 0) Aa) CZ)))) Aa fun w W => ?_
  refine Ag (Ad (Az (AR ?_)))
  have H := AM H
  subst H
  refine AQ (.inl Aa) F W Aa (D3 0 F Aa Aa EA Aa) ?_
  have W := W.sub (M' := []) (Z' := [row v4 31 BJ x2.un.2.2.2]) (List.nil_sublist _) (List.Sublist.refl _)
  exact ⟨(v4), Aa, W⟩
 have H := AX (by rw [hb]; decide) H
 rw [hb] at F
 clear hb
 refine Aw (Ad (Aj (Ae ?_)))
 refine ls F W Aa (Ak CM Aa Aa Aa Fp F Aa 3 Aa).q fun a w F W => ?_
 refine ls F W Aa (Aq (v := v1) 1 F Aa Aa Fp Aa).q fun a w F W => ?_
 obtain ⟨x3, h7, H⟩ := Am H
 refine BD (Ml := []) (Zl := []) (M := [(b2, [.int .i64 0, .int .i64 0, .int .i64 0, .slice none 0 0]), (b1, [.int .i64 p0.un.1, .int .i64 p0.un.2.1, .int .i64 p0.un.2.2.1, v1])]) (Z := []) (β := Value) (rv := fun x => x) (MM := fun x => []) (ZZ := fun x => [row x 31 BJ x3]) F W So Aa Aa (fun hL => (LH fRec ih) _ w (v1) p0.un.2.2.2 _ h7 ((AP CB h1 (Av h_v1)) w W).nx) fun x a w F W => ?_
 obtain ⟨v5, rfl⟩ : ∃ y, y = x := ⟨x, rfl⟩
 have W : Stw ⟨Y, [], w0⟩ [(b2, [.int .i64 0, .int .i64 0, .int .i64 0, .slice none 0 0]), (b1, [.int .i64 p0.un.1, .int .i64 p0.un.2.1, .int .i64 p0.un.2.2.1, v1])] [row v5 31 BJ x3] w := W
 refine ls F W Aa (Ak CM Aa Aa Aa Fp F Aa 3 Aa).q fun a w F W => ?_
 refine HK (M' := [(b2, [.int .i64 0, .int .i64 0, .int .i64 0, .slice none 0 0]), (b1, [.int .i64 p0.un.1, .int .i64 p0.un.2.1, .int .i64 p0.un.2.2.1, v5])]) 1 F W Aa Aa Aa Fp (W.one (k := 0) Aa) Aa Aa fun w W => ?_
 refine Ag (Ad (Aj (Ae ?_)))
 refine ls F W Aa (Aq (v := Value.agg #[.int .i64 p0.un.1, .int .i64 p0.un.2.1, .int .i64 p0.un.2.2.1, v5]) 1 F Aa Aa EA Aa).q fun a w F W => ?_
 refine BN (vs := [.int .i64 p0.un.1, .int .i64 p0.un.2.1, .int .i64 p0.un.2.2.1, v5]) (M' := [(b2, [.int .i64 p0.un.1, .int .i64 p0.un.2.1, .int .i64 p0.un.2.2.1, v5]), (b1, [.int .i64 p0.un.1, .int .i64 p0.un.2.1, .int .i64 p0.un.2.2.1, v5])]) 0 F W Aa Aa Aa EA Aa Aa Aa (AB Aa (AB Aa (AB Aa (AB (W.one (k := 0) Aa) CZ)))) Aa fun w W => ?_
 refine Ag (Ad (Az ?_))
 have H := AM H
 subst H
 refine AQ (.inl Aa) F W Aa (D3 0 F Aa Aa EA Aa) ?_
 have W := W.sub (M' := []) (Z' := [row v5 31 BJ x3]) (List.nil_sublist _) (List.Sublist.refl _)
 exact ⟨(v5), Aa, W⟩
theorem MP : ∀ (n : Nat) (Y : Nat → Prop) (w0 : World) (v1 : Value) (p0 : Tr31) (r : Tr31) (H : CY n p0 = some r) (h_v1 : Sl w0 (NX []) BJ v1 p0.un.2.2.2), Calls Tryd.prog 23 #[.agg #[.int .i64 p0.un.1, .int .i64 p0.un.2.1, .int .i64 p0.un.2.2.1, v1]] w0 fun e w' => ∃ x : Value, e = .returned (.agg #[.int .i64 r.un.1, .int .i64 r.un.2.1, .int .i64 r.un.2.2.1, x]) ∧ Stw ⟨Y, [], w0⟩ [] [row (x) 31 BJ r.un.2.2.2] w' := by
  intro n
  induction n with
  | zero => intro Y w0 v1 p0 r H; exact nomatch H
  | succ n ih => intro Y w0 v1 p0 r H h_v1; exact LR (CY n) ih Y w0 v1 p0 r H h_v1
theorem JB (Y : Nat → Prop) (w0 : World) (v1 : Value) (p0 : Tr31) (r : Tr31) (H : GY p0 = some r) (h_v1 : Sl w0 (NX []) BJ v1 p0.un.2.2.2) :
    Calls Tryd.prog 23 #[.agg #[.int .i64 p0.un.1, .int .i64 p0.un.2.1, .int .i64 p0.un.2.2.1, v1]] w0 fun e w' => ∃ x : Value, e = .returned (.agg #[.int .i64 r.un.1, .int .i64 r.un.2.1, .int .i64 r.un.2.2.1, x]) ∧ Stw ⟨Y, [], w0⟩ [] [row (x) 31 BJ r.un.2.2.2] w' := by
  obtain ⟨n, H⟩ := Cs H
  exact MP n Y w0 v1 p0 r H h_v1
def CP (p0 : Int) : List UInt8 := (if p0 = 0 then ([115, 114, 99] : List UInt8) else (if p0 = 1 then ([100, 115, 116] : List UInt8) else (if p0 = 2 then ([107, 105, 110, 100] : List UInt8) else (if p0 = 3 then ([116, 97, 103] : List UInt8) else (if p0 = 4 then ([112, 111, 114, 116] : List UInt8) else (if p0 = 5 then ([115, 119, 105, 116, 99, 104] : List UInt8) else ([63] : List UInt8)))))))
theorem Jt (Y : Nat → Prop) (w0 : World)  (p0 : Int) (r : List UInt8) (H : CP p0 = r)  :
    Calls Tryd.prog 45 #[.int .i64 p0] w0 fun e w' => e = .returned (.string (bs r)) ∧ Below w0.heap.size w0 w' := by
 refine enter Tryd.func45 Aa Tryd.ntmps45 Aa fun a F => ?_
 have W := Stw.start Y w0
 unfold CP at H
 refine Aj (Ae ?_)
 refine ls F W Aa (Ah (v := Value.string (bs ([] : List UInt8))) F Aa).q fun a w F W => ?_
 refine Ag (Ad (Aj (Aj (Ae ?_))))
 refine ls F W Aa (Ai F Aa).q fun a w F W => ?_
 refine Ag (Ad (AA (Aj (Ae ?_))))
 refine ls F W Aa (Bq F Aa Aa).q fun a w F W => ?_
 refine ls F W Aa (Ah F Aa).q fun a w F W => ?_
 refine Ag (Ad ?_)
 refine Ay F Aa (fun hb => ?_) fun hb => ?_
 ·
  have H := AW (Bm hb) H
  rw [hb] at F
  clear hb
  refine Aj (Ae ?_)
  refine ls F W Aa (Ah (v := Value.string (bs ([115, 114, 99] : List UInt8))) F Aa).q fun a w F W => ?_
  refine Ag (Ad (Az (Bk (AR ?_))))
  subst H
  refine AQ (.inl Aa) F W Aa (AD F Aa) ?_
  exact ⟨rfl, W.done⟩
 have H := AX (Bl hb) H
 rw [hb] at F
 clear hb
 refine Aj (Ae ?_)
 refine ls F W Aa (Bq F Aa Aa).q fun a w F W => ?_
 refine ls F W Aa (Ah F Aa).q fun a w F W => ?_
 refine Ag (Ad ?_)
 refine Ay F Aa (fun hb => ?_) fun hb => ?_
 ·
  have H := AW (Bm hb) H
  rw [hb] at F
  clear hb
  refine Aj (Ae ?_)
  refine ls F W Aa (Ah (v := Value.string (bs ([100, 115, 116] : List UInt8))) F Aa).q fun a w F W => ?_
  refine Ag (Ad (Az (Bk (AR ?_))))
  subst H
  refine AQ (.inl Aa) F W Aa (AD F Aa) ?_
  exact ⟨rfl, W.done⟩
 have H := AX (Bl hb) H
 rw [hb] at F
 clear hb
 refine Aj (Ae ?_)
 refine ls F W Aa (Bq F Aa Aa).q fun a w F W => ?_
 refine ls F W Aa (Ah F Aa).q fun a w F W => ?_
 refine Ag (Ad ?_)
 refine Ay F Aa (fun hb => ?_) fun hb => ?_
 ·
  have H := AW (Bm hb) H
  rw [hb] at F
  clear hb
  refine Aj (Ae ?_)
  refine ls F W Aa (Ah (v := Value.string (bs ([107, 105, 110, 100] : List UInt8))) F Aa).q fun a w F W => ?_
  refine Ag (Ad (Az (Bk (AR ?_))))
  subst H
  refine AQ (.inl Aa) F W Aa (AD F Aa) ?_
  exact ⟨rfl, W.done⟩
 have H := AX (Bl hb) H
 rw [hb] at F
 clear hb
 refine Aj (Ae ?_)
 refine ls F W Aa (Bq F Aa Aa).q fun a w F W => ?_
 refine ls F W Aa (Ah F Aa).q fun a w F W => ?_
 refine Ag (Ad ?_)
 refine Ay F Aa (fun hb => ?_) fun hb => ?_
 ·
  have H := AW (Bm hb) H
  rw [hb] at F
  clear hb
  refine Aj (Ae ?_)
  refine ls F W Aa (Ah (v := Value.string (bs ([116, 97, 103] : List UInt8))) F Aa).q fun a w F W => ?_
  refine Ag (Ad (Az (Bk (AR ?_))))
  subst H
  refine AQ (.inl Aa) F W Aa (AD F Aa) ?_
  exact ⟨rfl, W.done⟩
 have H := AX (Bl hb) H
 rw [hb] at F
 clear hb
 refine Aj (Ae ?_)
 refine ls F W Aa (Bq F Aa Aa).q fun a w F W => ?_
 refine ls F W Aa (Ah F Aa).q fun a w F W => ?_
 refine Ag (Ad ?_)
 refine Ay F Aa (fun hb => ?_) fun hb => ?_
 ·
  have H := AW (Bm hb) H
  rw [hb] at F
  clear hb
  refine Aj (Ae ?_)
  refine ls F W Aa (Ah (v := Value.string (bs ([112, 111, 114, 116] : List UInt8))) F Aa).q fun a w F W => ?_
  refine Ag (Ad (Az (Bk (AR ?_))))
  subst H
  refine AQ (.inl Aa) F W Aa (AD F Aa) ?_
  exact ⟨rfl, W.done⟩
 have H := AX (Bl hb) H
 rw [hb] at F
 clear hb
 refine Aj (Ae ?_)
 refine ls F W Aa (Bq F Aa Aa).q fun a w F W => ?_
 refine ls F W Aa (Ah F Aa).q fun a w F W => ?_
 refine Ag (Ad ?_)
 refine Ay F Aa (fun hb => ?_) fun hb => ?_
 ·
  have H := AW (Bm hb) H
  rw [hb] at F
  clear hb
  refine Aj (Ae ?_)
  refine ls F W Aa (Ah (v := Value.string (bs ([115, 119, 105, 116, 99, 104] : List UInt8))) F Aa).q fun a w F W => ?_
  refine Ag (Ad (Az (Bk (AR ?_))))
  subst H
  refine AQ (.inl Aa) F W Aa (AD F Aa) ?_
  exact ⟨rfl, W.done⟩
 have H := AX (Bl hb) H
 rw [hb] at F
 clear hb
 refine Aw (A8 (Ad (Aj (Ae ?_))))
 refine ls F W Aa (Ah (v := Value.string (bs ([63] : List UInt8))) F Aa).q fun a w F W => ?_
 refine Ag (Ad (Az ?_))
 subst H
 refine AQ (.inl Aa) F W Aa (AD F Aa) ?_
 exact ⟨rfl, W.done⟩
theorem Sv : type_of% Tryd.underlying73 := Tryd.underlying73
theorem Tm : Has Tryd.prog 45 := ⟨fun args w => Ao Tryd.func45 rfl (by decide) args w⟩
theorem SW : Has Tryd.prog 46 := ⟨fun args w => Ao Tryd.func46 rfl (by decide) args w⟩
theorem R5 : Has Tryd.prog 28 := ⟨fun args w => Ao Tryd.func28 rfl (by decide) args w⟩
theorem Z9 : (Tryd.prog.info? 9).bind (·.zero) = some (.string (bs ([] : List UInt8))) := by kernel_rfl
theorem R7 : Et Tryd.prog 73 9 1 16 := Et.of Sv (by kernel_rfl) (by kernel_rfl) (by kernel_rfl) (by decide)
theorem Tk : Has Tryd.prog 58 := ⟨fun args w => Ao Tryd.func58 rfl (by decide) args w⟩
noncomputable def CR (fRec_pred_Text : Tr31 → Option (List UInt8)) (p0 : List Tr31) : (List (List UInt8) × Int) → Option ((List (List UInt8) × Int) ⊕ (List (List UInt8)))
  | (x2, x3) => (if x3 < (p0.length : Int) then (ix p0 x3).bind fun x4 => (fRec_pred_Text x4).bind fun x5 => (if (decide (x4.un.1 = 5) || decide (x4.un.1 = 6)) = true then (F7 ([40] : List UInt8) x5).bind fun x7 => (F7 x7 ([41] : List UInt8)).bind fun x8 => some x8 else some x5).bind fun x6 => (F7 x2 ([x6] : List (List UInt8))).bind fun x9 => some (.inl (x9, A1 (x3 + 1))) else some (.inr x2))
noncomputable def DT (fRec_pred_Text : Tr31 → Option (List UInt8)) (p0 : List Tr31) (p1 : List UInt8) : Option (List UInt8) := (A3 (CR fRec_pred_Text p0) ([], 0)).bind fun x1 => (M7 x1 p1).bind fun x10 => some x10
theorem HT (fRec_pred_Text : Tr31 → Option (List UInt8)) (ih_pred_Text : ∀ (Y : Nat → Prop) (w0 : World) (v1 : Value) (p0 : Tr31) (r : List UInt8) (H : fRec_pred_Text p0 = some r) (h_v1 : Sl w0 (NX []) BJ v1 p0.un.2.2.2) (hG : Gk [] w0), Calls Tryd.prog 28 #[.agg #[.int .i64 p0.un.1, .int .i64 p0.un.2.1, .int .i64 p0.un.2.2.1, v1]] w0 fun e w' => e = .returned (.string (bs r)) ∧ Below w0.heap.size w0 w') (Y : Nat → Prop) (w0 : World) (v1 : Value) (p0 : List Tr31) (p1 : List UInt8) (r : List UInt8) (H : DT fRec_pred_Text p0 p1 = some r) (h_v1 : Sl w0 (NX []) BJ v1 p0) (hG : Gk [] w0) :
    Calls Tryd.prog 47 #[v1, .string (bs p1)] w0 fun e w' => e = .returned (.string (bs r)) ∧ Below w0.heap.size w0 w' := by
 refine enter Tryd.func47 Aa Tryd.ntmps47 Aa fun a F => ?_
 have W := Stw.start Y w0
 obtain ⟨v2, h1, h_v1⟩ := h_v1.ex CB
 unfold DT at H
 refine Aj (Ae ?_)
 refine ls F W Aa (Ah (v := Value.string (bs ([] : List UInt8))) F Aa).q fun a w F W => ?_
 refine Ag (Ad (Aj (Ae ?_)))
 refine ls F W Aa (Ah F Aa).q fun a w F W => ?_
 refine Ag (Ad ?_)
 obtain ⟨o1, G1, K1⟩ := Am H
 refine AO (fun a w => ∃ x1 : List (List UInt8), ∃ v3 : Value, some (x1) = some o1 ∧ Fr 36 [] [(1, .string (bs p1)), (4, .string (bs ([] : List UInt8))), (5, v3)] a ∧ Stw ⟨Y, [], w0⟩ [] [row v3 9 Rp.str x1] w) ?_ ?_
 ·
  have H := G1
  clear G1 K1
  refine Aj (Ae ?_)
  refine ls F W Aa (Ai F Aa).q fun a w F W => ?_
  refine ls F W Aa (CT (r := BJ) (l := p0) GA Aa F Aa (AP CB h1 (Av h_v1))).q fun a w F W => ?_
  refine ls F W Aa (Ai F Aa).q fun a w F W => ?_
  refine Ag (Ad (AA ?_))
  have W := W.nilRow 9 Rp.str
  refine BI H (fun s a w => ∃ v4 : Value, Fr 36 [] [(1, .string (bs p1)), (4, .string (bs ([] : List UInt8))), (5, v4), (9, v1), (10, .int .i64 (p0.length : Int)), (11, .int .i64 s.2)] a ∧ Stw ⟨Y, [], w0⟩ [] [row v4 9 Rp.str s.1] w) ⟨(Value.slice none 0 0), F.re ⟨rfl, Aa, Aa, Aa, Aa, Aa, trivial⟩, W⟩ fun s o a w H L2 hR => ?_
  obtain ⟨x2, x3⟩ := s
  obtain ⟨v4, F, W⟩ := hR
  have F : Fr 36 [] [(1, .string (bs p1)), (4, .string (bs ([] : List UInt8))), (5, v4), (9, v1), (10, .int .i64 (p0.length : Int)), (11, .int .i64 x3)] a := F
  have W : Stw ⟨Y, [], w0⟩ [] [row v4 9 Rp.str x2] w := W
  rw [CR] at H
  refine Aj (Ae ?_)
  refine ls F W Aa (Cy F Aa Aa).q fun a w F W => ?_
  refine Ag (Ad (Aj ?_))
  refine Ay F Aa (fun hb => ?_) fun hb => ?_
  ·
   have H := AW (Bm hb) H
   rw [hb] at F
   clear hb
   refine Aw (Ad (Aj (AA (Aj (Ae ?_)))))
   obtain ⟨x4, h2, H⟩ := Am H
   obtain ⟨v5, h3, h4⟩ := DL h1 h2
   have h5 : Fd v5 = [.int .i64 x4.un.1, .int .i64 x4.un.2.1, .int .i64 x4.un.2.2.1, (v5.2.2.2.1)] := congrArg (fun q : Tr31 => ([.int .i64 q.un.1, .int .i64 q.un.2.1, .int .i64 q.un.2.2.1, (v5.2.2.2.1)] : List Value)) h4
   refine ls F W Aa (AG (r := Gm) Ke F Aa Aa (Av h_v1) h3).q fun a w F W => ?_
   refine ls F W Aa (Ax (y := Value.agg #[.int .i64 x4.un.1, .int .i64 x4.un.2.1, .int .i64 x4.un.2.2.1, (v5.2.2.2.1)]) (j := 0) (i := x3) (enc := Fd) F Aa Aa (Av h_v1) h3 IH EA (by rw [h5]; rfl)).q fun a w F W => ?_
   refine CK (cs := [.int .i64 0, .int .i64 0, .int .i64 0, .slice none 0 0]) F W Aa KD Aa fun b1 a w F W => ?_
   refine BN (vs := [.int .i64 x4.un.1, .int .i64 x4.un.2.1, .int .i64 x4.un.2.2.1, (v5.2.2.2.1)]) (M' := [(b1, [.int .i64 x4.un.1, .int .i64 x4.un.2.1, .int .i64 x4.un.2.2.1, (v5.2.2.2.1)])]) 0 F W Aa Aa Aa EA Aa Aa Aa (AB Aa (AB Aa (AB Aa (AB ((CG (Av h_v1) h3 (A5.snd (A5.snd (A5.snd A5.here))) (congrArg (fun q : Tr31 => q.un.2.2.2) h4)) _ W).one CZ)))) Aa fun w W => ?_
   refine Ag (Ad (Aj (Ae ?_)))
   refine ls F W Aa (Aq (v := Value.agg #[.int .i64 x4.un.1, .int .i64 x4.un.2.1, .int .i64 x4.un.2.2.1, (v5.2.2.2.1)]) 0 F Aa Aa EA Aa).q fun a w F W => ?_
   obtain ⟨x5, h6, H⟩ := Am H
   refine ls F W Aa (AU (v := Value.string (bs x5)) F R5 Aa (fun w W => ih_pred_Text any w ((v5.2.2.2.1)) x4 _ h6 (((CG (Av h_v1) h3 (A5.snd (A5.snd (A5.snd A5.here))) (congrArg (fun q : Tr31 => q.un.2.2.2) h4)) : EC _ _ _ _ _ _) w W).nx (hG.go0 W))) fun a w F W => ?_
   refine ls F W Aa (Ah F Aa).q fun a w F W => ?_
   refine Ag (Ad ?_)
   obtain ⟨o3, G3, K3⟩ := Am H
   refine AO (fun a w => ∃ x6 : List UInt8, some (x6) = some o3 ∧ Fr 36 [] [(1, .string (bs p1)), (4, .string (bs ([] : List UInt8))), (5, v4), (8, .string (bs x6)), (9, v1), (10, .int .i64 (p0.length : Int)), (11, .int .i64 x3)] a ∧ Stw ⟨Y, [], w0⟩ [(b1, [.int .i64 x4.un.1, .int .i64 x4.un.2.1, .int .i64 x4.un.2.2.1, (v5.2.2.2.1)])] [row v4 9 Rp.str x2] w) ?_ ?_
   ·
    have H := G3
    clear G3 K3
    refine AO (fun a w => Fr 36 [] [(1, .string (bs p1)), (4, .string (bs ([] : List UInt8))), (5, v4), (8, .string (bs x5)), (9, v1), (10, .int .i64 (p0.length : Int)), (11, .int .i64 x3), (24, .bool (decide (x4.un.1 = 5) || decide (x4.un.1 = 6)))] a ∧ Stw ⟨Y, [], w0⟩ [(b1, [.int .i64 x4.un.1, .int .i64 x4.un.2.1, .int .i64 x4.un.2.2.1, (v5.2.2.2.1)])] [row v4 9 Rp.str x2] w) ?_ ?_
    ·
     refine Ae ?_
     refine ls F W Aa (Ak CM Aa Aa Aa T3 F Aa 0 Aa).q fun a w F W => ?_
     refine ls F W Aa (Aq (v := Value.int .i64 x4.un.1) 0 F Aa Aa T3 Aa).q fun a w F W => ?_
     refine ls F W Aa (Bq F Aa Aa).q fun a w F W => ?_
     refine ls F W Aa (Ai F Aa).q fun a w F W => ?_
     rcases Bool.eq_false_or_eq_true (decide (x4.un.1 = 5)) with hb0 | hb0
     ·
      rw [hb0] at F
      iterate 3 refine CD F Aa Aa Aa Aa Aa Aa Aa fun a F => ?_
      refine ls F W Aa (Au F Aa Aa Aa).q fun a w F W => ?_
      refine Ag (Ad ?_)
      exact ⟨F.re ⟨rfl, Aa, Aa, Aa, Aa, Aa, Aa, (by show some (Value.bool true) = some (Value.bool (decide (x4.un.1 = 5) || decide (x4.un.1 = 6))); try rw [hb0]; all_goals simp only [Bool.not_true, Bool.not_false, Bool.true_and, Bool.false_and, Bool.true_or, Bool.false_or, Bool.and_true, Bool.or_false, cond_true, cond_false]), trivial⟩, W⟩
     rw [hb0] at F
     refine AL F W (Af F Aa Aa Aa Aa) Aa (An Aa) (Ak CM Aa Aa Aa T3 F Aa 0 Aa).q fun a w F W => ?_
     refine AL F W (Af F Aa Aa Aa Aa) Aa (An Aa) (Aq (v := Value.int .i64 x4.un.1) 0 F Aa Aa T3 Aa).q fun a w F W => ?_
     refine AL F W (Af F Aa Aa Aa Aa) Aa (An Aa) (Bq F Aa Aa).q fun a w F W => ?_
     refine ls F W Aa (As F Aa Aa Aa).q fun a w F W => ?_
     refine Ag (Ad ?_)
     exact ⟨F.re ⟨rfl, Aa, Aa, Aa, Aa, Aa, Aa, (by show some (Value.bool (decide (x4.un.1 = 6))) = some (Value.bool (decide (x4.un.1 = 5) || decide (x4.un.1 = 6))); try rw [hb0]; all_goals simp only [Bool.not_true, Bool.not_false, Bool.true_and, Bool.false_and, Bool.true_or, Bool.false_or, Bool.and_true, Bool.or_false, cond_true, cond_false]), trivial⟩, W⟩
    rintro a w ⟨F, W⟩
    refine Ay F Aa (fun hb => ?_) fun hb => ?_
    ·
     have H := AW hb H
     rw [hb] at F
     clear hb
     refine Ae ?_
     refine ls F W Aa (Ai F Aa).q fun a w F W => ?_
     obtain ⟨x7, h7, H⟩ := Am H
     refine ls F W Aa (E4 (l := ([40] : List UInt8)) (m := x5) F Aa Aa h7).q fun a w F W => ?_
     obtain ⟨x8, h8, H⟩ := Am H
     refine ls F W Aa (E4 (l := x7) (m := ([41] : List UInt8)) F Aa Aa h8).q fun a w F W => ?_
     refine ls F W Aa (Ah F Aa).q fun a w F W => ?_
     refine Ag (Ad ?_)
     exact ⟨_, H, F.re ⟨rfl, Aa, Aa, Aa, Aa, Aa, Aa, trivial⟩, W⟩
    have H := AX (by rw [hb]; decide) H
    rw [hb] at F
    clear hb
    refine Aw (Ad ?_)
    exact ⟨_, H, F.re ⟨rfl, Aa, Aa, Aa, Aa, Aa, Aa, trivial⟩, W⟩
   rintro a w ⟨x6, hj, F, W⟩
   have hj := AM hj
   subst hj
   have H := K3
   clear G3 K3
   refine Ae ?_
   iterate 2 refine ls F W Aa (Ai F Aa).q fun a w F W => ?_
   refine GE (z := Value.string (bs ([] : List UInt8))) (cs := [.string (bs x6)]) Rp.str ([x6] : List (List UInt8)) F W Aa R7 Z9 Aa Aa Aa Aa Aa Aa (Fl.str.repL _ _ ([x6] : List (List UInt8))) fun v6 a w F W => ?_
   obtain ⟨x9, h9, H⟩ := Am H
   refine E8 (r := Rp.str) (i := 1) F W Aa R7 Aa Aa Aa Aa (FN W 0 Aa) h9 Aa fun v7 a w F W => ?_
   have W : Stw ⟨Y, [], w0⟩ [(b1, [.int .i64 x4.un.1, .int .i64 x4.un.2.1, .int .i64 x4.un.2.2.1, (v5.2.2.2.1)])] [row v7 9 Rp.str x9, row v6 9 Rp.str ([x6] : List (List UInt8))] w := W
   refine ls F W Aa (Ah F Aa).q fun a w F W => ?_
   refine Ag (A8 (Ad (Ae ?_)))
   refine ls F W Aa (BC F Aa Aa Aa).q fun a w F W => ?_
   refine ls F W Aa (Ai F Aa).q fun a w F W => ?_
   refine Ag (Ad ?_)
   have W := W.sub (M' := []) (Z' := [row v7 9 Rp.str x9]) (List.nil_sublist _) (List.Sublist.cons_cons _ (List.nil_sublist _))
   exact ⟨_, H, (v7), F.re ⟨rfl, Aa, Aa, Aa, Aa, Aa, trivial⟩, W⟩
  have H := AX (Bl hb) H
  rw [hb] at F
  clear hb
  refine Bx ?_
  iterate 2 refine BO ?_
  refine Bz (Ad ?_)
  have H := L2 _ H
  exact ⟨_, (v4), H, F.re ⟨rfl, Aa, Aa, trivial⟩, W⟩
 rintro a w ⟨x1, v3, hj, F, W⟩
 have hj := AM hj
 subst hj
 have H := K1
 clear G1 K1
 refine Aj (Ae ?_)
 iterate 2 refine ls F W Aa (Ai F Aa).q fun a w F W => ?_
 obtain ⟨x10, h10, H⟩ := Am H
 refine ls F W Aa (AU (v := Value.string (bs x10)) F Tk Aa (fun w W => Q9 any w (v3) x1 p1 _ h10 (((Ap 0 Aa) : EC _ _ _ _ _ _) w W).nx)) fun a w F W => ?_
 refine ls F W Aa (Ah F Aa).q fun a w F W => ?_
 refine Ag (Ad (Az ?_))
 have H := AM H
 subst H
 refine AQ (.inl Aa) F W Aa (AD F Aa) ?_
 exact ⟨rfl, W.done⟩
theorem Sn : Has Tryd.prog 47 := ⟨fun args w => Ao Tryd.func47 rfl (by decide) args w⟩
noncomputable def Dj (fRec : Tr31 → Option (List UInt8)) (p0 : Tr31) : Option (List UInt8) := (if p0.un.1 = 1 then some ([116, 114, 117, 101] : List UInt8) else (if p0.un.1 = 2 then some ([102, 97, 108, 115, 101] : List UInt8) else (if p0.un.1 = 3 then (F7 (CP p0.un.2.1) ([32, 61, 32] : List UInt8)).bind fun x1 => (Nz p0.un.2.2.1).bind fun x2 => (F7 x1 x2).bind fun x3 => some x3 else (if p0.un.1 = 4 then ((DT fRec) p0.un.2.2.2 ([] : List UInt8)).bind fun x4 => (F7 ([110, 111, 116, 32] : List UInt8) x4).bind fun x5 => some x5 else (if p0.un.1 = 5 then ((DT fRec) p0.un.2.2.2 ([32, 97, 110, 100, 32] : List UInt8)).bind fun x6 => some x6 else (if p0.un.1 = 6 then ((DT fRec) p0.un.2.2.2 ([32, 111, 114, 32] : List UInt8)).bind fun x7 => some x7 else some ([63] : List UInt8)))))))
noncomputable def C9 : Nat → Tr31 → Option (List UInt8)
  | 0 => fun _ => none
  | n + 1 => Dj (C9 n)
noncomputable def Gg (p0 : Tr31) : Option (List UInt8) := Fx fun n => C9 n p0
theorem Lz (fRec : Tr31 → Option (List UInt8)) (ih : ∀ (Y : Nat → Prop) (w0 : World) (v1 : Value) (p0 : Tr31) (r : List UInt8) (H : fRec p0 = some r) (h_v1 : Sl w0 (NX []) BJ v1 p0.un.2.2.2) (hG : Gk [] w0), Calls Tryd.prog 28 #[.agg #[.int .i64 p0.un.1, .int .i64 p0.un.2.1, .int .i64 p0.un.2.2.1, v1]] w0 fun e w' => e = .returned (.string (bs r)) ∧ Below w0.heap.size w0 w') (Y : Nat → Prop) (w0 : World) (v1 : Value) (p0 : Tr31) (r : List UInt8) (H : Dj fRec p0 = some r) (h_v1 : Sl w0 (NX []) BJ v1 p0.un.2.2.2) (hG : Gk [] w0) :
    Calls Tryd.prog 28 #[.agg #[.int .i64 p0.un.1, .int .i64 p0.un.2.1, .int .i64 p0.un.2.2.1, v1]] w0 fun e w' => e = .returned (.string (bs r)) ∧ Below w0.heap.size w0 w' := by
 refine enter Tryd.func28 Aa Tryd.ntmps28 Aa fun a F => ?_
 have W := Stw.start Y w0
 obtain ⟨v2, h1, h_v1⟩ := h_v1.ex CB
 unfold Dj at H
 refine Aj (Ae ?_)
 refine C5 (cs := [.int .i64 p0.un.1, .int .i64 p0.un.2.1, .int .i64 p0.un.2.2.1, v1]) F W Aa Aa Aa fun b1 a w F W => ?_
 refine ls F W Aa (Ah (v := Value.string (bs ([] : List UInt8))) F Aa).q fun a w F W => ?_
 refine Ag (Ad (Aj (Aj (Ae ?_))))
 refine ls F W Aa (Ak CM Aa Aa Aa T3 F Aa 0 Aa).q fun a w F W => ?_
 refine ls F W Aa (Aq (v := Value.int .i64 p0.un.1) 0 F Aa Aa T3 Aa).q fun a w F W => ?_
 refine Ag (Ad (AA (Aj (Ae ?_))))
 refine ls F W Aa (Bq F Aa Aa).q fun a w F W => ?_
 refine ls F W Aa (Ah F Aa).q fun a w F W => ?_
 refine Ag (Ad ?_)
 refine Ay F Aa (fun hb => ?_) fun hb => ?_
 ·
  have H := AW (Bm hb) H
  rw [hb] at F
  clear hb
  refine Aj (Ae ?_)
  refine ls F W Aa (Ah (v := Value.string (bs ([116, 114, 117, 101] : List UInt8))) F Aa).q fun a w F W => ?_
  refine Ag (Ad (Az (Bk (AR ?_))))
  have H := AM H
  subst H
  refine AQ (.inl Aa) F W Aa (AD F Aa) ?_
  exact ⟨rfl, W.done⟩
 have H := AX (Bl hb) H
 rw [hb] at F
 clear hb
 refine Aj (Ae ?_)
 refine ls F W Aa (Bq F Aa Aa).q fun a w F W => ?_
 refine ls F W Aa (Ah F Aa).q fun a w F W => ?_
 refine Ag (Ad ?_)
 refine Ay F Aa (fun hb => ?_) fun hb => ?_
 ·
  have H := AW (Bm hb) H
  rw [hb] at F
  clear hb
  refine Aj (Ae ?_)
  refine ls F W Aa (Ah (v := Value.string (bs ([102, 97, 108, 115, 101] : List UInt8))) F Aa).q fun a w F W => ?_
  refine Ag (Ad (Az (Bk (AR ?_))))
  have H := AM H
  subst H
  refine AQ (.inl Aa) F W Aa (AD F Aa) ?_
  exact ⟨rfl, W.done⟩
 have H := AX (Bl hb) H
 rw [hb] at F
 clear hb
 refine Aj (Ae ?_)
 refine ls F W Aa (Bq F Aa Aa).q fun a w F W => ?_
 refine ls F W Aa (Ah F Aa).q fun a w F W => ?_
 refine Ag (Ad ?_)
 refine Ay F Aa (fun hb => ?_) fun hb => ?_
 ·
  have H := AW (Bm hb) H
  rw [hb] at F
  clear hb
  refine Aj ?_
  refine BS W MO (by kernel_rfl) ?_
  refine qs F Aa (Ak CM Aa Aa Aa T3 F Aa 1 Aa).q fun a F => ?_
  refine qs F Aa (Aq (v := Value.int .i64 p0.un.2.1) 0 F Aa Aa T3 Aa).q fun a F => ?_
  refine qs F Aa (AU (v := Value.string (bs (CP p0.un.2.1))) F Tm Aa (fun w W => Jt any w p0.un.2.1 _ Aa)) fun a F => ?_
  obtain ⟨x1, h2, H⟩ := Am H
  refine qs F Aa (E4 (l := (CP p0.un.2.1)) (m := ([32, 61, 32] : List UInt8)) F Aa Aa h2).q fun a F => ?_
  refine qs F Aa (Ak CM Aa Aa Aa T3 F Aa 2 Aa).q fun a F => ?_
  refine qs F Aa (Aq (v := Value.int .i64 p0.un.2.2.1) 0 F Aa Aa T3 Aa).q fun a F => ?_
  obtain ⟨x2, h3, H⟩ := Am H
  refine qs F Aa (AU (v := Value.string (bs x2)) F SW Aa (fun w W => Q7 any w p0.un.2.2.1 _ h3 (hG.go0 W))) fun a F => ?_
  obtain ⟨x3, h4, H⟩ := Am H
  refine qs F Aa (E4 (l := x1) (m := x2) F Aa Aa h4).q fun a F => ?_
  refine qs F Aa (Ah F Aa).q fun a F => ?_
  refine A2 fun w W => ?_
  refine Ad (Az (Bk (AR ?_)))
  have H := AM H
  subst H
  refine AQ (.inl Aa) F W Aa (AD F Aa) ?_
  exact ⟨rfl, W.done⟩
 have H := AX (Bl hb) H
 rw [hb] at F
 clear hb
 refine Aj (Ae ?_)
 refine ls F W Aa (Bq F Aa Aa).q fun a w F W => ?_
 refine ls F W Aa (Ah F Aa).q fun a w F W => ?_
 refine Ag (Ad ?_)
 refine Ay F Aa (fun hb => ?_) fun hb => ?_
 ·
  have H := AW (Bm hb) H
  rw [hb] at F
  clear hb
  refine Aj (Ae ?_)
  refine ls F W Aa (Ak CM Aa Aa Aa Fp F Aa 3 Aa).q fun a w F W => ?_
  refine ls F W Aa (Aq (v := v1) 0 F Aa Aa Fp Aa).q fun a w F W => ?_
  obtain ⟨x4, h5, H⟩ := Am H
  refine ls F W Aa (AU (v := Value.string (bs x4)) F Sn Aa (fun w W => (HT fRec ih) any w (v1) p0.un.2.2.2 ([] : List UInt8) _ h5 (((AP CB h1 (Av h_v1)) : EC _ _ _ _ _ _) w W).nx (hG.go0 W))) fun a w F W => ?_
  obtain ⟨x5, h6, H⟩ := Am H
  refine ls F W Aa (E4 (l := ([110, 111, 116, 32] : List UInt8)) (m := x4) F Aa Aa h6).q fun a w F W => ?_
  refine ls F W Aa (Ah F Aa).q fun a w F W => ?_
  refine Ag (Ad (Az (Bk (AR ?_))))
  have H := AM H
  subst H
  refine AQ (.inl Aa) F W Aa (AD F Aa) ?_
  exact ⟨rfl, W.done⟩
 have H := AX (Bl hb) H
 rw [hb] at F
 clear hb
 refine Aj (Ae ?_)
 refine ls F W Aa (Bq F Aa Aa).q fun a w F W => ?_
 refine ls F W Aa (Ah F Aa).q fun a w F W => ?_
 refine Ag (Ad ?_)
 refine Ay F Aa (fun hb => ?_) fun hb => ?_
 ·
  have H := AW (Bm hb) H
  rw [hb] at F
  clear hb
  refine Aj (Ae ?_)
  refine ls F W Aa (Ak CM Aa Aa Aa Fp F Aa 3 Aa).q fun a w F W => ?_
  refine ls F W Aa (Aq (v := v1) 0 F Aa Aa Fp Aa).q fun a w F W => ?_
  obtain ⟨x6, h7, H⟩ := Am H
  refine ls F W Aa (AU (v := Value.string (bs x6)) F Sn Aa (fun w W => (HT fRec ih) any w (v1) p0.un.2.2.2 ([32, 97, 110, 100, 32] : List UInt8) _ h7 (((AP CB h1 (Av h_v1)) : EC _ _ _ _ _ _) w W).nx (hG.go0 W))) fun a w F W => ?_
  refine ls F W Aa (Ah F Aa).q fun a w F W => ?_
  refine Ag (Ad (Az (Bk (AR ?_))))
  have H := AM H
  subst H
  refine AQ (.inl Aa) F W Aa (AD F Aa) ?_
  exact ⟨rfl, W.done⟩
 have H := AX (Bl hb) H
 rw [hb] at F
 clear hb
 refine Aj (Ae ?_)
 refine ls F W Aa (Bq F Aa Aa).q fun a w F W => ?_
 refine ls F W Aa (Ah F Aa).q fun a w F W => ?_
 refine Ag (Ad ?_)
 refine Ay F Aa (fun hb => ?_) fun hb => ?_
 ·
  have H := AW (Bm hb) H
  rw [hb] at F
  clear hb
  refine Aj (Ae ?_)
  refine ls F W Aa (Ak CM Aa Aa Aa Fp F Aa 3 Aa).q fun a w F W => ?_
  refine ls F W Aa (Aq (v := v1) 0 F Aa Aa Fp Aa).q fun a w F W => ?_
  obtain ⟨x7, h8, H⟩ := Am H
  refine ls F W Aa (AU (v := Value.string (bs x7)) F Sn Aa (fun w W => (HT fRec ih) any w (v1) p0.un.2.2.2 ([32, 111, 114, 32] : List UInt8) _ h8 (((AP CB h1 (Av h_v1)) : EC _ _ _ _ _ _) w W).nx (hG.go0 W))) fun a w F W => ?_
  refine ls F W Aa (Ah F Aa).q fun a w F W => ?_
  refine Ag (Ad (Az (Bk (AR ?_))))
  have H := AM H
  subst H
  refine AQ (.inl Aa) F W Aa (AD F Aa) ?_
  exact ⟨rfl, W.done⟩
 have H := AX (Bl hb) H
 rw [hb] at F
 clear hb
 refine Aw (A8 (Ad (Aj (Ae ?_))))
 refine ls F W Aa (Ah (v := Value.string (bs ([63] : List UInt8))) F Aa).q fun a w F W => ?_
 refine Ag (Ad (Az ?_))
 have H := AM H
 subst H
 refine AQ (.inl Aa) F W Aa (AD F Aa) ?_
 exact ⟨rfl, W.done⟩
theorem Ms : ∀ (n : Nat) (Y : Nat → Prop) (w0 : World) (v1 : Value) (p0 : Tr31) (r : List UInt8) (H : C9 n p0 = some r) (h_v1 : Sl w0 (NX []) BJ v1 p0.un.2.2.2) (hG : Gk [] w0), Calls Tryd.prog 28 #[.agg #[.int .i64 p0.un.1, .int .i64 p0.un.2.1, .int .i64 p0.un.2.2.1, v1]] w0 fun e w' => e = .returned (.string (bs r)) ∧ Below w0.heap.size w0 w' := by
  intro n
  induction n with
  | zero => intro Y w0 v1 p0 r H; exact nomatch H
  | succ n ih => intro Y w0 v1 p0 r H h_v1 hG; exact Lz (C9 n) ih Y w0 v1 p0 r H h_v1 hG
theorem HV (Y : Nat → Prop) (w0 : World) (v1 : Value) (p0 : Tr31) (r : List UInt8) (H : Gg p0 = some r) (h_v1 : Sl w0 (NX []) BJ v1 p0.un.2.2.2) (hG : Gk [] w0) :
    Calls Tryd.prog 28 #[.agg #[.int .i64 p0.un.1, .int .i64 p0.un.2.1, .int .i64 p0.un.2.2.1, v1]] w0 fun e w' => e = .returned (.string (bs r)) ∧ Below w0.heap.size w0 w' := by
  obtain ⟨n, H⟩ := Cs H
  exact Ms n Y w0 v1 p0 r H h_v1 hG
theorem QJ : type_of% Tryd.underlying59 := Tryd.underlying59
theorem R0 : ∃ z, (Tryd.prog.info? 26).bind (·.zero) = some z ∧ z.cells = [.int .i64 0, .int .i64 0, .int .i64 0, .int .i64 0].toArray := ⟨.agg #[.int .i64 0, .int .i64 0, .int .i64 0, .int .i64 0], by kernel_rfl, rfl⟩
theorem Tr : Bt Tryd.prog 59 [.int .i64 0, .int .i64 0, .int .i64 0, .int .i64 0, .int .i64 0, .int .i64 0] [(0, 1), (1, 1), (2, 4)] := ⟨⟨.agg #[.int .i64 0, .int .i64 0, .int .i64 0, .int .i64 0, .int .i64 0, .int .i64 0], by kernel_rfl, rfl⟩, ⟨_, QJ, fun w => by kernel_rfl⟩⟩
def CE (p0 : Int) : Bool := (decide (0 ≤ p0) && decide (p0 ≤ 5))
theorem Hp (Y : Nat → Prop) (w0 : World)  (p0 : Int) (r : Bool) (H : CE p0 = r)  :
    Calls Tryd.prog 37 #[.int .i64 p0] w0 fun e w' => e = .returned (.bool r) ∧ Below w0.heap.size w0 w' := by
 refine enter Tryd.func37 Aa Tryd.ntmps37 Aa fun a F => ?_
 have W := Stw.start Y w0
 unfold CE at H
 refine Aj (Ae ?_)
 refine ls F W Aa (Ah F Aa).q fun a w F W => ?_
 refine Ag (Ad ?_)
 refine AO (fun a w => Fr 9 [] [(2, .bool (decide (0 ≤ p0) && decide (p0 ≤ 5)))] a ∧ Stw ⟨Y, [], w0⟩ [] [] w) ?_ ?_
 ·
  refine Ae ?_
  refine ls F W Aa (Ai F Aa).q fun a w F W => ?_
  refine ls F W Aa (D6 F Aa Aa).q fun a w F W => ?_
  refine ls F W Aa (Ai F Aa).q fun a w F W => ?_
  rcases Bool.eq_false_or_eq_true (decide (0 ≤ p0)) with hb0 | hb0
  ·
   rw [hb0] at F
   refine AL F W (Af F Aa Aa Aa Aa) Aa (An Aa) (Ai F Aa).q fun a w F W => ?_
   refine AL F W (Af F Aa Aa Aa Aa) Aa (An Aa) (F9 F Aa Aa).q fun a w F W => ?_
   refine ls F W Aa (Au F Aa Aa Aa).q fun a w F W => ?_
   refine ls F W Aa (Ah F Aa).q fun a w F W => ?_
   refine Ag (Ad ?_)
   exact ⟨F.re ⟨(by show some (Value.bool (decide (p0 ≤ 5))) = some (Value.bool (decide (0 ≤ p0) && decide (p0 ≤ 5))); try rw [hb0]; all_goals simp only [Bool.not_true, Bool.not_false, Bool.true_and, Bool.false_and, Bool.true_or, Bool.false_or, Bool.and_true, Bool.or_false, cond_true, cond_false]), trivial⟩, W⟩
  rw [hb0] at F
  iterate 2 refine CD F Aa Aa Aa Aa Aa Aa Aa fun a F => ?_
  refine ls F W Aa (As F Aa Aa Aa).q fun a w F W => ?_
  refine ls F W Aa (Ah F Aa).q fun a w F W => ?_
  refine Ag (Ad ?_)
  exact ⟨F.re ⟨(by show some (Value.bool false) = some (Value.bool (decide (0 ≤ p0) && decide (p0 ≤ 5))); try rw [hb0]; all_goals simp only [Bool.not_true, Bool.not_false, Bool.true_and, Bool.false_and, Bool.true_or, Bool.false_or, Bool.and_true, Bool.or_false, cond_true, cond_false]), trivial⟩, W⟩
 rintro a w ⟨F, W⟩
 refine Az ?_
 subst H
 refine AQ (.inl Aa) F W Aa (AD F Aa) ?_
 exact ⟨rfl, W.done⟩
theorem Su : Has Tryd.prog 37 := ⟨fun args w => Ao Tryd.func37 rfl (by decide) args w⟩
def E2 (p0 : Int) : Bool := (decide (0 ≤ p0) && decide (p0 < 4))
theorem Ld (Y : Nat → Prop) (w0 : World)  (p0 : Int) (r : Bool) (H : E2 p0 = r)  :
    Calls Tryd.prog 54 #[.int .i64 p0] w0 fun e w' => e = .returned (.bool r) ∧ Below w0.heap.size w0 w' := by
 refine enter Tryd.func54 Aa Tryd.ntmps54 Aa fun a F => ?_
 have W := Stw.start Y w0
 unfold E2 at H
 refine Aj (Ae ?_)
 refine ls F W Aa (Ah F Aa).q fun a w F W => ?_
 refine Ag (Ad ?_)
 refine AO (fun a w => Fr 9 [] [(2, .bool (decide (0 ≤ p0) && decide (p0 < 4)))] a ∧ Stw ⟨Y, [], w0⟩ [] [] w) ?_ ?_
 ·
  refine Ae ?_
  refine ls F W Aa (Ai F Aa).q fun a w F W => ?_
  refine ls F W Aa (D6 F Aa Aa).q fun a w F W => ?_
  refine ls F W Aa (Ai F Aa).q fun a w F W => ?_
  rcases Bool.eq_false_or_eq_true (decide (0 ≤ p0)) with hb0 | hb0
  ·
   rw [hb0] at F
   refine AL F W (Af F Aa Aa Aa Aa) Aa (An Aa) (Ai F Aa).q fun a w F W => ?_
   refine AL F W (Af F Aa Aa Aa Aa) Aa (An Aa) (Cy F Aa Aa).q fun a w F W => ?_
   refine ls F W Aa (Au F Aa Aa Aa).q fun a w F W => ?_
   refine ls F W Aa (Ah F Aa).q fun a w F W => ?_
   refine Ag (Ad ?_)
   exact ⟨F.re ⟨(by show some (Value.bool (decide (p0 < 4))) = some (Value.bool (decide (0 ≤ p0) && decide (p0 < 4))); try rw [hb0]; all_goals simp only [Bool.not_true, Bool.not_false, Bool.true_and, Bool.false_and, Bool.true_or, Bool.false_or, Bool.and_true, Bool.or_false, cond_true, cond_false]), trivial⟩, W⟩
  rw [hb0] at F
  iterate 2 refine CD F Aa Aa Aa Aa Aa Aa Aa fun a F => ?_
  refine ls F W Aa (As F Aa Aa Aa).q fun a w F W => ?_
  refine ls F W Aa (Ah F Aa).q fun a w F W => ?_
  refine Ag (Ad ?_)
  exact ⟨F.re ⟨(by show some (Value.bool false) = some (Value.bool (decide (0 ≤ p0) && decide (p0 < 4))); try rw [hb0]; all_goals simp only [Bool.not_true, Bool.not_false, Bool.true_and, Bool.false_and, Bool.true_or, Bool.false_or, Bool.and_true, Bool.or_false, cond_true, cond_false]), trivial⟩, W⟩
 rintro a w ⟨F, W⟩
 refine Az ?_
 subst H
 refine AQ (.inl Aa) F W Aa (AD F Aa) ?_
 exact ⟨rfl, W.done⟩
theorem Tu : Has Tryd.prog 54 := ⟨fun args w => Ao Tryd.func54 rfl (by decide) args w⟩
noncomputable def FD (p0 : Int × Int × Int × Int) (p1 : Int) : Option Int := (if (!(E2 p1)) = true then some 0 else (ix ([p0.1, p0.2.1, p0.2.2.1, p0.2.2.2] : List Int) p1).bind fun x1 => some x1)
theorem Mj (Y : Nat → Prop) (w0 : World)  (p0 : Int × Int × Int × Int) (p1 : Int) (r : Int) (H : FD p0 p1 = some r)  :
    Calls Tryd.prog 38 #[.agg #[.int .i64 p0.1, .int .i64 p0.2.1, .int .i64 p0.2.2.1, .int .i64 p0.2.2.2], .int .i64 p1] w0 fun e w' => e = .returned (.int .i64 r) ∧ Below w0.heap.size w0 w' := by
 refine enter Tryd.func38 Aa Tryd.ntmps38 Aa fun a F => ?_
 have W := Stw.start Y w0
 unfold FD at H
 refine Aj (Ae ?_)
 refine C5 (cs := [.int .i64 p0.1, .int .i64 p0.2.1, .int .i64 p0.2.2.1, .int .i64 p0.2.2.2]) F W Aa Aa Aa fun b1 a w F W => ?_
 refine ls F W Aa (Ah F Aa).q fun a w F W => ?_
 refine Ag (Ad (Aj (Aj (Ae ?_))))
 refine ls F W Aa (Ai F Aa).q fun a w F W => ?_
 refine ls F W Aa (AU (v := Value.bool (E2 p1)) F Tu Aa (fun w W => Ld any w p1 _ Aa)) fun a w F W => ?_
 refine ls F W Aa (ET F Aa).q fun a w F W => ?_
 refine Ag (Ad ?_)
 refine Ay F Aa (fun hb => ?_) fun hb => ?_
 ·
  have H := AW hb H
  rw [hb] at F
  clear hb
  refine Aj (Ae ?_)
  refine ls F W Aa (Ah F Aa).q fun a w F W => ?_
  refine Ag (Ad (Az (AR ?_)))
  have H := AM H
  subst H
  refine AQ (.inl Aa) F W Aa (AD F Aa) ?_
  exact ⟨rfl, W.done⟩
 have H := AX (by rw [hb]; decide) H
 rw [hb] at F
 clear hb
 refine Aw (Ad (Aj (Ae ?_)))
 refine ls F W Aa (Ai F Aa).q fun a w F W => ?_
 obtain ⟨x1, h1, H⟩ := Am H
 refine ls F W Aa (Ng (0 + (p1).toNat * 1) QM F Aa Aa Aa h1 Aa).q fun a w F W => ?_
 refine ls F W Aa (Aq (v := Value.int .i64 x1) 0 F Aa Aa T3 (OB (base := 0) (m := 4) (l := [p0.1, p0.2.1, p0.2.2.1, p0.2.2.2]) (enc := Value.int .i64) Aa h1)).q fun a w F W => ?_
 refine ls F W Aa (Ah F Aa).q fun a w F W => ?_
 refine Ag (Ad (Az ?_))
 have H := AM H
 subst H
 refine AQ (.inl Aa) F W Aa (AD F Aa) ?_
 exact ⟨rfl, W.done⟩
theorem Tj : Has Tryd.prog 38 := ⟨fun args w => Ao Tryd.func38 rfl (by decide) args w⟩
noncomputable def FS (p0 : Int) (p1 : Int) (p2 : Int) (p3 : Int × Int × Int × Int) : Option Int := (if p0 = 4 then some p2 else (if p0 = 5 then some p1 else (if (CE p0) = true then (FD p3 p0).bind fun x1 => some x1 else some (-1))))
theorem KW (Y : Nat → Prop) (w0 : World)  (p0 : Int) (p1 : Int) (p2 : Int) (p3 : Int × Int × Int × Int) (r : Int) (H : FS p0 p1 p2 p3 = some r)  :
    Calls Tryd.prog 20 #[.int .i64 p0, .int .i64 p1, .int .i64 p2, .agg #[.int .i64 p3.1, .int .i64 p3.2.1, .int .i64 p3.2.2.1, .int .i64 p3.2.2.2]] w0 fun e w' => e = .returned (.int .i64 r) ∧ Below w0.heap.size w0 w' := by
 refine enter Tryd.func20 Aa Tryd.ntmps20 Aa fun a F => ?_
 have W := Stw.start Y w0
 unfold FS at H
 refine Aj (Ae ?_)
 refine C5 (cs := [.int .i64 p3.1, .int .i64 p3.2.1, .int .i64 p3.2.2.1, .int .i64 p3.2.2.2]) F W Aa Aa Aa fun b1 a w F W => ?_
 refine ls F W Aa (Ah F Aa).q fun a w F W => ?_
 refine Ag (Ad (Aj (AA (Aj (Ae ?_)))))
 refine ls F W Aa (Ai F Aa).q fun a w F W => ?_
 refine ls F W Aa (Bq F Aa Aa).q fun a w F W => ?_
 refine ls F W Aa (Ah F Aa).q fun a w F W => ?_
 refine Ag (Ad ?_)
 refine Ay F Aa (fun hb => ?_) fun hb => ?_
 ·
  have H := AW (Bm hb) H
  rw [hb] at F
  clear hb
  refine Aj (Ae ?_)
  refine ls F W Aa (Ai F Aa).q fun a w F W => ?_
  refine ls F W Aa (Ah F Aa).q fun a w F W => ?_
  refine Ag (Ad (Az (Bk (AR ?_))))
  have H := AM H
  subst H
  refine AQ (.inl Aa) F W Aa (AD F Aa) ?_
  exact ⟨rfl, W.done⟩
 have H := AX (Bl hb) H
 rw [hb] at F
 clear hb
 refine Aj (Ae ?_)
 refine ls F W Aa (Ai F Aa).q fun a w F W => ?_
 refine ls F W Aa (Bq F Aa Aa).q fun a w F W => ?_
 refine ls F W Aa (Ah F Aa).q fun a w F W => ?_
 refine Ag (Ad ?_)
 refine Ay F Aa (fun hb => ?_) fun hb => ?_
 ·
  have H := AW (Bm hb) H
  rw [hb] at F
  clear hb
  refine Aj (Ae ?_)
  refine ls F W Aa (Ai F Aa).q fun a w F W => ?_
  refine ls F W Aa (Ah F Aa).q fun a w F W => ?_
  refine Ag (Ad (Az (Bk (AR ?_))))
  have H := AM H
  subst H
  refine AQ (.inl Aa) F W Aa (AD F Aa) ?_
  exact ⟨rfl, W.done⟩
 have H := AX (Bl hb) H
 rw [hb] at F
 clear hb
 refine Aj (Ae ?_)
 refine ls F W Aa (Ai F Aa).q fun a w F W => ?_
 refine ls F W Aa (AU (v := Value.bool (CE p0)) F Su Aa (fun w W => Hp any w p0 _ Aa)) fun a w F W => ?_
 refine ls F W Aa (Ah F Aa).q fun a w F W => ?_
 refine Ag (Ad ?_)
 refine Ay F Aa (fun hb => ?_) fun hb => ?_
 ·
  have H := AW hb H
  rw [hb] at F
  clear hb
  refine Aj (Ae ?_)
  refine ls F W Aa (Aq (v := Value.agg #[.int .i64 p3.1, .int .i64 p3.2.1, .int .i64 p3.2.2.1, .int .i64 p3.2.2.2]) 0 F Aa Aa Qh Aa).q fun a w F W => ?_
  refine ls F W Aa (Ai F Aa).q fun a w F W => ?_
  obtain ⟨x1, h1, H⟩ := Am H
  refine ls F W Aa (AU (v := Value.int .i64 x1) F Tj Aa (fun w W => Mj any w p3 p0 _ h1)) fun a w F W => ?_
  refine ls F W Aa (Ah F Aa).q fun a w F W => ?_
  refine Ag (Ad (Az (Bk (AR ?_))))
  have H := AM H
  subst H
  refine AQ (.inl Aa) F W Aa (AD F Aa) ?_
  exact ⟨rfl, W.done⟩
 have H := AX (by rw [hb]; decide) H
 rw [hb] at F
 clear hb
 refine Aw (A8 (Ad (Aj (Ae ?_))))
 refine ls F W Aa (Ah F Aa).q fun a w F W => ?_
 refine Ag (Ad (Az ?_))
 have H := AM H
 subst H
 refine AQ (.inl Aa) F W Aa (AD F Aa) ?_
 exact ⟨rfl, W.done⟩
theorem SR : Has Tryd.prog 20 := ⟨fun args w => Ao Tryd.func20 rfl (by decide) args w⟩
theorem R4 : Ty Tryd.prog 59 true 6 := ⟨by kernel_rfl, by kernel_rfl⟩
theorem R9 : Has Tryd.prog 34 := ⟨fun args w => Ao Tryd.func34 rfl (by decide) args w⟩
noncomputable def B1 (fRec_pred_arrival_satisfies : (Int × Int × (Int × Int × Int × Int)) → Tr31 → Option Bool) (p0 : Int × Int × (Int × Int × Int × Int)) (p1 : Tr31) : Option Bool := (fRec_pred_arrival_satisfies p0 p1).bind fun x1 => some (!x1)
theorem FY (fRec_pred_arrival_satisfies : (Int × Int × (Int × Int × Int × Int)) → Tr31 → Option Bool) (ih_pred_arrival_satisfies : ∀ (Y : Nat → Prop) (w0 : World) (v1 : Value) (p0 : Int × Int × (Int × Int × Int × Int)) (p1 : Tr31) (r : Bool) (H : fRec_pred_arrival_satisfies p0 p1 = some r) (h_v1 : Sl w0 (NX []) BJ v1 p1.un.2.2.2), Calls Tryd.prog 34 #[.agg #[.int .i64 p0.1, .int .i64 p0.2.1, .int .i64 p0.2.2.1, .int .i64 p0.2.2.2.1, .int .i64 p0.2.2.2.2.1, .int .i64 p0.2.2.2.2.2], .agg #[.int .i64 p1.un.1, .int .i64 p1.un.2.1, .int .i64 p1.un.2.2.1, v1]] w0 fun e w' => e = .returned (.bool r) ∧ Below w0.heap.size w0 w') (Y : Nat → Prop) (w0 : World) (v1 : Value) (p0 : Int × Int × (Int × Int × Int × Int)) (p1 : Tr31) (r : Bool) (H : B1 fRec_pred_arrival_satisfies p0 p1 = some r) (h_v1 : Sl w0 (NX []) BJ v1 p1.un.2.2.2) :
    Calls Tryd.prog 51 #[.agg #[.int .i64 p0.1, .int .i64 p0.2.1, .int .i64 p0.2.2.1, .int .i64 p0.2.2.2.1, .int .i64 p0.2.2.2.2.1, .int .i64 p0.2.2.2.2.2], .agg #[.int .i64 p1.un.1, .int .i64 p1.un.2.1, .int .i64 p1.un.2.2.1, v1]] w0 fun e w' => e = .returned (.bool r) ∧ Below w0.heap.size w0 w' := by
 refine enter Tryd.func51 Aa Tryd.ntmps51 Aa fun a F => ?_
 have W := Stw.start Y w0
 obtain ⟨v2, h1, h_v1⟩ := h_v1.ex CB
 unfold B1 at H
 refine Aj (Ae ?_)
 refine C5 (cs := [.int .i64 p0.1, .int .i64 p0.2.1, .int .i64 p0.2.2.1, .int .i64 p0.2.2.2.1, .int .i64 p0.2.2.2.2.1, .int .i64 p0.2.2.2.2.2]) F W Aa Aa Aa fun b1 a w F W => ?_
 refine C5 (cs := [.int .i64 p1.un.1, .int .i64 p1.un.2.1, .int .i64 p1.un.2.2.1, v1]) F W Aa Aa Aa fun b2 a w F W => ?_
 refine ls F W Aa (Ah F Aa).q fun a w F W => ?_
 refine Ag (Ad (Aj (Ae ?_)))
 refine ls F W Aa (Aq (v := Value.agg #[.int .i64 p0.1, .int .i64 p0.2.1, .int .i64 p0.2.2.1, .int .i64 p0.2.2.2.1, .int .i64 p0.2.2.2.2.1, .int .i64 p0.2.2.2.2.2]) 1 F Aa Aa R4 Aa).q fun a w F W => ?_
 refine ls F W Aa (Aq (v := Value.agg #[.int .i64 p1.un.1, .int .i64 p1.un.2.1, .int .i64 p1.un.2.2.1, v1]) 0 F Aa Aa EA Aa).q fun a w F W => ?_
 obtain ⟨x1, h2, H⟩ := Am H
 refine ls F W Aa (AU (v := Value.bool x1) F R9 Aa (fun w W => ih_pred_arrival_satisfies any w (v1) p0 p1 _ h2 (((AP CB h1 (Av h_v1)) : EC _ _ _ _ _ _) w W).nx)) fun a w F W => ?_
 refine ls F W Aa (ET F Aa).q fun a w F W => ?_
 refine ls F W Aa (Ah F Aa).q fun a w F W => ?_
 refine Ag (Ad (Az ?_))
 have H := AM H
 subst H
 refine AQ (.inl Aa) F W Aa (AD F Aa) ?_
 exact ⟨rfl, W.done⟩
theorem SA : Has Tryd.prog 51 := ⟨fun args w => Ao Tryd.func51 rfl (by decide) args w⟩
noncomputable def AV (fRec_pred_arrival_satisfies : (Int × Int × (Int × Int × Int × Int)) → Tr31 → Option Bool) (p0 : List Tr31) (p1f0 : Int × Int × (Int × Int × Int × Int)) : Int → Option (Int ⊕ (Unit ⊕ Int))
  | x1 => (if x1 < (p0.length : Int) then (ix p0 x1).bind fun x2 => ((B1 fRec_pred_arrival_satisfies) p1f0 x2).bind fun x3 => (if x3 = true then some (.inr (.inr x1)) else some (.inl (A1 (x1 + 1)))) else some (.inr (.inl ())))
noncomputable def Bc (fRec_pred_arrival_satisfies : (Int × Int × (Int × Int × Int × Int)) → Tr31 → Option Bool) (p0 : List Tr31) (p1f0 : Int × Int × (Int × Int × Int × Int)) : Option Int := IX (A3 (AV fRec_pred_arrival_satisfies p0 p1f0) 0) fun _ => some (-1)
theorem EX (fRec_pred_arrival_satisfies : (Int × Int × (Int × Int × Int × Int)) → Tr31 → Option Bool) (ih_pred_arrival_satisfies : ∀ (Y : Nat → Prop) (w0 : World) (v1 : Value) (p0 : Int × Int × (Int × Int × Int × Int)) (p1 : Tr31) (r : Bool) (H : fRec_pred_arrival_satisfies p0 p1 = some r) (h_v1 : Sl w0 (NX []) BJ v1 p1.un.2.2.2), Calls Tryd.prog 34 #[.agg #[.int .i64 p0.1, .int .i64 p0.2.1, .int .i64 p0.2.2.1, .int .i64 p0.2.2.2.1, .int .i64 p0.2.2.2.2.1, .int .i64 p0.2.2.2.2.2], .agg #[.int .i64 p1.un.1, .int .i64 p1.un.2.1, .int .i64 p1.un.2.2.1, v1]] w0 fun e w' => e = .returned (.bool r) ∧ Below w0.heap.size w0 w') (Y : Nat → Prop) (w0 : World) (v1 : Value) (p0 : List Tr31) (p1f0 : Int × Int × (Int × Int × Int × Int)) (r : Int) (H : Bc fRec_pred_arrival_satisfies p0 p1f0 = some r) (h_v1 : Sl w0 (NX []) BJ v1 p0) :
    Calls Tryd.prog 59 #[v1, .func (.func 51) #[.agg #[.int .i64 p1f0.1, .int .i64 p1f0.2.1, .int .i64 p1f0.2.2.1, .int .i64 p1f0.2.2.2.1, .int .i64 p1f0.2.2.2.2.1, .int .i64 p1f0.2.2.2.2.2]] #[]] w0 fun e w' => e = .returned (.int .i64 r) ∧ Below w0.heap.size w0 w' := by
 refine enter Tryd.func59 Aa Tryd.ntmps59 Aa fun a F => ?_
 have W := Stw.start Y w0
 obtain ⟨v2, h1, h_v1⟩ := h_v1.ex CB
 unfold Bc at H
 refine Aj (Ae ?_)
 refine ls F W Aa (Ah F Aa).q fun a w F W => ?_
 refine Ag (Ad ?_)
 obtain ⟨o1, G1, K1, L1⟩ := OP H
 refine AO (fun a w => some (Sum.inl ()) = some o1 ∧ Fr 19 [] [(4, .int .i64 0)] a ∧ Stw ⟨Y, [], w0⟩ [] [] w) ?_ ?_
 ·
  have H := G1
  clear G1 K1
  refine Aj (Ae ?_)
  refine ls F W Aa (Ai F Aa).q fun a w F W => ?_
  refine ls F W Aa (CT (r := BJ) (l := p0) GA Aa F Aa (AP CB h1 (Av h_v1))).q fun a w F W => ?_
  refine ls F W Aa (Ai F Aa).q fun a w F W => ?_
  refine Ag (Ad (AA ?_))
  refine BI H (fun s a w => Fr 19 [] [(0, v1), (1, .func (.func 51) #[.agg #[.int .i64 p1f0.1, .int .i64 p1f0.2.1, .int .i64 p1f0.2.2.1, .int .i64 p1f0.2.2.2.1, .int .i64 p1f0.2.2.2.2.1, .int .i64 p1f0.2.2.2.2.2]] #[]), (4, .int .i64 0), (7, .int .i64 (p0.length : Int)), (8, .int .i64 s)] a ∧ Stw ⟨Y, [], w0⟩ [] [] w) ⟨F.re ⟨rfl, Aa, Aa, Aa, Aa, trivial⟩, W⟩ fun s o a w H L2 hR => ?_
  obtain ⟨x1, rfl⟩ : ∃ x, x = s := ⟨s, rfl⟩
  obtain ⟨F, W⟩ := hR
  have F : Fr 19 [] [(0, v1), (1, .func (.func 51) #[.agg #[.int .i64 p1f0.1, .int .i64 p1f0.2.1, .int .i64 p1f0.2.2.1, .int .i64 p1f0.2.2.2.1, .int .i64 p1f0.2.2.2.2.1, .int .i64 p1f0.2.2.2.2.2]] #[]), (4, .int .i64 0), (7, .int .i64 (p0.length : Int)), (8, .int .i64 x1)] a := F
  have W : Stw ⟨Y, [], w0⟩ [] [] w := W
  rw [AV] at H
  refine Aj (Ae ?_)
  refine ls F W Aa (Cy F Aa Aa).q fun a w F W => ?_
  refine Ag (Ad (Aj ?_))
  refine Ay F Aa (fun hb => ?_) fun hb => ?_
  ·
   have H := AW (Bm hb) H
   rw [hb] at F
   clear hb
   refine Aw (Ad (Aj (AA (Aj (Ae ?_)))))
   refine ls F W Aa (Ai F Aa).q fun a w F W => ?_
   refine ls F W Aa (Ah F Aa).q fun a w F W => ?_
   refine Ag (Ad (Aj (Ae ?_)))
   iterate 3 refine ls F W Aa (Ai F Aa).q fun a w F W => ?_
   obtain ⟨x2, h2, H⟩ := Am H
   obtain ⟨v3, h3, h4⟩ := DL h1 h2
   have h5 : Fd v3 = [.int .i64 x2.un.1, .int .i64 x2.un.2.1, .int .i64 x2.un.2.2.1, (v3.2.2.2.1)] := congrArg (fun q : Tr31 => ([.int .i64 q.un.1, .int .i64 q.un.2.1, .int .i64 q.un.2.2.1, (v3.2.2.2.1)] : List Value)) h4
   refine ls F W Aa (AG (r := Gm) Ke F Aa Aa (Av h_v1) h3).q fun a w F W => ?_
   refine ls F W Aa (Ax (y := Value.agg #[.int .i64 x2.un.1, .int .i64 x2.un.2.1, .int .i64 x2.un.2.2.1, (v3.2.2.2.1)]) (j := 0) (i := x1) (enc := Fd) F Aa Aa (Av h_v1) h3 IH EA (by rw [h5]; rfl)).q fun a w F W => ?_
   obtain ⟨x3, h6, H⟩ := Am H
   refine ls F W Aa (Mv (ws := [.agg #[.int .i64 p1f0.1, .int .i64 p1f0.2.1, .int .i64 p1f0.2.2.1, .int .i64 p1f0.2.2.2.1, .int .i64 p1f0.2.2.2.2.1, .int .i64 p1f0.2.2.2.2.2], .agg #[.int .i64 x2.un.1, .int .i64 x2.un.2.1, .int .i64 x2.un.2.2.1, (v3.2.2.2.1)]]) (v := Value.bool x3) F SA Aa (fun w W => (FY fRec_pred_arrival_satisfies ih_pred_arrival_satisfies) any w ((v3.2.2.2.1)) p1f0 x2 _ h6 (((CG (Av h_v1) h3 (A5.snd (A5.snd (A5.snd A5.here))) (congrArg (fun q : Tr31 => q.un.2.2.2) h4)) : EC _ _ _ _ _ _) w W).nx)) fun a w F W => ?_
   refine Ag (Ad ?_)
   refine Ay F Aa (fun hb => ?_) fun hb => ?_
   ·
    have H := AW hb H
    rw [hb] at F
    clear hb
    refine Aj (Ae ?_)
    refine ls F W Aa (Ai F Aa).q fun a w F W => ?_
    refine ls F W Aa (Ah F Aa).q fun a w F W => ?_
    refine Ag (Ad (Az (Bk ?_)))
    iterate 2 refine AR ?_
    refine Bk (AR ?_)
    have H := L2 _ H
    have H := L1 _ H
    have H := AM H
    subst H
    refine AQ (.inl Aa) F W Aa (AD F Aa) ?_
    exact ⟨rfl, W.done⟩
   have H := AX (by rw [hb]; decide) H
   rw [hb] at F
   clear hb
   refine Aw (A8 (Ad (Ae ?_)))
   refine ls F W Aa (BC F Aa Aa Aa).q fun a w F W => ?_
   refine ls F W Aa (Ai F Aa).q fun a w F W => ?_
   refine Ag (Ad ?_)
   exact ⟨_, H, F.re ⟨rfl, Aa, Aa, Aa, Aa, trivial⟩, W⟩
  have H := AX (Bl hb) H
  rw [hb] at F
  clear hb
  refine Bx ?_
  iterate 2 refine BO ?_
  refine Bz (Ad ?_)
  have H := L2 _ H
  exact ⟨H, F.re ⟨rfl, trivial⟩, W⟩
 rintro a w ⟨hj, F, W⟩
 have H := K1 _ hj
 clear hj G1 K1 L1
 refine Aj (Ae ?_)
 refine ls F W Aa (Ah F Aa).q fun a w F W => ?_
 refine Ag (Ad (Az ?_))
 have H := AM H
 subst H
 refine AQ (.inl Aa) F W Aa (AD F Aa) ?_
 exact ⟨rfl, W.done⟩
theorem Sz : Has Tryd.prog 59 := ⟨fun args w => Ao Tryd.func59 rfl (by decide) args w⟩
noncomputable def A4 (fRec_pred_arrival_satisfies : (Int × Int × (Int × Int × Int × Int)) → Tr31 → Option Bool) (p0 : List Tr31) (p1f0 : Int × Int × (Int × Int × Int × Int)) : Option Bool := ((Bc fRec_pred_arrival_satisfies) p0 p1f0).bind fun x1 => some (decide (0 ≤ x1))
theorem EE (fRec_pred_arrival_satisfies : (Int × Int × (Int × Int × Int × Int)) → Tr31 → Option Bool) (ih_pred_arrival_satisfies : ∀ (Y : Nat → Prop) (w0 : World) (v1 : Value) (p0 : Int × Int × (Int × Int × Int × Int)) (p1 : Tr31) (r : Bool) (H : fRec_pred_arrival_satisfies p0 p1 = some r) (h_v1 : Sl w0 (NX []) BJ v1 p1.un.2.2.2), Calls Tryd.prog 34 #[.agg #[.int .i64 p0.1, .int .i64 p0.2.1, .int .i64 p0.2.2.1, .int .i64 p0.2.2.2.1, .int .i64 p0.2.2.2.2.1, .int .i64 p0.2.2.2.2.2], .agg #[.int .i64 p1.un.1, .int .i64 p1.un.2.1, .int .i64 p1.un.2.2.1, v1]] w0 fun e w' => e = .returned (.bool r) ∧ Below w0.heap.size w0 w') (Y : Nat → Prop) (w0 : World) (v1 : Value) (p0 : List Tr31) (p1f0 : Int × Int × (Int × Int × Int × Int)) (r : Bool) (H : A4 fRec_pred_arrival_satisfies p0 p1f0 = some r) (h_v1 : Sl w0 (NX []) BJ v1 p0) :
    Calls Tryd.prog 52 #[v1, .func (.func 51) #[.agg #[.int .i64 p1f0.1, .int .i64 p1f0.2.1, .int .i64 p1f0.2.2.1, .int .i64 p1f0.2.2.2.1, .int .i64 p1f0.2.2.2.2.1, .int .i64 p1f0.2.2.2.2.2]] #[]] w0 fun e w' => e = .returned (.bool r) ∧ Below w0.heap.size w0 w' := by
 refine enter Tryd.func52 Aa Tryd.ntmps52 Aa fun a F => ?_
 have W := Stw.start Y w0
 obtain ⟨v2, h1, h_v1⟩ := h_v1.ex CB
 unfold A4 at H
 refine Aj (Ae ?_)
 refine ls F W Aa (Ah F Aa).q fun a w F W => ?_
 refine Ag (Ad (Aj (Ae ?_)))
 iterate 2 refine ls F W Aa (Ai F Aa).q fun a w F W => ?_
 obtain ⟨x1, h2, H⟩ := Am H
 refine ls F W Aa (AU (v := Value.int .i64 x1) F Sz Aa (fun w W => (EX fRec_pred_arrival_satisfies ih_pred_arrival_satisfies) any w (v1) p0 p1f0 _ h2 (((AP CB h1 (Av h_v1)) : EC _ _ _ _ _ _) w W).nx)) fun a w F W => ?_
 refine ls F W Aa (D6 F Aa Aa).q fun a w F W => ?_
 refine ls F W Aa (Ah F Aa).q fun a w F W => ?_
 refine Ag (Ad (Az ?_))
 have H := AM H
 subst H
 refine AQ (.inl Aa) F W Aa (AD F Aa) ?_
 exact ⟨rfl, W.done⟩
theorem SB : Has Tryd.prog 52 := ⟨fun args w => Ao Tryd.func52 rfl (by decide) args w⟩
noncomputable def AN (fRec_pred_arrival_satisfies : (Int × Int × (Int × Int × Int × Int)) → Tr31 → Option Bool) (p0 : List Tr31) (p1f0 : Int × Int × (Int × Int × Int × Int)) : Int → Option (Int ⊕ (Unit ⊕ Int))
  | x1 => (if x1 < (p0.length : Int) then (ix p0 x1).bind fun x2 => (fRec_pred_arrival_satisfies p1f0 x2).bind fun x3 => (if x3 = true then some (.inr (.inr x1)) else some (.inl (A1 (x1 + 1)))) else some (.inr (.inl ())))
noncomputable def A7 (fRec_pred_arrival_satisfies : (Int × Int × (Int × Int × Int × Int)) → Tr31 → Option Bool) (p0 : List Tr31) (p1f0 : Int × Int × (Int × Int × Int × Int)) : Option Int := IX (A3 (AN fRec_pred_arrival_satisfies p0 p1f0) 0) fun _ => some (-1)
theorem EN (fRec_pred_arrival_satisfies : (Int × Int × (Int × Int × Int × Int)) → Tr31 → Option Bool) (ih_pred_arrival_satisfies : ∀ (Y : Nat → Prop) (w0 : World) (v1 : Value) (p0 : Int × Int × (Int × Int × Int × Int)) (p1 : Tr31) (r : Bool) (H : fRec_pred_arrival_satisfies p0 p1 = some r) (h_v1 : Sl w0 (NX []) BJ v1 p1.un.2.2.2), Calls Tryd.prog 34 #[.agg #[.int .i64 p0.1, .int .i64 p0.2.1, .int .i64 p0.2.2.1, .int .i64 p0.2.2.2.1, .int .i64 p0.2.2.2.2.1, .int .i64 p0.2.2.2.2.2], .agg #[.int .i64 p1.un.1, .int .i64 p1.un.2.1, .int .i64 p1.un.2.2.1, v1]] w0 fun e w' => e = .returned (.bool r) ∧ Below w0.heap.size w0 w') (Y : Nat → Prop) (w0 : World) (v1 : Value) (p0 : List Tr31) (p1f0 : Int × Int × (Int × Int × Int × Int)) (r : Int) (H : A7 fRec_pred_arrival_satisfies p0 p1f0 = some r) (h_v1 : Sl w0 (NX []) BJ v1 p0) :
    Calls Tryd.prog 59 #[v1, .func (.func 34) #[.agg #[.int .i64 p1f0.1, .int .i64 p1f0.2.1, .int .i64 p1f0.2.2.1, .int .i64 p1f0.2.2.2.1, .int .i64 p1f0.2.2.2.2.1, .int .i64 p1f0.2.2.2.2.2]] #[]] w0 fun e w' => e = .returned (.int .i64 r) ∧ Below w0.heap.size w0 w' := by
 refine enter Tryd.func59 Aa Tryd.ntmps59 Aa fun a F => ?_
 have W := Stw.start Y w0
 obtain ⟨v2, h1, h_v1⟩ := h_v1.ex CB
 unfold A7 at H
 refine Aj (Ae ?_)
 refine ls F W Aa (Ah F Aa).q fun a w F W => ?_
 refine Ag (Ad ?_)
 obtain ⟨o1, G1, K1, L1⟩ := OP H
 refine AO (fun a w => some (Sum.inl ()) = some o1 ∧ Fr 19 [] [(4, .int .i64 0)] a ∧ Stw ⟨Y, [], w0⟩ [] [] w) ?_ ?_
 ·
  have H := G1
  clear G1 K1
  refine Aj (Ae ?_)
  refine ls F W Aa (Ai F Aa).q fun a w F W => ?_
  refine ls F W Aa (CT (r := BJ) (l := p0) GA Aa F Aa (AP CB h1 (Av h_v1))).q fun a w F W => ?_
  refine ls F W Aa (Ai F Aa).q fun a w F W => ?_
  refine Ag (Ad (AA ?_))
  refine BI H (fun s a w => Fr 19 [] [(0, v1), (1, .func (.func 34) #[.agg #[.int .i64 p1f0.1, .int .i64 p1f0.2.1, .int .i64 p1f0.2.2.1, .int .i64 p1f0.2.2.2.1, .int .i64 p1f0.2.2.2.2.1, .int .i64 p1f0.2.2.2.2.2]] #[]), (4, .int .i64 0), (7, .int .i64 (p0.length : Int)), (8, .int .i64 s)] a ∧ Stw ⟨Y, [], w0⟩ [] [] w) ⟨F.re ⟨rfl, Aa, Aa, Aa, Aa, trivial⟩, W⟩ fun s o a w H L2 hR => ?_
  obtain ⟨x1, rfl⟩ : ∃ x, x = s := ⟨s, rfl⟩
  obtain ⟨F, W⟩ := hR
  have F : Fr 19 [] [(0, v1), (1, .func (.func 34) #[.agg #[.int .i64 p1f0.1, .int .i64 p1f0.2.1, .int .i64 p1f0.2.2.1, .int .i64 p1f0.2.2.2.1, .int .i64 p1f0.2.2.2.2.1, .int .i64 p1f0.2.2.2.2.2]] #[]), (4, .int .i64 0), (7, .int .i64 (p0.length : Int)), (8, .int .i64 x1)] a := F
  have W : Stw ⟨Y, [], w0⟩ [] [] w := W
  rw [AN] at H
  refine Aj (Ae ?_)
  refine ls F W Aa (Cy F Aa Aa).q fun a w F W => ?_
  refine Ag (Ad (Aj ?_))
  refine Ay F Aa (fun hb => ?_) fun hb => ?_
  ·
   have H := AW (Bm hb) H
   rw [hb] at F
   clear hb
   refine Aw (Ad (Aj (AA (Aj (Ae ?_)))))
   refine ls F W Aa (Ai F Aa).q fun a w F W => ?_
   refine ls F W Aa (Ah F Aa).q fun a w F W => ?_
   refine Ag (Ad (Aj (Ae ?_)))
   iterate 3 refine ls F W Aa (Ai F Aa).q fun a w F W => ?_
   obtain ⟨x2, h2, H⟩ := Am H
   obtain ⟨v3, h3, h4⟩ := DL h1 h2
   have h5 : Fd v3 = [.int .i64 x2.un.1, .int .i64 x2.un.2.1, .int .i64 x2.un.2.2.1, (v3.2.2.2.1)] := congrArg (fun q : Tr31 => ([.int .i64 q.un.1, .int .i64 q.un.2.1, .int .i64 q.un.2.2.1, (v3.2.2.2.1)] : List Value)) h4
   refine ls F W Aa (AG (r := Gm) Ke F Aa Aa (Av h_v1) h3).q fun a w F W => ?_
   refine ls F W Aa (Ax (y := Value.agg #[.int .i64 x2.un.1, .int .i64 x2.un.2.1, .int .i64 x2.un.2.2.1, (v3.2.2.2.1)]) (j := 0) (i := x1) (enc := Fd) F Aa Aa (Av h_v1) h3 IH EA (by rw [h5]; rfl)).q fun a w F W => ?_
   obtain ⟨x3, h6, H⟩ := Am H
   refine ls F W Aa (Mv (ws := [.agg #[.int .i64 p1f0.1, .int .i64 p1f0.2.1, .int .i64 p1f0.2.2.1, .int .i64 p1f0.2.2.2.1, .int .i64 p1f0.2.2.2.2.1, .int .i64 p1f0.2.2.2.2.2], .agg #[.int .i64 x2.un.1, .int .i64 x2.un.2.1, .int .i64 x2.un.2.2.1, (v3.2.2.2.1)]]) (v := Value.bool x3) F R9 Aa (fun w W => ih_pred_arrival_satisfies any w ((v3.2.2.2.1)) p1f0 x2 _ h6 (((CG (Av h_v1) h3 (A5.snd (A5.snd (A5.snd A5.here))) (congrArg (fun q : Tr31 => q.un.2.2.2) h4)) : EC _ _ _ _ _ _) w W).nx)) fun a w F W => ?_
   refine Ag (Ad ?_)
   refine Ay F Aa (fun hb => ?_) fun hb => ?_
   ·
    have H := AW hb H
    rw [hb] at F
    clear hb
    refine Aj (Ae ?_)
    refine ls F W Aa (Ai F Aa).q fun a w F W => ?_
    refine ls F W Aa (Ah F Aa).q fun a w F W => ?_
    refine Ag (Ad (Az (Bk ?_)))
    iterate 2 refine AR ?_
    refine Bk (AR ?_)
    have H := L2 _ H
    have H := L1 _ H
    have H := AM H
    subst H
    refine AQ (.inl Aa) F W Aa (AD F Aa) ?_
    exact ⟨rfl, W.done⟩
   have H := AX (by rw [hb]; decide) H
   rw [hb] at F
   clear hb
   refine Aw (A8 (Ad (Ae ?_)))
   refine ls F W Aa (BC F Aa Aa Aa).q fun a w F W => ?_
   refine ls F W Aa (Ai F Aa).q fun a w F W => ?_
   refine Ag (Ad ?_)
   exact ⟨_, H, F.re ⟨rfl, Aa, Aa, Aa, Aa, trivial⟩, W⟩
  have H := AX (Bl hb) H
  rw [hb] at F
  clear hb
  refine Bx ?_
  iterate 2 refine BO ?_
  refine Bz (Ad ?_)
  have H := L2 _ H
  exact ⟨H, F.re ⟨rfl, trivial⟩, W⟩
 rintro a w ⟨hj, F, W⟩
 have H := K1 _ hj
 clear hj G1 K1 L1
 refine Aj (Ae ?_)
 refine ls F W Aa (Ah F Aa).q fun a w F W => ?_
 refine Ag (Ad (Az ?_))
 have H := AM H
 subst H
 refine AQ (.inl Aa) F W Aa (AD F Aa) ?_
 exact ⟨rfl, W.done⟩
noncomputable def AZ (fRec_pred_arrival_satisfies : (Int × Int × (Int × Int × Int × Int)) → Tr31 → Option Bool) (p0 : List Tr31) (p1f0 : Int × Int × (Int × Int × Int × Int)) : Option Bool := ((A7 fRec_pred_arrival_satisfies) p0 p1f0).bind fun x1 => some (decide (0 ≤ x1))
theorem Ee (fRec_pred_arrival_satisfies : (Int × Int × (Int × Int × Int × Int)) → Tr31 → Option Bool) (ih_pred_arrival_satisfies : ∀ (Y : Nat → Prop) (w0 : World) (v1 : Value) (p0 : Int × Int × (Int × Int × Int × Int)) (p1 : Tr31) (r : Bool) (H : fRec_pred_arrival_satisfies p0 p1 = some r) (h_v1 : Sl w0 (NX []) BJ v1 p1.un.2.2.2), Calls Tryd.prog 34 #[.agg #[.int .i64 p0.1, .int .i64 p0.2.1, .int .i64 p0.2.2.1, .int .i64 p0.2.2.2.1, .int .i64 p0.2.2.2.2.1, .int .i64 p0.2.2.2.2.2], .agg #[.int .i64 p1.un.1, .int .i64 p1.un.2.1, .int .i64 p1.un.2.2.1, v1]] w0 fun e w' => e = .returned (.bool r) ∧ Below w0.heap.size w0 w') (Y : Nat → Prop) (w0 : World) (v1 : Value) (p0 : List Tr31) (p1f0 : Int × Int × (Int × Int × Int × Int)) (r : Bool) (H : AZ fRec_pred_arrival_satisfies p0 p1f0 = some r) (h_v1 : Sl w0 (NX []) BJ v1 p0) :
    Calls Tryd.prog 52 #[v1, .func (.func 34) #[.agg #[.int .i64 p1f0.1, .int .i64 p1f0.2.1, .int .i64 p1f0.2.2.1, .int .i64 p1f0.2.2.2.1, .int .i64 p1f0.2.2.2.2.1, .int .i64 p1f0.2.2.2.2.2]] #[]] w0 fun e w' => e = .returned (.bool r) ∧ Below w0.heap.size w0 w' := by
 refine enter Tryd.func52 Aa Tryd.ntmps52 Aa fun a F => ?_
 have W := Stw.start Y w0
 obtain ⟨v2, h1, h_v1⟩ := h_v1.ex CB
 unfold AZ at H
 refine Aj (Ae ?_)
 refine ls F W Aa (Ah F Aa).q fun a w F W => ?_
 refine Ag (Ad (Aj (Ae ?_)))
 iterate 2 refine ls F W Aa (Ai F Aa).q fun a w F W => ?_
 obtain ⟨x1, h2, H⟩ := Am H
 refine ls F W Aa (AU (v := Value.int .i64 x1) F Sz Aa (fun w W => (EN fRec_pred_arrival_satisfies ih_pred_arrival_satisfies) any w (v1) p0 p1f0 _ h2 (((AP CB h1 (Av h_v1)) : EC _ _ _ _ _ _) w W).nx)) fun a w F W => ?_
 refine ls F W Aa (D6 F Aa Aa).q fun a w F W => ?_
 refine ls F W Aa (Ah F Aa).q fun a w F W => ?_
 refine Ag (Ad (Az ?_))
 have H := AM H
 subst H
 refine AQ (.inl Aa) F W Aa (AD F Aa) ?_
 exact ⟨rfl, W.done⟩
noncomputable def Bu (fRec : (Int × Int × (Int × Int × Int × Int)) → Tr31 → Option Bool) (p0 : Int × Int × (Int × Int × Int × Int)) (p1 : Tr31) : Option Bool := (if p1.un.1 = 1 then some true else (if p1.un.1 = 3 then (if (CE p1.un.2.1) = true then (FS p1.un.2.1 p0.1 p0.2.1 p0.2.2).bind fun x2 => some (decide (x2 = p1.un.2.2.1)) else some false).bind fun x1 => some x1 else (if p1.un.1 = 4 then (if 0 < (p1.un.2.2.2.length : Int) then (ix p1.un.2.2.2 0).bind fun x4 => ((B1 fRec) p0 x4).bind fun x5 => some x5 else some false).bind fun x3 => some x3 else (if p1.un.1 = 5 then ((A4 fRec) p1.un.2.2.2 p0).bind fun x6 => some (!x6) else (if p1.un.1 = 6 then ((AZ fRec) p1.un.2.2.2 p0).bind fun x7 => some x7 else some false)))))
noncomputable def Bf : Nat → (Int × Int × (Int × Int × Int × Int)) → Tr31 → Option Bool
  | 0 => fun _ _ => none
  | n + 1 => Bu (Bf n)
noncomputable def Dy (p0 : Int × Int × (Int × Int × Int × Int)) (p1 : Tr31) : Option Bool := Fx fun n => Bf n p0 p1
theorem Gv (fRec : (Int × Int × (Int × Int × Int × Int)) → Tr31 → Option Bool) (ih : ∀ (Y : Nat → Prop) (w0 : World) (v1 : Value) (p0 : Int × Int × (Int × Int × Int × Int)) (p1 : Tr31) (r : Bool) (H : fRec p0 p1 = some r) (h_v1 : Sl w0 (NX []) BJ v1 p1.un.2.2.2), Calls Tryd.prog 34 #[.agg #[.int .i64 p0.1, .int .i64 p0.2.1, .int .i64 p0.2.2.1, .int .i64 p0.2.2.2.1, .int .i64 p0.2.2.2.2.1, .int .i64 p0.2.2.2.2.2], .agg #[.int .i64 p1.un.1, .int .i64 p1.un.2.1, .int .i64 p1.un.2.2.1, v1]] w0 fun e w' => e = .returned (.bool r) ∧ Below w0.heap.size w0 w') (Y : Nat → Prop) (w0 : World) (v1 : Value) (p0 : Int × Int × (Int × Int × Int × Int)) (p1 : Tr31) (r : Bool) (H : Bu fRec p0 p1 = some r) (h_v1 : Sl w0 (NX []) BJ v1 p1.un.2.2.2) :
    Calls Tryd.prog 34 #[.agg #[.int .i64 p0.1, .int .i64 p0.2.1, .int .i64 p0.2.2.1, .int .i64 p0.2.2.2.1, .int .i64 p0.2.2.2.2.1, .int .i64 p0.2.2.2.2.2], .agg #[.int .i64 p1.un.1, .int .i64 p1.un.2.1, .int .i64 p1.un.2.2.1, v1]] w0 fun e w' => e = .returned (.bool r) ∧ Below w0.heap.size w0 w' := by
 refine enter Tryd.func34 Aa Tryd.ntmps34 Aa fun a F => ?_
 have W := Stw.start Y w0
 obtain ⟨v2, h1, h_v1⟩ := h_v1.ex CB
 unfold Bu at H
 refine Aj (Ae ?_)
 refine C5 (cs := [.int .i64 p0.1, .int .i64 p0.2.1, .int .i64 p0.2.2.1, .int .i64 p0.2.2.2.1, .int .i64 p0.2.2.2.2.1, .int .i64 p0.2.2.2.2.2]) F W Aa Aa Aa fun b1 a w F W => ?_
 refine C5 (cs := [.int .i64 p1.un.1, .int .i64 p1.un.2.1, .int .i64 p1.un.2.2.1, v1]) F W Aa Aa Aa fun b2 a w F W => ?_
 refine ls F W Aa (Ah F Aa).q fun a w F W => ?_
 refine Ag (Ad (Aj (Aj (Ae ?_))))
 refine ls F W Aa (Ak CM Aa Aa Aa T3 F Aa 0 Aa).q fun a w F W => ?_
 refine ls F W Aa (Aq (v := Value.int .i64 p1.un.1) 0 F Aa Aa T3 Aa).q fun a w F W => ?_
 refine Ag (Ad (AA (Aj (Ae ?_))))
 refine ls F W Aa (Bq F Aa Aa).q fun a w F W => ?_
 refine ls F W Aa (Ah F Aa).q fun a w F W => ?_
 refine Ag (Ad ?_)
 refine Ay F Aa (fun hb => ?_) fun hb => ?_
 ·
  have H := AW (Bm hb) H
  rw [hb] at F
  clear hb
  refine Aj (Ae ?_)
  refine ls F W Aa (Ah F Aa).q fun a w F W => ?_
  refine Ag (Ad (Az (Bk (AR ?_))))
  have H := AM H
  subst H
  refine AQ (.inl Aa) F W Aa (AD F Aa) ?_
  exact ⟨rfl, W.done⟩
 have H := AX (Bl hb) H
 rw [hb] at F
 clear hb
 refine Aj (Ae ?_)
 refine ls F W Aa (Bq F Aa Aa).q fun a w F W => ?_
 refine ls F W Aa (Ah F Aa).q fun a w F W => ?_
 refine Ag (Ad ?_)
 refine Ay F Aa (fun hb => ?_) fun hb => ?_
 ·
  have H := AW (Bm hb) H
  rw [hb] at F
  clear hb
  obtain ⟨o1, G1, K1⟩ := Am H
  refine AO (fun a w => ∃ x1 : Bool, some (x1) = some o1 ∧ Fr 57 [] [(4, .bool x1)] a ∧ Stw ⟨Y, [], w0⟩ [(b2, [.int .i64 p1.un.1, .int .i64 p1.un.2.1, .int .i64 p1.un.2.2.1, v1]), (b1, [.int .i64 p0.1, .int .i64 p0.2.1, .int .i64 p0.2.2.1, .int .i64 p0.2.2.2.1, .int .i64 p0.2.2.2.2.1, .int .i64 p0.2.2.2.2.2])] [] w) ?_ ?_
  ·
   have H := G1
   clear G1 K1
   refine BS W MO (by kernel_rfl) ?_
   refine qs F Aa (Ak CM Aa Aa Aa T3 F Aa 1 Aa).q fun a F => ?_
   refine qs F Aa (Aq (v := Value.int .i64 p1.un.2.1) 0 F Aa Aa T3 Aa).q fun a F => ?_
   refine qs F Aa (AU (v := Value.bool (CE p1.un.2.1)) F Su Aa (fun w W => Hp any w p1.un.2.1 _ Aa)) fun a F => ?_
   refine qs F Aa (Ai F Aa).q fun a F => ?_
   rcases Bool.eq_false_or_eq_true (CE p1.un.2.1) with hb | hb
   ·
    have H := AW hb H
    rw [hb] at F
    clear hb
    refine Bi F (Af F Aa Aa Aa Aa) Aa (An Aa) (Ak CM Aa Aa Aa T3 F Aa 1 Aa).q fun a F => ?_
    refine Bi F (Af F Aa Aa Aa Aa) Aa (An Aa) (Aq (v := Value.int .i64 p1.un.2.1) 0 F Aa Aa T3 Aa).q fun a F => ?_
    refine Bi F (Af F Aa Aa Aa Aa) Aa (An Aa) (Ak QJ Aa Aa Aa T3 F Aa 0 Aa).q fun a F => ?_
    refine Bi F (Af F Aa Aa Aa Aa) Aa (An Aa) (Aq (v := Value.int .i64 p0.1) 1 F Aa Aa T3 Aa).q fun a F => ?_
    refine Bi F (Af F Aa Aa Aa Aa) Aa (An Aa) (Ak QJ Aa Aa Aa T3 F Aa 1 Aa).q fun a F => ?_
    refine Bi F (Af F Aa Aa Aa Aa) Aa (An Aa) (Aq (v := Value.int .i64 p0.2.1) 1 F Aa Aa T3 Aa).q fun a F => ?_
    refine Bi F (Af F Aa Aa Aa Aa) Aa (An Aa) (Ak QJ Aa Aa Aa Qh F Aa 2 Aa).q fun a F => ?_
    refine Bi F (Af F Aa Aa Aa Aa) Aa (An Aa) (Aq (v := Value.agg #[.int .i64 p0.2.2.1, .int .i64 p0.2.2.2.1, .int .i64 p0.2.2.2.2.1, .int .i64 p0.2.2.2.2.2]) 1 F Aa Aa Qh Aa).q fun a F => ?_
    obtain ⟨x2, h2, H⟩ := Am H
    refine Bi F (Af F Aa Aa Aa Aa) Aa (An Aa) (AU (v := Value.int .i64 x2) F SR Aa (fun w W => KW any w p1.un.2.1 p0.1 p0.2.1 p0.2.2 _ h2)) fun a F => ?_
    refine Bi F (Af F Aa Aa Aa Aa) Aa (An Aa) (Ak CM Aa Aa Aa T3 F Aa 2 Aa).q fun a F => ?_
    refine Bi F (Af F Aa Aa Aa Aa) Aa (An Aa) (Aq (v := Value.int .i64 p1.un.2.2.1) 0 F Aa Aa T3 Aa).q fun a F => ?_
    refine Bi F (Af F Aa Aa Aa Aa) Aa (An Aa) (Bq F Aa Aa).q fun a F => ?_
    refine qs F Aa (Au F Aa Aa Aa).q fun a F => ?_
    refine qs F Aa (Ah F Aa).q fun a F => ?_
    refine A2 fun w W => ?_
    refine Ad ?_
    have W := W.frontM (i := 1) Aa Aa
    have W := W.frontM (i := 1) Aa Aa
    exact ⟨_, H, F.re ⟨rfl, trivial⟩, W⟩
   have H := AX (by rw [hb]; decide) H
   rw [hb] at F
   clear hb
   iterate 12 refine Ca F (AH F Aa Aa Aa Aa Aa) Aa Aa fun a F => ?_
   refine qs F Aa (As F Aa Aa Aa).q fun a F => ?_
   refine qs F Aa (Ah F Aa).q fun a F => ?_
   refine A2 fun w W => ?_
   refine Ad ?_
   have W := W.frontM (i := 1) Aa Aa
   have W := W.frontM (i := 1) Aa Aa
   exact ⟨_, H, F.re ⟨rfl, trivial⟩, W⟩
  rintro a w ⟨x1, hj, F, W⟩
  have hj := AM hj
  subst hj
  have H := K1
  clear G1 K1
  refine Az (Bk (AR ?_))
  have H := AM H
  subst H
  refine AQ (.inl Aa) F W Aa (AD F Aa) ?_
  exact ⟨rfl, W.done⟩
 have H := AX (Bl hb) H
 rw [hb] at F
 clear hb
 refine Aj (Ae ?_)
 refine ls F W Aa (Bq F Aa Aa).q fun a w F W => ?_
 refine ls F W Aa (Ah F Aa).q fun a w F W => ?_
 refine Ag (Ad ?_)
 refine Ay F Aa (fun hb => ?_) fun hb => ?_
 ·
  have H := AW (Bm hb) H
  rw [hb] at F
  clear hb
  obtain ⟨o2, G2, K2⟩ := Am H
  refine AO (fun a w => ∃ x3 : Bool, some (x3) = some o2 ∧ Fr 57 [] [(4, .bool x3)] a ∧ Stw ⟨Y, [], w0⟩ [(b2, [.int .i64 p1.un.1, .int .i64 p1.un.2.1, .int .i64 p1.un.2.2.1, v1]), (b1, [.int .i64 p0.1, .int .i64 p0.2.1, .int .i64 p0.2.2.1, .int .i64 p0.2.2.2.1, .int .i64 p0.2.2.2.2.1, .int .i64 p0.2.2.2.2.2])] [] w) ?_ ?_
  ·
   have H := G2
   clear G2 K2
   refine BS W MO (by kernel_rfl) ?_
   refine qs F Aa (Ak CM Aa Aa Aa Fp F Aa 3 Aa).q fun a F => ?_
   refine qs F Aa (Aq (v := v1) 0 F Aa Aa Fp Aa).q fun a F => ?_
   refine qs F Aa (CT (r := BJ) (l := p1.un.2.2.2) GA Aa F Aa (AP CB h1 (Av h_v1))).q fun a F => ?_
   refine qs F Aa (EW F Aa Aa).q fun a F => ?_
   refine qs F Aa (Ai F Aa).q fun a F => ?_
   rcases Bool.eq_false_or_eq_true (decide (0 < (p1.un.2.2.2.length : Int))) with hb | hb
   ·
    have H := AW (Bm hb) H
    rw [hb] at F
    clear hb
    refine Bi F (Af F Aa Aa Aa Aa) Aa (An Aa) (Aq (v := Value.agg #[.int .i64 p0.1, .int .i64 p0.2.1, .int .i64 p0.2.2.1, .int .i64 p0.2.2.2.1, .int .i64 p0.2.2.2.2.1, .int .i64 p0.2.2.2.2.2]) 1 F Aa Aa R4 Aa).q fun a F => ?_
    refine Bi F (Af F Aa Aa Aa Aa) Aa (An Aa) (Ak CM Aa Aa Aa Fp F Aa 3 Aa).q fun a F => ?_
    refine Bi F (Af F Aa Aa Aa Aa) Aa (An Aa) (Aq (v := v1) 0 F Aa Aa Fp Aa).q fun a F => ?_
    obtain ⟨x4, h3, H⟩ := Am H
    obtain ⟨v3, h4, h5⟩ := DL h1 h3
    have h6 : Fd v3 = [.int .i64 x4.un.1, .int .i64 x4.un.2.1, .int .i64 x4.un.2.2.1, (v3.2.2.2.1)] := congrArg (fun q : Tr31 => ([.int .i64 q.un.1, .int .i64 q.un.2.1, .int .i64 q.un.2.2.1, (v3.2.2.2.1)] : List Value)) h5
    refine Bi F (Af F Aa Aa Aa Aa) Aa (An Aa) (AG (r := Gm) Ke F Aa Aa (Av h_v1) h4).q fun a F => ?_
    refine Bi F (Af F Aa Aa Aa Aa) Aa (An Aa) (Ax (y := Value.agg #[.int .i64 x4.un.1, .int .i64 x4.un.2.1, .int .i64 x4.un.2.2.1, (v3.2.2.2.1)]) (j := 0) (i := 0) (enc := Fd) F Aa Aa (Av h_v1) h4 IH EA (by rw [h6]; rfl)).q fun a F => ?_
    obtain ⟨x5, h7, H⟩ := Am H
    refine Bi F (Af F Aa Aa Aa Aa) Aa (An Aa) (AU (v := Value.bool x5) F SA Aa (fun w W => (FY fRec ih) any w ((v3.2.2.2.1)) p0 x4 _ h7 (((CG (Av h_v1) h4 (A5.snd (A5.snd (A5.snd A5.here))) (congrArg (fun q : Tr31 => q.un.2.2.2) h5)) : EC _ _ _ _ _ _) w W).nx)) fun a F => ?_
    refine qs F Aa (Au F Aa Aa Aa).q fun a F => ?_
    refine qs F Aa (Ah F Aa).q fun a F => ?_
    refine A2 fun w W => ?_
    refine Ad ?_
    have W := W.frontM (i := 1) Aa Aa
    have W := W.frontM (i := 1) Aa Aa
    exact ⟨_, H, F.re ⟨rfl, trivial⟩, W⟩
   have H := AX (Bl hb) H
   rw [hb] at F
   clear hb
   iterate 6 refine Ca F (AH F Aa Aa Aa Aa Aa) Aa Aa fun a F => ?_
   refine qs F Aa (As F Aa Aa Aa).q fun a F => ?_
   refine qs F Aa (Ah F Aa).q fun a F => ?_
   refine A2 fun w W => ?_
   refine Ad ?_
   have W := W.frontM (i := 1) Aa Aa
   have W := W.frontM (i := 1) Aa Aa
   exact ⟨_, H, F.re ⟨rfl, trivial⟩, W⟩
  rintro a w ⟨x3, hj, F, W⟩
  have hj := AM hj
  subst hj
  have H := K2
  clear G2 K2
  refine Az (Bk (AR ?_))
  have H := AM H
  subst H
  refine AQ (.inl Aa) F W Aa (AD F Aa) ?_
  exact ⟨rfl, W.done⟩
 have H := AX (Bl hb) H
 rw [hb] at F
 clear hb
 refine Aj (Ae ?_)
 refine ls F W Aa (Bq F Aa Aa).q fun a w F W => ?_
 refine ls F W Aa (Ah F Aa).q fun a w F W => ?_
 refine Ag (Ad ?_)
 refine Ay F Aa (fun hb => ?_) fun hb => ?_
 ·
  have H := AW (Bm hb) H
  rw [hb] at F
  clear hb
  refine Aj (Ae ?_)
  refine ls F W Aa (Ak CM Aa Aa Aa Fp F Aa 3 Aa).q fun a w F W => ?_
  refine ls F W Aa (Aq (v := v1) 0 F Aa Aa Fp Aa).q fun a w F W => ?_
  refine ls F W Aa (Aq (v := Value.agg #[.int .i64 p0.1, .int .i64 p0.2.1, .int .i64 p0.2.2.1, .int .i64 p0.2.2.2.1, .int .i64 p0.2.2.2.2.1, .int .i64 p0.2.2.2.2.2]) 1 F Aa Aa R4 Aa).q fun a w F W => ?_
  refine ls F W Aa (KP (us := [.agg #[.int .i64 p0.1, .int .i64 p0.2.1, .int .i64 p0.2.2.1, .int .i64 p0.2.2.2.1, .int .i64 p0.2.2.2.2.1, .int .i64 p0.2.2.2.2.2]]) (vs := []) F Aa Aa).q fun a w F W => ?_
  obtain ⟨x6, h8, H⟩ := Am H
  refine ls F W Aa (AU (v := Value.bool x6) F SB Aa (fun w W => (EE fRec ih) any w (v1) p1.un.2.2.2 p0 _ h8 (((AP CB h1 (Av h_v1)) : EC _ _ _ _ _ _) w W).nx)) fun a w F W => ?_
  refine ls F W Aa (ET F Aa).q fun a w F W => ?_
  refine ls F W Aa (Ah F Aa).q fun a w F W => ?_
  refine Ag (Ad (Az (Bk (AR ?_))))
  have H := AM H
  subst H
  refine AQ (.inl Aa) F W Aa (AD F Aa) ?_
  exact ⟨rfl, W.done⟩
 have H := AX (Bl hb) H
 rw [hb] at F
 clear hb
 refine Aj (Ae ?_)
 refine ls F W Aa (Bq F Aa Aa).q fun a w F W => ?_
 refine ls F W Aa (Ah F Aa).q fun a w F W => ?_
 refine Ag (Ad ?_)
 refine Ay F Aa (fun hb => ?_) fun hb => ?_
 ·
  have H := AW (Bm hb) H
  rw [hb] at F
  clear hb
  refine Aj (Ae ?_)
  refine ls F W Aa (Ak CM Aa Aa Aa Fp F Aa 3 Aa).q fun a w F W => ?_
  refine ls F W Aa (Aq (v := v1) 0 F Aa Aa Fp Aa).q fun a w F W => ?_
  refine ls F W Aa (Aq (v := Value.agg #[.int .i64 p0.1, .int .i64 p0.2.1, .int .i64 p0.2.2.1, .int .i64 p0.2.2.2.1, .int .i64 p0.2.2.2.2.1, .int .i64 p0.2.2.2.2.2]) 1 F Aa Aa R4 Aa).q fun a w F W => ?_
  refine ls F W Aa (KP (us := [.agg #[.int .i64 p0.1, .int .i64 p0.2.1, .int .i64 p0.2.2.1, .int .i64 p0.2.2.2.1, .int .i64 p0.2.2.2.2.1, .int .i64 p0.2.2.2.2.2]]) (vs := []) F Aa Aa).q fun a w F W => ?_
  obtain ⟨x7, h9, H⟩ := Am H
  refine ls F W Aa (AU (v := Value.bool x7) F SB Aa (fun w W => (Ee fRec ih) any w (v1) p1.un.2.2.2 p0 _ h9 (((AP CB h1 (Av h_v1)) : EC _ _ _ _ _ _) w W).nx)) fun a w F W => ?_
  refine ls F W Aa (Ah F Aa).q fun a w F W => ?_
  refine Ag (Ad (Az (Bk (AR ?_))))
  have H := AM H
  subst H
  refine AQ (.inl Aa) F W Aa (AD F Aa) ?_
  exact ⟨rfl, W.done⟩
 have H := AX (Bl hb) H
 rw [hb] at F
 clear hb
 refine Aw (A8 (Ad (Aj (Ae ?_))))
 refine ls F W Aa (Ah F Aa).q fun a w F W => ?_
 refine Ag (Ad (Az ?_))
 have H := AM H
 subst H
 refine AQ (.inl Aa) F W Aa (AD F Aa) ?_
 exact ⟨rfl, W.done⟩
theorem Gz : ∀ (n : Nat) (Y : Nat → Prop) (w0 : World) (v1 : Value) (p0 : Int × Int × (Int × Int × Int × Int)) (p1 : Tr31) (r : Bool) (H : Bf n p0 p1 = some r) (h_v1 : Sl w0 (NX []) BJ v1 p1.un.2.2.2), Calls Tryd.prog 34 #[.agg #[.int .i64 p0.1, .int .i64 p0.2.1, .int .i64 p0.2.2.1, .int .i64 p0.2.2.2.1, .int .i64 p0.2.2.2.2.1, .int .i64 p0.2.2.2.2.2], .agg #[.int .i64 p1.un.1, .int .i64 p1.un.2.1, .int .i64 p1.un.2.2.1, v1]] w0 fun e w' => e = .returned (.bool r) ∧ Below w0.heap.size w0 w' := by
  intro n
  induction n with
  | zero => intro Y w0 v1 p0 p1 r H; exact nomatch H
  | succ n ih => intro Y w0 v1 p0 p1 r H h_v1; exact Gv (Bf n) ih Y w0 v1 p0 p1 r H h_v1
theorem GP (Y : Nat → Prop) (w0 : World) (v1 : Value) (p0 : Int × Int × (Int × Int × Int × Int)) (p1 : Tr31) (r : Bool) (H : Dy p0 p1 = some r) (h_v1 : Sl w0 (NX []) BJ v1 p1.un.2.2.2) :
    Calls Tryd.prog 34 #[.agg #[.int .i64 p0.1, .int .i64 p0.2.1, .int .i64 p0.2.2.1, .int .i64 p0.2.2.2.1, .int .i64 p0.2.2.2.2.1, .int .i64 p0.2.2.2.2.2], .agg #[.int .i64 p1.un.1, .int .i64 p1.un.2.1, .int .i64 p1.un.2.2.1, v1]] w0 fun e w' => e = .returned (.bool r) ∧ Below w0.heap.size w0 w' := by
  obtain ⟨n, H⟩ := Cs H
  exact Gz n Y w0 v1 p0 p1 r H h_v1
noncomputable def EY (p0 : Tr31) (p1 : Int) (p2 : Int) (p3 : Int × Int × Int × Int) : Option Bool := (Dy (p1, p2, p3) p0).bind fun x1 => some x1
theorem HM (Y : Nat → Prop) (w0 : World) (v1 : Value) (p0 : Tr31) (p1 : Int) (p2 : Int) (p3 : Int × Int × Int × Int) (r : Bool) (H : EY p0 p1 p2 p3 = some r) (h_v1 : Sl w0 (NX []) BJ v1 p0.un.2.2.2) :
    Calls Tryd.prog 16 #[.agg #[.int .i64 p0.un.1, .int .i64 p0.un.2.1, .int .i64 p0.un.2.2.1, v1], .int .i64 p1, .int .i64 p2, .agg #[.int .i64 p3.1, .int .i64 p3.2.1, .int .i64 p3.2.2.1, .int .i64 p3.2.2.2]] w0 fun e w' => e = .returned (.bool r) ∧ Below w0.heap.size w0 w' := by
 refine enter Tryd.func16 Aa Tryd.ntmps16 Aa fun a F => ?_
 have W := Stw.start Y w0
 obtain ⟨v2, h1, h_v1⟩ := h_v1.ex CB
 unfold EY at H
 refine Aj (Ae ?_)
 refine C5 (cs := [.int .i64 p0.un.1, .int .i64 p0.un.2.1, .int .i64 p0.un.2.2.1, v1]) F W Aa Aa Aa fun b1 a w F W => ?_
 refine C5 (cs := [.int .i64 p3.1, .int .i64 p3.2.1, .int .i64 p3.2.2.1, .int .i64 p3.2.2.2]) F W Aa Aa Aa fun b2 a w F W => ?_
 refine ls F W Aa (Ah F Aa).q fun a w F W => ?_
 refine Ag (Ad (Aj (Ae ?_)))
 iterate 2 refine ls F W Aa (Ai F Aa).q fun a w F W => ?_
 refine ls F W Aa (Aq (v := Value.agg #[.int .i64 p3.1, .int .i64 p3.2.1, .int .i64 p3.2.2.1, .int .i64 p3.2.2.2]) 0 F Aa Aa Qh Aa).q fun a w F W => ?_
 refine ls F W Aa (DQ (v := Value.agg #[.int .i64 p1, .int .i64 p2, .int .i64 p3.1, .int .i64 p3.2.1, .int .i64 p3.2.2.1, .int .i64 p3.2.2.2]) Tr F Aa Aa Aa).q fun a w F W => ?_
 refine ls F W Aa (Aq (v := Value.agg #[.int .i64 p0.un.1, .int .i64 p0.un.2.1, .int .i64 p0.un.2.2.1, v1]) 1 F Aa Aa EA Aa).q fun a w F W => ?_
 obtain ⟨x1, h2, H⟩ := Am H
 refine ls F W Aa (AU (v := Value.bool x1) F R9 Aa (fun w W => GP any w (v1) (p1, p2, p3) p0 _ h2 (((AP CB h1 (Av h_v1)) : EC _ _ _ _ _ _) w W).nx)) fun a w F W => ?_
 refine ls F W Aa (Ah F Aa).q fun a w F W => ?_
 refine Ag (Ad (Az ?_))
 have H := AM H
 subst H
 refine AQ (.inl Aa) F W Aa (AD F Aa) ?_
 exact ⟨rfl, W.done⟩
theorem QV : type_of% Tryd.underlying55 := Tryd.underlying55
theorem Sf : Has Tryd.prog 16 := ⟨fun args w => Ao Tryd.func16 rfl (by decide) args w⟩
theorem Tn : Bt Tryd.prog 55 [.int .i64 0] [(0, 1)] := ⟨⟨.agg #[.int .i64 0], by kernel_rfl, rfl⟩, ⟨_, QV, fun w => by kernel_rfl⟩⟩
theorem Tt : (Tryd.prog.info? 55).bind (·.zero) = some (.agg #[.int .i64 0]) := by kernel_rfl
theorem Ta : Ty Tryd.prog 55 true 1 := ⟨by kernel_rfl, by kernel_rfl⟩
noncomputable def Fg (p0 : Int) : Option Int := (if p0 = 0 then some true else (if p0 = 1 then some true else some (decide (p0 = 3)))).bind fun x1 => (if x1 = true then some 8 else (if p0 = 2 then some 4 else some 0))
theorem LC (Y : Nat → Prop) (w0 : World)  (p0 : Int) (r : Int) (H : Fg p0 = some r)  :
    Calls Tryd.prog 53 #[.int .i64 p0] w0 fun e w' => e = .returned (.int .i64 r) ∧ Below w0.heap.size w0 w' := by
 refine enter Tryd.func53 Aa Tryd.ntmps53 Aa fun a F => ?_
 have W := Stw.start Y w0
 unfold Fg at H
 refine Aj (Ae ?_)
 refine ls F W Aa (Ah F Aa).q fun a w F W => ?_
 refine Ag (Ad (Aj (Aj (Ae ?_))))
 refine ls F W Aa (Ai F Aa).q fun a w F W => ?_
 refine Ag (Ad (AA ?_))
 obtain ⟨o1, G1, K1⟩ := Am H
 refine AO (fun a w => ∃ x1 : Bool, some (x1) = some o1 ∧ Fr 10 [] [(2, .int .i64 0), (3, .int .i64 p0), (4, .bool x1)] a ∧ Stw ⟨Y, [], w0⟩ [] [] w) ?_ ?_
 ·
  have H := G1
  clear G1 K1
  refine Aj (Ae ?_)
  refine ls F W Aa (Bq F Aa Aa).q fun a w F W => ?_
  refine ls F W Aa (Ah F Aa).q fun a w F W => ?_
  refine Ag (Ad ?_)
  refine Ay F Aa (fun hb => ?_) fun hb => ?_
  ·
   have H := AW (Bm hb) H
   rw [hb] at F
   clear hb
   refine Aw (Ad ?_)
   exact ⟨_, H, F.re ⟨rfl, Aa, Aa, trivial⟩, W⟩
  have H := AX (Bl hb) H
  rw [hb] at F
  clear hb
  refine Aj (Ae ?_)
  refine ls F W Aa (Bq F Aa Aa).q fun a w F W => ?_
  refine ls F W Aa (Ah F Aa).q fun a w F W => ?_
  refine Ag (Ad ?_)
  refine Ay F Aa (fun hb => ?_) fun hb => ?_
  ·
   have H := AW (Bm hb) H
   rw [hb] at F
   clear hb
   refine Aw (Ad ?_)
   exact ⟨_, H, F.re ⟨rfl, Aa, Aa, trivial⟩, W⟩
  have H := AX (Bl hb) H
  rw [hb] at F
  clear hb
  refine Ae ?_
  refine ls F W Aa (Bq F Aa Aa).q fun a w F W => ?_
  refine ls F W Aa (Ah F Aa).q fun a w F W => ?_
  refine Ag (Ad ?_)
  exact ⟨_, H, F.re ⟨rfl, Aa, Aa, trivial⟩, W⟩
 rintro a w ⟨x1, hj, F, W⟩
 have hj := AM hj
 subst hj
 have H := K1
 clear G1 K1
 refine Ay F Aa (fun hb => ?_) fun hb => ?_
 ·
  have H := AW hb H
  rw [hb] at F
  clear hb
  refine Aj (Ae ?_)
  refine ls F W Aa (Ah F Aa).q fun a w F W => ?_
  refine Ag (Ad (Az (Bk (AR ?_))))
  have H := AM H
  subst H
  refine AQ (.inl Aa) F W Aa (AD F Aa) ?_
  exact ⟨rfl, W.done⟩
 have H := AX (by rw [hb]; decide) H
 rw [hb] at F
 clear hb
 refine Aj (Ae ?_)
 refine ls F W Aa (Bq F Aa Aa).q fun a w F W => ?_
 refine ls F W Aa (Ah F Aa).q fun a w F W => ?_
 refine Ag (Ad ?_)
 refine Ay F Aa (fun hb => ?_) fun hb => ?_
 ·
  have H := AW (Bm hb) H
  rw [hb] at F
  clear hb
  refine Aj (Ae ?_)
  refine ls F W Aa (Ah F Aa).q fun a w F W => ?_
  refine Ag (Ad (Az (Bk (AR ?_))))
  have H := AM H
  subst H
  refine AQ (.inl Aa) F W Aa (AD F Aa) ?_
  exact ⟨rfl, W.done⟩
 have H := AX (Bl hb) H
 rw [hb] at F
 clear hb
 refine Aw (A8 (Ad (Aj (Ae ?_))))
 refine ls F W Aa (Ah F Aa).q fun a w F W => ?_
 refine Ag (Ad (Az ?_))
 have H := AM H
 subst H
 refine AQ (.inl Aa) F W Aa (AD F Aa) ?_
 exact ⟨rfl, W.done⟩
theorem S6 : Has Tryd.prog 53 := ⟨fun args w => Ao Tryd.func53 rfl (by decide) args w⟩
noncomputable def FK (p0 : Int) : Option Int := (Fg p0).bind fun x1 => (Rn (DP .i64 1 x1) x1).bind fun x2 => some (A1 (x2 - 1))
theorem Mz (Y : Nat → Prop) (w0 : World)  (p0 : Int) (r : Int) (H : FK p0 = some r)  :
    Calls Tryd.prog 35 #[.int .i64 p0] w0 fun e w' => e = .returned (.int .i64 r) ∧ Below w0.heap.size w0 w' := by
 refine enter Tryd.func35 Aa Tryd.ntmps35 Aa fun a F => ?_
 have W := Stw.start Y w0
 unfold FK at H
 refine Aj (Ae ?_)
 refine ls F W Aa (Ah F Aa).q fun a w F W => ?_
 refine Ag (Ad (Aj (Ae ?_)))
 refine ls F W Aa (Ai F Aa).q fun a w F W => ?_
 obtain ⟨x1, h1, H⟩ := Am H
 refine ls F W Aa (AU (v := Value.int .i64 x1) F S6 Aa (fun w W => LC any w p0 _ h1)) fun a w F W => ?_
 obtain ⟨x2, h2, H⟩ := Am H
 refine ls F W Aa (Q1 (I8 h2).2 (Ol F Aa Aa (I8 h2).1)).q fun a w F W => ?_
 refine ls F W Aa (Cn F Aa Aa Aa).q fun a w F W => ?_
 refine ls F W Aa (Ah F Aa).q fun a w F W => ?_
 refine Ag (Ad (Az ?_))
 have H := AM H
 subst H
 refine AQ (.inl Aa) F W Aa (AD F Aa) ?_
 exact ⟨rfl, W.done⟩
theorem Tc : Has Tryd.prog 35 := ⟨fun args w => Ao Tryd.func35 rfl (by decide) args w⟩
noncomputable def F0 (p0 : Int) : Option Int := (if (decide (p0 = 4) || decide (p0 = 5)) = true then some 7 else (FK p0).bind fun x1 => some x1)
theorem Lb (Y : Nat → Prop) (w0 : World)  (p0 : Int) (r : Int) (H : F0 p0 = some r)  :
    Calls Tryd.prog 18 #[.int .i64 p0] w0 fun e w' => e = .returned (.int .i64 r) ∧ Below w0.heap.size w0 w' := by
 refine enter Tryd.func18 Aa Tryd.ntmps18 Aa fun a F => ?_
 have W := Stw.start Y w0
 unfold F0 at H
 refine Aj (Ae ?_)
 refine ls F W Aa (Ah F Aa).q fun a w F W => ?_
 refine Ag (Ad (Aj ?_))
 refine AO (fun a w => Fr 11 [] [(0, .int .i64 p0), (2, .int .i64 0), (8, .bool (decide (p0 = 4) || decide (p0 = 5)))] a ∧ Stw ⟨Y, [], w0⟩ [] [] w) ?_ ?_
 ·
  refine Ae ?_
  refine ls F W Aa (Ai F Aa).q fun a w F W => ?_
  refine ls F W Aa (Bq F Aa Aa).q fun a w F W => ?_
  refine ls F W Aa (Ai F Aa).q fun a w F W => ?_
  rcases Bool.eq_false_or_eq_true (decide (p0 = 4)) with hb0 | hb0
  ·
   rw [hb0] at F
   iterate 2 refine CD F Aa Aa Aa Aa Aa Aa Aa fun a F => ?_
   refine ls F W Aa (Au F Aa Aa Aa).q fun a w F W => ?_
   refine Ag (Ad ?_)
   exact ⟨F.re ⟨rfl, Aa, (by show some (Value.bool true) = some (Value.bool (decide (p0 = 4) || decide (p0 = 5))); try rw [hb0]; all_goals simp only [Bool.not_true, Bool.not_false, Bool.true_and, Bool.false_and, Bool.true_or, Bool.false_or, Bool.and_true, Bool.or_false, cond_true, cond_false]), trivial⟩, W⟩
  rw [hb0] at F
  refine AL F W (Af F Aa Aa Aa Aa) Aa (An Aa) (Ai F Aa).q fun a w F W => ?_
  refine AL F W (Af F Aa Aa Aa Aa) Aa (An Aa) (Bq F Aa Aa).q fun a w F W => ?_
  refine ls F W Aa (As F Aa Aa Aa).q fun a w F W => ?_
  refine Ag (Ad ?_)
  exact ⟨F.re ⟨rfl, Aa, (by show some (Value.bool (decide (p0 = 5))) = some (Value.bool (decide (p0 = 4) || decide (p0 = 5))); try rw [hb0]; all_goals simp only [Bool.not_true, Bool.not_false, Bool.true_and, Bool.false_and, Bool.true_or, Bool.false_or, Bool.and_true, Bool.or_false, cond_true, cond_false]), trivial⟩, W⟩
 rintro a w ⟨F, W⟩
 refine Ay F Aa (fun hb => ?_) fun hb => ?_
 ·
  have H := AW hb H
  rw [hb] at F
  clear hb
  refine Aj (Ae ?_)
  refine ls F W Aa (Ah F Aa).q fun a w F W => ?_
  refine Ag (Ad (Az (AR ?_)))
  have H := AM H
  subst H
  refine AQ (.inl Aa) F W Aa (AD F Aa) ?_
  exact ⟨rfl, W.done⟩
 have H := AX (by rw [hb]; decide) H
 rw [hb] at F
 clear hb
 refine Aw (Ad (Aj (Ae ?_)))
 refine ls F W Aa (Ai F Aa).q fun a w F W => ?_
 obtain ⟨x1, h1, H⟩ := Am H
 refine ls F W Aa (AU (v := Value.int .i64 x1) F Tc Aa (fun w W => Mz any w p0 _ h1)) fun a w F W => ?_
 refine ls F W Aa (Ah F Aa).q fun a w F W => ?_
 refine Ag (Ad (Az ?_))
 have H := AM H
 subst H
 refine AQ (.inl Aa) F W Aa (AD F Aa) ?_
 exact ⟨rfl, W.done⟩
end Go.Proofs.YtepfcpffbabgmaaDoor
