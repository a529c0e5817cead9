/- The functions of layer 26, EY. Conditions: none. -/
import Derived.Test.YtepfcpffbabgmaaDoorbA2
namespace Go.Proofs.YtepfcpffbabgmaaDoor
open Go Go.RowKit
set_option linter.unusedVariables false
set_option linter.unusedSimpArgs false
set_option maxRecDepth 20000
noncomputable def C3 (fRec : Tr31 → Option Tr31) (p0 : Tr31) : Option Tr31 := (if (decide (p0.un.1 = 4) && decide (0 < (p0.un.2.2.2.length : Int))) = true then (ix p0.un.2.2.2 0).bind fun x1 => ((Ea fRec) x1).bind fun x2 => some x2 else ((Dl fRec) p0.un.2.2.2).bind fun x3 => some (Tr31.of (p0.un.1, p0.un.2.1, p0.un.2.2.1, x3)))
noncomputable def Dk : Nat → Tr31 → Option Tr31
  | 0 => fun _ => none
  | n + 1 => C3 (Dk n)
noncomputable def Hm (p0 : Tr31) : Option Tr31 := GN fun n => Dk n p0
theorem IW (fRec : Tr31 → Option Tr31) (ih : ∀ (Y : Nat → Prop) (w0 : World) (v1 : Value) (p0 : Tr31) (r : Tr31) (H : fRec p0 = some r) (h_v1 : Sl w0 (NX []) B4 v1 p0.un.2.2.2), Calls Tryd.prog 23 #[.agg #[.int .i64 p0.un.1, .int .i64 p0.un.2.1, .int .i64 p0.un.2.2.1, v1]] w0 fun e w' => ∃ x : Value, e = .returned (.agg #[.int .i64 r.un.1, .int .i64 r.un.2.1, .int .i64 r.un.2.2.1, x]) ∧ Stw ⟨Y, [], w0⟩ [] [row (x) 31 B4 r.un.2.2.2] w') (Y : Nat → Prop) (w0 : World) (v1 : Value) (p0 : Tr31) (r : Tr31) (H : C3 fRec p0 = some r) (h_v1 : Sl w0 (NX []) B4 v1 p0.un.2.2.2) :
    Calls Tryd.prog 23 #[.agg #[.int .i64 p0.un.1, .int .i64 p0.un.2.1, .int .i64 p0.un.2.2.1, v1]] w0 fun e w' => ∃ x : Value, e = .returned (.agg #[.int .i64 r.un.1, .int .i64 r.un.2.1, .int .i64 r.un.2.2.1, x]) ∧ Stw ⟨Y, [], w0⟩ [] [row (x) 31 B4 r.un.2.2.2] w' := by
 refine enter Tryd.func23 Aa Tryd.ntmps23 Aa fun a F => ?_
 have W := Stw.start Y w0
 obtain ⟨v2, h1, h_v1⟩ := h_v1.ex CA
 unfold C3 at H
 refine Ag (Ab ?_)
 refine Do (cs := [.int .i64 p0.un.1, .int .i64 p0.un.2.1, .int .i64 p0.un.2.2.1, v1]) F W Aa Aa Aa fun b1 a w F W => ?_
 refine C8 (cs := [.int .i64 0, .int .i64 0, .int .i64 0, .slice none 0 0]) F W Aa JD Aa fun b2 a w F W => ?_
 refine Ae (Ac (Ag ?_))
 refine AW (fun a w => Fr 22 [] [(1, .pointer (some ⟨b1, 0, none⟩)), (2, .pointer (some ⟨b2, 0, none⟩)), (11, .bool (decide (p0.un.1 = 4) && decide (0 < (p0.un.2.2.2.length : Int))))] a ∧ Stw ⟨Y, [], w0⟩ [(b2, [.int .i64 0, .int .i64 0, .int .i64 0, .slice none 0 0]), (b1, [.int .i64 p0.un.1, .int .i64 p0.un.2.1, .int .i64 p0.un.2.2.1, v1])] [] w) ?_ ?_
 ·
  refine Ab ?_
  refine ls F W Aa (Al CJ Aa Aa Aa T3 F Aa 0 Aa).q fun a w F W => ?_
  refine ls F W Aa (As (v := Value.int .i64 p0.un.1) 1 F Aa Aa T3 Aa).q fun a w F W => ?_
  refine ls F W Aa (BU F Aa Aa).q fun a w F W => ?_
  refine ls F W Aa (Af F Aa).q fun a w F W => ?_
  rcases Bool.eq_false_or_eq_true (decide (p0.un.1 = 4)) with hb0 | hb0
  ·
   rw [hb0] at F
   refine Cm F W (Ah F Aa Aa Aa Aa) Aa (An Aa) (Al CJ Aa Aa Aa ET F Aa 3 Aa).q fun a w F W => ?_
   refine Cm F W (Ah F Aa Aa Aa Aa) Aa (An Aa) (As (v := v1) 1 F Aa Aa ET Aa).q fun a w F W => ?_
   refine Cm F W (Ah F Aa Aa Aa Aa) Aa (An Aa) (DU (r := B4) (l := p0.un.2.2.2) GC Aa F Aa (Bn CA h1 (AQ h_v1))).q fun a w F W => ?_
   refine Cm F W (Ah F Aa Aa Aa Aa) Aa (An Aa) (Hw F Aa Aa).q fun a w F W => ?_
   refine ls F W Aa (Bc F Aa Aa Aa).q fun a w F W => ?_
   refine Ae (Ac ?_)
   exact ⟨F.re ⟨rfl, Aa, (by show some (Value.bool (decide (0 < (p0.un.2.2.2.length : Int)))) = some (Value.bool (decide (p0.un.1 = 4) && decide (0 < (p0.un.2.2.2.length : Int)))); try rw [hb0]; all_goals simp only [Bool.not_true, Bool.not_false, Bool.true_and, Bool.false_and, Bool.true_or, Bool.false_or, Bool.and_true, Bool.or_false, cond_true, cond_false]), trivial⟩, W⟩
  rw [hb0] at F
  iterate 4 refine GD F Aa Aa Aa Aa Aa Aa Aa fun a F => ?_
  refine ls F W Aa (AU F Aa Aa Aa).q fun a w F W => ?_
  refine Ae (Ac ?_)
  exact ⟨F.re ⟨rfl, Aa, (by show some (Value.bool false) = some (Value.bool (decide (p0.un.1 = 4) && decide (0 < (p0.un.2.2.2.length : Int)))); try rw [hb0]; all_goals simp only [Bool.not_true, Bool.not_false, Bool.true_and, Bool.false_and, Bool.true_or, Bool.false_or, Bool.and_true, Bool.or_false, cond_true, cond_false]), trivial⟩, W⟩
 rintro a w ⟨F, W⟩
 refine Ao F Aa (fun hb => ?_) fun hb => ?_
 ·
  have H := A5 hb H
  rw [hb] at F
  clear hb
  refine Ag (Ab ?_)
  refine ls F W Aa (Al CJ Aa Aa Aa ET F Aa 3 Aa).q fun a w F W => ?_
  refine ls F W Aa (As (v := v1) 1 F Aa Aa ET Aa).q fun a w F W => ?_
  obtain ⟨x1, h2, H⟩ := Aj H
  obtain ⟨v3, h3, h4⟩ := FV h1 h2
  have h5 : Fp v3 = [.int .i64 x1.un.1, .int .i64 x1.un.2.1, .int .i64 x1.un.2.2.1, (v3.2.2.2.1)] := congrArg (fun q : Tr31 => ([.int .i64 q.un.1, .int .i64 q.un.2.1, .int .i64 q.un.2.2.1, (v3.2.2.2.1)] : List Value)) h4
  refine ls F W Aa (Ay (r := FZ) Ji F Aa Aa (AQ h_v1) h3).q fun a w F W => ?_
  refine ls F W Aa (Am (y := Value.agg #[.int .i64 x1.un.1, .int .i64 x1.un.2.1, .int .i64 x1.un.2.2.1, (v3.2.2.2.1)]) (j := 0) (i := 0) (enc := Fp) F Aa Aa (AQ h_v1) h3 IU D7 (by rw [h5]; rfl)).q fun a w F W => ?_
  obtain ⟨x2, h6, H⟩ := Aj H
  refine BE (Ml := []) (Zl := []) (M := [(b2, [.int .i64 0, .int .i64 0, .int .i64 0, .slice none 0 0]), (b1, [.int .i64 p0.un.1, .int .i64 p0.un.2.1, .int .i64 p0.un.2.2.1, v1])]) (Z := []) (β := Value) (rv := fun x => .agg #[.int .i64 x2.un.1, .int .i64 x2.un.2.1, .int .i64 x2.un.2.2.1, x]) (MM := fun x => []) (ZZ := fun x => [row x 31 B4 x2.un.2.2.2]) F W Ok Aa Aa (fun hL => (IG fRec ih) _ w ((v3.2.2.2.1)) x1 _ h6 ((DV (AQ h_v1) h3 (Cg.snd (Cg.snd (Cg.snd Cg.here))) (congrArg (fun q : Tr31 => q.un.2.2.2) h4)) w W).nx) fun x a w F W => ?_
  obtain ⟨v4, rfl⟩ : ∃ y, y = x := ⟨x, rfl⟩
  have W : Stw ⟨Y, [], w0⟩ [(b2, [.int .i64 0, .int .i64 0, .int .i64 0, .slice none 0 0]), (b1, [.int .i64 p0.un.1, .int .i64 p0.un.2.1, .int .i64 p0.un.2.2.1, v1])] [row v4 31 B4 x2.un.2.2.2] w := W
  refine Cl (vs := [.int .i64 x2.un.1, .int .i64 x2.un.2.1, .int .i64 x2.un.2.2.1, v4]) (M' := [(b2, [.int .i64 x2.un.1, .int .i64 x2.un.2.1, .int .i64 x2.un.2.2.1, v4]), (b1, [.int .i64 p0.un.1, .int .i64 p0.un.2.1, .int .i64 p0.un.2.2.1, v1])]) 0 F W Aa Aa Aa D7 Aa Aa Aa (AK Aa (AK Aa (AK Aa (AK (W.one (k := 0) Aa) DI)))) Aa fun w W => ?_
  refine Ae (Ac (Aw (A4 ?_)))
  have H := AV H
  subst H
  refine A2 (.inl Aa) F W Aa (ER 0 F Aa Aa D7 Aa) ?_
  have W := W.sub (M' := []) (Z' := [row v4 31 B4 x2.un.2.2.2]) (List.nil_sublist _) (List.Sublist.refl _)
  exact ⟨(v4), Aa, W⟩
 have H := A3 (by rw [hb]; decide) H
 rw [hb] at F
 clear hb
 refine Au (Ac (Ag (Ab ?_)))
 refine ls F W Aa (Al CJ Aa Aa Aa ET F Aa 3 Aa).q fun a w F W => ?_
 refine ls F W Aa (As (v := v1) 1 F Aa Aa ET Aa).q fun a w F W => ?_
 obtain ⟨x3, h7, H⟩ := Aj H
 refine BE (Ml := []) (Zl := []) (M := [(b2, [.int .i64 0, .int .i64 0, .int .i64 0, .slice none 0 0]), (b1, [.int .i64 p0.un.1, .int .i64 p0.un.2.1, .int .i64 p0.un.2.2.1, v1])]) (Z := []) (β := Value) (rv := fun x => x) (MM := fun x => []) (ZZ := fun x => [row x 31 B4 x3]) F W NT Aa Aa (fun hL => (IY fRec ih) _ w (v1) p0.un.2.2.2 _ h7 ((Bn CA h1 (AQ h_v1)) w W).nx) fun x a w F W => ?_
 obtain ⟨v5, rfl⟩ : ∃ y, y = x := ⟨x, rfl⟩
 have W : Stw ⟨Y, [], w0⟩ [(b2, [.int .i64 0, .int .i64 0, .int .i64 0, .slice none 0 0]), (b1, [.int .i64 p0.un.1, .int .i64 p0.un.2.1, .int .i64 p0.un.2.2.1, v1])] [row v5 31 B4 x3] w := W
 refine ls F W Aa (Al CJ Aa Aa Aa ET F Aa 3 Aa).q fun a w F W => ?_
 refine J6 (M' := [(b2, [.int .i64 0, .int .i64 0, .int .i64 0, .slice none 0 0]), (b1, [.int .i64 p0.un.1, .int .i64 p0.un.2.1, .int .i64 p0.un.2.2.1, v5])]) 1 F W Aa Aa Aa ET (W.one (k := 0) Aa) Aa Aa fun w W => ?_
 refine Ae (Ac (Ag (Ab ?_)))
 refine ls F W Aa (As (v := Value.agg #[.int .i64 p0.un.1, .int .i64 p0.un.2.1, .int .i64 p0.un.2.2.1, v5]) 1 F Aa Aa D7 Aa).q fun a w F W => ?_
 refine Cl (vs := [.int .i64 p0.un.1, .int .i64 p0.un.2.1, .int .i64 p0.un.2.2.1, v5]) (M' := [(b2, [.int .i64 p0.un.1, .int .i64 p0.un.2.1, .int .i64 p0.un.2.2.1, v5]), (b1, [.int .i64 p0.un.1, .int .i64 p0.un.2.1, .int .i64 p0.un.2.2.1, v5])]) 0 F W Aa Aa Aa D7 Aa Aa Aa (AK Aa (AK Aa (AK Aa (AK (W.one (k := 0) Aa) DI)))) Aa fun w W => ?_
 refine Ae (Ac (Aw ?_))
 have H := AV H
 subst H
 refine A2 (.inl Aa) F W Aa (ER 0 F Aa Aa D7 Aa) ?_
 have W := W.sub (M' := []) (Z' := [row v5 31 B4 x3]) (List.nil_sublist _) (List.Sublist.refl _)
 exact ⟨(v5), Aa, W⟩
theorem JC : ∀ (n : Nat) (Y : Nat → Prop) (w0 : World) (v1 : Value) (p0 : Tr31) (r : Tr31) (H : Dk n p0 = some r) (h_v1 : Sl w0 (NX []) B4 v1 p0.un.2.2.2), Calls Tryd.prog 23 #[.agg #[.int .i64 p0.un.1, .int .i64 p0.un.2.1, .int .i64 p0.un.2.2.1, v1]] w0 fun e w' => ∃ x : Value, e = .returned (.agg #[.int .i64 r.un.1, .int .i64 r.un.2.1, .int .i64 r.un.2.2.1, x]) ∧ Stw ⟨Y, [], w0⟩ [] [row (x) 31 B4 r.un.2.2.2] w' := by
  intro n
  induction n with
  | zero => intro Y w0 v1 p0 r H; exact nomatch H
  | succ n ih => intro Y w0 v1 p0 r H h_v1; exact IW (Dk n) ih Y w0 v1 p0 r H h_v1
theorem JS (Y : Nat → Prop) (w0 : World) (v1 : Value) (p0 : Tr31) (r : Tr31) (H : Hm p0 = some r) (h_v1 : Sl w0 (NX []) B4 v1 p0.un.2.2.2) :
    Calls Tryd.prog 23 #[.agg #[.int .i64 p0.un.1, .int .i64 p0.un.2.1, .int .i64 p0.un.2.2.1, v1]] w0 fun e w' => ∃ x : Value, e = .returned (.agg #[.int .i64 r.un.1, .int .i64 r.un.2.1, .int .i64 r.un.2.2.1, x]) ∧ Stw ⟨Y, [], w0⟩ [] [row (x) 31 B4 r.un.2.2.2] w' := by
  obtain ⟨n, H⟩ := DC H
  exact JC n Y w0 v1 p0 r H h_v1
def De (p0 : Int) : List UInt8 := (if p0 = 0 then ([115, 114, 99] : List UInt8) else (if p0 = 1 then ([100, 115, 116] : List UInt8) else (if p0 = 2 then ([107, 105, 110, 100] : List UInt8) else (if p0 = 3 then ([116, 97, 103] : List UInt8) else (if p0 = 4 then ([112, 111, 114, 116] : List UInt8) else (if p0 = 5 then ([115, 119, 105, 116, 99, 104] : List UInt8) else ([63] : List UInt8)))))))
theorem Ho (Y : Nat → Prop) (w0 : World)  (p0 : Int) (r : List UInt8) (H : De p0 = r)  :
    Calls Tryd.prog 45 #[.int .i64 p0] w0 fun e w' => e = .returned (.string (bs r)) ∧ Below w0.heap.size w0 w' := by
 refine enter Tryd.func45 Aa Tryd.ntmps45 Aa fun a F => ?_
 have W := Stw.start Y w0
 unfold De at H
 refine Ag (Ab ?_)
 refine ls F W Aa (Ad (v := Value.string (bs ([] : List UInt8))) F Aa).q fun a w F W => ?_
 refine Ae (Ac (Ag (Ag (Ab ?_))))
 refine ls F W Aa (Af F Aa).q fun a w F W => ?_
 refine Ae (Ac (Ap (Ag (Ab ?_))))
 refine ls F W Aa (BU F Aa Aa).q fun a w F W => ?_
 refine ls F W Aa (Ad F Aa).q fun a w F W => ?_
 refine Ae (Ac ?_)
 refine Ao F Aa (fun hb => ?_) fun hb => ?_
 ·
  have H := A5 (Bv hb) H
  rw [hb] at F
  clear hb
  refine Ag (Ab ?_)
  refine ls F W Aa (Ad (v := Value.string (bs ([115, 114, 99] : List UInt8))) F Aa).q fun a w F W => ?_
  refine Ae (Ac (Aw (A0 (A4 ?_))))
  subst H
  refine A2 (.inl Aa) F W Aa (AB F Aa) ?_
  exact ⟨rfl, W.done⟩
 have H := A3 (Bx hb) H
 rw [hb] at F
 clear hb
 refine Ag (Ab ?_)
 refine ls F W Aa (BU F Aa Aa).q fun a w F W => ?_
 refine ls F W Aa (Ad F Aa).q fun a w F W => ?_
 refine Ae (Ac ?_)
 refine Ao F Aa (fun hb => ?_) fun hb => ?_
 ·
  have H := A5 (Bv hb) H
  rw [hb] at F
  clear hb
  refine Ag (Ab ?_)
  refine ls F W Aa (Ad (v := Value.string (bs ([100, 115, 116] : List UInt8))) F Aa).q fun a w F W => ?_
  refine Ae (Ac (Aw (A0 (A4 ?_))))
  subst H
  refine A2 (.inl Aa) F W Aa (AB F Aa) ?_
  exact ⟨rfl, W.done⟩
 have H := A3 (Bx hb) H
 rw [hb] at F
 clear hb
 refine Ag (Ab ?_)
 refine ls F W Aa (BU F Aa Aa).q fun a w F W => ?_
 refine ls F W Aa (Ad F Aa).q fun a w F W => ?_
 refine Ae (Ac ?_)
 refine Ao F Aa (fun hb => ?_) fun hb => ?_
 ·
  have H := A5 (Bv hb) H
  rw [hb] at F
  clear hb
  refine Ag (Ab ?_)
  refine ls F W Aa (Ad (v := Value.string (bs ([107, 105, 110, 100] : List UInt8))) F Aa).q fun a w F W => ?_
  refine Ae (Ac (Aw (A0 (A4 ?_))))
  subst H
  refine A2 (.inl Aa) F W Aa (AB F Aa) ?_
  exact ⟨rfl, W.done⟩
 have H := A3 (Bx hb) H
 rw [hb] at F
 clear hb
 refine Ag (Ab ?_)
 refine ls F W Aa (BU F Aa Aa).q fun a w F W => ?_
 refine ls F W Aa (Ad F Aa).q fun a w F W => ?_
 refine Ae (Ac ?_)
 refine Ao F Aa (fun hb => ?_) fun hb => ?_
 ·
  have H := A5 (Bv hb) H
  rw [hb] at F
  clear hb
  refine Ag (Ab ?_)
  refine ls F W Aa (Ad (v := Value.string (bs ([116, 97, 103] : List UInt8))) F Aa).q fun a w F W => ?_
  refine Ae (Ac (Aw (A0 (A4 ?_))))
  subst H
  refine A2 (.inl Aa) F W Aa (AB F Aa) ?_
  exact ⟨rfl, W.done⟩
 have H := A3 (Bx hb) H
 rw [hb] at F
 clear hb
 refine Ag (Ab ?_)
 refine ls F W Aa (BU F Aa Aa).q fun a w F W => ?_
 refine ls F W Aa (Ad F Aa).q fun a w F W => ?_
 refine Ae (Ac ?_)
 refine Ao F Aa (fun hb => ?_) fun hb => ?_
 ·
  have H := A5 (Bv hb) H
  rw [hb] at F
  clear hb
  refine Ag (Ab ?_)
  refine ls F W Aa (Ad (v := Value.string (bs ([112, 111, 114, 116] : List UInt8))) F Aa).q fun a w F W => ?_
  refine Ae (Ac (Aw (A0 (A4 ?_))))
  subst H
  refine A2 (.inl Aa) F W Aa (AB F Aa) ?_
  exact ⟨rfl, W.done⟩
 have H := A3 (Bx hb) H
 rw [hb] at F
 clear hb
 refine Ag (Ab ?_)
 refine ls F W Aa (BU F Aa Aa).q fun a w F W => ?_
 refine ls F W Aa (Ad F Aa).q fun a w F W => ?_
 refine Ae (Ac ?_)
 refine Ao F Aa (fun hb => ?_) fun hb => ?_
 ·
  have H := A5 (Bv hb) H
  rw [hb] at F
  clear hb
  refine Ag (Ab ?_)
  refine ls F W Aa (Ad (v := Value.string (bs ([115, 119, 105, 116, 99, 104] : List UInt8))) F Aa).q fun a w F W => ?_
  refine Ae (Ac (Aw (A0 (A4 ?_))))
  subst H
  refine A2 (.inl Aa) F W Aa (AB F Aa) ?_
  exact ⟨rfl, W.done⟩
 have H := A3 (Bx hb) H
 rw [hb] at F
 clear hb
 refine Au (A6 (Ac (Ag (Ab ?_))))
 refine ls F W Aa (Ad (v := Value.string (bs ([63] : List UInt8))) F Aa).q fun a w F W => ?_
 refine Ae (Ac (Aw ?_))
 subst H
 refine A2 (.inl Aa) F W Aa (AB F Aa) ?_
 exact ⟨rfl, W.done⟩
theorem Oa : type_of% Tryd.underlying73 := Tryd.underlying73
theorem O3 : Has Tryd.prog 45 := ⟨fun args w => Ak Tryd.func45 rfl (by decide) args w⟩
theorem OT : Has Tryd.prog 46 := ⟨fun args w => Ak Tryd.func46 rfl (by decide) args w⟩
theorem NU : Has Tryd.prog 28 := ⟨fun args w => Ak Tryd.func28 rfl (by decide) args w⟩
theorem Z9 : (Tryd.prog.info? 9).bind (·.zero) = some (.string (bs ([] : List UInt8))) := by kernel_rfl
theorem Of : Et Tryd.prog 73 9 1 16 := Et.of Oa (by kernel_rfl) (by kernel_rfl) (by kernel_rfl) (by decide)
theorem OR : Has Tryd.prog 58 := ⟨fun args w => Ak Tryd.func58 rfl (by decide) args w⟩
noncomputable def CM (fRec_pred_Text : Tr31 → Option (List UInt8)) (p0 : List Tr31) : (List (List UInt8) × Int) → Option ((List (List UInt8) × Int) ⊕ (List (List UInt8)))
  | (x2, x3) => (if x3 < (p0.length : Int) then (ix p0 x3).bind fun x4 => (fRec_pred_Text x4).bind fun x5 => (if (decide (x4.un.1 = 5) || decide (x4.un.1 = 6)) = true then (HC ([40] : List UInt8) x5).bind fun x7 => (HC x7 ([41] : List UInt8)).bind fun x8 => some x8 else some x5).bind fun x6 => (HC x2 ([x6] : List (List UInt8))).bind fun x9 => some (.inl (x9, AJ (x3 + 1))) else some (.inr x2))
noncomputable def DD (fRec_pred_Text : Tr31 → Option (List UInt8)) (p0 : List Tr31) (p1 : List UInt8) : Option (List UInt8) := (AZ (CM fRec_pred_Text p0) ([], 0)).bind fun x1 => (KZ x1 p1).bind fun x10 => some x10
theorem Gi (fRec_pred_Text : Tr31 → Option (List UInt8)) (ih_pred_Text : ∀ (Y : Nat → Prop) (w0 : World) (v1 : Value) (p0 : Tr31) (r : List UInt8) (H : fRec_pred_Text p0 = some r) (h_v1 : Sl w0 (NX []) B4 v1 p0.un.2.2.2) (hG : Gk [] w0), Calls Tryd.prog 28 #[.agg #[.int .i64 p0.un.1, .int .i64 p0.un.2.1, .int .i64 p0.un.2.2.1, v1]] w0 fun e w' => e = .returned (.string (bs r)) ∧ Below w0.heap.size w0 w') (Y : Nat → Prop) (w0 : World) (v1 : Value) (p0 : List Tr31) (p1 : List UInt8) (r : List UInt8) (H : DD fRec_pred_Text p0 p1 = some r) (h_v1 : Sl w0 (NX []) B4 v1 p0) (hG : Gk [] w0) :
    Calls Tryd.prog 47 #[v1, .string (bs p1)] w0 fun e w' => e = .returned (.string (bs r)) ∧ Below w0.heap.size w0 w' := by
 refine enter Tryd.func47 Aa Tryd.ntmps47 Aa fun a F => ?_
 have W := Stw.start Y w0
 obtain ⟨v2, h1, h_v1⟩ := h_v1.ex CA
 unfold DD at H
 refine Ag (Ab ?_)
 refine ls F W Aa (Ad (v := Value.string (bs ([] : List UInt8))) F Aa).q fun a w F W => ?_
 refine Ae (Ac (Ag (Ab ?_)))
 refine ls F W Aa (Ad F Aa).q fun a w F W => ?_
 refine Ae (Ac ?_)
 obtain ⟨o1, G1, K1⟩ := Aj H
 refine AW (fun a w => ∃ x1 : List (List UInt8), ∃ v3 : Value, some (x1) = some o1 ∧ Fr 36 [] [(1, .string (bs p1)), (4, .string (bs ([] : List UInt8))), (5, v3)] a ∧ Stw ⟨Y, [], w0⟩ [] [row v3 9 Rp.str x1] w) ?_ ?_
 ·
  have H := G1
  clear G1 K1
  refine Ag (Ab ?_)
  refine ls F W Aa (Af F Aa).q fun a w F W => ?_
  refine ls F W Aa (DU (r := B4) (l := p0) GC Aa F Aa (Bn CA h1 (AQ h_v1))).q fun a w F W => ?_
  refine ls F W Aa (Af F Aa).q fun a w F W => ?_
  refine Ae (Ac (Ap ?_))
  have W := W.nilRow 9 Rp.str
  refine BV H (fun s a w => ∃ v4 : Value, Fr 36 [] [(1, .string (bs p1)), (4, .string (bs ([] : List UInt8))), (5, v4), (9, v1), (10, .int .i64 (p0.length : Int)), (11, .int .i64 s.2)] a ∧ Stw ⟨Y, [], w0⟩ [] [row v4 9 Rp.str s.1] w) ⟨(Value.slice none 0 0), F.re ⟨rfl, Aa, Aa, Aa, Aa, Aa, trivial⟩, W⟩ fun s o a w H L2 hR => ?_
  obtain ⟨x2, x3⟩ := s
  obtain ⟨v4, F, W⟩ := hR
  have F : Fr 36 [] [(1, .string (bs p1)), (4, .string (bs ([] : List UInt8))), (5, v4), (9, v1), (10, .int .i64 (p0.length : Int)), (11, .int .i64 x3)] a := F
  have W : Stw ⟨Y, [], w0⟩ [] [row v4 9 Rp.str x2] w := W
  rw [CM] at H
  refine Ag (Ab ?_)
  refine ls F W Aa (Df F Aa Aa).q fun a w F W => ?_
  refine Ae (Ac (Ag ?_))
  refine Ao F Aa (fun hb => ?_) fun hb => ?_
  ·
   have H := A5 (Bv hb) H
   rw [hb] at F
   clear hb
   refine Au (Ac (Ag (Ap (Ag (Ab ?_)))))
   obtain ⟨x4, h2, H⟩ := Aj H
   obtain ⟨v5, h3, h4⟩ := FV h1 h2
   have h5 : Fp v5 = [.int .i64 x4.un.1, .int .i64 x4.un.2.1, .int .i64 x4.un.2.2.1, (v5.2.2.2.1)] := congrArg (fun q : Tr31 => ([.int .i64 q.un.1, .int .i64 q.un.2.1, .int .i64 q.un.2.2.1, (v5.2.2.2.1)] : List Value)) h4
   refine ls F W Aa (Ay (r := FZ) Ji F Aa Aa (AQ h_v1) h3).q fun a w F W => ?_
   refine ls F W Aa (Am (y := Value.agg #[.int .i64 x4.un.1, .int .i64 x4.un.2.1, .int .i64 x4.un.2.2.1, (v5.2.2.2.1)]) (j := 0) (i := x3) (enc := Fp) F Aa Aa (AQ h_v1) h3 IU D7 (by rw [h5]; rfl)).q fun a w F W => ?_
   refine C8 (cs := [.int .i64 0, .int .i64 0, .int .i64 0, .slice none 0 0]) F W Aa JD Aa fun b1 a w F W => ?_
   refine Cl (vs := [.int .i64 x4.un.1, .int .i64 x4.un.2.1, .int .i64 x4.un.2.2.1, (v5.2.2.2.1)]) (M' := [(b1, [.int .i64 x4.un.1, .int .i64 x4.un.2.1, .int .i64 x4.un.2.2.1, (v5.2.2.2.1)])]) 0 F W Aa Aa Aa D7 Aa Aa Aa (AK Aa (AK Aa (AK Aa (AK ((DV (AQ h_v1) h3 (Cg.snd (Cg.snd (Cg.snd Cg.here))) (congrArg (fun q : Tr31 => q.un.2.2.2) h4)) _ W).one DI)))) Aa fun w W => ?_
   refine Ae (Ac (Ag (Ab ?_)))
   refine ls F W Aa (As (v := Value.agg #[.int .i64 x4.un.1, .int .i64 x4.un.2.1, .int .i64 x4.un.2.2.1, (v5.2.2.2.1)]) 0 F Aa Aa D7 Aa).q fun a w F W => ?_
   obtain ⟨x5, h6, H⟩ := Aj H
   refine ls F W Aa (Be (v := Value.string (bs x5)) F NU Aa (fun w W => ih_pred_Text any w ((v5.2.2.2.1)) x4 _ h6 (((DV (AQ h_v1) h3 (Cg.snd (Cg.snd (Cg.snd Cg.here))) (congrArg (fun q : Tr31 => q.un.2.2.2) h4)) : FB _ _ _ _ _ _) w W).nx (hG.go0 W))) fun a w F W => ?_
   refine ls F W Aa (Ad F Aa).q fun a w F W => ?_
   refine Ae (Ac ?_)
   obtain ⟨o3, G3, K3⟩ := Aj H
   refine AW (fun a w => ∃ x6 : List UInt8, some (x6) = some o3 ∧ Fr 36 [] [(1, .string (bs p1)), (4, .string (bs ([] : List UInt8))), (5, v4), (8, .string (bs x6)), (9, v1), (10, .int .i64 (p0.length : Int)), (11, .int .i64 x3)] a ∧ Stw ⟨Y, [], w0⟩ [(b1, [.int .i64 x4.un.1, .int .i64 x4.un.2.1, .int .i64 x4.un.2.2.1, (v5.2.2.2.1)])] [row v4 9 Rp.str x2] w) ?_ ?_
   ·
    have H := G3
    clear G3 K3
    refine AW (fun a w => Fr 36 [] [(1, .string (bs p1)), (4, .string (bs ([] : List UInt8))), (5, v4), (8, .string (bs x5)), (9, v1), (10, .int .i64 (p0.length : Int)), (11, .int .i64 x3), (24, .bool (decide (x4.un.1 = 5) || decide (x4.un.1 = 6)))] a ∧ Stw ⟨Y, [], w0⟩ [(b1, [.int .i64 x4.un.1, .int .i64 x4.un.2.1, .int .i64 x4.un.2.2.1, (v5.2.2.2.1)])] [row v4 9 Rp.str x2] w) ?_ ?_
    ·
     refine Ab ?_
     refine ls F W Aa (Al CJ Aa Aa Aa T3 F Aa 0 Aa).q fun a w F W => ?_
     refine ls F W Aa (As (v := Value.int .i64 x4.un.1) 0 F Aa Aa T3 Aa).q fun a w F W => ?_
     refine ls F W Aa (BU F Aa Aa).q fun a w F W => ?_
     refine ls F W Aa (Af F Aa).q fun a w F W => ?_
     rcases Bool.eq_false_or_eq_true (decide (x4.un.1 = 5)) with hb0 | hb0
     ·
      rw [hb0] at F
      iterate 3 refine GD F Aa Aa Aa Aa Aa Aa Aa fun a F => ?_
      refine ls F W Aa (Bc F Aa Aa Aa).q fun a w F W => ?_
      refine Ae (Ac ?_)
      exact ⟨F.re ⟨rfl, Aa, Aa, Aa, Aa, Aa, Aa, (by show some (Value.bool true) = some (Value.bool (decide (x4.un.1 = 5) || decide (x4.un.1 = 6))); try rw [hb0]; all_goals simp only [Bool.not_true, Bool.not_false, Bool.true_and, Bool.false_and, Bool.true_or, Bool.false_or, Bool.and_true, Bool.or_false, cond_true, cond_false]), trivial⟩, W⟩
     rw [hb0] at F
     refine Cm F W (Ah F Aa Aa Aa Aa) Aa (An Aa) (Al CJ Aa Aa Aa T3 F Aa 0 Aa).q fun a w F W => ?_
     refine Cm F W (Ah F Aa Aa Aa Aa) Aa (An Aa) (As (v := Value.int .i64 x4.un.1) 0 F Aa Aa T3 Aa).q fun a w F W => ?_
     refine Cm F W (Ah F Aa Aa Aa Aa) Aa (An Aa) (BU F Aa Aa).q fun a w F W => ?_
     refine ls F W Aa (AU F Aa Aa Aa).q fun a w F W => ?_
     refine Ae (Ac ?_)
     exact ⟨F.re ⟨rfl, Aa, Aa, Aa, Aa, Aa, Aa, (by show some (Value.bool (decide (x4.un.1 = 6))) = some (Value.bool (decide (x4.un.1 = 5) || decide (x4.un.1 = 6))); try rw [hb0]; all_goals simp only [Bool.not_true, Bool.not_false, Bool.true_and, Bool.false_and, Bool.true_or, Bool.false_or, Bool.and_true, Bool.or_false, cond_true, cond_false]), trivial⟩, W⟩
    rintro a w ⟨F, W⟩
    refine Ao F Aa (fun hb => ?_) fun hb => ?_
    ·
     have H := A5 hb H
     rw [hb] at F
     clear hb
     refine Ab ?_
     refine ls F W Aa (Af F Aa).q fun a w F W => ?_
     obtain ⟨x7, h7, H⟩ := Aj H
     refine ls F W Aa (Ic (l := ([40] : List UInt8)) (m := x5) F Aa Aa h7).q fun a w F W => ?_
     obtain ⟨x8, h8, H⟩ := Aj H
     refine ls F W Aa (Ic (l := x7) (m := ([41] : List UInt8)) F Aa Aa h8).q fun a w F W => ?_
     refine ls F W Aa (Ad F Aa).q fun a w F W => ?_
     refine Ae (Ac ?_)
     exact ⟨_, H, F.re ⟨rfl, Aa, Aa, Aa, Aa, Aa, Aa, trivial⟩, W⟩
    have H := A3 (by rw [hb]; decide) H
    rw [hb] at F
    clear hb
    refine Au (Ac ?_)
    exact ⟨_, H, F.re ⟨rfl, Aa, Aa, Aa, Aa, Aa, Aa, trivial⟩, W⟩
   rintro a w ⟨x6, hj, F, W⟩
   have hj := AV hj
   subst hj
   have H := K3
   clear G3 K3
   refine Ab ?_
   iterate 2 refine ls F W Aa (Af F Aa).q fun a w F W => ?_
   refine Hx (z := Value.string (bs ([] : List UInt8))) (cs := [.string (bs x6)]) Rp.str ([x6] : List (List UInt8)) F W Aa Of Z9 Aa Aa Aa Aa Aa Aa (Fl.str.repL _ _ ([x6] : List (List UInt8))) fun v6 a w F W => ?_
   obtain ⟨x9, h9, H⟩ := Aj H
   refine FG (r := Rp.str) (i := 1) F W Aa Of Aa Aa Aa Aa (Gv W 0 Aa) h9 Aa fun v7 a w F W => ?_
   have W : Stw ⟨Y, [], w0⟩ [(b1, [.int .i64 x4.un.1, .int .i64 x4.un.2.1, .int .i64 x4.un.2.2.1, (v5.2.2.2.1)])] [row v7 9 Rp.str x9, row v6 9 Rp.str ([x6] : List (List UInt8))] w := W
   refine ls F W Aa (Ad F Aa).q fun a w F W => ?_
   refine Ae (A6 (Ac (Ab ?_)))
   refine ls F W Aa (BM F Aa Aa Aa).q fun a w F W => ?_
   refine ls F W Aa (Af F Aa).q fun a w F W => ?_
   refine Ae (Ac ?_)
   have W := W.sub (M' := []) (Z' := [row v7 9 Rp.str x9]) (List.nil_sublist _) (List.Sublist.cons_cons _ (List.nil_sublist _))
   exact ⟨_, H, (v7), F.re ⟨rfl, Aa, Aa, Aa, Aa, Aa, trivial⟩, W⟩
  have H := A3 (Bx hb) H
  rw [hb] at F
  clear hb
  refine BK ?_
  iterate 2 refine B7 ?_
  refine BN (Ac ?_)
  have H := L2 _ H
  exact ⟨_, (v4), H, F.re ⟨rfl, Aa, Aa, trivial⟩, W⟩
 rintro a w ⟨x1, v3, hj, F, W⟩
 have hj := AV hj
 subst hj
 have H := K1
 clear G1 K1
 refine Ag (Ab ?_)
 iterate 2 refine ls F W Aa (Af F Aa).q fun a w F W => ?_
 obtain ⟨x10, h10, H⟩ := Aj H
 refine ls F W Aa (Be (v := Value.string (bs x10)) F OR Aa (fun w W => M8 any w (v3) x1 p1 _ h10 (((Ai 0 Aa) : FB _ _ _ _ _ _) w W).nx)) fun a w F W => ?_
 refine ls F W Aa (Ad F Aa).q fun a w F W => ?_
 refine Ae (Ac (Aw ?_))
 have H := AV H
 subst H
 refine A2 (.inl Aa) F W Aa (AB F Aa) ?_
 exact ⟨rfl, W.done⟩
theorem N7 : Has Tryd.prog 47 := ⟨fun args w => Ak Tryd.func47 rfl (by decide) args w⟩
noncomputable def C2 (fRec : Tr31 → Option (List UInt8)) (p0 : Tr31) : Option (List UInt8) := (if p0.un.1 = 1 then some ([116, 114, 117, 101] : List UInt8) else (if p0.un.1 = 2 then some ([102, 97, 108, 115, 101] : List UInt8) else (if p0.un.1 = 3 then (HC (De p0.un.2.1) ([32, 61, 32] : List UInt8)).bind fun x1 => (KN p0.un.2.2.1).bind fun x2 => (HC x1 x2).bind fun x3 => some x3 else (if p0.un.1 = 4 then ((DD fRec) p0.un.2.2.2 ([] : List UInt8)).bind fun x4 => (HC ([110, 111, 116, 32] : List UInt8) x4).bind fun x5 => some x5 else (if p0.un.1 = 5 then ((DD fRec) p0.un.2.2.2 ([32, 97, 110, 100, 32] : List UInt8)).bind fun x6 => some x6 else (if p0.un.1 = 6 then ((DD fRec) p0.un.2.2.2 ([32, 111, 114, 32] : List UInt8)).bind fun x7 => some x7 else some ([63] : List UInt8)))))))
noncomputable def Dm : Nat → Tr31 → Option (List UInt8)
  | 0 => fun _ => none
  | n + 1 => C2 (Dm n)
noncomputable def Gx (p0 : Tr31) : Option (List UInt8) := GN fun n => Dm n p0
theorem IK (fRec : Tr31 → Option (List UInt8)) (ih : ∀ (Y : Nat → Prop) (w0 : World) (v1 : Value) (p0 : Tr31) (r : List UInt8) (H : fRec p0 = some r) (h_v1 : Sl w0 (NX []) B4 v1 p0.un.2.2.2) (hG : Gk [] w0), Calls Tryd.prog 28 #[.agg #[.int .i64 p0.un.1, .int .i64 p0.un.2.1, .int .i64 p0.un.2.2.1, v1]] w0 fun e w' => e = .returned (.string (bs r)) ∧ Below w0.heap.size w0 w') (Y : Nat → Prop) (w0 : World) (v1 : Value) (p0 : Tr31) (r : List UInt8) (H : C2 fRec p0 = some r) (h_v1 : Sl w0 (NX []) B4 v1 p0.un.2.2.2) (hG : Gk [] w0) :
    Calls Tryd.prog 28 #[.agg #[.int .i64 p0.un.1, .int .i64 p0.un.2.1, .int .i64 p0.un.2.2.1, v1]] w0 fun e w' => e = .returned (.string (bs r)) ∧ Below w0.heap.size w0 w' := by
 refine enter Tryd.func28 Aa Tryd.ntmps28 Aa fun a F => ?_
 have W := Stw.start Y w0
 obtain ⟨v2, h1, h_v1⟩ := h_v1.ex CA
 unfold C2 at H
 refine Ag (Ab ?_)
 refine Do (cs := [.int .i64 p0.un.1, .int .i64 p0.un.2.1, .int .i64 p0.un.2.2.1, v1]) F W Aa Aa Aa fun b1 a w F W => ?_
 refine ls F W Aa (Ad (v := Value.string (bs ([] : List UInt8))) F Aa).q fun a w F W => ?_
 refine Ae (Ac (Ag (Ag (Ab ?_))))
 refine ls F W Aa (Al CJ Aa Aa Aa T3 F Aa 0 Aa).q fun a w F W => ?_
 refine ls F W Aa (As (v := Value.int .i64 p0.un.1) 0 F Aa Aa T3 Aa).q fun a w F W => ?_
 refine Ae (Ac (Ap (Ag (Ab ?_))))
 refine ls F W Aa (BU F Aa Aa).q fun a w F W => ?_
 refine ls F W Aa (Ad F Aa).q fun a w F W => ?_
 refine Ae (Ac ?_)
 refine Ao F Aa (fun hb => ?_) fun hb => ?_
 ·
  have H := A5 (Bv hb) H
  rw [hb] at F
  clear hb
  refine Ag (Ab ?_)
  refine ls F W Aa (Ad (v := Value.string (bs ([116, 114, 117, 101] : List UInt8))) F Aa).q fun a w F W => ?_
  refine Ae (Ac (Aw (A0 (A4 ?_))))
  have H := AV H
  subst H
  refine A2 (.inl Aa) F W Aa (AB F Aa) ?_
  exact ⟨rfl, W.done⟩
 have H := A3 (Bx hb) H
 rw [hb] at F
 clear hb
 refine Ag (Ab ?_)
 refine ls F W Aa (BU F Aa Aa).q fun a w F W => ?_
 refine ls F W Aa (Ad F Aa).q fun a w F W => ?_
 refine Ae (Ac ?_)
 refine Ao F Aa (fun hb => ?_) fun hb => ?_
 ·
  have H := A5 (Bv hb) H
  rw [hb] at F
  clear hb
  refine Ag (Ab ?_)
  refine ls F W Aa (Ad (v := Value.string (bs ([102, 97, 108, 115, 101] : List UInt8))) F Aa).q fun a w F W => ?_
  refine Ae (Ac (Aw (A0 (A4 ?_))))
  have H := AV H
  subst H
  refine A2 (.inl Aa) F W Aa (AB F Aa) ?_
  exact ⟨rfl, W.done⟩
 have H := A3 (Bx hb) H
 rw [hb] at F
 clear hb
 refine Ag (Ab ?_)
 refine ls F W Aa (BU F Aa Aa).q fun a w F W => ?_
 refine ls F W Aa (Ad F Aa).q fun a w F W => ?_
 refine Ae (Ac ?_)
 refine Ao F Aa (fun hb => ?_) fun hb => ?_
 ·
  have H := A5 (Bv hb) H
  rw [hb] at F
  clear hb
  refine Ag ?_
  refine Cb W MO (by kernel_rfl) ?_
  refine qs F Aa (Al CJ Aa Aa Aa T3 F Aa 1 Aa).q fun a F => ?_
  refine qs F Aa (As (v := Value.int .i64 p0.un.2.1) 0 F Aa Aa T3 Aa).q fun a F => ?_
  refine qs F Aa (Be (v := Value.string (bs (De p0.un.2.1))) F O3 Aa (fun w W => Ho any w p0.un.2.1 _ Aa)) fun a F => ?_
  obtain ⟨x1, h2, H⟩ := Aj H
  refine qs F Aa (Ic (l := (De p0.un.2.1)) (m := ([32, 61, 32] : List UInt8)) F Aa Aa h2).q fun a F => ?_
  refine qs F Aa (Al CJ Aa Aa Aa T3 F Aa 2 Aa).q fun a F => ?_
  refine qs F Aa (As (v := Value.int .i64 p0.un.2.2.1) 0 F Aa Aa T3 Aa).q fun a F => ?_
  obtain ⟨x2, h3, H⟩ := Aj H
  refine qs F Aa (Be (v := Value.string (bs x2)) F OT Aa (fun w W => Ng any w p0.un.2.2.1 _ h3 (hG.go0 W))) fun a F => ?_
  obtain ⟨x3, h4, H⟩ := Aj H
  refine qs F Aa (Ic (l := x1) (m := x2) F Aa Aa h4).q fun a F => ?_
  refine qs F Aa (Ad F Aa).q fun a F => ?_
  refine AX fun w W => ?_
  refine Ac (Aw (A0 (A4 ?_)))
  have H := AV H
  subst H
  refine A2 (.inl Aa) F W Aa (AB F Aa) ?_
  exact ⟨rfl, W.done⟩
 have H := A3 (Bx hb) H
 rw [hb] at F
 clear hb
 refine Ag (Ab ?_)
 refine ls F W Aa (BU F Aa Aa).q fun a w F W => ?_
 refine ls F W Aa (Ad F Aa).q fun a w F W => ?_
 refine Ae (Ac ?_)
 refine Ao F Aa (fun hb => ?_) fun hb => ?_
 ·
  have H := A5 (Bv hb) H
  rw [hb] at F
  clear hb
  refine Ag (Ab ?_)
  refine ls F W Aa (Al CJ Aa Aa Aa ET F Aa 3 Aa).q fun a w F W => ?_
  refine ls F W Aa (As (v := v1) 0 F Aa Aa ET Aa).q fun a w F W => ?_
  obtain ⟨x4, h5, H⟩ := Aj H
  refine ls F W Aa (Be (v := Value.string (bs x4)) F N7 Aa (fun w W => (Gi fRec ih) any w (v1) p0.un.2.2.2 ([] : List UInt8) _ h5 (((Bn CA h1 (AQ h_v1)) : FB _ _ _ _ _ _) w W).nx (hG.go0 W))) fun a w F W => ?_
  obtain ⟨x5, h6, H⟩ := Aj H
  refine ls F W Aa (Ic (l := ([110, 111, 116, 32] : List UInt8)) (m := x4) F Aa Aa h6).q fun a w F W => ?_
  refine ls F W Aa (Ad F Aa).q fun a w F W => ?_
  refine Ae (Ac (Aw (A0 (A4 ?_))))
  have H := AV H
  subst H
  refine A2 (.inl Aa) F W Aa (AB F Aa) ?_
  exact ⟨rfl, W.done⟩
 have H := A3 (Bx hb) H
 rw [hb] at F
 clear hb
 refine Ag (Ab ?_)
 refine ls F W Aa (BU F Aa Aa).q fun a w F W => ?_
 refine ls F W Aa (Ad F Aa).q fun a w F W => ?_
 refine Ae (Ac ?_)
 refine Ao F Aa (fun hb => ?_) fun hb => ?_
 ·
  have H := A5 (Bv hb) H
  rw [hb] at F
  clear hb
  refine Ag (Ab ?_)
  refine ls F W Aa (Al CJ Aa Aa Aa ET F Aa 3 Aa).q fun a w F W => ?_
  refine ls F W Aa (As (v := v1) 0 F Aa Aa ET Aa).q fun a w F W => ?_
  obtain ⟨x6, h7, H⟩ := Aj H
  refine ls F W Aa (Be (v := Value.string (bs x6)) F N7 Aa (fun w W => (Gi fRec ih) any w (v1) p0.un.2.2.2 ([32, 97, 110, 100, 32] : List UInt8) _ h7 (((Bn CA h1 (AQ h_v1)) : FB _ _ _ _ _ _) w W).nx (hG.go0 W))) fun a w F W => ?_
  refine ls F W Aa (Ad F Aa).q fun a w F W => ?_
  refine Ae (Ac (Aw (A0 (A4 ?_))))
  have H := AV H
  subst H
  refine A2 (.inl Aa) F W Aa (AB F Aa) ?_
  exact ⟨rfl, W.done⟩
 have H := A3 (Bx hb) H
 rw [hb] at F
 clear hb
 refine Ag (Ab ?_)
 refine ls F W Aa (BU F Aa Aa).q fun a w F W => ?_
 refine ls F W Aa (Ad F Aa).q fun a w F W => ?_
 refine Ae (Ac ?_)
 refine Ao F Aa (fun hb => ?_) fun hb => ?_
 ·
  have H := A5 (Bv hb) H
  rw [hb] at F
  clear hb
  refine Ag (Ab ?_)
  refine ls F W Aa (Al CJ Aa Aa Aa ET F Aa 3 Aa).q fun a w F W => ?_
  refine ls F W Aa (As (v := v1) 0 F Aa Aa ET Aa).q fun a w F W => ?_
  obtain ⟨x7, h8, H⟩ := Aj H
  refine ls F W Aa (Be (v := Value.string (bs x7)) F N7 Aa (fun w W => (Gi fRec ih) any w (v1) p0.un.2.2.2 ([32, 111, 114, 32] : List UInt8) _ h8 (((Bn CA h1 (AQ h_v1)) : FB _ _ _ _ _ _) w W).nx (hG.go0 W))) fun a w F W => ?_
  refine ls F W Aa (Ad F Aa).q fun a w F W => ?_
  refine Ae (Ac (Aw (A0 (A4 ?_))))
  have H := AV H
  subst H
  refine A2 (.inl Aa) F W Aa (AB F Aa) ?_
  exact ⟨rfl, W.done⟩
 have H := A3 (Bx hb) H
 rw [hb] at F
 clear hb
 refine Au (A6 (Ac (Ag (Ab ?_))))
 refine ls F W Aa (Ad (v := Value.string (bs ([63] : List UInt8))) F Aa).q fun a w F W => ?_
 refine Ae (Ac (Aw ?_))
 have H := AV H
 subst H
 refine A2 (.inl Aa) F W Aa (AB F Aa) ?_
 exact ⟨rfl, W.done⟩
theorem Jm : ∀ (n : Nat) (Y : Nat → Prop) (w0 : World) (v1 : Value) (p0 : Tr31) (r : List UInt8) (H : Dm n p0 = some r) (h_v1 : Sl w0 (NX []) B4 v1 p0.un.2.2.2) (hG : Gk [] w0), Calls Tryd.prog 28 #[.agg #[.int .i64 p0.un.1, .int .i64 p0.un.2.1, .int .i64 p0.un.2.2.1, v1]] w0 fun e w' => e = .returned (.string (bs r)) ∧ Below w0.heap.size w0 w' := by
  intro n
  induction n with
  | zero => intro Y w0 v1 p0 r H; exact nomatch H
  | succ n ih => intro Y w0 v1 p0 r H h_v1 hG; exact IK (Dm n) ih Y w0 v1 p0 r H h_v1 hG
theorem HH (Y : Nat → Prop) (w0 : World) (v1 : Value) (p0 : Tr31) (r : List UInt8) (H : Gx p0 = some r) (h_v1 : Sl w0 (NX []) B4 v1 p0.un.2.2.2) (hG : Gk [] w0) :
    Calls Tryd.prog 28 #[.agg #[.int .i64 p0.un.1, .int .i64 p0.un.2.1, .int .i64 p0.un.2.2.1, v1]] w0 fun e w' => e = .returned (.string (bs r)) ∧ Below w0.heap.size w0 w' := by
  obtain ⟨n, H⟩ := DC H
  exact Jm n Y w0 v1 p0 r H h_v1 hG
theorem MC : type_of% Tryd.underlying59 := Tryd.underlying59
theorem Nq : ∃ z, (Tryd.prog.info? 26).bind (·.zero) = some z ∧ z.cells = [.int .i64 0, .int .i64 0, .int .i64 0, .int .i64 0].toArray := ⟨.agg #[.int .i64 0, .int .i64 0, .int .i64 0, .int .i64 0], by kernel_rfl, rfl⟩
theorem OE : Bt Tryd.prog 59 [.int .i64 0, .int .i64 0, .int .i64 0, .int .i64 0, .int .i64 0, .int .i64 0] [(0, 1), (1, 1), (2, 4)] := ⟨⟨.agg #[.int .i64 0, .int .i64 0, .int .i64 0, .int .i64 0, .int .i64 0, .int .i64 0], by kernel_rfl, rfl⟩, ⟨_, MC, fun w => by kernel_rfl⟩⟩
def Cn (p0 : Int) : Bool := (decide (0 ≤ p0) && decide (p0 ≤ 5))
theorem FQ (Y : Nat → Prop) (w0 : World)  (p0 : Int) (r : Bool) (H : Cn p0 = r)  :
    Calls Tryd.prog 37 #[.int .i64 p0] w0 fun e w' => e = .returned (.bool r) ∧ Below w0.heap.size w0 w' := by
 refine enter Tryd.func37 Aa Tryd.ntmps37 Aa fun a F => ?_
 have W := Stw.start Y w0
 unfold Cn at H
 refine Ag (Ab ?_)
 refine ls F W Aa (Ad F Aa).q fun a w F W => ?_
 refine Ae (Ac ?_)
 refine AW (fun a w => Fr 9 [] [(2, .bool (decide (0 ≤ p0) && decide (p0 ≤ 5)))] a ∧ Stw ⟨Y, [], w0⟩ [] [] w) ?_ ?_
 ·
  refine Ab ?_
  refine ls F W Aa (Af F Aa).q fun a w F W => ?_
  refine ls F W Aa (DT F Aa Aa).q fun a w F W => ?_
  refine ls F W Aa (Af F Aa).q fun a w F W => ?_
  rcases Bool.eq_false_or_eq_true (decide (0 ≤ p0)) with hb0 | hb0
  ·
   rw [hb0] at F
   refine Cm F W (Ah F Aa Aa Aa Aa) Aa (An Aa) (Af F Aa).q fun a w F W => ?_
   refine Cm F W (Ah F Aa Aa Aa Aa) Aa (An Aa) (FC F Aa Aa).q fun a w F W => ?_
   refine ls F W Aa (Bc F Aa Aa Aa).q fun a w F W => ?_
   refine ls F W Aa (Ad F Aa).q fun a w F W => ?_
   refine Ae (Ac ?_)
   exact ⟨F.re ⟨(by show some (Value.bool (decide (p0 ≤ 5))) = some (Value.bool (decide (0 ≤ p0) && decide (p0 ≤ 5))); try rw [hb0]; all_goals simp only [Bool.not_true, Bool.not_false, Bool.true_and, Bool.false_and, Bool.true_or, Bool.false_or, Bool.and_true, Bool.or_false, cond_true, cond_false]), trivial⟩, W⟩
  rw [hb0] at F
  iterate 2 refine GD F Aa Aa Aa Aa Aa Aa Aa fun a F => ?_
  refine ls F W Aa (AU F Aa Aa Aa).q fun a w F W => ?_
  refine ls F W Aa (Ad F Aa).q fun a w F W => ?_
  refine Ae (Ac ?_)
  exact ⟨F.re ⟨(by show some (Value.bool false) = some (Value.bool (decide (0 ≤ p0) && decide (p0 ≤ 5))); try rw [hb0]; all_goals simp only [Bool.not_true, Bool.not_false, Bool.true_and, Bool.false_and, Bool.true_or, Bool.false_or, Bool.and_true, Bool.or_false, cond_true, cond_false]), trivial⟩, W⟩
 rintro a w ⟨F, W⟩
 refine Aw ?_
 subst H
 refine A2 (.inl Aa) F W Aa (AB F Aa) ?_
 exact ⟨rfl, W.done⟩
theorem NV : Has Tryd.prog 37 := ⟨fun args w => Ak Tryd.func37 rfl (by decide) args w⟩
def DS (p0 : Int) : Bool := (decide (0 ≤ p0) && decide (p0 < 4))
theorem Ih (Y : Nat → Prop) (w0 : World)  (p0 : Int) (r : Bool) (H : DS p0 = r)  :
    Calls Tryd.prog 54 #[.int .i64 p0] w0 fun e w' => e = .returned (.bool r) ∧ Below w0.heap.size w0 w' := by
 refine enter Tryd.func54 Aa Tryd.ntmps54 Aa fun a F => ?_
 have W := Stw.start Y w0
 unfold DS at H
 refine Ag (Ab ?_)
 refine ls F W Aa (Ad F Aa).q fun a w F W => ?_
 refine Ae (Ac ?_)
 refine AW (fun a w => Fr 9 [] [(2, .bool (decide (0 ≤ p0) && decide (p0 < 4)))] a ∧ Stw ⟨Y, [], w0⟩ [] [] w) ?_ ?_
 ·
  refine Ab ?_
  refine ls F W Aa (Af F Aa).q fun a w F W => ?_
  refine ls F W Aa (DT F Aa Aa).q fun a w F W => ?_
  refine ls F W Aa (Af F Aa).q fun a w F W => ?_
  rcases Bool.eq_false_or_eq_true (decide (0 ≤ p0)) with hb0 | hb0
  ·
   rw [hb0] at F
   refine Cm F W (Ah F Aa Aa Aa Aa) Aa (An Aa) (Af F Aa).q fun a w F W => ?_
   refine Cm F W (Ah F Aa Aa Aa Aa) Aa (An Aa) (Df F Aa Aa).q fun a w F W => ?_
   refine ls F W Aa (Bc F Aa Aa Aa).q fun a w F W => ?_
   refine ls F W Aa (Ad F Aa).q fun a w F W => ?_
   refine Ae (Ac ?_)
   exact ⟨F.re ⟨(by show some (Value.bool (decide (p0 < 4))) = some (Value.bool (decide (0 ≤ p0) && decide (p0 < 4))); try rw [hb0]; all_goals simp only [Bool.not_true, Bool.not_false, Bool.true_and, Bool.false_and, Bool.true_or, Bool.false_or, Bool.and_true, Bool.or_false, cond_true, cond_false]), trivial⟩, W⟩
  rw [hb0] at F
  iterate 2 refine GD F Aa Aa Aa Aa Aa Aa Aa fun a F => ?_
  refine ls F W Aa (AU F Aa Aa Aa).q fun a w F W => ?_
  refine ls F W Aa (Ad F Aa).q fun a w F W => ?_
  refine Ae (Ac ?_)
  exact ⟨F.re ⟨(by show some (Value.bool false) = some (Value.bool (decide (0 ≤ p0) && decide (p0 < 4))); try rw [hb0]; all_goals simp only [Bool.not_true, Bool.not_false, Bool.true_and, Bool.false_and, Bool.true_or, Bool.false_or, Bool.and_true, Bool.or_false, cond_true, cond_false]), trivial⟩, W⟩
 rintro a w ⟨F, W⟩
 refine Aw ?_
 subst H
 refine A2 (.inl Aa) F W Aa (AB F Aa) ?_
 exact ⟨rfl, W.done⟩
theorem Pc : Has Tryd.prog 54 := ⟨fun args w => Ak Tryd.func54 rfl (by decide) args w⟩
noncomputable def Em (p0 : Int × Int × Int × Int) (p1 : Int) : Option Int := (if (!(DS p1)) = true then some 0 else (ix ([p0.1, p0.2.1, p0.2.2.1, p0.2.2.2] : List Int) p1).bind fun x1 => some x1)
theorem Jy (Y : Nat → Prop) (w0 : World)  (p0 : Int × Int × Int × Int) (p1 : Int) (r : Int) (H : Em p0 p1 = some r)  :
    Calls Tryd.prog 38 #[.agg #[.int .i64 p0.1, .int .i64 p0.2.1, .int .i64 p0.2.2.1, .int .i64 p0.2.2.2], .int .i64 p1] w0 fun e w' => e = .returned (.int .i64 r) ∧ Below w0.heap.size w0 w' := by
 refine enter Tryd.func38 Aa Tryd.ntmps38 Aa fun a F => ?_
 have W := Stw.start Y w0
 unfold Em at H
 refine Ag (Ab ?_)
 refine Do (cs := [.int .i64 p0.1, .int .i64 p0.2.1, .int .i64 p0.2.2.1, .int .i64 p0.2.2.2]) F W Aa Aa Aa fun b1 a w F W => ?_
 refine ls F W Aa (Ad F Aa).q fun a w F W => ?_
 refine Ae (Ac (Ag (Ag (Ab ?_))))
 refine ls F W Aa (Af F Aa).q fun a w F W => ?_
 refine ls F W Aa (Be (v := Value.bool (DS p1)) F Pc Aa (fun w W => Ih any w p1 _ Aa)) fun a w F W => ?_
 refine ls F W Aa (Eh F Aa).q fun a w F W => ?_
 refine Ae (Ac ?_)
 refine Ao F Aa (fun hb => ?_) fun hb => ?_
 ·
  have H := A5 hb H
  rw [hb] at F
  clear hb
  refine Ag (Ab ?_)
  refine ls F W Aa (Ad F Aa).q fun a w F W => ?_
  refine Ae (Ac (Aw (A4 ?_)))
  have H := AV H
  subst H
  refine A2 (.inl Aa) F W Aa (AB F Aa) ?_
  exact ⟨rfl, W.done⟩
 have H := A3 (by rw [hb]; decide) H
 rw [hb] at F
 clear hb
 refine Au (Ac (Ag (Ab ?_)))
 refine ls F W Aa (Af F Aa).q fun a w F W => ?_
 obtain ⟨x1, h1, H⟩ := Aj H
 refine ls F W Aa (JN (0 + (p1).toNat * 1) MH F Aa Aa Aa h1 Aa).q fun a w F W => ?_
 refine ls F W Aa (As (v := Value.int .i64 x1) 0 F Aa Aa T3 (KT (base := 0) (m := 4) (l := [p0.1, p0.2.1, p0.2.2.1, p0.2.2.2]) (enc := Value.int .i64) Aa h1)).q fun a w F W => ?_
 refine ls F W Aa (Ad F Aa).q fun a w F W => ?_
 refine Ae (Ac (Aw ?_))
 have H := AV H
 subst H
 refine A2 (.inl Aa) F W Aa (AB F Aa) ?_
 exact ⟨rfl, W.done⟩
theorem O1 : Has Tryd.prog 38 := ⟨fun args w => Ak Tryd.func38 rfl (by decide) args w⟩
noncomputable def EX (p0 : Int) (p1 : Int) (p2 : Int) (p3 : Int × Int × Int × Int) : Option Int := (if p0 = 4 then some p2 else (if p0 = 5 then some p1 else (if (Cn p0) = true then (Em p3 p0).bind fun x1 => some x1 else some (-1))))
theorem KB (Y : Nat → Prop) (w0 : World)  (p0 : Int) (p1 : Int) (p2 : Int) (p3 : Int × Int × Int × Int) (r : Int) (H : EX p0 p1 p2 p3 = some r)  :
    Calls Tryd.prog 20 #[.int .i64 p0, .int .i64 p1, .int .i64 p2, .agg #[.int .i64 p3.1, .int .i64 p3.2.1, .int .i64 p3.2.2.1, .int .i64 p3.2.2.2]] w0 fun e w' => e = .returned (.int .i64 r) ∧ Below w0.heap.size w0 w' := by
 refine enter Tryd.func20 Aa Tryd.ntmps20 Aa fun a F => ?_
 have W := Stw.start Y w0
 unfold EX at H
 refine Ag (Ab ?_)
 refine Do (cs := [.int .i64 p3.1, .int .i64 p3.2.1, .int .i64 p3.2.2.1, .int .i64 p3.2.2.2]) F W Aa Aa Aa fun b1 a w F W => ?_
 refine ls F W Aa (Ad F Aa).q fun a w F W => ?_
 refine Ae (Ac (Ag (Ap (Ag (Ab ?_)))))
 refine ls F W Aa (Af F Aa).q fun a w F W => ?_
 refine ls F W Aa (BU F Aa Aa).q fun a w F W => ?_
 refine ls F W Aa (Ad F Aa).q fun a w F W => ?_
 refine Ae (Ac ?_)
 refine Ao F Aa (fun hb => ?_) fun hb => ?_
 ·
  have H := A5 (Bv hb) H
  rw [hb] at F
  clear hb
  refine Ag (Ab ?_)
  refine ls F W Aa (Af F Aa).q fun a w F W => ?_
  refine ls F W Aa (Ad F Aa).q fun a w F W => ?_
  refine Ae (Ac (Aw (A0 (A4 ?_))))
  have H := AV H
  subst H
  refine A2 (.inl Aa) F W Aa (AB F Aa) ?_
  exact ⟨rfl, W.done⟩
 have H := A3 (Bx hb) H
 rw [hb] at F
 clear hb
 refine Ag (Ab ?_)
 refine ls F W Aa (Af F Aa).q fun a w F W => ?_
 refine ls F W Aa (BU F Aa Aa).q fun a w F W => ?_
 refine ls F W Aa (Ad F Aa).q fun a w F W => ?_
 refine Ae (Ac ?_)
 refine Ao F Aa (fun hb => ?_) fun hb => ?_
 ·
  have H := A5 (Bv hb) H
  rw [hb] at F
  clear hb
  refine Ag (Ab ?_)
  refine ls F W Aa (Af F Aa).q fun a w F W => ?_
  refine ls F W Aa (Ad F Aa).q fun a w F W => ?_
  refine Ae (Ac (Aw (A0 (A4 ?_))))
  have H := AV H
  subst H
  refine A2 (.inl Aa) F W Aa (AB F Aa) ?_
  exact ⟨rfl, W.done⟩
 have H := A3 (Bx hb) H
 rw [hb] at F
 clear hb
 refine Ag (Ab ?_)
 refine ls F W Aa (Af F Aa).q fun a w F W => ?_
 refine ls F W Aa (Be (v := Value.bool (Cn p0)) F NV Aa (fun w W => FQ any w p0 _ Aa)) fun a w F W => ?_
 refine ls F W Aa (Ad F Aa).q fun a w F W => ?_
 refine Ae (Ac ?_)
 refine Ao F Aa (fun hb => ?_) fun hb => ?_
 ·
  have H := A5 hb H
  rw [hb] at F
  clear hb
  refine Ag (Ab ?_)
  refine ls F W Aa (As (v := Value.agg #[.int .i64 p3.1, .int .i64 p3.2.1, .int .i64 p3.2.2.1, .int .i64 p3.2.2.2]) 0 F Aa Aa Mk Aa).q fun a w F W => ?_
  refine ls F W Aa (Af F Aa).q fun a w F W => ?_
  obtain ⟨x1, h1, H⟩ := Aj H
  refine ls F W Aa (Be (v := Value.int .i64 x1) F O1 Aa (fun w W => Jy any w p3 p0 _ h1)) fun a w F W => ?_
  refine ls F W Aa (Ad F Aa).q fun a w F W => ?_
  refine Ae (Ac (Aw (A0 (A4 ?_))))
  have H := AV H
  subst H
  refine A2 (.inl Aa) F W Aa (AB F Aa) ?_
  exact ⟨rfl, W.done⟩
 have H := A3 (by rw [hb]; decide) H
 rw [hb] at F
 clear hb
 refine Au (A6 (Ac (Ag (Ab ?_))))
 refine ls F W Aa (Ad F Aa).q fun a w F W => ?_
 refine Ae (Ac (Aw ?_))
 have H := AV H
 subst H
 refine A2 (.inl Aa) F W Aa (AB F Aa) ?_
 exact ⟨rfl, W.done⟩
theorem OD : Has Tryd.prog 20 := ⟨fun args w => Ak Tryd.func20 rfl (by decide) args w⟩
theorem NO : Ty Tryd.prog 59 true 6 := ⟨by kernel_rfl, by kernel_rfl⟩
theorem NS : Has Tryd.prog 34 := ⟨fun args w => Ak Tryd.func34 rfl (by decide) args w⟩
noncomputable def BC (fRec_pred_arrival_satisfies : (Int × Int × (Int × Int × Int × Int)) → Tr31 → Option Bool) (p0 : Int × Int × (Int × Int × Int × Int)) (p1 : Tr31) : Option Bool := (fRec_pred_arrival_satisfies p0 p1).bind fun x1 => some (!x1)
theorem EB (fRec_pred_arrival_satisfies : (Int × Int × (Int × Int × Int × Int)) → Tr31 → Option Bool) (ih_pred_arrival_satisfies : ∀ (Y : Nat → Prop) (w0 : World) (v1 : Value) (p0 : Int × Int × (Int × Int × Int × Int)) (p1 : Tr31) (r : Bool) (H : fRec_pred_arrival_satisfies p0 p1 = some r) (h_v1 : Sl w0 (NX []) B4 v1 p1.un.2.2.2), Calls Tryd.prog 34 #[.agg #[.int .i64 p0.1, .int .i64 p0.2.1, .int .i64 p0.2.2.1, .int .i64 p0.2.2.2.1, .int .i64 p0.2.2.2.2.1, .int .i64 p0.2.2.2.2.2], .agg #[.int .i64 p1.un.1, .int .i64 p1.un.2.1, .int .i64 p1.un.2.2.1, v1]] w0 fun e w' => e = .returned (.bool r) ∧ Below w0.heap.size w0 w') (Y : Nat → Prop) (w0 : World) (v1 : Value) (p0 : Int × Int × (Int × Int × Int × Int)) (p1 : Tr31) (r : Bool) (H : BC fRec_pred_arrival_satisfies p0 p1 = some r) (h_v1 : Sl w0 (NX []) B4 v1 p1.un.2.2.2) :
    Calls Tryd.prog 51 #[.agg #[.int .i64 p0.1, .int .i64 p0.2.1, .int .i64 p0.2.2.1, .int .i64 p0.2.2.2.1, .int .i64 p0.2.2.2.2.1, .int .i64 p0.2.2.2.2.2], .agg #[.int .i64 p1.un.1, .int .i64 p1.un.2.1, .int .i64 p1.un.2.2.1, v1]] w0 fun e w' => e = .returned (.bool r) ∧ Below w0.heap.size w0 w' := by
 refine enter Tryd.func51 Aa Tryd.ntmps51 Aa fun a F => ?_
 have W := Stw.start Y w0
 obtain ⟨v2, h1, h_v1⟩ := h_v1.ex CA
 unfold BC at H
 refine Ag (Ab ?_)
 refine Do (cs := [.int .i64 p0.1, .int .i64 p0.2.1, .int .i64 p0.2.2.1, .int .i64 p0.2.2.2.1, .int .i64 p0.2.2.2.2.1, .int .i64 p0.2.2.2.2.2]) F W Aa Aa Aa fun b1 a w F W => ?_
 refine Do (cs := [.int .i64 p1.un.1, .int .i64 p1.un.2.1, .int .i64 p1.un.2.2.1, v1]) F W Aa Aa Aa fun b2 a w F W => ?_
 refine ls F W Aa (Ad F Aa).q fun a w F W => ?_
 refine Ae (Ac (Ag (Ab ?_)))
 refine ls F W Aa (As (v := Value.agg #[.int .i64 p0.1, .int .i64 p0.2.1, .int .i64 p0.2.2.1, .int .i64 p0.2.2.2.1, .int .i64 p0.2.2.2.2.1, .int .i64 p0.2.2.2.2.2]) 1 F Aa Aa NO Aa).q fun a w F W => ?_
 refine ls F W Aa (As (v := Value.agg #[.int .i64 p1.un.1, .int .i64 p1.un.2.1, .int .i64 p1.un.2.2.1, v1]) 0 F Aa Aa D7 Aa).q fun a w F W => ?_
 obtain ⟨x1, h2, H⟩ := Aj H
 refine ls F W Aa (Be (v := Value.bool x1) F NS Aa (fun w W => ih_pred_arrival_satisfies any w (v1) p0 p1 _ h2 (((Bn CA h1 (AQ h_v1)) : FB _ _ _ _ _ _) w W).nx)) fun a w F W => ?_
 refine ls F W Aa (Eh F Aa).q fun a w F W => ?_
 refine ls F W Aa (Ad F Aa).q fun a w F W => ?_
 refine Ae (Ac (Aw ?_))
 have H := AV H
 subst H
 refine A2 (.inl Aa) F W Aa (AB F Aa) ?_
 exact ⟨rfl, W.done⟩
theorem Ou : Has Tryd.prog 51 := ⟨fun args w => Ak Tryd.func51 rfl (by decide) args w⟩
noncomputable def Ax (fRec_pred_arrival_satisfies : (Int × Int × (Int × Int × Int × Int)) → Tr31 → Option Bool) (p0 : List Tr31) (p1f0 : Int × Int × (Int × Int × Int × Int)) : Int → Option (Int ⊕ (Unit ⊕ Int))
  | x1 => (if x1 < (p0.length : Int) then (ix p0 x1).bind fun x2 => ((BC fRec_pred_arrival_satisfies) p1f0 x2).bind fun x3 => (if x3 = true then some (.inr (.inr x1)) else some (.inl (AJ (x1 + 1)))) else some (.inr (.inl ())))
noncomputable def AL (fRec_pred_arrival_satisfies : (Int × Int × (Int × Int × Int × Int)) → Tr31 → Option Bool) (p0 : List Tr31) (p1f0 : Int × Int × (Int × Int × Int × Int)) : Option Int := Im (AZ (Ax fRec_pred_arrival_satisfies p0 p1f0) 0) fun _ => some (-1)
theorem DL (fRec_pred_arrival_satisfies : (Int × Int × (Int × Int × Int × Int)) → Tr31 → Option Bool) (ih_pred_arrival_satisfies : ∀ (Y : Nat → Prop) (w0 : World) (v1 : Value) (p0 : Int × Int × (Int × Int × Int × Int)) (p1 : Tr31) (r : Bool) (H : fRec_pred_arrival_satisfies p0 p1 = some r) (h_v1 : Sl w0 (NX []) B4 v1 p1.un.2.2.2), Calls Tryd.prog 34 #[.agg #[.int .i64 p0.1, .int .i64 p0.2.1, .int .i64 p0.2.2.1, .int .i64 p0.2.2.2.1, .int .i64 p0.2.2.2.2.1, .int .i64 p0.2.2.2.2.2], .agg #[.int .i64 p1.un.1, .int .i64 p1.un.2.1, .int .i64 p1.un.2.2.1, v1]] w0 fun e w' => e = .returned (.bool r) ∧ Below w0.heap.size w0 w') (Y : Nat → Prop) (w0 : World) (v1 : Value) (p0 : List Tr31) (p1f0 : Int × Int × (Int × Int × Int × Int)) (r : Int) (H : AL fRec_pred_arrival_satisfies p0 p1f0 = some r) (h_v1 : Sl w0 (NX []) B4 v1 p0) :
    Calls Tryd.prog 59 #[v1, .func (.func 51) #[.agg #[.int .i64 p1f0.1, .int .i64 p1f0.2.1, .int .i64 p1f0.2.2.1, .int .i64 p1f0.2.2.2.1, .int .i64 p1f0.2.2.2.2.1, .int .i64 p1f0.2.2.2.2.2]] #[]] w0 fun e w' => e = .returned (.int .i64 r) ∧ Below w0.heap.size w0 w' := by
 refine enter Tryd.func59 Aa Tryd.ntmps59 Aa fun a F => ?_
 have W := Stw.start Y w0
 obtain ⟨v2, h1, h_v1⟩ := h_v1.ex CA
 unfold AL at H
 refine Ag (Ab ?_)
 refine ls F W Aa (Ad F Aa).q fun a w F W => ?_
 refine Ae (Ac ?_)
 obtain ⟨o1, G1, K1, L1⟩ := Mo H
 refine AW (fun a w => some (Sum.inl ()) = some o1 ∧ Fr 19 [] [(4, .int .i64 0)] a ∧ Stw ⟨Y, [], w0⟩ [] [] w) ?_ ?_
 ·
  have H := G1
  clear G1 K1
  refine Ag (Ab ?_)
  refine ls F W Aa (Af F Aa).q fun a w F W => ?_
  refine ls F W Aa (DU (r := B4) (l := p0) GC Aa F Aa (Bn CA h1 (AQ h_v1))).q fun a w F W => ?_
  refine ls F W Aa (Af F Aa).q fun a w F W => ?_
  refine Ae (Ac (Ap ?_))
  refine BV H (fun s a w => Fr 19 [] [(0, v1), (1, .func (.func 51) #[.agg #[.int .i64 p1f0.1, .int .i64 p1f0.2.1, .int .i64 p1f0.2.2.1, .int .i64 p1f0.2.2.2.1, .int .i64 p1f0.2.2.2.2.1, .int .i64 p1f0.2.2.2.2.2]] #[]), (4, .int .i64 0), (7, .int .i64 (p0.length : Int)), (8, .int .i64 s)] a ∧ Stw ⟨Y, [], w0⟩ [] [] w) ⟨F.re ⟨rfl, Aa, Aa, Aa, Aa, trivial⟩, W⟩ fun s o a w H L2 hR => ?_
  obtain ⟨x1, rfl⟩ : ∃ x, x = s := ⟨s, rfl⟩
  obtain ⟨F, W⟩ := hR
  have F : Fr 19 [] [(0, v1), (1, .func (.func 51) #[.agg #[.int .i64 p1f0.1, .int .i64 p1f0.2.1, .int .i64 p1f0.2.2.1, .int .i64 p1f0.2.2.2.1, .int .i64 p1f0.2.2.2.2.1, .int .i64 p1f0.2.2.2.2.2]] #[]), (4, .int .i64 0), (7, .int .i64 (p0.length : Int)), (8, .int .i64 x1)] a := F
  have W : Stw ⟨Y, [], w0⟩ [] [] w := W
  rw [Ax] at H
  refine Ag (Ab ?_)
  refine ls F W Aa (Df F Aa Aa).q fun a w F W => ?_
  refine Ae (Ac (Ag ?_))
  refine Ao F Aa (fun hb => ?_) fun hb => ?_
  ·
   have H := A5 (Bv hb) H
   rw [hb] at F
   clear hb
   refine Au (Ac (Ag (Ap (Ag (Ab ?_)))))
   refine ls F W Aa (Af F Aa).q fun a w F W => ?_
   refine ls F W Aa (Ad F Aa).q fun a w F W => ?_
   refine Ae (Ac (Ag (Ab ?_)))
   iterate 3 refine ls F W Aa (Af F Aa).q fun a w F W => ?_
   obtain ⟨x2, h2, H⟩ := Aj H
   obtain ⟨v3, h3, h4⟩ := FV h1 h2
   have h5 : Fp v3 = [.int .i64 x2.un.1, .int .i64 x2.un.2.1, .int .i64 x2.un.2.2.1, (v3.2.2.2.1)] := congrArg (fun q : Tr31 => ([.int .i64 q.un.1, .int .i64 q.un.2.1, .int .i64 q.un.2.2.1, (v3.2.2.2.1)] : List Value)) h4
   refine ls F W Aa (Ay (r := FZ) Ji F Aa Aa (AQ h_v1) h3).q fun a w F W => ?_
   refine ls F W Aa (Am (y := Value.agg #[.int .i64 x2.un.1, .int .i64 x2.un.2.1, .int .i64 x2.un.2.2.1, (v3.2.2.2.1)]) (j := 0) (i := x1) (enc := Fp) F Aa Aa (AQ h_v1) h3 IU D7 (by rw [h5]; rfl)).q fun a w F W => ?_
   obtain ⟨x3, h6, H⟩ := Aj H
   refine ls F W Aa (KG (ws := [.agg #[.int .i64 p1f0.1, .int .i64 p1f0.2.1, .int .i64 p1f0.2.2.1, .int .i64 p1f0.2.2.2.1, .int .i64 p1f0.2.2.2.2.1, .int .i64 p1f0.2.2.2.2.2], .agg #[.int .i64 x2.un.1, .int .i64 x2.un.2.1, .int .i64 x2.un.2.2.1, (v3.2.2.2.1)]]) (v := Value.bool x3) F Ou Aa (fun w W => (EB fRec_pred_arrival_satisfies ih_pred_arrival_satisfies) any w ((v3.2.2.2.1)) p1f0 x2 _ h6 (((DV (AQ h_v1) h3 (Cg.snd (Cg.snd (Cg.snd Cg.here))) (congrArg (fun q : Tr31 => q.un.2.2.2) h4)) : FB _ _ _ _ _ _) w W).nx)) fun a w F W => ?_
   refine Ae (Ac ?_)
   refine Ao F Aa (fun hb => ?_) fun hb => ?_
   ·
    have H := A5 hb H
    rw [hb] at F
    clear hb
    refine Ag (Ab ?_)
    refine ls F W Aa (Af F Aa).q fun a w F W => ?_
    refine ls F W Aa (Ad F Aa).q fun a w F W => ?_
    refine Ae (Ac (Aw (A0 ?_)))
    iterate 2 refine A4 ?_
    refine A0 (A4 ?_)
    have H := L2 _ H
    have H := L1 _ H
    have H := AV H
    subst H
    refine A2 (.inl Aa) F W Aa (AB F Aa) ?_
    exact ⟨rfl, W.done⟩
   have H := A3 (by rw [hb]; decide) H
   rw [hb] at F
   clear hb
   refine Au (A6 (Ac (Ab ?_)))
   refine ls F W Aa (BM F Aa Aa Aa).q fun a w F W => ?_
   refine ls F W Aa (Af F Aa).q fun a w F W => ?_
   refine Ae (Ac ?_)
   exact ⟨_, H, F.re ⟨rfl, Aa, Aa, Aa, Aa, trivial⟩, W⟩
  have H := A3 (Bx hb) H
  rw [hb] at F
  clear hb
  refine BK ?_
  iterate 2 refine B7 ?_
  refine BN (Ac ?_)
  have H := L2 _ H
  exact ⟨H, F.re ⟨rfl, trivial⟩, W⟩
 rintro a w ⟨hj, F, W⟩
 have H := K1 _ hj
 clear hj G1 K1 L1
 refine Ag (Ab ?_)
 refine ls F W Aa (Ad F Aa).q fun a w F W => ?_
 refine Ae (Ac (Aw ?_))
 have H := AV H
 subst H
 refine A2 (.inl Aa) F W Aa (AB F Aa) ?_
 exact ⟨rfl, W.done⟩
theorem Oj : Has Tryd.prog 59 := ⟨fun args w => Ak Tryd.func59 rfl (by decide) args w⟩
noncomputable def AE (fRec_pred_arrival_satisfies : (Int × Int × (Int × Int × Int × Int)) → Tr31 → Option Bool) (p0 : List Tr31) (p1f0 : Int × Int × (Int × Int × Int × Int)) : Option Bool := ((AL fRec_pred_arrival_satisfies) p0 p1f0).bind fun x1 => some (decide (0 ≤ x1))
theorem Dv (fRec_pred_arrival_satisfies : (Int × Int × (Int × Int × Int × Int)) → Tr31 → Option Bool) (ih_pred_arrival_satisfies : ∀ (Y : Nat → Prop) (w0 : World) (v1 : Value) (p0 : Int × Int × (Int × Int × Int × Int)) (p1 : Tr31) (r : Bool) (H : fRec_pred_arrival_satisfies p0 p1 = some r) (h_v1 : Sl w0 (NX []) B4 v1 p1.un.2.2.2), Calls Tryd.prog 34 #[.agg #[.int .i64 p0.1, .int .i64 p0.2.1, .int .i64 p0.2.2.1, .int .i64 p0.2.2.2.1, .int .i64 p0.2.2.2.2.1, .int .i64 p0.2.2.2.2.2], .agg #[.int .i64 p1.un.1, .int .i64 p1.un.2.1, .int .i64 p1.un.2.2.1, v1]] w0 fun e w' => e = .returned (.bool r) ∧ Below w0.heap.size w0 w') (Y : Nat → Prop) (w0 : World) (v1 : Value) (p0 : List Tr31) (p1f0 : Int × Int × (Int × Int × Int × Int)) (r : Bool) (H : AE fRec_pred_arrival_satisfies p0 p1f0 = some r) (h_v1 : Sl w0 (NX []) B4 v1 p0) :
    Calls Tryd.prog 52 #[v1, .func (.func 51) #[.agg #[.int .i64 p1f0.1, .int .i64 p1f0.2.1, .int .i64 p1f0.2.2.1, .int .i64 p1f0.2.2.2.1, .int .i64 p1f0.2.2.2.2.1, .int .i64 p1f0.2.2.2.2.2]] #[]] w0 fun e w' => e = .returned (.bool r) ∧ Below w0.heap.size w0 w' := by
 refine enter Tryd.func52 Aa Tryd.ntmps52 Aa fun a F => ?_
 have W := Stw.start Y w0
 obtain ⟨v2, h1, h_v1⟩ := h_v1.ex CA
 unfold AE at H
 refine Ag (Ab ?_)
 refine ls F W Aa (Ad F Aa).q fun a w F W => ?_
 refine Ae (Ac (Ag (Ab ?_)))
 iterate 2 refine ls F W Aa (Af F Aa).q fun a w F W => ?_
 obtain ⟨x1, h2, H⟩ := Aj H
 refine ls F W Aa (Be (v := Value.int .i64 x1) F Oj Aa (fun w W => (DL fRec_pred_arrival_satisfies ih_pred_arrival_satisfies) any w (v1) p0 p1f0 _ h2 (((Bn CA h1 (AQ h_v1)) : FB _ _ _ _ _ _) w W).nx)) fun a w F W => ?_
 refine ls F W Aa (DT F Aa Aa).q fun a w F W => ?_
 refine ls F W Aa (Ad F Aa).q fun a w F W => ?_
 refine Ae (Ac (Aw ?_))
 have H := AV H
 subst H
 refine A2 (.inl Aa) F W Aa (AB F Aa) ?_
 exact ⟨rfl, W.done⟩
theorem Oo : Has Tryd.prog 52 := ⟨fun args w => Ak Tryd.func52 rfl (by decide) args w⟩
noncomputable def Av (fRec_pred_arrival_satisfies : (Int × Int × (Int × Int × Int × Int)) → Tr31 → Option Bool) (p0 : List Tr31) (p1f0 : Int × Int × (Int × Int × Int × Int)) : Int → Option (Int ⊕ (Unit ⊕ Int))
  | x1 => (if x1 < (p0.length : Int) then (ix p0 x1).bind fun x2 => (fRec_pred_arrival_satisfies p1f0 x2).bind fun x3 => (if x3 = true then some (.inr (.inr x1)) else some (.inl (AJ (x1 + 1)))) else some (.inr (.inl ())))
noncomputable def AF (fRec_pred_arrival_satisfies : (Int × Int × (Int × Int × Int × Int)) → Tr31 → Option Bool) (p0 : List Tr31) (p1f0 : Int × Int × (Int × Int × Int × Int)) : Option Int := Im (AZ (Av fRec_pred_arrival_satisfies p0 p1f0) 0) fun _ => some (-1)
theorem DF (fRec_pred_arrival_satisfies : (Int × Int × (Int × Int × Int × Int)) → Tr31 → Option Bool) (ih_pred_arrival_satisfies : ∀ (Y : Nat → Prop) (w0 : World) (v1 : Value) (p0 : Int × Int × (Int × Int × Int × Int)) (p1 : Tr31) (r : Bool) (H : fRec_pred_arrival_satisfies p0 p1 = some r) (h_v1 : Sl w0 (NX []) B4 v1 p1.un.2.2.2), Calls Tryd.prog 34 #[.agg #[.int .i64 p0.1, .int .i64 p0.2.1, .int .i64 p0.2.2.1, .int .i64 p0.2.2.2.1, .int .i64 p0.2.2.2.2.1, .int .i64 p0.2.2.2.2.2], .agg #[.int .i64 p1.un.1, .int .i64 p1.un.2.1, .int .i64 p1.un.2.2.1, v1]] w0 fun e w' => e = .returned (.bool r) ∧ Below w0.heap.size w0 w') (Y : Nat → Prop) (w0 : World) (v1 : Value) (p0 : List Tr31) (p1f0 : Int × Int × (Int × Int × Int × Int)) (r : Int) (H : AF fRec_pred_arrival_satisfies p0 p1f0 = some r) (h_v1 : Sl w0 (NX []) B4 v1 p0) :
    Calls Tryd.prog 59 #[v1, .func (.func 34) #[.agg #[.int .i64 p1f0.1, .int .i64 p1f0.2.1, .int .i64 p1f0.2.2.1, .int .i64 p1f0.2.2.2.1, .int .i64 p1f0.2.2.2.2.1, .int .i64 p1f0.2.2.2.2.2]] #[]] w0 fun e w' => e = .returned (.int .i64 r) ∧ Below w0.heap.size w0 w' := by
 refine enter Tryd.func59 Aa Tryd.ntmps59 Aa fun a F => ?_
 have W := Stw.start Y w0
 obtain ⟨v2, h1, h_v1⟩ := h_v1.ex CA
 unfold AF at H
 refine Ag (Ab ?_)
 refine ls F W Aa (Ad F Aa).q fun a w F W => ?_
 refine Ae (Ac ?_)
 obtain ⟨o1, G1, K1, L1⟩ := Mo H
 refine AW (fun a w => some (Sum.inl ()) = some o1 ∧ Fr 19 [] [(4, .int .i64 0)] a ∧ Stw ⟨Y, [], w0⟩ [] [] w) ?_ ?_
 ·
  have H := G1
  clear G1 K1
  refine Ag (Ab ?_)
  refine ls F W Aa (Af F Aa).q fun a w F W => ?_
  refine ls F W Aa (DU (r := B4) (l := p0) GC Aa F Aa (Bn CA h1 (AQ h_v1))).q fun a w F W => ?_
  refine ls F W Aa (Af F Aa).q fun a w F W => ?_
  refine Ae (Ac (Ap ?_))
  refine BV H (fun s a w => Fr 19 [] [(0, v1), (1, .func (.func 34) #[.agg #[.int .i64 p1f0.1, .int .i64 p1f0.2.1, .int .i64 p1f0.2.2.1, .int .i64 p1f0.2.2.2.1, .int .i64 p1f0.2.2.2.2.1, .int .i64 p1f0.2.2.2.2.2]] #[]), (4, .int .i64 0), (7, .int .i64 (p0.length : Int)), (8, .int .i64 s)] a ∧ Stw ⟨Y, [], w0⟩ [] [] w) ⟨F.re ⟨rfl, Aa, Aa, Aa, Aa, trivial⟩, W⟩ fun s o a w H L2 hR => ?_
  obtain ⟨x1, rfl⟩ : ∃ x, x = s := ⟨s, rfl⟩
  obtain ⟨F, W⟩ := hR
  have F : Fr 19 [] [(0, v1), (1, .func (.func 34) #[.agg #[.int .i64 p1f0.1, .int .i64 p1f0.2.1, .int .i64 p1f0.2.2.1, .int .i64 p1f0.2.2.2.1, .int .i64 p1f0.2.2.2.2.1, .int .i64 p1f0.2.2.2.2.2]] #[]), (4, .int .i64 0), (7, .int .i64 (p0.length : Int)), (8, .int .i64 x1)] a := F
  have W : Stw ⟨Y, [], w0⟩ [] [] w := W
  rw [Av] at H
  refine Ag (Ab ?_)
  refine ls F W Aa (Df F Aa Aa).q fun a w F W => ?_
  refine Ae (Ac (Ag ?_))
  refine Ao F Aa (fun hb => ?_) fun hb => ?_
  ·
   have H := A5 (Bv hb) H
   rw [hb] at F
   clear hb
   refine Au (Ac (Ag (Ap (Ag (Ab ?_)))))
   refine ls F W Aa (Af F Aa).q fun a w F W => ?_
   refine ls F W Aa (Ad F Aa).q fun a w F W => ?_
   refine Ae (Ac (Ag (Ab ?_)))
   iterate 3 refine ls F W Aa (Af F Aa).q fun a w F W => ?_
   obtain ⟨x2, h2, H⟩ := Aj H
   obtain ⟨v3, h3, h4⟩ := FV h1 h2
   have h5 : Fp v3 = [.int .i64 x2.un.1, .int .i64 x2.un.2.1, .int .i64 x2.un.2.2.1, (v3.2.2.2.1)] := congrArg (fun q : Tr31 => ([.int .i64 q.un.1, .int .i64 q.un.2.1, .int .i64 q.un.2.2.1, (v3.2.2.2.1)] : List Value)) h4
   refine ls F W Aa (Ay (r := FZ) Ji F Aa Aa (AQ h_v1) h3).q fun a w F W => ?_
   refine ls F W Aa (Am (y := Value.agg #[.int .i64 x2.un.1, .int .i64 x2.un.2.1, .int .i64 x2.un.2.2.1, (v3.2.2.2.1)]) (j := 0) (i := x1) (enc := Fp) F Aa Aa (AQ h_v1) h3 IU D7 (by rw [h5]; rfl)).q fun a w F W => ?_
   obtain ⟨x3, h6, H⟩ := Aj H
   refine ls F W Aa (KG (ws := [.agg #[.int .i64 p1f0.1, .int .i64 p1f0.2.1, .int .i64 p1f0.2.2.1, .int .i64 p1f0.2.2.2.1, .int .i64 p1f0.2.2.2.2.1, .int .i64 p1f0.2.2.2.2.2], .agg #[.int .i64 x2.un.1, .int .i64 x2.un.2.1, .int .i64 x2.un.2.2.1, (v3.2.2.2.1)]]) (v := Value.bool x3) F NS Aa (fun w W => ih_pred_arrival_satisfies any w ((v3.2.2.2.1)) p1f0 x2 _ h6 (((DV (AQ h_v1) h3 (Cg.snd (Cg.snd (Cg.snd Cg.here))) (congrArg (fun q : Tr31 => q.un.2.2.2) h4)) : FB _ _ _ _ _ _) w W).nx)) fun a w F W => ?_
   refine Ae (Ac ?_)
   refine Ao F Aa (fun hb => ?_) fun hb => ?_
   ·
    have H := A5 hb H
    rw [hb] at F
    clear hb
    refine Ag (Ab ?_)
    refine ls F W Aa (Af F Aa).q fun a w F W => ?_
    refine ls F W Aa (Ad F Aa).q fun a w F W => ?_
    refine Ae (Ac (Aw (A0 ?_)))
    iterate 2 refine A4 ?_
    refine A0 (A4 ?_)
    have H := L2 _ H
    have H := L1 _ H
    have H := AV H
    subst H
    refine A2 (.inl Aa) F W Aa (AB F Aa) ?_
    exact ⟨rfl, W.done⟩
   have H := A3 (by rw [hb]; decide) H
   rw [hb] at F
   clear hb
   refine Au (A6 (Ac (Ab ?_)))
   refine ls F W Aa (BM F Aa Aa Aa).q fun a w F W => ?_
   refine ls F W Aa (Af F Aa).q fun a w F W => ?_
   refine Ae (Ac ?_)
   exact ⟨_, H, F.re ⟨rfl, Aa, Aa, Aa, Aa, trivial⟩, W⟩
  have H := A3 (Bx hb) H
  rw [hb] at F
  clear hb
  refine BK ?_
  iterate 2 refine B7 ?_
  refine BN (Ac ?_)
  have H := L2 _ H
  exact ⟨H, F.re ⟨rfl, trivial⟩, W⟩
 rintro a w ⟨hj, F, W⟩
 have H := K1 _ hj
 clear hj G1 K1 L1
 refine Ag (Ab ?_)
 refine ls F W Aa (Ad F Aa).q fun a w F W => ?_
 refine Ae (Ac (Aw ?_))
 have H := AV H
 subst H
 refine A2 (.inl Aa) F W Aa (AB F Aa) ?_
 exact ⟨rfl, W.done⟩
noncomputable def AC (fRec_pred_arrival_satisfies : (Int × Int × (Int × Int × Int × Int)) → Tr31 → Option Bool) (p0 : List Tr31) (p1f0 : Int × Int × (Int × Int × Int × Int)) : Option Bool := ((AF fRec_pred_arrival_satisfies) p0 p1f0).bind fun x1 => some (decide (0 ≤ x1))
theorem Di (fRec_pred_arrival_satisfies : (Int × Int × (Int × Int × Int × Int)) → Tr31 → Option Bool) (ih_pred_arrival_satisfies : ∀ (Y : Nat → Prop) (w0 : World) (v1 : Value) (p0 : Int × Int × (Int × Int × Int × Int)) (p1 : Tr31) (r : Bool) (H : fRec_pred_arrival_satisfies p0 p1 = some r) (h_v1 : Sl w0 (NX []) B4 v1 p1.un.2.2.2), Calls Tryd.prog 34 #[.agg #[.int .i64 p0.1, .int .i64 p0.2.1, .int .i64 p0.2.2.1, .int .i64 p0.2.2.2.1, .int .i64 p0.2.2.2.2.1, .int .i64 p0.2.2.2.2.2], .agg #[.int .i64 p1.un.1, .int .i64 p1.un.2.1, .int .i64 p1.un.2.2.1, v1]] w0 fun e w' => e = .returned (.bool r) ∧ Below w0.heap.size w0 w') (Y : Nat → Prop) (w0 : World) (v1 : Value) (p0 : List Tr31) (p1f0 : Int × Int × (Int × Int × Int × Int)) (r : Bool) (H : AC fRec_pred_arrival_satisfies p0 p1f0 = some r) (h_v1 : Sl w0 (NX []) B4 v1 p0) :
    Calls Tryd.prog 52 #[v1, .func (.func 34) #[.agg #[.int .i64 p1f0.1, .int .i64 p1f0.2.1, .int .i64 p1f0.2.2.1, .int .i64 p1f0.2.2.2.1, .int .i64 p1f0.2.2.2.2.1, .int .i64 p1f0.2.2.2.2.2]] #[]] w0 fun e w' => e = .returned (.bool r) ∧ Below w0.heap.size w0 w' := by
 refine enter Tryd.func52 Aa Tryd.ntmps52 Aa fun a F => ?_
 have W := Stw.start Y w0
 obtain ⟨v2, h1, h_v1⟩ := h_v1.ex CA
 unfold AC at H
 refine Ag (Ab ?_)
 refine ls F W Aa (Ad F Aa).q fun a w F W => ?_
 refine Ae (Ac (Ag (Ab ?_)))
 iterate 2 refine ls F W Aa (Af F Aa).q fun a w F W => ?_
 obtain ⟨x1, h2, H⟩ := Aj H
 refine ls F W Aa (Be (v := Value.int .i64 x1) F Oj Aa (fun w W => (DF fRec_pred_arrival_satisfies ih_pred_arrival_satisfies) any w (v1) p0 p1f0 _ h2 (((Bn CA h1 (AQ h_v1)) : FB _ _ _ _ _ _) w W).nx)) fun a w F W => ?_
 refine ls F W Aa (DT F Aa Aa).q fun a w F W => ?_
 refine ls F W Aa (Ad F Aa).q fun a w F W => ?_
 refine Ae (Ac (Aw ?_))
 have H := AV H
 subst H
 refine A2 (.inl Aa) F W Aa (AB F Aa) ?_
 exact ⟨rfl, W.done⟩
noncomputable def Ba (fRec : (Int × Int × (Int × Int × Int × Int)) → Tr31 → Option Bool) (p0 : Int × Int × (Int × Int × Int × Int)) (p1 : Tr31) : Option Bool := (if p1.un.1 = 1 then some true else (if p1.un.1 = 3 then (if (Cn p1.un.2.1) = true then (EX p1.un.2.1 p0.1 p0.2.1 p0.2.2).bind fun x2 => some (decide (x2 = p1.un.2.2.1)) else some false).bind fun x1 => some x1 else (if p1.un.1 = 4 then (if 0 < (p1.un.2.2.2.length : Int) then (ix p1.un.2.2.2 0).bind fun x4 => ((BC fRec) p0 x4).bind fun x5 => some x5 else some false).bind fun x3 => some x3 else (if p1.un.1 = 5 then ((AE fRec) p1.un.2.2.2 p0).bind fun x6 => some (!x6) else (if p1.un.1 = 6 then ((AC fRec) p1.un.2.2.2 p0).bind fun x7 => some x7 else some false)))))
noncomputable def AN : Nat → (Int × Int × (Int × Int × Int × Int)) → Tr31 → Option Bool
  | 0 => fun _ _ => none
  | n + 1 => Ba (AN n)
noncomputable def CQ (p0 : Int × Int × (Int × Int × Int × Int)) (p1 : Tr31) : Option Bool := GN fun n => AN n p0 p1
theorem E1 (fRec : (Int × Int × (Int × Int × Int × Int)) → Tr31 → Option Bool) (ih : ∀ (Y : Nat → Prop) (w0 : World) (v1 : Value) (p0 : Int × Int × (Int × Int × Int × Int)) (p1 : Tr31) (r : Bool) (H : fRec p0 p1 = some r) (h_v1 : Sl w0 (NX []) B4 v1 p1.un.2.2.2), Calls Tryd.prog 34 #[.agg #[.int .i64 p0.1, .int .i64 p0.2.1, .int .i64 p0.2.2.1, .int .i64 p0.2.2.2.1, .int .i64 p0.2.2.2.2.1, .int .i64 p0.2.2.2.2.2], .agg #[.int .i64 p1.un.1, .int .i64 p1.un.2.1, .int .i64 p1.un.2.2.1, v1]] w0 fun e w' => e = .returned (.bool r) ∧ Below w0.heap.size w0 w') (Y : Nat → Prop) (w0 : World) (v1 : Value) (p0 : Int × Int × (Int × Int × Int × Int)) (p1 : Tr31) (r : Bool) (H : Ba fRec p0 p1 = some r) (h_v1 : Sl w0 (NX []) B4 v1 p1.un.2.2.2) :
    Calls Tryd.prog 34 #[.agg #[.int .i64 p0.1, .int .i64 p0.2.1, .int .i64 p0.2.2.1, .int .i64 p0.2.2.2.1, .int .i64 p0.2.2.2.2.1, .int .i64 p0.2.2.2.2.2], .agg #[.int .i64 p1.un.1, .int .i64 p1.un.2.1, .int .i64 p1.un.2.2.1, v1]] w0 fun e w' => e = .returned (.bool r) ∧ Below w0.heap.size w0 w' := by
 refine enter Tryd.func34 Aa Tryd.ntmps34 Aa fun a F => ?_
 have W := Stw.start Y w0
 obtain ⟨v2, h1, h_v1⟩ := h_v1.ex CA
 unfold Ba at H
 refine Ag (Ab ?_)
 refine Do (cs := [.int .i64 p0.1, .int .i64 p0.2.1, .int .i64 p0.2.2.1, .int .i64 p0.2.2.2.1, .int .i64 p0.2.2.2.2.1, .int .i64 p0.2.2.2.2.2]) F W Aa Aa Aa fun b1 a w F W => ?_
 refine Do (cs := [.int .i64 p1.un.1, .int .i64 p1.un.2.1, .int .i64 p1.un.2.2.1, v1]) F W Aa Aa Aa fun b2 a w F W => ?_
 refine ls F W Aa (Ad F Aa).q fun a w F W => ?_
 refine Ae (Ac (Ag (Ag (Ab ?_))))
 refine ls F W Aa (Al CJ Aa Aa Aa T3 F Aa 0 Aa).q fun a w F W => ?_
 refine ls F W Aa (As (v := Value.int .i64 p1.un.1) 0 F Aa Aa T3 Aa).q fun a w F W => ?_
 refine Ae (Ac (Ap (Ag (Ab ?_))))
 refine ls F W Aa (BU F Aa Aa).q fun a w F W => ?_
 refine ls F W Aa (Ad F Aa).q fun a w F W => ?_
 refine Ae (Ac ?_)
 refine Ao F Aa (fun hb => ?_) fun hb => ?_
 ·
  have H := A5 (Bv hb) H
  rw [hb] at F
  clear hb
  refine Ag (Ab ?_)
  refine ls F W Aa (Ad F Aa).q fun a w F W => ?_
  refine Ae (Ac (Aw (A0 (A4 ?_))))
  have H := AV H
  subst H
  refine A2 (.inl Aa) F W Aa (AB F Aa) ?_
  exact ⟨rfl, W.done⟩
 have H := A3 (Bx hb) H
 rw [hb] at F
 clear hb
 refine Ag (Ab ?_)
 refine ls F W Aa (BU F Aa Aa).q fun a w F W => ?_
 refine ls F W Aa (Ad F Aa).q fun a w F W => ?_
 refine Ae (Ac ?_)
 refine Ao F Aa (fun hb => ?_) fun hb => ?_
 ·
  have H := A5 (Bv hb) H
  rw [hb] at F
  clear hb
  obtain ⟨o1, G1, K1⟩ := Aj H
  refine AW (fun a w => ∃ x1 : Bool, some (x1) = some o1 ∧ Fr 57 [] [(4, .bool x1)] a ∧ Stw ⟨Y, [], w0⟩ [(b2, [.int .i64 p1.un.1, .int .i64 p1.un.2.1, .int .i64 p1.un.2.2.1, v1]), (b1, [.int .i64 p0.1, .int .i64 p0.2.1, .int .i64 p0.2.2.1, .int .i64 p0.2.2.2.1, .int .i64 p0.2.2.2.2.1, .int .i64 p0.2.2.2.2.2])] [] w) ?_ ?_
  ·
   have H := G1
   clear G1 K1
   refine Cb W MO (by kernel_rfl) ?_
   refine qs F Aa (Al CJ Aa Aa Aa T3 F Aa 1 Aa).q fun a F => ?_
   refine qs F Aa (As (v := Value.int .i64 p1.un.2.1) 0 F Aa Aa T3 Aa).q fun a F => ?_
   refine qs F Aa (Be (v := Value.bool (Cn p1.un.2.1)) F NV Aa (fun w W => FQ any w p1.un.2.1 _ Aa)) fun a F => ?_
   refine qs F Aa (Af F Aa).q fun a F => ?_
   rcases Bool.eq_false_or_eq_true (Cn p1.un.2.1) with hb | hb
   ·
    have H := A5 hb H
    rw [hb] at F
    clear hb
    refine Bj F (Ah F Aa Aa Aa Aa) Aa (An Aa) (Al CJ Aa Aa Aa T3 F Aa 1 Aa).q fun a F => ?_
    refine Bj F (Ah F Aa Aa Aa Aa) Aa (An Aa) (As (v := Value.int .i64 p1.un.2.1) 0 F Aa Aa T3 Aa).q fun a F => ?_
    refine Bj F (Ah F Aa Aa Aa Aa) Aa (An Aa) (Al MC Aa Aa Aa T3 F Aa 0 Aa).q fun a F => ?_
    refine Bj F (Ah F Aa Aa Aa Aa) Aa (An Aa) (As (v := Value.int .i64 p0.1) 1 F Aa Aa T3 Aa).q fun a F => ?_
    refine Bj F (Ah F Aa Aa Aa Aa) Aa (An Aa) (Al MC Aa Aa Aa T3 F Aa 1 Aa).q fun a F => ?_
    refine Bj F (Ah F Aa Aa Aa Aa) Aa (An Aa) (As (v := Value.int .i64 p0.2.1) 1 F Aa Aa T3 Aa).q fun a F => ?_
    refine Bj F (Ah F Aa Aa Aa Aa) Aa (An Aa) (Al MC Aa Aa Aa Mk F Aa 2 Aa).q fun a F => ?_
    refine Bj F (Ah F Aa Aa Aa Aa) Aa (An Aa) (As (v := Value.agg #[.int .i64 p0.2.2.1, .int .i64 p0.2.2.2.1, .int .i64 p0.2.2.2.2.1, .int .i64 p0.2.2.2.2.2]) 1 F Aa Aa Mk Aa).q fun a F => ?_
    obtain ⟨x2, h2, H⟩ := Aj H
    refine Bj F (Ah F Aa Aa Aa Aa) Aa (An Aa) (Be (v := Value.int .i64 x2) F OD Aa (fun w W => KB any w p1.un.2.1 p0.1 p0.2.1 p0.2.2 _ h2)) fun a F => ?_
    refine Bj F (Ah F Aa Aa Aa Aa) Aa (An Aa) (Al CJ Aa Aa Aa T3 F Aa 2 Aa).q fun a F => ?_
    refine Bj F (Ah F Aa Aa Aa Aa) Aa (An Aa) (As (v := Value.int .i64 p1.un.2.2.1) 0 F Aa Aa T3 Aa).q fun a F => ?_
    refine Bj F (Ah F Aa Aa Aa Aa) Aa (An Aa) (BU F Aa Aa).q fun a F => ?_
    refine qs F Aa (Bc F Aa Aa Aa).q fun a F => ?_
    refine qs F Aa (Ad F Aa).q fun a F => ?_
    refine AX fun w W => ?_
    refine Ac ?_
    have W := W.frontM (i := 1) Aa Aa
    have W := W.frontM (i := 1) Aa Aa
    exact ⟨_, H, F.re ⟨rfl, trivial⟩, W⟩
   have H := A3 (by rw [hb]; decide) H
   rw [hb] at F
   clear hb
   iterate 12 refine CS F (Cu F Aa Aa Aa Aa Aa) Aa Aa fun a F => ?_
   refine qs F Aa (AU F Aa Aa Aa).q fun a F => ?_
   refine qs F Aa (Ad F Aa).q fun a F => ?_
   refine AX fun w W => ?_
   refine Ac ?_
   have W := W.frontM (i := 1) Aa Aa
   have W := W.frontM (i := 1) Aa Aa
   exact ⟨_, H, F.re ⟨rfl, trivial⟩, W⟩
  rintro a w ⟨x1, hj, F, W⟩
  have hj := AV hj
  subst hj
  have H := K1
  clear G1 K1
  refine Aw (A0 (A4 ?_))
  have H := AV H
  subst H
  refine A2 (.inl Aa) F W Aa (AB F Aa) ?_
  exact ⟨rfl, W.done⟩
 have H := A3 (Bx hb) H
 rw [hb] at F
 clear hb
 refine Ag (Ab ?_)
 refine ls F W Aa (BU F Aa Aa).q fun a w F W => ?_
 refine ls F W Aa (Ad F Aa).q fun a w F W => ?_
 refine Ae (Ac ?_)
 refine Ao F Aa (fun hb => ?_) fun hb => ?_
 ·
  have H := A5 (Bv hb) H
  rw [hb] at F
  clear hb
  obtain ⟨o2, G2, K2⟩ := Aj H
  refine AW (fun a w => ∃ x3 : Bool, some (x3) = some o2 ∧ Fr 57 [] [(4, .bool x3)] a ∧ Stw ⟨Y, [], w0⟩ [(b2, [.int .i64 p1.un.1, .int .i64 p1.un.2.1, .int .i64 p1.un.2.2.1, v1]), (b1, [.int .i64 p0.1, .int .i64 p0.2.1, .int .i64 p0.2.2.1, .int .i64 p0.2.2.2.1, .int .i64 p0.2.2.2.2.1, .int .i64 p0.2.2.2.2.2])] [] w) ?_ ?_
  ·
   have H := G2
   clear G2 K2
   refine Cb W MO (by kernel_rfl) ?_
   refine qs F Aa (Al CJ Aa Aa Aa ET F Aa 3 Aa).q fun a F => ?_
   refine qs F Aa (As (v := v1) 0 F Aa Aa ET Aa).q fun a F => ?_
   refine qs F Aa (DU (r := B4) (l := p1.un.2.2.2) GC Aa F Aa (Bn CA h1 (AQ h_v1))).q fun a F => ?_
   refine qs F Aa (Hw F Aa Aa).q fun a F => ?_
   refine qs F Aa (Af F Aa).q fun a F => ?_
   rcases Bool.eq_false_or_eq_true (decide (0 < (p1.un.2.2.2.length : Int))) with hb | hb
   ·
    have H := A5 (Bv hb) H
    rw [hb] at F
    clear hb
    refine Bj F (Ah F Aa Aa Aa Aa) Aa (An Aa) (As (v := Value.agg #[.int .i64 p0.1, .int .i64 p0.2.1, .int .i64 p0.2.2.1, .int .i64 p0.2.2.2.1, .int .i64 p0.2.2.2.2.1, .int .i64 p0.2.2.2.2.2]) 1 F Aa Aa NO Aa).q fun a F => ?_
    refine Bj F (Ah F Aa Aa Aa Aa) Aa (An Aa) (Al CJ Aa Aa Aa ET F Aa 3 Aa).q fun a F => ?_
    refine Bj F (Ah F Aa Aa Aa Aa) Aa (An Aa) (As (v := v1) 0 F Aa Aa ET Aa).q fun a F => ?_
    obtain ⟨x4, h3, H⟩ := Aj H
    obtain ⟨v3, h4, h5⟩ := FV h1 h3
    have h6 : Fp v3 = [.int .i64 x4.un.1, .int .i64 x4.un.2.1, .int .i64 x4.un.2.2.1, (v3.2.2.2.1)] := congrArg (fun q : Tr31 => ([.int .i64 q.un.1, .int .i64 q.un.2.1, .int .i64 q.un.2.2.1, (v3.2.2.2.1)] : List Value)) h5
    refine Bj F (Ah F Aa Aa Aa Aa) Aa (An Aa) (Ay (r := FZ) Ji F Aa Aa (AQ h_v1) h4).q fun a F => ?_
    refine Bj F (Ah F Aa Aa Aa Aa) Aa (An Aa) (Am (y := Value.agg #[.int .i64 x4.un.1, .int .i64 x4.un.2.1, .int .i64 x4.un.2.2.1, (v3.2.2.2.1)]) (j := 0) (i := 0) (enc := Fp) F Aa Aa (AQ h_v1) h4 IU D7 (by rw [h6]; rfl)).q fun a F => ?_
    obtain ⟨x5, h7, H⟩ := Aj H
    refine Bj F (Ah F Aa Aa Aa Aa) Aa (An Aa) (Be (v := Value.bool x5) F Ou Aa (fun w W => (EB fRec ih) any w ((v3.2.2.2.1)) p0 x4 _ h7 (((DV (AQ h_v1) h4 (Cg.snd (Cg.snd (Cg.snd Cg.here))) (congrArg (fun q : Tr31 => q.un.2.2.2) h5)) : FB _ _ _ _ _ _) w W).nx)) fun a F => ?_
    refine qs F Aa (Bc F Aa Aa Aa).q fun a F => ?_
    refine qs F Aa (Ad F Aa).q fun a F => ?_
    refine AX fun w W => ?_
    refine Ac ?_
    have W := W.frontM (i := 1) Aa Aa
    have W := W.frontM (i := 1) Aa Aa
    exact ⟨_, H, F.re ⟨rfl, trivial⟩, W⟩
   have H := A3 (Bx hb) H
   rw [hb] at F
   clear hb
   iterate 6 refine CS F (Cu F Aa Aa Aa Aa Aa) Aa Aa fun a F => ?_
   refine qs F Aa (AU F Aa Aa Aa).q fun a F => ?_
   refine qs F Aa (Ad F Aa).q fun a F => ?_
   refine AX fun w W => ?_
   refine Ac ?_
   have W := W.frontM (i := 1) Aa Aa
   have W := W.frontM (i := 1) Aa Aa
   exact ⟨_, H, F.re ⟨rfl, trivial⟩, W⟩
  rintro a w ⟨x3, hj, F, W⟩
  have hj := AV hj
  subst hj
  have H := K2
  clear G2 K2
  refine Aw (A0 (A4 ?_))
  have H := AV H
  subst H
  refine A2 (.inl Aa) F W Aa (AB F Aa) ?_
  exact ⟨rfl, W.done⟩
 have H := A3 (Bx hb) H
 rw [hb] at F
 clear hb
 refine Ag (Ab ?_)
 refine ls F W Aa (BU F Aa Aa).q fun a w F W => ?_
 refine ls F W Aa (Ad F Aa).q fun a w F W => ?_
 refine Ae (Ac ?_)
 refine Ao F Aa (fun hb => ?_) fun hb => ?_
 ·
  have H := A5 (Bv hb) H
  rw [hb] at F
  clear hb
  refine Ag (Ab ?_)
  refine ls F W Aa (Al CJ Aa Aa Aa ET F Aa 3 Aa).q fun a w F W => ?_
  refine ls F W Aa (As (v := v1) 0 F Aa Aa ET Aa).q fun a w F W => ?_
  refine ls F W Aa (As (v := Value.agg #[.int .i64 p0.1, .int .i64 p0.2.1, .int .i64 p0.2.2.1, .int .i64 p0.2.2.2.1, .int .i64 p0.2.2.2.2.1, .int .i64 p0.2.2.2.2.2]) 1 F Aa Aa NO Aa).q fun a w F W => ?_
  refine ls F W Aa (H9 (us := [.agg #[.int .i64 p0.1, .int .i64 p0.2.1, .int .i64 p0.2.2.1, .int .i64 p0.2.2.2.1, .int .i64 p0.2.2.2.2.1, .int .i64 p0.2.2.2.2.2]]) (vs := []) F Aa Aa).q fun a w F W => ?_
  obtain ⟨x6, h8, H⟩ := Aj H
  refine ls F W Aa (Be (v := Value.bool x6) F Oo Aa (fun w W => (Dv fRec ih) any w (v1) p1.un.2.2.2 p0 _ h8 (((Bn CA h1 (AQ h_v1)) : FB _ _ _ _ _ _) w W).nx)) fun a w F W => ?_
  refine ls F W Aa (Eh F Aa).q fun a w F W => ?_
  refine ls F W Aa (Ad F Aa).q fun a w F W => ?_
  refine Ae (Ac (Aw (A0 (A4 ?_))))
  have H := AV H
  subst H
  refine A2 (.inl Aa) F W Aa (AB F Aa) ?_
  exact ⟨rfl, W.done⟩
 have H := A3 (Bx hb) H
 rw [hb] at F
 clear hb
 refine Ag (Ab ?_)
 refine ls F W Aa (BU F Aa Aa).q fun a w F W => ?_
 refine ls F W Aa (Ad F Aa).q fun a w F W => ?_
 refine Ae (Ac ?_)
 refine Ao F Aa (fun hb => ?_) fun hb => ?_
 ·
  have H := A5 (Bv hb) H
  rw [hb] at F
  clear hb
  refine Ag (Ab ?_)
  refine ls F W Aa (Al CJ Aa Aa Aa ET F Aa 3 Aa).q fun a w F W => ?_
  refine ls F W Aa (As (v := v1) 0 F Aa Aa ET Aa).q fun a w F W => ?_
  refine ls F W Aa (As (v := Value.agg #[.int .i64 p0.1, .int .i64 p0.2.1, .int .i64 p0.2.2.1, .int .i64 p0.2.2.2.1, .int .i64 p0.2.2.2.2.1, .int .i64 p0.2.2.2.2.2]) 1 F Aa Aa NO Aa).q fun a w F W => ?_
  refine ls F W Aa (H9 (us := [.agg #[.int .i64 p0.1, .int .i64 p0.2.1, .int .i64 p0.2.2.1, .int .i64 p0.2.2.2.1, .int .i64 p0.2.2.2.2.1, .int .i64 p0.2.2.2.2.2]]) (vs := []) F Aa Aa).q fun a w F W => ?_
  obtain ⟨x7, h9, H⟩ := Aj H
  refine ls F W Aa (Be (v := Value.bool x7) F Oo Aa (fun w W => (Di fRec ih) any w (v1) p1.un.2.2.2 p0 _ h9 (((Bn CA h1 (AQ h_v1)) : FB _ _ _ _ _ _) w W).nx)) fun a w F W => ?_
  refine ls F W Aa (Ad F Aa).q fun a w F W => ?_
  refine Ae (Ac (Aw (A0 (A4 ?_))))
  have H := AV H
  subst H
  refine A2 (.inl Aa) F W Aa (AB F Aa) ?_
  exact ⟨rfl, W.done⟩
 have H := A3 (Bx hb) H
 rw [hb] at F
 clear hb
 refine Au (A6 (Ac (Ag (Ab ?_))))
 refine ls F W Aa (Ad F Aa).q fun a w F W => ?_
 refine Ae (Ac (Aw ?_))
 have H := AV H
 subst H
 refine A2 (.inl Aa) F W Aa (AB F Aa) ?_
 exact ⟨rfl, W.done⟩
theorem E8 : ∀ (n : Nat) (Y : Nat → Prop) (w0 : World) (v1 : Value) (p0 : Int × Int × (Int × Int × Int × Int)) (p1 : Tr31) (r : Bool) (H : AN n p0 p1 = some r) (h_v1 : Sl w0 (NX []) B4 v1 p1.un.2.2.2), Calls Tryd.prog 34 #[.agg #[.int .i64 p0.1, .int .i64 p0.2.1, .int .i64 p0.2.2.1, .int .i64 p0.2.2.2.1, .int .i64 p0.2.2.2.2.1, .int .i64 p0.2.2.2.2.2], .agg #[.int .i64 p1.un.1, .int .i64 p1.un.2.1, .int .i64 p1.un.2.2.1, v1]] w0 fun e w' => e = .returned (.bool r) ∧ Below w0.heap.size w0 w' := by
  intro n
  induction n with
  | zero => intro Y w0 v1 p0 p1 r H; exact nomatch H
  | succ n ih => intro Y w0 v1 p0 p1 r H h_v1; exact E1 (AN n) ih Y w0 v1 p0 p1 r H h_v1
theorem Fv (Y : Nat → Prop) (w0 : World) (v1 : Value) (p0 : Int × Int × (Int × Int × Int × Int)) (p1 : Tr31) (r : Bool) (H : CQ p0 p1 = some r) (h_v1 : Sl w0 (NX []) B4 v1 p1.un.2.2.2) :
    Calls Tryd.prog 34 #[.agg #[.int .i64 p0.1, .int .i64 p0.2.1, .int .i64 p0.2.2.1, .int .i64 p0.2.2.2.1, .int .i64 p0.2.2.2.2.1, .int .i64 p0.2.2.2.2.2], .agg #[.int .i64 p1.un.1, .int .i64 p1.un.2.1, .int .i64 p1.un.2.2.1, v1]] w0 fun e w' => e = .returned (.bool r) ∧ Below w0.heap.size w0 w' := by
  obtain ⟨n, H⟩ := DC H
  exact E8 n Y w0 v1 p0 p1 r H h_v1
noncomputable def Dz (p0 : Tr31) (p1 : Int) (p2 : Int) (p3 : Int × Int × Int × Int) : Option Bool := (CQ (p1, p2, p3) p0).bind fun x1 => some x1
theorem Fd (Y : Nat → Prop) (w0 : World) (v1 : Value) (p0 : Tr31) (p1 : Int) (p2 : Int) (p3 : Int × Int × Int × Int) (r : Bool) (H : Dz p0 p1 p2 p3 = some r) (h_v1 : Sl w0 (NX []) B4 v1 p0.un.2.2.2) :
    Calls Tryd.prog 16 #[.agg #[.int .i64 p0.un.1, .int .i64 p0.un.2.1, .int .i64 p0.un.2.2.1, v1], .int .i64 p1, .int .i64 p2, .agg #[.int .i64 p3.1, .int .i64 p3.2.1, .int .i64 p3.2.2.1, .int .i64 p3.2.2.2]] w0 fun e w' => e = .returned (.bool r) ∧ Below w0.heap.size w0 w' := by
 refine enter Tryd.func16 Aa Tryd.ntmps16 Aa fun a F => ?_
 have W := Stw.start Y w0
 obtain ⟨v2, h1, h_v1⟩ := h_v1.ex CA
 unfold Dz at H
 refine Ag (Ab ?_)
 refine Do (cs := [.int .i64 p0.un.1, .int .i64 p0.un.2.1, .int .i64 p0.un.2.2.1, v1]) F W Aa Aa Aa fun b1 a w F W => ?_
 refine Do (cs := [.int .i64 p3.1, .int .i64 p3.2.1, .int .i64 p3.2.2.1, .int .i64 p3.2.2.2]) F W Aa Aa Aa fun b2 a w F W => ?_
 refine ls F W Aa (Ad F Aa).q fun a w F W => ?_
 refine Ae (Ac (Ag (Ab ?_)))
 iterate 2 refine ls F W Aa (Af F Aa).q fun a w F W => ?_
 refine ls F W Aa (As (v := Value.agg #[.int .i64 p3.1, .int .i64 p3.2.1, .int .i64 p3.2.2.1, .int .i64 p3.2.2.2]) 0 F Aa Aa Mk Aa).q fun a w F W => ?_
 refine ls F W Aa (D0 (v := Value.agg #[.int .i64 p1, .int .i64 p2, .int .i64 p3.1, .int .i64 p3.2.1, .int .i64 p3.2.2.1, .int .i64 p3.2.2.2]) OE F Aa Aa Aa).q fun a w F W => ?_
 refine ls F W Aa (As (v := Value.agg #[.int .i64 p0.un.1, .int .i64 p0.un.2.1, .int .i64 p0.un.2.2.1, v1]) 1 F Aa Aa D7 Aa).q fun a w F W => ?_
 obtain ⟨x1, h2, H⟩ := Aj H
 refine ls F W Aa (Be (v := Value.bool x1) F NS Aa (fun w W => Fv any w (v1) (p1, p2, p3) p0 _ h2 (((Bn CA h1 (AQ h_v1)) : FB _ _ _ _ _ _) w W).nx)) fun a w F W => ?_
 refine ls F W Aa (Ad F Aa).q fun a w F W => ?_
 refine Ae (Ac (Aw ?_))
 have H := AV H
 subst H
 refine A2 (.inl Aa) F W Aa (AB F Aa) ?_
 exact ⟨rfl, W.done⟩
theorem Mz : type_of% Tryd.underlying55 := Tryd.underlying55
theorem NM : Has Tryd.prog 16 := ⟨fun args w => Ak Tryd.func16 rfl (by decide) args w⟩
theorem OV : Bt Tryd.prog 55 [.int .i64 0] [(0, 1)] := ⟨⟨.agg #[.int .i64 0], by kernel_rfl, rfl⟩, ⟨_, Mz, fun w => by kernel_rfl⟩⟩
theorem O2 : (Tryd.prog.info? 55).bind (·.zero) = some (.agg #[.int .i64 0]) := by kernel_rfl
theorem OM : Ty Tryd.prog 55 true 1 := ⟨by kernel_rfl, by kernel_rfl⟩
noncomputable def EE (p0 : Int) : Option Int := (if p0 = 0 then some true else (if p0 = 1 then some true else some (decide (p0 = 3)))).bind fun x1 => (if x1 = true then some 8 else (if p0 = 2 then some 4 else some 0))
theorem I1 (Y : Nat → Prop) (w0 : World)  (p0 : Int) (r : Int) (H : EE p0 = some r)  :
    Calls Tryd.prog 53 #[.int .i64 p0] w0 fun e w' => e = .returned (.int .i64 r) ∧ Below w0.heap.size w0 w' := by
 refine enter Tryd.func53 Aa Tryd.ntmps53 Aa fun a F => ?_
 have W := Stw.start Y w0
 unfold EE at H
 refine Ag (Ab ?_)
 refine ls F W Aa (Ad F Aa).q fun a w F W => ?_
 refine Ae (Ac (Ag (Ag (Ab ?_))))
 refine ls F W Aa (Af F Aa).q fun a w F W => ?_
 refine Ae (Ac (Ap ?_))
 obtain ⟨o1, G1, K1⟩ := Aj H
 refine AW (fun a w => ∃ x1 : Bool, some (x1) = some o1 ∧ Fr 10 [] [(2, .int .i64 0), (3, .int .i64 p0), (4, .bool x1)] a ∧ Stw ⟨Y, [], w0⟩ [] [] w) ?_ ?_
 ·
  have H := G1
  clear G1 K1
  refine Ag (Ab ?_)
  refine ls F W Aa (BU F Aa Aa).q fun a w F W => ?_
  refine ls F W Aa (Ad F Aa).q fun a w F W => ?_
  refine Ae (Ac ?_)
  refine Ao F Aa (fun hb => ?_) fun hb => ?_
  ·
   have H := A5 (Bv hb) H
   rw [hb] at F
   clear hb
   refine Au (Ac ?_)
   exact ⟨_, H, F.re ⟨rfl, Aa, Aa, trivial⟩, W⟩
  have H := A3 (Bx hb) H
  rw [hb] at F
  clear hb
  refine Ag (Ab ?_)
  refine ls F W Aa (BU F Aa Aa).q fun a w F W => ?_
  refine ls F W Aa (Ad F Aa).q fun a w F W => ?_
  refine Ae (Ac ?_)
  refine Ao F Aa (fun hb => ?_) fun hb => ?_
  ·
   have H := A5 (Bv hb) H
   rw [hb] at F
   clear hb
   refine Au (Ac ?_)
   exact ⟨_, H, F.re ⟨rfl, Aa, Aa, trivial⟩, W⟩
  have H := A3 (Bx hb) H
  rw [hb] at F
  clear hb
  refine Ab ?_
  refine ls F W Aa (BU F Aa Aa).q fun a w F W => ?_
  refine ls F W Aa (Ad F Aa).q fun a w F W => ?_
  refine Ae (Ac ?_)
  exact ⟨_, H, F.re ⟨rfl, Aa, Aa, trivial⟩, W⟩
 rintro a w ⟨x1, hj, F, W⟩
 have hj := AV hj
 subst hj
 have H := K1
 clear G1 K1
 refine Ao F Aa (fun hb => ?_) fun hb => ?_
 ·
  have H := A5 hb H
  rw [hb] at F
  clear hb
  refine Ag (Ab ?_)
  refine ls F W Aa (Ad F Aa).q fun a w F W => ?_
  refine Ae (Ac (Aw (A0 (A4 ?_))))
  have H := AV H
  subst H
  refine A2 (.inl Aa) F W Aa (AB F Aa) ?_
  exact ⟨rfl, W.done⟩
 have H := A3 (by rw [hb]; decide) H
 rw [hb] at F
 clear hb
 refine Ag (Ab ?_)
 refine ls F W Aa (BU F Aa Aa).q fun a w F W => ?_
 refine ls F W Aa (Ad F Aa).q fun a w F W => ?_
 refine Ae (Ac ?_)
 refine Ao F Aa (fun hb => ?_) fun hb => ?_
 ·
  have H := A5 (Bv hb) H
  rw [hb] at F
  clear hb
  refine Ag (Ab ?_)
  refine ls F W Aa (Ad F Aa).q fun a w F W => ?_
  refine Ae (Ac (Aw (A0 (A4 ?_))))
  have H := AV H
  subst H
  refine A2 (.inl Aa) F W Aa (AB F Aa) ?_
  exact ⟨rfl, W.done⟩
 have H := A3 (Bx hb) H
 rw [hb] at F
 clear hb
 refine Au (A6 (Ac (Ag (Ab ?_))))
 refine ls F W Aa (Ad F Aa).q fun a w F W => ?_
 refine Ae (Ac (Aw ?_))
 have H := AV H
 subst H
 refine A2 (.inl Aa) F W Aa (AB F Aa) ?_
 exact ⟨rfl, W.done⟩
theorem OZ : Has Tryd.prog 53 := ⟨fun args w => Ak Tryd.func53 rfl (by decide) args w⟩
noncomputable def E2 (p0 : Int) : Option Int := (EE p0).bind fun x1 => (Nk (CV .i64 1 x1) x1).bind fun x2 => some (AJ (x2 - 1))
theorem Jn (Y : Nat → Prop) (w0 : World)  (p0 : Int) (r : Int) (H : E2 p0 = some r)  :
    Calls Tryd.prog 35 #[.int .i64 p0] w0 fun e w' => e = .returned (.int .i64 r) ∧ Below w0.heap.size w0 w' := by
 refine enter Tryd.func35 Aa Tryd.ntmps35 Aa fun a F => ?_
 have W := Stw.start Y w0
 unfold E2 at H
 refine Ag (Ab ?_)
 refine ls F W Aa (Ad F Aa).q fun a w F W => ?_
 refine Ae (Ac (Ag (Ab ?_)))
 refine ls F W Aa (Af F Aa).q fun a w F W => ?_
 obtain ⟨x1, h1, H⟩ := Aj H
 refine ls F W Aa (Be (v := Value.int .i64 x1) F OZ Aa (fun w W => I1 any w p0 _ h1)) fun a w F W => ?_
 obtain ⟨x2, h2, H⟩ := Aj H
 refine ls F W Aa (MV (GY h2).2 (KX F Aa Aa (GY h2).1)).q fun a w F W => ?_
 refine ls F W Aa (Cd F Aa Aa Aa).q fun a w F W => ?_
 refine ls F W Aa (Ad F Aa).q fun a w F W => ?_
 refine Ae (Ac (Aw ?_))
 have H := AV H
 subst H
 refine A2 (.inl Aa) F W Aa (AB F Aa) ?_
 exact ⟨rfl, W.done⟩
theorem OI : Has Tryd.prog 35 := ⟨fun args w => Ak Tryd.func35 rfl (by decide) args w⟩
noncomputable def Gq (p0 : Int) : Option Int := (if (decide (p0 = 4) || decide (p0 = 5)) = true then some 7 else (E2 p0).bind fun x1 => some x1)
theorem KF (Y : Nat → Prop) (w0 : World)  (p0 : Int) (r : Int) (H : Gq p0 = some r)  :
    Calls Tryd.prog 18 #[.int .i64 p0] w0 fun e w' => e = .returned (.int .i64 r) ∧ Below w0.heap.size w0 w' := by
 refine enter Tryd.func18 Aa Tryd.ntmps18 Aa fun a F => ?_
 have W := Stw.start Y w0
 unfold Gq at H
 refine Ag (Ab ?_)
 refine ls F W Aa (Ad F Aa).q fun a w F W => ?_
 refine Ae (Ac (Ag ?_))
 refine AW (fun a w => Fr 11 [] [(0, .int .i64 p0), (2, .int .i64 0), (8, .bool (decide (p0 = 4) || decide (p0 = 5)))] a ∧ Stw ⟨Y, [], w0⟩ [] [] w) ?_ ?_
 ·
  refine Ab ?_
  refine ls F W Aa (Af F Aa).q fun a w F W => ?_
  refine ls F W Aa (BU F Aa Aa).q fun a w F W => ?_
  refine ls F W Aa (Af F Aa).q fun a w F W => ?_
  rcases Bool.eq_false_or_eq_true (decide (p0 = 4)) with hb0 | hb0
  ·
   rw [hb0] at F
   iterate 2 refine GD F Aa Aa Aa Aa Aa Aa Aa fun a F => ?_
   refine ls F W Aa (Bc F Aa Aa Aa).q fun a w F W => ?_
   refine Ae (Ac ?_)
   exact ⟨F.re ⟨rfl, Aa, (by show some (Value.bool true) = some (Value.bool (decide (p0 = 4) || decide (p0 = 5))); try rw [hb0]; all_goals simp only [Bool.not_true, Bool.not_false, Bool.true_and, Bool.false_and, Bool.true_or, Bool.false_or, Bool.and_true, Bool.or_false, cond_true, cond_false]), trivial⟩, W⟩
  rw [hb0] at F
  refine Cm F W (Ah F Aa Aa Aa Aa) Aa (An Aa) (Af F Aa).q fun a w F W => ?_
  refine Cm F W (Ah F Aa Aa Aa Aa) Aa (An Aa) (BU F Aa Aa).q fun a w F W => ?_
  refine ls F W Aa (AU F Aa Aa Aa).q fun a w F W => ?_
  refine Ae (Ac ?_)
  exact ⟨F.re ⟨rfl, Aa, (by show some (Value.bool (decide (p0 = 5))) = some (Value.bool (decide (p0 = 4) || decide (p0 = 5))); try rw [hb0]; all_goals simp only [Bool.not_true, Bool.not_false, Bool.true_and, Bool.false_and, Bool.true_or, Bool.false_or, Bool.and_true, Bool.or_false, cond_true, cond_false]), trivial⟩, W⟩
 rintro a w ⟨F, W⟩
 refine Ao F Aa (fun hb => ?_) fun hb => ?_
 ·
  have H := A5 hb H
  rw [hb] at F
  clear hb
  refine Ag (Ab ?_)
  refine ls F W Aa (Ad F Aa).q fun a w F W => ?_
  refine Ae (Ac (Aw (A4 ?_)))
  have H := AV H
  subst H
  refine A2 (.inl Aa) F W Aa (AB F Aa) ?_
  exact ⟨rfl, W.done⟩
 have H := A3 (by rw [hb]; decide) H
 rw [hb] at F
 clear hb
 refine Au (Ac (Ag (Ab ?_)))
 refine ls F W Aa (Af F Aa).q fun a w F W => ?_
 obtain ⟨x1, h1, H⟩ := Aj H
 refine ls F W Aa (Be (v := Value.int .i64 x1) F OI Aa (fun w W => Jn any w p0 _ h1)) fun a w F W => ?_
 refine ls F W Aa (Ad F Aa).q fun a w F W => ?_
 refine Ae (Ac (Aw ?_))
 have H := AV H
 subst H
 refine A2 (.inl Aa) F W Aa (AB F Aa) ?_
 exact ⟨rfl, W.done⟩
end Go.Proofs.YtepfcpffbabgmaaDoor
