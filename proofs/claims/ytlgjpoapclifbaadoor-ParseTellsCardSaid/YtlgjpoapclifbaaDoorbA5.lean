/- The functions of layer 29, EO. Conditions: none. -/
import Derived.Test.YtlgjpoapclifbaaDoorbA4
namespace Go.Proofs.YtlgjpoapclifbaaDoor
open Go Go.RowKit
set_option linter.unusedVariables false
set_option linter.unusedSimpArgs false
set_option maxRecDepth 20000
theorem Sa : Has Tryd.prog 109 := ⟨fun args w => Al Tryd.func109 rfl (by decide) args w⟩
abbrev EZ (a0 : Tr34 × Int × Bool) (a1 : Value) : List Value := [.int .i64 a0.1.un.1, .int .i64 a0.1.un.2.1, .int .i64 a0.1.un.2.2.1, a1]
abbrev Hc (a0 : Nat) (a1 : Tr34 × Int × Bool) (a2 : Value) (a3 : Nat) : List (Nat × List Value) := [(a0, [.int .i64 a1.1.un.1, .int .i64 a1.1.un.2.1, .int .i64 a1.1.un.2.2.1, a2]), (a3, [.int .i64 0, .int .i64 0, .int .i64 0, .slice none 0 0])]
abbrev P1 (a0 : Nat) (a1 : Tr34 × Int × Bool) (a2 : Value) (a3 : Nat) : List (Nat × List Value) := [(a0, [.int .i64 a1.1.un.1, .int .i64 a1.1.un.2.1, .int .i64 a1.1.un.2.2.1, a2]), (a3, [.int .i64 a1.1.un.1, .int .i64 a1.1.un.2.1, .int .i64 a1.1.un.2.2.1, a2])]
noncomputable def DR (fRec_r29_cond : (List (Int × Int × List UInt8 × Int)) → Int → Option (Tr34 × Int × Bool)) (fRec : (List (Int × Int × List UInt8 × Int)) → Int → Option (Tr34 × Int × Bool)) (p0 : List (Int × Int × List UInt8 × Int)) (p1 : Int) : Option (Tr34 × Int × Bool) := (CJ p0 p1 ([116, 114, 117, 101] : List UInt8)).bind fun x1 => (if x1 = true then some (Tr34.of (1, 0, 0, ([] : List Tr34)), Co (p1 + 1), true) else (CJ p0 p1 ([102, 97, 108, 115, 101] : List UInt8)).bind fun x2 => (if x2 = true then some (Tr34.of (2, 0, 0, ([] : List Tr34)), Co (p1 + 1), true) else (CJ p0 p1 ([110, 111, 116] : List UInt8)).bind fun x3 => (if x3 = true then (fRec p0 (Co (p1 + 1))).bind fun x4 => some (Tr34.of (4, 0, 0, ([x4.1] : List Tr34)), x4.2.1, x4.2.2) else (CJ p0 p1 ([40] : List UInt8)).bind fun x5 => (if x5 = true then (fRec_r29_cond p0 (Co (p1 + 1))).bind fun x6 => (if (!x6.2.2) = true then some true else (CJ p0 x6.2.1 ([41] : List UInt8)).bind fun x8 => some (!x8)).bind fun x7 => (if x7 = true then some (x6.1, x6.2.1, false) else some (x6.1, Co (x6.2.1 + 1), true)) else (D8 p0 p1 6 ([61] : List UInt8)).bind fun x9 => some (Tr34.of (3, x9.1, x9.2.1, ([] : List Tr34)), x9.2.2.1, x9.2.2.2)))))
noncomputable def Dw (fRec_r29_cond : (List (Int × Int × List UInt8 × Int)) → Int → Option (Tr34 × Int × Bool)) : Nat → (List (Int × Int × List UInt8 × Int)) → Int → Option (Tr34 × Int × Bool)
  | 0 => fun _ _ => none
  | n + 1 => DR fRec_r29_cond (Dw fRec_r29_cond n)
noncomputable def GH (fRec_r29_cond : (List (Int × Int × List UInt8 × Int)) → Int → Option (Tr34 × Int × Bool)) (p0 : List (Int × Int × List UInt8 × Int)) (p1 : Int) : Option (Tr34 × Int × Bool) := Gx fun n => Dw fRec_r29_cond n p0 p1
theorem MA (fRec_r29_cond : (List (Int × Int × List UInt8 × Int)) → Int → Option (Tr34 × Int × Bool)) (ih_r29_cond : ∀ (Y : Nat → Prop) (w0 : World) (v1 : Value) (p0 : List (Int × Int × List UInt8 × Int)) (p1 : Int) (r : Tr34 × Int × Bool) (H : fRec_r29_cond p0 p1 = some r) (h_v1 : Sl w0 (NX []) DA v1 p0), Calls Tryd.prog 34 #[v1, .int .i64 p1] w0 fun e w' => ∃ x : Value, e = .returned (.tuple #[.agg #[.int .i64 r.1.un.1, .int .i64 r.1.un.2.1, .int .i64 r.1.un.2.2.1, x], .int .i64 r.2.1, .bool r.2.2]) ∧ Stw ⟨Y, [], w0⟩ [] [Av (x) A9 r.1.un.2.2.2] w') (fRec : (List (Int × Int × List UInt8 × Int)) → Int → Option (Tr34 × Int × Bool)) (ih : ∀ (Y : Nat → Prop) (w0 : World) (v1 : Value) (p0 : List (Int × Int × List UInt8 × Int)) (p1 : Int) (r : Tr34 × Int × Bool) (H : fRec p0 p1 = some r) (h_v1 : Sl w0 (NX []) DA v1 p0), Calls Tryd.prog 90 #[v1, .int .i64 p1] w0 fun e w' => ∃ x : Value, e = .returned (.tuple #[.agg #[.int .i64 r.1.un.1, .int .i64 r.1.un.2.1, .int .i64 r.1.un.2.2.1, x], .int .i64 r.2.1, .bool r.2.2]) ∧ Stw ⟨Y, [], w0⟩ [] [Av (x) A9 r.1.un.2.2.2] w') (Y : Nat → Prop) (w0 : World) (v1 : Value) (p0 : List (Int × Int × List UInt8 × Int)) (p1 : Int) (r : Tr34 × Int × Bool) (H : DR fRec_r29_cond fRec p0 p1 = some r) (h_v1 : Sl w0 (NX []) DA v1 p0) :
    Calls Tryd.prog 90 #[v1, .int .i64 p1] w0 fun e w' => ∃ x : Value, e = .returned (.tuple #[.agg #[.int .i64 r.1.un.1, .int .i64 r.1.un.2.1, .int .i64 r.1.un.2.2.1, x], .int .i64 r.2.1, .bool r.2.2]) ∧ Stw ⟨Y, [], w0⟩ [] [Av (x) A9 r.1.un.2.2.2] w' := by
 refine enter Tryd.func90 Aa Tryd.ntmps90 Aa fun a W => ?_
 have F := Stw.start Y w0
 unfold DR at H
 refine Ai (Ab ?_)
 refine AU (cs := (B2)) W F Aa Ms Aa fun b1 a w W F => ?_
 iterate 2 refine ls W F Aa (Ag W Aa).q fun a w W F => ?_
 refine Ae (Ad (Ai (Ai (Ab ?_))))
 iterate 2 refine ls W F Aa (Ah W Aa).q fun a w W F => ?_
 obtain ⟨x1, h1, H⟩ := An H
 refine ls W F Aa (A1 (v := Value.bool x1) W M9 Aa (fun w F => Cu any w (v1) p0 p1 ([116, 114, 117, 101] : List UInt8) _ h1 (((AG h_v1) : EN _ _ _ _ _ _) w F).nx)) fun a w W F => ?_
 refine Ae (Ad ?_)
 refine Aw W Aa (fun hb => ?_) fun hb => ?_
 ·
  have H := AQ hb H
  rw [hb] at W
  clear hb
  refine Ai (Ab ?_)
  refine ls W F Aa (Ba (v := Value.agg #[.int .i64 1, .int .i64 0, .int .i64 0, .slice none 0 0]) PW W Aa Aa Aa).q fun a w W F => ?_
  refine ls W F Aa (Ah W Aa).q fun a w W F => ?_
  refine ls W F Aa (BT W Aa Aa Aa).q fun a w W F => ?_
  refine Au (vs := (RO)) (M' := [(b1, [.int .i64 1, .int .i64 0, .int .i64 0, .slice none 0 0])]) 0 W F Aa Aa Aa Fh Aa Aa Aa Aa Aa fun w F => ?_
  iterate 2 refine ls W F Aa (Ag W Aa).q fun a w W F => ?_
  refine Ae (Ad (Aq (AD ?_)))
  have H := AH H
  subst H
  refine CD (.inl Aa) W F Aa (AB 0 W Aa Aa Fh Aa) (Ap W Aa) (Ap W Aa) ?_
  have F := F.note (Sl.nil (r := A9))
  have F := F.sub (M' := []) (Z' := [Av (Value.slice none 0 0) A9 ([])]) (List.nil_sublist _) (List.Sublist.refl _)
  exact ⟨(Value.slice none 0 0), Aa, F⟩
 have H := AR (by rw [hb]; decide) H
 rw [hb] at W
 clear hb
 refine Ax (Ad (Ai (Ai (Ab ?_))))
 iterate 2 refine ls W F Aa (Ah W Aa).q fun a w W F => ?_
 obtain ⟨x2, h2, H⟩ := An H
 refine ls W F Aa (A1 (v := Value.bool x2) W M9 Aa (fun w F => Cu any w (v1) p0 p1 ([102, 97, 108, 115, 101] : List UInt8) _ h2 (((AG h_v1) : EN _ _ _ _ _ _) w F).nx)) fun a w W F => ?_
 refine Ae (Ad ?_)
 refine Aw W Aa (fun hb => ?_) fun hb => ?_
 ·
  have H := AQ hb H
  rw [hb] at W
  clear hb
  refine Ai (Ab ?_)
  refine ls W F Aa (Ba (v := Value.agg #[.int .i64 2, .int .i64 0, .int .i64 0, .slice none 0 0]) PW W Aa Aa Aa).q fun a w W F => ?_
  refine ls W F Aa (Ah W Aa).q fun a w W F => ?_
  refine ls W F Aa (BT W Aa Aa Aa).q fun a w W F => ?_
  refine Au (vs := (RA)) (M' := [(b1, [.int .i64 2, .int .i64 0, .int .i64 0, .slice none 0 0])]) 0 W F Aa Aa Aa Fh Aa Aa Aa Aa Aa fun w F => ?_
  iterate 2 refine ls W F Aa (Ag W Aa).q fun a w W F => ?_
  refine Ae (Ad (Aq (AD ?_)))
  have H := AH H
  subst H
  refine CD (.inl Aa) W F Aa (AB 0 W Aa Aa Fh Aa) (Ap W Aa) (Ap W Aa) ?_
  have F := F.note (Sl.nil (r := A9))
  have F := F.sub (M' := []) (Z' := [Av (Value.slice none 0 0) A9 ([])]) (List.nil_sublist _) (List.Sublist.refl _)
  exact ⟨(Value.slice none 0 0), Aa, F⟩
 have H := AR (by rw [hb]; decide) H
 rw [hb] at W
 clear hb
 refine Ax (Ad (Ai (Ai (Ab ?_))))
 iterate 2 refine ls W F Aa (Ah W Aa).q fun a w W F => ?_
 obtain ⟨x3, h3, H⟩ := An H
 refine ls W F Aa (A1 (v := Value.bool x3) W M9 Aa (fun w F => Cu any w (v1) p0 p1 ([110, 111, 116] : List UInt8) _ h3 (((AG h_v1) : EN _ _ _ _ _ _) w F).nx)) fun a w W F => ?_
 refine Ae (Ad ?_)
 refine Aw W Aa (fun hb => ?_) fun hb => ?_
 ·
  have H := AQ hb H
  rw [hb] at W
  clear hb
  refine Ai (Ab ?_)
  iterate 2 refine ls W F Aa (Ah W Aa).q fun a w W F => ?_
  refine ls W F Aa (BT W Aa Aa Aa).q fun a w W F => ?_
  obtain ⟨x4, h4, H⟩ := An H
  refine AO (Ml := []) (Zl := []) (M := (DM b1)) (Z := []) (β := Value) (rv := fun x => .tuple #[.agg #[.int .i64 x4.1.un.1, .int .i64 x4.1.un.2.1, .int .i64 x4.1.un.2.2.1, x], .int .i64 x4.2.1, .bool x4.2.2]) (MM := fun x => []) (ZZ := fun x => [Av x A9 x4.1.un.2.2.2]) W F S3 Aa Aa (fun hL => ih _ w (v1) p0 (Co (p1 + 1)) _ h4 ((AG h_v1) w F).nx) fun x a w W F => ?_
  obtain ⟨v2, rfl⟩ : ∃ y, y = x := ⟨x, rfl⟩
  have F : Stw ⟨Y, [], w0⟩ (DM b1) [Av v2 A9 x4.1.un.2.2.2] w := F
  refine ls W F Aa (Ah W Aa).q fun a w W F => ?_
  refine ls W F Aa (As (v := Value.agg #[.int .i64 x4.1.un.1, .int .i64 x4.1.un.2.1, .int .i64 x4.1.un.2.2.1, v2]) W Aa Aa).q fun a w W F => ?_
  refine ls W F Aa (As (v := Value.int .i64 x4.2.1) W Aa Aa).q fun a w W F => ?_
  refine ls W F Aa (As (v := Value.bool x4.2.2) W Aa Aa).q fun a w W F => ?_
  refine AU (cs := (B2)) W F Aa Ms Aa fun b2 a w W F => ?_
  refine Au (vs := (EZ x4 v2)) (M' := (Hc b2 x4 v2 b1)) 0 W F Aa Aa Aa Fh Aa Aa Aa (Ac Aa (Ac Aa (Ac Aa (Ac (F.oneF (k := 0) Aa) AM)))) Aa fun w F => ?_
  iterate 2 refine ls W F Aa (Ag W Aa).q fun a w W F => ?_
  refine Ae (Ad (Ai (Ab ?_)))
  refine ls W F Aa (AJ (v := Value.agg #[.int .i64 x4.1.un.1, .int .i64 x4.1.un.2.1, .int .i64 x4.1.un.2.2.1, v2]) 0 W Aa Aa Fh Aa).q fun a w W F => ?_
  refine Dj (z := Value.agg #[.int .i64 0, .int .i64 0, .int .i64 0, .slice none 0 0]) (cs := (EZ x4 v2)) A9 ([x4.1] : List Tr34) W F Aa Qq Ms Aa Aa Aa (AK Aa Aa Aa Br) Aa Aa ⟨[Value.int .i64 x4.1.un.1, Value.int .i64 x4.1.un.2.1, Value.int .i64 x4.1.un.2.2.1, v2], _, Aa, (J1.2 ⟨[Value.int .i64 x4.1.un.1], [Value.int .i64 x4.1.un.2.1, Value.int .i64 x4.1.un.2.2.1, v2], Aa, Aa, ⟨[Value.int .i64 x4.1.un.2.1], [Value.int .i64 x4.1.un.2.2.1, v2], Aa, Aa, ⟨[Value.int .i64 x4.1.un.2.2.1], [v2], Aa, Aa, ⟨_, Aa, (F.item (i := 0) Aa)⟩⟩⟩⟩), Aa⟩ fun v3 a w W F => ?_
  refine ls W F Aa (Ba (v := Value.agg #[.int .i64 4, .int .i64 0, .int .i64 0, v3]) PW W Aa (AK Aa Aa Aa (AK Aa (C4 (F.one (k := 0) Aa)) Aa Br)) Aa).q fun a w W F => ?_
  iterate 2 refine ls W F Aa (Ah W Aa).q fun a w W F => ?_
  refine Au (vs := (Qc v3)) (M' := [(b2, [.int .i64 x4.1.un.1, .int .i64 x4.1.un.2.1, .int .i64 x4.1.un.2.2.1, v2]), (b1, [.int .i64 4, .int .i64 0, .int .i64 0, v3])]) 1 W F Aa Aa Aa Fh Aa Aa Aa (Ac Aa (Ac Aa (Ac Aa (Ac (F.one (k := 0) Aa) AM)))) Aa fun w F => ?_
  iterate 2 refine ls W F Aa (Ag W Aa).q fun a w W F => ?_
  refine Ae (Ad (Aq (AD ?_)))
  have H := AH H
  subst H
  refine CD (.inl Aa) W F Aa (AB 1 W Aa Aa Fh Aa) (Ap W Aa) (Ap W Aa) ?_
  have F := F.freeze
  have F := F.sub (M' := []) (Z' := [Av v3 A9 ([x4.1] : List Tr34)]) (List.nil_sublist _) (List.Sublist.cons_cons _ (List.nil_sublist _))
  exact ⟨(v3), Aa, F⟩
 have H := AR (by rw [hb]; decide) H
 rw [hb] at W
 clear hb
 refine Ax (Ad (Ai (Ai (Ab ?_))))
 iterate 2 refine ls W F Aa (Ah W Aa).q fun a w W F => ?_
 obtain ⟨x5, h5, H⟩ := An H
 refine ls W F Aa (A1 (v := Value.bool x5) W M9 Aa (fun w F => Cu any w (v1) p0 p1 ([40] : List UInt8) _ h5 (((AG h_v1) : EN _ _ _ _ _ _) w F).nx)) fun a w W F => ?_
 refine Ae (Ad ?_)
 refine Aw W Aa (fun hb => ?_) fun hb => ?_
 ·
  have H := AQ hb H
  rw [hb] at W
  clear hb
  refine Ai (Ab ?_)
  iterate 2 refine ls W F Aa (Ah W Aa).q fun a w W F => ?_
  refine ls W F Aa (BT W Aa Aa Aa).q fun a w W F => ?_
  obtain ⟨x6, h6, H⟩ := An H
  refine AO (Ml := []) (Zl := []) (M := (DM b1)) (Z := []) (β := Value) (rv := fun x => .tuple #[.agg #[.int .i64 x6.1.un.1, .int .i64 x6.1.un.2.1, .int .i64 x6.1.un.2.2.1, x], .int .i64 x6.2.1, .bool x6.2.2]) (MM := fun x => []) (ZZ := fun x => [Av x A9 x6.1.un.2.2.2]) W F So Aa Aa (fun hL => ih_r29_cond _ w (v1) p0 (Co (p1 + 1)) _ h6 ((AG h_v1) w F).nx) fun x a w W F => ?_
  obtain ⟨v4, rfl⟩ : ∃ y, y = x := ⟨x, rfl⟩
  have F : Stw ⟨Y, [], w0⟩ (DM b1) [Av v4 A9 x6.1.un.2.2.2] w := F
  refine ls W F Aa (Ah W Aa).q fun a w W F => ?_
  refine ls W F Aa (As (v := Value.agg #[.int .i64 x6.1.un.1, .int .i64 x6.1.un.2.1, .int .i64 x6.1.un.2.2.1, v4]) W Aa Aa).q fun a w W F => ?_
  refine ls W F Aa (As (v := Value.int .i64 x6.2.1) W Aa Aa).q fun a w W F => ?_
  refine ls W F Aa (As (v := Value.bool x6.2.2) W Aa Aa).q fun a w W F => ?_
  refine AU (cs := (B2)) W F Aa Ms Aa fun b3 a w W F => ?_
  refine Au (vs := (EZ x6 v4)) (M' := (Hc b3 x6 v4 b1)) 0 W F Aa Aa Aa Fh Aa Aa Aa (Ac Aa (Ac Aa (Ac Aa (Ac (F.oneF (k := 0) Aa) AM)))) Aa fun w F => ?_
  iterate 2 refine ls W F Aa (Ag W Aa).q fun a w W F => ?_
  refine Ae (Ad (Ai ?_))
  obtain ⟨o1, G1, K1⟩ := An H
  refine Bd (fun a w => ∃ x7 : Bool, some (x7) = some o1 ∧ Fr 82 [] [(0, v1), (1, .int .i64 p1), (4, .pointer (some ⟨b1, 0, none⟩)), (5, .int .i64 0), (6, .bool false), (10, .pointer (some ⟨b3, 0, none⟩)), (11, .int .i64 x6.2.1), (63, .bool x7)] a ∧ Stw ⟨Y, [], w0⟩ (Hc b3 x6 v4 b1) [Av v4 A9 x6.1.un.2.2.2] w) ?_ ?_
  ·
   have H := G1
   clear G1 K1
   refine Ab ?_
   refine ls W F Aa (Ah W Aa).q fun a w W F => ?_
   refine ls W F Aa (FH W Aa).q fun a w W F => ?_
   refine ls W F Aa (Ah W Aa).q fun a w W F => ?_
   rcases Bool.eq_false_or_eq_true (!x6.2.2) with hb | hb
   ·
    have H := AQ hb H
    rw [hb] at W
    clear hb
    iterate 4 refine Ec W Aa Aa Aa Aa Aa Aa Aa fun a W => ?_
    refine ls W F Aa (AE W Aa Aa Aa).q fun a w W F => ?_
    refine Ae (Ad ?_)
    have F := F.frontM (i := 1) Aa Aa
    have F := F.frontM (i := 1) Aa Aa
    exact ⟨_, H, W.re ⟨rfl, Aa, Aa, Aa, Aa, Aa, Aa, Aa, trivial⟩, F⟩
   have H := AR (by rw [hb]; decide) H
   rw [hb] at W
   clear hb
   iterate 2 refine AX W F (Ak W Aa Aa Aa Aa) Aa (Ay Aa) (Ah W Aa).q fun a w W F => ?_
   refine JT (Ak W Aa Aa Aa Aa) ?_
   obtain ⟨x8, h7, H⟩ := An H
   refine ls W F Aa (A1 (v := Value.bool x8) W M9 Aa (fun w F => Cu any w (v1) p0 x6.2.1 ([41] : List UInt8) _ h7 (((AG h_v1) : EN _ _ _ _ _ _) w F).nx)) fun a w W F => ?_
   refine AX W F (Ak W Aa Aa Aa Aa) Aa (Ay Aa) (FH W Aa).q fun a w W F => ?_
   refine ls W F Aa (AN W Aa Aa Aa).q fun a w W F => ?_
   refine Ae (Ad ?_)
   have F := F.frontM (i := 1) Aa Aa
   have F := F.frontM (i := 1) Aa Aa
   exact ⟨_, H, W.re ⟨rfl, Aa, Aa, Aa, Aa, Aa, Aa, Aa, trivial⟩, F⟩
  rintro a w ⟨x7, hj, W, F⟩
  have hj := AH hj
  subst hj
  have H := K1
  clear G1 K1
  refine Aw W Aa (fun hb => ?_) fun hb => ?_
  ·
   have H := AQ hb H
   rw [hb] at W
   clear hb
   refine Ai (Ab ?_)
   refine ls W F Aa (AJ (v := Value.agg #[.int .i64 x6.1.un.1, .int .i64 x6.1.un.2.1, .int .i64 x6.1.un.2.2.1, v4]) 0 W Aa Aa Fh Aa).q fun a w W F => ?_
   refine ls W F Aa (Ah W Aa).q fun a w W F => ?_
   refine Au (vs := (EZ x6 v4)) (M' := (P1 b3 x6 v4 b1)) 1 W F Aa Aa Aa Fh Aa Aa Aa (Ac Aa (Ac Aa (Ac Aa (Ac (F.oneF (k := 0) Aa) AM)))) Aa fun w F => ?_
   iterate 2 refine ls W F Aa (Ag W Aa).q fun a w W F => ?_
   refine Ae (Ad (Aq ?_))
   iterate 2 refine AD ?_
   have H := AH H
   subst H
   refine CD (.inl Aa) W F Aa (AB 1 W Aa Aa Fh Aa) (Ap W Aa) (Ap W Aa) ?_
   have F := F.sub (M' := []) (Z' := [Av v4 A9 x6.1.un.2.2.2]) (List.nil_sublist _) (List.Sublist.refl _)
   exact ⟨(v4), Aa, F⟩
  have H := AR (by rw [hb]; decide) H
  rw [hb] at W
  clear hb
  refine Ax (Ad (Ai (Ab ?_)))
  refine ls W F Aa (AJ (v := Value.agg #[.int .i64 x6.1.un.1, .int .i64 x6.1.un.2.1, .int .i64 x6.1.un.2.2.1, v4]) 0 W Aa Aa Fh Aa).q fun a w W F => ?_
  refine ls W F Aa (Ah W Aa).q fun a w W F => ?_
  refine ls W F Aa (BT W Aa Aa Aa).q fun a w W F => ?_
  refine Au (vs := (EZ x6 v4)) (M' := (P1 b3 x6 v4 b1)) 1 W F Aa Aa Aa Fh Aa Aa Aa (Ac Aa (Ac Aa (Ac Aa (Ac (F.oneF (k := 0) Aa) AM)))) Aa fun w F => ?_
  iterate 2 refine ls W F Aa (Ag W Aa).q fun a w W F => ?_
  refine Ae (Ad (Aq (AD ?_)))
  have H := AH H
  subst H
  refine CD (.inl Aa) W F Aa (AB 1 W Aa Aa Fh Aa) (Ap W Aa) (Ap W Aa) ?_
  have F := F.sub (M' := []) (Z' := [Av v4 A9 x6.1.un.2.2.2]) (List.nil_sublist _) (List.Sublist.refl _)
  exact ⟨(v4), Aa, F⟩
 have H := AR (by rw [hb]; decide) H
 rw [hb] at W
 clear hb
 refine Ax (Ad (Ai (Ab ?_)))
 iterate 2 refine ls W F Aa (Ah W Aa).q fun a w W F => ?_
 obtain ⟨x9, h8, H⟩ := An H
 refine ls W F Aa (A1 (v := Value.tuple #[.int .i64 x9.1, .int .i64 x9.2.1, .int .i64 x9.2.2.1, .bool x9.2.2.2]) W Sa Aa (fun w F => Jz any w (v1) p0 p1 6 ([61] : List UInt8) _ h8 (((AG h_v1) : EN _ _ _ _ _ _) w F).nx)) fun a w W F => ?_
 refine ls W F Aa (Ah W Aa).q fun a w W F => ?_
 refine ls W F Aa (As (v := Value.int .i64 x9.1) W Aa Aa).q fun a w W F => ?_
 refine ls W F Aa (As (v := Value.int .i64 x9.2.1) W Aa Aa).q fun a w W F => ?_
 refine ls W F Aa (As (v := Value.int .i64 x9.2.2.1) W Aa Aa).q fun a w W F => ?_
 refine ls W F Aa (As (v := Value.bool x9.2.2.2) W Aa Aa).q fun a w W F => ?_
 iterate 4 refine ls W F Aa (Ag W Aa).q fun a w W F => ?_
 refine Ae (Ad (Ai (Ab ?_)))
 iterate 2 refine ls W F Aa (Ah W Aa).q fun a w W F => ?_
 refine ls W F Aa (Ba (v := Value.agg #[.int .i64 3, .int .i64 x9.1, .int .i64 x9.2.1, .slice none 0 0]) PW W Aa Aa Aa).q fun a w W F => ?_
 iterate 2 refine ls W F Aa (Ah W Aa).q fun a w W F => ?_
 refine Au (vs := [.int .i64 3, .int .i64 x9.1, .int .i64 x9.2.1, .slice none 0 0]) (M' := [(b1, [.int .i64 3, .int .i64 x9.1, .int .i64 x9.2.1, .slice none 0 0])]) 0 W F Aa Aa Aa Fh Aa Aa Aa Aa Aa fun w F => ?_
 iterate 2 refine ls W F Aa (Ag W Aa).q fun a w W F => ?_
 refine Ae (Ad (Aq ?_))
 have H := AH H
 subst H
 refine CD (.inl Aa) W F Aa (AB 0 W Aa Aa Fh Aa) (Ap W Aa) (Ap W Aa) ?_
 have F := F.note (Sl.nil (r := A9))
 have F := F.sub (M' := []) (Z' := [Av (Value.slice none 0 0) A9 ([])]) (List.nil_sublist _) (List.Sublist.refl _)
 exact ⟨(Value.slice none 0 0), Aa, F⟩
theorem NR (fRec_r29_cond : (List (Int × Int × List UInt8 × Int)) → Int → Option (Tr34 × Int × Bool)) (ih_r29_cond : ∀ (Y : Nat → Prop) (w0 : World) (v1 : Value) (p0 : List (Int × Int × List UInt8 × Int)) (p1 : Int) (r : Tr34 × Int × Bool) (H : fRec_r29_cond p0 p1 = some r) (h_v1 : Sl w0 (NX []) DA v1 p0), Calls Tryd.prog 34 #[v1, .int .i64 p1] w0 fun e w' => ∃ x : Value, e = .returned (.tuple #[.agg #[.int .i64 r.1.un.1, .int .i64 r.1.un.2.1, .int .i64 r.1.un.2.2.1, x], .int .i64 r.2.1, .bool r.2.2]) ∧ Stw ⟨Y, [], w0⟩ [] [Av (x) A9 r.1.un.2.2.2] w') : ∀ (n : Nat) (Y : Nat → Prop) (w0 : World) (v1 : Value) (p0 : List (Int × Int × List UInt8 × Int)) (p1 : Int) (r : Tr34 × Int × Bool) (H : Dw fRec_r29_cond n p0 p1 = some r) (h_v1 : Sl w0 (NX []) DA v1 p0), Calls Tryd.prog 90 #[v1, .int .i64 p1] w0 fun e w' => ∃ x : Value, e = .returned (.tuple #[.agg #[.int .i64 r.1.un.1, .int .i64 r.1.un.2.1, .int .i64 r.1.un.2.2.1, x], .int .i64 r.2.1, .bool r.2.2]) ∧ Stw ⟨Y, [], w0⟩ [] [Av (x) A9 r.1.un.2.2.2] w' := by
  intro n
  induction n with
  | zero => intro Y w0 v1 p0 p1 r H; exact nomatch H
  | succ n ih => intro Y w0 v1 p0 p1 r H h_v1; exact MA fRec_r29_cond ih_r29_cond (Dw fRec_r29_cond n) ih Y w0 v1 p0 p1 r H h_v1
theorem Lf (fRec_r29_cond : (List (Int × Int × List UInt8 × Int)) → Int → Option (Tr34 × Int × Bool)) (ih_r29_cond : ∀ (Y : Nat → Prop) (w0 : World) (v1 : Value) (p0 : List (Int × Int × List UInt8 × Int)) (p1 : Int) (r : Tr34 × Int × Bool) (H : fRec_r29_cond p0 p1 = some r) (h_v1 : Sl w0 (NX []) DA v1 p0), Calls Tryd.prog 34 #[v1, .int .i64 p1] w0 fun e w' => ∃ x : Value, e = .returned (.tuple #[.agg #[.int .i64 r.1.un.1, .int .i64 r.1.un.2.1, .int .i64 r.1.un.2.2.1, x], .int .i64 r.2.1, .bool r.2.2]) ∧ Stw ⟨Y, [], w0⟩ [] [Av (x) A9 r.1.un.2.2.2] w') (Y : Nat → Prop) (w0 : World) (v1 : Value) (p0 : List (Int × Int × List UInt8 × Int)) (p1 : Int) (r : Tr34 × Int × Bool) (H : GH fRec_r29_cond p0 p1 = some r) (h_v1 : Sl w0 (NX []) DA v1 p0) :
    Calls Tryd.prog 90 #[v1, .int .i64 p1] w0 fun e w' => ∃ x : Value, e = .returned (.tuple #[.agg #[.int .i64 r.1.un.1, .int .i64 r.1.un.2.1, .int .i64 r.1.un.2.2.1, x], .int .i64 r.2.1, .bool r.2.2]) ∧ Stw ⟨Y, [], w0⟩ [] [Av (x) A9 r.1.un.2.2.2] w' := by
  obtain ⟨n, H⟩ := Ch H
  exact NR fRec_r29_cond ih_r29_cond n Y w0 v1 p0 p1 r H h_v1
abbrev Ja (a0 : Nat) (a1 : Int) (a2 : Int) (a3 : Int) (a4 : Value) (a5 : Nat) : List (Nat × List Value) := [(a0, [.int .i64 a1, .int .i64 a2, .int .i64 a3, a4]), (a5, [.int .i64 0, .int .i64 0, .int .i64 0, .slice none 0 0])]
noncomputable def Dr (fRec_r29_cond : (List (Int × Int × List UInt8 × Int)) → Int → Option (Tr34 × Int × Bool)) (p0 : List (Int × Int × List UInt8 × Int)) : (Int × Bool × List Tr34 × Int × Int × Int × List Tr34) → Option ((Int × Bool × List Tr34 × Int × Int × Int × List Tr34) ⊕ (Int × Bool × List Tr34 × Int × Int × Int × List Tr34))
  | (x9, x10, x11, x12, x13, x14, x15) => (if x10 = true then (CJ p0 x9 ([97, 110, 100] : List UInt8)).bind fun x18 => some (true, x18) else some (false, false)).bind fun (x16, x17) => (if x17 = true then ((GH fRec_r29_cond) p0 (Co (x9 + 1))).bind fun x19 => (Eo x11 ([x19.1] : List Tr34)).bind fun x20 => some (.inl (x19.2.1, x19.2.2, x20, x19.1.un.1, x19.1.un.2.1, x19.1.un.2.2.1, x19.1.un.2.2.2)) else some (.inr (x9, x16, x11, x12, x13, x14, x15)))
noncomputable def En (fRec_r29_cond : (List (Int × Int × List UInt8 × Int)) → Int → Option (Tr34 × Int × Bool)) (p0 : List (Int × Int × List UInt8 × Int)) (p1 : Int) : Option (Tr34 × Int × Bool) := ((GH fRec_r29_cond) p0 p1).bind fun x1 => (Bx (Dr fRec_r29_cond p0) (x1.2.1, x1.2.2, ([x1.1] : List Tr34), x1.1.un.1, x1.1.un.2.1, x1.1.un.2.2.1, x1.1.un.2.2.2)).bind fun (x2, x3, x4, x5, x6, x7, x8) => (if (x4.length : Int) = 1 then some (Tr34.of (x5, x6, x7, x8), x2, x3) else some (Tr34.of (5, 0, 0, x4), x2, x3))
theorem Kf (fRec_r29_cond : (List (Int × Int × List UInt8 × Int)) → Int → Option (Tr34 × Int × Bool)) (ih_r29_cond : ∀ (Y : Nat → Prop) (w0 : World) (v1 : Value) (p0 : List (Int × Int × List UInt8 × Int)) (p1 : Int) (r : Tr34 × Int × Bool) (H : fRec_r29_cond p0 p1 = some r) (h_v1 : Sl w0 (NX []) DA v1 p0), Calls Tryd.prog 34 #[v1, .int .i64 p1] w0 fun e w' => ∃ x : Value, e = .returned (.tuple #[.agg #[.int .i64 r.1.un.1, .int .i64 r.1.un.2.1, .int .i64 r.1.un.2.2.1, x], .int .i64 r.2.1, .bool r.2.2]) ∧ Stw ⟨Y, [], w0⟩ [] [Av (x) A9 r.1.un.2.2.2] w') (Y : Nat → Prop) (w0 : World) (v1 : Value) (p0 : List (Int × Int × List UInt8 × Int)) (p1 : Int) (r : Tr34 × Int × Bool) (H : En fRec_r29_cond p0 p1 = some r) (h_v1 : Sl w0 (NX []) DA v1 p0) :
    Calls Tryd.prog 70 #[v1, .int .i64 p1] w0 fun e w' => ∃ x : Value, e = .returned (.tuple #[.agg #[.int .i64 r.1.un.1, .int .i64 r.1.un.2.1, .int .i64 r.1.un.2.2.1, x], .int .i64 r.2.1, .bool r.2.2]) ∧ Stw ⟨Y, [], w0⟩ [] [Av (x) A9 r.1.un.2.2.2] w' := by
 refine enter Tryd.func70 Aa Tryd.ntmps70 Aa fun a W => ?_
 have F := Stw.start Y w0
 unfold En at H
 refine Ai (Ab ?_)
 refine AU (cs := (B2)) W F Aa Ms Aa fun b1 a w W F => ?_
 iterate 2 refine ls W F Aa (Ag W Aa).q fun a w W F => ?_
 refine Ae (Ad (Ai (Ab ?_)))
 iterate 2 refine ls W F Aa (Ah W Aa).q fun a w W F => ?_
 obtain ⟨x1, h1, H⟩ := An H
 refine AO (Ml := []) (Zl := []) (M := (DM b1)) (Z := []) (β := Value) (rv := fun x => .tuple #[.agg #[.int .i64 x1.1.un.1, .int .i64 x1.1.un.2.1, .int .i64 x1.1.un.2.2.1, x], .int .i64 x1.2.1, .bool x1.2.2]) (MM := fun x => []) (ZZ := fun x => [Av x A9 x1.1.un.2.2.2]) W F S3 Aa Aa (fun hL => (Lf fRec_r29_cond ih_r29_cond) _ w (v1) p0 p1 _ h1 ((AG h_v1) w F).nx) fun x a w W F => ?_
 obtain ⟨v2, rfl⟩ : ∃ y, y = x := ⟨x, rfl⟩
 have F : Stw ⟨Y, [], w0⟩ (DM b1) [Av v2 A9 x1.1.un.2.2.2] w := F
 refine ls W F Aa (Ah W Aa).q fun a w W F => ?_
 refine ls W F Aa (As (v := Value.agg #[.int .i64 x1.1.un.1, .int .i64 x1.1.un.2.1, .int .i64 x1.1.un.2.2.1, v2]) W Aa Aa).q fun a w W F => ?_
 refine ls W F Aa (As (v := Value.int .i64 x1.2.1) W Aa Aa).q fun a w W F => ?_
 refine ls W F Aa (As (v := Value.bool x1.2.2) W Aa Aa).q fun a w W F => ?_
 refine AU (cs := (B2)) W F Aa Ms Aa fun b2 a w W F => ?_
 refine Au (vs := (EZ x1 v2)) (M' := (Hc b2 x1 v2 b1)) 0 W F Aa Aa Aa Fh Aa Aa Aa (Ac Aa (Ac Aa (Ac Aa (Ac (F.oneF (k := 0) Aa) AM)))) Aa fun w F => ?_
 iterate 2 refine ls W F Aa (Ag W Aa).q fun a w W F => ?_
 refine Ae (Ad (Ai (Ab ?_)))
 refine ls W F Aa (AJ (v := Value.agg #[.int .i64 x1.1.un.1, .int .i64 x1.1.un.2.1, .int .i64 x1.1.un.2.2.1, v2]) 0 W Aa Aa Fh Aa).q fun a w W F => ?_
 refine Dj (z := Value.agg #[.int .i64 0, .int .i64 0, .int .i64 0, .slice none 0 0]) (cs := (EZ x1 v2)) A9 ([x1.1] : List Tr34) W F Aa Qq Ms Aa Aa Aa (AK Aa Aa Aa Br) Aa Aa ⟨[Value.int .i64 x1.1.un.1, Value.int .i64 x1.1.un.2.1, Value.int .i64 x1.1.un.2.2.1, v2], _, Aa, (J1.2 ⟨[Value.int .i64 x1.1.un.1], [Value.int .i64 x1.1.un.2.1, Value.int .i64 x1.1.un.2.2.1, v2], Aa, Aa, ⟨[Value.int .i64 x1.1.un.2.1], [Value.int .i64 x1.1.un.2.2.1, v2], Aa, Aa, ⟨[Value.int .i64 x1.1.un.2.2.1], [v2], Aa, Aa, ⟨_, Aa, (F.item (i := 0) Aa)⟩⟩⟩⟩), Aa⟩ fun v3 a w W F => ?_
 refine ls W F Aa (Ag W Aa).q fun a w W F => ?_
 refine Ae (Ad ?_)
 obtain ⟨o1, G1, K1⟩ := An H
 refine Bd (fun a w => ∃ x2 : Int, ∃ x3 : Bool, ∃ x4 : List Tr34, ∃ x5 : Int, ∃ x6 : Int, ∃ x7 : Int, ∃ x8 : List Tr34, ∃ v4 : Value, ∃ v5 : Value, some ((x2, x3, x4, x5, x6, x7, x8)) = some o1 ∧ Fr 48 [] [(4, .pointer (some ⟨b1, 0, none⟩)), (5, .int .i64 0), (6, .bool false), (7, .pointer (some ⟨b2, 0, none⟩)), (8, .int .i64 x2), (9, .bool x3), (10, v4)] a ∧ Stw ⟨Y, [], w0⟩ (Ja b2 x5 x6 x7 v5 b1) [row v4 34 A9 x4, Av v5 A9 x8] w) ?_ ?_
 ·
  have H := G1
  clear G1 K1
  refine AV ?_
  have F := F.frontZ (i := 1) Aa Aa
  have F := F.frontZ (i := 1) Aa Aa
  have F := F.frontM (i := 1) Aa Aa
  have F := F.frontM (i := 1) Aa Aa
  refine Cr H (fun s a w => ∃ v6 : Value, ∃ v7 : Value, Fr 48 [] [(0, v1), (4, .pointer (some ⟨b1, 0, none⟩)), (5, .int .i64 0), (6, .bool false), (7, .pointer (some ⟨b2, 0, none⟩)), (8, .int .i64 s.1), (9, .bool s.2.1), (10, v6)] a ∧ Stw ⟨Y, [], w0⟩ [(b2, [.int .i64 s.2.2.2.1, .int .i64 s.2.2.2.2.1, .int .i64 s.2.2.2.2.2.1, v7]), (b1, (B2))] [row v6 34 A9 s.2.2.1, Av v7 A9 s.2.2.2.2.2.2] w) ⟨(v3), (v2), W.re ⟨rfl, Aa, Aa, Aa, Aa, Aa, Aa, Aa, trivial⟩, F⟩ fun s o a w H L2 hR => ?_
  obtain ⟨x9, x10, x11, x12, x13, x14, x15⟩ := s
  obtain ⟨v6, v7, W, F⟩ := hR
  have W : Fr 48 [] [(0, v1), (4, .pointer (some ⟨b1, 0, none⟩)), (5, .int .i64 0), (6, .bool false), (7, .pointer (some ⟨b2, 0, none⟩)), (8, .int .i64 x9), (9, .bool x10), (10, v6)] a := W
  have F : Stw ⟨Y, [], w0⟩ (Ja b2 x12 x13 x14 v7 b1) [row v6 34 A9 x11, Av v7 A9 x15] w := F
  rw [Dr] at H
  refine Ai ?_
  obtain ⟨o3, G3, K3⟩ := An H
  refine Bd (fun a w => ∃ x16 : Bool, ∃ x17 : Bool, some ((x16, x17)) = some o3 ∧ Fr 48 [] [(0, v1), (4, .pointer (some ⟨b1, 0, none⟩)), (5, .int .i64 0), (6, .bool false), (7, .pointer (some ⟨b2, 0, none⟩)), (8, .int .i64 x9), (9, .bool x16), (10, v6), (25, .bool x17)] a ∧ Stw ⟨Y, [], w0⟩ (Ja b2 x12 x13 x14 v7 b1) [row v6 34 A9 x11, Av v7 A9 x15] w) ?_ ?_
  ·
   have H := G3
   clear G3 K3
   refine Ab ?_
   iterate 2 refine ls W F Aa (Ah W Aa).q fun a w W F => ?_
   rcases Bool.eq_false_or_eq_true x10 with hb | hb
   ·
    have H := AQ hb H
    rw [hb] at W
    clear hb
    iterate 2 refine AX W F (Ak W Aa Aa Aa Aa) Aa (Ay Aa) (Ah W Aa).q fun a w W F => ?_
    refine JT (Ak W Aa Aa Aa Aa) ?_
    obtain ⟨x18, h2, H⟩ := An H
    refine ls W F Aa (A1 (v := Value.bool x18) W M9 Aa (fun w F => Cu any w (v1) p0 x9 ([97, 110, 100] : List UInt8) _ h2 (((AG h_v1) : EN _ _ _ _ _ _) w F).nx)) fun a w W F => ?_
    refine ls W F Aa (AE W Aa Aa Aa).q fun a w W F => ?_
    refine Ae (Ad ?_)
    have F := F.frontZ (i := 1) Aa Aa
    have F := F.frontZ (i := 1) Aa Aa
    have F := F.frontM (i := 1) Aa Aa
    have F := F.frontM (i := 1) Aa Aa
    exact ⟨_, _, H, W.re ⟨rfl, Aa, Aa, Aa, Aa, Aa, Aa, Aa, Aa, trivial⟩, F⟩
   have H := AR (by rw [hb]; decide) H
   rw [hb] at W
   clear hb
   iterate 3 refine Ec W Aa Aa Aa Aa Aa Aa Aa fun a W => ?_
   refine ls W F Aa (AN W Aa Aa Aa).q fun a w W F => ?_
   refine Ae (Ad ?_)
   have F := F.frontZ (i := 1) Aa Aa
   have F := F.frontZ (i := 1) Aa Aa
   have F := F.frontM (i := 1) Aa Aa
   have F := F.frontM (i := 1) Aa Aa
   exact ⟨_, _, H, W.re ⟨rfl, Aa, Aa, Aa, Aa, Aa, Aa, Aa, Aa, trivial⟩, F⟩
  rintro a w ⟨x16, x17, hj, W, F⟩
  have hj := AH hj
  subst hj
  have H := K3
  clear G3 K3
  refine Aw W Aa (fun hb => ?_) fun hb => ?_
  ·
   have H := AQ hb H
   rw [hb] at W
   clear hb
   refine Ax (Ad (AV (Ai (Ab ?_))))
   iterate 2 refine ls W F Aa (Ah W Aa).q fun a w W F => ?_
   refine ls W F Aa (BT W Aa Aa Aa).q fun a w W F => ?_
   obtain ⟨x19, h3, H⟩ := An H
   refine AO (Ml := []) (Zl := []) (M := (Ja b2 x12 x13 x14 v7 b1)) (Z := [row v6 34 A9 x11, Av v7 A9 x15]) (β := Value) (rv := fun x => .tuple #[.agg #[.int .i64 x19.1.un.1, .int .i64 x19.1.un.2.1, .int .i64 x19.1.un.2.2.1, x], .int .i64 x19.2.1, .bool x19.2.2]) (MM := fun x => []) (ZZ := fun x => [Av x A9 x19.1.un.2.2.2]) W F S3 Aa Aa (fun hL => (Lf fRec_r29_cond ih_r29_cond) _ w (v1) p0 (Co (x9 + 1)) _ h3 ((AG h_v1) w F).nx) fun x a w W F => ?_
   obtain ⟨v8, rfl⟩ : ∃ y, y = x := ⟨x, rfl⟩
   have F : Stw ⟨Y, [], w0⟩ (Ja b2 x12 x13 x14 v7 b1) [Av v8 A9 x19.1.un.2.2.2, row v6 34 A9 x11, Av v7 A9 x15] w := F
   refine ls W F Aa (Ah W Aa).q fun a w W F => ?_
   refine ls W F Aa (As (v := Value.agg #[.int .i64 x19.1.un.1, .int .i64 x19.1.un.2.1, .int .i64 x19.1.un.2.2.1, v8]) W Aa Aa).q fun a w W F => ?_
   refine ls W F Aa (As (v := Value.int .i64 x19.2.1) W Aa Aa).q fun a w W F => ?_
   refine ls W F Aa (As (v := Value.bool x19.2.2) W Aa Aa).q fun a w W F => ?_
   refine Au (vs := (EZ x19 v8)) (M' := (Hc b2 x19 v8 b1)) 0 W F Aa Aa Aa Fh Aa Aa Aa (Ac Aa (Ac Aa (Ac Aa (Ac (F.oneF (k := 0) Aa) AM)))) Aa fun w F => ?_
   iterate 2 refine ls W F Aa (Ag W Aa).q fun a w W F => ?_
   refine Ae (Ad (Ab ?_))
   refine ls W F Aa (Ah W Aa).q fun a w W F => ?_
   refine ls W F Aa (AJ (v := Value.agg #[.int .i64 x19.1.un.1, .int .i64 x19.1.un.2.1, .int .i64 x19.1.un.2.2.1, v8]) 0 W Aa Aa Fh Aa).q fun a w W F => ?_
   refine Dj (z := Value.agg #[.int .i64 0, .int .i64 0, .int .i64 0, .slice none 0 0]) (cs := (EZ x19 v8)) A9 ([x19.1] : List Tr34) W F Aa Qq Ms Aa Aa Aa (AK Aa Aa Aa Br) Aa Aa ⟨[Value.int .i64 x19.1.un.1, Value.int .i64 x19.1.un.2.1, Value.int .i64 x19.1.un.2.2.1, v8], _, Aa, (J1.2 ⟨[Value.int .i64 x19.1.un.1], [Value.int .i64 x19.1.un.2.1, Value.int .i64 x19.1.un.2.2.1, v8], Aa, Aa, ⟨[Value.int .i64 x19.1.un.2.1], [Value.int .i64 x19.1.un.2.2.1, v8], Aa, Aa, ⟨[Value.int .i64 x19.1.un.2.2.1], [v8], Aa, Aa, ⟨_, Aa, (F.item (i := 0) Aa)⟩⟩⟩⟩), Aa⟩ fun v9 a w W F => ?_
   obtain ⟨x20, h4, H⟩ := An H
   refine CU (r := A9) (i := 2) W F Aa Qq Aa Aa Aa Aa (DD F 0 Aa) h4 Aa fun v10 a w W F => ?_
   have F : Stw ⟨Y, [], w0⟩ (Hc b2 x19 v8 b1) [row v10 34 A9 x20, row v9 34 A9 ([x19.1] : List Tr34), Av v8 A9 x19.1.un.2.2.2, Av v7 A9 x15] w := F
   refine ls W F Aa (Ag W Aa).q fun a w W F => ?_
   refine Ae (Bw (Ad ?_))
   have F := F.frontZ (i := 2) Aa Aa
   have F := F.frontZ (i := 1) Aa Aa
   have F := F.frontM (i := 1) Aa Aa
   have F := F.frontM (i := 1) Aa Aa
   have F := F.sub (M' := (Hc b2 x19 v8 b1)) (Z' := [row v10 34 A9 x20, Av v8 A9 x19.1.un.2.2.2]) (List.Sublist.refl _) (List.Sublist.cons_cons _ (List.Sublist.cons_cons _ (List.nil_sublist _)))
   exact ⟨_, H, (v10), (v8), W.re ⟨rfl, Aa, Aa, Aa, Aa, Aa, Aa, Aa, trivial⟩, F⟩
  have H := AR (by rw [hb]; decide) H
  rw [hb] at W
  clear hb
  refine Cl ?_
  iterate 2 refine CO ?_
  refine Ck (Ad ?_)
  have F := F.frontZ (i := 1) Aa Aa
  have F := F.frontZ (i := 1) Aa Aa
  have F := F.frontM (i := 1) Aa Aa
  have F := F.frontM (i := 1) Aa Aa
  have H := L2 _ H
  exact ⟨_, _, _, _, _, _, _, (v6), (v7), H, W.re ⟨rfl, Aa, Aa, Aa, Aa, Aa, Aa, trivial⟩, F⟩
 rintro a w ⟨x2, x3, x4, x5, x6, x7, x8, v4, v5, hj, W, F⟩
 have hj := AH hj
 subst hj
 have H := K1
 clear G1 K1
 refine Ai (Ai (Ab ?_))
 refine ls W F Aa (Ah W Aa).q fun a w W F => ?_
 refine ls W F Aa (E4 (r := A9) (l := x4) Pt Aa W Aa (Bq 0 Aa)).q fun a w W F => ?_
 refine ls W F Aa (Bn W Aa Aa).q fun a w W F => ?_
 refine Ae (Ad ?_)
 refine Aw W Aa (fun hb => ?_) fun hb => ?_
 ·
  have H := AQ (BB hb) H
  rw [hb] at W
  clear hb
  refine Ai (Ab ?_)
  refine ls W F Aa (AJ (v := Value.agg #[.int .i64 x5, .int .i64 x6, .int .i64 x7, v5]) 0 W Aa Aa Fh Aa).q fun a w W F => ?_
  iterate 2 refine ls W F Aa (Ah W Aa).q fun a w W F => ?_
  refine Au (vs := [.int .i64 x5, .int .i64 x6, .int .i64 x7, v5]) (M' := [(b2, [.int .i64 x5, .int .i64 x6, .int .i64 x7, v5]), (b1, [.int .i64 x5, .int .i64 x6, .int .i64 x7, v5])]) 1 W F Aa Aa Aa Fh Aa Aa Aa (Ac Aa (Ac Aa (Ac Aa (Ac (F.oneF (k := 1) Aa) AM)))) Aa fun w F => ?_
  iterate 2 refine ls W F Aa (Ag W Aa).q fun a w W F => ?_
  refine Ae (Ad (Aq (AD ?_)))
  have H := AH H
  subst H
  refine CD (.inl Aa) W F Aa (AB 1 W Aa Aa Fh Aa) (Ap W Aa) (Ap W Aa) ?_
  have F := F.frontZ (i := 1) Aa Aa
  have F := F.sub (M' := []) (Z' := [Av v5 A9 x8]) (List.nil_sublist _) (List.Sublist.cons_cons _ (List.nil_sublist _))
  exact ⟨(v5), Aa, F⟩
 have H := AR (Bz hb) H
 rw [hb] at W
 clear hb
 refine Ax (Ad (Ai (Ab ?_)))
 refine ls W F Aa (Ah W Aa).q fun a w W F => ?_
 refine ls W F Aa (Ba (v := Value.agg #[.int .i64 5, .int .i64 0, .int .i64 0, v4]) PW W Aa (AK Aa Aa Aa (AK Aa (C4 (F.one (k := 0) Aa)) Aa Br)) Aa).q fun a w W F => ?_
 iterate 2 refine ls W F Aa (Ah W Aa).q fun a w W F => ?_
 refine Au (vs := [.int .i64 5, .int .i64 0, .int .i64 0, v4]) (M' := [(b2, [.int .i64 x5, .int .i64 x6, .int .i64 x7, v5]), (b1, [.int .i64 5, .int .i64 0, .int .i64 0, v4])]) 1 W F Aa Aa Aa Fh Aa Aa Aa (Ac Aa (Ac Aa (Ac Aa (Ac (F.one (k := 0) Aa) AM)))) Aa fun w F => ?_
 iterate 2 refine ls W F Aa (Ag W Aa).q fun a w W F => ?_
 refine Ae (Ad (Aq ?_))
 have H := AH H
 subst H
 refine CD (.inl Aa) W F Aa (AB 1 W Aa Aa Fh Aa) (Ap W Aa) (Ap W Aa) ?_
 have F := F.freeze
 have F := F.sub (M' := []) (Z' := [Av v4 A9 x4]) (List.nil_sublist _) (List.Sublist.cons_cons _ (List.nil_sublist _))
 exact ⟨(v4), Aa, F⟩
theorem Tf : Has Tryd.prog 70 := ⟨fun args w => Al Tryd.func70 rfl (by decide) args w⟩
noncomputable def DV (fRec : (List (Int × Int × List UInt8 × Int)) → Int → Option (Tr34 × Int × Bool)) (p0 : List (Int × Int × List UInt8 × Int)) : (Int × Bool × List Tr34 × Int × Int × Int × List Tr34) → Option ((Int × Bool × List Tr34 × Int × Int × Int × List Tr34) ⊕ (Int × Bool × List Tr34 × Int × Int × Int × List Tr34))
  | (x9, x10, x11, x12, x13, x14, x15) => (if x10 = true then (CJ p0 x9 ([111, 114] : List UInt8)).bind fun x18 => some (true, x18) else some (false, false)).bind fun (x16, x17) => (if x17 = true then ((En fRec) p0 (Co (x9 + 1))).bind fun x19 => (Eo x11 ([x19.1] : List Tr34)).bind fun x20 => some (.inl (x19.2.1, x19.2.2, x20, x19.1.un.1, x19.1.un.2.1, x19.1.un.2.2.1, x19.1.un.2.2.2)) else some (.inr (x9, x16, x11, x12, x13, x14, x15)))
noncomputable def DW (fRec : (List (Int × Int × List UInt8 × Int)) → Int → Option (Tr34 × Int × Bool)) (p0 : List (Int × Int × List UInt8 × Int)) (p1 : Int) : Option (Tr34 × Int × Bool) := ((En fRec) p0 p1).bind fun x1 => (Bx (DV fRec p0) (x1.2.1, x1.2.2, ([x1.1] : List Tr34), x1.1.un.1, x1.1.un.2.1, x1.1.un.2.2.1, x1.1.un.2.2.2)).bind fun (x2, x3, x4, x5, x6, x7, x8) => (if (x4.length : Int) = 1 then some (Tr34.of (x5, x6, x7, x8), x2, x3) else some (Tr34.of (6, 0, 0, x4), x2, x3))
noncomputable def CK : Nat → (List (Int × Int × List UInt8 × Int)) → Int → Option (Tr34 × Int × Bool)
  | 0 => fun _ _ => none
  | n + 1 => DW (CK n)
noncomputable def GO (p0 : List (Int × Int × List UInt8 × Int)) (p1 : Int) : Option (Tr34 × Int × Bool) := Gx fun n => CK n p0 p1
theorem MN (fRec : (List (Int × Int × List UInt8 × Int)) → Int → Option (Tr34 × Int × Bool)) (ih : ∀ (Y : Nat → Prop) (w0 : World) (v1 : Value) (p0 : List (Int × Int × List UInt8 × Int)) (p1 : Int) (r : Tr34 × Int × Bool) (H : fRec p0 p1 = some r) (h_v1 : Sl w0 (NX []) DA v1 p0), Calls Tryd.prog 34 #[v1, .int .i64 p1] w0 fun e w' => ∃ x : Value, e = .returned (.tuple #[.agg #[.int .i64 r.1.un.1, .int .i64 r.1.un.2.1, .int .i64 r.1.un.2.2.1, x], .int .i64 r.2.1, .bool r.2.2]) ∧ Stw ⟨Y, [], w0⟩ [] [Av (x) A9 r.1.un.2.2.2] w') (Y : Nat → Prop) (w0 : World) (v1 : Value) (p0 : List (Int × Int × List UInt8 × Int)) (p1 : Int) (r : Tr34 × Int × Bool) (H : DW fRec p0 p1 = some r) (h_v1 : Sl w0 (NX []) DA v1 p0) :
    Calls Tryd.prog 34 #[v1, .int .i64 p1] w0 fun e w' => ∃ x : Value, e = .returned (.tuple #[.agg #[.int .i64 r.1.un.1, .int .i64 r.1.un.2.1, .int .i64 r.1.un.2.2.1, x], .int .i64 r.2.1, .bool r.2.2]) ∧ Stw ⟨Y, [], w0⟩ [] [Av (x) A9 r.1.un.2.2.2] w' := by
 refine enter Tryd.func34 Aa Tryd.ntmps34 Aa fun a W => ?_
 have F := Stw.start Y w0
 unfold DW at H
 refine Ai (Ab ?_)
 refine AU (cs := (B2)) W F Aa Ms Aa fun b1 a w W F => ?_
 iterate 2 refine ls W F Aa (Ag W Aa).q fun a w W F => ?_
 refine Ae (Ad (Ai (Ab ?_)))
 iterate 2 refine ls W F Aa (Ah W Aa).q fun a w W F => ?_
 obtain ⟨x1, h1, H⟩ := An H
 refine AO (Ml := []) (Zl := []) (M := (DM b1)) (Z := []) (β := Value) (rv := fun x => .tuple #[.agg #[.int .i64 x1.1.un.1, .int .i64 x1.1.un.2.1, .int .i64 x1.1.un.2.2.1, x], .int .i64 x1.2.1, .bool x1.2.2]) (MM := fun x => []) (ZZ := fun x => [Av x A9 x1.1.un.2.2.2]) W F Tf Aa Aa (fun hL => (Kf fRec ih) _ w (v1) p0 p1 _ h1 ((AG h_v1) w F).nx) fun x a w W F => ?_
 obtain ⟨v2, rfl⟩ : ∃ y, y = x := ⟨x, rfl⟩
 have F : Stw ⟨Y, [], w0⟩ (DM b1) [Av v2 A9 x1.1.un.2.2.2] w := F
 refine ls W F Aa (Ah W Aa).q fun a w W F => ?_
 refine ls W F Aa (As (v := Value.agg #[.int .i64 x1.1.un.1, .int .i64 x1.1.un.2.1, .int .i64 x1.1.un.2.2.1, v2]) W Aa Aa).q fun a w W F => ?_
 refine ls W F Aa (As (v := Value.int .i64 x1.2.1) W Aa Aa).q fun a w W F => ?_
 refine ls W F Aa (As (v := Value.bool x1.2.2) W Aa Aa).q fun a w W F => ?_
 refine AU (cs := (B2)) W F Aa Ms Aa fun b2 a w W F => ?_
 refine Au (vs := (EZ x1 v2)) (M' := (Hc b2 x1 v2 b1)) 0 W F Aa Aa Aa Fh Aa Aa Aa (Ac Aa (Ac Aa (Ac Aa (Ac (F.oneF (k := 0) Aa) AM)))) Aa fun w F => ?_
 iterate 2 refine ls W F Aa (Ag W Aa).q fun a w W F => ?_
 refine Ae (Ad (Ai (Ab ?_)))
 refine ls W F Aa (AJ (v := Value.agg #[.int .i64 x1.1.un.1, .int .i64 x1.1.un.2.1, .int .i64 x1.1.un.2.2.1, v2]) 0 W Aa Aa Fh Aa).q fun a w W F => ?_
 refine Dj (z := Value.agg #[.int .i64 0, .int .i64 0, .int .i64 0, .slice none 0 0]) (cs := (EZ x1 v2)) A9 ([x1.1] : List Tr34) W F Aa Qq Ms Aa Aa Aa (AK Aa Aa Aa Br) Aa Aa ⟨[Value.int .i64 x1.1.un.1, Value.int .i64 x1.1.un.2.1, Value.int .i64 x1.1.un.2.2.1, v2], _, Aa, (J1.2 ⟨[Value.int .i64 x1.1.un.1], [Value.int .i64 x1.1.un.2.1, Value.int .i64 x1.1.un.2.2.1, v2], Aa, Aa, ⟨[Value.int .i64 x1.1.un.2.1], [Value.int .i64 x1.1.un.2.2.1, v2], Aa, Aa, ⟨[Value.int .i64 x1.1.un.2.2.1], [v2], Aa, Aa, ⟨_, Aa, (F.item (i := 0) Aa)⟩⟩⟩⟩), Aa⟩ fun v3 a w W F => ?_
 refine ls W F Aa (Ag W Aa).q fun a w W F => ?_
 refine Ae (Ad ?_)
 obtain ⟨o1, G1, K1⟩ := An H
 refine Bd (fun a w => ∃ x2 : Int, ∃ x3 : Bool, ∃ x4 : List Tr34, ∃ x5 : Int, ∃ x6 : Int, ∃ x7 : Int, ∃ x8 : List Tr34, ∃ v4 : Value, ∃ v5 : Value, some ((x2, x3, x4, x5, x6, x7, x8)) = some o1 ∧ Fr 48 [] [(4, .pointer (some ⟨b1, 0, none⟩)), (5, .int .i64 0), (6, .bool false), (7, .pointer (some ⟨b2, 0, none⟩)), (8, .int .i64 x2), (9, .bool x3), (10, v4)] a ∧ Stw ⟨Y, [], w0⟩ (Ja b2 x5 x6 x7 v5 b1) [row v4 34 A9 x4, Av v5 A9 x8] w) ?_ ?_
 ·
  have H := G1
  clear G1 K1
  refine AV ?_
  have F := F.frontZ (i := 1) Aa Aa
  have F := F.frontZ (i := 1) Aa Aa
  have F := F.frontM (i := 1) Aa Aa
  have F := F.frontM (i := 1) Aa Aa
  refine Cr H (fun s a w => ∃ v6 : Value, ∃ v7 : Value, Fr 48 [] [(0, v1), (4, .pointer (some ⟨b1, 0, none⟩)), (5, .int .i64 0), (6, .bool false), (7, .pointer (some ⟨b2, 0, none⟩)), (8, .int .i64 s.1), (9, .bool s.2.1), (10, v6)] a ∧ Stw ⟨Y, [], w0⟩ [(b2, [.int .i64 s.2.2.2.1, .int .i64 s.2.2.2.2.1, .int .i64 s.2.2.2.2.2.1, v7]), (b1, (B2))] [row v6 34 A9 s.2.2.1, Av v7 A9 s.2.2.2.2.2.2] w) ⟨(v3), (v2), W.re ⟨rfl, Aa, Aa, Aa, Aa, Aa, Aa, Aa, trivial⟩, F⟩ fun s o a w H L2 hR => ?_
  obtain ⟨x9, x10, x11, x12, x13, x14, x15⟩ := s
  obtain ⟨v6, v7, W, F⟩ := hR
  have W : Fr 48 [] [(0, v1), (4, .pointer (some ⟨b1, 0, none⟩)), (5, .int .i64 0), (6, .bool false), (7, .pointer (some ⟨b2, 0, none⟩)), (8, .int .i64 x9), (9, .bool x10), (10, v6)] a := W
  have F : Stw ⟨Y, [], w0⟩ (Ja b2 x12 x13 x14 v7 b1) [row v6 34 A9 x11, Av v7 A9 x15] w := F
  rw [DV] at H
  refine Ai ?_
  obtain ⟨o3, G3, K3⟩ := An H
  refine Bd (fun a w => ∃ x16 : Bool, ∃ x17 : Bool, some ((x16, x17)) = some o3 ∧ Fr 48 [] [(0, v1), (4, .pointer (some ⟨b1, 0, none⟩)), (5, .int .i64 0), (6, .bool false), (7, .pointer (some ⟨b2, 0, none⟩)), (8, .int .i64 x9), (9, .bool x16), (10, v6), (25, .bool x17)] a ∧ Stw ⟨Y, [], w0⟩ (Ja b2 x12 x13 x14 v7 b1) [row v6 34 A9 x11, Av v7 A9 x15] w) ?_ ?_
  ·
   have H := G3
   clear G3 K3
   refine Ab ?_
   iterate 2 refine ls W F Aa (Ah W Aa).q fun a w W F => ?_
   rcases Bool.eq_false_or_eq_true x10 with hb | hb
   ·
    have H := AQ hb H
    rw [hb] at W
    clear hb
    iterate 2 refine AX W F (Ak W Aa Aa Aa Aa) Aa (Ay Aa) (Ah W Aa).q fun a w W F => ?_
    refine JT (Ak W Aa Aa Aa Aa) ?_
    obtain ⟨x18, h2, H⟩ := An H
    refine ls W F Aa (A1 (v := Value.bool x18) W M9 Aa (fun w F => Cu any w (v1) p0 x9 ([111, 114] : List UInt8) _ h2 (((AG h_v1) : EN _ _ _ _ _ _) w F).nx)) fun a w W F => ?_
    refine ls W F Aa (AE W Aa Aa Aa).q fun a w W F => ?_
    refine Ae (Ad ?_)
    have F := F.frontZ (i := 1) Aa Aa
    have F := F.frontZ (i := 1) Aa Aa
    have F := F.frontM (i := 1) Aa Aa
    have F := F.frontM (i := 1) Aa Aa
    exact ⟨_, _, H, W.re ⟨rfl, Aa, Aa, Aa, Aa, Aa, Aa, Aa, Aa, trivial⟩, F⟩
   have H := AR (by rw [hb]; decide) H
   rw [hb] at W
   clear hb
   iterate 3 refine Ec W Aa Aa Aa Aa Aa Aa Aa fun a W => ?_
   refine ls W F Aa (AN W Aa Aa Aa).q fun a w W F => ?_
   refine Ae (Ad ?_)
   have F := F.frontZ (i := 1) Aa Aa
   have F := F.frontZ (i := 1) Aa Aa
   have F := F.frontM (i := 1) Aa Aa
   have F := F.frontM (i := 1) Aa Aa
   exact ⟨_, _, H, W.re ⟨rfl, Aa, Aa, Aa, Aa, Aa, Aa, Aa, Aa, trivial⟩, F⟩
  rintro a w ⟨x16, x17, hj, W, F⟩
  have hj := AH hj
  subst hj
  have H := K3
  clear G3 K3
  refine Aw W Aa (fun hb => ?_) fun hb => ?_
  ·
   have H := AQ hb H
   rw [hb] at W
   clear hb
   refine Ax (Ad (AV (Ai (Ab ?_))))
   iterate 2 refine ls W F Aa (Ah W Aa).q fun a w W F => ?_
   refine ls W F Aa (BT W Aa Aa Aa).q fun a w W F => ?_
   obtain ⟨x19, h3, H⟩ := An H
   refine AO (Ml := []) (Zl := []) (M := (Ja b2 x12 x13 x14 v7 b1)) (Z := [row v6 34 A9 x11, Av v7 A9 x15]) (β := Value) (rv := fun x => .tuple #[.agg #[.int .i64 x19.1.un.1, .int .i64 x19.1.un.2.1, .int .i64 x19.1.un.2.2.1, x], .int .i64 x19.2.1, .bool x19.2.2]) (MM := fun x => []) (ZZ := fun x => [Av x A9 x19.1.un.2.2.2]) W F Tf Aa Aa (fun hL => (Kf fRec ih) _ w (v1) p0 (Co (x9 + 1)) _ h3 ((AG h_v1) w F).nx) fun x a w W F => ?_
   obtain ⟨v8, rfl⟩ : ∃ y, y = x := ⟨x, rfl⟩
   have F : Stw ⟨Y, [], w0⟩ (Ja b2 x12 x13 x14 v7 b1) [Av v8 A9 x19.1.un.2.2.2, row v6 34 A9 x11, Av v7 A9 x15] w := F
   refine ls W F Aa (Ah W Aa).q fun a w W F => ?_
   refine ls W F Aa (As (v := Value.agg #[.int .i64 x19.1.un.1, .int .i64 x19.1.un.2.1, .int .i64 x19.1.un.2.2.1, v8]) W Aa Aa).q fun a w W F => ?_
   refine ls W F Aa (As (v := Value.int .i64 x19.2.1) W Aa Aa).q fun a w W F => ?_
   refine ls W F Aa (As (v := Value.bool x19.2.2) W Aa Aa).q fun a w W F => ?_
   refine Au (vs := (EZ x19 v8)) (M' := (Hc b2 x19 v8 b1)) 0 W F Aa Aa Aa Fh Aa Aa Aa (Ac Aa (Ac Aa (Ac Aa (Ac (F.oneF (k := 0) Aa) AM)))) Aa fun w F => ?_
   iterate 2 refine ls W F Aa (Ag W Aa).q fun a w W F => ?_
   refine Ae (Ad (Ab ?_))
   refine ls W F Aa (Ah W Aa).q fun a w W F => ?_
   refine ls W F Aa (AJ (v := Value.agg #[.int .i64 x19.1.un.1, .int .i64 x19.1.un.2.1, .int .i64 x19.1.un.2.2.1, v8]) 0 W Aa Aa Fh Aa).q fun a w W F => ?_
   refine Dj (z := Value.agg #[.int .i64 0, .int .i64 0, .int .i64 0, .slice none 0 0]) (cs := (EZ x19 v8)) A9 ([x19.1] : List Tr34) W F Aa Qq Ms Aa Aa Aa (AK Aa Aa Aa Br) Aa Aa ⟨[Value.int .i64 x19.1.un.1, Value.int .i64 x19.1.un.2.1, Value.int .i64 x19.1.un.2.2.1, v8], _, Aa, (J1.2 ⟨[Value.int .i64 x19.1.un.1], [Value.int .i64 x19.1.un.2.1, Value.int .i64 x19.1.un.2.2.1, v8], Aa, Aa, ⟨[Value.int .i64 x19.1.un.2.1], [Value.int .i64 x19.1.un.2.2.1, v8], Aa, Aa, ⟨[Value.int .i64 x19.1.un.2.2.1], [v8], Aa, Aa, ⟨_, Aa, (F.item (i := 0) Aa)⟩⟩⟩⟩), Aa⟩ fun v9 a w W F => ?_
   obtain ⟨x20, h4, H⟩ := An H
   refine CU (r := A9) (i := 2) W F Aa Qq Aa Aa Aa Aa (DD F 0 Aa) h4 Aa fun v10 a w W F => ?_
   have F : Stw ⟨Y, [], w0⟩ (Hc b2 x19 v8 b1) [row v10 34 A9 x20, row v9 34 A9 ([x19.1] : List Tr34), Av v8 A9 x19.1.un.2.2.2, Av v7 A9 x15] w := F
   refine ls W F Aa (Ag W Aa).q fun a w W F => ?_
   refine Ae (Bw (Ad ?_))
   have F := F.frontZ (i := 2) Aa Aa
   have F := F.frontZ (i := 1) Aa Aa
   have F := F.frontM (i := 1) Aa Aa
   have F := F.frontM (i := 1) Aa Aa
   have F := F.sub (M' := (Hc b2 x19 v8 b1)) (Z' := [row v10 34 A9 x20, Av v8 A9 x19.1.un.2.2.2]) (List.Sublist.refl _) (List.Sublist.cons_cons _ (List.Sublist.cons_cons _ (List.nil_sublist _)))
   exact ⟨_, H, (v10), (v8), W.re ⟨rfl, Aa, Aa, Aa, Aa, Aa, Aa, Aa, trivial⟩, F⟩
  have H := AR (by rw [hb]; decide) H
  rw [hb] at W
  clear hb
  refine Cl ?_
  iterate 2 refine CO ?_
  refine Ck (Ad ?_)
  have F := F.frontZ (i := 1) Aa Aa
  have F := F.frontZ (i := 1) Aa Aa
  have F := F.frontM (i := 1) Aa Aa
  have F := F.frontM (i := 1) Aa Aa
  have H := L2 _ H
  exact ⟨_, _, _, _, _, _, _, (v6), (v7), H, W.re ⟨rfl, Aa, Aa, Aa, Aa, Aa, Aa, trivial⟩, F⟩
 rintro a w ⟨x2, x3, x4, x5, x6, x7, x8, v4, v5, hj, W, F⟩
 have hj := AH hj
 subst hj
 have H := K1
 clear G1 K1
 refine Ai (Ai (Ab ?_))
 refine ls W F Aa (Ah W Aa).q fun a w W F => ?_
 refine ls W F Aa (E4 (r := A9) (l := x4) Pt Aa W Aa (Bq 0 Aa)).q fun a w W F => ?_
 refine ls W F Aa (Bn W Aa Aa).q fun a w W F => ?_
 refine Ae (Ad ?_)
 refine Aw W Aa (fun hb => ?_) fun hb => ?_
 ·
  have H := AQ (BB hb) H
  rw [hb] at W
  clear hb
  refine Ai (Ab ?_)
  refine ls W F Aa (AJ (v := Value.agg #[.int .i64 x5, .int .i64 x6, .int .i64 x7, v5]) 0 W Aa Aa Fh Aa).q fun a w W F => ?_
  iterate 2 refine ls W F Aa (Ah W Aa).q fun a w W F => ?_
  refine Au (vs := [.int .i64 x5, .int .i64 x6, .int .i64 x7, v5]) (M' := [(b2, [.int .i64 x5, .int .i64 x6, .int .i64 x7, v5]), (b1, [.int .i64 x5, .int .i64 x6, .int .i64 x7, v5])]) 1 W F Aa Aa Aa Fh Aa Aa Aa (Ac Aa (Ac Aa (Ac Aa (Ac (F.oneF (k := 1) Aa) AM)))) Aa fun w F => ?_
  iterate 2 refine ls W F Aa (Ag W Aa).q fun a w W F => ?_
  refine Ae (Ad (Aq (AD ?_)))
  have H := AH H
  subst H
  refine CD (.inl Aa) W F Aa (AB 1 W Aa Aa Fh Aa) (Ap W Aa) (Ap W Aa) ?_
  have F := F.frontZ (i := 1) Aa Aa
  have F := F.sub (M' := []) (Z' := [Av v5 A9 x8]) (List.nil_sublist _) (List.Sublist.cons_cons _ (List.nil_sublist _))
  exact ⟨(v5), Aa, F⟩
 have H := AR (Bz hb) H
 rw [hb] at W
 clear hb
 refine Ax (Ad (Ai (Ab ?_)))
 refine ls W F Aa (Ah W Aa).q fun a w W F => ?_
 refine ls W F Aa (Ba (v := Value.agg #[.int .i64 6, .int .i64 0, .int .i64 0, v4]) PW W Aa (AK Aa Aa Aa (AK Aa (C4 (F.one (k := 0) Aa)) Aa Br)) Aa).q fun a w W F => ?_
 iterate 2 refine ls W F Aa (Ah W Aa).q fun a w W F => ?_
 refine Au (vs := [.int .i64 6, .int .i64 0, .int .i64 0, v4]) (M' := [(b2, [.int .i64 x5, .int .i64 x6, .int .i64 x7, v5]), (b1, [.int .i64 6, .int .i64 0, .int .i64 0, v4])]) 1 W F Aa Aa Aa Fh Aa Aa Aa (Ac Aa (Ac Aa (Ac Aa (Ac (F.one (k := 0) Aa) AM)))) Aa fun w F => ?_
 iterate 2 refine ls W F Aa (Ag W Aa).q fun a w W F => ?_
 refine Ae (Ad (Aq ?_))
 have H := AH H
 subst H
 refine CD (.inl Aa) W F Aa (AB 1 W Aa Aa Fh Aa) (Ap W Aa) (Ap W Aa) ?_
 have F := F.freeze
 have F := F.sub (M' := []) (Z' := [Av v4 A9 x4]) (List.nil_sublist _) (List.Sublist.cons_cons _ (List.nil_sublist _))
 exact ⟨(v4), Aa, F⟩
theorem Ny : ∀ (n : Nat) (Y : Nat → Prop) (w0 : World) (v1 : Value) (p0 : List (Int × Int × List UInt8 × Int)) (p1 : Int) (r : Tr34 × Int × Bool) (H : CK n p0 p1 = some r) (h_v1 : Sl w0 (NX []) DA v1 p0), Calls Tryd.prog 34 #[v1, .int .i64 p1] w0 fun e w' => ∃ x : Value, e = .returned (.tuple #[.agg #[.int .i64 r.1.un.1, .int .i64 r.1.un.2.1, .int .i64 r.1.un.2.2.1, x], .int .i64 r.2.1, .bool r.2.2]) ∧ Stw ⟨Y, [], w0⟩ [] [Av (x) A9 r.1.un.2.2.2] w' := by
  intro n
  induction n with
  | zero => intro Y w0 v1 p0 p1 r H; exact nomatch H
  | succ n ih => intro Y w0 v1 p0 p1 r H h_v1; exact MN (CK n) ih Y w0 v1 p0 p1 r H h_v1
theorem Jp (Y : Nat → Prop) (w0 : World) (v1 : Value) (p0 : List (Int × Int × List UInt8 × Int)) (p1 : Int) (r : Tr34 × Int × Bool) (H : GO p0 p1 = some r) (h_v1 : Sl w0 (NX []) DA v1 p0) :
    Calls Tryd.prog 34 #[v1, .int .i64 p1] w0 fun e w' => ∃ x : Value, e = .returned (.tuple #[.agg #[.int .i64 r.1.un.1, .int .i64 r.1.un.2.1, .int .i64 r.1.un.2.2.1, x], .int .i64 r.2.1, .bool r.2.2]) ∧ Stw ⟨Y, [], w0⟩ [] [Av (x) A9 r.1.un.2.2.2] w' := by
  obtain ⟨n, H⟩ := Ch H
  exact Ny n Y w0 v1 p0 p1 r H h_v1
theorem Pb : type_of% Tryd.underlying35 := Tryd.underlying35
abbrev RT (r : Rp Tr37) : Rp (Int × Tr34 × Int × Int × List Tr37) := (Rp.pair (Rp.int .i64) (Rp.pair A9 (Rp.pair (Rp.int .i64) (Rp.pair (Rp.int .i64) (Rp.slice r)))))
theorem RN : Kt RT := (Kt.pair (Kt.const _) (Kt.pair (Kt.const _) (Kt.pair (Kt.const _) (Kt.pair (Kt.const _) Kt.hole))))
abbrev B3 : Rp Tr37 := Rp.knot RT Tr37.un RN
theorem Om {w : World} {A : Nat → Prop} {cs : List Value} {a : Tr37} : B3.rep w A cs a ↔ (RT B3).rep w A cs a.un := Hw RN
theorem Sr : Has Tryd.prog 87 := ⟨fun args w => Al Tryd.func87 rfl (by decide) args w⟩
theorem P9 : Et Tryd.prog 35 37 8 96 := Et.of Pb (by kernel_rfl) (by kernel_rfl) (by kernel_rfl) (by decide)
theorem NY : Ty Tryd.prog 35 false 1 := ⟨by kernel_rfl, by kernel_rfl⟩
abbrev Qp (a0 : Nat) (a1 : Nat) : List (Nat × List Value) := [(a0, [.int .i64 5, .int .i64 0, .int .i64 0, .int .i64 0, .slice none 0 0, .int .i64 0, .int .i64 0, .slice none 0 0]), (a1, [.int .i64 0, .int .i64 0, .int .i64 0, .int .i64 0, .slice none 0 0, .int .i64 0, .int .i64 0, .slice none 0 0])]
abbrev Oy (a0 : Nat) (a1 : Tr34 × Int × Bool) (a2 : Value) (a3 : Nat) (a4 : Nat) : List (Nat × List Value) := [(a0, [.int .i64 a1.1.un.1, .int .i64 a1.1.un.2.1, .int .i64 a1.1.un.2.2.1, a2]), (a3, [.int .i64 5, .int .i64 a1.1.un.1, .int .i64 a1.1.un.2.1, .int .i64 a1.1.un.2.2.1, a2, .int .i64 0, .int .i64 0, .slice none 0 0]), (a4, [.int .i64 0, .int .i64 0, .int .i64 0, .int .i64 0, .slice none 0 0, .int .i64 0, .int .i64 0, .slice none 0 0])]
abbrev Qm (a0 : Tr34 × Int × Bool) (a1 : Value) : List Value := [.int .i64 5, .int .i64 a0.1.un.1, .int .i64 a0.1.un.2.1, .int .i64 a0.1.un.2.2.1, a1, .int .i64 0, .int .i64 0, .slice none 0 0]
abbrev EL (a0 : Tr37 × Int × Bool) (a1 : Value) (a2 : Value) : List Value := [.int .i64 a0.1.un.1, .int .i64 a0.1.un.2.1.un.1, .int .i64 a0.1.un.2.1.un.2.1, .int .i64 a0.1.un.2.1.un.2.2.1, a1, .int .i64 a0.1.un.2.2.1, .int .i64 a0.1.un.2.2.2.1, a2]
abbrev OM (a0 : Nat) (a1 : Tr37 × Int × Bool) (a2 : Value) (a3 : Value) (a4 : Nat) (a5 : Tr34 × Int × Bool) (a6 : Value) (a7 : Nat) (a8 : Nat) : List (Nat × List Value) := [(a0, [.int .i64 a1.1.un.1, .int .i64 a1.1.un.2.1.un.1, .int .i64 a1.1.un.2.1.un.2.1, .int .i64 a1.1.un.2.1.un.2.2.1, a2, .int .i64 a1.1.un.2.2.1, .int .i64 a1.1.un.2.2.2.1, a3]), (a4, [.int .i64 a5.1.un.1, .int .i64 a5.1.un.2.1, .int .i64 a5.1.un.2.2.1, a6]), (a7, [.int .i64 5, .int .i64 a5.1.un.1, .int .i64 a5.1.un.2.1, .int .i64 a5.1.un.2.2.1, a6, .int .i64 0, .int .i64 0, .slice none 0 0]), (a8, [.int .i64 0, .int .i64 0, .int .i64 0, .int .i64 0, .slice none 0 0, .int .i64 0, .int .i64 0, .slice none 0 0])]
abbrev OZ (a0 : Tr34 × Int × Bool) (a1 : Value) (a2 : Value) : List Value := [.int .i64 5, .int .i64 a0.1.un.1, .int .i64 a0.1.un.2.1, .int .i64 a0.1.un.2.2.1, a1, .int .i64 0, .int .i64 0, a2]
noncomputable def D3 (fRec_r29_step : (List (Int × Int × List UInt8 × Int)) → Int → Option (Tr37 × Int × Bool)) (p0 : List (Int × Int × List UInt8 × Int)) (p1 : Int) : Option (Tr37 × Int × Bool) := (GO p0 p1).bind fun x1 => (if (!x1.2.2) = true then some true else (CJ p0 x1.2.1 ([116, 104, 101, 110] : List UInt8)).bind fun x3 => some (!x3)).bind fun x2 => (if x2 = true then some (Tr37.of (5, x1.1, 0, 0, ([] : List Tr37)), x1.2.1, false) else (fRec_r29_step p0 (Co (x1.2.1 + 1))).bind fun x4 => (if (!x4.2.2) = true then some true else (CJ p0 x4.2.1 ([101, 108, 115, 101] : List UInt8)).bind fun x6 => some (!x6)).bind fun x5 => (if x5 = true then some (Tr37.of (5, x1.1, 0, 0, ([] : List Tr37)), x4.2.1, false) else (fRec_r29_step p0 (Co (x4.2.1 + 1))).bind fun x7 => some (Tr37.of (5, x1.1, 0, 0, ([Tr37.of (x4.1.un.1, Tr34.of (x4.1.un.2.1.un.1, x4.1.un.2.1.un.2.1, x4.1.un.2.1.un.2.2.1, x4.1.un.2.1.un.2.2.2), x4.1.un.2.2.1, x4.1.un.2.2.2.1, x4.1.un.2.2.2.2), Tr37.of (x7.1.un.1, Tr34.of (x7.1.un.2.1.un.1, x7.1.un.2.1.un.2.1, x7.1.un.2.1.un.2.2.1, x7.1.un.2.1.un.2.2.2), x7.1.un.2.2.1, x7.1.un.2.2.2.1, x7.1.un.2.2.2.2)] : List Tr37)), x7.2.1, x7.2.2)))
theorem Na (fRec_r29_step : (List (Int × Int × List UInt8 × Int)) → Int → Option (Tr37 × Int × Bool)) (ih_r29_step : ∀ (Y : Nat → Prop) (w0 : World) (v1 : Value) (p0 : List (Int × Int × List UInt8 × Int)) (p1 : Int) (r : Tr37 × Int × Bool) (H : fRec_r29_step p0 p1 = some r) (h_v1 : Sl w0 (NX []) DA v1 p0), Calls Tryd.prog 87 #[v1, .int .i64 p1] w0 fun e w' => ∃ x : Value × Value, e = .returned (.tuple #[.agg #[.int .i64 r.1.un.1, .int .i64 r.1.un.2.1.un.1, .int .i64 r.1.un.2.1.un.2.1, .int .i64 r.1.un.2.1.un.2.2.1, x.1, .int .i64 r.1.un.2.2.1, .int .i64 r.1.un.2.2.2.1, x.2], .int .i64 r.2.1, .bool r.2.2]) ∧ Stw ⟨Y, [], w0⟩ [] [Av (x.1) A9 r.1.un.2.1.un.2.2.2, Av (x.2) B3 r.1.un.2.2.2.2] w') (Y : Nat → Prop) (w0 : World) (v1 : Value) (p0 : List (Int × Int × List UInt8 × Int)) (p1 : Int) (r : Tr37 × Int × Bool) (H : D3 fRec_r29_step p0 p1 = some r) (h_v1 : Sl w0 (NX []) DA v1 p0) :
    Calls Tryd.prog 108 #[v1, .int .i64 p1] w0 fun e w' => ∃ x : Value × Value, e = .returned (.tuple #[.agg #[.int .i64 r.1.un.1, .int .i64 r.1.un.2.1.un.1, .int .i64 r.1.un.2.1.un.2.1, .int .i64 r.1.un.2.1.un.2.2.1, x.1, .int .i64 r.1.un.2.2.1, .int .i64 r.1.un.2.2.2.1, x.2], .int .i64 r.2.1, .bool r.2.2]) ∧ Stw ⟨Y, [], w0⟩ [] [Av (x.1) A9 r.1.un.2.1.un.2.2.2, row (x.2) 37 B3 r.1.un.2.2.2.2] w' := by
 refine enter Tryd.func108 Aa Tryd.ntmps108 Aa fun a W => ?_
 have F := Stw.start Y w0
 unfold D3 at H
 refine Ai (Ab ?_)
 refine AU (cs := (Bl)) W F Aa LH Aa fun b1 a w W F => ?_
 iterate 2 refine ls W F Aa (Ag W Aa).q fun a w W F => ?_
 refine Ae (Ad (Ai (Ab ?_)))
 refine ls W F Aa (Ba (v := Value.agg #[.int .i64 5, .int .i64 0, .int .i64 0, .int .i64 0, .slice none 0 0, .int .i64 0, .int .i64 0, .slice none 0 0]) Qo W Aa Aa Aa).q fun a w W F => ?_
 refine AU (cs := (Bl)) W F Aa LH Aa fun b2 a w W F => ?_
 refine Au (vs := [.int .i64 5, .int .i64 0, .int .i64 0, .int .i64 0, .slice none 0 0, .int .i64 0, .int .i64 0, .slice none 0 0]) (M' := (Qp b2 b1)) 0 W F Aa Aa Aa EU Aa Aa Aa Aa Aa fun w F => ?_
 refine Ae (Ad (Ai (Ab ?_)))
 iterate 2 refine ls W F Aa (Ah W Aa).q fun a w W F => ?_
 obtain ⟨x1, h1, H⟩ := An H
 refine AO (Ml := []) (Zl := []) (M := (Qp b2 b1)) (Z := []) (β := Value) (rv := fun x => .tuple #[.agg #[.int .i64 x1.1.un.1, .int .i64 x1.1.un.2.1, .int .i64 x1.1.un.2.2.1, x], .int .i64 x1.2.1, .bool x1.2.2]) (MM := fun x => []) (ZZ := fun x => [Av x A9 x1.1.un.2.2.2]) W F So Aa Aa (fun hL => Jp _ w (v1) p0 p1 _ h1 ((AG h_v1) w F).nx) fun x a w W F => ?_
 obtain ⟨v2, rfl⟩ : ∃ y, y = x := ⟨x, rfl⟩
 have F : Stw ⟨Y, [], w0⟩ (Qp b2 b1) [Av v2 A9 x1.1.un.2.2.2] w := F
 refine ls W F Aa (Ah W Aa).q fun a w W F => ?_
 refine ls W F Aa (As (v := Value.agg #[.int .i64 x1.1.un.1, .int .i64 x1.1.un.2.1, .int .i64 x1.1.un.2.2.1, v2]) W Aa Aa).q fun a w W F => ?_
 refine ls W F Aa (As (v := Value.int .i64 x1.2.1) W Aa Aa).q fun a w W F => ?_
 refine ls W F Aa (As (v := Value.bool x1.2.2) W Aa Aa).q fun a w W F => ?_
 refine AU (cs := (B2)) W F Aa Ms Aa fun b3 a w W F => ?_
 refine Au (vs := (EZ x1 v2)) (M' := [(b3, [.int .i64 x1.1.un.1, .int .i64 x1.1.un.2.1, .int .i64 x1.1.un.2.2.1, v2]), (b2, [.int .i64 5, .int .i64 0, .int .i64 0, .int .i64 0, .slice none 0 0, .int .i64 0, .int .i64 0, .slice none 0 0]), (b1, [.int .i64 0, .int .i64 0, .int .i64 0, .int .i64 0, .slice none 0 0, .int .i64 0, .int .i64 0, .slice none 0 0])]) 0 W F Aa Aa Aa Fh Aa Aa Aa (Ac Aa (Ac Aa (Ac Aa (Ac (F.oneF (k := 0) Aa) AM)))) Aa fun w F => ?_
 iterate 2 refine ls W F Aa (Ag W Aa).q fun a w W F => ?_
 refine Ae (Ad (Ai (Ab ?_)))
 refine ls W F Aa (AJ (v := Value.agg #[.int .i64 x1.1.un.1, .int .i64 x1.1.un.2.1, .int .i64 x1.1.un.2.2.1, v2]) 0 W Aa Aa Fh Aa).q fun a w W F => ?_
 refine ls W F Aa (Ao H5 Aa Aa Aa Fh W Aa 1 Aa).q fun a w W F => ?_
 refine Au (vs := (EZ x1 v2)) (M' := (Oy b3 x1 v2 b2 b1)) 1 W F Aa Aa Aa Fh Aa Aa Aa (Ac Aa (Ac Aa (Ac Aa (Ac (F.oneF (k := 0) Aa) AM)))) Aa fun w F => ?_
 refine Ae (Ad (Ai ?_))
 obtain ⟨o1, G1, K1⟩ := An H
 refine Bd (fun a w => ∃ x2 : Bool, some (x2) = some o1 ∧ Fr 66 [] [(0, v1), (4, .pointer (some ⟨b1, 0, none⟩)), (5, .int .i64 0), (6, .bool false), (7, .pointer (some ⟨b2, 0, none⟩)), (9, .int .i64 x1.2.1), (30, .bool x2)] a ∧ Stw ⟨Y, [], w0⟩ (Oy b3 x1 v2 b2 b1) [Av v2 A9 x1.1.un.2.2.2] w) ?_ ?_
 ·
  have H := G1
  clear G1 K1
  refine Ab ?_
  refine ls W F Aa (Ah W Aa).q fun a w W F => ?_
  refine ls W F Aa (FH W Aa).q fun a w W F => ?_
  refine ls W F Aa (Ah W Aa).q fun a w W F => ?_
  rcases Bool.eq_false_or_eq_true (!x1.2.2) with hb | hb
  ·
   have H := AQ hb H
   rw [hb] at W
   clear hb
   iterate 4 refine Ec W Aa Aa Aa Aa Aa Aa Aa fun a W => ?_
   refine ls W F Aa (AE W Aa Aa Aa).q fun a w W F => ?_
   refine Ae (Ad ?_)
   have F := F.frontM (i := 2) Aa Aa
   have F := F.frontM (i := 2) Aa Aa
   have F := F.frontM (i := 2) Aa Aa
   exact ⟨_, H, W.re ⟨rfl, Aa, Aa, Aa, Aa, Aa, Aa, trivial⟩, F⟩
  have H := AR (by rw [hb]; decide) H
  rw [hb] at W
  clear hb
  iterate 2 refine AX W F (Ak W Aa Aa Aa Aa) Aa (Ay Aa) (Ah W Aa).q fun a w W F => ?_
  refine JT (Ak W Aa Aa Aa Aa) ?_
  obtain ⟨x3, h2, H⟩ := An H
  refine ls W F Aa (A1 (v := Value.bool x3) W M9 Aa (fun w F => Cu any w (v1) p0 x1.2.1 ([116, 104, 101, 110] : List UInt8) _ h2 (((AG h_v1) : EN _ _ _ _ _ _) w F).nx)) fun a w W F => ?_
  refine AX W F (Ak W Aa Aa Aa Aa) Aa (Ay Aa) (FH W Aa).q fun a w W F => ?_
  refine ls W F Aa (AN W Aa Aa Aa).q fun a w W F => ?_
  refine Ae (Ad ?_)
  have F := F.frontM (i := 2) Aa Aa
  have F := F.frontM (i := 2) Aa Aa
  have F := F.frontM (i := 2) Aa Aa
  exact ⟨_, H, W.re ⟨rfl, Aa, Aa, Aa, Aa, Aa, Aa, trivial⟩, F⟩
 rintro a w ⟨x2, hj, W, F⟩
 have hj := AH hj
 subst hj
 have H := K1
 clear G1 K1
 refine Aw W Aa (fun hb => ?_) fun hb => ?_
 ·
  have H := AQ hb H
  rw [hb] at W
  clear hb
  refine Ai (Ab ?_)
  refine ls W F Aa (AJ (v := Value.agg #[.int .i64 5, .int .i64 x1.1.un.1, .int .i64 x1.1.un.2.1, .int .i64 x1.1.un.2.2.1, v2, .int .i64 0, .int .i64 0, .slice none 0 0]) 1 W Aa Aa EU Aa).q fun a w W F => ?_
  refine ls W F Aa (Ah W Aa).q fun a w W F => ?_
  refine Au (vs := (Qm x1 v2)) (M' := [(b3, [.int .i64 x1.1.un.1, .int .i64 x1.1.un.2.1, .int .i64 x1.1.un.2.2.1, v2]), (b2, [.int .i64 5, .int .i64 x1.1.un.1, .int .i64 x1.1.un.2.1, .int .i64 x1.1.un.2.2.1, v2, .int .i64 0, .int .i64 0, .slice none 0 0]), (b1, [.int .i64 5, .int .i64 x1.1.un.1, .int .i64 x1.1.un.2.1, .int .i64 x1.1.un.2.2.1, v2, .int .i64 0, .int .i64 0, .slice none 0 0])]) 2 W F Aa Aa Aa EU Aa Aa Aa (Ac Aa (Ac Aa (Ac Aa (Ac Aa (Ac (F.oneF (k := 0) Aa) (Ac Aa (Ac Aa (Ac Aa AM)))))))) Aa fun w F => ?_
  iterate 2 refine ls W F Aa (Ag W Aa).q fun a w W F => ?_
  refine Ae (Ad (Aq (AD ?_)))
  have H := AH H
  subst H
  refine CD (.inl Aa) W F Aa (AB 2 W Aa Aa EU Aa) (Ap W Aa) (Ap W Aa) ?_
  have F := F.nilRow 37 B3
  have F := F.frontZ (i := 1) Aa Aa
  have F := F.sub (M' := []) (Z' := [Av v2 A9 x1.1.un.2.2.2, row (Value.slice none 0 0) 37 B3 ([])]) (List.nil_sublist _) (List.Sublist.refl _)
  exact ⟨((v2), (Value.slice none 0 0)), Aa, F⟩
 have H := AR (by rw [hb]; decide) H
 rw [hb] at W
 clear hb
 refine Ax (Ad (Ai (Ab ?_)))
 iterate 2 refine ls W F Aa (Ah W Aa).q fun a w W F => ?_
 refine ls W F Aa (BT W Aa Aa Aa).q fun a w W F => ?_
 obtain ⟨x4, h3, H⟩ := An H
 refine AO (Ml := []) (Zl := []) (M := (Oy b3 x1 v2 b2 b1)) (Z := [Av v2 A9 x1.1.un.2.2.2]) (β := Value × Value) (rv := fun x => .tuple #[.agg #[.int .i64 x4.1.un.1, .int .i64 x4.1.un.2.1.un.1, .int .i64 x4.1.un.2.1.un.2.1, .int .i64 x4.1.un.2.1.un.2.2.1, x.1, .int .i64 x4.1.un.2.2.1, .int .i64 x4.1.un.2.2.2.1, x.2], .int .i64 x4.2.1, .bool x4.2.2]) (MM := fun x => []) (ZZ := fun x => [Av x.1 A9 x4.1.un.2.1.un.2.2.2, Av x.2 B3 x4.1.un.2.2.2.2]) W F Sr Aa Aa (fun hL => ih_r29_step _ w (v1) p0 (Co (x1.2.1 + 1)) _ h3 ((AG h_v1) w F).nx) fun x a w W F => ?_
 obtain ⟨v3, v4⟩ := x
 have F : Stw ⟨Y, [], w0⟩ (Oy b3 x1 v2 b2 b1) [Av v3 A9 x4.1.un.2.1.un.2.2.2, Av v4 B3 x4.1.un.2.2.2.2, Av v2 A9 x1.1.un.2.2.2] w := F
 refine ls W F Aa (Ah W Aa).q fun a w W F => ?_
 refine ls W F Aa (As (v := Value.agg #[.int .i64 x4.1.un.1, .int .i64 x4.1.un.2.1.un.1, .int .i64 x4.1.un.2.1.un.2.1, .int .i64 x4.1.un.2.1.un.2.2.1, v3, .int .i64 x4.1.un.2.2.1, .int .i64 x4.1.un.2.2.2.1, v4]) W Aa Aa).q fun a w W F => ?_
 refine ls W F Aa (As (v := Value.int .i64 x4.2.1) W Aa Aa).q fun a w W F => ?_
 refine ls W F Aa (As (v := Value.bool x4.2.2) W Aa Aa).q fun a w W F => ?_
 refine AU (cs := (Bl)) W F Aa LH Aa fun b4 a w W F => ?_
 refine Au (vs := (EL x4 v3 v4)) (M' := (OM b4 x4 v3 v4 b3 x1 v2 b2 b1)) 0 W F Aa Aa Aa EU Aa Aa Aa (Ac Aa (Ac Aa (Ac Aa (Ac Aa (Ac (F.oneF (k := 0) Aa) (Ac Aa (Ac Aa (Ac (F.oneF (k := 1) Aa) AM)))))))) Aa fun w F => ?_
 iterate 2 refine ls W F Aa (Ag W Aa).q fun a w W F => ?_
 refine Ae (Ad (Ai ?_))
 obtain ⟨o2, G2, K2⟩ := An H
 refine Bd (fun a w => ∃ x5 : Bool, some (x5) = some o2 ∧ Fr 66 [] [(0, v1), (4, .pointer (some ⟨b1, 0, none⟩)), (5, .int .i64 0), (6, .bool false), (7, .pointer (some ⟨b2, 0, none⟩)), (9, .int .i64 x4.2.1), (11, .pointer (some ⟨b4, 0, none⟩)), (48, .bool x5)] a ∧ Stw ⟨Y, [], w0⟩ (OM b4 x4 v3 v4 b3 x1 v2 b2 b1) [Av v3 A9 x4.1.un.2.1.un.2.2.2, Av v4 B3 x4.1.un.2.2.2.2, Av v2 A9 x1.1.un.2.2.2] w) ?_ ?_
 ·
  have H := G2
  clear G2 K2
  refine Ab ?_
  refine ls W F Aa (Ah W Aa).q fun a w W F => ?_
  refine ls W F Aa (FH W Aa).q fun a w W F => ?_
  refine ls W F Aa (Ah W Aa).q fun a w W F => ?_
  rcases Bool.eq_false_or_eq_true (!x4.2.2) with hb | hb
  ·
   have H := AQ hb H
   rw [hb] at W
   clear hb
   iterate 4 refine Ec W Aa Aa Aa Aa Aa Aa Aa fun a W => ?_
   refine ls W F Aa (AE W Aa Aa Aa).q fun a w W F => ?_
   refine Ae (Ad ?_)
   have F := F.frontZ (i := 2) Aa Aa
   have F := F.frontZ (i := 2) Aa Aa
   have F := F.frontZ (i := 2) Aa Aa
   have F := F.frontM (i := 3) Aa Aa
   have F := F.frontM (i := 3) Aa Aa
   have F := F.frontM (i := 3) Aa Aa
   have F := F.frontM (i := 3) Aa Aa
   exact ⟨_, H, W.re ⟨rfl, Aa, Aa, Aa, Aa, Aa, Aa, Aa, trivial⟩, F⟩
  have H := AR (by rw [hb]; decide) H
  rw [hb] at W
  clear hb
  iterate 2 refine AX W F (Ak W Aa Aa Aa Aa) Aa (Ay Aa) (Ah W Aa).q fun a w W F => ?_
  refine JT (Ak W Aa Aa Aa Aa) ?_
  obtain ⟨x6, h4, H⟩ := An H
  refine ls W F Aa (A1 (v := Value.bool x6) W M9 Aa (fun w F => Cu any w (v1) p0 x4.2.1 ([101, 108, 115, 101] : List UInt8) _ h4 (((AG h_v1) : EN _ _ _ _ _ _) w F).nx)) fun a w W F => ?_
  refine AX W F (Ak W Aa Aa Aa Aa) Aa (Ay Aa) (FH W Aa).q fun a w W F => ?_
  refine ls W F Aa (AN W Aa Aa Aa).q fun a w W F => ?_
  refine Ae (Ad ?_)
  have F := F.frontZ (i := 2) Aa Aa
  have F := F.frontZ (i := 2) Aa Aa
  have F := F.frontZ (i := 2) Aa Aa
  have F := F.frontM (i := 3) Aa Aa
  have F := F.frontM (i := 3) Aa Aa
  have F := F.frontM (i := 3) Aa Aa
  have F := F.frontM (i := 3) Aa Aa
  exact ⟨_, H, W.re ⟨rfl, Aa, Aa, Aa, Aa, Aa, Aa, Aa, trivial⟩, F⟩
 rintro a w ⟨x5, hj, W, F⟩
 have hj := AH hj
 subst hj
 have H := K2
 clear G2 K2
 refine Aw W Aa (fun hb => ?_) fun hb => ?_
 ·
  have H := AQ hb H
  rw [hb] at W
  clear hb
  refine Ai (Ab ?_)
  refine ls W F Aa (AJ (v := Value.agg #[.int .i64 5, .int .i64 x1.1.un.1, .int .i64 x1.1.un.2.1, .int .i64 x1.1.un.2.2.1, v2, .int .i64 0, .int .i64 0, .slice none 0 0]) 2 W Aa Aa EU Aa).q fun a w W F => ?_
  refine ls W F Aa (Ah W Aa).q fun a w W F => ?_
  refine Au (vs := (Qm x1 v2)) (M' := [(b4, [.int .i64 x4.1.un.1, .int .i64 x4.1.un.2.1.un.1, .int .i64 x4.1.un.2.1.un.2.1, .int .i64 x4.1.un.2.1.un.2.2.1, v3, .int .i64 x4.1.un.2.2.1, .int .i64 x4.1.un.2.2.2.1, v4]), (b3, [.int .i64 x1.1.un.1, .int .i64 x1.1.un.2.1, .int .i64 x1.1.un.2.2.1, v2]), (b2, [.int .i64 5, .int .i64 x1.1.un.1, .int .i64 x1.1.un.2.1, .int .i64 x1.1.un.2.2.1, v2, .int .i64 0, .int .i64 0, .slice none 0 0]), (b1, [.int .i64 5, .int .i64 x1.1.un.1, .int .i64 x1.1.un.2.1, .int .i64 x1.1.un.2.2.1, v2, .int .i64 0, .int .i64 0, .slice none 0 0])]) 3 W F Aa Aa Aa EU Aa Aa Aa (Ac Aa (Ac Aa (Ac Aa (Ac Aa (Ac (F.oneF (k := 2) Aa) (Ac Aa (Ac Aa (Ac Aa AM)))))))) Aa fun w F => ?_
  iterate 2 refine ls W F Aa (Ag W Aa).q fun a w W F => ?_
  refine Ae (Ad (Aq (AD ?_)))
  have H := AH H
  subst H
  refine CD (.inl Aa) W F Aa (AB 3 W Aa Aa EU Aa) (Ap W Aa) (Ap W Aa) ?_
  have F := F.nilRow 37 B3
  have F := F.frontZ (i := 3) Aa Aa
  have F := F.sub (M' := []) (Z' := [Av v2 A9 x1.1.un.2.2.2, row (Value.slice none 0 0) 37 B3 ([])]) (List.nil_sublist _) (List.Sublist.cons_cons _ (List.Sublist.cons_cons _ (List.nil_sublist _)))
  exact ⟨((v2), (Value.slice none 0 0)), Aa, F⟩
 have H := AR (by rw [hb]; decide) H
 rw [hb] at W
 clear hb
 refine Ax (Ad (Ai (Ab ?_)))
 iterate 2 refine ls W F Aa (Ah W Aa).q fun a w W F => ?_
 refine ls W F Aa (BT W Aa Aa Aa).q fun a w W F => ?_
 obtain ⟨x7, h5, H⟩ := An H
 refine AO (Ml := []) (Zl := []) (M := (OM b4 x4 v3 v4 b3 x1 v2 b2 b1)) (Z := [Av v3 A9 x4.1.un.2.1.un.2.2.2, Av v4 B3 x4.1.un.2.2.2.2, Av v2 A9 x1.1.un.2.2.2]) (β := Value × Value) (rv := fun x => .tuple #[.agg #[.int .i64 x7.1.un.1, .int .i64 x7.1.un.2.1.un.1, .int .i64 x7.1.un.2.1.un.2.1, .int .i64 x7.1.un.2.1.un.2.2.1, x.1, .int .i64 x7.1.un.2.2.1, .int .i64 x7.1.un.2.2.2.1, x.2], .int .i64 x7.2.1, .bool x7.2.2]) (MM := fun x => []) (ZZ := fun x => [Av x.1 A9 x7.1.un.2.1.un.2.2.2, Av x.2 B3 x7.1.un.2.2.2.2]) W F Sr Aa Aa (fun hL => ih_r29_step _ w (v1) p0 (Co (x4.2.1 + 1)) _ h5 ((AG h_v1) w F).nx) fun x a w W F => ?_
 obtain ⟨v5, v6⟩ := x
 have F : Stw ⟨Y, [], w0⟩ (OM b4 x4 v3 v4 b3 x1 v2 b2 b1) [Av v5 A9 x7.1.un.2.1.un.2.2.2, Av v6 B3 x7.1.un.2.2.2.2, Av v3 A9 x4.1.un.2.1.un.2.2.2, Av v4 B3 x4.1.un.2.2.2.2, Av v2 A9 x1.1.un.2.2.2] w := F
 refine ls W F Aa (Ah W Aa).q fun a w W F => ?_
 refine ls W F Aa (As (v := Value.agg #[.int .i64 x7.1.un.1, .int .i64 x7.1.un.2.1.un.1, .int .i64 x7.1.un.2.1.un.2.1, .int .i64 x7.1.un.2.1.un.2.2.1, v5, .int .i64 x7.1.un.2.2.1, .int .i64 x7.1.un.2.2.2.1, v6]) W Aa Aa).q fun a w W F => ?_
 refine ls W F Aa (As (v := Value.int .i64 x7.2.1) W Aa Aa).q fun a w W F => ?_
 refine ls W F Aa (As (v := Value.bool x7.2.2) W Aa Aa).q fun a w W F => ?_
 refine AU (cs := (Bl)) W F Aa LH Aa fun b5 a w W F => ?_
 refine Au (vs := (EL x7 v5 v6)) (M' := [(b5, (EL x7 v5 v6)), (b4, (EL x4 v3 v4)), (b3, (EZ x1 v2)), (b2, (Qm x1 v2)), (b1, (Bl))]) 0 W F Aa Aa Aa EU Aa Aa Aa (Ac Aa (Ac Aa (Ac Aa (Ac Aa (Ac (F.oneF (k := 0) Aa) (Ac Aa (Ac Aa (Ac (F.oneF (k := 1) Aa) AM)))))))) Aa fun w F => ?_
 iterate 2 refine ls W F Aa (Ag W Aa).q fun a w W F => ?_
 refine Ae (Ad (Ai (Ab ?_)))
 refine ls W F Aa (AJ (v := Value.agg #[.int .i64 x4.1.un.1, .int .i64 x4.1.un.2.1.un.1, .int .i64 x4.1.un.2.1.un.2.1, .int .i64 x4.1.un.2.1.un.2.2.1, v3, .int .i64 x4.1.un.2.2.1, .int .i64 x4.1.un.2.2.2.1, v4]) 1 W Aa Aa EU Aa).q fun a w W F => ?_
 refine ls W F Aa (AJ (v := Value.agg #[.int .i64 x7.1.un.1, .int .i64 x7.1.un.2.1.un.1, .int .i64 x7.1.un.2.1.un.2.1, .int .i64 x7.1.un.2.1.un.2.2.1, v5, .int .i64 x7.1.un.2.2.1, .int .i64 x7.1.un.2.2.2.1, v6]) 0 W Aa Aa EU Aa).q fun a w W F => ?_
 refine Dj (z := Value.agg #[.int .i64 0, .int .i64 0, .int .i64 0, .int .i64 0, .slice none 0 0, .int .i64 0, .int .i64 0, .slice none 0 0]) (cs := [.int .i64 x4.1.un.1, .int .i64 x4.1.un.2.1.un.1, .int .i64 x4.1.un.2.1.un.2.1, .int .i64 x4.1.un.2.1.un.2.2.1, v3, .int .i64 x4.1.un.2.2.1, .int .i64 x4.1.un.2.2.2.1, v4, .int .i64 x7.1.un.1, .int .i64 x7.1.un.2.1.un.1, .int .i64 x7.1.un.2.1.un.2.1, .int .i64 x7.1.un.2.1.un.2.2.1, v5, .int .i64 x7.1.un.2.2.1, .int .i64 x7.1.un.2.2.2.1, v6]) B3 ([Tr37.of (x4.1.un.1, Tr34.of (x4.1.un.2.1.un.1, x4.1.un.2.1.un.2.1, x4.1.un.2.1.un.2.2.1, x4.1.un.2.1.un.2.2.2), x4.1.un.2.2.1, x4.1.un.2.2.2.1, x4.1.un.2.2.2.2), Tr37.of (x7.1.un.1, Tr34.of (x7.1.un.2.1.un.1, x7.1.un.2.1.un.2.1, x7.1.un.2.1.un.2.2.1, x7.1.un.2.1.un.2.2.2), x7.1.un.2.2.1, x7.1.un.2.2.2.1, x7.1.un.2.2.2.2)] : List Tr37) W F Aa P9 LH Aa Aa Aa (AK Aa Aa Aa (AK Aa Aa Aa Br)) Aa Aa ⟨[Value.int .i64 x4.1.un.1, Value.int .i64 x4.1.un.2.1.un.1, Value.int .i64 x4.1.un.2.1.un.2.1, Value.int .i64 x4.1.un.2.1.un.2.2.1, v3, Value.int .i64 x4.1.un.2.2.1, Value.int .i64 x4.1.un.2.2.2.1, v4], _, Aa, (Om.2 ⟨[Value.int .i64 x4.1.un.1], [Value.int .i64 x4.1.un.2.1.un.1, Value.int .i64 x4.1.un.2.1.un.2.1, Value.int .i64 x4.1.un.2.1.un.2.2.1, v3, Value.int .i64 x4.1.un.2.2.1, Value.int .i64 x4.1.un.2.2.2.1, v4], Aa, Aa, ⟨[Value.int .i64 x4.1.un.2.1.un.1, Value.int .i64 x4.1.un.2.1.un.2.1, Value.int .i64 x4.1.un.2.1.un.2.2.1, v3], [Value.int .i64 x4.1.un.2.2.1, Value.int .i64 x4.1.un.2.2.2.1, v4], Aa, (J1.2 ⟨[Value.int .i64 x4.1.un.2.1.un.1], [Value.int .i64 x4.1.un.2.1.un.2.1, Value.int .i64 x4.1.un.2.1.un.2.2.1, v3], Aa, Aa, ⟨[Value.int .i64 x4.1.un.2.1.un.2.1], [Value.int .i64 x4.1.un.2.1.un.2.2.1, v3], Aa, Aa, ⟨[Value.int .i64 x4.1.un.2.1.un.2.2.1], [v3], Aa, Aa, ⟨_, Aa, (F.item (i := 2) Aa)⟩⟩⟩⟩), ⟨[Value.int .i64 x4.1.un.2.2.1], [Value.int .i64 x4.1.un.2.2.2.1, v4], Aa, Aa, ⟨[Value.int .i64 x4.1.un.2.2.2.1], [v4], Aa, Aa, ⟨_, Aa, (F.item (i := 3) Aa)⟩⟩⟩⟩⟩), ⟨[Value.int .i64 x7.1.un.1, Value.int .i64 x7.1.un.2.1.un.1, Value.int .i64 x7.1.un.2.1.un.2.1, Value.int .i64 x7.1.un.2.1.un.2.2.1, v5, Value.int .i64 x7.1.un.2.2.1, Value.int .i64 x7.1.un.2.2.2.1, v6], _, Aa, (Om.2 ⟨[Value.int .i64 x7.1.un.1], [Value.int .i64 x7.1.un.2.1.un.1, Value.int .i64 x7.1.un.2.1.un.2.1, Value.int .i64 x7.1.un.2.1.un.2.2.1, v5, Value.int .i64 x7.1.un.2.2.1, Value.int .i64 x7.1.un.2.2.2.1, v6], Aa, Aa, ⟨[Value.int .i64 x7.1.un.2.1.un.1, Value.int .i64 x7.1.un.2.1.un.2.1, Value.int .i64 x7.1.un.2.1.un.2.2.1, v5], [Value.int .i64 x7.1.un.2.2.1, Value.int .i64 x7.1.un.2.2.2.1, v6], Aa, (J1.2 ⟨[Value.int .i64 x7.1.un.2.1.un.1], [Value.int .i64 x7.1.un.2.1.un.2.1, Value.int .i64 x7.1.un.2.1.un.2.2.1, v5], Aa, Aa, ⟨[Value.int .i64 x7.1.un.2.1.un.2.1], [Value.int .i64 x7.1.un.2.1.un.2.2.1, v5], Aa, Aa, ⟨[Value.int .i64 x7.1.un.2.1.un.2.2.1], [v5], Aa, Aa, ⟨_, Aa, (F.item (i := 0) Aa)⟩⟩⟩⟩), ⟨[Value.int .i64 x7.1.un.2.2.1], [Value.int .i64 x7.1.un.2.2.2.1, v6], Aa, Aa, ⟨[Value.int .i64 x7.1.un.2.2.2.1], [v6], Aa, Aa, ⟨_, Aa, (F.item (i := 1) Aa)⟩⟩⟩⟩⟩), Aa⟩⟩ fun v7 a w W F => ?_
 refine ls W F Aa (Ao H5 Aa Aa Aa NY W Aa 7 Aa).q fun a w W F => ?_
 refine LD (M' := [(b5, (EL x7 v5 v6)), (b4, (EL x4 v3 v4)), (b3, (EZ x1 v2)), (b2, (OZ x1 v2 v7)), (b1, (Bl))]) 3 W F Aa Aa Aa NY (F.one (k := 0) Aa) Aa Aa fun w F => ?_
 refine Ae (Ad (Ai (Ab ?_)))
 refine ls W F Aa (AJ (v := Value.agg #[.int .i64 5, .int .i64 x1.1.un.1, .int .i64 x1.1.un.2.1, .int .i64 x1.1.un.2.2.1, v2, .int .i64 0, .int .i64 0, v7]) 3 W Aa Aa EU Aa).q fun a w W F => ?_
 iterate 2 refine ls W F Aa (Ah W Aa).q fun a w W F => ?_
 refine Au (vs := (OZ x1 v2 v7)) (M' := [(b5, (EL x7 v5 v6)), (b4, (EL x4 v3 v4)), (b3, (EZ x1 v2)), (b2, (OZ x1 v2 v7)), (b1, (OZ x1 v2 v7))]) 4 W F Aa Aa Aa EU Aa Aa Aa (Ac Aa (Ac Aa (Ac Aa (Ac Aa (Ac (F.oneF (k := 5) Aa) (Ac Aa (Ac Aa (Ac (F.one (k := 0) Aa) AM)))))))) Aa fun w F => ?_
 iterate 2 refine ls W F Aa (Ag W Aa).q fun a w W F => ?_
 refine Ae (Ad (Aq ?_))
 have H := AH H
 subst H
 refine CD (.inl Aa) W F Aa (AB 4 W Aa Aa EU Aa) (Ap W Aa) (Ap W Aa) ?_
 have F := F.frontZ (i := 5) Aa Aa
 have F := F.sub (M' := []) (Z' := [Av v2 A9 x1.1.un.2.2.2, row v7 37 B3 ([Tr37.of (x4.1.un.1, Tr34.of (x4.1.un.2.1.un.1, x4.1.un.2.1.un.2.1, x4.1.un.2.1.un.2.2.1, x4.1.un.2.1.un.2.2.2), x4.1.un.2.2.1, x4.1.un.2.2.2.1, x4.1.un.2.2.2.2), Tr37.of (x7.1.un.1, Tr34.of (x7.1.un.2.1.un.1, x7.1.un.2.1.un.2.1, x7.1.un.2.1.un.2.2.1, x7.1.un.2.1.un.2.2.2), x7.1.un.2.2.1, x7.1.un.2.2.2.1, x7.1.un.2.2.2.2)] : List Tr37)]) (List.nil_sublist _) (List.Sublist.cons_cons _ (List.Sublist.cons_cons _ (List.nil_sublist _)))
 exact ⟨((v2), (v7)), Aa, F⟩
theorem SW : Has Tryd.prog 108 := ⟨fun args w => Al Tryd.func108 rfl (by decide) args w⟩
theorem S8 : Has Tryd.prog 31 := ⟨fun args w => Al Tryd.func31 rfl (by decide) args w⟩
abbrev Hx (a0 : Nat) (a1 : Tr37 × Int × Bool) (a2 : Value) (a3 : Value) (a4 : Nat) : List (Nat × List Value) := [(a0, [.int .i64 a1.1.un.1, .int .i64 a1.1.un.2.1.un.1, .int .i64 a1.1.un.2.1.un.2.1, .int .i64 a1.1.un.2.1.un.2.2.1, a2, .int .i64 a1.1.un.2.2.1, .int .i64 a1.1.un.2.2.2.1, a3]), (a4, [.int .i64 0, .int .i64 0, .int .i64 0, .int .i64 0, .slice none 0 0, .int .i64 0, .int .i64 0, .slice none 0 0])]
abbrev P5 (a0 : Nat) (a1 : Tr37 × Int × Bool) (a2 : Value) (a3 : Value) (a4 : Nat) : List (Nat × List Value) := [(a0, [.int .i64 a1.1.un.1, .int .i64 a1.1.un.2.1.un.1, .int .i64 a1.1.un.2.1.un.2.1, .int .i64 a1.1.un.2.1.un.2.2.1, a2, .int .i64 a1.1.un.2.2.1, .int .i64 a1.1.un.2.2.2.1, a3]), (a4, [.int .i64 a1.1.un.1, .int .i64 a1.1.un.2.1.un.1, .int .i64 a1.1.un.2.1.un.2.1, .int .i64 a1.1.un.2.1.un.2.2.1, a2, .int .i64 a1.1.un.2.2.1, .int .i64 a1.1.un.2.2.2.1, a3])]
noncomputable def DQ (fRec_r29_rows : (List (Int × Int × List UInt8 × Int)) → Int → Option (Tr37 × Int × Bool)) (fRec : (List (Int × Int × List UInt8 × Int)) → Int → Option (Tr37 × Int × Bool)) (p0 : List (Int × Int × List UInt8 × Int)) (p1 : Int) : Option (Tr37 × Int × Bool) := (CJ p0 p1 ([100, 114, 111, 112] : List UInt8)).bind fun x1 => (if x1 = true then some (Tr37.of (1, Tr34.of (2, 0, 0, ([] : List Tr34)), 0, 0, ([] : List Tr37)), Co (p1 + 1), true) else (CJ p0 p1 ([105, 100] : List UInt8)).bind fun x2 => (if x2 = true then some (Tr37.of (1, Tr34.of (1, 0, 0, ([] : List Tr34)), 0, 0, ([] : List Tr37)), Co (p1 + 1), true) else (CJ p0 p1 ([119, 104, 101, 110] : List UInt8)).bind fun x3 => (if x3 = true then (GO p0 (Co (p1 + 1))).bind fun x4 => some (Tr37.of (1, x4.1, 0, 0, ([] : List Tr37)), x4.2.1, x4.2.2) else (CJ p0 p1 ([105, 102] : List UInt8)).bind fun x5 => (if x5 = true then ((D3 fRec) p0 (Co (p1 + 1))).bind fun x6 => some (Tr37.of (x6.1.un.1, Tr34.of (x6.1.un.2.1.un.1, x6.1.un.2.1.un.2.1, x6.1.un.2.1.un.2.2.1, x6.1.un.2.1.un.2.2.2), x6.1.un.2.2.1, x6.1.un.2.2.2.1, x6.1.un.2.2.2.2), x6.2.1, x6.2.2) else (CJ p0 p1 ([40] : List UInt8)).bind fun x7 => (if x7 = true then (fRec_r29_rows p0 (Co (p1 + 1))).bind fun x8 => (if (!x8.2.2) = true then some true else (CJ p0 x8.2.1 ([41] : List UInt8)).bind fun x10 => some (!x10)).bind fun x9 => (if x9 = true then some (Tr37.of (x8.1.un.1, Tr34.of (x8.1.un.2.1.un.1, x8.1.un.2.1.un.2.1, x8.1.un.2.1.un.2.2.1, x8.1.un.2.1.un.2.2.2), x8.1.un.2.2.1, x8.1.un.2.2.2.1, x8.1.un.2.2.2.2), x8.2.1, false) else some (Tr37.of (x8.1.un.1, Tr34.of (x8.1.un.2.1.un.1, x8.1.un.2.1.un.2.1, x8.1.un.2.1.un.2.2.1, x8.1.un.2.1.un.2.2.2), x8.1.un.2.2.1, x8.1.un.2.2.2.1, x8.1.un.2.2.2.2), Co (x8.2.1 + 1), true)) else (D8 p0 p1 5 ([58, 61] : List UInt8)).bind fun x11 => some (Tr37.of (2, Tr34.of (0, 0, 0, ([] : List Tr34)), x11.1, x11.2.1, ([] : List Tr37)), x11.2.2.1, x11.2.2.2))))))
noncomputable def C5 (fRec_r29_rows : (List (Int × Int × List UInt8 × Int)) → Int → Option (Tr37 × Int × Bool)) : Nat → (List (Int × Int × List UInt8 × Int)) → Int → Option (Tr37 × Int × Bool)
  | 0 => fun _ _ => none
  | n + 1 => DQ fRec_r29_rows (C5 fRec_r29_rows n)
noncomputable def GJ (fRec_r29_rows : (List (Int × Int × List UInt8 × Int)) → Int → Option (Tr37 × Int × Bool)) (p0 : List (Int × Int × List UInt8 × Int)) (p1 : Int) : Option (Tr37 × Int × Bool) := Gx fun n => C5 fRec_r29_rows n p0 p1
theorem M3 (fRec_r29_rows : (List (Int × Int × List UInt8 × Int)) → Int → Option (Tr37 × Int × Bool)) (ih_r29_rows : ∀ (Y : Nat → Prop) (w0 : World) (v1 : Value) (p0 : List (Int × Int × List UInt8 × Int)) (p1 : Int) (r : Tr37 × Int × Bool) (H : fRec_r29_rows p0 p1 = some r) (h_v1 : Sl w0 (NX []) DA v1 p0), Calls Tryd.prog 31 #[v1, .int .i64 p1] w0 fun e w' => ∃ x : Value × Value, e = .returned (.tuple #[.agg #[.int .i64 r.1.un.1, .int .i64 r.1.un.2.1.un.1, .int .i64 r.1.un.2.1.un.2.1, .int .i64 r.1.un.2.1.un.2.2.1, x.1, .int .i64 r.1.un.2.2.1, .int .i64 r.1.un.2.2.2.1, x.2], .int .i64 r.2.1, .bool r.2.2]) ∧ Stw ⟨Y, [], w0⟩ [] [Av (x.1) A9 r.1.un.2.1.un.2.2.2, Av (x.2) B3 r.1.un.2.2.2.2] w') (fRec : (List (Int × Int × List UInt8 × Int)) → Int → Option (Tr37 × Int × Bool)) (ih : ∀ (Y : Nat → Prop) (w0 : World) (v1 : Value) (p0 : List (Int × Int × List UInt8 × Int)) (p1 : Int) (r : Tr37 × Int × Bool) (H : fRec p0 p1 = some r) (h_v1 : Sl w0 (NX []) DA v1 p0), Calls Tryd.prog 87 #[v1, .int .i64 p1] w0 fun e w' => ∃ x : Value × Value, e = .returned (.tuple #[.agg #[.int .i64 r.1.un.1, .int .i64 r.1.un.2.1.un.1, .int .i64 r.1.un.2.1.un.2.1, .int .i64 r.1.un.2.1.un.2.2.1, x.1, .int .i64 r.1.un.2.2.1, .int .i64 r.1.un.2.2.2.1, x.2], .int .i64 r.2.1, .bool r.2.2]) ∧ Stw ⟨Y, [], w0⟩ [] [Av (x.1) A9 r.1.un.2.1.un.2.2.2, Av (x.2) B3 r.1.un.2.2.2.2] w') (Y : Nat → Prop) (w0 : World) (v1 : Value) (p0 : List (Int × Int × List UInt8 × Int)) (p1 : Int) (r : Tr37 × Int × Bool) (H : DQ fRec_r29_rows fRec p0 p1 = some r) (h_v1 : Sl w0 (NX []) DA v1 p0) :
    Calls Tryd.prog 87 #[v1, .int .i64 p1] w0 fun e w' => ∃ x : Value × Value, e = .returned (.tuple #[.agg #[.int .i64 r.1.un.1, .int .i64 r.1.un.2.1.un.1, .int .i64 r.1.un.2.1.un.2.1, .int .i64 r.1.un.2.1.un.2.2.1, x.1, .int .i64 r.1.un.2.2.1, .int .i64 r.1.un.2.2.2.1, x.2], .int .i64 r.2.1, .bool r.2.2]) ∧ Stw ⟨Y, [], w0⟩ [] [Av (x.1) A9 r.1.un.2.1.un.2.2.2, Av (x.2) B3 r.1.un.2.2.2.2] w' := by
 refine enter Tryd.func87 Aa Tryd.ntmps87 Aa fun a W => ?_
 have F := Stw.start Y w0
 unfold DQ at H
 refine Ai (Ab ?_)
 refine AU (cs := (Bl)) W F Aa LH Aa fun b1 a w W F => ?_
 iterate 2 refine ls W F Aa (Ag W Aa).q fun a w W F => ?_
 refine Ae (Ad (Ai (Ai (Ab ?_))))
 iterate 2 refine ls W F Aa (Ah W Aa).q fun a w W F => ?_
 obtain ⟨x1, h1, H⟩ := An H
 refine ls W F Aa (A1 (v := Value.bool x1) W M9 Aa (fun w F => Cu any w (v1) p0 p1 ([100, 114, 111, 112] : List UInt8) _ h1 (((AG h_v1) : EN _ _ _ _ _ _) w F).nx)) fun a w W F => ?_
 refine Ae (Ad ?_)
 refine Aw W Aa (fun hb => ?_) fun hb => ?_
 ·
  have H := AQ hb H
  rw [hb] at W
  clear hb
  refine Ai (Ab ?_)
  refine ls W F Aa (Ba (v := Value.agg #[.int .i64 2, .int .i64 0, .int .i64 0, .slice none 0 0]) PW W Aa Aa Aa).q fun a w W F => ?_
  refine ls W F Aa (Ba (v := Value.agg #[.int .i64 1, .int .i64 2, .int .i64 0, .int .i64 0, .slice none 0 0, .int .i64 0, .int .i64 0, .slice none 0 0]) Qo W Aa Aa Aa).q fun a w W F => ?_
  refine ls W F Aa (Ah W Aa).q fun a w W F => ?_
  refine ls W F Aa (BT W Aa Aa Aa).q fun a w W F => ?_
  refine Au (vs := [.int .i64 1, .int .i64 2, .int .i64 0, .int .i64 0, .slice none 0 0, .int .i64 0, .int .i64 0, .slice none 0 0]) (M' := [(b1, [.int .i64 1, .int .i64 2, .int .i64 0, .int .i64 0, .slice none 0 0, .int .i64 0, .int .i64 0, .slice none 0 0])]) 0 W F Aa Aa Aa EU Aa Aa Aa Aa Aa fun w F => ?_
  iterate 2 refine ls W F Aa (Ag W Aa).q fun a w W F => ?_
  refine Ae (Ad (Aq (AD ?_)))
  have H := AH H
  subst H
  refine CD (.inl Aa) W F Aa (AB 0 W Aa Aa EU Aa) (Ap W Aa) (Ap W Aa) ?_
  have F := F.note (Sl.nil (r := A9))
  have F := F.note (Sl.nil (r := B3))
  have F := F.frontZ (i := 1) Aa Aa
  have F := F.sub (M' := []) (Z' := [Av (Value.slice none 0 0) A9 ([]), Av (Value.slice none 0 0) B3 ([])]) (List.nil_sublist _) (List.Sublist.refl _)
  exact ⟨((Value.slice none 0 0), (Value.slice none 0 0)), Aa, F⟩
 have H := AR (by rw [hb]; decide) H
 rw [hb] at W
 clear hb
 refine Ax (Ad (Ai (Ai (Ab ?_))))
 iterate 2 refine ls W F Aa (Ah W Aa).q fun a w W F => ?_
 obtain ⟨x2, h2, H⟩ := An H
 refine ls W F Aa (A1 (v := Value.bool x2) W M9 Aa (fun w F => Cu any w (v1) p0 p1 ([105, 100] : List UInt8) _ h2 (((AG h_v1) : EN _ _ _ _ _ _) w F).nx)) fun a w W F => ?_
 refine Ae (Ad ?_)
 refine Aw W Aa (fun hb => ?_) fun hb => ?_
 ·
  have H := AQ hb H
  rw [hb] at W
  clear hb
  refine Ai (Ab ?_)
  refine ls W F Aa (Ba (v := Value.agg #[.int .i64 1, .int .i64 0, .int .i64 0, .slice none 0 0]) PW W Aa Aa Aa).q fun a w W F => ?_
  refine ls W F Aa (Ba (v := Value.agg #[.int .i64 1, .int .i64 1, .int .i64 0, .int .i64 0, .slice none 0 0, .int .i64 0, .int .i64 0, .slice none 0 0]) Qo W Aa Aa Aa).q fun a w W F => ?_
  refine ls W F Aa (Ah W Aa).q fun a w W F => ?_
  refine ls W F Aa (BT W Aa Aa Aa).q fun a w W F => ?_
  refine Au (vs := [.int .i64 1, .int .i64 1, .int .i64 0, .int .i64 0, .slice none 0 0, .int .i64 0, .int .i64 0, .slice none 0 0]) (M' := [(b1, [.int .i64 1, .int .i64 1, .int .i64 0, .int .i64 0, .slice none 0 0, .int .i64 0, .int .i64 0, .slice none 0 0])]) 0 W F Aa Aa Aa EU Aa Aa Aa Aa Aa fun w F => ?_
  iterate 2 refine ls W F Aa (Ag W Aa).q fun a w W F => ?_
  refine Ae (Ad (Aq (AD ?_)))
  have H := AH H
  subst H
  refine CD (.inl Aa) W F Aa (AB 0 W Aa Aa EU Aa) (Ap W Aa) (Ap W Aa) ?_
  have F := F.note (Sl.nil (r := A9))
  have F := F.note (Sl.nil (r := B3))
  have F := F.frontZ (i := 1) Aa Aa
  have F := F.sub (M' := []) (Z' := [Av (Value.slice none 0 0) A9 ([]), Av (Value.slice none 0 0) B3 ([])]) (List.nil_sublist _) (List.Sublist.refl _)
  exact ⟨((Value.slice none 0 0), (Value.slice none 0 0)), Aa, F⟩
 have H := AR (by rw [hb]; decide) H
 rw [hb] at W
 clear hb
 refine Ax (Ad (Ai (Ai (Ab ?_))))
 iterate 2 refine ls W F Aa (Ah W Aa).q fun a w W F => ?_
 obtain ⟨x3, h3, H⟩ := An H
 refine ls W F Aa (A1 (v := Value.bool x3) W M9 Aa (fun w F => Cu any w (v1) p0 p1 ([119, 104, 101, 110] : List UInt8) _ h3 (((AG h_v1) : EN _ _ _ _ _ _) w F).nx)) fun a w W F => ?_
 refine Ae (Ad ?_)
 refine Aw W Aa (fun hb => ?_) fun hb => ?_
 ·
  have H := AQ hb H
  rw [hb] at W
  clear hb
  refine Ai (Ab ?_)
  iterate 2 refine ls W F Aa (Ah W Aa).q fun a w W F => ?_
  refine ls W F Aa (BT W Aa Aa Aa).q fun a w W F => ?_
  obtain ⟨x4, h4, H⟩ := An H
  refine AO (Ml := []) (Zl := []) (M := (Cc b1)) (Z := []) (β := Value) (rv := fun x => .tuple #[.agg #[.int .i64 x4.1.un.1, .int .i64 x4.1.un.2.1, .int .i64 x4.1.un.2.2.1, x], .int .i64 x4.2.1, .bool x4.2.2]) (MM := fun x => []) (ZZ := fun x => [Av x A9 x4.1.un.2.2.2]) W F So Aa Aa (fun hL => Jp _ w (v1) p0 (Co (p1 + 1)) _ h4 ((AG h_v1) w F).nx) fun x a w W F => ?_
  obtain ⟨v2, rfl⟩ : ∃ y, y = x := ⟨x, rfl⟩
  have F : Stw ⟨Y, [], w0⟩ (Cc b1) [Av v2 A9 x4.1.un.2.2.2] w := F
  refine ls W F Aa (Ah W Aa).q fun a w W F => ?_
  refine ls W F Aa (As (v := Value.agg #[.int .i64 x4.1.un.1, .int .i64 x4.1.un.2.1, .int .i64 x4.1.un.2.2.1, v2]) W Aa Aa).q fun a w W F => ?_
  refine ls W F Aa (As (v := Value.int .i64 x4.2.1) W Aa Aa).q fun a w W F => ?_
  refine ls W F Aa (As (v := Value.bool x4.2.2) W Aa Aa).q fun a w W F => ?_
  refine AU (cs := (B2)) W F Aa Ms Aa fun b2 a w W F => ?_
  refine Au (vs := (EZ x4 v2)) (M' := [(b2, [.int .i64 x4.1.un.1, .int .i64 x4.1.un.2.1, .int .i64 x4.1.un.2.2.1, v2]), (b1, [.int .i64 0, .int .i64 0, .int .i64 0, .int .i64 0, .slice none 0 0, .int .i64 0, .int .i64 0, .slice none 0 0])]) 0 W F Aa Aa Aa Fh Aa Aa Aa (Ac Aa (Ac Aa (Ac Aa (Ac (F.oneF (k := 0) Aa) AM)))) Aa fun w F => ?_
  iterate 2 refine ls W F Aa (Ag W Aa).q fun a w W F => ?_
  refine Ae (Ad (Ai (Ab ?_)))
  refine ls W F Aa (AJ (v := Value.agg #[.int .i64 x4.1.un.1, .int .i64 x4.1.un.2.1, .int .i64 x4.1.un.2.2.1, v2]) 0 W Aa Aa Fh Aa).q fun a w W F => ?_
  refine ls W F Aa (Ba (v := Value.agg #[.int .i64 1, .int .i64 x4.1.un.1, .int .i64 x4.1.un.2.1, .int .i64 x4.1.un.2.2.1, v2, .int .i64 0, .int .i64 0, .slice none 0 0]) Qo W Aa (AK Aa Aa Aa (AK Aa Aa Aa Br)) Aa).q fun a w W F => ?_
  iterate 2 refine ls W F Aa (Ah W Aa).q fun a w W F => ?_
  refine Au (vs := [.int .i64 1, .int .i64 x4.1.un.1, .int .i64 x4.1.un.2.1, .int .i64 x4.1.un.2.2.1, v2, .int .i64 0, .int .i64 0, .slice none 0 0]) (M' := [(b2, [.int .i64 x4.1.un.1, .int .i64 x4.1.un.2.1, .int .i64 x4.1.un.2.2.1, v2]), (b1, [.int .i64 1, .int .i64 x4.1.un.1, .int .i64 x4.1.un.2.1, .int .i64 x4.1.un.2.2.1, v2, .int .i64 0, .int .i64 0, .slice none 0 0])]) 1 W F Aa Aa Aa EU Aa Aa Aa (Ac Aa (Ac Aa (Ac Aa (Ac Aa (Ac (F.oneF (k := 0) Aa) (Ac Aa (Ac Aa (Ac Aa AM)))))))) Aa fun w F => ?_
  iterate 2 refine ls W F Aa (Ag W Aa).q fun a w W F => ?_
  refine Ae (Ad (Aq (AD ?_)))
  have H := AH H
  subst H
  refine CD (.inl Aa) W F Aa (AB 1 W Aa Aa EU Aa) (Ap W Aa) (Ap W Aa) ?_
  have F := F.note (Sl.nil (r := B3))
  have F := F.frontZ (i := 1) Aa Aa
  have F := F.sub (M' := []) (Z' := [Av v2 A9 x4.1.un.2.2.2, Av (Value.slice none 0 0) B3 ([])]) (List.nil_sublist _) (List.Sublist.refl _)
  exact ⟨((v2), (Value.slice none 0 0)), Aa, F⟩
 have H := AR (by rw [hb]; decide) H
 rw [hb] at W
 clear hb
 refine Ax (Ad (Ai (Ai (Ab ?_))))
 iterate 2 refine ls W F Aa (Ah W Aa).q fun a w W F => ?_
 obtain ⟨x5, h5, H⟩ := An H
 refine ls W F Aa (A1 (v := Value.bool x5) W M9 Aa (fun w F => Cu any w (v1) p0 p1 ([105, 102] : List UInt8) _ h5 (((AG h_v1) : EN _ _ _ _ _ _) w F).nx)) fun a w W F => ?_
 refine Ae (Ad ?_)
 refine Aw W Aa (fun hb => ?_) fun hb => ?_
 ·
  have H := AQ hb H
  rw [hb] at W
  clear hb
  refine Ai (Ab ?_)
  iterate 2 refine ls W F Aa (Ah W Aa).q fun a w W F => ?_
  refine ls W F Aa (BT W Aa Aa Aa).q fun a w W F => ?_
  obtain ⟨x6, h6, H⟩ := An H
  refine AO (Ml := []) (Zl := []) (M := (Cc b1)) (Z := []) (β := Value × Value) (rv := fun x => .tuple #[.agg #[.int .i64 x6.1.un.1, .int .i64 x6.1.un.2.1.un.1, .int .i64 x6.1.un.2.1.un.2.1, .int .i64 x6.1.un.2.1.un.2.2.1, x.1, .int .i64 x6.1.un.2.2.1, .int .i64 x6.1.un.2.2.2.1, x.2], .int .i64 x6.2.1, .bool x6.2.2]) (MM := fun x => []) (ZZ := fun x => [Av x.1 A9 x6.1.un.2.1.un.2.2.2, row x.2 37 B3 x6.1.un.2.2.2.2]) W F SW Aa Aa (fun hL => (Na fRec ih) _ w (v1) p0 (Co (p1 + 1)) _ h6 ((AG h_v1) w F).nx) fun x a w W F => ?_
  obtain ⟨v3, v4⟩ := x
  have F : Stw ⟨Y, [], w0⟩ (Cc b1) [Av v3 A9 x6.1.un.2.1.un.2.2.2, row v4 37 B3 x6.1.un.2.2.2.2] w := F
  refine ls W F Aa (As (v := Value.agg #[.int .i64 x6.1.un.1, .int .i64 x6.1.un.2.1.un.1, .int .i64 x6.1.un.2.1.un.2.1, .int .i64 x6.1.un.2.1.un.2.2.1, v3, .int .i64 x6.1.un.2.2.1, .int .i64 x6.1.un.2.2.2.1, v4]) W Aa Aa).q fun a w W F => ?_
  refine ls W F Aa (As (v := Value.int .i64 x6.2.1) W Aa Aa).q fun a w W F => ?_
  refine ls W F Aa (As (v := Value.bool x6.2.2) W Aa Aa).q fun a w W F => ?_
  refine Au (vs := (EL x6 v3 v4)) (M' := [(b1, [.int .i64 x6.1.un.1, .int .i64 x6.1.un.2.1.un.1, .int .i64 x6.1.un.2.1.un.2.1, .int .i64 x6.1.un.2.1.un.2.2.1, v3, .int .i64 x6.1.un.2.2.1, .int .i64 x6.1.un.2.2.2.1, v4])]) 0 W F Aa Aa Aa EU Aa Aa Aa (Ac Aa (Ac Aa (Ac Aa (Ac Aa (Ac (F.oneF (k := 0) Aa) (Ac Aa (Ac Aa (Ac (F.one (k := 1) Aa) AM)))))))) Aa fun w F => ?_
  iterate 2 refine ls W F Aa (Ag W Aa).q fun a w W F => ?_
  refine Ae (Ad (Aq (AD ?_)))
  have H := AH H
  subst H
  refine CD (.inl Aa) W F Aa (AB 0 W Aa Aa EU Aa) (Ap W Aa) (Ap W Aa) ?_
  have F := F.frontZ (i := 1) Aa Aa
  have F := F.freeze
  have F := F.frontZ (i := 1) Aa Aa
  have F := F.sub (M' := []) (Z' := [Av v3 A9 x6.1.un.2.1.un.2.2.2, Av v4 B3 x6.1.un.2.2.2.2]) (List.nil_sublist _) (List.Sublist.refl _)
  exact ⟨((v3), (v4)), Aa, F⟩
 have H := AR (by rw [hb]; decide) H
 rw [hb] at W
 clear hb
 refine Ax (Ad (Ai (Ai (Ab ?_))))
 iterate 2 refine ls W F Aa (Ah W Aa).q fun a w W F => ?_
 obtain ⟨x7, h7, H⟩ := An H
 refine ls W F Aa (A1 (v := Value.bool x7) W M9 Aa (fun w F => Cu any w (v1) p0 p1 ([40] : List UInt8) _ h7 (((AG h_v1) : EN _ _ _ _ _ _) w F).nx)) fun a w W F => ?_
 refine Ae (Ad ?_)
 refine Aw W Aa (fun hb => ?_) fun hb => ?_
 ·
  have H := AQ hb H
  rw [hb] at W
  clear hb
  refine Ai (Ab ?_)
  iterate 2 refine ls W F Aa (Ah W Aa).q fun a w W F => ?_
  refine ls W F Aa (BT W Aa Aa Aa).q fun a w W F => ?_
  obtain ⟨x8, h8, H⟩ := An H
  refine AO (Ml := []) (Zl := []) (M := (Cc b1)) (Z := []) (β := Value × Value) (rv := fun x => .tuple #[.agg #[.int .i64 x8.1.un.1, .int .i64 x8.1.un.2.1.un.1, .int .i64 x8.1.un.2.1.un.2.1, .int .i64 x8.1.un.2.1.un.2.2.1, x.1, .int .i64 x8.1.un.2.2.1, .int .i64 x8.1.un.2.2.2.1, x.2], .int .i64 x8.2.1, .bool x8.2.2]) (MM := fun x => []) (ZZ := fun x => [Av x.1 A9 x8.1.un.2.1.un.2.2.2, Av x.2 B3 x8.1.un.2.2.2.2]) W F S8 Aa Aa (fun hL => ih_r29_rows _ w (v1) p0 (Co (p1 + 1)) _ h8 ((AG h_v1) w F).nx) fun x a w W F => ?_
  obtain ⟨v5, v6⟩ := x
  have F : Stw ⟨Y, [], w0⟩ (Cc b1) [Av v5 A9 x8.1.un.2.1.un.2.2.2, Av v6 B3 x8.1.un.2.2.2.2] w := F
  refine ls W F Aa (Ah W Aa).q fun a w W F => ?_
  refine ls W F Aa (As (v := Value.agg #[.int .i64 x8.1.un.1, .int .i64 x8.1.un.2.1.un.1, .int .i64 x8.1.un.2.1.un.2.1, .int .i64 x8.1.un.2.1.un.2.2.1, v5, .int .i64 x8.1.un.2.2.1, .int .i64 x8.1.un.2.2.2.1, v6]) W Aa Aa).q fun a w W F => ?_
  refine ls W F Aa (As (v := Value.int .i64 x8.2.1) W Aa Aa).q fun a w W F => ?_
  refine ls W F Aa (As (v := Value.bool x8.2.2) W Aa Aa).q fun a w W F => ?_
  refine AU (cs := (Bl)) W F Aa LH Aa fun b3 a w W F => ?_
  refine Au (vs := (EL x8 v5 v6)) (M' := (Hx b3 x8 v5 v6 b1)) 0 W F Aa Aa Aa EU Aa Aa Aa (Ac Aa (Ac Aa (Ac Aa (Ac Aa (Ac (F.oneF (k := 0) Aa) (Ac Aa (Ac Aa (Ac (F.oneF (k := 1) Aa) AM)))))))) Aa fun w F => ?_
  iterate 2 refine ls W F Aa (Ag W Aa).q fun a w W F => ?_
  refine Ae (Ad (Ai ?_))
  obtain ⟨o1, G1, K1⟩ := An H
  refine Bd (fun a w => ∃ x9 : Bool, some (x9) = some o1 ∧ Fr 93 [] [(0, v1), (1, .int .i64 p1), (4, .pointer (some ⟨b1, 0, none⟩)), (5, .int .i64 0), (6, .bool false), (10, .pointer (some ⟨b3, 0, none⟩)), (11, .int .i64 x8.2.1), (74, .bool x9)] a ∧ Stw ⟨Y, [], w0⟩ (Hx b3 x8 v5 v6 b1) [Av v5 A9 x8.1.un.2.1.un.2.2.2, Av v6 B3 x8.1.un.2.2.2.2] w) ?_ ?_
  ·
   have H := G1
   clear G1 K1
   refine Ab ?_
   refine ls W F Aa (Ah W Aa).q fun a w W F => ?_
   refine ls W F Aa (FH W Aa).q fun a w W F => ?_
   refine ls W F Aa (Ah W Aa).q fun a w W F => ?_
   rcases Bool.eq_false_or_eq_true (!x8.2.2) with hb | hb
   ·
    have H := AQ hb H
    rw [hb] at W
    clear hb
    iterate 4 refine Ec W Aa Aa Aa Aa Aa Aa Aa fun a W => ?_
    refine ls W F Aa (AE W Aa Aa Aa).q fun a w W F => ?_
    refine Ae (Ad ?_)
    have F := F.frontZ (i := 1) Aa Aa
    have F := F.frontZ (i := 1) Aa Aa
    have F := F.frontM (i := 1) Aa Aa
    have F := F.frontM (i := 1) Aa Aa
    exact ⟨_, H, W.re ⟨rfl, Aa, Aa, Aa, Aa, Aa, Aa, Aa, trivial⟩, F⟩
   have H := AR (by rw [hb]; decide) H
   rw [hb] at W
   clear hb
   iterate 2 refine AX W F (Ak W Aa Aa Aa Aa) Aa (Ay Aa) (Ah W Aa).q fun a w W F => ?_
   refine JT (Ak W Aa Aa Aa Aa) ?_
   obtain ⟨x10, h9, H⟩ := An H
   refine ls W F Aa (A1 (v := Value.bool x10) W M9 Aa (fun w F => Cu any w (v1) p0 x8.2.1 ([41] : List UInt8) _ h9 (((AG h_v1) : EN _ _ _ _ _ _) w F).nx)) fun a w W F => ?_
   refine AX W F (Ak W Aa Aa Aa Aa) Aa (Ay Aa) (FH W Aa).q fun a w W F => ?_
   refine ls W F Aa (AN W Aa Aa Aa).q fun a w W F => ?_
   refine Ae (Ad ?_)
   have F := F.frontZ (i := 1) Aa Aa
   have F := F.frontZ (i := 1) Aa Aa
   have F := F.frontM (i := 1) Aa Aa
   have F := F.frontM (i := 1) Aa Aa
   exact ⟨_, H, W.re ⟨rfl, Aa, Aa, Aa, Aa, Aa, Aa, Aa, trivial⟩, F⟩
  rintro a w ⟨x9, hj, W, F⟩
  have hj := AH hj
  subst hj
  have H := K1
  clear G1 K1
  refine Aw W Aa (fun hb => ?_) fun hb => ?_
  ·
   have H := AQ hb H
   rw [hb] at W
   clear hb
   refine Ai (Ab ?_)
   refine ls W F Aa (AJ (v := Value.agg #[.int .i64 x8.1.un.1, .int .i64 x8.1.un.2.1.un.1, .int .i64 x8.1.un.2.1.un.2.1, .int .i64 x8.1.un.2.1.un.2.2.1, v5, .int .i64 x8.1.un.2.2.1, .int .i64 x8.1.un.2.2.2.1, v6]) 0 W Aa Aa EU Aa).q fun a w W F => ?_
   refine ls W F Aa (Ah W Aa).q fun a w W F => ?_
   refine Au (vs := (EL x8 v5 v6)) (M' := (P5 b3 x8 v5 v6 b1)) 1 W F Aa Aa Aa EU Aa Aa Aa (Ac Aa (Ac Aa (Ac Aa (Ac Aa (Ac (F.oneF (k := 0) Aa) (Ac Aa (Ac Aa (Ac (F.oneF (k := 1) Aa) AM)))))))) Aa fun w F => ?_
   iterate 2 refine ls W F Aa (Ag W Aa).q fun a w W F => ?_
   refine Ae (Ad (Aq ?_))
   iterate 2 refine AD ?_
   have H := AH H
   subst H
   refine CD (.inl Aa) W F Aa (AB 1 W Aa Aa EU Aa) (Ap W Aa) (Ap W Aa) ?_
   have F := F.frontZ (i := 1) Aa Aa
   have F := F.frontZ (i := 1) Aa Aa
   have F := F.sub (M' := []) (Z' := [Av v5 A9 x8.1.un.2.1.un.2.2.2, Av v6 B3 x8.1.un.2.2.2.2]) (List.nil_sublist _) (List.Sublist.refl _)
   exact ⟨((v5), (v6)), Aa, F⟩
  have H := AR (by rw [hb]; decide) H
  rw [hb] at W
  clear hb
  refine Ax (Ad (Ai (Ab ?_)))
  refine ls W F Aa (AJ (v := Value.agg #[.int .i64 x8.1.un.1, .int .i64 x8.1.un.2.1.un.1, .int .i64 x8.1.un.2.1.un.2.1, .int .i64 x8.1.un.2.1.un.2.2.1, v5, .int .i64 x8.1.un.2.2.1, .int .i64 x8.1.un.2.2.2.1, v6]) 0 W Aa Aa EU Aa).q fun a w W F => ?_
  refine ls W F Aa (Ah W Aa).q fun a w W F => ?_
  refine ls W F Aa (BT W Aa Aa Aa).q fun a w W F => ?_
  refine Au (vs := (EL x8 v5 v6)) (M' := (P5 b3 x8 v5 v6 b1)) 1 W F Aa Aa Aa EU Aa Aa Aa (Ac Aa (Ac Aa (Ac Aa (Ac Aa (Ac (F.oneF (k := 0) Aa) (Ac Aa (Ac Aa (Ac (F.oneF (k := 1) Aa) AM)))))))) Aa fun w F => ?_
  iterate 2 refine ls W F Aa (Ag W Aa).q fun a w W F => ?_
  refine Ae (Ad (Aq (AD ?_)))
  have H := AH H
  subst H
  refine CD (.inl Aa) W F Aa (AB 1 W Aa Aa EU Aa) (Ap W Aa) (Ap W Aa) ?_
  have F := F.frontZ (i := 1) Aa Aa
  have F := F.frontZ (i := 1) Aa Aa
  have F := F.sub (M' := []) (Z' := [Av v5 A9 x8.1.un.2.1.un.2.2.2, Av v6 B3 x8.1.un.2.2.2.2]) (List.nil_sublist _) (List.Sublist.refl _)
  exact ⟨((v5), (v6)), Aa, F⟩
 have H := AR (by rw [hb]; decide) H
 rw [hb] at W
 clear hb
 refine Ax (Ad (Ai (Ab ?_)))
 iterate 2 refine ls W F Aa (Ah W Aa).q fun a w W F => ?_
 obtain ⟨x11, h10, H⟩ := An H
 refine ls W F Aa (A1 (v := Value.tuple #[.int .i64 x11.1, .int .i64 x11.2.1, .int .i64 x11.2.2.1, .bool x11.2.2.2]) W Sa Aa (fun w F => Jz any w (v1) p0 p1 5 ([58, 61] : List UInt8) _ h10 (((AG h_v1) : EN _ _ _ _ _ _) w F).nx)) fun a w W F => ?_
 refine ls W F Aa (Ah W Aa).q fun a w W F => ?_
 refine ls W F Aa (As (v := Value.int .i64 x11.1) W Aa Aa).q fun a w W F => ?_
 refine ls W F Aa (As (v := Value.int .i64 x11.2.1) W Aa Aa).q fun a w W F => ?_
 refine ls W F Aa (As (v := Value.int .i64 x11.2.2.1) W Aa Aa).q fun a w W F => ?_
 refine ls W F Aa (As (v := Value.bool x11.2.2.2) W Aa Aa).q fun a w W F => ?_
 iterate 4 refine ls W F Aa (Ag W Aa).q fun a w W F => ?_
 refine Ae (Ad (Ai (Ab ?_)))
 iterate 2 refine ls W F Aa (Ah W Aa).q fun a w W F => ?_
 refine ls W F Aa (Ba (v := Value.agg #[.int .i64 2, .int .i64 0, .int .i64 0, .int .i64 0, .slice none 0 0, .int .i64 x11.1, .int .i64 x11.2.1, .slice none 0 0]) Qo W Aa Aa Aa).q fun a w W F => ?_
 iterate 2 refine ls W F Aa (Ah W Aa).q fun a w W F => ?_
 refine Au (vs := [.int .i64 2, .int .i64 0, .int .i64 0, .int .i64 0, .slice none 0 0, .int .i64 x11.1, .int .i64 x11.2.1, .slice none 0 0]) (M' := [(b1, [.int .i64 2, .int .i64 0, .int .i64 0, .int .i64 0, .slice none 0 0, .int .i64 x11.1, .int .i64 x11.2.1, .slice none 0 0])]) 0 W F Aa Aa Aa EU Aa Aa Aa Aa Aa fun w F => ?_
 iterate 2 refine ls W F Aa (Ag W Aa).q fun a w W F => ?_
 refine Ae (Ad (Aq ?_))
 have H := AH H
 subst H
 refine CD (.inl Aa) W F Aa (AB 0 W Aa Aa EU Aa) (Ap W Aa) (Ap W Aa) ?_
 have F := F.note (Sl.nil (r := A9))
 have F := F.note (Sl.nil (r := B3))
 have F := F.frontZ (i := 1) Aa Aa
 have F := F.sub (M' := []) (Z' := [Av (Value.slice none 0 0) A9 ([]), Av (Value.slice none 0 0) B3 ([])]) (List.nil_sublist _) (List.Sublist.refl _)
 exact ⟨((Value.slice none 0 0), (Value.slice none 0 0)), Aa, F⟩
theorem NP (fRec_r29_rows : (List (Int × Int × List UInt8 × Int)) → Int → Option (Tr37 × Int × Bool)) (ih_r29_rows : ∀ (Y : Nat → Prop) (w0 : World) (v1 : Value) (p0 : List (Int × Int × List UInt8 × Int)) (p1 : Int) (r : Tr37 × Int × Bool) (H : fRec_r29_rows p0 p1 = some r) (h_v1 : Sl w0 (NX []) DA v1 p0), Calls Tryd.prog 31 #[v1, .int .i64 p1] w0 fun e w' => ∃ x : Value × Value, e = .returned (.tuple #[.agg #[.int .i64 r.1.un.1, .int .i64 r.1.un.2.1.un.1, .int .i64 r.1.un.2.1.un.2.1, .int .i64 r.1.un.2.1.un.2.2.1, x.1, .int .i64 r.1.un.2.2.1, .int .i64 r.1.un.2.2.2.1, x.2], .int .i64 r.2.1, .bool r.2.2]) ∧ Stw ⟨Y, [], w0⟩ [] [Av (x.1) A9 r.1.un.2.1.un.2.2.2, Av (x.2) B3 r.1.un.2.2.2.2] w') : ∀ (n : Nat) (Y : Nat → Prop) (w0 : World) (v1 : Value) (p0 : List (Int × Int × List UInt8 × Int)) (p1 : Int) (r : Tr37 × Int × Bool) (H : C5 fRec_r29_rows n p0 p1 = some r) (h_v1 : Sl w0 (NX []) DA v1 p0), Calls Tryd.prog 87 #[v1, .int .i64 p1] w0 fun e w' => ∃ x : Value × Value, e = .returned (.tuple #[.agg #[.int .i64 r.1.un.1, .int .i64 r.1.un.2.1.un.1, .int .i64 r.1.un.2.1.un.2.1, .int .i64 r.1.un.2.1.un.2.2.1, x.1, .int .i64 r.1.un.2.2.1, .int .i64 r.1.un.2.2.2.1, x.2], .int .i64 r.2.1, .bool r.2.2]) ∧ Stw ⟨Y, [], w0⟩ [] [Av (x.1) A9 r.1.un.2.1.un.2.2.2, Av (x.2) B3 r.1.un.2.2.2.2] w' := by
  intro n
  induction n with
  | zero => intro Y w0 v1 p0 p1 r H; exact nomatch H
  | succ n ih => intro Y w0 v1 p0 p1 r H h_v1; exact M3 fRec_r29_rows ih_r29_rows (C5 fRec_r29_rows n) ih Y w0 v1 p0 p1 r H h_v1
theorem Lr (fRec_r29_rows : (List (Int × Int × List UInt8 × Int)) → Int → Option (Tr37 × Int × Bool)) (ih_r29_rows : ∀ (Y : Nat → Prop) (w0 : World) (v1 : Value) (p0 : List (Int × Int × List UInt8 × Int)) (p1 : Int) (r : Tr37 × Int × Bool) (H : fRec_r29_rows p0 p1 = some r) (h_v1 : Sl w0 (NX []) DA v1 p0), Calls Tryd.prog 31 #[v1, .int .i64 p1] w0 fun e w' => ∃ x : Value × Value, e = .returned (.tuple #[.agg #[.int .i64 r.1.un.1, .int .i64 r.1.un.2.1.un.1, .int .i64 r.1.un.2.1.un.2.1, .int .i64 r.1.un.2.1.un.2.2.1, x.1, .int .i64 r.1.un.2.2.1, .int .i64 r.1.un.2.2.2.1, x.2], .int .i64 r.2.1, .bool r.2.2]) ∧ Stw ⟨Y, [], w0⟩ [] [Av (x.1) A9 r.1.un.2.1.un.2.2.2, Av (x.2) B3 r.1.un.2.2.2.2] w') (Y : Nat → Prop) (w0 : World) (v1 : Value) (p0 : List (Int × Int × List UInt8 × Int)) (p1 : Int) (r : Tr37 × Int × Bool) (H : GJ fRec_r29_rows p0 p1 = some r) (h_v1 : Sl w0 (NX []) DA v1 p0) :
    Calls Tryd.prog 87 #[v1, .int .i64 p1] w0 fun e w' => ∃ x : Value × Value, e = .returned (.tuple #[.agg #[.int .i64 r.1.un.1, .int .i64 r.1.un.2.1.un.1, .int .i64 r.1.un.2.1.un.2.1, .int .i64 r.1.un.2.1.un.2.2.1, x.1, .int .i64 r.1.un.2.2.1, .int .i64 r.1.un.2.2.2.1, x.2], .int .i64 r.2.1, .bool r.2.2]) ∧ Stw ⟨Y, [], w0⟩ [] [Av (x.1) A9 r.1.un.2.1.un.2.2.2, Av (x.2) B3 r.1.un.2.2.2.2] w' := by
  obtain ⟨n, H⟩ := Ch H
  exact NP fRec_r29_rows ih_r29_rows n Y w0 v1 p0 p1 r H h_v1
end Go.Proofs.YtlgjpoapclifbaaDoor
