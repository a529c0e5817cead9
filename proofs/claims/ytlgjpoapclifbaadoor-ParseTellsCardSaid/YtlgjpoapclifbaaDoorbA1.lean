/- The functions of layer 29, EO. Conditions: none. -/
import Derived.Test.YtlgjpoapclifbaaDoorbA0
namespace Go.Proofs.YtlgjpoapclifbaaDoor
open Go Go.RowKit
set_option linter.unusedVariables false
set_option linter.unusedSimpArgs false
set_option maxRecDepth 20000
theorem QW : Has Tryd.prog 107 := ⟨fun args w => Al Tryd.func107 rfl (by decide) args w⟩
abbrev B2  : List Value := [.int .i64 0, .int .i64 0, .int .i64 0, .slice none 0 0]
abbrev DM (a0 : Nat) : List (Nat × List Value) := [(a0, [.int .i64 0, .int .i64 0, .int .i64 0, .slice none 0 0])]
abbrev RO  : List Value := [.int .i64 1, .int .i64 0, .int .i64 0, .slice none 0 0]
abbrev RA  : List Value := [.int .i64 2, .int .i64 0, .int .i64 0, .slice none 0 0]
abbrev Fi (a0 : Tr25 × ((List (Int × Int × List UInt8 × Int)) × Int)) (a1 : Value) : List Value := [.int .i64 a0.1.un.1, .int .i64 a0.1.un.2.1, .int .i64 a0.1.un.2.2.1, a1]
abbrev Qc (a0 : Value) : List Value := [.int .i64 4, .int .i64 0, .int .i64 0, a0]
noncomputable def BA (fRec_parse_parser_condition : ((List (Int × Int × List UInt8 × Int)) × Int) → Option ((Tr25 × ((List (Int × Int × List UInt8 × Int)) × Int)) ⊕ ((Int × Int) × ((List (Int × Int × List UInt8 × Int)) × Int)))) (fRec : ((List (Int × Int × List UInt8 × Int)) × Int) → Option ((Tr25 × ((List (Int × Int × List UInt8 × Int)) × Int)) ⊕ ((Int × Int) × ((List (Int × Int × List UInt8 × Int)) × Int)))) (p0 : (List (Int × Int × List UInt8 × Int)) × Int) : Option ((Tr25 × ((List (Int × Int × List UInt8 × Int)) × Int)) ⊕ ((Int × Int) × ((List (Int × Int × List UInt8 × Int)) × Int))) := (AL p0 ([116, 114, 117, 101] : List UInt8)).bind fun x1 => (if x1.1 = true then some (.inl (Tr25.of (1, 0, 0, ([] : List Tr25)), x1.2)) else (AL x1.2 ([102, 97, 108, 115, 101] : List UInt8)).bind fun x2 => (if x2.1 = true then some (.inl (Tr25.of (2, 0, 0, ([] : List Tr25)), x2.2)) else (AL x2.2 ([110, 111, 116] : List UInt8)).bind fun x3 => (if x3.1 = true then (fRec x3.2).bind fun x4 => BZ x4 (fun x5 => some (.inl (Tr25.of (4, 0, 0, ([x5.1] : List Tr25)), x5.2))) (fun x6 => some (.inr (x6.1, x6.2))) else (AL x3.2 ([40] : List UInt8)).bind fun x7 => (if x7.1 = true then (fRec_parse_parser_condition x7.2).bind fun x8 => BZ x8 (fun x9 => (AA x9.2 ([41] : List UInt8)).bind fun x11 => BZ x11 (fun x12 => some (.inl (x9.1, x12))) (fun x13 => some (.inr (x13.1, x13.2)))) (fun x10 => some (.inr (x10.1, x10.2))) else (B5 x7.2 5).bind fun x14 => BZ x14 (fun x15 => (AA x15.2 ([61] : List UInt8)).bind fun x17 => BZ x17 (fun x18 => (Be x18).bind fun x20 => BZ x20 (fun x21 => some (.inl (Tr25.of (3, x15.1, x21.1, ([] : List Tr25)), x21.2))) (fun x22 => some (.inr (x22.1, x22.2)))) (fun x19 => some (.inr (x19.1, x19.2)))) (fun x16 => some (.inr (x16.1, x16.2)))))))
noncomputable def Bh (fRec_parse_parser_condition : ((List (Int × Int × List UInt8 × Int)) × Int) → Option ((Tr25 × ((List (Int × Int × List UInt8 × Int)) × Int)) ⊕ ((Int × Int) × ((List (Int × Int × List UInt8 × Int)) × Int)))) : Nat → ((List (Int × Int × List UInt8 × Int)) × Int) → Option ((Tr25 × ((List (Int × Int × List UInt8 × Int)) × Int)) ⊕ ((Int × Int) × ((List (Int × Int × List UInt8 × Int)) × Int)))
  | 0 => fun _ => none
  | n + 1 => BA fRec_parse_parser_condition (Bh fRec_parse_parser_condition n)
noncomputable def Ca (fRec_parse_parser_condition : ((List (Int × Int × List UInt8 × Int)) × Int) → Option ((Tr25 × ((List (Int × Int × List UInt8 × Int)) × Int)) ⊕ ((Int × Int) × ((List (Int × Int × List UInt8 × Int)) × Int)))) (p0 : (List (Int × Int × List UInt8 × Int)) × Int) : Option ((Tr25 × ((List (Int × Int × List UInt8 × Int)) × Int)) ⊕ ((Int × Int) × ((List (Int × Int × List UInt8 × Int)) × Int))) := Gx fun n => Bh fRec_parse_parser_condition n p0
theorem Hr (fRec_parse_parser_condition : ((List (Int × Int × List UInt8 × Int)) × Int) → Option ((Tr25 × ((List (Int × Int × List UInt8 × Int)) × Int)) ⊕ ((Int × Int) × ((List (Int × Int × List UInt8 × Int)) × Int)))) (ih_parse_parser_condition : ∀ (Y : Nat → Prop) (X : List Nat) (w0 : World) (q_p0 : Nat) (v1 : Value) (p0 : (List (Int × Int × List UInt8 × Int)) × Int) (r : (Tr25 × ((List (Int × Int × List UInt8 × Int)) × Int)) ⊕ ((Int × Int) × ((List (Int × Int × List UInt8 × Int)) × Int))) (H : fRec_parse_parser_condition p0 = some r) (hL : Stw ⟨Y, X, w0⟩ [(q_p0, [v1, .int .i64 p0.2])] [row v1 98 Az p0.1] w0), Calls Tryd.prog 33 #[.pointer (some ⟨q_p0, 0, none⟩)] w0 fun e w' => DH r (fun r => ∃ x : Value × Value, e = .returned (.agg #[.int .i64 r.1.un.1, .int .i64 r.1.un.2.1, .int .i64 r.1.un.2.2.1, x.1]) ∧ Stw ⟨Y, X, w0⟩ [(q_p0, [x.2, .int .i64 r.2.2])] [row (x.2) 98 Az r.2.1, Av (x.1) AY r.1.un.2.2.2] w') (fun r => ∃ x : Value, e = .panicked [{ v := .iface 89 (.agg #[.int .i64 r.1.1, .int .i64 r.1.2]), recovered := false }] ∧ Stw ⟨Y, X, w0⟩ [(q_p0, [x, .int .i64 r.2.2])] [row (x) 98 Az r.2.1] w')) (fRec : ((List (Int × Int × List UInt8 × Int)) × Int) → Option ((Tr25 × ((List (Int × Int × List UInt8 × Int)) × Int)) ⊕ ((Int × Int) × ((List (Int × Int × List UInt8 × Int)) × Int)))) (ih : ∀ (Y : Nat → Prop) (X : List Nat) (w0 : World) (q_p0 : Nat) (v1 : Value) (p0 : (List (Int × Int × List UInt8 × Int)) × Int) (r : (Tr25 × ((List (Int × Int × List UInt8 × Int)) × Int)) ⊕ ((Int × Int) × ((List (Int × Int × List UInt8 × Int)) × Int))) (H : fRec p0 = some r) (hL : Stw ⟨Y, X, w0⟩ [(q_p0, [v1, .int .i64 p0.2])] [row v1 98 Az p0.1] w0), Calls Tryd.prog 88 #[.pointer (some ⟨q_p0, 0, none⟩)] w0 fun e w' => DH r (fun r => ∃ x : Value × Value, e = .returned (.agg #[.int .i64 r.1.un.1, .int .i64 r.1.un.2.1, .int .i64 r.1.un.2.2.1, x.1]) ∧ Stw ⟨Y, X, w0⟩ [(q_p0, [x.2, .int .i64 r.2.2])] [row (x.2) 98 Az r.2.1, Av (x.1) AY r.1.un.2.2.2] w') (fun r => ∃ x : Value, e = .panicked [{ v := .iface 89 (.agg #[.int .i64 r.1.1, .int .i64 r.1.2]), recovered := false }] ∧ Stw ⟨Y, X, w0⟩ [(q_p0, [x, .int .i64 r.2.2])] [row (x) 98 Az r.2.1] w')) (Y : Nat → Prop) (X : List Nat) (w0 : World) (q_p0 : Nat) (v1 : Value) (p0 : (List (Int × Int × List UInt8 × Int)) × Int) (r : (Tr25 × ((List (Int × Int × List UInt8 × Int)) × Int)) ⊕ ((Int × Int) × ((List (Int × Int × List UInt8 × Int)) × Int))) (H : BA fRec_parse_parser_condition fRec p0 = some r) (hL : Stw ⟨Y, X, w0⟩ [(q_p0, [v1, .int .i64 p0.2])] [row v1 98 Az p0.1] w0) :
    Calls Tryd.prog 88 #[.pointer (some ⟨q_p0, 0, none⟩)] w0 fun e w' => DH r (fun r => ∃ x : Value × Value, e = .returned (.agg #[.int .i64 r.1.un.1, .int .i64 r.1.un.2.1, .int .i64 r.1.un.2.2.1, x.1]) ∧ Stw ⟨Y, X, w0⟩ [(q_p0, [x.2, .int .i64 r.2.2])] [row (x.2) 98 Az r.2.1, Av (x.1) AY r.1.un.2.2.2] w') (fun r => ∃ x : Value, e = .panicked [{ v := .iface 89 (.agg #[.int .i64 r.1.1, .int .i64 r.1.2]), recovered := false }] ∧ Stw ⟨Y, X, w0⟩ [(q_p0, [x, .int .i64 r.2.2])] [row (x) 98 Az r.2.1] w') := by
 refine enter Tryd.func88 Aa Tryd.ntmps88 Aa fun a W => ?_
 have F := hL
 unfold BA at H
 refine Ai (Ab ?_)
 refine AU (cs := (B2)) W F Aa NG Aa fun b1 a w W F => ?_
 refine Ae (Ad (Ai (AV (Ai (Ab ?_)))))
 refine ls W F Aa (Ah W Aa).q fun a w W F => ?_
 obtain ⟨x1, h1, H⟩ := An H
 have F := F.frontM (i := 1) Aa Aa
 refine AO (Ml := [(q_p0, [v1, .int .i64 p0.2])]) (Zl := [row v1 98 Az p0.1]) (M := (DM b1)) (Z := []) (β := Value) (rv := fun x => .bool x1.1) (MM := fun x => [(q_p0, [x, .int .i64 x1.2.2])]) (ZZ := fun x => [row x 98 Az x1.2.1]) W F OT Aa Aa (fun hL => A7 _ _ w q_p0 (v1) p0 ([116, 114, 117, 101] : List UInt8) _ h1 hL) fun x a w W F => ?_
 obtain ⟨v2, rfl⟩ : ∃ y, y = x := ⟨x, rfl⟩
 have F : Stw ⟨Y, X, w0⟩ [(q_p0, [v2, .int .i64 x1.2.2]), (b1, (B2))] [row v2 98 Az x1.2.1] w := F
 refine ls W F Aa (Ag W Aa).q fun a w W F => ?_
 refine Ae (Ad ?_)
 refine Aw W Aa (fun hb => ?_) fun hb => ?_
 ·
  have H := AQ hb H
  rw [hb] at W
  clear hb
  refine Ai (Ab ?_)
  refine ls W F Aa (Ba (v := Value.agg #[.int .i64 1, .int .i64 0, .int .i64 0, .slice none 0 0]) Q5 W Aa Aa Aa).q fun a w W F => ?_
  refine Au (vs := (RO)) (M' := [(q_p0, [v2, .int .i64 x1.2.2]), (b1, (RO))]) 1 W F Aa Aa Aa FV Aa Aa Aa Aa Aa fun w F => ?_
  refine Ae (Ad (Aq (A5 (AD ?_))))
  have H := AH H
  subst H
  refine AP (.inl Aa) W F Aa (AB 1 W Aa Aa FV Aa) ?_
  have F := F.note (Sl.nil (r := AY))
  have F := F.frontZ (i := 1) Aa Aa
  have F := F.sub (M' := [(q_p0, [v2, .int .i64 x1.2.2])]) (Z' := [row v2 98 Az x1.2.1, Av (Value.slice none 0 0) AY ([])]) (List.Sublist.cons_cons _ (List.nil_sublist _)) (List.Sublist.refl _)
  exact ⟨((Value.slice none 0 0), (v2)), Aa, F⟩
 have H := AR (by rw [hb]; decide) H
 rw [hb] at W
 clear hb
 refine Ai (Ab ?_)
 refine ls W F Aa (Ah W Aa).q fun a w W F => ?_
 obtain ⟨x2, h2, H⟩ := An H
 refine AO (Ml := [(q_p0, [v2, .int .i64 x1.2.2])]) (Zl := [row v2 98 Az x1.2.1]) (M := (DM b1)) (Z := []) (β := Value) (rv := fun x => .bool x2.1) (MM := fun x => [(q_p0, [x, .int .i64 x2.2.2])]) (ZZ := fun x => [row x 98 Az x2.2.1]) W F OT Aa Aa (fun hL => A7 _ _ w q_p0 (v2) x1.2 ([102, 97, 108, 115, 101] : List UInt8) _ h2 hL) fun x a w W F => ?_
 obtain ⟨v3, rfl⟩ : ∃ y, y = x := ⟨x, rfl⟩
 have F : Stw ⟨Y, X, w0⟩ [(q_p0, [v3, .int .i64 x2.2.2]), (b1, (B2))] [row v3 98 Az x2.2.1] w := F
 refine ls W F Aa (Ag W Aa).q fun a w W F => ?_
 refine Ae (Ad ?_)
 refine Aw W Aa (fun hb => ?_) fun hb => ?_
 ·
  have H := AQ hb H
  rw [hb] at W
  clear hb
  refine Ai (Ab ?_)
  refine ls W F Aa (Ba (v := Value.agg #[.int .i64 2, .int .i64 0, .int .i64 0, .slice none 0 0]) Q5 W Aa Aa Aa).q fun a w W F => ?_
  refine Au (vs := (RA)) (M' := [(q_p0, [v3, .int .i64 x2.2.2]), (b1, (RA))]) 1 W F Aa Aa Aa FV Aa Aa Aa Aa Aa fun w F => ?_
  refine Ae (Ad (Aq (A5 (AD ?_))))
  have H := AH H
  subst H
  refine AP (.inl Aa) W F Aa (AB 1 W Aa Aa FV Aa) ?_
  have F := F.note (Sl.nil (r := AY))
  have F := F.frontZ (i := 1) Aa Aa
  have F := F.sub (M' := [(q_p0, [v3, .int .i64 x2.2.2])]) (Z' := [row v3 98 Az x2.2.1, Av (Value.slice none 0 0) AY ([])]) (List.Sublist.cons_cons _ (List.nil_sublist _)) (List.Sublist.refl _)
  exact ⟨((Value.slice none 0 0), (v3)), Aa, F⟩
 have H := AR (by rw [hb]; decide) H
 rw [hb] at W
 clear hb
 refine Ai (Ab ?_)
 refine ls W F Aa (Ah W Aa).q fun a w W F => ?_
 obtain ⟨x3, h3, H⟩ := An H
 refine AO (Ml := [(q_p0, [v3, .int .i64 x2.2.2])]) (Zl := [row v3 98 Az x2.2.1]) (M := (DM b1)) (Z := []) (β := Value) (rv := fun x => .bool x3.1) (MM := fun x => [(q_p0, [x, .int .i64 x3.2.2])]) (ZZ := fun x => [row x 98 Az x3.2.1]) W F OT Aa Aa (fun hL => A7 _ _ w q_p0 (v3) x2.2 ([110, 111, 116] : List UInt8) _ h3 hL) fun x a w W F => ?_
 obtain ⟨v4, rfl⟩ : ∃ y, y = x := ⟨x, rfl⟩
 have F : Stw ⟨Y, X, w0⟩ [(q_p0, [v4, .int .i64 x3.2.2]), (b1, (B2))] [row v4 98 Az x3.2.1] w := F
 refine ls W F Aa (Ag W Aa).q fun a w W F => ?_
 refine Ae (Ad ?_)
 refine Aw W Aa (fun hb => ?_) fun hb => ?_
 ·
  have H := AQ hb H
  rw [hb] at W
  clear hb
  refine Ai (Ab ?_)
  refine ls W F Aa (Ah W Aa).q fun a w W F => ?_
  obtain ⟨x4, h4, H⟩ := An H
  rcases x4 with x5 | x6
  ·
   have H := Ez H
   refine AO (Ml := [(q_p0, [v4, .int .i64 x3.2.2])]) (Zl := [row v4 98 Az x3.2.1]) (M := (DM b1)) (Z := []) (β := Value × Value) (rv := fun x => .agg #[.int .i64 x5.1.un.1, .int .i64 x5.1.un.2.1, .int .i64 x5.1.un.2.2.1, x.1]) (MM := fun x => [(q_p0, [x.2, .int .i64 x5.2.2])]) (ZZ := fun x => [row x.2 98 Az x5.2.1, Av x.1 AY x5.1.un.2.2.2]) W F R0 Aa Aa (fun hL => ih _ _ w q_p0 (v4) x3.2 _ h4 hL) fun x a w W F => ?_
   obtain ⟨v5, v6⟩ := x
   have F : Stw ⟨Y, X, w0⟩ [(q_p0, [v6, .int .i64 x5.2.2]), (b1, (B2))] [row v6 98 Az x5.2.1, Av v5 AY x5.1.un.2.2.2] w := F
   refine Dj (z := Value.agg #[.int .i64 0, .int .i64 0, .int .i64 0, .slice none 0 0]) (cs := (Fi x5 v5)) AY ([x5.1] : List Tr25) W F Aa PN NG Aa Aa Aa (AK Aa Aa Aa Br) Aa Aa ⟨[Value.int .i64 x5.1.un.1, Value.int .i64 x5.1.un.2.1, Value.int .i64 x5.1.un.2.2.1, v5], _, Aa, (Lb.2 ⟨[Value.int .i64 x5.1.un.1], [Value.int .i64 x5.1.un.2.1, Value.int .i64 x5.1.un.2.2.1, v5], Aa, Aa, ⟨[Value.int .i64 x5.1.un.2.1], [Value.int .i64 x5.1.un.2.2.1, v5], Aa, Aa, ⟨[Value.int .i64 x5.1.un.2.2.1], [v5], Aa, Aa, ⟨_, Aa, (F.item (i := 1) Aa)⟩⟩⟩⟩), Aa⟩ fun v7 a w W F => ?_
   refine ls W F Aa (Ba (v := Value.agg #[.int .i64 4, .int .i64 0, .int .i64 0, v7]) Q5 W Aa (AK Aa Aa Aa (AK Aa (C4 (F.one (k := 0) Aa)) Aa Br)) Aa).q fun a w W F => ?_
   refine Au (vs := (Qc v7)) (M' := [(q_p0, [v6, .int .i64 x5.2.2]), (b1, (Qc v7))]) 1 W F Aa Aa Aa FV Aa Aa Aa (Ac Aa (Ac Aa (Ac Aa (Ac (F.one (k := 0) Aa) AM)))) Aa fun w F => ?_
   refine Ae (Ad (Aq (A5 (AD ?_))))
   have H := AH H
   subst H
   refine AP (.inl Aa) W F Aa (AB 1 W Aa Aa FV Aa) ?_
   have F := F.freeze
   have F := F.frontZ (i := 1) Aa Aa
   have F := F.sub (M' := [(q_p0, [v6, .int .i64 x5.2.2])]) (Z' := [row v6 98 Az x5.2.1, Av v7 AY ([x5.1] : List Tr25)]) (List.Sublist.cons_cons _ (List.nil_sublist _)) (List.Sublist.cons_cons _ (List.Sublist.cons_cons _ (List.nil_sublist _)))
   exact ⟨((v7), (v6)), Aa, F⟩
  have H := Ey H
  refine B0 (Ml := [(q_p0, [v4, .int .i64 x3.2.2])]) (Zl := [row v4 98 Az x3.2.1]) (M := (DM b1)) (Z := []) (β := Value) (pv := fun x => .iface 89 (.agg #[.int .i64 x6.1.1, .int .i64 x6.1.2])) (MM := fun x => [(q_p0, [x, .int .i64 x6.2.2])]) (ZZ := fun x => [row x 98 Az x6.2.1]) W F R0 Aa (fun hL => ih _ _ w q_p0 (v4) x3.2 _ h4 hL) fun x w F => ?_
  obtain ⟨v8, rfl⟩ : ∃ y, y = x := ⟨x, rfl⟩
  have F : Stw ⟨Y, X, w0⟩ [(q_p0, [v8, .int .i64 x6.2.2]), (b1, (B2))] [row v8 98 Az x6.2.1] w := F
  refine BF (D2 (BF ?_))
  have H := AH H
  subst H
  refine A4 W ?_
  have F := F.sub (M' := [(q_p0, [v8, .int .i64 x6.2.2])]) (Z' := [row v8 98 Az x6.2.1]) (List.Sublist.cons_cons _ (List.nil_sublist _)) (List.Sublist.refl _)
  exact ⟨(v8), Aa, F⟩
 have H := AR (by rw [hb]; decide) H
 rw [hb] at W
 clear hb
 refine Ai (Ab ?_)
 refine ls W F Aa (Ah W Aa).q fun a w W F => ?_
 obtain ⟨x7, h5, H⟩ := An H
 refine AO (Ml := [(q_p0, [v4, .int .i64 x3.2.2])]) (Zl := [row v4 98 Az x3.2.1]) (M := (DM b1)) (Z := []) (β := Value) (rv := fun x => .bool x7.1) (MM := fun x => [(q_p0, [x, .int .i64 x7.2.2])]) (ZZ := fun x => [row x 98 Az x7.2.1]) W F OT Aa Aa (fun hL => A7 _ _ w q_p0 (v4) x3.2 ([40] : List UInt8) _ h5 hL) fun x a w W F => ?_
 obtain ⟨v9, rfl⟩ : ∃ y, y = x := ⟨x, rfl⟩
 have F : Stw ⟨Y, X, w0⟩ [(q_p0, [v9, .int .i64 x7.2.2]), (b1, (B2))] [row v9 98 Az x7.2.1] w := F
 refine ls W F Aa (Ag W Aa).q fun a w W F => ?_
 refine Ae (Ad ?_)
 refine Aw W Aa (fun hb => ?_) fun hb => ?_
 ·
  have H := AQ hb H
  rw [hb] at W
  clear hb
  refine Ai (Ab ?_)
  refine ls W F Aa (Ah W Aa).q fun a w W F => ?_
  obtain ⟨x8, h6, H⟩ := An H
  rcases x8 with x9 | x10
  ·
   have H := Ez H
   refine AO (Ml := [(q_p0, [v9, .int .i64 x7.2.2])]) (Zl := [row v9 98 Az x7.2.1]) (M := (DM b1)) (Z := []) (β := Value × Value) (rv := fun x => .agg #[.int .i64 x9.1.un.1, .int .i64 x9.1.un.2.1, .int .i64 x9.1.un.2.2.1, x.1]) (MM := fun x => [(q_p0, [x.2, .int .i64 x9.2.2])]) (ZZ := fun x => [row x.2 98 Az x9.2.1, Av x.1 AY x9.1.un.2.2.2]) W F Rk Aa Aa (fun hL => ih_parse_parser_condition _ _ w q_p0 (v9) x7.2 _ h6 hL) fun x a w W F => ?_
   obtain ⟨v10, v11⟩ := x
   have F : Stw ⟨Y, X, w0⟩ [(q_p0, [v11, .int .i64 x9.2.2]), (b1, (B2))] [row v11 98 Az x9.2.1, Av v10 AY x9.1.un.2.2.2] w := F
   refine AU (cs := (B2)) W F Aa NG Aa fun b2 a w W F => ?_
   refine Au (vs := (Fi x9 v10)) (M' := [(b2, [.int .i64 x9.1.un.1, .int .i64 x9.1.un.2.1, .int .i64 x9.1.un.2.2.1, v10]), (q_p0, [v11, .int .i64 x9.2.2]), (b1, [.int .i64 0, .int .i64 0, .int .i64 0, .slice none 0 0])]) 0 W F Aa Aa Aa FV Aa Aa Aa (Ac Aa (Ac Aa (Ac Aa (Ac (F.oneF (k := 1) Aa) AM)))) Aa fun w F => ?_
   refine Ae (Ad (Ai (Ab ?_)))
   refine ls W F Aa (Ah W Aa).q fun a w W F => ?_
   obtain ⟨x11, h7, H⟩ := An H
   rcases x11 with x12 | x13
   ·
    have H := Ez H
    have F := F.frontM (i := 1) Aa Aa
    refine AO (Ml := [(q_p0, [v11, .int .i64 x9.2.2])]) (Zl := [row v11 98 Az x9.2.1]) (M := [(b2, [.int .i64 x9.1.un.1, .int .i64 x9.1.un.2.1, .int .i64 x9.1.un.2.2.1, v10]), (b1, [.int .i64 0, .int .i64 0, .int .i64 0, .slice none 0 0])]) (Z := [Av v10 AY x9.1.un.2.2.2]) (β := Value) (rv := fun x => .tuple #[]) (MM := fun x => [(q_p0, [x, .int .i64 x12.2])]) (ZZ := fun x => [row x 98 Az x12.1]) W F Ks Aa Aa (fun hL => Bj _ _ w q_p0 (v11) x9.2 ([41] : List UInt8) _ h7 hL) fun x a w W F => ?_
    obtain ⟨v12, rfl⟩ : ∃ y, y = x := ⟨x, rfl⟩
    have F : Stw ⟨Y, X, w0⟩ [(q_p0, [v12, .int .i64 x12.2]), (b2, (Fi x9 v10)), (b1, (B2))] [row v12 98 Az x12.1, Av v10 AY x9.1.un.2.2.2] w := F
    refine Ae (Ad (Ai (Ab ?_)))
    refine ls W F Aa (AJ (v := Value.agg #[.int .i64 x9.1.un.1, .int .i64 x9.1.un.2.1, .int .i64 x9.1.un.2.2.1, v10]) 1 W Aa Aa FV Aa).q fun a w W F => ?_
    refine Au (vs := (Fi x9 v10)) (M' := [(q_p0, [v12, .int .i64 x12.2]), (b2, (Fi x9 v10)), (b1, (Fi x9 v10))]) 2 W F Aa Aa Aa FV Aa Aa Aa (Ac Aa (Ac Aa (Ac Aa (Ac (F.oneF (k := 1) Aa) AM)))) Aa fun w F => ?_
    refine Ae (Ad (Aq (A5 (AD ?_))))
    have H := AH H
    subst H
    refine AP (.inl Aa) W F Aa (AB 2 W Aa Aa FV Aa) ?_
    have F := F.frontZ (i := 1) Aa Aa
    have F := F.frontZ (i := 1) Aa Aa
    have F := F.sub (M' := [(q_p0, [v12, .int .i64 x12.2])]) (Z' := [row v12 98 Az x12.1, Av v10 AY x9.1.un.2.2.2]) (List.Sublist.cons_cons _ (List.nil_sublist _)) (List.Sublist.refl _)
    exact ⟨((v10), (v12)), Aa, F⟩
   have H := Ey H
   have F := F.frontM (i := 1) Aa Aa
   refine B0 (Ml := [(q_p0, [v11, .int .i64 x9.2.2])]) (Zl := [row v11 98 Az x9.2.1]) (M := [(b2, [.int .i64 x9.1.un.1, .int .i64 x9.1.un.2.1, .int .i64 x9.1.un.2.2.1, v10]), (b1, [.int .i64 0, .int .i64 0, .int .i64 0, .slice none 0 0])]) (Z := [Av v10 AY x9.1.un.2.2.2]) (β := Value) (pv := fun x => .iface 89 (.agg #[.int .i64 x13.1.1, .int .i64 x13.1.2])) (MM := fun x => [(q_p0, [x, .int .i64 x13.2.2])]) (ZZ := fun x => [row x 98 Az x13.2.1]) W F Ks Aa (fun hL => Bj _ _ w q_p0 (v11) x9.2 ([41] : List UInt8) _ h7 hL) fun x w F => ?_
   obtain ⟨v13, rfl⟩ : ∃ y, y = x := ⟨x, rfl⟩
   have F : Stw ⟨Y, X, w0⟩ [(q_p0, [v13, .int .i64 x13.2.2]), (b2, (Fi x9 v10)), (b1, (B2))] [row v13 98 Az x13.2.1, Av v10 AY x9.1.un.2.2.2] w := F
   refine BF (D2 (BF ?_))
   have H := AH H
   subst H
   refine A4 W ?_
   have F := F.sub (M' := [(q_p0, [v13, .int .i64 x13.2.2])]) (Z' := [row v13 98 Az x13.2.1]) (List.Sublist.cons_cons _ (List.nil_sublist _)) (List.Sublist.cons_cons _ (List.nil_sublist _))
   exact ⟨(v13), Aa, F⟩
  have H := Ey H
  refine B0 (Ml := [(q_p0, [v9, .int .i64 x7.2.2])]) (Zl := [row v9 98 Az x7.2.1]) (M := (DM b1)) (Z := []) (β := Value) (pv := fun x => .iface 89 (.agg #[.int .i64 x10.1.1, .int .i64 x10.1.2])) (MM := fun x => [(q_p0, [x, .int .i64 x10.2.2])]) (ZZ := fun x => [row x 98 Az x10.2.1]) W F Rk Aa (fun hL => ih_parse_parser_condition _ _ w q_p0 (v9) x7.2 _ h6 hL) fun x w F => ?_
  obtain ⟨v14, rfl⟩ : ∃ y, y = x := ⟨x, rfl⟩
  have F : Stw ⟨Y, X, w0⟩ [(q_p0, [v14, .int .i64 x10.2.2]), (b1, (B2))] [row v14 98 Az x10.2.1] w := F
  refine BF (D2 (BF ?_))
  have H := AH H
  subst H
  refine A4 W ?_
  have F := F.sub (M' := [(q_p0, [v14, .int .i64 x10.2.2])]) (Z' := [row v14 98 Az x10.2.1]) (List.Sublist.cons_cons _ (List.nil_sublist _)) (List.Sublist.refl _)
  exact ⟨(v14), Aa, F⟩
 have H := AR (by rw [hb]; decide) H
 rw [hb] at W
 clear hb
 refine Ax (Bw (Ad (Ai (Ab ?_))))
 refine ls W F Aa (Ah W Aa).q fun a w W F => ?_
 obtain ⟨x14, h8, H⟩ := An H
 rcases x14 with x15 | x16
 ·
  have H := Ez H
  refine AO (Ml := [(q_p0, [v9, .int .i64 x7.2.2])]) (Zl := [row v9 98 Az x7.2.1]) (M := (DM b1)) (Z := []) (β := Value) (rv := fun x => .int .i64 x15.1) (MM := fun x => [(q_p0, [x, .int .i64 x15.2.2])]) (ZZ := fun x => [row x 98 Az x15.2.1]) W F QY Aa Aa (fun hL => Dq _ _ w q_p0 (v9) x7.2 5 _ h8 hL) fun x a w W F => ?_
  obtain ⟨v15, rfl⟩ : ∃ y, y = x := ⟨x, rfl⟩
  have F : Stw ⟨Y, X, w0⟩ [(q_p0, [v15, .int .i64 x15.2.2]), (b1, (B2))] [row v15 98 Az x15.2.1] w := F
  refine ls W F Aa (Ag W Aa).q fun a w W F => ?_
  refine Ae (Ad (Ai (Ab ?_)))
  refine ls W F Aa (Ah W Aa).q fun a w W F => ?_
  obtain ⟨x17, h9, H⟩ := An H
  rcases x17 with x18 | x19
  ·
   have H := Ez H
   refine AO (Ml := [(q_p0, [v15, .int .i64 x15.2.2])]) (Zl := [row v15 98 Az x15.2.1]) (M := (DM b1)) (Z := []) (β := Value) (rv := fun x => .tuple #[]) (MM := fun x => [(q_p0, [x, .int .i64 x18.2])]) (ZZ := fun x => [row x 98 Az x18.1]) W F Ks Aa Aa (fun hL => Bj _ _ w q_p0 (v15) x15.2 ([61] : List UInt8) _ h9 hL) fun x a w W F => ?_
   obtain ⟨v16, rfl⟩ : ∃ y, y = x := ⟨x, rfl⟩
   have F : Stw ⟨Y, X, w0⟩ [(q_p0, [v16, .int .i64 x18.2]), (b1, (B2))] [row v16 98 Az x18.1] w := F
   refine Ae (Ad (Ai (Ab ?_)))
   iterate 2 refine ls W F Aa (Ah W Aa).q fun a w W F => ?_
   obtain ⟨x20, h10, H⟩ := An H
   rcases x20 with x21 | x22
   ·
    have H := Ez H
    refine AO (Ml := [(q_p0, [v16, .int .i64 x18.2])]) (Zl := [row v16 98 Az x18.1]) (M := (DM b1)) (Z := []) (β := Value) (rv := fun x => .int .i64 x21.1) (MM := fun x => [(q_p0, [x, .int .i64 x21.2.2])]) (ZZ := fun x => [row x 98 Az x21.2.1]) W F QW Aa Aa (fun hL => Da _ _ w q_p0 (v16) x18 _ h10 hL) fun x a w W F => ?_
    obtain ⟨v17, rfl⟩ : ∃ y, y = x := ⟨x, rfl⟩
    have F : Stw ⟨Y, X, w0⟩ [(q_p0, [v17, .int .i64 x21.2.2]), (b1, (B2))] [row v17 98 Az x21.2.1] w := F
    refine ls W F Aa (Ba (v := Value.agg #[.int .i64 3, .int .i64 x15.1, .int .i64 x21.1, .slice none 0 0]) Q5 W Aa Aa Aa).q fun a w W F => ?_
    refine Au (vs := [.int .i64 3, .int .i64 x15.1, .int .i64 x21.1, .slice none 0 0]) (M' := [(q_p0, [v17, .int .i64 x21.2.2]), (b1, [.int .i64 3, .int .i64 x15.1, .int .i64 x21.1, .slice none 0 0])]) 1 W F Aa Aa Aa FV Aa Aa Aa Aa Aa fun w F => ?_
    refine Ae (Ad (Aq ?_))
    have H := AH H
    subst H
    refine AP (.inl Aa) W F Aa (AB 1 W Aa Aa FV Aa) ?_
    have F := F.note (Sl.nil (r := AY))
    have F := F.frontZ (i := 1) Aa Aa
    have F := F.sub (M' := [(q_p0, [v17, .int .i64 x21.2.2])]) (Z' := [row v17 98 Az x21.2.1, Av (Value.slice none 0 0) AY ([])]) (List.Sublist.cons_cons _ (List.nil_sublist _)) (List.Sublist.refl _)
    exact ⟨((Value.slice none 0 0), (v17)), Aa, F⟩
   have H := Ey H
   refine B0 (Ml := [(q_p0, [v16, .int .i64 x18.2])]) (Zl := [row v16 98 Az x18.1]) (M := (DM b1)) (Z := []) (β := Value) (pv := fun x => .iface 89 (.agg #[.int .i64 x22.1.1, .int .i64 x22.1.2])) (MM := fun x => [(q_p0, [x, .int .i64 x22.2.2])]) (ZZ := fun x => [row x 98 Az x22.2.1]) W F QW Aa (fun hL => Da _ _ w q_p0 (v16) x18 _ h10 hL) fun x w F => ?_
   obtain ⟨v18, rfl⟩ : ∃ y, y = x := ⟨x, rfl⟩
   have F : Stw ⟨Y, X, w0⟩ [(q_p0, [v18, .int .i64 x22.2.2]), (b1, (B2))] [row v18 98 Az x22.2.1] w := F
   refine BF ?_
   have H := AH H
   subst H
   refine A4 W ?_
   have F := F.sub (M' := [(q_p0, [v18, .int .i64 x22.2.2])]) (Z' := [row v18 98 Az x22.2.1]) (List.Sublist.cons_cons _ (List.nil_sublist _)) (List.Sublist.refl _)
   exact ⟨(v18), Aa, F⟩
  have H := Ey H
  refine B0 (Ml := [(q_p0, [v15, .int .i64 x15.2.2])]) (Zl := [row v15 98 Az x15.2.1]) (M := (DM b1)) (Z := []) (β := Value) (pv := fun x => .iface 89 (.agg #[.int .i64 x19.1.1, .int .i64 x19.1.2])) (MM := fun x => [(q_p0, [x, .int .i64 x19.2.2])]) (ZZ := fun x => [row x 98 Az x19.2.1]) W F Ks Aa (fun hL => Bj _ _ w q_p0 (v15) x15.2 ([61] : List UInt8) _ h9 hL) fun x w F => ?_
  obtain ⟨v19, rfl⟩ : ∃ y, y = x := ⟨x, rfl⟩
  have F : Stw ⟨Y, X, w0⟩ [(q_p0, [v19, .int .i64 x19.2.2]), (b1, (B2))] [row v19 98 Az x19.2.1] w := F
  refine BF ?_
  have H := AH H
  subst H
  refine A4 W ?_
  have F := F.sub (M' := [(q_p0, [v19, .int .i64 x19.2.2])]) (Z' := [row v19 98 Az x19.2.1]) (List.Sublist.cons_cons _ (List.nil_sublist _)) (List.Sublist.refl _)
  exact ⟨(v19), Aa, F⟩
 have H := Ey H
 refine B0 (Ml := [(q_p0, [v9, .int .i64 x7.2.2])]) (Zl := [row v9 98 Az x7.2.1]) (M := (DM b1)) (Z := []) (β := Value) (pv := fun x => .iface 89 (.agg #[.int .i64 x16.1.1, .int .i64 x16.1.2])) (MM := fun x => [(q_p0, [x, .int .i64 x16.2.2])]) (ZZ := fun x => [row x 98 Az x16.2.1]) W F QY Aa (fun hL => Dq _ _ w q_p0 (v9) x7.2 5 _ h8 hL) fun x w F => ?_
 obtain ⟨v20, rfl⟩ : ∃ y, y = x := ⟨x, rfl⟩
 have F : Stw ⟨Y, X, w0⟩ [(q_p0, [v20, .int .i64 x16.2.2]), (b1, (B2))] [row v20 98 Az x16.2.1] w := F
 refine BF ?_
 have H := AH H
 subst H
 refine A4 W ?_
 have F := F.sub (M' := [(q_p0, [v20, .int .i64 x16.2.2])]) (Z' := [row v20 98 Az x16.2.1]) (List.Sublist.cons_cons _ (List.nil_sublist _)) (List.Sublist.refl _)
 exact ⟨(v20), Aa, F⟩
theorem HW (fRec_parse_parser_condition : ((List (Int × Int × List UInt8 × Int)) × Int) → Option ((Tr25 × ((List (Int × Int × List UInt8 × Int)) × Int)) ⊕ ((Int × Int) × ((List (Int × Int × List UInt8 × Int)) × Int)))) (ih_parse_parser_condition : ∀ (Y : Nat → Prop) (X : List Nat) (w0 : World) (q_p0 : Nat) (v1 : Value) (p0 : (List (Int × Int × List UInt8 × Int)) × Int) (r : (Tr25 × ((List (Int × Int × List UInt8 × Int)) × Int)) ⊕ ((Int × Int) × ((List (Int × Int × List UInt8 × Int)) × Int))) (H : fRec_parse_parser_condition p0 = some r) (hL : Stw ⟨Y, X, w0⟩ [(q_p0, [v1, .int .i64 p0.2])] [row v1 98 Az p0.1] w0), Calls Tryd.prog 33 #[.pointer (some ⟨q_p0, 0, none⟩)] w0 fun e w' => DH r (fun r => ∃ x : Value × Value, e = .returned (.agg #[.int .i64 r.1.un.1, .int .i64 r.1.un.2.1, .int .i64 r.1.un.2.2.1, x.1]) ∧ Stw ⟨Y, X, w0⟩ [(q_p0, [x.2, .int .i64 r.2.2])] [row (x.2) 98 Az r.2.1, Av (x.1) AY r.1.un.2.2.2] w') (fun r => ∃ x : Value, e = .panicked [{ v := .iface 89 (.agg #[.int .i64 r.1.1, .int .i64 r.1.2]), recovered := false }] ∧ Stw ⟨Y, X, w0⟩ [(q_p0, [x, .int .i64 r.2.2])] [row (x) 98 Az r.2.1] w')) : ∀ (n : Nat) (Y : Nat → Prop) (X : List Nat) (w0 : World) (q_p0 : Nat) (v1 : Value) (p0 : (List (Int × Int × List UInt8 × Int)) × Int) (r : (Tr25 × ((List (Int × Int × List UInt8 × Int)) × Int)) ⊕ ((Int × Int) × ((List (Int × Int × List UInt8 × Int)) × Int))) (H : Bh fRec_parse_parser_condition n p0 = some r) (hL : Stw ⟨Y, X, w0⟩ [(q_p0, [v1, .int .i64 p0.2])] [row v1 98 Az p0.1] w0), Calls Tryd.prog 88 #[.pointer (some ⟨q_p0, 0, none⟩)] w0 fun e w' => DH r (fun r => ∃ x : Value × Value, e = .returned (.agg #[.int .i64 r.1.un.1, .int .i64 r.1.un.2.1, .int .i64 r.1.un.2.2.1, x.1]) ∧ Stw ⟨Y, X, w0⟩ [(q_p0, [x.2, .int .i64 r.2.2])] [row (x.2) 98 Az r.2.1, Av (x.1) AY r.1.un.2.2.2] w') (fun r => ∃ x : Value, e = .panicked [{ v := .iface 89 (.agg #[.int .i64 r.1.1, .int .i64 r.1.2]), recovered := false }] ∧ Stw ⟨Y, X, w0⟩ [(q_p0, [x, .int .i64 r.2.2])] [row (x) 98 Az r.2.1] w') := by
  intro n
  induction n with
  | zero => intro Y X w0 q_p0 v1 p0 r H; exact nomatch H
  | succ n ih => intro Y X w0 q_p0 v1 p0 r H hL; exact Hr fRec_parse_parser_condition ih_parse_parser_condition (Bh fRec_parse_parser_condition n) ih Y X w0 q_p0 v1 p0 r H hL
theorem Db (fRec_parse_parser_condition : ((List (Int × Int × List UInt8 × Int)) × Int) → Option ((Tr25 × ((List (Int × Int × List UInt8 × Int)) × Int)) ⊕ ((Int × Int) × ((List (Int × Int × List UInt8 × Int)) × Int)))) (ih_parse_parser_condition : ∀ (Y : Nat → Prop) (X : List Nat) (w0 : World) (q_p0 : Nat) (v1 : Value) (p0 : (List (Int × Int × List UInt8 × Int)) × Int) (r : (Tr25 × ((List (Int × Int × List UInt8 × Int)) × Int)) ⊕ ((Int × Int) × ((List (Int × Int × List UInt8 × Int)) × Int))) (H : fRec_parse_parser_condition p0 = some r) (hL : Stw ⟨Y, X, w0⟩ [(q_p0, [v1, .int .i64 p0.2])] [row v1 98 Az p0.1] w0), Calls Tryd.prog 33 #[.pointer (some ⟨q_p0, 0, none⟩)] w0 fun e w' => DH r (fun r => ∃ x : Value × Value, e = .returned (.agg #[.int .i64 r.1.un.1, .int .i64 r.1.un.2.1, .int .i64 r.1.un.2.2.1, x.1]) ∧ Stw ⟨Y, X, w0⟩ [(q_p0, [x.2, .int .i64 r.2.2])] [row (x.2) 98 Az r.2.1, Av (x.1) AY r.1.un.2.2.2] w') (fun r => ∃ x : Value, e = .panicked [{ v := .iface 89 (.agg #[.int .i64 r.1.1, .int .i64 r.1.2]), recovered := false }] ∧ Stw ⟨Y, X, w0⟩ [(q_p0, [x, .int .i64 r.2.2])] [row (x) 98 Az r.2.1] w')) (Y : Nat → Prop) (X : List Nat) (w0 : World) (q_p0 : Nat) (v1 : Value) (p0 : (List (Int × Int × List UInt8 × Int)) × Int) (r : (Tr25 × ((List (Int × Int × List UInt8 × Int)) × Int)) ⊕ ((Int × Int) × ((List (Int × Int × List UInt8 × Int)) × Int))) (H : Ca fRec_parse_parser_condition p0 = some r) (hL : Stw ⟨Y, X, w0⟩ [(q_p0, [v1, .int .i64 p0.2])] [row v1 98 Az p0.1] w0) :
    Calls Tryd.prog 88 #[.pointer (some ⟨q_p0, 0, none⟩)] w0 fun e w' => DH r (fun r => ∃ x : Value × Value, e = .returned (.agg #[.int .i64 r.1.un.1, .int .i64 r.1.un.2.1, .int .i64 r.1.un.2.2.1, x.1]) ∧ Stw ⟨Y, X, w0⟩ [(q_p0, [x.2, .int .i64 r.2.2])] [row (x.2) 98 Az r.2.1, Av (x.1) AY r.1.un.2.2.2] w') (fun r => ∃ x : Value, e = .panicked [{ v := .iface 89 (.agg #[.int .i64 r.1.1, .int .i64 r.1.2]), recovered := false }] ∧ Stw ⟨Y, X, w0⟩ [(q_p0, [x, .int .i64 r.2.2])] [row (x) 98 Az r.2.1] w') := by
  obtain ⟨n, H⟩ := Ch H
  exact HW fRec_parse_parser_condition ih_parse_parser_condition n Y X w0 q_p0 v1 p0 r H hL
abbrev MR (a : Int × Int × Int × (Value × List Tr25)) : List Value := [.int .i64 a.1, .int .i64 a.2.1, .int .i64 a.2.2.1, a.2.2.2.1]
theorem QN : Ed N5 MR := (Ed.pair Fl.int.to (Ed.pair Fl.int.to (Ed.pair Fl.int.to Ed.vsl)))
def Ci (p0 : List Tr25) : Tr25 := Tr25.of (5, 0, 0, p0)
theorem Nd (Y : Nat → Prop) (w0 : World) (v1 : Value) (p0 : List Tr25) (r : Tr25) (H : Ci p0 = r) (s_v1 : Sl w0 Y AY v1 p0) :
    Calls Tryd.prog 89 #[v1] w0 fun e w' => ∃ x : Value, e = .returned (.agg #[.int .i64 r.un.1, .int .i64 r.un.2.1, .int .i64 r.un.2.2.1, x]) ∧ Stw ⟨Y, [], w0⟩ [] [Av (x) AY r.un.2.2.2] w' := by
 refine enter Tryd.func89 Aa Tryd.ntmps89 Aa fun a W => ?_
 have F := Stw.start Y w0
 obtain ⟨v2, h1, s_v1⟩ := s_v1.ex Gq
 have h_v1 := F.nx s_v1
 unfold Ci at H
 refine Ai (Ab ?_)
 refine AU (cs := (B2)) W F Aa NG Aa fun b1 a w W F => ?_
 refine Ae (Ad (Ai (Ab ?_)))
 refine ls W F Aa (Ah W Aa).q fun a w W F => ?_
 refine ls W F Aa (Ba (v := Value.agg #[.int .i64 5, .int .i64 0, .int .i64 0, v1]) Q5 W Aa (AK Aa Aa Aa (AK Aa (C4 h_v1.one) Aa Br)) Aa).q fun a w W F => ?_
 refine Au (vs := [.int .i64 5, .int .i64 0, .int .i64 0, v1]) (M' := [(b1, [.int .i64 5, .int .i64 0, .int .i64 0, v1])]) 0 W F Aa Aa Aa FV Aa Aa Aa (Ac Aa (Ac Aa (Ac Aa (Ac h_v1.one AM)))) Aa fun w F => ?_
 refine Ae (Ad (Aq ?_))
 subst H
 refine AP (.inl Aa) W F Aa (AB 0 W Aa Aa FV Aa) ?_
 have F := F.note (Sl.hide Gq h1 (F.old s_v1))
 have F := F.sub (M' := []) (Z' := [Av v1 AY p0]) (List.nil_sublist _) (List.Sublist.refl _)
 exact ⟨(v1), Aa, F⟩
theorem Tx : Has Tryd.prog 89 := ⟨fun args w => Al Tryd.func89 rfl (by decide) args w⟩
abbrev Ru (a0 : List Tr25) (a1 : Value) : List Value := [.int .i64 ((Ci a0).un.1), .int .i64 ((Ci a0).un.2.1), .int .i64 ((Ci a0).un.2.2.1), a1]
noncomputable def Bf (fRec_parse_parser_condition : ((List (Int × Int × List UInt8 × Int)) × Int) → Option ((Tr25 × ((List (Int × Int × List UInt8 × Int)) × Int)) ⊕ ((Int × Int) × ((List (Int × Int × List UInt8 × Int)) × Int)))) (p1 : List UInt8) : (List Tr25 × (List (Int × Int × List UInt8 × Int)) × Int) → Option ((List Tr25 × (List (Int × Int × List UInt8 × Int)) × Int) ⊕ ((List Tr25 × (List (Int × Int × List UInt8 × Int)) × Int) ⊕ ((Tr25 × ((List (Int × Int × List UInt8 × Int)) × Int)) ⊕ ((Int × Int) × ((List (Int × Int × List UInt8 × Int)) × Int)))))
  | (x7, x8, x9) => (AL (x8, x9) p1).bind fun x10 => (if x10.1 = true then ((Ca fRec_parse_parser_condition) x10.2).bind fun x11 => BZ x11 (fun x12 => (Eo x7 ([x12.1] : List Tr25)).bind fun x14 => some (.inl (x14, x12.2.1, x12.2.2))) (fun x13 => some (.inr (.inr (.inr (x13.1, x13.2))))) else some (.inr (.inl (x7, x10.2.1, x10.2.2))))
noncomputable def BH (fRec_parse_parser_condition : ((List (Int × Int × List UInt8 × Int)) × Int) → Option ((Tr25 × ((List (Int × Int × List UInt8 × Int)) × Int)) ⊕ ((Int × Int) × ((List (Int × Int × List UInt8 × Int)) × Int)))) (p0 : (List (Int × Int × List UInt8 × Int)) × Int) (p1 : List UInt8) : Option ((Tr25 × ((List (Int × Int × List UInt8 × Int)) × Int)) ⊕ ((Int × Int) × ((List (Int × Int × List UInt8 × Int)) × Int))) := ((Ca fRec_parse_parser_condition) p0).bind fun x1 => BZ x1 (fun x2 => J4 (Bx (Bf fRec_parse_parser_condition p1) (([x2.1] : List Tr25), x2.2.1, x2.2.2)) fun (x4, x5, x6) => (if (x4.length : Int) = 1 then (ix x4 0).bind fun x15 => some (.inl (x15, (x5, x6))) else some (.inl (Tr25.of ((Ci x4).un.1, (Ci x4).un.2.1, (Ci x4).un.2.2.1, (Ci x4).un.2.2.2), (x5, x6))))) (fun x3 => some (.inr (x3.1, x3.2)))
theorem E5 (fRec_parse_parser_condition : ((List (Int × Int × List UInt8 × Int)) × Int) → Option ((Tr25 × ((List (Int × Int × List UInt8 × Int)) × Int)) ⊕ ((Int × Int) × ((List (Int × Int × List UInt8 × Int)) × Int)))) (ih_parse_parser_condition : ∀ (Y : Nat → Prop) (X : List Nat) (w0 : World) (q_p0 : Nat) (v1 : Value) (p0 : (List (Int × Int × List UInt8 × Int)) × Int) (r : (Tr25 × ((List (Int × Int × List UInt8 × Int)) × Int)) ⊕ ((Int × Int) × ((List (Int × Int × List UInt8 × Int)) × Int))) (H : fRec_parse_parser_condition p0 = some r) (hL : Stw ⟨Y, X, w0⟩ [(q_p0, [v1, .int .i64 p0.2])] [row v1 98 Az p0.1] w0), Calls Tryd.prog 33 #[.pointer (some ⟨q_p0, 0, none⟩)] w0 fun e w' => DH r (fun r => ∃ x : Value × Value, e = .returned (.agg #[.int .i64 r.1.un.1, .int .i64 r.1.un.2.1, .int .i64 r.1.un.2.2.1, x.1]) ∧ Stw ⟨Y, X, w0⟩ [(q_p0, [x.2, .int .i64 r.2.2])] [row (x.2) 98 Az r.2.1, Av (x.1) AY r.1.un.2.2.2] w') (fun r => ∃ x : Value, e = .panicked [{ v := .iface 89 (.agg #[.int .i64 r.1.1, .int .i64 r.1.2]), recovered := false }] ∧ Stw ⟨Y, X, w0⟩ [(q_p0, [x, .int .i64 r.2.2])] [row (x) 98 Az r.2.1] w')) (Y : Nat → Prop) (X : List Nat) (w0 : World) (q_p0 : Nat) (v1 : Value) (p0 : (List (Int × Int × List UInt8 × Int)) × Int) (p1 : List UInt8) (r : (Tr25 × ((List (Int × Int × List UInt8 × Int)) × Int)) ⊕ ((Int × Int) × ((List (Int × Int × List UInt8 × Int)) × Int))) (H : BH fRec_parse_parser_condition p0 p1 = some r) (hL : Stw ⟨Y, X, w0⟩ [(q_p0, [v1, .int .i64 p0.2])] [row v1 98 Az p0.1] w0) :
    Calls Tryd.prog 67 #[.pointer (some ⟨q_p0, 0, none⟩), .string (bs p1), .func (.func 88) #[.pointer (some ⟨q_p0, 0, none⟩)] #[], .func (.func 89) #[] #[]] w0 fun e w' => DH r (fun r => ∃ x : Value × Value, e = .returned (.agg #[.int .i64 r.1.un.1, .int .i64 r.1.un.2.1, .int .i64 r.1.un.2.2.1, x.1]) ∧ Stw ⟨Y, X, w0⟩ [(q_p0, [x.2, .int .i64 r.2.2])] [row (x.2) 98 Az r.2.1, Av (x.1) AY r.1.un.2.2.2] w') (fun r => ∃ x : Value, e = .panicked [{ v := .iface 89 (.agg #[.int .i64 r.1.1, .int .i64 r.1.2]), recovered := false }] ∧ Stw ⟨Y, X, w0⟩ [(q_p0, [x, .int .i64 r.2.2])] [row (x) 98 Az r.2.1] w') := by
 refine enter Tryd.func67 Aa Tryd.ntmps67 Aa fun a W => ?_
 have F := hL
 unfold BH at H
 refine Ai (Ab ?_)
 refine AU (cs := (B2)) W F Aa NG Aa fun b1 a w W F => ?_
 refine Ae (Ad (Ai (Ab ?_)))
 refine ls W F Aa (Ah W Aa).q fun a w W F => ?_
 obtain ⟨x1, h1, H⟩ := An H
 rcases x1 with x2 | x3
 ·
  have H := Ez H
  have F := F.frontM (i := 1) Aa Aa
  refine Ej (ws := [.pointer (some ⟨q_p0, 0, none⟩)]) (Ml := [(q_p0, [v1, .int .i64 p0.2])]) (Zl := [row v1 98 Az p0.1]) (M := (DM b1)) (Z := []) (β := Value × Value) (rv := fun x => .agg #[.int .i64 x2.1.un.1, .int .i64 x2.1.un.2.1, .int .i64 x2.1.un.2.2.1, x.1]) (MM := fun x => [(q_p0, [x.2, .int .i64 x2.2.2])]) (ZZ := fun x => [row x.2 98 Az x2.2.1, Av x.1 AY x2.1.un.2.2.2]) W F R0 Aa Aa (fun hL => (Db fRec_parse_parser_condition ih_parse_parser_condition) _ _ w q_p0 (v1) p0 _ h1 hL) fun x a w W F => ?_
  obtain ⟨v2, v3⟩ := x
  have F : Stw ⟨Y, X, w0⟩ [(q_p0, [v3, .int .i64 x2.2.2]), (b1, (B2))] [row v3 98 Az x2.2.1, Av v2 AY x2.1.un.2.2.2] w := F
  refine Dj (z := Value.agg #[.int .i64 0, .int .i64 0, .int .i64 0, .slice none 0 0]) (cs := (Fi x2 v2)) AY ([x2.1] : List Tr25) W F Aa PN NG Aa Aa Aa (AK Aa Aa Aa Br) Aa Aa ⟨[Value.int .i64 x2.1.un.1, Value.int .i64 x2.1.un.2.1, Value.int .i64 x2.1.un.2.2.1, v2], _, Aa, (Lb.2 ⟨[Value.int .i64 x2.1.un.1], [Value.int .i64 x2.1.un.2.1, Value.int .i64 x2.1.un.2.2.1, v2], Aa, Aa, ⟨[Value.int .i64 x2.1.un.2.1], [Value.int .i64 x2.1.un.2.2.1, v2], Aa, Aa, ⟨[Value.int .i64 x2.1.un.2.2.1], [v2], Aa, Aa, ⟨_, Aa, (F.item (i := 1) Aa)⟩⟩⟩⟩), Aa⟩ fun v4 a w W F => ?_
  refine ls W F Aa (Ag W Aa).q fun a w W F => ?_
  refine Ae (Ad ?_)
  obtain ⟨o1, G1, K1, L1⟩ := O9 H
  refine Bd (fun a w => ∃ x4 : List Tr25, ∃ x5 : List (Int × Int × List UInt8 × Int), ∃ x6 : Int, ∃ v5 : Value, ∃ v6 : Value, some (Sum.inl (x4, x5, x6)) = some o1 ∧ Fr 30 [] [(3, .func (.func 89) #[] #[]), (8, .pointer (some ⟨b1, 0, none⟩)), (9, v5)] a ∧ Stw ⟨Y, X, w0⟩ [(q_p0, [v6, .int .i64 x6]), (b1, (B2))] [row v5 25 AY x4, row v6 98 Az x5] w) ?_ ?_
  ·
   have H := G1
   clear G1 K1
   refine AV ?_
   have F := F.frontZ (i := 1) Aa Aa
   have F := F.frontZ (i := 1) Aa Aa
   have F := F.frontM (i := 1) Aa Aa
   have F := F.frontM (i := 1) Aa Aa
   have F := F.sub (M' := [(q_p0, [v3, .int .i64 x2.2.2]), (b1, (B2))]) (Z' := [row v4 25 AY ([x2.1] : List Tr25), row v3 98 Az x2.2.1]) (List.Sublist.refl _) (List.Sublist.cons_cons _ (List.Sublist.cons_cons _ (List.nil_sublist _)))
   refine Cr H (fun s a w => ∃ v7 : Value, ∃ v8 : Value, Fr 30 [] [(0, .pointer (some ⟨q_p0, 0, none⟩)), (1, .string (bs p1)), (2, .func (.func 88) #[.pointer (some ⟨q_p0, 0, none⟩)] #[]), (3, .func (.func 89) #[] #[]), (8, .pointer (some ⟨b1, 0, none⟩)), (9, v7)] a ∧ Stw ⟨Y, X, w0⟩ [(q_p0, [v8, .int .i64 s.2.2]), (b1, (B2))] [row v7 25 AY s.1, row v8 98 Az s.2.1] w) ⟨(v4), (v3), W.re ⟨rfl, Aa, Aa, Aa, Aa, Aa, trivial⟩, F⟩ fun s o a w H L2 hR => ?_
   obtain ⟨x7, x8, x9⟩ := s
   obtain ⟨v7, v8, W, F⟩ := hR
   have W : Fr 30 [] [(0, .pointer (some ⟨q_p0, 0, none⟩)), (1, .string (bs p1)), (2, .func (.func 88) #[.pointer (some ⟨q_p0, 0, none⟩)] #[]), (3, .func (.func 89) #[] #[]), (8, .pointer (some ⟨b1, 0, none⟩)), (9, v7)] a := W
   have F : Stw ⟨Y, X, w0⟩ [(q_p0, [v8, .int .i64 x9]), (b1, (B2))] [row v7 25 AY x7, row v8 98 Az x8] w := F
   rw [Bf] at H
   refine Ai (Ai (Ab ?_))
   iterate 2 refine ls W F Aa (Ah W Aa).q fun a w W F => ?_
   obtain ⟨x10, h2, H⟩ := An H
   have F := F.frontZ (i := 1) Aa Aa
   refine AO (Ml := [(q_p0, [v8, .int .i64 x9])]) (Zl := [row v8 98 Az x8]) (M := (DM b1)) (Z := [row v7 25 AY x7]) (β := Value) (rv := fun x => .bool x10.1) (MM := fun x => [(q_p0, [x, .int .i64 x10.2.2])]) (ZZ := fun x => [row x 98 Az x10.2.1]) W F OT Aa Aa (fun hL => A7 _ _ w q_p0 (v8) (x8, x9) p1 _ h2 hL) fun x a w W F => ?_
   obtain ⟨v9, rfl⟩ : ∃ y, y = x := ⟨x, rfl⟩
   have F : Stw ⟨Y, X, w0⟩ [(q_p0, [v9, .int .i64 x10.2.2]), (b1, (B2))] [row v9 98 Az x10.2.1, row v7 25 AY x7] w := F
   refine Ae (Ad ?_)
   refine Aw W Aa (fun hb => ?_) fun hb => ?_
   ·
    have H := AQ hb H
    rw [hb] at W
    clear hb
    refine Ax (Ad (AV (Ab ?_)))
    iterate 2 refine ls W F Aa (Ah W Aa).q fun a w W F => ?_
    obtain ⟨x11, h3, H⟩ := An H
    rcases x11 with x12 | x13
    ·
     have H := Ez H
     refine Ej (ws := [.pointer (some ⟨q_p0, 0, none⟩)]) (Ml := [(q_p0, [v9, .int .i64 x10.2.2])]) (Zl := [row v9 98 Az x10.2.1]) (M := (DM b1)) (Z := [row v7 25 AY x7]) (β := Value × Value) (rv := fun x => .agg #[.int .i64 x12.1.un.1, .int .i64 x12.1.un.2.1, .int .i64 x12.1.un.2.2.1, x.1]) (MM := fun x => [(q_p0, [x.2, .int .i64 x12.2.2])]) (ZZ := fun x => [row x.2 98 Az x12.2.1, Av x.1 AY x12.1.un.2.2.2]) W F R0 Aa Aa (fun hL => (Db fRec_parse_parser_condition ih_parse_parser_condition) _ _ w q_p0 (v9) x10.2 _ h3 hL) fun x a w W F => ?_
     obtain ⟨v10, v11⟩ := x
     have F : Stw ⟨Y, X, w0⟩ [(q_p0, [v11, .int .i64 x12.2.2]), (b1, (B2))] [row v11 98 Az x12.2.1, Av v10 AY x12.1.un.2.2.2, row v7 25 AY x7] w := F
     refine Dj (z := Value.agg #[.int .i64 0, .int .i64 0, .int .i64 0, .slice none 0 0]) (cs := (Fi x12 v10)) AY ([x12.1] : List Tr25) W F Aa PN NG Aa Aa Aa (AK Aa Aa Aa Br) Aa Aa ⟨[Value.int .i64 x12.1.un.1, Value.int .i64 x12.1.un.2.1, Value.int .i64 x12.1.un.2.2.1, v10], _, Aa, (Lb.2 ⟨[Value.int .i64 x12.1.un.1], [Value.int .i64 x12.1.un.2.1, Value.int .i64 x12.1.un.2.2.1, v10], Aa, Aa, ⟨[Value.int .i64 x12.1.un.2.1], [Value.int .i64 x12.1.un.2.2.1, v10], Aa, Aa, ⟨[Value.int .i64 x12.1.un.2.2.1], [v10], Aa, Aa, ⟨_, Aa, (F.item (i := 1) Aa)⟩⟩⟩⟩), Aa⟩ fun v12 a w W F => ?_
     obtain ⟨x14, h4, H⟩ := An H
     refine CU (r := AY) (i := 3) W F Aa PN Aa Aa Aa Aa (DD F 0 Aa) h4 Aa fun v13 a w W F => ?_
     have F : Stw ⟨Y, X, w0⟩ [(q_p0, [v11, .int .i64 x12.2.2]), (b1, (B2))] [row v13 25 AY x14, row v12 25 AY ([x12.1] : List Tr25), row v11 98 Az x12.2.1, Av v10 AY x12.1.un.2.2.2] w := F
     refine ls W F Aa (Ag W Aa).q fun a w W F => ?_
     refine Ae (Bw (Ad ?_))
     have F := F.frontZ (i := 2) Aa Aa
     have F := F.frontZ (i := 1) Aa Aa
     have F := F.frontM (i := 1) Aa Aa
     have F := F.frontM (i := 1) Aa Aa
     have F := F.sub (M' := [(q_p0, [v11, .int .i64 x12.2.2]), (b1, (B2))]) (Z' := [row v13 25 AY x14, row v11 98 Az x12.2.1]) (List.Sublist.refl _) (List.Sublist.cons_cons _ (List.Sublist.cons_cons _ (List.nil_sublist _)))
     exact ⟨_, H, (v13), (v11), W.re ⟨rfl, Aa, Aa, Aa, Aa, Aa, trivial⟩, F⟩
    have H := Ey H
    refine F6 (ws := [.pointer (some ⟨q_p0, 0, none⟩)]) (Ml := [(q_p0, [v9, .int .i64 x10.2.2])]) (Zl := [row v9 98 Az x10.2.1]) (M := (DM b1)) (Z := [row v7 25 AY x7]) (β := Value) (pv := fun x => .iface 89 (.agg #[.int .i64 x13.1.1, .int .i64 x13.1.2])) (MM := fun x => [(q_p0, [x, .int .i64 x13.2.2])]) (ZZ := fun x => [row x 98 Az x13.2.1]) W F R0 Aa (fun hL => (Db fRec_parse_parser_condition ih_parse_parser_condition) _ _ w q_p0 (v9) x10.2 _ h3 hL) fun x w F => ?_
    obtain ⟨v14, rfl⟩ : ∃ y, y = x := ⟨x, rfl⟩
    have F : Stw ⟨Y, X, w0⟩ [(q_p0, [v14, .int .i64 x13.2.2]), (b1, (B2))] [row v14 98 Az x13.2.1, row v7 25 AY x7] w := F
    refine D2 (BF (D2 (BF ?_)))
    have H := L2 _ H
    have H := L1 _ H
    have H := AH H
    subst H
    refine A4 W ?_
    have F := F.sub (M' := [(q_p0, [v14, .int .i64 x13.2.2])]) (Z' := [row v14 98 Az x13.2.1]) (List.Sublist.cons_cons _ (List.nil_sublist _)) (List.Sublist.cons_cons _ (List.nil_sublist _))
    exact ⟨(v14), Aa, F⟩
   have H := AR (by rw [hb]; decide) H
   rw [hb] at W
   clear hb
   refine Cl ?_
   iterate 2 refine CO ?_
   refine Ck (Ad ?_)
   have F := F.frontZ (i := 1) Aa Aa
   have F := F.frontM (i := 1) Aa Aa
   have F := F.frontM (i := 1) Aa Aa
   have H := L2 _ H
   exact ⟨_, _, _, (v7), (v9), H, W.re ⟨rfl, Aa, Aa, trivial⟩, F⟩
  rintro a w ⟨x4, x5, x6, v5, v6, hj, W, F⟩
  have H := K1 _ hj
  clear hj G1 K1 L1
  refine Ai (Ai (Ab ?_))
  refine ls W F Aa (Ah W Aa).q fun a w W F => ?_
  refine ls W F Aa (E4 (r := AY) (l := x4) Qb Aa W Aa (Bq 0 Aa)).q fun a w W F => ?_
  refine ls W F Aa (Bn W Aa Aa).q fun a w W F => ?_
  refine Ae (Ad ?_)
  refine Aw W Aa (fun hb => ?_) fun hb => ?_
  ·
   have H := AQ (BB hb) H
   rw [hb] at W
   clear hb
   refine Ai ?_
   obtain ⟨v15, h5, F⟩ := F.exR Gq
   refine Ab ?_
   refine ls W F Aa (Ah W Aa).q fun a w W F => ?_
   obtain ⟨x15, h6, H⟩ := An H
   obtain ⟨v16, h7, h8⟩ := H1 h5 h6
   have h9 : MR v16 = [.int .i64 x15.un.1, .int .i64 x15.un.2.1, .int .i64 x15.un.2.2.1, (v16.2.2.2.1)] := congrArg (fun q : Tr25 => ([.int .i64 q.un.1, .int .i64 q.un.2.1, .int .i64 q.un.2.2.1, (v16.2.2.2.1)] : List Value)) h8
   refine ls W F Aa (CE (r := N5) PN W Aa Aa (Bq 0 Aa) h7).q fun a w W F => ?_
   refine ls W F Aa (BV (y := Value.agg #[.int .i64 x15.un.1, .int .i64 x15.un.2.1, .int .i64 x15.un.2.2.1, (v16.2.2.2.1)]) (j := 0) (i := 0) (enc := MR) W Aa Aa (Bq 0 Aa) h7 QN FV (by rw [h9]; rfl)).q fun a w W F => ?_
   have F := F.note (F.rowAt (k := 0) Aa h7 (Bp.snd (Bp.snd (Bp.snd Bp.here))) (congrArg (fun q : Tr25 => q.un.2.2.2) h8))
   refine Au (vs := [.int .i64 x15.un.1, .int .i64 x15.un.2.1, .int .i64 x15.un.2.2.1, (v16.2.2.2.1)]) (M' := [(q_p0, [v6, .int .i64 x6]), (b1, [.int .i64 x15.un.1, .int .i64 x15.un.2.1, .int .i64 x15.un.2.2.1, (v16.2.2.2.1)])]) 1 W F Aa Aa Aa FV Aa Aa Aa (Ac Aa (Ac Aa (Ac Aa (Ac (F.oneF (k := 0) Aa) AM)))) Aa fun w F => ?_
   refine Ae (Ad (Aq (AD ?_)))
   have H := AH H
   subst H
   refine AP (.inl Aa) W F Aa (AB 1 W Aa Aa FV Aa) ?_
   have F := F.frontZ (i := 2) Aa Aa
   have F := F.sub (M' := [(q_p0, [v6, .int .i64 x6])]) (Z' := [row v6 98 Az x5, Av (v16.2.2.2.1) AY x15.un.2.2.2]) (List.Sublist.cons_cons _ (List.nil_sublist _)) (List.Sublist.cons_cons _ (List.Sublist.cons_cons _ (List.nil_sublist _)))
   exact ⟨(((v16.2.2.2.1)), (v6)), Aa, F⟩
  have H := AR (Bz hb) H
  rw [hb] at W
  clear hb
  refine Ax (Ad (Ai (Ab ?_)))
  iterate 2 refine ls W F Aa (Ah W Aa).q fun a w W F => ?_
  have F := F.freeze
  refine Ej (ws := [v5]) (Ml := []) (Zl := []) (M := [(q_p0, [v6, .int .i64 x6]), (b1, (B2))]) (Z := [Av v5 AY x4, row v6 98 Az x5]) (β := Value) (rv := fun x => .agg #[.int .i64 ((Ci x4).un.1), .int .i64 ((Ci x4).un.2.1), .int .i64 ((Ci x4).un.2.2.1), x]) (MM := fun x => []) (ZZ := fun x => [Av x AY ((Ci x4).un.2.2.2)]) W F Tx Aa Aa (fun hL => Nd _ w (v5) x4 _ Aa (F.item (i := 0) Aa)) fun x a w W F => ?_
  obtain ⟨v17, rfl⟩ : ∃ y, y = x := ⟨x, rfl⟩
  have F : Stw ⟨Y, X, w0⟩ [(q_p0, [v6, .int .i64 x6]), (b1, (B2))] [Av v17 AY ((Ci x4).un.2.2.2), Av v5 AY x4, row v6 98 Az x5] w := F
  refine Au (vs := (Ru x4 v17)) (M' := [(q_p0, [v6, .int .i64 x6]), (b1, (Ru x4 v17))]) 1 W F Aa Aa Aa FV Aa Aa Aa (Ac Aa (Ac Aa (Ac Aa (Ac (F.oneF (k := 0) Aa) AM)))) Aa fun w F => ?_
  refine Ae (Ad (Aq ?_))
  have H := AH H
  subst H
  refine AP (.inl Aa) W F Aa (AB 1 W Aa Aa FV Aa) ?_
  have F := F.frontZ (i := 2) Aa Aa
  have F := F.sub (M' := [(q_p0, [v6, .int .i64 x6])]) (Z' := [row v6 98 Az x5, Av v17 AY ((Ci x4).un.2.2.2)]) (List.Sublist.cons_cons _ (List.nil_sublist _)) (List.Sublist.cons_cons _ (List.Sublist.cons_cons _ (List.nil_sublist _)))
  exact ⟨((v17), (v6)), Aa, F⟩
 have H := Ey H
 have F := F.frontM (i := 1) Aa Aa
 refine F6 (ws := [.pointer (some ⟨q_p0, 0, none⟩)]) (Ml := [(q_p0, [v1, .int .i64 p0.2])]) (Zl := [row v1 98 Az p0.1]) (M := (DM b1)) (Z := []) (β := Value) (pv := fun x => .iface 89 (.agg #[.int .i64 x3.1.1, .int .i64 x3.1.2])) (MM := fun x => [(q_p0, [x, .int .i64 x3.2.2])]) (ZZ := fun x => [row x 98 Az x3.2.1]) W F R0 Aa (fun hL => (Db fRec_parse_parser_condition ih_parse_parser_condition) _ _ w q_p0 (v1) p0 _ h1 hL) fun x w F => ?_
 obtain ⟨v18, rfl⟩ : ∃ y, y = x := ⟨x, rfl⟩
 have F : Stw ⟨Y, X, w0⟩ [(q_p0, [v18, .int .i64 x3.2.2]), (b1, (B2))] [row v18 98 Az x3.2.1] w := F
 refine BF ?_
 have H := AH H
 subst H
 refine A4 W ?_
 have F := F.sub (M' := [(q_p0, [v18, .int .i64 x3.2.2])]) (Z' := [row v18 98 Az x3.2.1]) (List.Sublist.cons_cons _ (List.nil_sublist _)) (List.Sublist.refl _)
 exact ⟨(v18), Aa, F⟩
theorem Sn : Has Tryd.prog 67 := ⟨fun args w => Al Tryd.func67 rfl (by decide) args w⟩
noncomputable def BL (fRec_parse_parser_condition : ((List (Int × Int × List UInt8 × Int)) × Int) → Option ((Tr25 × ((List (Int × Int × List UInt8 × Int)) × Int)) ⊕ ((Int × Int) × ((List (Int × Int × List UInt8 × Int)) × Int)))) (p0 : (List (Int × Int × List UInt8 × Int)) × Int) : Option ((Tr25 × ((List (Int × Int × List UInt8 × Int)) × Int)) ⊕ ((Int × Int) × ((List (Int × Int × List UInt8 × Int)) × Int))) := ((BH fRec_parse_parser_condition) p0 ([97, 110, 100] : List UInt8)).bind fun x1 => BZ x1 (fun x2 => some (.inl (x2.1, x2.2))) (fun x3 => some (.inr (x3.1, x3.2)))
theorem DB (fRec_parse_parser_condition : ((List (Int × Int × List UInt8 × Int)) × Int) → Option ((Tr25 × ((List (Int × Int × List UInt8 × Int)) × Int)) ⊕ ((Int × Int) × ((List (Int × Int × List UInt8 × Int)) × Int)))) (ih_parse_parser_condition : ∀ (Y : Nat → Prop) (X : List Nat) (w0 : World) (q_p0 : Nat) (v1 : Value) (p0 : (List (Int × Int × List UInt8 × Int)) × Int) (r : (Tr25 × ((List (Int × Int × List UInt8 × Int)) × Int)) ⊕ ((Int × Int) × ((List (Int × Int × List UInt8 × Int)) × Int))) (H : fRec_parse_parser_condition p0 = some r) (hL : Stw ⟨Y, X, w0⟩ [(q_p0, [v1, .int .i64 p0.2])] [row v1 98 Az p0.1] w0), Calls Tryd.prog 33 #[.pointer (some ⟨q_p0, 0, none⟩)] w0 fun e w' => DH r (fun r => ∃ x : Value × Value, e = .returned (.agg #[.int .i64 r.1.un.1, .int .i64 r.1.un.2.1, .int .i64 r.1.un.2.2.1, x.1]) ∧ Stw ⟨Y, X, w0⟩ [(q_p0, [x.2, .int .i64 r.2.2])] [row (x.2) 98 Az r.2.1, Av (x.1) AY r.1.un.2.2.2] w') (fun r => ∃ x : Value, e = .panicked [{ v := .iface 89 (.agg #[.int .i64 r.1.1, .int .i64 r.1.2]), recovered := false }] ∧ Stw ⟨Y, X, w0⟩ [(q_p0, [x, .int .i64 r.2.2])] [row (x) 98 Az r.2.1] w')) (Y : Nat → Prop) (X : List Nat) (w0 : World) (q_p0 : Nat) (v1 : Value) (p0 : (List (Int × Int × List UInt8 × Int)) × Int) (r : (Tr25 × ((List (Int × Int × List UInt8 × Int)) × Int)) ⊕ ((Int × Int) × ((List (Int × Int × List UInt8 × Int)) × Int))) (H : BL fRec_parse_parser_condition p0 = some r) (hL : Stw ⟨Y, X, w0⟩ [(q_p0, [v1, .int .i64 p0.2])] [row v1 98 Az p0.1] w0) :
    Calls Tryd.prog 68 #[.pointer (some ⟨q_p0, 0, none⟩)] w0 fun e w' => DH r (fun r => ∃ x : Value × Value, e = .returned (.agg #[.int .i64 r.1.un.1, .int .i64 r.1.un.2.1, .int .i64 r.1.un.2.2.1, x.1]) ∧ Stw ⟨Y, X, w0⟩ [(q_p0, [x.2, .int .i64 r.2.2])] [row (x.2) 98 Az r.2.1, Av (x.1) AY r.1.un.2.2.2] w') (fun r => ∃ x : Value, e = .panicked [{ v := .iface 89 (.agg #[.int .i64 r.1.1, .int .i64 r.1.2]), recovered := false }] ∧ Stw ⟨Y, X, w0⟩ [(q_p0, [x, .int .i64 r.2.2])] [row (x) 98 Az r.2.1] w') := by
 refine enter Tryd.func68 Aa Tryd.ntmps68 Aa fun a W => ?_
 have F := hL
 unfold BL at H
 refine Ai (Ab ?_)
 refine AU (cs := (B2)) W F Aa NG Aa fun b1 a w W F => ?_
 refine Ae (Ad (Ai (Ab ?_)))
 iterate 2 refine ls W F Aa (Ah W Aa).q fun a w W F => ?_
 refine ls W F Aa (FM (us := [.pointer (some ⟨q_p0, 0, none⟩)]) (vs := []) W Aa Aa).q fun a w W F => ?_
 obtain ⟨x1, h1, H⟩ := An H
 rcases x1 with x2 | x3
 ·
  have H := Ez H
  have F := F.frontM (i := 1) Aa Aa
  refine AO (Ml := [(q_p0, [v1, .int .i64 p0.2])]) (Zl := [row v1 98 Az p0.1]) (M := (DM b1)) (Z := []) (β := Value × Value) (rv := fun x => .agg #[.int .i64 x2.1.un.1, .int .i64 x2.1.un.2.1, .int .i64 x2.1.un.2.2.1, x.1]) (MM := fun x => [(q_p0, [x.2, .int .i64 x2.2.2])]) (ZZ := fun x => [row x.2 98 Az x2.2.1, Av x.1 AY x2.1.un.2.2.2]) W F Sn Aa Aa (fun hL => (E5 fRec_parse_parser_condition ih_parse_parser_condition) _ _ w q_p0 (v1) p0 ([97, 110, 100] : List UInt8) _ h1 hL) fun x a w W F => ?_
  obtain ⟨v2, v3⟩ := x
  have F : Stw ⟨Y, X, w0⟩ [(q_p0, [v3, .int .i64 x2.2.2]), (b1, (B2))] [row v3 98 Az x2.2.1, Av v2 AY x2.1.un.2.2.2] w := F
  refine Au (vs := (Fi x2 v2)) (M' := [(q_p0, [v3, .int .i64 x2.2.2]), (b1, (Fi x2 v2))]) 1 W F Aa Aa Aa FV Aa Aa Aa (Ac Aa (Ac Aa (Ac Aa (Ac (F.oneF (k := 1) Aa) AM)))) Aa fun w F => ?_
  refine Ae (Ad (Aq ?_))
  have H := AH H
  subst H
  refine AP (.inl Aa) W F Aa (AB 1 W Aa Aa FV Aa) ?_
  have F := F.frontZ (i := 1) Aa Aa
  have F := F.frontZ (i := 1) Aa Aa
  have F := F.sub (M' := [(q_p0, [v3, .int .i64 x2.2.2])]) (Z' := [row v3 98 Az x2.2.1, Av v2 AY x2.1.un.2.2.2]) (List.Sublist.cons_cons _ (List.nil_sublist _)) (List.Sublist.refl _)
  exact ⟨((v2), (v3)), Aa, F⟩
 have H := Ey H
 have F := F.frontM (i := 1) Aa Aa
 refine B0 (Ml := [(q_p0, [v1, .int .i64 p0.2])]) (Zl := [row v1 98 Az p0.1]) (M := (DM b1)) (Z := []) (β := Value) (pv := fun x => .iface 89 (.agg #[.int .i64 x3.1.1, .int .i64 x3.1.2])) (MM := fun x => [(q_p0, [x, .int .i64 x3.2.2])]) (ZZ := fun x => [row x 98 Az x3.2.1]) W F Sn Aa (fun hL => (E5 fRec_parse_parser_condition ih_parse_parser_condition) _ _ w q_p0 (v1) p0 ([97, 110, 100] : List UInt8) _ h1 hL) fun x w F => ?_
 obtain ⟨v4, rfl⟩ : ∃ y, y = x := ⟨x, rfl⟩
 have F : Stw ⟨Y, X, w0⟩ [(q_p0, [v4, .int .i64 x3.2.2]), (b1, (B2))] [row v4 98 Az x3.2.1] w := F
 refine BF ?_
 have H := AH H
 subst H
 refine A4 W ?_
 have F := F.sub (M' := [(q_p0, [v4, .int .i64 x3.2.2])]) (Z' := [row v4 98 Az x3.2.1]) (List.Sublist.cons_cons _ (List.nil_sublist _)) (List.Sublist.refl _)
 exact ⟨(v4), Aa, F⟩
theorem Sx : Has Tryd.prog 68 := ⟨fun args w => Al Tryd.func68 rfl (by decide) args w⟩
def CA (p0 : List Tr25) : Tr25 := Tr25.of (6, 0, 0, p0)
theorem N7 (Y : Nat → Prop) (w0 : World) (v1 : Value) (p0 : List Tr25) (r : Tr25) (H : CA p0 = r) (s_v1 : Sl w0 Y AY v1 p0) :
    Calls Tryd.prog 69 #[v1] w0 fun e w' => ∃ x : Value, e = .returned (.agg #[.int .i64 r.un.1, .int .i64 r.un.2.1, .int .i64 r.un.2.2.1, x]) ∧ Stw ⟨Y, [], w0⟩ [] [Av (x) AY r.un.2.2.2] w' := by
 refine enter Tryd.func69 Aa Tryd.ntmps69 Aa fun a W => ?_
 have F := Stw.start Y w0
 obtain ⟨v2, h1, s_v1⟩ := s_v1.ex Gq
 have h_v1 := F.nx s_v1
 unfold CA at H
 refine Ai (Ab ?_)
 refine AU (cs := (B2)) W F Aa NG Aa fun b1 a w W F => ?_
 refine Ae (Ad (Ai (Ab ?_)))
 refine ls W F Aa (Ah W Aa).q fun a w W F => ?_
 refine ls W F Aa (Ba (v := Value.agg #[.int .i64 6, .int .i64 0, .int .i64 0, v1]) Q5 W Aa (AK Aa Aa Aa (AK Aa (C4 h_v1.one) Aa Br)) Aa).q fun a w W F => ?_
 refine Au (vs := [.int .i64 6, .int .i64 0, .int .i64 0, v1]) (M' := [(b1, [.int .i64 6, .int .i64 0, .int .i64 0, v1])]) 0 W F Aa Aa Aa FV Aa Aa Aa (Ac Aa (Ac Aa (Ac Aa (Ac h_v1.one AM)))) Aa fun w F => ?_
 refine Ae (Ad (Aq ?_))
 subst H
 refine AP (.inl Aa) W F Aa (AB 0 W Aa Aa FV Aa) ?_
 have F := F.note (Sl.hide Gq h1 (F.old s_v1))
 have F := F.sub (M' := []) (Z' := [Av v1 AY p0]) (List.nil_sublist _) (List.Sublist.refl _)
 exact ⟨(v1), Aa, F⟩
theorem TI : Has Tryd.prog 69 := ⟨fun args w => Al Tryd.func69 rfl (by decide) args w⟩
abbrev Rq (a0 : List Tr25) (a1 : Value) : List Value := [.int .i64 ((CA a0).un.1), .int .i64 ((CA a0).un.2.1), .int .i64 ((CA a0).un.2.2.1), a1]
noncomputable def Bu (fRec_parse_parser_condition : ((List (Int × Int × List UInt8 × Int)) × Int) → Option ((Tr25 × ((List (Int × Int × List UInt8 × Int)) × Int)) ⊕ ((Int × Int) × ((List (Int × Int × List UInt8 × Int)) × Int)))) (p1 : List UInt8) : (List Tr25 × (List (Int × Int × List UInt8 × Int)) × Int) → Option ((List Tr25 × (List (Int × Int × List UInt8 × Int)) × Int) ⊕ ((List Tr25 × (List (Int × Int × List UInt8 × Int)) × Int) ⊕ ((Tr25 × ((List (Int × Int × List UInt8 × Int)) × Int)) ⊕ ((Int × Int) × ((List (Int × Int × List UInt8 × Int)) × Int)))))
  | (x7, x8, x9) => (AL (x8, x9) p1).bind fun x10 => (if x10.1 = true then ((BL fRec_parse_parser_condition) x10.2).bind fun x11 => BZ x11 (fun x12 => (Eo x7 ([x12.1] : List Tr25)).bind fun x14 => some (.inl (x14, x12.2.1, x12.2.2))) (fun x13 => some (.inr (.inr (.inr (x13.1, x13.2))))) else some (.inr (.inl (x7, x10.2.1, x10.2.2))))
noncomputable def BS (fRec_parse_parser_condition : ((List (Int × Int × List UInt8 × Int)) × Int) → Option ((Tr25 × ((List (Int × Int × List UInt8 × Int)) × Int)) ⊕ ((Int × Int) × ((List (Int × Int × List UInt8 × Int)) × Int)))) (p0 : (List (Int × Int × List UInt8 × Int)) × Int) (p1 : List UInt8) : Option ((Tr25 × ((List (Int × Int × List UInt8 × Int)) × Int)) ⊕ ((Int × Int) × ((List (Int × Int × List UInt8 × Int)) × Int))) := ((BL fRec_parse_parser_condition) p0).bind fun x1 => BZ x1 (fun x2 => J4 (Bx (Bu fRec_parse_parser_condition p1) (([x2.1] : List Tr25), x2.2.1, x2.2.2)) fun (x4, x5, x6) => (if (x4.length : Int) = 1 then (ix x4 0).bind fun x15 => some (.inl (x15, (x5, x6))) else some (.inl (Tr25.of ((CA x4).un.1, (CA x4).un.2.1, (CA x4).un.2.2.1, (CA x4).un.2.2.2), (x5, x6))))) (fun x3 => some (.inr (x3.1, x3.2)))
theorem Fk (fRec_parse_parser_condition : ((List (Int × Int × List UInt8 × Int)) × Int) → Option ((Tr25 × ((List (Int × Int × List UInt8 × Int)) × Int)) ⊕ ((Int × Int) × ((List (Int × Int × List UInt8 × Int)) × Int)))) (ih_parse_parser_condition : ∀ (Y : Nat → Prop) (X : List Nat) (w0 : World) (q_p0 : Nat) (v1 : Value) (p0 : (List (Int × Int × List UInt8 × Int)) × Int) (r : (Tr25 × ((List (Int × Int × List UInt8 × Int)) × Int)) ⊕ ((Int × Int) × ((List (Int × Int × List UInt8 × Int)) × Int))) (H : fRec_parse_parser_condition p0 = some r) (hL : Stw ⟨Y, X, w0⟩ [(q_p0, [v1, .int .i64 p0.2])] [row v1 98 Az p0.1] w0), Calls Tryd.prog 33 #[.pointer (some ⟨q_p0, 0, none⟩)] w0 fun e w' => DH r (fun r => ∃ x : Value × Value, e = .returned (.agg #[.int .i64 r.1.un.1, .int .i64 r.1.un.2.1, .int .i64 r.1.un.2.2.1, x.1]) ∧ Stw ⟨Y, X, w0⟩ [(q_p0, [x.2, .int .i64 r.2.2])] [row (x.2) 98 Az r.2.1, Av (x.1) AY r.1.un.2.2.2] w') (fun r => ∃ x : Value, e = .panicked [{ v := .iface 89 (.agg #[.int .i64 r.1.1, .int .i64 r.1.2]), recovered := false }] ∧ Stw ⟨Y, X, w0⟩ [(q_p0, [x, .int .i64 r.2.2])] [row (x) 98 Az r.2.1] w')) (Y : Nat → Prop) (X : List Nat) (w0 : World) (q_p0 : Nat) (v1 : Value) (p0 : (List (Int × Int × List UInt8 × Int)) × Int) (p1 : List UInt8) (r : (Tr25 × ((List (Int × Int × List UInt8 × Int)) × Int)) ⊕ ((Int × Int) × ((List (Int × Int × List UInt8 × Int)) × Int))) (H : BS fRec_parse_parser_condition p0 p1 = some r) (hL : Stw ⟨Y, X, w0⟩ [(q_p0, [v1, .int .i64 p0.2])] [row v1 98 Az p0.1] w0) :
    Calls Tryd.prog 67 #[.pointer (some ⟨q_p0, 0, none⟩), .string (bs p1), .func (.func 68) #[.pointer (some ⟨q_p0, 0, none⟩)] #[], .func (.func 69) #[] #[]] w0 fun e w' => DH r (fun r => ∃ x : Value × Value, e = .returned (.agg #[.int .i64 r.1.un.1, .int .i64 r.1.un.2.1, .int .i64 r.1.un.2.2.1, x.1]) ∧ Stw ⟨Y, X, w0⟩ [(q_p0, [x.2, .int .i64 r.2.2])] [row (x.2) 98 Az r.2.1, Av (x.1) AY r.1.un.2.2.2] w') (fun r => ∃ x : Value, e = .panicked [{ v := .iface 89 (.agg #[.int .i64 r.1.1, .int .i64 r.1.2]), recovered := false }] ∧ Stw ⟨Y, X, w0⟩ [(q_p0, [x, .int .i64 r.2.2])] [row (x) 98 Az r.2.1] w') := by
 refine enter Tryd.func67 Aa Tryd.ntmps67 Aa fun a W => ?_
 have F := hL
 unfold BS at H
 refine Ai (Ab ?_)
 refine AU (cs := (B2)) W F Aa NG Aa fun b1 a w W F => ?_
 refine Ae (Ad (Ai (Ab ?_)))
 refine ls W F Aa (Ah W Aa).q fun a w W F => ?_
 obtain ⟨x1, h1, H⟩ := An H
 rcases x1 with x2 | x3
 ·
  have H := Ez H
  have F := F.frontM (i := 1) Aa Aa
  refine Ej (ws := [.pointer (some ⟨q_p0, 0, none⟩)]) (Ml := [(q_p0, [v1, .int .i64 p0.2])]) (Zl := [row v1 98 Az p0.1]) (M := (DM b1)) (Z := []) (β := Value × Value) (rv := fun x => .agg #[.int .i64 x2.1.un.1, .int .i64 x2.1.un.2.1, .int .i64 x2.1.un.2.2.1, x.1]) (MM := fun x => [(q_p0, [x.2, .int .i64 x2.2.2])]) (ZZ := fun x => [row x.2 98 Az x2.2.1, Av x.1 AY x2.1.un.2.2.2]) W F Sx Aa Aa (fun hL => (DB fRec_parse_parser_condition ih_parse_parser_condition) _ _ w q_p0 (v1) p0 _ h1 hL) fun x a w W F => ?_
  obtain ⟨v2, v3⟩ := x
  have F : Stw ⟨Y, X, w0⟩ [(q_p0, [v3, .int .i64 x2.2.2]), (b1, (B2))] [row v3 98 Az x2.2.1, Av v2 AY x2.1.un.2.2.2] w := F
  refine Dj (z := Value.agg #[.int .i64 0, .int .i64 0, .int .i64 0, .slice none 0 0]) (cs := (Fi x2 v2)) AY ([x2.1] : List Tr25) W F Aa PN NG Aa Aa Aa (AK Aa Aa Aa Br) Aa Aa ⟨[Value.int .i64 x2.1.un.1, Value.int .i64 x2.1.un.2.1, Value.int .i64 x2.1.un.2.2.1, v2], _, Aa, (Lb.2 ⟨[Value.int .i64 x2.1.un.1], [Value.int .i64 x2.1.un.2.1, Value.int .i64 x2.1.un.2.2.1, v2], Aa, Aa, ⟨[Value.int .i64 x2.1.un.2.1], [Value.int .i64 x2.1.un.2.2.1, v2], Aa, Aa, ⟨[Value.int .i64 x2.1.un.2.2.1], [v2], Aa, Aa, ⟨_, Aa, (F.item (i := 1) Aa)⟩⟩⟩⟩), Aa⟩ fun v4 a w W F => ?_
  refine ls W F Aa (Ag W Aa).q fun a w W F => ?_
  refine Ae (Ad ?_)
  obtain ⟨o1, G1, K1, L1⟩ := O9 H
  refine Bd (fun a w => ∃ x4 : List Tr25, ∃ x5 : List (Int × Int × List UInt8 × Int), ∃ x6 : Int, ∃ v5 : Value, ∃ v6 : Value, some (Sum.inl (x4, x5, x6)) = some o1 ∧ Fr 30 [] [(3, .func (.func 69) #[] #[]), (8, .pointer (some ⟨b1, 0, none⟩)), (9, v5)] a ∧ Stw ⟨Y, X, w0⟩ [(q_p0, [v6, .int .i64 x6]), (b1, (B2))] [row v5 25 AY x4, row v6 98 Az x5] w) ?_ ?_
  ·
   have H := G1
   clear G1 K1
   refine AV ?_
   have F := F.frontZ (i := 1) Aa Aa
   have F := F.frontZ (i := 1) Aa Aa
   have F := F.frontM (i := 1) Aa Aa
   have F := F.frontM (i := 1) Aa Aa
   have F := F.sub (M' := [(q_p0, [v3, .int .i64 x2.2.2]), (b1, (B2))]) (Z' := [row v4 25 AY ([x2.1] : List Tr25), row v3 98 Az x2.2.1]) (List.Sublist.refl _) (List.Sublist.cons_cons _ (List.Sublist.cons_cons _ (List.nil_sublist _)))
   refine Cr H (fun s a w => ∃ v7 : Value, ∃ v8 : Value, Fr 30 [] [(0, .pointer (some ⟨q_p0, 0, none⟩)), (1, .string (bs p1)), (2, .func (.func 68) #[.pointer (some ⟨q_p0, 0, none⟩)] #[]), (3, .func (.func 69) #[] #[]), (8, .pointer (some ⟨b1, 0, none⟩)), (9, v7)] a ∧ Stw ⟨Y, X, w0⟩ [(q_p0, [v8, .int .i64 s.2.2]), (b1, (B2))] [row v7 25 AY s.1, row v8 98 Az s.2.1] w) ⟨(v4), (v3), W.re ⟨rfl, Aa, Aa, Aa, Aa, Aa, trivial⟩, F⟩ fun s o a w H L2 hR => ?_
   obtain ⟨x7, x8, x9⟩ := s
   obtain ⟨v7, v8, W, F⟩ := hR
   have W : Fr 30 [] [(0, .pointer (some ⟨q_p0, 0, none⟩)), (1, .string (bs p1)), (2, .func (.func 68) #[.pointer (some ⟨q_p0, 0, none⟩)] #[]), (3, .func (.func 69) #[] #[]), (8, .pointer (some ⟨b1, 0, none⟩)), (9, v7)] a := W
   have F : Stw ⟨Y, X, w0⟩ [(q_p0, [v8, .int .i64 x9]), (b1, (B2))] [row v7 25 AY x7, row v8 98 Az x8] w := F
   rw [Bu] at H
   refine Ai (Ai (Ab ?_))
   iterate 2 refine ls W F Aa (Ah W Aa).q fun a w W F => ?_
   obtain ⟨x10, h2, H⟩ := An H
   have F := F.frontZ (i := 1) Aa Aa
   refine AO (Ml := [(q_p0, [v8, .int .i64 x9])]) (Zl := [row v8 98 Az x8]) (M := (DM b1)) (Z := [row v7 25 AY x7]) (β := Value) (rv := fun x => .bool x10.1) (MM := fun x => [(q_p0, [x, .int .i64 x10.2.2])]) (ZZ := fun x => [row x 98 Az x10.2.1]) W F OT Aa Aa (fun hL => A7 _ _ w q_p0 (v8) (x8, x9) p1 _ h2 hL) fun x a w W F => ?_
   obtain ⟨v9, rfl⟩ : ∃ y, y = x := ⟨x, rfl⟩
   have F : Stw ⟨Y, X, w0⟩ [(q_p0, [v9, .int .i64 x10.2.2]), (b1, (B2))] [row v9 98 Az x10.2.1, row v7 25 AY x7] w := F
   refine Ae (Ad ?_)
   refine Aw W Aa (fun hb => ?_) fun hb => ?_
   ·
    have H := AQ hb H
    rw [hb] at W
    clear hb
    refine Ax (Ad (AV (Ab ?_)))
    iterate 2 refine ls W F Aa (Ah W Aa).q fun a w W F => ?_
    obtain ⟨x11, h3, H⟩ := An H
    rcases x11 with x12 | x13
    ·
     have H := Ez H
     refine Ej (ws := [.pointer (some ⟨q_p0, 0, none⟩)]) (Ml := [(q_p0, [v9, .int .i64 x10.2.2])]) (Zl := [row v9 98 Az x10.2.1]) (M := (DM b1)) (Z := [row v7 25 AY x7]) (β := Value × Value) (rv := fun x => .agg #[.int .i64 x12.1.un.1, .int .i64 x12.1.un.2.1, .int .i64 x12.1.un.2.2.1, x.1]) (MM := fun x => [(q_p0, [x.2, .int .i64 x12.2.2])]) (ZZ := fun x => [row x.2 98 Az x12.2.1, Av x.1 AY x12.1.un.2.2.2]) W F Sx Aa Aa (fun hL => (DB fRec_parse_parser_condition ih_parse_parser_condition) _ _ w q_p0 (v9) x10.2 _ h3 hL) fun x a w W F => ?_
     obtain ⟨v10, v11⟩ := x
     have F : Stw ⟨Y, X, w0⟩ [(q_p0, [v11, .int .i64 x12.2.2]), (b1, (B2))] [row v11 98 Az x12.2.1, Av v10 AY x12.1.un.2.2.2, row v7 25 AY x7] w := F
     refine Dj (z := Value.agg #[.int .i64 0, .int .i64 0, .int .i64 0, .slice none 0 0]) (cs := (Fi x12 v10)) AY ([x12.1] : List Tr25) W F Aa PN NG Aa Aa Aa (AK Aa Aa Aa Br) Aa Aa ⟨[Value.int .i64 x12.1.un.1, Value.int .i64 x12.1.un.2.1, Value.int .i64 x12.1.un.2.2.1, v10], _, Aa, (Lb.2 ⟨[Value.int .i64 x12.1.un.1], [Value.int .i64 x12.1.un.2.1, Value.int .i64 x12.1.un.2.2.1, v10], Aa, Aa, ⟨[Value.int .i64 x12.1.un.2.1], [Value.int .i64 x12.1.un.2.2.1, v10], Aa, Aa, ⟨[Value.int .i64 x12.1.un.2.2.1], [v10], Aa, Aa, ⟨_, Aa, (F.item (i := 1) Aa)⟩⟩⟩⟩), Aa⟩ fun v12 a w W F => ?_
     obtain ⟨x14, h4, H⟩ := An H
     refine CU (r := AY) (i := 3) W F Aa PN Aa Aa Aa Aa (DD F 0 Aa) h4 Aa fun v13 a w W F => ?_
     have F : Stw ⟨Y, X, w0⟩ [(q_p0, [v11, .int .i64 x12.2.2]), (b1, (B2))] [row v13 25 AY x14, row v12 25 AY ([x12.1] : List Tr25), row v11 98 Az x12.2.1, Av v10 AY x12.1.un.2.2.2] w := F
     refine ls W F Aa (Ag W Aa).q fun a w W F => ?_
     refine Ae (Bw (Ad ?_))
     have F := F.frontZ (i := 2) Aa Aa
     have F := F.frontZ (i := 1) Aa Aa
     have F := F.frontM (i := 1) Aa Aa
     have F := F.frontM (i := 1) Aa Aa
     have F := F.sub (M' := [(q_p0, [v11, .int .i64 x12.2.2]), (b1, (B2))]) (Z' := [row v13 25 AY x14, row v11 98 Az x12.2.1]) (List.Sublist.refl _) (List.Sublist.cons_cons _ (List.Sublist.cons_cons _ (List.nil_sublist _)))
     exact ⟨_, H, (v13), (v11), W.re ⟨rfl, Aa, Aa, Aa, Aa, Aa, trivial⟩, F⟩
    have H := Ey H
    refine F6 (ws := [.pointer (some ⟨q_p0, 0, none⟩)]) (Ml := [(q_p0, [v9, .int .i64 x10.2.2])]) (Zl := [row v9 98 Az x10.2.1]) (M := (DM b1)) (Z := [row v7 25 AY x7]) (β := Value) (pv := fun x => .iface 89 (.agg #[.int .i64 x13.1.1, .int .i64 x13.1.2])) (MM := fun x => [(q_p0, [x, .int .i64 x13.2.2])]) (ZZ := fun x => [row x 98 Az x13.2.1]) W F Sx Aa (fun hL => (DB fRec_parse_parser_condition ih_parse_parser_condition) _ _ w q_p0 (v9) x10.2 _ h3 hL) fun x w F => ?_
    obtain ⟨v14, rfl⟩ : ∃ y, y = x := ⟨x, rfl⟩
    have F : Stw ⟨Y, X, w0⟩ [(q_p0, [v14, .int .i64 x13.2.2]), (b1, (B2))] [row v14 98 Az x13.2.1, row v7 25 AY x7] w := F
    refine D2 (BF (D2 (BF ?_)))
    have H := L2 _ H
    have H := L1 _ H
    have H := AH H
    subst H
    refine A4 W ?_
    have F := F.sub (M' := [(q_p0, [v14, .int .i64 x13.2.2])]) (Z' := [row v14 98 Az x13.2.1]) (List.Sublist.cons_cons _ (List.nil_sublist _)) (List.Sublist.cons_cons _ (List.nil_sublist _))
    exact ⟨(v14), Aa, F⟩
   have H := AR (by rw [hb]; decide) H
   rw [hb] at W
   clear hb
   refine Cl ?_
   iterate 2 refine CO ?_
   refine Ck (Ad ?_)
   have F := F.frontZ (i := 1) Aa Aa
   have F := F.frontM (i := 1) Aa Aa
   have F := F.frontM (i := 1) Aa Aa
   have H := L2 _ H
   exact ⟨_, _, _, (v7), (v9), H, W.re ⟨rfl, Aa, Aa, trivial⟩, F⟩
  rintro a w ⟨x4, x5, x6, v5, v6, hj, W, F⟩
  have H := K1 _ hj
  clear hj G1 K1 L1
  refine Ai (Ai (Ab ?_))
  refine ls W F Aa (Ah W Aa).q fun a w W F => ?_
  refine ls W F Aa (E4 (r := AY) (l := x4) Qb Aa W Aa (Bq 0 Aa)).q fun a w W F => ?_
  refine ls W F Aa (Bn W Aa Aa).q fun a w W F => ?_
  refine Ae (Ad ?_)
  refine Aw W Aa (fun hb => ?_) fun hb => ?_
  ·
   have H := AQ (BB hb) H
   rw [hb] at W
   clear hb
   refine Ai ?_
   obtain ⟨v15, h5, F⟩ := F.exR Gq
   refine Ab ?_
   refine ls W F Aa (Ah W Aa).q fun a w W F => ?_
   obtain ⟨x15, h6, H⟩ := An H
   obtain ⟨v16, h7, h8⟩ := H1 h5 h6
   have h9 : MR v16 = [.int .i64 x15.un.1, .int .i64 x15.un.2.1, .int .i64 x15.un.2.2.1, (v16.2.2.2.1)] := congrArg (fun q : Tr25 => ([.int .i64 q.un.1, .int .i64 q.un.2.1, .int .i64 q.un.2.2.1, (v16.2.2.2.1)] : List Value)) h8
   refine ls W F Aa (CE (r := N5) PN W Aa Aa (Bq 0 Aa) h7).q fun a w W F => ?_
   refine ls W F Aa (BV (y := Value.agg #[.int .i64 x15.un.1, .int .i64 x15.un.2.1, .int .i64 x15.un.2.2.1, (v16.2.2.2.1)]) (j := 0) (i := 0) (enc := MR) W Aa Aa (Bq 0 Aa) h7 QN FV (by rw [h9]; rfl)).q fun a w W F => ?_
   have F := F.note (F.rowAt (k := 0) Aa h7 (Bp.snd (Bp.snd (Bp.snd Bp.here))) (congrArg (fun q : Tr25 => q.un.2.2.2) h8))
   refine Au (vs := [.int .i64 x15.un.1, .int .i64 x15.un.2.1, .int .i64 x15.un.2.2.1, (v16.2.2.2.1)]) (M' := [(q_p0, [v6, .int .i64 x6]), (b1, [.int .i64 x15.un.1, .int .i64 x15.un.2.1, .int .i64 x15.un.2.2.1, (v16.2.2.2.1)])]) 1 W F Aa Aa Aa FV Aa Aa Aa (Ac Aa (Ac Aa (Ac Aa (Ac (F.oneF (k := 0) Aa) AM)))) Aa fun w F => ?_
   refine Ae (Ad (Aq (AD ?_)))
   have H := AH H
   subst H
   refine AP (.inl Aa) W F Aa (AB 1 W Aa Aa FV Aa) ?_
   have F := F.frontZ (i := 2) Aa Aa
   have F := F.sub (M' := [(q_p0, [v6, .int .i64 x6])]) (Z' := [row v6 98 Az x5, Av (v16.2.2.2.1) AY x15.un.2.2.2]) (List.Sublist.cons_cons _ (List.nil_sublist _)) (List.Sublist.cons_cons _ (List.Sublist.cons_cons _ (List.nil_sublist _)))
   exact ⟨(((v16.2.2.2.1)), (v6)), Aa, F⟩
  have H := AR (Bz hb) H
  rw [hb] at W
  clear hb
  refine Ax (Ad (Ai (Ab ?_)))
  iterate 2 refine ls W F Aa (Ah W Aa).q fun a w W F => ?_
  have F := F.freeze
  refine Ej (ws := [v5]) (Ml := []) (Zl := []) (M := [(q_p0, [v6, .int .i64 x6]), (b1, (B2))]) (Z := [Av v5 AY x4, row v6 98 Az x5]) (β := Value) (rv := fun x => .agg #[.int .i64 ((CA x4).un.1), .int .i64 ((CA x4).un.2.1), .int .i64 ((CA x4).un.2.2.1), x]) (MM := fun x => []) (ZZ := fun x => [Av x AY ((CA x4).un.2.2.2)]) W F TI Aa Aa (fun hL => N7 _ w (v5) x4 _ Aa (F.item (i := 0) Aa)) fun x a w W F => ?_
  obtain ⟨v17, rfl⟩ : ∃ y, y = x := ⟨x, rfl⟩
  have F : Stw ⟨Y, X, w0⟩ [(q_p0, [v6, .int .i64 x6]), (b1, (B2))] [Av v17 AY ((CA x4).un.2.2.2), Av v5 AY x4, row v6 98 Az x5] w := F
  refine Au (vs := (Rq x4 v17)) (M' := [(q_p0, [v6, .int .i64 x6]), (b1, (Rq x4 v17))]) 1 W F Aa Aa Aa FV Aa Aa Aa (Ac Aa (Ac Aa (Ac Aa (Ac (F.oneF (k := 0) Aa) AM)))) Aa fun w F => ?_
  refine Ae (Ad (Aq ?_))
  have H := AH H
  subst H
  refine AP (.inl Aa) W F Aa (AB 1 W Aa Aa FV Aa) ?_
  have F := F.frontZ (i := 2) Aa Aa
  have F := F.sub (M' := [(q_p0, [v6, .int .i64 x6])]) (Z' := [row v6 98 Az x5, Av v17 AY ((CA x4).un.2.2.2)]) (List.Sublist.cons_cons _ (List.nil_sublist _)) (List.Sublist.cons_cons _ (List.Sublist.cons_cons _ (List.nil_sublist _)))
  exact ⟨((v17), (v6)), Aa, F⟩
 have H := Ey H
 have F := F.frontM (i := 1) Aa Aa
 refine F6 (ws := [.pointer (some ⟨q_p0, 0, none⟩)]) (Ml := [(q_p0, [v1, .int .i64 p0.2])]) (Zl := [row v1 98 Az p0.1]) (M := (DM b1)) (Z := []) (β := Value) (pv := fun x => .iface 89 (.agg #[.int .i64 x3.1.1, .int .i64 x3.1.2])) (MM := fun x => [(q_p0, [x, .int .i64 x3.2.2])]) (ZZ := fun x => [row x 98 Az x3.2.1]) W F Sx Aa (fun hL => (DB fRec_parse_parser_condition ih_parse_parser_condition) _ _ w q_p0 (v1) p0 _ h1 hL) fun x w F => ?_
 obtain ⟨v18, rfl⟩ : ∃ y, y = x := ⟨x, rfl⟩
 have F : Stw ⟨Y, X, w0⟩ [(q_p0, [v18, .int .i64 x3.2.2]), (b1, (B2))] [row v18 98 Az x3.2.1] w := F
 refine BF ?_
 have H := AH H
 subst H
 refine A4 W ?_
 have F := F.sub (M' := [(q_p0, [v18, .int .i64 x3.2.2])]) (Z' := [row v18 98 Az x3.2.1]) (List.Sublist.cons_cons _ (List.nil_sublist _)) (List.Sublist.refl _)
 exact ⟨(v18), Aa, F⟩
noncomputable def Bg (fRec : ((List (Int × Int × List UInt8 × Int)) × Int) → Option ((Tr25 × ((List (Int × Int × List UInt8 × Int)) × Int)) ⊕ ((Int × Int) × ((List (Int × Int × List UInt8 × Int)) × Int)))) (p0 : (List (Int × Int × List UInt8 × Int)) × Int) : Option ((Tr25 × ((List (Int × Int × List UInt8 × Int)) × Int)) ⊕ ((Int × Int) × ((List (Int × Int × List UInt8 × Int)) × Int))) := ((BS fRec) p0 ([111, 114] : List UInt8)).bind fun x1 => BZ x1 (fun x2 => some (.inl (x2.1, x2.2))) (fun x3 => some (.inr (x3.1, x3.2)))
noncomputable def AW : Nat → ((List (Int × Int × List UInt8 × Int)) × Int) → Option ((Tr25 × ((List (Int × Int × List UInt8 × Int)) × Int)) ⊕ ((Int × Int) × ((List (Int × Int × List UInt8 × Int)) × Int)))
  | 0 => fun _ => none
  | n + 1 => Bg (AW n)
noncomputable def BR (p0 : (List (Int × Int × List UInt8 × Int)) × Int) : Option ((Tr25 × ((List (Int × Int × List UInt8 × Int)) × Int)) ⊕ ((Int × Int) × ((List (Int × Int × List UInt8 × Int)) × Int))) := Gx fun n => AW n p0
theorem GR (fRec : ((List (Int × Int × List UInt8 × Int)) × Int) → Option ((Tr25 × ((List (Int × Int × List UInt8 × Int)) × Int)) ⊕ ((Int × Int) × ((List (Int × Int × List UInt8 × Int)) × Int)))) (ih : ∀ (Y : Nat → Prop) (X : List Nat) (w0 : World) (q_p0 : Nat) (v1 : Value) (p0 : (List (Int × Int × List UInt8 × Int)) × Int) (r : (Tr25 × ((List (Int × Int × List UInt8 × Int)) × Int)) ⊕ ((Int × Int) × ((List (Int × Int × List UInt8 × Int)) × Int))) (H : fRec p0 = some r) (hL : Stw ⟨Y, X, w0⟩ [(q_p0, [v1, .int .i64 p0.2])] [row v1 98 Az p0.1] w0), Calls Tryd.prog 33 #[.pointer (some ⟨q_p0, 0, none⟩)] w0 fun e w' => DH r (fun r => ∃ x : Value × Value, e = .returned (.agg #[.int .i64 r.1.un.1, .int .i64 r.1.un.2.1, .int .i64 r.1.un.2.2.1, x.1]) ∧ Stw ⟨Y, X, w0⟩ [(q_p0, [x.2, .int .i64 r.2.2])] [row (x.2) 98 Az r.2.1, Av (x.1) AY r.1.un.2.2.2] w') (fun r => ∃ x : Value, e = .panicked [{ v := .iface 89 (.agg #[.int .i64 r.1.1, .int .i64 r.1.2]), recovered := false }] ∧ Stw ⟨Y, X, w0⟩ [(q_p0, [x, .int .i64 r.2.2])] [row (x) 98 Az r.2.1] w')) (Y : Nat → Prop) (X : List Nat) (w0 : World) (q_p0 : Nat) (v1 : Value) (p0 : (List (Int × Int × List UInt8 × Int)) × Int) (r : (Tr25 × ((List (Int × Int × List UInt8 × Int)) × Int)) ⊕ ((Int × Int) × ((List (Int × Int × List UInt8 × Int)) × Int))) (H : Bg fRec p0 = some r) (hL : Stw ⟨Y, X, w0⟩ [(q_p0, [v1, .int .i64 p0.2])] [row v1 98 Az p0.1] w0) :
    Calls Tryd.prog 33 #[.pointer (some ⟨q_p0, 0, none⟩)] w0 fun e w' => DH r (fun r => ∃ x : Value × Value, e = .returned (.agg #[.int .i64 r.1.un.1, .int .i64 r.1.un.2.1, .int .i64 r.1.un.2.2.1, x.1]) ∧ Stw ⟨Y, X, w0⟩ [(q_p0, [x.2, .int .i64 r.2.2])] [row (x.2) 98 Az r.2.1, Av (x.1) AY r.1.un.2.2.2] w') (fun r => ∃ x : Value, e = .panicked [{ v := .iface 89 (.agg #[.int .i64 r.1.1, .int .i64 r.1.2]), recovered := false }] ∧ Stw ⟨Y, X, w0⟩ [(q_p0, [x, .int .i64 r.2.2])] [row (x) 98 Az r.2.1] w') := by
 refine enter Tryd.func33 Aa Tryd.ntmps33 Aa fun a W => ?_
 have F := hL
 unfold Bg at H
 refine Ai (Ab ?_)
 refine AU (cs := (B2)) W F Aa NG Aa fun b1 a w W F => ?_
 refine Ae (Ad (Ai (Ab ?_)))
 iterate 2 refine ls W F Aa (Ah W Aa).q fun a w W F => ?_
 refine ls W F Aa (FM (us := [.pointer (some ⟨q_p0, 0, none⟩)]) (vs := []) W Aa Aa).q fun a w W F => ?_
 obtain ⟨x1, h1, H⟩ := An H
 rcases x1 with x2 | x3
 ·
  have H := Ez H
  have F := F.frontM (i := 1) Aa Aa
  refine AO (Ml := [(q_p0, [v1, .int .i64 p0.2])]) (Zl := [row v1 98 Az p0.1]) (M := (DM b1)) (Z := []) (β := Value × Value) (rv := fun x => .agg #[.int .i64 x2.1.un.1, .int .i64 x2.1.un.2.1, .int .i64 x2.1.un.2.2.1, x.1]) (MM := fun x => [(q_p0, [x.2, .int .i64 x2.2.2])]) (ZZ := fun x => [row x.2 98 Az x2.2.1, Av x.1 AY x2.1.un.2.2.2]) W F Sn Aa Aa (fun hL => (Fk fRec ih) _ _ w q_p0 (v1) p0 ([111, 114] : List UInt8) _ h1 hL) fun x a w W F => ?_
  obtain ⟨v2, v3⟩ := x
  have F : Stw ⟨Y, X, w0⟩ [(q_p0, [v3, .int .i64 x2.2.2]), (b1, (B2))] [row v3 98 Az x2.2.1, Av v2 AY x2.1.un.2.2.2] w := F
  refine Au (vs := (Fi x2 v2)) (M' := [(q_p0, [v3, .int .i64 x2.2.2]), (b1, (Fi x2 v2))]) 1 W F Aa Aa Aa FV Aa Aa Aa (Ac Aa (Ac Aa (Ac Aa (Ac (F.oneF (k := 1) Aa) AM)))) Aa fun w F => ?_
  refine Ae (Ad (Aq ?_))
  have H := AH H
  subst H
  refine AP (.inl Aa) W F Aa (AB 1 W Aa Aa FV Aa) ?_
  have F := F.frontZ (i := 1) Aa Aa
  have F := F.frontZ (i := 1) Aa Aa
  have F := F.sub (M' := [(q_p0, [v3, .int .i64 x2.2.2])]) (Z' := [row v3 98 Az x2.2.1, Av v2 AY x2.1.un.2.2.2]) (List.Sublist.cons_cons _ (List.nil_sublist _)) (List.Sublist.refl _)
  exact ⟨((v2), (v3)), Aa, F⟩
 have H := Ey H
 have F := F.frontM (i := 1) Aa Aa
 refine B0 (Ml := [(q_p0, [v1, .int .i64 p0.2])]) (Zl := [row v1 98 Az p0.1]) (M := (DM b1)) (Z := []) (β := Value) (pv := fun x => .iface 89 (.agg #[.int .i64 x3.1.1, .int .i64 x3.1.2])) (MM := fun x => [(q_p0, [x, .int .i64 x3.2.2])]) (ZZ := fun x => [row x 98 Az x3.2.1]) W F Sn Aa (fun hL => (Fk fRec ih) _ _ w q_p0 (v1) p0 ([111, 114] : List UInt8) _ h1 hL) fun x w F => ?_
 obtain ⟨v4, rfl⟩ : ∃ y, y = x := ⟨x, rfl⟩
 have F : Stw ⟨Y, X, w0⟩ [(q_p0, [v4, .int .i64 x3.2.2]), (b1, (B2))] [row v4 98 Az x3.2.1] w := F
 refine BF ?_
 have H := AH H
 subst H
 refine A4 W ?_
 have F := F.sub (M' := [(q_p0, [v4, .int .i64 x3.2.2])]) (Z' := [row v4 98 Az x3.2.1]) (List.Sublist.cons_cons _ (List.nil_sublist _)) (List.Sublist.refl _)
 exact ⟨(v4), Aa, F⟩
theorem GY : ∀ (n : Nat) (Y : Nat → Prop) (X : List Nat) (w0 : World) (q_p0 : Nat) (v1 : Value) (p0 : (List (Int × Int × List UInt8 × Int)) × Int) (r : (Tr25 × ((List (Int × Int × List UInt8 × Int)) × Int)) ⊕ ((Int × Int) × ((List (Int × Int × List UInt8 × Int)) × Int))) (H : AW n p0 = some r) (hL : Stw ⟨Y, X, w0⟩ [(q_p0, [v1, .int .i64 p0.2])] [row v1 98 Az p0.1] w0), Calls Tryd.prog 33 #[.pointer (some ⟨q_p0, 0, none⟩)] w0 fun e w' => DH r (fun r => ∃ x : Value × Value, e = .returned (.agg #[.int .i64 r.1.un.1, .int .i64 r.1.un.2.1, .int .i64 r.1.un.2.2.1, x.1]) ∧ Stw ⟨Y, X, w0⟩ [(q_p0, [x.2, .int .i64 r.2.2])] [row (x.2) 98 Az r.2.1, Av (x.1) AY r.1.un.2.2.2] w') (fun r => ∃ x : Value, e = .panicked [{ v := .iface 89 (.agg #[.int .i64 r.1.1, .int .i64 r.1.2]), recovered := false }] ∧ Stw ⟨Y, X, w0⟩ [(q_p0, [x, .int .i64 r.2.2])] [row (x) 98 Az r.2.1] w') := by
  intro n
  induction n with
  | zero => intro Y X w0 q_p0 v1 p0 r H; exact nomatch H
  | succ n ih => intro Y X w0 q_p0 v1 p0 r H hL; exact GR (AW n) ih Y X w0 q_p0 v1 p0 r H hL
theorem B9 (Y : Nat → Prop) (X : List Nat) (w0 : World) (q_p0 : Nat) (v1 : Value) (p0 : (List (Int × Int × List UInt8 × Int)) × Int) (r : (Tr25 × ((List (Int × Int × List UInt8 × Int)) × Int)) ⊕ ((Int × Int) × ((List (Int × Int × List UInt8 × Int)) × Int))) (H : BR p0 = some r) (hL : Stw ⟨Y, X, w0⟩ [(q_p0, [v1, .int .i64 p0.2])] [row v1 98 Az p0.1] w0) :
    Calls Tryd.prog 33 #[.pointer (some ⟨q_p0, 0, none⟩)] w0 fun e w' => DH r (fun r => ∃ x : Value × Value, e = .returned (.agg #[.int .i64 r.1.un.1, .int .i64 r.1.un.2.1, .int .i64 r.1.un.2.2.1, x.1]) ∧ Stw ⟨Y, X, w0⟩ [(q_p0, [x.2, .int .i64 r.2.2])] [row (x.2) 98 Az r.2.1, Av (x.1) AY r.1.un.2.2.2] w') (fun r => ∃ x : Value, e = .panicked [{ v := .iface 89 (.agg #[.int .i64 r.1.1, .int .i64 r.1.2]), recovered := false }] ∧ Stw ⟨Y, X, w0⟩ [(q_p0, [x, .int .i64 r.2.2])] [row (x) 98 Az r.2.1] w') := by
  obtain ⟨n, H⟩ := Ch H
  exact GY n Y X w0 q_p0 v1 p0 r H hL
theorem Pj : type_of% Tryd.underlying26 := Tryd.underlying26
theorem Rn : Has Tryd.prog 84 := ⟨fun args w => Al Tryd.func84 rfl (by decide) args w⟩
theorem Qn : Et Tryd.prog 26 28 8 96 := Et.of Pj (by kernel_rfl) (by kernel_rfl) (by kernel_rfl) (by decide)
abbrev Cc (a0 : Nat) : List (Nat × List Value) := [(a0, [.int .i64 0, .int .i64 0, .int .i64 0, .int .i64 0, .slice none 0 0, .int .i64 0, .int .i64 0, .slice none 0 0])]
abbrev OJ (a0 : Nat) (a1 : Tr25 × ((List (Int × Int × List UInt8 × Int)) × Int)) (a2 : Value) (a3 : Nat) : List (Nat × List Value) := [(a0, [.int .i64 a1.1.un.1, .int .i64 a1.1.un.2.1, .int .i64 a1.1.un.2.2.1, a2]), (a3, [.int .i64 0, .int .i64 0, .int .i64 0, .int .i64 0, .slice none 0 0, .int .i64 0, .int .i64 0, .slice none 0 0])]
abbrev Di (a0 : Tr28 × ((List (Int × Int × List UInt8 × Int)) × Int)) (a1 : Value) (a2 : Value) : List Value := [.int .i64 a0.1.un.1, .int .i64 a0.1.un.2.1.un.1, .int .i64 a0.1.un.2.1.un.2.1, .int .i64 a0.1.un.2.1.un.2.2.1, a1, .int .i64 a0.1.un.2.2.1, .int .i64 a0.1.un.2.2.2.1, a2]
abbrev O3 (a0 : Nat) (a1 : Tr28 × ((List (Int × Int × List UInt8 × Int)) × Int)) (a2 : Value) (a3 : Value) (a4 : Nat) (a5 : Tr25 × ((List (Int × Int × List UInt8 × Int)) × Int)) (a6 : Value) (a7 : Nat) : List (Nat × List Value) := [(a0, [.int .i64 a1.1.un.1, .int .i64 a1.1.un.2.1.un.1, .int .i64 a1.1.un.2.1.un.2.1, .int .i64 a1.1.un.2.1.un.2.2.1, a2, .int .i64 a1.1.un.2.2.1, .int .i64 a1.1.un.2.2.2.1, a3]), (a4, [.int .i64 a5.1.un.1, .int .i64 a5.1.un.2.1, .int .i64 a5.1.un.2.2.1, a6]), (a7, [.int .i64 0, .int .i64 0, .int .i64 0, .int .i64 0, .slice none 0 0, .int .i64 0, .int .i64 0, .slice none 0 0])]
noncomputable def BG (fRec_parse_parser_step : ((List (Int × Int × List UInt8 × Int)) × Int) → Option ((Tr28 × ((List (Int × Int × List UInt8 × Int)) × Int)) ⊕ ((Int × Int) × ((List (Int × Int × List UInt8 × Int)) × Int)))) (p0 : (List (Int × Int × List UInt8 × Int)) × Int) : Option ((Tr28 × ((List (Int × Int × List UInt8 × Int)) × Int)) ⊕ ((Int × Int) × ((List (Int × Int × List UInt8 × Int)) × Int))) := (BR p0).bind fun x1 => BZ x1 (fun x2 => (AA x2.2 ([116, 104, 101, 110] : List UInt8)).bind fun x4 => BZ x4 (fun x5 => (fRec_parse_parser_step x5).bind fun x7 => BZ x7 (fun x8 => (AA x8.2 ([101, 108, 115, 101] : List UInt8)).bind fun x10 => BZ x10 (fun x11 => (fRec_parse_parser_step x11).bind fun x13 => BZ x13 (fun x14 => some (.inl (Tr28.of (5, x2.1, 0, 0, ([Tr28.of (x8.1.un.1, Tr25.of (x8.1.un.2.1.un.1, x8.1.un.2.1.un.2.1, x8.1.un.2.1.un.2.2.1, x8.1.un.2.1.un.2.2.2), x8.1.un.2.2.1, x8.1.un.2.2.2.1, x8.1.un.2.2.2.2), Tr28.of (x14.1.un.1, Tr25.of (x14.1.un.2.1.un.1, x14.1.un.2.1.un.2.1, x14.1.un.2.1.un.2.2.1, x14.1.un.2.1.un.2.2.2), x14.1.un.2.2.1, x14.1.un.2.2.2.1, x14.1.un.2.2.2.2)] : List Tr28)), x14.2))) (fun x15 => some (.inr (x15.1, x15.2)))) (fun x12 => some (.inr (x12.1, x12.2)))) (fun x9 => some (.inr (x9.1, x9.2)))) (fun x6 => some (.inr (x6.1, x6.2)))) (fun x3 => some (.inr (x3.1, x3.2)))
theorem FF (fRec_parse_parser_step : ((List (Int × Int × List UInt8 × Int)) × Int) → Option ((Tr28 × ((List (Int × Int × List UInt8 × Int)) × Int)) ⊕ ((Int × Int) × ((List (Int × Int × List UInt8 × Int)) × Int)))) (ih_parse_parser_step : ∀ (Y : Nat → Prop) (X : List Nat) (w0 : World) (q_p0 : Nat) (v1 : Value) (p0 : (List (Int × Int × List UInt8 × Int)) × Int) (r : (Tr28 × ((List (Int × Int × List UInt8 × Int)) × Int)) ⊕ ((Int × Int) × ((List (Int × Int × List UInt8 × Int)) × Int))) (H : fRec_parse_parser_step p0 = some r) (hL : Stw ⟨Y, X, w0⟩ [(q_p0, [v1, .int .i64 p0.2])] [row v1 98 Az p0.1] w0), Calls Tryd.prog 84 #[.pointer (some ⟨q_p0, 0, none⟩)] w0 fun e w' => DH r (fun r => ∃ x : Value × Value × Value, e = .returned (.agg #[.int .i64 r.1.un.1, .int .i64 r.1.un.2.1.un.1, .int .i64 r.1.un.2.1.un.2.1, .int .i64 r.1.un.2.1.un.2.2.1, x.1, .int .i64 r.1.un.2.2.1, .int .i64 r.1.un.2.2.2.1, x.2.1]) ∧ Stw ⟨Y, X, w0⟩ [(q_p0, [x.2.2, .int .i64 r.2.2])] [row (x.2.2) 98 Az r.2.1, Av (x.1) AY r.1.un.2.1.un.2.2.2, Av (x.2.1) BJ r.1.un.2.2.2.2] w') (fun r => ∃ x : Value, e = .panicked [{ v := .iface 89 (.agg #[.int .i64 r.1.1, .int .i64 r.1.2]), recovered := false }] ∧ Stw ⟨Y, X, w0⟩ [(q_p0, [x, .int .i64 r.2.2])] [row (x) 98 Az r.2.1] w')) (Y : Nat → Prop) (X : List Nat) (w0 : World) (q_p0 : Nat) (v1 : Value) (p0 : (List (Int × Int × List UInt8 × Int)) × Int) (r : (Tr28 × ((List (Int × Int × List UInt8 × Int)) × Int)) ⊕ ((Int × Int) × ((List (Int × Int × List UInt8 × Int)) × Int))) (H : BG fRec_parse_parser_step p0 = some r) (hL : Stw ⟨Y, X, w0⟩ [(q_p0, [v1, .int .i64 p0.2])] [row v1 98 Az p0.1] w0) :
    Calls Tryd.prog 104 #[.pointer (some ⟨q_p0, 0, none⟩)] w0 fun e w' => DH r (fun r => ∃ x : Value × Value × Value, e = .returned (.agg #[.int .i64 r.1.un.1, .int .i64 r.1.un.2.1.un.1, .int .i64 r.1.un.2.1.un.2.1, .int .i64 r.1.un.2.1.un.2.2.1, x.1, .int .i64 r.1.un.2.2.1, .int .i64 r.1.un.2.2.2.1, x.2.1]) ∧ Stw ⟨Y, X, w0⟩ [(q_p0, [x.2.2, .int .i64 r.2.2])] [row (x.2.2) 98 Az r.2.1, Av (x.1) AY r.1.un.2.1.un.2.2.2, row (x.2.1) 28 BJ r.1.un.2.2.2.2] w') (fun r => ∃ x : Value, e = .panicked [{ v := .iface 89 (.agg #[.int .i64 r.1.1, .int .i64 r.1.2]), recovered := false }] ∧ Stw ⟨Y, X, w0⟩ [(q_p0, [x, .int .i64 r.2.2])] [row (x) 98 Az r.2.1] w') := by
 refine enter Tryd.func104 Aa Tryd.ntmps104 Aa fun a W => ?_
 have F := hL
 unfold BG at H
 refine Ai (Ab ?_)
 refine AU (cs := (Bl)) W F Aa L4 Aa fun b1 a w W F => ?_
 refine Ae (Ad (Ai (Ab ?_)))
 refine ls W F Aa (Ah W Aa).q fun a w W F => ?_
 obtain ⟨x1, h1, H⟩ := An H
 rcases x1 with x2 | x3
 ·
  have H := Ez H
  have F := F.frontM (i := 1) Aa Aa
  refine AO (Ml := [(q_p0, [v1, .int .i64 p0.2])]) (Zl := [row v1 98 Az p0.1]) (M := (Cc b1)) (Z := []) (β := Value × Value) (rv := fun x => .agg #[.int .i64 x2.1.un.1, .int .i64 x2.1.un.2.1, .int .i64 x2.1.un.2.2.1, x.1]) (MM := fun x => [(q_p0, [x.2, .int .i64 x2.2.2])]) (ZZ := fun x => [row x.2 98 Az x2.2.1, Av x.1 AY x2.1.un.2.2.2]) W F Rk Aa Aa (fun hL => B9 _ _ w q_p0 (v1) p0 _ h1 hL) fun x a w W F => ?_
  obtain ⟨v2, v3⟩ := x
  have F : Stw ⟨Y, X, w0⟩ [(q_p0, [v3, .int .i64 x2.2.2]), (b1, (Bl))] [row v3 98 Az x2.2.1, Av v2 AY x2.1.un.2.2.2] w := F
  refine AU (cs := (B2)) W F Aa NG Aa fun b2 a w W F => ?_
  refine Au (vs := (Fi x2 v2)) (M' := [(b2, [.int .i64 x2.1.un.1, .int .i64 x2.1.un.2.1, .int .i64 x2.1.un.2.2.1, v2]), (q_p0, [v3, .int .i64 x2.2.2]), (b1, [.int .i64 0, .int .i64 0, .int .i64 0, .int .i64 0, .slice none 0 0, .int .i64 0, .int .i64 0, .slice none 0 0])]) 0 W F Aa Aa Aa FV Aa Aa Aa (Ac Aa (Ac Aa (Ac Aa (Ac (F.oneF (k := 1) Aa) AM)))) Aa fun w F => ?_
  refine Ae (Ad (Ai (Ab ?_)))
  refine ls W F Aa (Ah W Aa).q fun a w W F => ?_
  obtain ⟨x4, h2, H⟩ := An H
  rcases x4 with x5 | x6
  ·
   have H := Ez H
   have F := F.frontM (i := 1) Aa Aa
   refine AO (Ml := [(q_p0, [v3, .int .i64 x2.2.2])]) (Zl := [row v3 98 Az x2.2.1]) (M := (OJ b2 x2 v2 b1)) (Z := [Av v2 AY x2.1.un.2.2.2]) (β := Value) (rv := fun x => .tuple #[]) (MM := fun x => [(q_p0, [x, .int .i64 x5.2])]) (ZZ := fun x => [row x 98 Az x5.1]) W F Ks Aa Aa (fun hL => Bj _ _ w q_p0 (v3) x2.2 ([116, 104, 101, 110] : List UInt8) _ h2 hL) fun x a w W F => ?_
   obtain ⟨v4, rfl⟩ : ∃ y, y = x := ⟨x, rfl⟩
   have F : Stw ⟨Y, X, w0⟩ [(q_p0, [v4, .int .i64 x5.2]), (b2, (Fi x2 v2)), (b1, (Bl))] [row v4 98 Az x5.1, Av v2 AY x2.1.un.2.2.2] w := F
   refine Ae (Ad (Ai (Ab ?_)))
   refine ls W F Aa (Ah W Aa).q fun a w W F => ?_
   obtain ⟨x7, h3, H⟩ := An H
   rcases x7 with x8 | x9
   ·
    have H := Ez H
    refine AO (Ml := [(q_p0, [v4, .int .i64 x5.2])]) (Zl := [row v4 98 Az x5.1]) (M := (OJ b2 x2 v2 b1)) (Z := [Av v2 AY x2.1.un.2.2.2]) (β := Value × Value × Value) (rv := fun x => .agg #[.int .i64 x8.1.un.1, .int .i64 x8.1.un.2.1.un.1, .int .i64 x8.1.un.2.1.un.2.1, .int .i64 x8.1.un.2.1.un.2.2.1, x.1, .int .i64 x8.1.un.2.2.1, .int .i64 x8.1.un.2.2.2.1, x.2.1]) (MM := fun x => [(q_p0, [x.2.2, .int .i64 x8.2.2])]) (ZZ := fun x => [row x.2.2 98 Az x8.2.1, Av x.1 AY x8.1.un.2.1.un.2.2.2, Av x.2.1 BJ x8.1.un.2.2.2.2]) W F Rn Aa Aa (fun hL => ih_parse_parser_step _ _ w q_p0 (v4) x5 _ h3 hL) fun x a w W F => ?_
    obtain ⟨v5, v6, v7⟩ := x
    have F : Stw ⟨Y, X, w0⟩ [(q_p0, [v7, .int .i64 x8.2.2]), (b2, (Fi x2 v2)), (b1, (Bl))] [row v7 98 Az x8.2.1, Av v5 AY x8.1.un.2.1.un.2.2.2, Av v6 BJ x8.1.un.2.2.2.2, Av v2 AY x2.1.un.2.2.2] w := F
    refine AU (cs := (Bl)) W F Aa L4 Aa fun b3 a w W F => ?_
    refine Au (vs := (Di x8 v5 v6)) (M' := [(b3, (Di x8 v5 v6)), (q_p0, [v7, .int .i64 x8.2.2]), (b2, (Fi x2 v2)), (b1, (Bl))]) 0 W F Aa Aa Aa FG Aa Aa Aa (Ac Aa (Ac Aa (Ac Aa (Ac Aa (Ac (F.oneF (k := 1) Aa) (Ac Aa (Ac Aa (Ac (F.oneF (k := 2) Aa) AM)))))))) Aa fun w F => ?_
    refine Ae (Ad (Ai (Ab ?_)))
    refine ls W F Aa (Ah W Aa).q fun a w W F => ?_
    obtain ⟨x10, h4, H⟩ := An H
    rcases x10 with x11 | x12
    ·
     have H := Ez H
     have F := F.frontM (i := 1) Aa Aa
     refine AO (Ml := [(q_p0, [v7, .int .i64 x8.2.2])]) (Zl := [row v7 98 Az x8.2.1]) (M := (O3 b3 x8 v5 v6 b2 x2 v2 b1)) (Z := [Av v5 AY x8.1.un.2.1.un.2.2.2, Av v6 BJ x8.1.un.2.2.2.2, Av v2 AY x2.1.un.2.2.2]) (β := Value) (rv := fun x => .tuple #[]) (MM := fun x => [(q_p0, [x, .int .i64 x11.2])]) (ZZ := fun x => [row x 98 Az x11.1]) W F Ks Aa Aa (fun hL => Bj _ _ w q_p0 (v7) x8.2 ([101, 108, 115, 101] : List UInt8) _ h4 hL) fun x a w W F => ?_
     obtain ⟨v8, rfl⟩ : ∃ y, y = x := ⟨x, rfl⟩
     have F : Stw ⟨Y, X, w0⟩ [(q_p0, [v8, .int .i64 x11.2]), (b3, (Di x8 v5 v6)), (b2, (Fi x2 v2)), (b1, (Bl))] [row v8 98 Az x11.1, Av v5 AY x8.1.un.2.1.un.2.2.2, Av v6 BJ x8.1.un.2.2.2.2, Av v2 AY x2.1.un.2.2.2] w := F
     refine Ae (Ad (Ai (Ab ?_)))
     refine ls W F Aa (Ah W Aa).q fun a w W F => ?_
     obtain ⟨x13, h5, H⟩ := An H
     rcases x13 with x14 | x15
     ·
      have H := Ez H
      refine AO (Ml := [(q_p0, [v8, .int .i64 x11.2])]) (Zl := [row v8 98 Az x11.1]) (M := (O3 b3 x8 v5 v6 b2 x2 v2 b1)) (Z := [Av v5 AY x8.1.un.2.1.un.2.2.2, Av v6 BJ x8.1.un.2.2.2.2, Av v2 AY x2.1.un.2.2.2]) (β := Value × Value × Value) (rv := fun x => .agg #[.int .i64 x14.1.un.1, .int .i64 x14.1.un.2.1.un.1, .int .i64 x14.1.un.2.1.un.2.1, .int .i64 x14.1.un.2.1.un.2.2.1, x.1, .int .i64 x14.1.un.2.2.1, .int .i64 x14.1.un.2.2.2.1, x.2.1]) (MM := fun x => [(q_p0, [x.2.2, .int .i64 x14.2.2])]) (ZZ := fun x => [row x.2.2 98 Az x14.2.1, Av x.1 AY x14.1.un.2.1.un.2.2.2, Av x.2.1 BJ x14.1.un.2.2.2.2]) W F Rn Aa Aa (fun hL => ih_parse_parser_step _ _ w q_p0 (v8) x11 _ h5 hL) fun x a w W F => ?_
      obtain ⟨v9, v10, v11⟩ := x
      have F : Stw ⟨Y, X, w0⟩ [(q_p0, [v11, .int .i64 x14.2.2]), (b3, (Di x8 v5 v6)), (b2, (Fi x2 v2)), (b1, (Bl))] [row v11 98 Az x14.2.1, Av v9 AY x14.1.un.2.1.un.2.2.2, Av v10 BJ x14.1.un.2.2.2.2, Av v5 AY x8.1.un.2.1.un.2.2.2, Av v6 BJ x8.1.un.2.2.2.2, Av v2 AY x2.1.un.2.2.2] w := F
      refine AU (cs := (Bl)) W F Aa L4 Aa fun b4 a w W F => ?_
      refine Au (vs := (Di x14 v9 v10)) (M' := [(b4, (Di x14 v9 v10)), (q_p0, [v11, .int .i64 x14.2.2]), (b3, (Di x8 v5 v6)), (b2, (Fi x2 v2)), (b1, (Bl))]) 0 W F Aa Aa Aa FG Aa Aa Aa (Ac Aa (Ac Aa (Ac Aa (Ac Aa (Ac (F.oneF (k := 1) Aa) (Ac Aa (Ac Aa (Ac (F.oneF (k := 2) Aa) AM)))))))) Aa fun w F => ?_
      refine Ae (Ad (Ai (Ab ?_)))
      refine ls W F Aa (AJ (v := Value.agg #[.int .i64 x2.1.un.1, .int .i64 x2.1.un.2.1, .int .i64 x2.1.un.2.2.1, v2]) 3 W Aa Aa FV Aa).q fun a w W F => ?_
      refine ls W F Aa (AJ (v := Value.agg #[.int .i64 x8.1.un.1, .int .i64 x8.1.un.2.1.un.1, .int .i64 x8.1.un.2.1.un.2.1, .int .i64 x8.1.un.2.1.un.2.2.1, v5, .int .i64 x8.1.un.2.2.1, .int .i64 x8.1.un.2.2.2.1, v6]) 2 W Aa Aa FG Aa).q fun a w W F => ?_
      refine ls W F Aa (AJ (v := Value.agg #[.int .i64 x14.1.un.1, .int .i64 x14.1.un.2.1.un.1, .int .i64 x14.1.un.2.1.un.2.1, .int .i64 x14.1.un.2.1.un.2.2.1, v9, .int .i64 x14.1.un.2.2.1, .int .i64 x14.1.un.2.2.2.1, v10]) 0 W Aa Aa FG Aa).q fun a w W F => ?_
      refine Dj (z := Value.agg #[.int .i64 0, .int .i64 0, .int .i64 0, .int .i64 0, .slice none 0 0, .int .i64 0, .int .i64 0, .slice none 0 0]) (cs := [.int .i64 x8.1.un.1, .int .i64 x8.1.un.2.1.un.1, .int .i64 x8.1.un.2.1.un.2.1, .int .i64 x8.1.un.2.1.un.2.2.1, v5, .int .i64 x8.1.un.2.2.1, .int .i64 x8.1.un.2.2.2.1, v6, .int .i64 x14.1.un.1, .int .i64 x14.1.un.2.1.un.1, .int .i64 x14.1.un.2.1.un.2.1, .int .i64 x14.1.un.2.1.un.2.2.1, v9, .int .i64 x14.1.un.2.2.1, .int .i64 x14.1.un.2.2.2.1, v10]) BJ ([Tr28.of (x8.1.un.1, Tr25.of (x8.1.un.2.1.un.1, x8.1.un.2.1.un.2.1, x8.1.un.2.1.un.2.2.1, x8.1.un.2.1.un.2.2.2), x8.1.un.2.2.1, x8.1.un.2.2.2.1, x8.1.un.2.2.2.2), Tr28.of (x14.1.un.1, Tr25.of (x14.1.un.2.1.un.1, x14.1.un.2.1.un.2.1, x14.1.un.2.1.un.2.2.1, x14.1.un.2.1.un.2.2.2), x14.1.un.2.2.1, x14.1.un.2.2.2.1, x14.1.un.2.2.2.2)] : List Tr28) W F Aa Qn L4 Aa Aa Aa (AK Aa Aa Aa (AK Aa Aa Aa Br)) Aa Aa ⟨[Value.int .i64 x8.1.un.1, Value.int .i64 x8.1.un.2.1.un.1, Value.int .i64 x8.1.un.2.1.un.2.1, Value.int .i64 x8.1.un.2.1.un.2.2.1, v5, Value.int .i64 x8.1.un.2.2.1, Value.int .i64 x8.1.un.2.2.2.1, v6], _, Aa, (O8.2 ⟨[Value.int .i64 x8.1.un.1], [Value.int .i64 x8.1.un.2.1.un.1, Value.int .i64 x8.1.un.2.1.un.2.1, Value.int .i64 x8.1.un.2.1.un.2.2.1, v5, Value.int .i64 x8.1.un.2.2.1, Value.int .i64 x8.1.un.2.2.2.1, v6], Aa, Aa, ⟨[Value.int .i64 x8.1.un.2.1.un.1, Value.int .i64 x8.1.un.2.1.un.2.1, Value.int .i64 x8.1.un.2.1.un.2.2.1, v5], [Value.int .i64 x8.1.un.2.2.1, Value.int .i64 x8.1.un.2.2.2.1, v6], Aa, (Lb.2 ⟨[Value.int .i64 x8.1.un.2.1.un.1], [Value.int .i64 x8.1.un.2.1.un.2.1, Value.int .i64 x8.1.un.2.1.un.2.2.1, v5], Aa, Aa, ⟨[Value.int .i64 x8.1.un.2.1.un.2.1], [Value.int .i64 x8.1.un.2.1.un.2.2.1, v5], Aa, Aa, ⟨[Value.int .i64 x8.1.un.2.1.un.2.2.1], [v5], Aa, Aa, ⟨_, Aa, (F.item (i := 3) Aa)⟩⟩⟩⟩), ⟨[Value.int .i64 x8.1.un.2.2.1], [Value.int .i64 x8.1.un.2.2.2.1, v6], Aa, Aa, ⟨[Value.int .i64 x8.1.un.2.2.2.1], [v6], Aa, Aa, ⟨_, Aa, (F.item (i := 4) Aa)⟩⟩⟩⟩⟩), ⟨[Value.int .i64 x14.1.un.1, Value.int .i64 x14.1.un.2.1.un.1, Value.int .i64 x14.1.un.2.1.un.2.1, Value.int .i64 x14.1.un.2.1.un.2.2.1, v9, Value.int .i64 x14.1.un.2.2.1, Value.int .i64 x14.1.un.2.2.2.1, v10], _, Aa, (O8.2 ⟨[Value.int .i64 x14.1.un.1], [Value.int .i64 x14.1.un.2.1.un.1, Value.int .i64 x14.1.un.2.1.un.2.1, Value.int .i64 x14.1.un.2.1.un.2.2.1, v9, Value.int .i64 x14.1.un.2.2.1, Value.int .i64 x14.1.un.2.2.2.1, v10], Aa, Aa, ⟨[Value.int .i64 x14.1.un.2.1.un.1, Value.int .i64 x14.1.un.2.1.un.2.1, Value.int .i64 x14.1.un.2.1.un.2.2.1, v9], [Value.int .i64 x14.1.un.2.2.1, Value.int .i64 x14.1.un.2.2.2.1, v10], Aa, (Lb.2 ⟨[Value.int .i64 x14.1.un.2.1.un.1], [Value.int .i64 x14.1.un.2.1.un.2.1, Value.int .i64 x14.1.un.2.1.un.2.2.1, v9], Aa, Aa, ⟨[Value.int .i64 x14.1.un.2.1.un.2.1], [Value.int .i64 x14.1.un.2.1.un.2.2.1, v9], Aa, Aa, ⟨[Value.int .i64 x14.1.un.2.1.un.2.2.1], [v9], Aa, Aa, ⟨_, Aa, (F.item (i := 1) Aa)⟩⟩⟩⟩), ⟨[Value.int .i64 x14.1.un.2.2.1], [Value.int .i64 x14.1.un.2.2.2.1, v10], Aa, Aa, ⟨[Value.int .i64 x14.1.un.2.2.2.1], [v10], Aa, Aa, ⟨_, Aa, (F.item (i := 2) Aa)⟩⟩⟩⟩⟩), Aa⟩⟩ fun v12 a w W F => ?_
      refine ls W F Aa (Ba (v := Value.agg #[.int .i64 5, .int .i64 x2.1.un.1, .int .i64 x2.1.un.2.1, .int .i64 x2.1.un.2.2.1, v2, .int .i64 0, .int .i64 0, v12]) RZ W Aa (AK Aa Aa Aa (AK Aa Aa Aa (AK Aa (C4 (F.one (k := 0) Aa)) Aa Br))) Aa).q fun a w W F => ?_
      refine Au (vs := [.int .i64 5, .int .i64 x2.1.un.1, .int .i64 x2.1.un.2.1, .int .i64 x2.1.un.2.2.1, v2, .int .i64 0, .int .i64 0, v12]) (M' := [(b4, (Di x14 v9 v10)), (q_p0, [v11, .int .i64 x14.2.2]), (b3, (Di x8 v5 v6)), (b2, (Fi x2 v2)), (b1, [.int .i64 5, .int .i64 x2.1.un.1, .int .i64 x2.1.un.2.1, .int .i64 x2.1.un.2.2.1, v2, .int .i64 0, .int .i64 0, v12])]) 4 W F Aa Aa Aa FG Aa Aa Aa (Ac Aa (Ac Aa (Ac Aa (Ac Aa (Ac (F.oneF (k := 6) Aa) (Ac Aa (Ac Aa (Ac (F.one (k := 0) Aa) AM)))))))) Aa fun w F => ?_
      refine Ae (Ad (Aq ?_))
      have H := AH H
      subst H
      refine AP (.inl Aa) W F Aa (AB 4 W Aa Aa FG Aa) ?_
      have F := F.frontZ (i := 6) Aa Aa
      have F := F.frontZ (i := 2) Aa Aa
      have F := F.frontM (i := 1) Aa Aa
      have F := F.sub (M' := [(q_p0, [v11, .int .i64 x14.2.2])]) (Z' := [row v11 98 Az x14.2.1, Av v2 AY x2.1.un.2.2.2, row v12 28 BJ ([Tr28.of (x8.1.un.1, Tr25.of (x8.1.un.2.1.un.1, x8.1.un.2.1.un.2.1, x8.1.un.2.1.un.2.2.1, x8.1.un.2.1.un.2.2.2), x8.1.un.2.2.1, x8.1.un.2.2.2.1, x8.1.un.2.2.2.2), Tr28.of (x14.1.un.1, Tr25.of (x14.1.un.2.1.un.1, x14.1.un.2.1.un.2.1, x14.1.un.2.1.un.2.2.1, x14.1.un.2.1.un.2.2.2), x14.1.un.2.2.1, x14.1.un.2.2.2.1, x14.1.un.2.2.2.2)] : List Tr28)]) (List.Sublist.cons_cons _ (List.nil_sublist _)) (List.Sublist.cons_cons _ (List.Sublist.cons_cons _ (List.Sublist.cons_cons _ (List.nil_sublist _))))
      exact ⟨((v2), (v12), (v11)), Aa, F⟩
     have H := Ey H
     refine B0 (Ml := [(q_p0, [v8, .int .i64 x11.2])]) (Zl := [row v8 98 Az x11.1]) (M := (O3 b3 x8 v5 v6 b2 x2 v2 b1)) (Z := [Av v5 AY x8.1.un.2.1.un.2.2.2, Av v6 BJ x8.1.un.2.2.2.2, Av v2 AY x2.1.un.2.2.2]) (β := Value) (pv := fun x => .iface 89 (.agg #[.int .i64 x15.1.1, .int .i64 x15.1.2])) (MM := fun x => [(q_p0, [x, .int .i64 x15.2.2])]) (ZZ := fun x => [row x 98 Az x15.2.1]) W F Rn Aa (fun hL => ih_parse_parser_step _ _ w q_p0 (v8) x11 _ h5 hL) fun x w F => ?_
     obtain ⟨v13, rfl⟩ : ∃ y, y = x := ⟨x, rfl⟩
     have F : Stw ⟨Y, X, w0⟩ [(q_p0, [v13, .int .i64 x15.2.2]), (b3, (Di x8 v5 v6)), (b2, (Fi x2 v2)), (b1, (Bl))] [row v13 98 Az x15.2.1, Av v5 AY x8.1.un.2.1.un.2.2.2, Av v6 BJ x8.1.un.2.2.2.2, Av v2 AY x2.1.un.2.2.2] w := F
     refine BF ?_
     have H := AH H
     subst H
     refine A4 W ?_
     have F := F.sub (M' := [(q_p0, [v13, .int .i64 x15.2.2])]) (Z' := [row v13 98 Az x15.2.1]) (List.Sublist.cons_cons _ (List.nil_sublist _)) (List.Sublist.cons_cons _ (List.nil_sublist _))
     exact ⟨(v13), Aa, F⟩
    have H := Ey H
    have F := F.frontM (i := 1) Aa Aa
    refine B0 (Ml := [(q_p0, [v7, .int .i64 x8.2.2])]) (Zl := [row v7 98 Az x8.2.1]) (M := (O3 b3 x8 v5 v6 b2 x2 v2 b1)) (Z := [Av v5 AY x8.1.un.2.1.un.2.2.2, Av v6 BJ x8.1.un.2.2.2.2, Av v2 AY x2.1.un.2.2.2]) (β := Value) (pv := fun x => .iface 89 (.agg #[.int .i64 x12.1.1, .int .i64 x12.1.2])) (MM := fun x => [(q_p0, [x, .int .i64 x12.2.2])]) (ZZ := fun x => [row x 98 Az x12.2.1]) W F Ks Aa (fun hL => Bj _ _ w q_p0 (v7) x8.2 ([101, 108, 115, 101] : List UInt8) _ h4 hL) fun x w F => ?_
    obtain ⟨v14, rfl⟩ : ∃ y, y = x := ⟨x, rfl⟩
    have F : Stw ⟨Y, X, w0⟩ [(q_p0, [v14, .int .i64 x12.2.2]), (b3, (Di x8 v5 v6)), (b2, (Fi x2 v2)), (b1, (Bl))] [row v14 98 Az x12.2.1, Av v5 AY x8.1.un.2.1.un.2.2.2, Av v6 BJ x8.1.un.2.2.2.2, Av v2 AY x2.1.un.2.2.2] w := F
    refine BF ?_
    have H := AH H
    subst H
    refine A4 W ?_
    have F := F.sub (M' := [(q_p0, [v14, .int .i64 x12.2.2])]) (Z' := [row v14 98 Az x12.2.1]) (List.Sublist.cons_cons _ (List.nil_sublist _)) (List.Sublist.cons_cons _ (List.nil_sublist _))
    exact ⟨(v14), Aa, F⟩
   have H := Ey H
   refine B0 (Ml := [(q_p0, [v4, .int .i64 x5.2])]) (Zl := [row v4 98 Az x5.1]) (M := (OJ b2 x2 v2 b1)) (Z := [Av v2 AY x2.1.un.2.2.2]) (β := Value) (pv := fun x => .iface 89 (.agg #[.int .i64 x9.1.1, .int .i64 x9.1.2])) (MM := fun x => [(q_p0, [x, .int .i64 x9.2.2])]) (ZZ := fun x => [row x 98 Az x9.2.1]) W F Rn Aa (fun hL => ih_parse_parser_step _ _ w q_p0 (v4) x5 _ h3 hL) fun x w F => ?_
   obtain ⟨v15, rfl⟩ : ∃ y, y = x := ⟨x, rfl⟩
   have F : Stw ⟨Y, X, w0⟩ [(q_p0, [v15, .int .i64 x9.2.2]), (b2, (Fi x2 v2)), (b1, (Bl))] [row v15 98 Az x9.2.1, Av v2 AY x2.1.un.2.2.2] w := F
   refine BF ?_
   have H := AH H
   subst H
   refine A4 W ?_
   have F := F.sub (M' := [(q_p0, [v15, .int .i64 x9.2.2])]) (Z' := [row v15 98 Az x9.2.1]) (List.Sublist.cons_cons _ (List.nil_sublist _)) (List.Sublist.cons_cons _ (List.nil_sublist _))
   exact ⟨(v15), Aa, F⟩
  have H := Ey H
  have F := F.frontM (i := 1) Aa Aa
  refine B0 (Ml := [(q_p0, [v3, .int .i64 x2.2.2])]) (Zl := [row v3 98 Az x2.2.1]) (M := (OJ b2 x2 v2 b1)) (Z := [Av v2 AY x2.1.un.2.2.2]) (β := Value) (pv := fun x => .iface 89 (.agg #[.int .i64 x6.1.1, .int .i64 x6.1.2])) (MM := fun x => [(q_p0, [x, .int .i64 x6.2.2])]) (ZZ := fun x => [row x 98 Az x6.2.1]) W F Ks Aa (fun hL => Bj _ _ w q_p0 (v3) x2.2 ([116, 104, 101, 110] : List UInt8) _ h2 hL) fun x w F => ?_
  obtain ⟨v16, rfl⟩ : ∃ y, y = x := ⟨x, rfl⟩
  have F : Stw ⟨Y, X, w0⟩ [(q_p0, [v16, .int .i64 x6.2.2]), (b2, (Fi x2 v2)), (b1, (Bl))] [row v16 98 Az x6.2.1, Av v2 AY x2.1.un.2.2.2] w := F
  refine BF ?_
  have H := AH H
  subst H
  refine A4 W ?_
  have F := F.sub (M' := [(q_p0, [v16, .int .i64 x6.2.2])]) (Z' := [row v16 98 Az x6.2.1]) (List.Sublist.cons_cons _ (List.nil_sublist _)) (List.Sublist.cons_cons _ (List.nil_sublist _))
  exact ⟨(v16), Aa, F⟩
 have H := Ey H
 have F := F.frontM (i := 1) Aa Aa
 refine B0 (Ml := [(q_p0, [v1, .int .i64 p0.2])]) (Zl := [row v1 98 Az p0.1]) (M := (Cc b1)) (Z := []) (β := Value) (pv := fun x => .iface 89 (.agg #[.int .i64 x3.1.1, .int .i64 x3.1.2])) (MM := fun x => [(q_p0, [x, .int .i64 x3.2.2])]) (ZZ := fun x => [row x 98 Az x3.2.1]) W F Rk Aa (fun hL => B9 _ _ w q_p0 (v1) p0 _ h1 hL) fun x w F => ?_
 obtain ⟨v17, rfl⟩ : ∃ y, y = x := ⟨x, rfl⟩
 have F : Stw ⟨Y, X, w0⟩ [(q_p0, [v17, .int .i64 x3.2.2]), (b1, (Bl))] [row v17 98 Az x3.2.1] w := F
 refine BF ?_
 have H := AH H
 subst H
 refine A4 W ?_
 have F := F.sub (M' := [(q_p0, [v17, .int .i64 x3.2.2])]) (Z' := [row v17 98 Az x3.2.1]) (List.Sublist.cons_cons _ (List.nil_sublist _)) (List.Sublist.refl _)
 exact ⟨(v17), Aa, F⟩
end Go.Proofs.YtlgjpoapclifbaaDoor
