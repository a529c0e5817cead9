/- The functions of layer 29, EF. Conditions: none. -/
import Derived.Test.YtlgjpoapclifbaaDoordA0
namespace Go.Proofs.YtlgjpoapclifbaaDoor
open Go Go.RowKit
set_option linter.unusedVariables false
set_option linter.unusedSimpArgs false
set_option maxRecDepth 20000
theorem RP : Has Tryd.prog 107 := ⟨fun args w => Am Tryd.func107 rfl (by decide) args w⟩
abbrev CH  : List Value := [.int .i64 0, .int .i64 0, .int .i64 0, .slice none 0 0]
abbrev FM (a0 : Nat) : List (Nat × List Value) := [(a0, [.int .i64 0, .int .i64 0, .int .i64 0, .slice none 0 0])]
abbrev Ti  : List Value := [.int .i64 1, .int .i64 0, .int .i64 0, .slice none 0 0]
abbrev TD  : List Value := [.int .i64 2, .int .i64 0, .int .i64 0, .slice none 0 0]
abbrev F1 (a0 : Tr25 × ((List (Int × Int × List UInt8 × Int)) × Int)) (a1 : Value) : List Value := [.int .i64 a0.1.un.1, .int .i64 a0.1.un.2.1, .int .i64 a0.1.un.2.2.1, a1]
abbrev Su (a0 : Value) : List Value := [.int .i64 4, .int .i64 0, .int .i64 0, a0]
noncomputable def A9 (fRec_parse_parser_condition : ((List (Int × Int × List UInt8 × Int)) × Int) → Option ((Tr25 × ((List (Int × Int × List UInt8 × Int)) × Int)) ⊕ ((Int × Int) × ((List (Int × Int × List UInt8 × Int)) × Int)))) (fRec : ((List (Int × Int × List UInt8 × Int)) × Int) → Option ((Tr25 × ((List (Int × Int × List UInt8 × Int)) × Int)) ⊕ ((Int × Int) × ((List (Int × Int × List UInt8 × Int)) × Int)))) (p0 : (List (Int × Int × List UInt8 × Int)) × Int) : Option ((Tr25 × ((List (Int × Int × List UInt8 × Int)) × Int)) ⊕ ((Int × Int) × ((List (Int × Int × List UInt8 × Int)) × Int))) := (As p0 ([116, 114, 117, 101] : List UInt8)).bind fun x1 => (if x1.1 = true then some (.inl (Tr25.of (1, 0, 0, ([] : List Tr25)), x1.2)) else (As x1.2 ([102, 97, 108, 115, 101] : List UInt8)).bind fun x2 => (if x2.1 = true then some (.inl (Tr25.of (2, 0, 0, ([] : List Tr25)), x2.2)) else (As x2.2 ([110, 111, 116] : List UInt8)).bind fun x3 => (if x3.1 = true then (fRec x3.2).bind fun x4 => B1 x4 (fun x5 => some (.inl (Tr25.of (4, 0, 0, ([x5.1] : List Tr25)), x5.2))) (fun x6 => some (.inr (x6.1, x6.2))) else (As x3.2 ([40] : List UInt8)).bind fun x7 => (if x7.1 = true then (fRec_parse_parser_condition x7.2).bind fun x8 => B1 x8 (fun x9 => (Ao x9.2 ([41] : List UInt8)).bind fun x11 => B1 x11 (fun x12 => some (.inl (x9.1, x12))) (fun x13 => some (.inr (x13.1, x13.2)))) (fun x10 => some (.inr (x10.1, x10.2))) else (BE x7.2 5).bind fun x14 => B1 x14 (fun x15 => (Ao x15.2 ([61] : List UInt8)).bind fun x17 => B1 x17 (fun x18 => (AQ x18).bind fun x20 => B1 x20 (fun x21 => some (.inl (Tr25.of (3, x15.1, x21.1, ([] : List Tr25)), x21.2))) (fun x22 => some (.inr (x22.1, x22.2)))) (fun x19 => some (.inr (x19.1, x19.2)))) (fun x16 => some (.inr (x16.1, x16.2)))))))
noncomputable def AN (fRec_parse_parser_condition : ((List (Int × Int × List UInt8 × Int)) × Int) → Option ((Tr25 × ((List (Int × Int × List UInt8 × Int)) × Int)) ⊕ ((Int × Int) × ((List (Int × Int × List UInt8 × Int)) × Int)))) : Nat → ((List (Int × Int × List UInt8 × Int)) × Int) → Option ((Tr25 × ((List (Int × Int × List UInt8 × Int)) × Int)) ⊕ ((Int × Int) × ((List (Int × Int × List UInt8 × Int)) × Int)))
  | 0 => fun _ => none
  | n + 1 => A9 fRec_parse_parser_condition (AN fRec_parse_parser_condition n)
noncomputable def BN (fRec_parse_parser_condition : ((List (Int × Int × List UInt8 × Int)) × Int) → Option ((Tr25 × ((List (Int × Int × List UInt8 × Int)) × Int)) ⊕ ((Int × Int) × ((List (Int × Int × List UInt8 × Int)) × Int)))) (p0 : (List (Int × Int × List UInt8 × Int)) × Int) : Option ((Tr25 × ((List (Int × Int × List UInt8 × Int)) × Int)) ⊕ ((Int × Int) × ((List (Int × Int × List UInt8 × Int)) × Int))) := Ge fun n => AN fRec_parse_parser_condition n p0
theorem HY (fRec_parse_parser_condition : ((List (Int × Int × List UInt8 × Int)) × Int) → Option ((Tr25 × ((List (Int × Int × List UInt8 × Int)) × Int)) ⊕ ((Int × Int) × ((List (Int × Int × List UInt8 × Int)) × Int)))) (ih_parse_parser_condition : ∀ (Y : Nat → Prop) (X : List Nat) (w0 : World) (q_p0 : Nat) (v1 : Value) (p0 : (List (Int × Int × List UInt8 × Int)) × Int) (r : (Tr25 × ((List (Int × Int × List UInt8 × Int)) × Int)) ⊕ ((Int × Int) × ((List (Int × Int × List UInt8 × Int)) × Int))) (H : fRec_parse_parser_condition p0 = some r) (hL : Stw ⟨Y, X, w0⟩ [(q_p0, [v1, .int .i64 p0.2])] [row v1 98 AA p0.1] w0), Calls Tryd.prog 33 #[.pointer (some ⟨q_p0, 0, none⟩)] w0 fun e w' => D8 r (fun r => ∃ x : Value × Value, e = .returned (.agg #[.int .i64 r.1.un.1, .int .i64 r.1.un.2.1, .int .i64 r.1.un.2.2.1, x.1]) ∧ Stw ⟨Y, X, w0⟩ [(q_p0, [x.2, .int .i64 r.2.2])] [row (x.2) 98 AA r.2.1, A4 (x.1) A6 r.1.un.2.2.2] w') (fun r => ∃ x : Value, e = .panicked [{ v := .iface 89 (.agg #[.int .i64 r.1.1, .int .i64 r.1.2]), recovered := false }] ∧ Stw ⟨Y, X, w0⟩ [(q_p0, [x, .int .i64 r.2.2])] [row (x) 98 AA r.2.1] w')) (fRec : ((List (Int × Int × List UInt8 × Int)) × Int) → Option ((Tr25 × ((List (Int × Int × List UInt8 × Int)) × Int)) ⊕ ((Int × Int) × ((List (Int × Int × List UInt8 × Int)) × Int)))) (ih : ∀ (Y : Nat → Prop) (X : List Nat) (w0 : World) (q_p0 : Nat) (v1 : Value) (p0 : (List (Int × Int × List UInt8 × Int)) × Int) (r : (Tr25 × ((List (Int × Int × List UInt8 × Int)) × Int)) ⊕ ((Int × Int) × ((List (Int × Int × List UInt8 × Int)) × Int))) (H : fRec p0 = some r) (hL : Stw ⟨Y, X, w0⟩ [(q_p0, [v1, .int .i64 p0.2])] [row v1 98 AA p0.1] w0), Calls Tryd.prog 88 #[.pointer (some ⟨q_p0, 0, none⟩)] w0 fun e w' => D8 r (fun r => ∃ x : Value × Value, e = .returned (.agg #[.int .i64 r.1.un.1, .int .i64 r.1.un.2.1, .int .i64 r.1.un.2.2.1, x.1]) ∧ Stw ⟨Y, X, w0⟩ [(q_p0, [x.2, .int .i64 r.2.2])] [row (x.2) 98 AA r.2.1, A4 (x.1) A6 r.1.un.2.2.2] w') (fun r => ∃ x : Value, e = .panicked [{ v := .iface 89 (.agg #[.int .i64 r.1.1, .int .i64 r.1.2]), recovered := false }] ∧ Stw ⟨Y, X, w0⟩ [(q_p0, [x, .int .i64 r.2.2])] [row (x) 98 AA r.2.1] w')) (Y : Nat → Prop) (X : List Nat) (w0 : World) (q_p0 : Nat) (v1 : Value) (p0 : (List (Int × Int × List UInt8 × Int)) × Int) (r : (Tr25 × ((List (Int × Int × List UInt8 × Int)) × Int)) ⊕ ((Int × Int) × ((List (Int × Int × List UInt8 × Int)) × Int))) (H : A9 fRec_parse_parser_condition fRec p0 = some r) (hL : Stw ⟨Y, X, w0⟩ [(q_p0, [v1, .int .i64 p0.2])] [row v1 98 AA p0.1] w0) :
    Calls Tryd.prog 88 #[.pointer (some ⟨q_p0, 0, none⟩)] w0 fun e w' => D8 r (fun r => ∃ x : Value × Value, e = .returned (.agg #[.int .i64 r.1.un.1, .int .i64 r.1.un.2.1, .int .i64 r.1.un.2.2.1, x.1]) ∧ Stw ⟨Y, X, w0⟩ [(q_p0, [x.2, .int .i64 r.2.2])] [row (x.2) 98 AA r.2.1, A4 (x.1) A6 r.1.un.2.2.2] w') (fun r => ∃ x : Value, e = .panicked [{ v := .iface 89 (.agg #[.int .i64 r.1.1, .int .i64 r.1.2]), recovered := false }] ∧ Stw ⟨Y, X, w0⟩ [(q_p0, [x, .int .i64 r.2.2])] [row (x) 98 AA r.2.1] w') := by
 refine enter Tryd.func88 Aa Tryd.ntmps88 Aa fun a W => ?_
 have F := hL
 unfold A9 at H
 refine Ah (Ab ?_)
 refine BA (cs := (CH)) W F Aa Ny Aa fun b1 a w W F => ?_
 refine Ae (Ac (Ah (Bb (Ah (Ab ?_)))))
 refine ls W F Aa (Ai W Aa).q fun a w W F => ?_
 obtain ⟨x1, h1, H⟩ := Aq H
 have F := F.frontM (i := 1) Aa Aa
 refine Bp (Ml := [(q_p0, [v1, .int .i64 p0.2])]) (Zl := [row v1 98 AA p0.1]) (M := (FM b1)) (Z := []) (β := Value) (rv := fun x => .bool x1.1) (MM := fun x => [(q_p0, [x, .int .i64 x1.2.2])]) (ZZ := fun x => [row x 98 AA x1.2.1]) W F PH Aa Aa (fun hL => Bl _ _ w q_p0 (v1) p0 ([116, 114, 117, 101] : List UInt8) _ h1 hL) fun x a w W F => ?_
 obtain ⟨v2, rfl⟩ : ∃ y, y = x := ⟨x, rfl⟩
 have F : Stw ⟨Y, X, w0⟩ [(q_p0, [v2, .int .i64 x1.2.2]), (b1, (CH))] [row v2 98 AA x1.2.1] w := F
 refine ls W F Aa (Ag W Aa).q fun a w W F => ?_
 refine Ae (Ac ?_)
 refine AC W Aa (fun hb => ?_) fun hb => ?_
 ·
  have H := Ba hb H
  rw [hb] at W
  clear hb
  refine Ah (Ab ?_)
  refine ls W F Aa (Cx (v := Value.agg #[.int .i64 1, .int .i64 0, .int .i64 0, .slice none 0 0]) Ry W Aa Aa Aa).q fun a w W F => ?_
  refine AP (vs := (Ti)) (M' := [(q_p0, [v2, .int .i64 x1.2.2]), (b1, (Ti))]) 1 W F Aa Aa Aa ER Aa Aa Aa Aa Aa fun w F => ?_
  refine Ae (Ac (Au (Be (AV ?_))))
  have H := AR H
  subst H
  refine AO (.inl Aa) W F Aa (BD 1 W Aa Aa ER Aa) ?_
  have F := F.note (Sl.nil (r := A6))
  have F := F.frontZ (i := 1) Aa Aa
  have F := F.sub (M' := [(q_p0, [v2, .int .i64 x1.2.2])]) (Z' := [row v2 98 AA x1.2.1, A4 (Value.slice none 0 0) A6 ([])]) (List.Sublist.cons_cons _ (List.nil_sublist _)) (List.Sublist.refl _)
  exact ⟨((Value.slice none 0 0), (v2)), Aa, F⟩
 have H := Bc (by rw [hb]; decide) H
 rw [hb] at W
 clear hb
 refine Ah (Ab ?_)
 refine ls W F Aa (Ai W Aa).q fun a w W F => ?_
 obtain ⟨x2, h2, H⟩ := Aq H
 refine Bp (Ml := [(q_p0, [v2, .int .i64 x1.2.2])]) (Zl := [row v2 98 AA x1.2.1]) (M := (FM b1)) (Z := []) (β := Value) (rv := fun x => .bool x2.1) (MM := fun x => [(q_p0, [x, .int .i64 x2.2.2])]) (ZZ := fun x => [row x 98 AA x2.2.1]) W F PH Aa Aa (fun hL => Bl _ _ w q_p0 (v2) x1.2 ([102, 97, 108, 115, 101] : List UInt8) _ h2 hL) fun x a w W F => ?_
 obtain ⟨v3, rfl⟩ : ∃ y, y = x := ⟨x, rfl⟩
 have F : Stw ⟨Y, X, w0⟩ [(q_p0, [v3, .int .i64 x2.2.2]), (b1, (CH))] [row v3 98 AA x2.2.1] w := F
 refine ls W F Aa (Ag W Aa).q fun a w W F => ?_
 refine Ae (Ac ?_)
 refine AC W Aa (fun hb => ?_) fun hb => ?_
 ·
  have H := Ba hb H
  rw [hb] at W
  clear hb
  refine Ah (Ab ?_)
  refine ls W F Aa (Cx (v := Value.agg #[.int .i64 2, .int .i64 0, .int .i64 0, .slice none 0 0]) Ry W Aa Aa Aa).q fun a w W F => ?_
  refine AP (vs := (TD)) (M' := [(q_p0, [v3, .int .i64 x2.2.2]), (b1, (TD))]) 1 W F Aa Aa Aa ER Aa Aa Aa Aa Aa fun w F => ?_
  refine Ae (Ac (Au (Be (AV ?_))))
  have H := AR H
  subst H
  refine AO (.inl Aa) W F Aa (BD 1 W Aa Aa ER Aa) ?_
  have F := F.note (Sl.nil (r := A6))
  have F := F.frontZ (i := 1) Aa Aa
  have F := F.sub (M' := [(q_p0, [v3, .int .i64 x2.2.2])]) (Z' := [row v3 98 AA x2.2.1, A4 (Value.slice none 0 0) A6 ([])]) (List.Sublist.cons_cons _ (List.nil_sublist _)) (List.Sublist.refl _)
  exact ⟨((Value.slice none 0 0), (v3)), Aa, F⟩
 have H := Bc (by rw [hb]; decide) H
 rw [hb] at W
 clear hb
 refine Ah (Ab ?_)
 refine ls W F Aa (Ai W Aa).q fun a w W F => ?_
 obtain ⟨x3, h3, H⟩ := Aq H
 refine Bp (Ml := [(q_p0, [v3, .int .i64 x2.2.2])]) (Zl := [row v3 98 AA x2.2.1]) (M := (FM b1)) (Z := []) (β := Value) (rv := fun x => .bool x3.1) (MM := fun x => [(q_p0, [x, .int .i64 x3.2.2])]) (ZZ := fun x => [row x 98 AA x3.2.1]) W F PH Aa Aa (fun hL => Bl _ _ w q_p0 (v3) x2.2 ([110, 111, 116] : List UInt8) _ h3 hL) fun x a w W F => ?_
 obtain ⟨v4, rfl⟩ : ∃ y, y = x := ⟨x, rfl⟩
 have F : Stw ⟨Y, X, w0⟩ [(q_p0, [v4, .int .i64 x3.2.2]), (b1, (CH))] [row v4 98 AA x3.2.1] w := F
 refine ls W F Aa (Ag W Aa).q fun a w W F => ?_
 refine Ae (Ac ?_)
 refine AC W Aa (fun hb => ?_) fun hb => ?_
 ·
  have H := Ba hb H
  rw [hb] at W
  clear hb
  refine Ah (Ab ?_)
  refine ls W F Aa (Ai W Aa).q fun a w W F => ?_
  obtain ⟨x4, h4, H⟩ := Aq H
  rcases x4 with x5 | x6
  ·
   have H := EZ H
   refine Bp (Ml := [(q_p0, [v4, .int .i64 x3.2.2])]) (Zl := [row v4 98 AA x3.2.1]) (M := (FM b1)) (Z := []) (β := Value × Value) (rv := fun x => .agg #[.int .i64 x5.1.un.1, .int .i64 x5.1.un.2.1, .int .i64 x5.1.un.2.2.1, x.1]) (MM := fun x => [(q_p0, [x.2, .int .i64 x5.2.2])]) (ZZ := fun x => [row x.2 98 AA x5.2.1, A4 x.1 A6 x5.1.un.2.2.2]) W F S4 Aa Aa (fun hL => ih _ _ w q_p0 (v4) x3.2 _ h4 hL) fun x a w W F => ?_
   obtain ⟨v5, v6⟩ := x
   have F : Stw ⟨Y, X, w0⟩ [(q_p0, [v6, .int .i64 x5.2.2]), (b1, (CH))] [row v6 98 AA x5.2.1, A4 v5 A6 x5.1.un.2.2.2] w := F
   refine Hi (z := Value.agg #[.int .i64 0, .int .i64 0, .int .i64 0, .slice none 0 0]) (cs := (F1 x5 v5)) A6 ([x5.1] : List Tr25) W F Aa Pi Ny Aa Aa Aa (BQ Aa Aa Aa CX) Aa Aa ⟨[Value.int .i64 x5.1.un.1, Value.int .i64 x5.1.un.2.1, Value.int .i64 x5.1.un.2.2.1, v5], _, Aa, (Mh.2 ⟨[Value.int .i64 x5.1.un.1], [Value.int .i64 x5.1.un.2.1, Value.int .i64 x5.1.un.2.2.1, v5], Aa, Aa, ⟨[Value.int .i64 x5.1.un.2.1], [Value.int .i64 x5.1.un.2.2.1, v5], Aa, Aa, ⟨[Value.int .i64 x5.1.un.2.2.1], [v5], Aa, Aa, ⟨_, Aa, (F.item (i := 1) Aa)⟩⟩⟩⟩), Aa⟩ fun v7 a w W F => ?_
   refine ls W F Aa (Cx (v := Value.agg #[.int .i64 4, .int .i64 0, .int .i64 0, v7]) Ry W Aa (BQ Aa Aa Aa (BQ Aa (FU (F.one (k := 0) Aa)) Aa CX)) Aa).q fun a w W F => ?_
   refine AP (vs := (Su v7)) (M' := [(q_p0, [v6, .int .i64 x5.2.2]), (b1, (Su v7))]) 1 W F Aa Aa Aa ER Aa Aa Aa (Af Aa (Af Aa (Af Aa (Af (F.one (k := 0) Aa) BC)))) Aa fun w F => ?_
   refine Ae (Ac (Au (Be (AV ?_))))
   have H := AR H
   subst H
   refine AO (.inl Aa) W F Aa (BD 1 W Aa Aa ER Aa) ?_
   have F := F.freeze
   have F := F.frontZ (i := 1) Aa Aa
   have F := F.sub (M' := [(q_p0, [v6, .int .i64 x5.2.2])]) (Z' := [row v6 98 AA x5.2.1, A4 v7 A6 ([x5.1] : List Tr25)]) (List.Sublist.cons_cons _ (List.nil_sublist _)) (List.Sublist.cons_cons _ (List.Sublist.cons_cons _ (List.nil_sublist _)))
   exact ⟨((v7), (v6)), Aa, F⟩
  have H := EW H
  refine Cj (Ml := [(q_p0, [v4, .int .i64 x3.2.2])]) (Zl := [row v4 98 AA x3.2.1]) (M := (FM b1)) (Z := []) (β := Value) (pv := fun x => .iface 89 (.agg #[.int .i64 x6.1.1, .int .i64 x6.1.2])) (MM := fun x => [(q_p0, [x, .int .i64 x6.2.2])]) (ZZ := fun x => [row x 98 AA x6.2.1]) W F S4 Aa (fun hL => ih _ _ w q_p0 (v4) x3.2 _ h4 hL) fun x w F => ?_
  obtain ⟨v8, rfl⟩ : ∃ y, y = x := ⟨x, rfl⟩
  have F : Stw ⟨Y, X, w0⟩ [(q_p0, [v8, .int .i64 x6.2.2]), (b1, (CH))] [row v8 98 AA x6.2.1] w := F
  refine BW (Ep (BW ?_))
  have H := AR H
  subst H
  refine Bi W ?_
  have F := F.sub (M' := [(q_p0, [v8, .int .i64 x6.2.2])]) (Z' := [row v8 98 AA x6.2.1]) (List.Sublist.cons_cons _ (List.nil_sublist _)) (List.Sublist.refl _)
  exact ⟨(v8), Aa, F⟩
 have H := Bc (by rw [hb]; decide) H
 rw [hb] at W
 clear hb
 refine Ah (Ab ?_)
 refine ls W F Aa (Ai W Aa).q fun a w W F => ?_
 obtain ⟨x7, h5, H⟩ := Aq H
 refine Bp (Ml := [(q_p0, [v4, .int .i64 x3.2.2])]) (Zl := [row v4 98 AA x3.2.1]) (M := (FM b1)) (Z := []) (β := Value) (rv := fun x => .bool x7.1) (MM := fun x => [(q_p0, [x, .int .i64 x7.2.2])]) (ZZ := fun x => [row x 98 AA x7.2.1]) W F PH Aa Aa (fun hL => Bl _ _ w q_p0 (v4) x3.2 ([40] : List UInt8) _ h5 hL) fun x a w W F => ?_
 obtain ⟨v9, rfl⟩ : ∃ y, y = x := ⟨x, rfl⟩
 have F : Stw ⟨Y, X, w0⟩ [(q_p0, [v9, .int .i64 x7.2.2]), (b1, (CH))] [row v9 98 AA x7.2.1] w := F
 refine ls W F Aa (Ag W Aa).q fun a w W F => ?_
 refine Ae (Ac ?_)
 refine AC W Aa (fun hb => ?_) fun hb => ?_
 ·
  have H := Ba hb H
  rw [hb] at W
  clear hb
  refine Ah (Ab ?_)
  refine ls W F Aa (Ai W Aa).q fun a w W F => ?_
  obtain ⟨x8, h6, H⟩ := Aq H
  rcases x8 with x9 | x10
  ·
   have H := EZ H
   refine Bp (Ml := [(q_p0, [v9, .int .i64 x7.2.2])]) (Zl := [row v9 98 AA x7.2.1]) (M := (FM b1)) (Z := []) (β := Value × Value) (rv := fun x => .agg #[.int .i64 x9.1.un.1, .int .i64 x9.1.un.2.1, .int .i64 x9.1.un.2.2.1, x.1]) (MM := fun x => [(q_p0, [x.2, .int .i64 x9.2.2])]) (ZZ := fun x => [row x.2 98 AA x9.2.1, A4 x.1 A6 x9.1.un.2.2.2]) W F S8 Aa Aa (fun hL => ih_parse_parser_condition _ _ w q_p0 (v9) x7.2 _ h6 hL) fun x a w W F => ?_
   obtain ⟨v10, v11⟩ := x
   have F : Stw ⟨Y, X, w0⟩ [(q_p0, [v11, .int .i64 x9.2.2]), (b1, (CH))] [row v11 98 AA x9.2.1, A4 v10 A6 x9.1.un.2.2.2] w := F
   refine BA (cs := (CH)) W F Aa Ny Aa fun b2 a w W F => ?_
   refine AP (vs := (F1 x9 v10)) (M' := [(b2, [.int .i64 x9.1.un.1, .int .i64 x9.1.un.2.1, .int .i64 x9.1.un.2.2.1, v10]), (q_p0, [v11, .int .i64 x9.2.2]), (b1, [.int .i64 0, .int .i64 0, .int .i64 0, .slice none 0 0])]) 0 W F Aa Aa Aa ER Aa Aa Aa (Af Aa (Af Aa (Af Aa (Af (F.oneF (k := 1) Aa) BC)))) Aa fun w F => ?_
   refine Ae (Ac (Ah (Ab ?_)))
   refine ls W F Aa (Ai W Aa).q fun a w W F => ?_
   obtain ⟨x11, h7, H⟩ := Aq H
   rcases x11 with x12 | x13
   ·
    have H := EZ H
    have F := F.frontM (i := 1) Aa Aa
    refine Bp (Ml := [(q_p0, [v11, .int .i64 x9.2.2])]) (Zl := [row v11 98 AA x9.2.1]) (M := [(b2, [.int .i64 x9.1.un.1, .int .i64 x9.1.un.2.1, .int .i64 x9.1.un.2.2.1, v10]), (b1, [.int .i64 0, .int .i64 0, .int .i64 0, .slice none 0 0])]) (Z := [A4 v10 A6 x9.1.un.2.2.2]) (β := Value) (rv := fun x => .tuple #[]) (MM := fun x => [(q_p0, [x, .int .i64 x12.2])]) (ZZ := fun x => [row x 98 AA x12.1]) W F Lh Aa Aa (fun hL => BB _ _ w q_p0 (v11) x9.2 ([41] : List UInt8) _ h7 hL) fun x a w W F => ?_
    obtain ⟨v12, rfl⟩ : ∃ y, y = x := ⟨x, rfl⟩
    have F : Stw ⟨Y, X, w0⟩ [(q_p0, [v12, .int .i64 x12.2]), (b2, (F1 x9 v10)), (b1, (CH))] [row v12 98 AA x12.1, A4 v10 A6 x9.1.un.2.2.2] w := F
    refine Ae (Ac (Ah (Ab ?_)))
    refine ls W F Aa (Aw (v := Value.agg #[.int .i64 x9.1.un.1, .int .i64 x9.1.un.2.1, .int .i64 x9.1.un.2.2.1, v10]) 1 W Aa Aa ER Aa).q fun a w W F => ?_
    refine AP (vs := (F1 x9 v10)) (M' := [(q_p0, [v12, .int .i64 x12.2]), (b2, (F1 x9 v10)), (b1, (F1 x9 v10))]) 2 W F Aa Aa Aa ER Aa Aa Aa (Af Aa (Af Aa (Af Aa (Af (F.oneF (k := 1) Aa) BC)))) Aa fun w F => ?_
    refine Ae (Ac (Au (Be (AV ?_))))
    have H := AR H
    subst H
    refine AO (.inl Aa) W F Aa (BD 2 W Aa Aa ER Aa) ?_
    have F := F.frontZ (i := 1) Aa Aa
    have F := F.frontZ (i := 1) Aa Aa
    have F := F.sub (M' := [(q_p0, [v12, .int .i64 x12.2])]) (Z' := [row v12 98 AA x12.1, A4 v10 A6 x9.1.un.2.2.2]) (List.Sublist.cons_cons _ (List.nil_sublist _)) (List.Sublist.refl _)
    exact ⟨((v10), (v12)), Aa, F⟩
   have H := EW H
   have F := F.frontM (i := 1) Aa Aa
   refine Cj (Ml := [(q_p0, [v11, .int .i64 x9.2.2])]) (Zl := [row v11 98 AA x9.2.1]) (M := [(b2, [.int .i64 x9.1.un.1, .int .i64 x9.1.un.2.1, .int .i64 x9.1.un.2.2.1, v10]), (b1, [.int .i64 0, .int .i64 0, .int .i64 0, .slice none 0 0])]) (Z := [A4 v10 A6 x9.1.un.2.2.2]) (β := Value) (pv := fun x => .iface 89 (.agg #[.int .i64 x13.1.1, .int .i64 x13.1.2])) (MM := fun x => [(q_p0, [x, .int .i64 x13.2.2])]) (ZZ := fun x => [row x 98 AA x13.2.1]) W F Lh Aa (fun hL => BB _ _ w q_p0 (v11) x9.2 ([41] : List UInt8) _ h7 hL) fun x w F => ?_
   obtain ⟨v13, rfl⟩ : ∃ y, y = x := ⟨x, rfl⟩
   have F : Stw ⟨Y, X, w0⟩ [(q_p0, [v13, .int .i64 x13.2.2]), (b2, (F1 x9 v10)), (b1, (CH))] [row v13 98 AA x13.2.1, A4 v10 A6 x9.1.un.2.2.2] w := F
   refine BW (Ep (BW ?_))
   have H := AR H
   subst H
   refine Bi W ?_
   have F := F.sub (M' := [(q_p0, [v13, .int .i64 x13.2.2])]) (Z' := [row v13 98 AA x13.2.1]) (List.Sublist.cons_cons _ (List.nil_sublist _)) (List.Sublist.cons_cons _ (List.nil_sublist _))
   exact ⟨(v13), Aa, F⟩
  have H := EW H
  refine Cj (Ml := [(q_p0, [v9, .int .i64 x7.2.2])]) (Zl := [row v9 98 AA x7.2.1]) (M := (FM b1)) (Z := []) (β := Value) (pv := fun x => .iface 89 (.agg #[.int .i64 x10.1.1, .int .i64 x10.1.2])) (MM := fun x => [(q_p0, [x, .int .i64 x10.2.2])]) (ZZ := fun x => [row x 98 AA x10.2.1]) W F S8 Aa (fun hL => ih_parse_parser_condition _ _ w q_p0 (v9) x7.2 _ h6 hL) fun x w F => ?_
  obtain ⟨v14, rfl⟩ : ∃ y, y = x := ⟨x, rfl⟩
  have F : Stw ⟨Y, X, w0⟩ [(q_p0, [v14, .int .i64 x10.2.2]), (b1, (CH))] [row v14 98 AA x10.2.1] w := F
  refine BW (Ep (BW ?_))
  have H := AR H
  subst H
  refine Bi W ?_
  have F := F.sub (M' := [(q_p0, [v14, .int .i64 x10.2.2])]) (Z' := [row v14 98 AA x10.2.1]) (List.Sublist.cons_cons _ (List.nil_sublist _)) (List.Sublist.refl _)
  exact ⟨(v14), Aa, F⟩
 have H := Bc (by rw [hb]; decide) H
 rw [hb] at W
 clear hb
 refine AM (BI (Ac (Ah (Ab ?_))))
 refine ls W F Aa (Ai W Aa).q fun a w W F => ?_
 obtain ⟨x14, h8, H⟩ := Aq H
 rcases x14 with x15 | x16
 ·
  have H := EZ H
  refine Bp (Ml := [(q_p0, [v9, .int .i64 x7.2.2])]) (Zl := [row v9 98 AA x7.2.1]) (M := (FM b1)) (Z := []) (β := Value) (rv := fun x => .int .i64 x15.1) (MM := fun x => [(q_p0, [x, .int .i64 x15.2.2])]) (ZZ := fun x => [row x 98 AA x15.2.1]) W F Rr Aa Aa (fun hL => DO _ _ w q_p0 (v9) x7.2 5 _ h8 hL) fun x a w W F => ?_
  obtain ⟨v15, rfl⟩ : ∃ y, y = x := ⟨x, rfl⟩
  have F : Stw ⟨Y, X, w0⟩ [(q_p0, [v15, .int .i64 x15.2.2]), (b1, (CH))] [row v15 98 AA x15.2.1] w := F
  refine ls W F Aa (Ag W Aa).q fun a w W F => ?_
  refine Ae (Ac (Ah (Ab ?_)))
  refine ls W F Aa (Ai W Aa).q fun a w W F => ?_
  obtain ⟨x17, h9, H⟩ := Aq H
  rcases x17 with x18 | x19
  ·
   have H := EZ H
   refine Bp (Ml := [(q_p0, [v15, .int .i64 x15.2.2])]) (Zl := [row v15 98 AA x15.2.1]) (M := (FM b1)) (Z := []) (β := Value) (rv := fun x => .tuple #[]) (MM := fun x => [(q_p0, [x, .int .i64 x18.2])]) (ZZ := fun x => [row x 98 AA x18.1]) W F Lh Aa Aa (fun hL => BB _ _ w q_p0 (v15) x15.2 ([61] : List UInt8) _ h9 hL) fun x a w W F => ?_
   obtain ⟨v16, rfl⟩ : ∃ y, y = x := ⟨x, rfl⟩
   have F : Stw ⟨Y, X, w0⟩ [(q_p0, [v16, .int .i64 x18.2]), (b1, (CH))] [row v16 98 AA x18.1] w := F
   refine Ae (Ac (Ah (Ab ?_)))
   iterate 2 refine ls W F Aa (Ai W Aa).q fun a w W F => ?_
   obtain ⟨x20, h10, H⟩ := Aq H
   rcases x20 with x21 | x22
   ·
    have H := EZ H
    refine Bp (Ml := [(q_p0, [v16, .int .i64 x18.2])]) (Zl := [row v16 98 AA x18.1]) (M := (FM b1)) (Z := []) (β := Value) (rv := fun x => .int .i64 x21.1) (MM := fun x => [(q_p0, [x, .int .i64 x21.2.2])]) (ZZ := fun x => [row x 98 AA x21.2.1]) W F RP Aa Aa (fun hL => Dz _ _ w q_p0 (v16) x18 _ h10 hL) fun x a w W F => ?_
    obtain ⟨v17, rfl⟩ : ∃ y, y = x := ⟨x, rfl⟩
    have F : Stw ⟨Y, X, w0⟩ [(q_p0, [v17, .int .i64 x21.2.2]), (b1, (CH))] [row v17 98 AA x21.2.1] w := F
    refine ls W F Aa (Cx (v := Value.agg #[.int .i64 3, .int .i64 x15.1, .int .i64 x21.1, .slice none 0 0]) Ry W Aa Aa Aa).q fun a w W F => ?_
    refine AP (vs := [.int .i64 3, .int .i64 x15.1, .int .i64 x21.1, .slice none 0 0]) (M' := [(q_p0, [v17, .int .i64 x21.2.2]), (b1, [.int .i64 3, .int .i64 x15.1, .int .i64 x21.1, .slice none 0 0])]) 1 W F Aa Aa Aa ER Aa Aa Aa Aa Aa fun w F => ?_
    refine Ae (Ac (Au ?_))
    have H := AR H
    subst H
    refine AO (.inl Aa) W F Aa (BD 1 W Aa Aa ER Aa) ?_
    have F := F.note (Sl.nil (r := A6))
    have F := F.frontZ (i := 1) Aa Aa
    have F := F.sub (M' := [(q_p0, [v17, .int .i64 x21.2.2])]) (Z' := [row v17 98 AA x21.2.1, A4 (Value.slice none 0 0) A6 ([])]) (List.Sublist.cons_cons _ (List.nil_sublist _)) (List.Sublist.refl _)
    exact ⟨((Value.slice none 0 0), (v17)), Aa, F⟩
   have H := EW H
   refine Cj (Ml := [(q_p0, [v16, .int .i64 x18.2])]) (Zl := [row v16 98 AA x18.1]) (M := (FM b1)) (Z := []) (β := Value) (pv := fun x => .iface 89 (.agg #[.int .i64 x22.1.1, .int .i64 x22.1.2])) (MM := fun x => [(q_p0, [x, .int .i64 x22.2.2])]) (ZZ := fun x => [row x 98 AA x22.2.1]) W F RP Aa (fun hL => Dz _ _ w q_p0 (v16) x18 _ h10 hL) fun x w F => ?_
   obtain ⟨v18, rfl⟩ : ∃ y, y = x := ⟨x, rfl⟩
   have F : Stw ⟨Y, X, w0⟩ [(q_p0, [v18, .int .i64 x22.2.2]), (b1, (CH))] [row v18 98 AA x22.2.1] w := F
   refine BW ?_
   have H := AR H
   subst H
   refine Bi W ?_
   have F := F.sub (M' := [(q_p0, [v18, .int .i64 x22.2.2])]) (Z' := [row v18 98 AA x22.2.1]) (List.Sublist.cons_cons _ (List.nil_sublist _)) (List.Sublist.refl _)
   exact ⟨(v18), Aa, F⟩
  have H := EW H
  refine Cj (Ml := [(q_p0, [v15, .int .i64 x15.2.2])]) (Zl := [row v15 98 AA x15.2.1]) (M := (FM b1)) (Z := []) (β := Value) (pv := fun x => .iface 89 (.agg #[.int .i64 x19.1.1, .int .i64 x19.1.2])) (MM := fun x => [(q_p0, [x, .int .i64 x19.2.2])]) (ZZ := fun x => [row x 98 AA x19.2.1]) W F Lh Aa (fun hL => BB _ _ w q_p0 (v15) x15.2 ([61] : List UInt8) _ h9 hL) fun x w F => ?_
  obtain ⟨v19, rfl⟩ : ∃ y, y = x := ⟨x, rfl⟩
  have F : Stw ⟨Y, X, w0⟩ [(q_p0, [v19, .int .i64 x19.2.2]), (b1, (CH))] [row v19 98 AA x19.2.1] w := F
  refine BW ?_
  have H := AR H
  subst H
  refine Bi W ?_
  have F := F.sub (M' := [(q_p0, [v19, .int .i64 x19.2.2])]) (Z' := [row v19 98 AA x19.2.1]) (List.Sublist.cons_cons _ (List.nil_sublist _)) (List.Sublist.refl _)
  exact ⟨(v19), Aa, F⟩
 have H := EW H
 refine Cj (Ml := [(q_p0, [v9, .int .i64 x7.2.2])]) (Zl := [row v9 98 AA x7.2.1]) (M := (FM b1)) (Z := []) (β := Value) (pv := fun x => .iface 89 (.agg #[.int .i64 x16.1.1, .int .i64 x16.1.2])) (MM := fun x => [(q_p0, [x, .int .i64 x16.2.2])]) (ZZ := fun x => [row x 98 AA x16.2.1]) W F Rr Aa (fun hL => DO _ _ w q_p0 (v9) x7.2 5 _ h8 hL) fun x w F => ?_
 obtain ⟨v20, rfl⟩ : ∃ y, y = x := ⟨x, rfl⟩
 have F : Stw ⟨Y, X, w0⟩ [(q_p0, [v20, .int .i64 x16.2.2]), (b1, (CH))] [row v20 98 AA x16.2.1] w := F
 refine BW ?_
 have H := AR H
 subst H
 refine Bi W ?_
 have F := F.sub (M' := [(q_p0, [v20, .int .i64 x16.2.2])]) (Z' := [row v20 98 AA x16.2.1]) (List.Sublist.cons_cons _ (List.nil_sublist _)) (List.Sublist.refl _)
 exact ⟨(v20), Aa, F⟩
theorem Is (fRec_parse_parser_condition : ((List (Int × Int × List UInt8 × Int)) × Int) → Option ((Tr25 × ((List (Int × Int × List UInt8 × Int)) × Int)) ⊕ ((Int × Int) × ((List (Int × Int × List UInt8 × Int)) × Int)))) (ih_parse_parser_condition : ∀ (Y : Nat → Prop) (X : List Nat) (w0 : World) (q_p0 : Nat) (v1 : Value) (p0 : (List (Int × Int × List UInt8 × Int)) × Int) (r : (Tr25 × ((List (Int × Int × List UInt8 × Int)) × Int)) ⊕ ((Int × Int) × ((List (Int × Int × List UInt8 × Int)) × Int))) (H : fRec_parse_parser_condition p0 = some r) (hL : Stw ⟨Y, X, w0⟩ [(q_p0, [v1, .int .i64 p0.2])] [row v1 98 AA p0.1] w0), Calls Tryd.prog 33 #[.pointer (some ⟨q_p0, 0, none⟩)] w0 fun e w' => D8 r (fun r => ∃ x : Value × Value, e = .returned (.agg #[.int .i64 r.1.un.1, .int .i64 r.1.un.2.1, .int .i64 r.1.un.2.2.1, x.1]) ∧ Stw ⟨Y, X, w0⟩ [(q_p0, [x.2, .int .i64 r.2.2])] [row (x.2) 98 AA r.2.1, A4 (x.1) A6 r.1.un.2.2.2] w') (fun r => ∃ x : Value, e = .panicked [{ v := .iface 89 (.agg #[.int .i64 r.1.1, .int .i64 r.1.2]), recovered := false }] ∧ Stw ⟨Y, X, w0⟩ [(q_p0, [x, .int .i64 r.2.2])] [row (x) 98 AA r.2.1] w')) : ∀ (n : Nat) (Y : Nat → Prop) (X : List Nat) (w0 : World) (q_p0 : Nat) (v1 : Value) (p0 : (List (Int × Int × List UInt8 × Int)) × Int) (r : (Tr25 × ((List (Int × Int × List UInt8 × Int)) × Int)) ⊕ ((Int × Int) × ((List (Int × Int × List UInt8 × Int)) × Int))) (H : AN fRec_parse_parser_condition n p0 = some r) (hL : Stw ⟨Y, X, w0⟩ [(q_p0, [v1, .int .i64 p0.2])] [row v1 98 AA p0.1] w0), Calls Tryd.prog 88 #[.pointer (some ⟨q_p0, 0, none⟩)] w0 fun e w' => D8 r (fun r => ∃ x : Value × Value, e = .returned (.agg #[.int .i64 r.1.un.1, .int .i64 r.1.un.2.1, .int .i64 r.1.un.2.2.1, x.1]) ∧ Stw ⟨Y, X, w0⟩ [(q_p0, [x.2, .int .i64 r.2.2])] [row (x.2) 98 AA r.2.1, A4 (x.1) A6 r.1.un.2.2.2] w') (fun r => ∃ x : Value, e = .panicked [{ v := .iface 89 (.agg #[.int .i64 r.1.1, .int .i64 r.1.2]), recovered := false }] ∧ Stw ⟨Y, X, w0⟩ [(q_p0, [x, .int .i64 r.2.2])] [row (x) 98 AA r.2.1] w') := by
  intro n
  induction n with
  | zero => intro Y X w0 q_p0 v1 p0 r H; exact nomatch H
  | succ n ih => intro Y X w0 q_p0 v1 p0 r H hL; exact HY fRec_parse_parser_condition ih_parse_parser_condition (AN fRec_parse_parser_condition n) ih Y X w0 q_p0 v1 p0 r H hL
theorem DB (fRec_parse_parser_condition : ((List (Int × Int × List UInt8 × Int)) × Int) → Option ((Tr25 × ((List (Int × Int × List UInt8 × Int)) × Int)) ⊕ ((Int × Int) × ((List (Int × Int × List UInt8 × Int)) × Int)))) (ih_parse_parser_condition : ∀ (Y : Nat → Prop) (X : List Nat) (w0 : World) (q_p0 : Nat) (v1 : Value) (p0 : (List (Int × Int × List UInt8 × Int)) × Int) (r : (Tr25 × ((List (Int × Int × List UInt8 × Int)) × Int)) ⊕ ((Int × Int) × ((List (Int × Int × List UInt8 × Int)) × Int))) (H : fRec_parse_parser_condition p0 = some r) (hL : Stw ⟨Y, X, w0⟩ [(q_p0, [v1, .int .i64 p0.2])] [row v1 98 AA p0.1] w0), Calls Tryd.prog 33 #[.pointer (some ⟨q_p0, 0, none⟩)] w0 fun e w' => D8 r (fun r => ∃ x : Value × Value, e = .returned (.agg #[.int .i64 r.1.un.1, .int .i64 r.1.un.2.1, .int .i64 r.1.un.2.2.1, x.1]) ∧ Stw ⟨Y, X, w0⟩ [(q_p0, [x.2, .int .i64 r.2.2])] [row (x.2) 98 AA r.2.1, A4 (x.1) A6 r.1.un.2.2.2] w') (fun r => ∃ x : Value, e = .panicked [{ v := .iface 89 (.agg #[.int .i64 r.1.1, .int .i64 r.1.2]), recovered := false }] ∧ Stw ⟨Y, X, w0⟩ [(q_p0, [x, .int .i64 r.2.2])] [row (x) 98 AA r.2.1] w')) (Y : Nat → Prop) (X : List Nat) (w0 : World) (q_p0 : Nat) (v1 : Value) (p0 : (List (Int × Int × List UInt8 × Int)) × Int) (r : (Tr25 × ((List (Int × Int × List UInt8 × Int)) × Int)) ⊕ ((Int × Int) × ((List (Int × Int × List UInt8 × Int)) × Int))) (H : BN fRec_parse_parser_condition p0 = some r) (hL : Stw ⟨Y, X, w0⟩ [(q_p0, [v1, .int .i64 p0.2])] [row v1 98 AA p0.1] w0) :
    Calls Tryd.prog 88 #[.pointer (some ⟨q_p0, 0, none⟩)] w0 fun e w' => D8 r (fun r => ∃ x : Value × Value, e = .returned (.agg #[.int .i64 r.1.un.1, .int .i64 r.1.un.2.1, .int .i64 r.1.un.2.2.1, x.1]) ∧ Stw ⟨Y, X, w0⟩ [(q_p0, [x.2, .int .i64 r.2.2])] [row (x.2) 98 AA r.2.1, A4 (x.1) A6 r.1.un.2.2.2] w') (fun r => ∃ x : Value, e = .panicked [{ v := .iface 89 (.agg #[.int .i64 r.1.1, .int .i64 r.1.2]), recovered := false }] ∧ Stw ⟨Y, X, w0⟩ [(q_p0, [x, .int .i64 r.2.2])] [row (x) 98 AA r.2.1] w') := by
  obtain ⟨n, H⟩ := Cy H
  exact Is fRec_parse_parser_condition ih_parse_parser_condition n Y X w0 q_p0 v1 p0 r H hL
abbrev JE (a : Int × Int × Int × (Value × List Tr25)) : List Value := [.int .i64 a.1, .int .i64 a.2.1, .int .i64 a.2.2.1, a.2.2.2.1]
theorem ON : GS MJ JE := (GS.pair Fl.int.to (GS.pair Fl.int.to (GS.pair Fl.int.to GS.vsl)))
def Cu (p0 : List Tr25) : Tr25 := Tr25.of (5, 0, 0, p0)
theorem OE (Y : Nat → Prop) (w0 : World) (v1 : Value) (p0 : List Tr25) (r : Tr25) (H : Cu p0 = r) (s_v1 : Sl w0 Y A6 v1 p0) :
    Calls Tryd.prog 89 #[v1] w0 fun e w' => ∃ x : Value, e = .returned (.agg #[.int .i64 r.un.1, .int .i64 r.un.2.1, .int .i64 r.un.2.2.1, x]) ∧ Stw ⟨Y, [], w0⟩ [] [A4 (x) A6 r.un.2.2.2] w' := by
 refine enter Tryd.func89 Aa Tryd.ntmps89 Aa fun a W => ?_
 have F := Stw.start Y w0
 obtain ⟨v2, h1, s_v1⟩ := s_v1.ex CF
 have h_v1 := F.nx s_v1
 unfold Cu at H
 refine Ah (Ab ?_)
 refine BA (cs := (CH)) W F Aa Ny Aa fun b1 a w W F => ?_
 refine Ae (Ac (Ah (Ab ?_)))
 refine ls W F Aa (Ai W Aa).q fun a w W F => ?_
 refine ls W F Aa (Cx (v := Value.agg #[.int .i64 5, .int .i64 0, .int .i64 0, v1]) Ry W Aa (BQ Aa Aa Aa (BQ Aa (FU h_v1.one) Aa CX)) Aa).q fun a w W F => ?_
 refine AP (vs := [.int .i64 5, .int .i64 0, .int .i64 0, v1]) (M' := [(b1, [.int .i64 5, .int .i64 0, .int .i64 0, v1])]) 0 W F Aa Aa Aa ER Aa Aa Aa (Af Aa (Af Aa (Af Aa (Af h_v1.one BC)))) Aa fun w F => ?_
 refine Ae (Ac (Au ?_))
 subst H
 refine AO (.inl Aa) W F Aa (BD 0 W Aa Aa ER Aa) ?_
 have F := F.note (Sl.hide CF h1 (F.old s_v1))
 have F := F.sub (M' := []) (Z' := [A4 v1 A6 p0]) (List.nil_sublist _) (List.Sublist.refl _)
 exact ⟨(v1), Aa, F⟩
theorem U0 : Has Tryd.prog 89 := ⟨fun args w => Am Tryd.func89 rfl (by decide) args w⟩
abbrev Sf (a0 : List Tr25) (a1 : Value) : List Value := [.int .i64 ((Cu a0).un.1), .int .i64 ((Cu a0).un.2.1), .int .i64 ((Cu a0).un.2.2.1), a1]
noncomputable def Bh (fRec_parse_parser_condition : ((List (Int × Int × List UInt8 × Int)) × Int) → Option ((Tr25 × ((List (Int × Int × List UInt8 × Int)) × Int)) ⊕ ((Int × Int) × ((List (Int × Int × List UInt8 × Int)) × Int)))) (p1 : List UInt8) : (List Tr25 × (List (Int × Int × List UInt8 × Int)) × Int) → Option ((List Tr25 × (List (Int × Int × List UInt8 × Int)) × Int) ⊕ ((List Tr25 × (List (Int × Int × List UInt8 × Int)) × Int) ⊕ ((Tr25 × ((List (Int × Int × List UInt8 × Int)) × Int)) ⊕ ((Int × Int) × ((List (Int × Int × List UInt8 × Int)) × Int)))))
  | (x7, x8, x9) => (As (x8, x9) p1).bind fun x10 => (if x10.1 = true then ((BN fRec_parse_parser_condition) x10.2).bind fun x11 => B1 x11 (fun x12 => (D0 x7 ([x12.1] : List Tr25)).bind fun x14 => some (.inl (x14, x12.2.1, x12.2.2))) (fun x13 => some (.inr (.inr (.inr (x13.1, x13.2))))) else some (.inr (.inl (x7, x10.2.1, x10.2.2))))
noncomputable def BF (fRec_parse_parser_condition : ((List (Int × Int × List UInt8 × Int)) × Int) → Option ((Tr25 × ((List (Int × Int × List UInt8 × Int)) × Int)) ⊕ ((Int × Int) × ((List (Int × Int × List UInt8 × Int)) × Int)))) (p0 : (List (Int × Int × List UInt8 × Int)) × Int) (p1 : List UInt8) : Option ((Tr25 × ((List (Int × Int × List UInt8 × Int)) × Int)) ⊕ ((Int × Int) × ((List (Int × Int × List UInt8 × Int)) × Int))) := ((BN fRec_parse_parser_condition) p0).bind fun x1 => B1 x1 (fun x2 => HX (Bo (Bh fRec_parse_parser_condition p1) (([x2.1] : List Tr25), x2.2.1, x2.2.2)) fun (x4, x5, x6) => (if (x4.length : Int) = 1 then (ix x4 0).bind fun x15 => some (.inl (x15, (x5, x6))) else some (.inl (Tr25.of ((Cu x4).un.1, (Cu x4).un.2.1, (Cu x4).un.2.2.1, (Cu x4).un.2.2.2), (x5, x6))))) (fun x3 => some (.inr (x3.1, x3.2)))
theorem E2 (fRec_parse_parser_condition : ((List (Int × Int × List UInt8 × Int)) × Int) → Option ((Tr25 × ((List (Int × Int × List UInt8 × Int)) × Int)) ⊕ ((Int × Int) × ((List (Int × Int × List UInt8 × Int)) × Int)))) (ih_parse_parser_condition : ∀ (Y : Nat → Prop) (X : List Nat) (w0 : World) (q_p0 : Nat) (v1 : Value) (p0 : (List (Int × Int × List UInt8 × Int)) × Int) (r : (Tr25 × ((List (Int × Int × List UInt8 × Int)) × Int)) ⊕ ((Int × Int) × ((List (Int × Int × List UInt8 × Int)) × Int))) (H : fRec_parse_parser_condition p0 = some r) (hL : Stw ⟨Y, X, w0⟩ [(q_p0, [v1, .int .i64 p0.2])] [row v1 98 AA p0.1] w0), Calls Tryd.prog 33 #[.pointer (some ⟨q_p0, 0, none⟩)] w0 fun e w' => D8 r (fun r => ∃ x : Value × Value, e = .returned (.agg #[.int .i64 r.1.un.1, .int .i64 r.1.un.2.1, .int .i64 r.1.un.2.2.1, x.1]) ∧ Stw ⟨Y, X, w0⟩ [(q_p0, [x.2, .int .i64 r.2.2])] [row (x.2) 98 AA r.2.1, A4 (x.1) A6 r.1.un.2.2.2] w') (fun r => ∃ x : Value, e = .panicked [{ v := .iface 89 (.agg #[.int .i64 r.1.1, .int .i64 r.1.2]), recovered := false }] ∧ Stw ⟨Y, X, w0⟩ [(q_p0, [x, .int .i64 r.2.2])] [row (x) 98 AA r.2.1] w')) (Y : Nat → Prop) (X : List Nat) (w0 : World) (q_p0 : Nat) (v1 : Value) (p0 : (List (Int × Int × List UInt8 × Int)) × Int) (p1 : List UInt8) (r : (Tr25 × ((List (Int × Int × List UInt8 × Int)) × Int)) ⊕ ((Int × Int) × ((List (Int × Int × List UInt8 × Int)) × Int))) (H : BF fRec_parse_parser_condition p0 p1 = some r) (hL : Stw ⟨Y, X, w0⟩ [(q_p0, [v1, .int .i64 p0.2])] [row v1 98 AA p0.1] w0) :
    Calls Tryd.prog 67 #[.pointer (some ⟨q_p0, 0, none⟩), .string (bs p1), .func (.func 88) #[.pointer (some ⟨q_p0, 0, none⟩)] #[], .func (.func 89) #[] #[]] w0 fun e w' => D8 r (fun r => ∃ x : Value × Value, e = .returned (.agg #[.int .i64 r.1.un.1, .int .i64 r.1.un.2.1, .int .i64 r.1.un.2.2.1, x.1]) ∧ Stw ⟨Y, X, w0⟩ [(q_p0, [x.2, .int .i64 r.2.2])] [row (x.2) 98 AA r.2.1, A4 (x.1) A6 r.1.un.2.2.2] w') (fun r => ∃ x : Value, e = .panicked [{ v := .iface 89 (.agg #[.int .i64 r.1.1, .int .i64 r.1.2]), recovered := false }] ∧ Stw ⟨Y, X, w0⟩ [(q_p0, [x, .int .i64 r.2.2])] [row (x) 98 AA r.2.1] w') := by
 refine enter Tryd.func67 Aa Tryd.ntmps67 Aa fun a W => ?_
 have F := hL
 unfold BF at H
 refine Ah (Ab ?_)
 refine BA (cs := (CH)) W F Aa Ny Aa fun b1 a w W F => ?_
 refine Ae (Ac (Ah (Ab ?_)))
 refine ls W F Aa (Ai W Aa).q fun a w W F => ?_
 obtain ⟨x1, h1, H⟩ := Aq H
 rcases x1 with x2 | x3
 ·
  have H := EZ H
  have F := F.frontM (i := 1) Aa Aa
  refine Eu (ws := [.pointer (some ⟨q_p0, 0, none⟩)]) (Ml := [(q_p0, [v1, .int .i64 p0.2])]) (Zl := [row v1 98 AA p0.1]) (M := (FM b1)) (Z := []) (β := Value × Value) (rv := fun x => .agg #[.int .i64 x2.1.un.1, .int .i64 x2.1.un.2.1, .int .i64 x2.1.un.2.2.1, x.1]) (MM := fun x => [(q_p0, [x.2, .int .i64 x2.2.2])]) (ZZ := fun x => [row x.2 98 AA x2.2.1, A4 x.1 A6 x2.1.un.2.2.2]) W F S4 Aa Aa (fun hL => (DB fRec_parse_parser_condition ih_parse_parser_condition) _ _ w q_p0 (v1) p0 _ h1 hL) fun x a w W F => ?_
  obtain ⟨v2, v3⟩ := x
  have F : Stw ⟨Y, X, w0⟩ [(q_p0, [v3, .int .i64 x2.2.2]), (b1, (CH))] [row v3 98 AA x2.2.1, A4 v2 A6 x2.1.un.2.2.2] w := F
  refine Hi (z := Value.agg #[.int .i64 0, .int .i64 0, .int .i64 0, .slice none 0 0]) (cs := (F1 x2 v2)) A6 ([x2.1] : List Tr25) W F Aa Pi Ny Aa Aa Aa (BQ Aa Aa Aa CX) Aa Aa ⟨[Value.int .i64 x2.1.un.1, Value.int .i64 x2.1.un.2.1, Value.int .i64 x2.1.un.2.2.1, v2], _, Aa, (Mh.2 ⟨[Value.int .i64 x2.1.un.1], [Value.int .i64 x2.1.un.2.1, Value.int .i64 x2.1.un.2.2.1, v2], Aa, Aa, ⟨[Value.int .i64 x2.1.un.2.1], [Value.int .i64 x2.1.un.2.2.1, v2], Aa, Aa, ⟨[Value.int .i64 x2.1.un.2.2.1], [v2], Aa, Aa, ⟨_, Aa, (F.item (i := 1) Aa)⟩⟩⟩⟩), Aa⟩ fun v4 a w W F => ?_
  refine ls W F Aa (Ag W Aa).q fun a w W F => ?_
  refine Ae (Ac ?_)
  obtain ⟨o1, G1, K1, L1⟩ := Qb H
  refine BK (fun a w => ∃ x4 : List Tr25, ∃ x5 : List (Int × Int × List UInt8 × Int), ∃ x6 : Int, ∃ v5 : Value, ∃ v6 : Value, some (Sum.inl (x4, x5, x6)) = some o1 ∧ Fr 30 [] [(3, .func (.func 89) #[] #[]), (8, .pointer (some ⟨b1, 0, none⟩)), (9, v5)] a ∧ Stw ⟨Y, X, w0⟩ [(q_p0, [v6, .int .i64 x6]), (b1, (CH))] [row v5 25 A6 x4, row v6 98 AA x5] w) ?_ ?_
  ·
   have H := G1
   clear G1 K1
   refine Bb ?_
   have F := F.frontZ (i := 1) Aa Aa
   have F := F.frontZ (i := 1) Aa Aa
   have F := F.frontM (i := 1) Aa Aa
   have F := F.frontM (i := 1) Aa Aa
   have F := F.sub (M' := [(q_p0, [v3, .int .i64 x2.2.2]), (b1, (CH))]) (Z' := [row v4 25 A6 ([x2.1] : List Tr25), row v3 98 AA x2.2.1]) (List.Sublist.refl _) (List.Sublist.cons_cons _ (List.Sublist.cons_cons _ (List.nil_sublist _)))
   refine Dl H (fun s a w => ∃ v7 : Value, ∃ v8 : Value, Fr 30 [] [(0, .pointer (some ⟨q_p0, 0, none⟩)), (1, .string (bs p1)), (2, .func (.func 88) #[.pointer (some ⟨q_p0, 0, none⟩)] #[]), (3, .func (.func 89) #[] #[]), (8, .pointer (some ⟨b1, 0, none⟩)), (9, v7)] a ∧ Stw ⟨Y, X, w0⟩ [(q_p0, [v8, .int .i64 s.2.2]), (b1, (CH))] [row v7 25 A6 s.1, row v8 98 AA s.2.1] w) ⟨(v4), (v3), W.re ⟨rfl, Aa, Aa, Aa, Aa, Aa, trivial⟩, F⟩ fun s o a w H L2 hR => ?_
   obtain ⟨x7, x8, x9⟩ := s
   obtain ⟨v7, v8, W, F⟩ := hR
   have W : Fr 30 [] [(0, .pointer (some ⟨q_p0, 0, none⟩)), (1, .string (bs p1)), (2, .func (.func 88) #[.pointer (some ⟨q_p0, 0, none⟩)] #[]), (3, .func (.func 89) #[] #[]), (8, .pointer (some ⟨b1, 0, none⟩)), (9, v7)] a := W
   have F : Stw ⟨Y, X, w0⟩ [(q_p0, [v8, .int .i64 x9]), (b1, (CH))] [row v7 25 A6 x7, row v8 98 AA x8] w := F
   rw [Bh] at H
   refine Ah (Ah (Ab ?_))
   iterate 2 refine ls W F Aa (Ai W Aa).q fun a w W F => ?_
   obtain ⟨x10, h2, H⟩ := Aq H
   have F := F.frontZ (i := 1) Aa Aa
   refine Bp (Ml := [(q_p0, [v8, .int .i64 x9])]) (Zl := [row v8 98 AA x8]) (M := (FM b1)) (Z := [row v7 25 A6 x7]) (β := Value) (rv := fun x => .bool x10.1) (MM := fun x => [(q_p0, [x, .int .i64 x10.2.2])]) (ZZ := fun x => [row x 98 AA x10.2.1]) W F PH Aa Aa (fun hL => Bl _ _ w q_p0 (v8) (x8, x9) p1 _ h2 hL) fun x a w W F => ?_
   obtain ⟨v9, rfl⟩ : ∃ y, y = x := ⟨x, rfl⟩
   have F : Stw ⟨Y, X, w0⟩ [(q_p0, [v9, .int .i64 x10.2.2]), (b1, (CH))] [row v9 98 AA x10.2.1, row v7 25 A6 x7] w := F
   refine Ae (Ac ?_)
   refine AC W Aa (fun hb => ?_) fun hb => ?_
   ·
    have H := Ba hb H
    rw [hb] at W
    clear hb
    refine AM (Ac (Bb (Ab ?_)))
    iterate 2 refine ls W F Aa (Ai W Aa).q fun a w W F => ?_
    obtain ⟨x11, h3, H⟩ := Aq H
    rcases x11 with x12 | x13
    ·
     have H := EZ H
     refine Eu (ws := [.pointer (some ⟨q_p0, 0, none⟩)]) (Ml := [(q_p0, [v9, .int .i64 x10.2.2])]) (Zl := [row v9 98 AA x10.2.1]) (M := (FM b1)) (Z := [row v7 25 A6 x7]) (β := Value × Value) (rv := fun x => .agg #[.int .i64 x12.1.un.1, .int .i64 x12.1.un.2.1, .int .i64 x12.1.un.2.2.1, x.1]) (MM := fun x => [(q_p0, [x.2, .int .i64 x12.2.2])]) (ZZ := fun x => [row x.2 98 AA x12.2.1, A4 x.1 A6 x12.1.un.2.2.2]) W F S4 Aa Aa (fun hL => (DB fRec_parse_parser_condition ih_parse_parser_condition) _ _ w q_p0 (v9) x10.2 _ h3 hL) fun x a w W F => ?_
     obtain ⟨v10, v11⟩ := x
     have F : Stw ⟨Y, X, w0⟩ [(q_p0, [v11, .int .i64 x12.2.2]), (b1, (CH))] [row v11 98 AA x12.2.1, A4 v10 A6 x12.1.un.2.2.2, row v7 25 A6 x7] w := F
     refine Hi (z := Value.agg #[.int .i64 0, .int .i64 0, .int .i64 0, .slice none 0 0]) (cs := (F1 x12 v10)) A6 ([x12.1] : List Tr25) W F Aa Pi Ny Aa Aa Aa (BQ Aa Aa Aa CX) Aa Aa ⟨[Value.int .i64 x12.1.un.1, Value.int .i64 x12.1.un.2.1, Value.int .i64 x12.1.un.2.2.1, v10], _, Aa, (Mh.2 ⟨[Value.int .i64 x12.1.un.1], [Value.int .i64 x12.1.un.2.1, Value.int .i64 x12.1.un.2.2.1, v10], Aa, Aa, ⟨[Value.int .i64 x12.1.un.2.1], [Value.int .i64 x12.1.un.2.2.1, v10], Aa, Aa, ⟨[Value.int .i64 x12.1.un.2.2.1], [v10], Aa, Aa, ⟨_, Aa, (F.item (i := 1) Aa)⟩⟩⟩⟩), Aa⟩ fun v12 a w W F => ?_
     obtain ⟨x14, h4, H⟩ := Aq H
     refine Gd (r := A6) (i := 3) W F Aa Pi Aa Aa Aa Aa (Hh F 0 Aa) h4 Aa fun v13 a w W F => ?_
     have F : Stw ⟨Y, X, w0⟩ [(q_p0, [v11, .int .i64 x12.2.2]), (b1, (CH))] [row v13 25 A6 x14, row v12 25 A6 ([x12.1] : List Tr25), row v11 98 AA x12.2.1, A4 v10 A6 x12.1.un.2.2.2] w := F
     refine ls W F Aa (Ag W Aa).q fun a w W F => ?_
     refine Ae (BI (Ac ?_))
     have F := F.frontZ (i := 2) Aa Aa
     have F := F.frontZ (i := 1) Aa Aa
     have F := F.frontM (i := 1) Aa Aa
     have F := F.frontM (i := 1) Aa Aa
     have F := F.sub (M' := [(q_p0, [v11, .int .i64 x12.2.2]), (b1, (CH))]) (Z' := [row v13 25 A6 x14, row v11 98 AA x12.2.1]) (List.Sublist.refl _) (List.Sublist.cons_cons _ (List.Sublist.cons_cons _ (List.nil_sublist _)))
     exact ⟨_, H, (v13), (v11), W.re ⟨rfl, Aa, Aa, Aa, Aa, Aa, trivial⟩, F⟩
    have H := EW H
    refine Gl (ws := [.pointer (some ⟨q_p0, 0, none⟩)]) (Ml := [(q_p0, [v9, .int .i64 x10.2.2])]) (Zl := [row v9 98 AA x10.2.1]) (M := (FM b1)) (Z := [row v7 25 A6 x7]) (β := Value) (pv := fun x => .iface 89 (.agg #[.int .i64 x13.1.1, .int .i64 x13.1.2])) (MM := fun x => [(q_p0, [x, .int .i64 x13.2.2])]) (ZZ := fun x => [row x 98 AA x13.2.1]) W F S4 Aa (fun hL => (DB fRec_parse_parser_condition ih_parse_parser_condition) _ _ w q_p0 (v9) x10.2 _ h3 hL) fun x w F => ?_
    obtain ⟨v14, rfl⟩ : ∃ y, y = x := ⟨x, rfl⟩
    have F : Stw ⟨Y, X, w0⟩ [(q_p0, [v14, .int .i64 x13.2.2]), (b1, (CH))] [row v14 98 AA x13.2.1, row v7 25 A6 x7] w := F
    refine Ep (BW (Ep (BW ?_)))
    have H := L2 _ H
    have H := L1 _ H
    have H := AR H
    subst H
    refine Bi W ?_
    have F := F.sub (M' := [(q_p0, [v14, .int .i64 x13.2.2])]) (Z' := [row v14 98 AA x13.2.1]) (List.Sublist.cons_cons _ (List.nil_sublist _)) (List.Sublist.cons_cons _ (List.nil_sublist _))
    exact ⟨(v14), Aa, F⟩
   have H := Bc (by rw [hb]; decide) H
   rw [hb] at W
   clear hb
   refine Do ?_
   iterate 2 refine Er ?_
   refine Dk (Ac ?_)
   have F := F.frontZ (i := 1) Aa Aa
   have F := F.frontM (i := 1) Aa Aa
   have F := F.frontM (i := 1) Aa Aa
   have H := L2 _ H
   exact ⟨_, _, _, (v7), (v9), H, W.re ⟨rfl, Aa, Aa, trivial⟩, F⟩
  rintro a w ⟨x4, x5, x6, v5, v6, hj, W, F⟩
  have H := K1 _ hj
  clear hj G1 K1 L1
  refine Ah (Ah (Ab ?_))
  refine ls W F Aa (Ai W Aa).q fun a w W F => ?_
  refine ls W F Aa (DC (r := A6) (l := x4) J7 Aa W Aa (CB 0 Aa)).q fun a w W F => ?_
  refine ls W F Aa (Bw W Aa Aa).q fun a w W F => ?_
  refine Ae (Ac ?_)
  refine AC W Aa (fun hb => ?_) fun hb => ?_
  ·
   have H := Ba (BM hb) H
   rw [hb] at W
   clear hb
   refine Ah ?_
   obtain ⟨v15, h5, F⟩ := F.exR CF
   refine Ab ?_
   refine ls W F Aa (Ai W Aa).q fun a w W F => ?_
   obtain ⟨x15, h6, H⟩ := Aq H
   obtain ⟨v16, h7, h8⟩ := Gy h5 h6
   have h9 : JE v16 = [.int .i64 x15.un.1, .int .i64 x15.un.2.1, .int .i64 x15.un.2.2.1, (v16.2.2.2.1)] := congrArg (fun q : Tr25 => ([.int .i64 q.un.1, .int .i64 q.un.2.1, .int .i64 q.un.2.2.1, (v16.2.2.2.1)] : List Value)) h8
   refine ls W F Aa (DS (r := MJ) Pi W Aa Aa (CB 0 Aa) h7).q fun a w W F => ?_
   refine ls W F Aa (CG (y := Value.agg #[.int .i64 x15.un.1, .int .i64 x15.un.2.1, .int .i64 x15.un.2.2.1, (v16.2.2.2.1)]) (j := 0) (i := 0) (enc := JE) W Aa Aa (CB 0 Aa) h7 ON ER (by rw [h9]; rfl)).q fun a w W F => ?_
   have F := F.note (F.rowAt (k := 0) Aa h7 (AE.snd (AE.snd (AE.snd AE.here))) (congrArg (fun q : Tr25 => q.un.2.2.2) h8))
   refine AP (vs := [.int .i64 x15.un.1, .int .i64 x15.un.2.1, .int .i64 x15.un.2.2.1, (v16.2.2.2.1)]) (M' := [(q_p0, [v6, .int .i64 x6]), (b1, [.int .i64 x15.un.1, .int .i64 x15.un.2.1, .int .i64 x15.un.2.2.1, (v16.2.2.2.1)])]) 1 W F Aa Aa Aa ER Aa Aa Aa (Af Aa (Af Aa (Af Aa (Af (F.oneF (k := 0) Aa) BC)))) Aa fun w F => ?_
   refine Ae (Ac (Au (AV ?_)))
   have H := AR H
   subst H
   refine AO (.inl Aa) W F Aa (BD 1 W Aa Aa ER Aa) ?_
   have F := F.frontZ (i := 2) Aa Aa
   have F := F.sub (M' := [(q_p0, [v6, .int .i64 x6])]) (Z' := [row v6 98 AA x5, A4 (v16.2.2.2.1) A6 x15.un.2.2.2]) (List.Sublist.cons_cons _ (List.nil_sublist _)) (List.Sublist.cons_cons _ (List.Sublist.cons_cons _ (List.nil_sublist _)))
   exact ⟨(((v16.2.2.2.1)), (v6)), Aa, F⟩
  have H := Bc (BL hb) H
  rw [hb] at W
  clear hb
  refine AM (Ac (Ah (Ab ?_)))
  iterate 2 refine ls W F Aa (Ai W Aa).q fun a w W F => ?_
  have F := F.freeze
  refine Eu (ws := [v5]) (Ml := []) (Zl := []) (M := [(q_p0, [v6, .int .i64 x6]), (b1, (CH))]) (Z := [A4 v5 A6 x4, row v6 98 AA x5]) (β := Value) (rv := fun x => .agg #[.int .i64 ((Cu x4).un.1), .int .i64 ((Cu x4).un.2.1), .int .i64 ((Cu x4).un.2.2.1), x]) (MM := fun x => []) (ZZ := fun x => [A4 x A6 ((Cu x4).un.2.2.2)]) W F U0 Aa Aa (fun hL => OE _ w (v5) x4 _ Aa (F.item (i := 0) Aa)) fun x a w W F => ?_
  obtain ⟨v17, rfl⟩ : ∃ y, y = x := ⟨x, rfl⟩
  have F : Stw ⟨Y, X, w0⟩ [(q_p0, [v6, .int .i64 x6]), (b1, (CH))] [A4 v17 A6 ((Cu x4).un.2.2.2), A4 v5 A6 x4, row v6 98 AA x5] w := F
  refine AP (vs := (Sf x4 v17)) (M' := [(q_p0, [v6, .int .i64 x6]), (b1, (Sf x4 v17))]) 1 W F Aa Aa Aa ER Aa Aa Aa (Af Aa (Af Aa (Af Aa (Af (F.oneF (k := 0) Aa) BC)))) Aa fun w F => ?_
  refine Ae (Ac (Au ?_))
  have H := AR H
  subst H
  refine AO (.inl Aa) W F Aa (BD 1 W Aa Aa ER Aa) ?_
  have F := F.frontZ (i := 2) Aa Aa
  have F := F.sub (M' := [(q_p0, [v6, .int .i64 x6])]) (Z' := [row v6 98 AA x5, A4 v17 A6 ((Cu x4).un.2.2.2)]) (List.Sublist.cons_cons _ (List.nil_sublist _)) (List.Sublist.cons_cons _ (List.Sublist.cons_cons _ (List.nil_sublist _)))
  exact ⟨((v17), (v6)), Aa, F⟩
 have H := EW H
 have F := F.frontM (i := 1) Aa Aa
 refine Gl (ws := [.pointer (some ⟨q_p0, 0, none⟩)]) (Ml := [(q_p0, [v1, .int .i64 p0.2])]) (Zl := [row v1 98 AA p0.1]) (M := (FM b1)) (Z := []) (β := Value) (pv := fun x => .iface 89 (.agg #[.int .i64 x3.1.1, .int .i64 x3.1.2])) (MM := fun x => [(q_p0, [x, .int .i64 x3.2.2])]) (ZZ := fun x => [row x 98 AA x3.2.1]) W F S4 Aa (fun hL => (DB fRec_parse_parser_condition ih_parse_parser_condition) _ _ w q_p0 (v1) p0 _ h1 hL) fun x w F => ?_
 obtain ⟨v18, rfl⟩ : ∃ y, y = x := ⟨x, rfl⟩
 have F : Stw ⟨Y, X, w0⟩ [(q_p0, [v18, .int .i64 x3.2.2]), (b1, (CH))] [row v18 98 AA x3.2.1] w := F
 refine BW ?_
 have H := AR H
 subst H
 refine Bi W ?_
 have F := F.sub (M' := [(q_p0, [v18, .int .i64 x3.2.2])]) (Z' := [row v18 98 AA x3.2.1]) (List.Sublist.cons_cons _ (List.nil_sublist _)) (List.Sublist.refl _)
 exact ⟨(v18), Aa, F⟩
theorem TS : Has Tryd.prog 67 := ⟨fun args w => Am Tryd.func67 rfl (by decide) args w⟩
noncomputable def Bg (fRec_parse_parser_condition : ((List (Int × Int × List UInt8 × Int)) × Int) → Option ((Tr25 × ((List (Int × Int × List UInt8 × Int)) × Int)) ⊕ ((Int × Int) × ((List (Int × Int × List UInt8 × Int)) × Int)))) (p0 : (List (Int × Int × List UInt8 × Int)) × Int) : Option ((Tr25 × ((List (Int × Int × List UInt8 × Int)) × Int)) ⊕ ((Int × Int) × ((List (Int × Int × List UInt8 × Int)) × Int))) := ((BF fRec_parse_parser_condition) p0 ([97, 110, 100] : List UInt8)).bind fun x1 => B1 x1 (fun x2 => some (.inl (x2.1, x2.2))) (fun x3 => some (.inr (x3.1, x3.2)))
theorem D2 (fRec_parse_parser_condition : ((List (Int × Int × List UInt8 × Int)) × Int) → Option ((Tr25 × ((List (Int × Int × List UInt8 × Int)) × Int)) ⊕ ((Int × Int) × ((List (Int × Int × List UInt8 × Int)) × Int)))) (ih_parse_parser_condition : ∀ (Y : Nat → Prop) (X : List Nat) (w0 : World) (q_p0 : Nat) (v1 : Value) (p0 : (List (Int × Int × List UInt8 × Int)) × Int) (r : (Tr25 × ((List (Int × Int × List UInt8 × Int)) × Int)) ⊕ ((Int × Int) × ((List (Int × Int × List UInt8 × Int)) × Int))) (H : fRec_parse_parser_condition p0 = some r) (hL : Stw ⟨Y, X, w0⟩ [(q_p0, [v1, .int .i64 p0.2])] [row v1 98 AA p0.1] w0), Calls Tryd.prog 33 #[.pointer (some ⟨q_p0, 0, none⟩)] w0 fun e w' => D8 r (fun r => ∃ x : Value × Value, e = .returned (.agg #[.int .i64 r.1.un.1, .int .i64 r.1.un.2.1, .int .i64 r.1.un.2.2.1, x.1]) ∧ Stw ⟨Y, X, w0⟩ [(q_p0, [x.2, .int .i64 r.2.2])] [row (x.2) 98 AA r.2.1, A4 (x.1) A6 r.1.un.2.2.2] w') (fun r => ∃ x : Value, e = .panicked [{ v := .iface 89 (.agg #[.int .i64 r.1.1, .int .i64 r.1.2]), recovered := false }] ∧ Stw ⟨Y, X, w0⟩ [(q_p0, [x, .int .i64 r.2.2])] [row (x) 98 AA r.2.1] w')) (Y : Nat → Prop) (X : List Nat) (w0 : World) (q_p0 : Nat) (v1 : Value) (p0 : (List (Int × Int × List UInt8 × Int)) × Int) (r : (Tr25 × ((List (Int × Int × List UInt8 × Int)) × Int)) ⊕ ((Int × Int) × ((List (Int × Int × List UInt8 × Int)) × Int))) (H : Bg fRec_parse_parser_condition p0 = some r) (hL : Stw ⟨Y, X, w0⟩ [(q_p0, [v1, .int .i64 p0.2])] [row v1 98 AA p0.1] w0) :
    Calls Tryd.prog 68 #[.pointer (some ⟨q_p0, 0, none⟩)] w0 fun e w' => D8 r (fun r => ∃ x : Value × Value, e = .returned (.agg #[.int .i64 r.1.un.1, .int .i64 r.1.un.2.1, .int .i64 r.1.un.2.2.1, x.1]) ∧ Stw ⟨Y, X, w0⟩ [(q_p0, [x.2, .int .i64 r.2.2])] [row (x.2) 98 AA r.2.1, A4 (x.1) A6 r.1.un.2.2.2] w') (fun r => ∃ x : Value, e = .panicked [{ v := .iface 89 (.agg #[.int .i64 r.1.1, .int .i64 r.1.2]), recovered := false }] ∧ Stw ⟨Y, X, w0⟩ [(q_p0, [x, .int .i64 r.2.2])] [row (x) 98 AA r.2.1] w') := by
 refine enter Tryd.func68 Aa Tryd.ntmps68 Aa fun a W => ?_
 have F := hL
 unfold Bg at H
 refine Ah (Ab ?_)
 refine BA (cs := (CH)) W F Aa Ny Aa fun b1 a w W F => ?_
 refine Ae (Ac (Ah (Ab ?_)))
 iterate 2 refine ls W F Aa (Ai W Aa).q fun a w W F => ?_
 refine ls W F Aa (G0 (us := [.pointer (some ⟨q_p0, 0, none⟩)]) (vs := []) W Aa Aa).q fun a w W F => ?_
 obtain ⟨x1, h1, H⟩ := Aq H
 rcases x1 with x2 | x3
 ·
  have H := EZ H
  have F := F.frontM (i := 1) Aa Aa
  refine Bp (Ml := [(q_p0, [v1, .int .i64 p0.2])]) (Zl := [row v1 98 AA p0.1]) (M := (FM b1)) (Z := []) (β := Value × Value) (rv := fun x => .agg #[.int .i64 x2.1.un.1, .int .i64 x2.1.un.2.1, .int .i64 x2.1.un.2.2.1, x.1]) (MM := fun x => [(q_p0, [x.2, .int .i64 x2.2.2])]) (ZZ := fun x => [row x.2 98 AA x2.2.1, A4 x.1 A6 x2.1.un.2.2.2]) W F TS Aa Aa (fun hL => (E2 fRec_parse_parser_condition ih_parse_parser_condition) _ _ w q_p0 (v1) p0 ([97, 110, 100] : List UInt8) _ h1 hL) fun x a w W F => ?_
  obtain ⟨v2, v3⟩ := x
  have F : Stw ⟨Y, X, w0⟩ [(q_p0, [v3, .int .i64 x2.2.2]), (b1, (CH))] [row v3 98 AA x2.2.1, A4 v2 A6 x2.1.un.2.2.2] w := F
  refine AP (vs := (F1 x2 v2)) (M' := [(q_p0, [v3, .int .i64 x2.2.2]), (b1, (F1 x2 v2))]) 1 W F Aa Aa Aa ER Aa Aa Aa (Af Aa (Af Aa (Af Aa (Af (F.oneF (k := 1) Aa) BC)))) Aa fun w F => ?_
  refine Ae (Ac (Au ?_))
  have H := AR H
  subst H
  refine AO (.inl Aa) W F Aa (BD 1 W Aa Aa ER Aa) ?_
  have F := F.frontZ (i := 1) Aa Aa
  have F := F.frontZ (i := 1) Aa Aa
  have F := F.sub (M' := [(q_p0, [v3, .int .i64 x2.2.2])]) (Z' := [row v3 98 AA x2.2.1, A4 v2 A6 x2.1.un.2.2.2]) (List.Sublist.cons_cons _ (List.nil_sublist _)) (List.Sublist.refl _)
  exact ⟨((v2), (v3)), Aa, F⟩
 have H := EW H
 have F := F.frontM (i := 1) Aa Aa
 refine Cj (Ml := [(q_p0, [v1, .int .i64 p0.2])]) (Zl := [row v1 98 AA p0.1]) (M := (FM b1)) (Z := []) (β := Value) (pv := fun x => .iface 89 (.agg #[.int .i64 x3.1.1, .int .i64 x3.1.2])) (MM := fun x => [(q_p0, [x, .int .i64 x3.2.2])]) (ZZ := fun x => [row x 98 AA x3.2.1]) W F TS Aa (fun hL => (E2 fRec_parse_parser_condition ih_parse_parser_condition) _ _ w q_p0 (v1) p0 ([97, 110, 100] : List UInt8) _ h1 hL) fun x w F => ?_
 obtain ⟨v4, rfl⟩ : ∃ y, y = x := ⟨x, rfl⟩
 have F : Stw ⟨Y, X, w0⟩ [(q_p0, [v4, .int .i64 x3.2.2]), (b1, (CH))] [row v4 98 AA x3.2.1] w := F
 refine BW ?_
 have H := AR H
 subst H
 refine Bi W ?_
 have F := F.sub (M' := [(q_p0, [v4, .int .i64 x3.2.2])]) (Z' := [row v4 98 AA x3.2.1]) (List.Sublist.cons_cons _ (List.nil_sublist _)) (List.Sublist.refl _)
 exact ⟨(v4), Aa, F⟩
theorem TN : Has Tryd.prog 68 := ⟨fun args w => Am Tryd.func68 rfl (by decide) args w⟩
def CM (p0 : List Tr25) : Tr25 := Tr25.of (6, 0, 0, p0)
theorem O5 (Y : Nat → Prop) (w0 : World) (v1 : Value) (p0 : List Tr25) (r : Tr25) (H : CM p0 = r) (s_v1 : Sl w0 Y A6 v1 p0) :
    Calls Tryd.prog 69 #[v1] w0 fun e w' => ∃ x : Value, e = .returned (.agg #[.int .i64 r.un.1, .int .i64 r.un.2.1, .int .i64 r.un.2.2.1, x]) ∧ Stw ⟨Y, [], w0⟩ [] [A4 (x) A6 r.un.2.2.2] w' := by
 refine enter Tryd.func69 Aa Tryd.ntmps69 Aa fun a W => ?_
 have F := Stw.start Y w0
 obtain ⟨v2, h1, s_v1⟩ := s_v1.ex CF
 have h_v1 := F.nx s_v1
 unfold CM at H
 refine Ah (Ab ?_)
 refine BA (cs := (CH)) W F Aa Ny Aa fun b1 a w W F => ?_
 refine Ae (Ac (Ah (Ab ?_)))
 refine ls W F Aa (Ai W Aa).q fun a w W F => ?_
 refine ls W F Aa (Cx (v := Value.agg #[.int .i64 6, .int .i64 0, .int .i64 0, v1]) Ry W Aa (BQ Aa Aa Aa (BQ Aa (FU h_v1.one) Aa CX)) Aa).q fun a w W F => ?_
 refine AP (vs := [.int .i64 6, .int .i64 0, .int .i64 0, v1]) (M' := [(b1, [.int .i64 6, .int .i64 0, .int .i64 0, v1])]) 0 W F Aa Aa Aa ER Aa Aa Aa (Af Aa (Af Aa (Af Aa (Af h_v1.one BC)))) Aa fun w F => ?_
 refine Ae (Ac (Au ?_))
 subst H
 refine AO (.inl Aa) W F Aa (BD 0 W Aa Aa ER Aa) ?_
 have F := F.note (Sl.hide CF h1 (F.old s_v1))
 have F := F.sub (M' := []) (Z' := [A4 v1 A6 p0]) (List.nil_sublist _) (List.Sublist.refl _)
 exact ⟨(v1), Aa, F⟩
theorem UJ : Has Tryd.prog 69 := ⟨fun args w => Am Tryd.func69 rfl (by decide) args w⟩
abbrev R8 (a0 : List Tr25) (a1 : Value) : List Value := [.int .i64 ((CM a0).un.1), .int .i64 ((CM a0).un.2.1), .int .i64 ((CM a0).un.2.2.1), a1]
noncomputable def Bj (fRec_parse_parser_condition : ((List (Int × Int × List UInt8 × Int)) × Int) → Option ((Tr25 × ((List (Int × Int × List UInt8 × Int)) × Int)) ⊕ ((Int × Int) × ((List (Int × Int × List UInt8 × Int)) × Int)))) (p1 : List UInt8) : (List Tr25 × (List (Int × Int × List UInt8 × Int)) × Int) → Option ((List Tr25 × (List (Int × Int × List UInt8 × Int)) × Int) ⊕ ((List Tr25 × (List (Int × Int × List UInt8 × Int)) × Int) ⊕ ((Tr25 × ((List (Int × Int × List UInt8 × Int)) × Int)) ⊕ ((Int × Int) × ((List (Int × Int × List UInt8 × Int)) × Int)))))
  | (x7, x8, x9) => (As (x8, x9) p1).bind fun x10 => (if x10.1 = true then ((Bg fRec_parse_parser_condition) x10.2).bind fun x11 => B1 x11 (fun x12 => (D0 x7 ([x12.1] : List Tr25)).bind fun x14 => some (.inl (x14, x12.2.1, x12.2.2))) (fun x13 => some (.inr (.inr (.inr (x13.1, x13.2))))) else some (.inr (.inl (x7, x10.2.1, x10.2.2))))
noncomputable def BH (fRec_parse_parser_condition : ((List (Int × Int × List UInt8 × Int)) × Int) → Option ((Tr25 × ((List (Int × Int × List UInt8 × Int)) × Int)) ⊕ ((Int × Int) × ((List (Int × Int × List UInt8 × Int)) × Int)))) (p0 : (List (Int × Int × List UInt8 × Int)) × Int) (p1 : List UInt8) : Option ((Tr25 × ((List (Int × Int × List UInt8 × Int)) × Int)) ⊕ ((Int × Int) × ((List (Int × Int × List UInt8 × Int)) × Int))) := ((Bg fRec_parse_parser_condition) p0).bind fun x1 => B1 x1 (fun x2 => HX (Bo (Bj fRec_parse_parser_condition p1) (([x2.1] : List Tr25), x2.2.1, x2.2.2)) fun (x4, x5, x6) => (if (x4.length : Int) = 1 then (ix x4 0).bind fun x15 => some (.inl (x15, (x5, x6))) else some (.inl (Tr25.of ((CM x4).un.1, (CM x4).un.2.1, (CM x4).un.2.2.1, (CM x4).un.2.2.2), (x5, x6))))) (fun x3 => some (.inr (x3.1, x3.2)))
theorem FI (fRec_parse_parser_condition : ((List (Int × Int × List UInt8 × Int)) × Int) → Option ((Tr25 × ((List (Int × Int × List UInt8 × Int)) × Int)) ⊕ ((Int × Int) × ((List (Int × Int × List UInt8 × Int)) × Int)))) (ih_parse_parser_condition : ∀ (Y : Nat → Prop) (X : List Nat) (w0 : World) (q_p0 : Nat) (v1 : Value) (p0 : (List (Int × Int × List UInt8 × Int)) × Int) (r : (Tr25 × ((List (Int × Int × List UInt8 × Int)) × Int)) ⊕ ((Int × Int) × ((List (Int × Int × List UInt8 × Int)) × Int))) (H : fRec_parse_parser_condition p0 = some r) (hL : Stw ⟨Y, X, w0⟩ [(q_p0, [v1, .int .i64 p0.2])] [row v1 98 AA p0.1] w0), Calls Tryd.prog 33 #[.pointer (some ⟨q_p0, 0, none⟩)] w0 fun e w' => D8 r (fun r => ∃ x : Value × Value, e = .returned (.agg #[.int .i64 r.1.un.1, .int .i64 r.1.un.2.1, .int .i64 r.1.un.2.2.1, x.1]) ∧ Stw ⟨Y, X, w0⟩ [(q_p0, [x.2, .int .i64 r.2.2])] [row (x.2) 98 AA r.2.1, A4 (x.1) A6 r.1.un.2.2.2] w') (fun r => ∃ x : Value, e = .panicked [{ v := .iface 89 (.agg #[.int .i64 r.1.1, .int .i64 r.1.2]), recovered := false }] ∧ Stw ⟨Y, X, w0⟩ [(q_p0, [x, .int .i64 r.2.2])] [row (x) 98 AA r.2.1] w')) (Y : Nat → Prop) (X : List Nat) (w0 : World) (q_p0 : Nat) (v1 : Value) (p0 : (List (Int × Int × List UInt8 × Int)) × Int) (p1 : List UInt8) (r : (Tr25 × ((List (Int × Int × List UInt8 × Int)) × Int)) ⊕ ((Int × Int) × ((List (Int × Int × List UInt8 × Int)) × Int))) (H : BH fRec_parse_parser_condition p0 p1 = some r) (hL : Stw ⟨Y, X, w0⟩ [(q_p0, [v1, .int .i64 p0.2])] [row v1 98 AA p0.1] w0) :
    Calls Tryd.prog 67 #[.pointer (some ⟨q_p0, 0, none⟩), .string (bs p1), .func (.func 68) #[.pointer (some ⟨q_p0, 0, none⟩)] #[], .func (.func 69) #[] #[]] w0 fun e w' => D8 r (fun r => ∃ x : Value × Value, e = .returned (.agg #[.int .i64 r.1.un.1, .int .i64 r.1.un.2.1, .int .i64 r.1.un.2.2.1, x.1]) ∧ Stw ⟨Y, X, w0⟩ [(q_p0, [x.2, .int .i64 r.2.2])] [row (x.2) 98 AA r.2.1, A4 (x.1) A6 r.1.un.2.2.2] w') (fun r => ∃ x : Value, e = .panicked [{ v := .iface 89 (.agg #[.int .i64 r.1.1, .int .i64 r.1.2]), recovered := false }] ∧ Stw ⟨Y, X, w0⟩ [(q_p0, [x, .int .i64 r.2.2])] [row (x) 98 AA r.2.1] w') := by
 refine enter Tryd.func67 Aa Tryd.ntmps67 Aa fun a W => ?_
 have F := hL
 unfold BH at H
 refine Ah (Ab ?_)
 refine BA (cs := (CH)) W F Aa Ny Aa fun b1 a w W F => ?_
 refine Ae (Ac (Ah (Ab ?_)))
 refine ls W F Aa (Ai W Aa).q fun a w W F => ?_
 obtain ⟨x1, h1, H⟩ := Aq H
 rcases x1 with x2 | x3
 ·
  have H := EZ H
  have F := F.frontM (i := 1) Aa Aa
  refine Eu (ws := [.pointer (some ⟨q_p0, 0, none⟩)]) (Ml := [(q_p0, [v1, .int .i64 p0.2])]) (Zl := [row v1 98 AA p0.1]) (M := (FM b1)) (Z := []) (β := Value × Value) (rv := fun x => .agg #[.int .i64 x2.1.un.1, .int .i64 x2.1.un.2.1, .int .i64 x2.1.un.2.2.1, x.1]) (MM := fun x => [(q_p0, [x.2, .int .i64 x2.2.2])]) (ZZ := fun x => [row x.2 98 AA x2.2.1, A4 x.1 A6 x2.1.un.2.2.2]) W F TN Aa Aa (fun hL => (D2 fRec_parse_parser_condition ih_parse_parser_condition) _ _ w q_p0 (v1) p0 _ h1 hL) fun x a w W F => ?_
  obtain ⟨v2, v3⟩ := x
  have F : Stw ⟨Y, X, w0⟩ [(q_p0, [v3, .int .i64 x2.2.2]), (b1, (CH))] [row v3 98 AA x2.2.1, A4 v2 A6 x2.1.un.2.2.2] w := F
  refine Hi (z := Value.agg #[.int .i64 0, .int .i64 0, .int .i64 0, .slice none 0 0]) (cs := (F1 x2 v2)) A6 ([x2.1] : List Tr25) W F Aa Pi Ny Aa Aa Aa (BQ Aa Aa Aa CX) Aa Aa ⟨[Value.int .i64 x2.1.un.1, Value.int .i64 x2.1.un.2.1, Value.int .i64 x2.1.un.2.2.1, v2], _, Aa, (Mh.2 ⟨[Value.int .i64 x2.1.un.1], [Value.int .i64 x2.1.un.2.1, Value.int .i64 x2.1.un.2.2.1, v2], Aa, Aa, ⟨[Value.int .i64 x2.1.un.2.1], [Value.int .i64 x2.1.un.2.2.1, v2], Aa, Aa, ⟨[Value.int .i64 x2.1.un.2.2.1], [v2], Aa, Aa, ⟨_, Aa, (F.item (i := 1) Aa)⟩⟩⟩⟩), Aa⟩ fun v4 a w W F => ?_
  refine ls W F Aa (Ag W Aa).q fun a w W F => ?_
  refine Ae (Ac ?_)
  obtain ⟨o1, G1, K1, L1⟩ := Qb H
  refine BK (fun a w => ∃ x4 : List Tr25, ∃ x5 : List (Int × Int × List UInt8 × Int), ∃ x6 : Int, ∃ v5 : Value, ∃ v6 : Value, some (Sum.inl (x4, x5, x6)) = some o1 ∧ Fr 30 [] [(3, .func (.func 69) #[] #[]), (8, .pointer (some ⟨b1, 0, none⟩)), (9, v5)] a ∧ Stw ⟨Y, X, w0⟩ [(q_p0, [v6, .int .i64 x6]), (b1, (CH))] [row v5 25 A6 x4, row v6 98 AA x5] w) ?_ ?_
  ·
   have H := G1
   clear G1 K1
   refine Bb ?_
   have F := F.frontZ (i := 1) Aa Aa
   have F := F.frontZ (i := 1) Aa Aa
   have F := F.frontM (i := 1) Aa Aa
   have F := F.frontM (i := 1) Aa Aa
   have F := F.sub (M' := [(q_p0, [v3, .int .i64 x2.2.2]), (b1, (CH))]) (Z' := [row v4 25 A6 ([x2.1] : List Tr25), row v3 98 AA x2.2.1]) (List.Sublist.refl _) (List.Sublist.cons_cons _ (List.Sublist.cons_cons _ (List.nil_sublist _)))
   refine Dl H (fun s a w => ∃ v7 : Value, ∃ v8 : Value, Fr 30 [] [(0, .pointer (some ⟨q_p0, 0, none⟩)), (1, .string (bs p1)), (2, .func (.func 68) #[.pointer (some ⟨q_p0, 0, none⟩)] #[]), (3, .func (.func 69) #[] #[]), (8, .pointer (some ⟨b1, 0, none⟩)), (9, v7)] a ∧ Stw ⟨Y, X, w0⟩ [(q_p0, [v8, .int .i64 s.2.2]), (b1, (CH))] [row v7 25 A6 s.1, row v8 98 AA s.2.1] w) ⟨(v4), (v3), W.re ⟨rfl, Aa, Aa, Aa, Aa, Aa, trivial⟩, F⟩ fun s o a w H L2 hR => ?_
   obtain ⟨x7, x8, x9⟩ := s
   obtain ⟨v7, v8, W, F⟩ := hR
   have W : Fr 30 [] [(0, .pointer (some ⟨q_p0, 0, none⟩)), (1, .string (bs p1)), (2, .func (.func 68) #[.pointer (some ⟨q_p0, 0, none⟩)] #[]), (3, .func (.func 69) #[] #[]), (8, .pointer (some ⟨b1, 0, none⟩)), (9, v7)] a := W
   have F : Stw ⟨Y, X, w0⟩ [(q_p0, [v8, .int .i64 x9]), (b1, (CH))] [row v7 25 A6 x7, row v8 98 AA x8] w := F
   rw [Bj] at H
   refine Ah (Ah (Ab ?_))
   iterate 2 refine ls W F Aa (Ai W Aa).q fun a w W F => ?_
   obtain ⟨x10, h2, H⟩ := Aq H
   have F := F.frontZ (i := 1) Aa Aa
   refine Bp (Ml := [(q_p0, [v8, .int .i64 x9])]) (Zl := [row v8 98 AA x8]) (M := (FM b1)) (Z := [row v7 25 A6 x7]) (β := Value) (rv := fun x => .bool x10.1) (MM := fun x => [(q_p0, [x, .int .i64 x10.2.2])]) (ZZ := fun x => [row x 98 AA x10.2.1]) W F PH Aa Aa (fun hL => Bl _ _ w q_p0 (v8) (x8, x9) p1 _ h2 hL) fun x a w W F => ?_
   obtain ⟨v9, rfl⟩ : ∃ y, y = x := ⟨x, rfl⟩
   have F : Stw ⟨Y, X, w0⟩ [(q_p0, [v9, .int .i64 x10.2.2]), (b1, (CH))] [row v9 98 AA x10.2.1, row v7 25 A6 x7] w := F
   refine Ae (Ac ?_)
   refine AC W Aa (fun hb => ?_) fun hb => ?_
   ·
    have H := Ba hb H
    rw [hb] at W
    clear hb
    refine AM (Ac (Bb (Ab ?_)))
    iterate 2 refine ls W F Aa (Ai W Aa).q fun a w W F => ?_
    obtain ⟨x11, h3, H⟩ := Aq H
    rcases x11 with x12 | x13
    ·
     have H := EZ H
     refine Eu (ws := [.pointer (some ⟨q_p0, 0, none⟩)]) (Ml := [(q_p0, [v9, .int .i64 x10.2.2])]) (Zl := [row v9 98 AA x10.2.1]) (M := (FM b1)) (Z := [row v7 25 A6 x7]) (β := Value × Value) (rv := fun x => .agg #[.int .i64 x12.1.un.1, .int .i64 x12.1.un.2.1, .int .i64 x12.1.un.2.2.1, x.1]) (MM := fun x => [(q_p0, [x.2, .int .i64 x12.2.2])]) (ZZ := fun x => [row x.2 98 AA x12.2.1, A4 x.1 A6 x12.1.un.2.2.2]) W F TN Aa Aa (fun hL => (D2 fRec_parse_parser_condition ih_parse_parser_condition) _ _ w q_p0 (v9) x10.2 _ h3 hL) fun x a w W F => ?_
     obtain ⟨v10, v11⟩ := x
     have F : Stw ⟨Y, X, w0⟩ [(q_p0, [v11, .int .i64 x12.2.2]), (b1, (CH))] [row v11 98 AA x12.2.1, A4 v10 A6 x12.1.un.2.2.2, row v7 25 A6 x7] w := F
     refine Hi (z := Value.agg #[.int .i64 0, .int .i64 0, .int .i64 0, .slice none 0 0]) (cs := (F1 x12 v10)) A6 ([x12.1] : List Tr25) W F Aa Pi Ny Aa Aa Aa (BQ Aa Aa Aa CX) Aa Aa ⟨[Value.int .i64 x12.1.un.1, Value.int .i64 x12.1.un.2.1, Value.int .i64 x12.1.un.2.2.1, v10], _, Aa, (Mh.2 ⟨[Value.int .i64 x12.1.un.1], [Value.int .i64 x12.1.un.2.1, Value.int .i64 x12.1.un.2.2.1, v10], Aa, Aa, ⟨[Value.int .i64 x12.1.un.2.1], [Value.int .i64 x12.1.un.2.2.1, v10], Aa, Aa, ⟨[Value.int .i64 x12.1.un.2.2.1], [v10], Aa, Aa, ⟨_, Aa, (F.item (i := 1) Aa)⟩⟩⟩⟩), Aa⟩ fun v12 a w W F => ?_
     obtain ⟨x14, h4, H⟩ := Aq H
     refine Gd (r := A6) (i := 3) W F Aa Pi Aa Aa Aa Aa (Hh F 0 Aa) h4 Aa fun v13 a w W F => ?_
     have F : Stw ⟨Y, X, w0⟩ [(q_p0, [v11, .int .i64 x12.2.2]), (b1, (CH))] [row v13 25 A6 x14, row v12 25 A6 ([x12.1] : List Tr25), row v11 98 AA x12.2.1, A4 v10 A6 x12.1.un.2.2.2] w := F
     refine ls W F Aa (Ag W Aa).q fun a w W F => ?_
     refine Ae (BI (Ac ?_))
     have F := F.frontZ (i := 2) Aa Aa
     have F := F.frontZ (i := 1) Aa Aa
     have F := F.frontM (i := 1) Aa Aa
     have F := F.frontM (i := 1) Aa Aa
     have F := F.sub (M' := [(q_p0, [v11, .int .i64 x12.2.2]), (b1, (CH))]) (Z' := [row v13 25 A6 x14, row v11 98 AA x12.2.1]) (List.Sublist.refl _) (List.Sublist.cons_cons _ (List.Sublist.cons_cons _ (List.nil_sublist _)))
     exact ⟨_, H, (v13), (v11), W.re ⟨rfl, Aa, Aa, Aa, Aa, Aa, trivial⟩, F⟩
    have H := EW H
    refine Gl (ws := [.pointer (some ⟨q_p0, 0, none⟩)]) (Ml := [(q_p0, [v9, .int .i64 x10.2.2])]) (Zl := [row v9 98 AA x10.2.1]) (M := (FM b1)) (Z := [row v7 25 A6 x7]) (β := Value) (pv := fun x => .iface 89 (.agg #[.int .i64 x13.1.1, .int .i64 x13.1.2])) (MM := fun x => [(q_p0, [x, .int .i64 x13.2.2])]) (ZZ := fun x => [row x 98 AA x13.2.1]) W F TN Aa (fun hL => (D2 fRec_parse_parser_condition ih_parse_parser_condition) _ _ w q_p0 (v9) x10.2 _ h3 hL) fun x w F => ?_
    obtain ⟨v14, rfl⟩ : ∃ y, y = x := ⟨x, rfl⟩
    have F : Stw ⟨Y, X, w0⟩ [(q_p0, [v14, .int .i64 x13.2.2]), (b1, (CH))] [row v14 98 AA x13.2.1, row v7 25 A6 x7] w := F
    refine Ep (BW (Ep (BW ?_)))
    have H := L2 _ H
    have H := L1 _ H
    have H := AR H
    subst H
    refine Bi W ?_
    have F := F.sub (M' := [(q_p0, [v14, .int .i64 x13.2.2])]) (Z' := [row v14 98 AA x13.2.1]) (List.Sublist.cons_cons _ (List.nil_sublist _)) (List.Sublist.cons_cons _ (List.nil_sublist _))
    exact ⟨(v14), Aa, F⟩
   have H := Bc (by rw [hb]; decide) H
   rw [hb] at W
   clear hb
   refine Do ?_
   iterate 2 refine Er ?_
   refine Dk (Ac ?_)
   have F := F.frontZ (i := 1) Aa Aa
   have F := F.frontM (i := 1) Aa Aa
   have F := F.frontM (i := 1) Aa Aa
   have H := L2 _ H
   exact ⟨_, _, _, (v7), (v9), H, W.re ⟨rfl, Aa, Aa, trivial⟩, F⟩
  rintro a w ⟨x4, x5, x6, v5, v6, hj, W, F⟩
  have H := K1 _ hj
  clear hj G1 K1 L1
  refine Ah (Ah (Ab ?_))
  refine ls W F Aa (Ai W Aa).q fun a w W F => ?_
  refine ls W F Aa (DC (r := A6) (l := x4) J7 Aa W Aa (CB 0 Aa)).q fun a w W F => ?_
  refine ls W F Aa (Bw W Aa Aa).q fun a w W F => ?_
  refine Ae (Ac ?_)
  refine AC W Aa (fun hb => ?_) fun hb => ?_
  ·
   have H := Ba (BM hb) H
   rw [hb] at W
   clear hb
   refine Ah ?_
   obtain ⟨v15, h5, F⟩ := F.exR CF
   refine Ab ?_
   refine ls W F Aa (Ai W Aa).q fun a w W F => ?_
   obtain ⟨x15, h6, H⟩ := Aq H
   obtain ⟨v16, h7, h8⟩ := Gy h5 h6
   have h9 : JE v16 = [.int .i64 x15.un.1, .int .i64 x15.un.2.1, .int .i64 x15.un.2.2.1, (v16.2.2.2.1)] := congrArg (fun q : Tr25 => ([.int .i64 q.un.1, .int .i64 q.un.2.1, .int .i64 q.un.2.2.1, (v16.2.2.2.1)] : List Value)) h8
   refine ls W F Aa (DS (r := MJ) Pi W Aa Aa (CB 0 Aa) h7).q fun a w W F => ?_
   refine ls W F Aa (CG (y := Value.agg #[.int .i64 x15.un.1, .int .i64 x15.un.2.1, .int .i64 x15.un.2.2.1, (v16.2.2.2.1)]) (j := 0) (i := 0) (enc := JE) W Aa Aa (CB 0 Aa) h7 ON ER (by rw [h9]; rfl)).q fun a w W F => ?_
   have F := F.note (F.rowAt (k := 0) Aa h7 (AE.snd (AE.snd (AE.snd AE.here))) (congrArg (fun q : Tr25 => q.un.2.2.2) h8))
   refine AP (vs := [.int .i64 x15.un.1, .int .i64 x15.un.2.1, .int .i64 x15.un.2.2.1, (v16.2.2.2.1)]) (M' := [(q_p0, [v6, .int .i64 x6]), (b1, [.int .i64 x15.un.1, .int .i64 x15.un.2.1, .int .i64 x15.un.2.2.1, (v16.2.2.2.1)])]) 1 W F Aa Aa Aa ER Aa Aa Aa (Af Aa (Af Aa (Af Aa (Af (F.oneF (k := 0) Aa) BC)))) Aa fun w F => ?_
   refine Ae (Ac (Au (AV ?_)))
   have H := AR H
   subst H
   refine AO (.inl Aa) W F Aa (BD 1 W Aa Aa ER Aa) ?_
   have F := F.frontZ (i := 2) Aa Aa
   have F := F.sub (M' := [(q_p0, [v6, .int .i64 x6])]) (Z' := [row v6 98 AA x5, A4 (v16.2.2.2.1) A6 x15.un.2.2.2]) (List.Sublist.cons_cons _ (List.nil_sublist _)) (List.Sublist.cons_cons _ (List.Sublist.cons_cons _ (List.nil_sublist _)))
   exact ⟨(((v16.2.2.2.1)), (v6)), Aa, F⟩
  have H := Bc (BL hb) H
  rw [hb] at W
  clear hb
  refine AM (Ac (Ah (Ab ?_)))
  iterate 2 refine ls W F Aa (Ai W Aa).q fun a w W F => ?_
  have F := F.freeze
  refine Eu (ws := [v5]) (Ml := []) (Zl := []) (M := [(q_p0, [v6, .int .i64 x6]), (b1, (CH))]) (Z := [A4 v5 A6 x4, row v6 98 AA x5]) (β := Value) (rv := fun x => .agg #[.int .i64 ((CM x4).un.1), .int .i64 ((CM x4).un.2.1), .int .i64 ((CM x4).un.2.2.1), x]) (MM := fun x => []) (ZZ := fun x => [A4 x A6 ((CM x4).un.2.2.2)]) W F UJ Aa Aa (fun hL => O5 _ w (v5) x4 _ Aa (F.item (i := 0) Aa)) fun x a w W F => ?_
  obtain ⟨v17, rfl⟩ : ∃ y, y = x := ⟨x, rfl⟩
  have F : Stw ⟨Y, X, w0⟩ [(q_p0, [v6, .int .i64 x6]), (b1, (CH))] [A4 v17 A6 ((CM x4).un.2.2.2), A4 v5 A6 x4, row v6 98 AA x5] w := F
  refine AP (vs := (R8 x4 v17)) (M' := [(q_p0, [v6, .int .i64 x6]), (b1, (R8 x4 v17))]) 1 W F Aa Aa Aa ER Aa Aa Aa (Af Aa (Af Aa (Af Aa (Af (F.oneF (k := 0) Aa) BC)))) Aa fun w F => ?_
  refine Ae (Ac (Au ?_))
  have H := AR H
  subst H
  refine AO (.inl Aa) W F Aa (BD 1 W Aa Aa ER Aa) ?_
  have F := F.frontZ (i := 2) Aa Aa
  have F := F.sub (M' := [(q_p0, [v6, .int .i64 x6])]) (Z' := [row v6 98 AA x5, A4 v17 A6 ((CM x4).un.2.2.2)]) (List.Sublist.cons_cons _ (List.nil_sublist _)) (List.Sublist.cons_cons _ (List.Sublist.cons_cons _ (List.nil_sublist _)))
  exact ⟨((v17), (v6)), Aa, F⟩
 have H := EW H
 have F := F.frontM (i := 1) Aa Aa
 refine Gl (ws := [.pointer (some ⟨q_p0, 0, none⟩)]) (Ml := [(q_p0, [v1, .int .i64 p0.2])]) (Zl := [row v1 98 AA p0.1]) (M := (FM b1)) (Z := []) (β := Value) (pv := fun x => .iface 89 (.agg #[.int .i64 x3.1.1, .int .i64 x3.1.2])) (MM := fun x => [(q_p0, [x, .int .i64 x3.2.2])]) (ZZ := fun x => [row x 98 AA x3.2.1]) W F TN Aa (fun hL => (D2 fRec_parse_parser_condition ih_parse_parser_condition) _ _ w q_p0 (v1) p0 _ h1 hL) fun x w F => ?_
 obtain ⟨v18, rfl⟩ : ∃ y, y = x := ⟨x, rfl⟩
 have F : Stw ⟨Y, X, w0⟩ [(q_p0, [v18, .int .i64 x3.2.2]), (b1, (CH))] [row v18 98 AA x3.2.1] w := F
 refine BW ?_
 have H := AR H
 subst H
 refine Bi W ?_
 have F := F.sub (M' := [(q_p0, [v18, .int .i64 x3.2.2])]) (Z' := [row v18 98 AA x3.2.1]) (List.Sublist.cons_cons _ (List.nil_sublist _)) (List.Sublist.refl _)
 exact ⟨(v18), Aa, F⟩
noncomputable def AU (fRec : ((List (Int × Int × List UInt8 × Int)) × Int) → Option ((Tr25 × ((List (Int × Int × List UInt8 × Int)) × Int)) ⊕ ((Int × Int) × ((List (Int × Int × List UInt8 × Int)) × Int)))) (p0 : (List (Int × Int × List UInt8 × Int)) × Int) : Option ((Tr25 × ((List (Int × Int × List UInt8 × Int)) × Int)) ⊕ ((Int × Int) × ((List (Int × Int × List UInt8 × Int)) × Int))) := ((BH fRec) p0 ([111, 114] : List UInt8)).bind fun x1 => B1 x1 (fun x2 => some (.inl (x2.1, x2.2))) (fun x3 => some (.inr (x3.1, x3.2)))
noncomputable def Ap : Nat → ((List (Int × Int × List UInt8 × Int)) × Int) → Option ((Tr25 × ((List (Int × Int × List UInt8 × Int)) × Int)) ⊕ ((Int × Int) × ((List (Int × Int × List UInt8 × Int)) × Int)))
  | 0 => fun _ => none
  | n + 1 => AU (Ap n)
noncomputable def Ce (p0 : (List (Int × Int × List UInt8 × Int)) × Int) : Option ((Tr25 × ((List (Int × Int × List UInt8 × Int)) × Int)) ⊕ ((Int × Int) × ((List (Int × Int × List UInt8 × Int)) × Int))) := Ge fun n => Ap n p0
theorem GK (fRec : ((List (Int × Int × List UInt8 × Int)) × Int) → Option ((Tr25 × ((List (Int × Int × List UInt8 × Int)) × Int)) ⊕ ((Int × Int) × ((List (Int × Int × List UInt8 × Int)) × Int)))) (ih : ∀ (Y : Nat → Prop) (X : List Nat) (w0 : World) (q_p0 : Nat) (v1 : Value) (p0 : (List (Int × Int × List UInt8 × Int)) × Int) (r : (Tr25 × ((List (Int × Int × List UInt8 × Int)) × Int)) ⊕ ((Int × Int) × ((List (Int × Int × List UInt8 × Int)) × Int))) (H : fRec p0 = some r) (hL : Stw ⟨Y, X, w0⟩ [(q_p0, [v1, .int .i64 p0.2])] [row v1 98 AA p0.1] w0), Calls Tryd.prog 33 #[.pointer (some ⟨q_p0, 0, none⟩)] w0 fun e w' => D8 r (fun r => ∃ x : Value × Value, e = .returned (.agg #[.int .i64 r.1.un.1, .int .i64 r.1.un.2.1, .int .i64 r.1.un.2.2.1, x.1]) ∧ Stw ⟨Y, X, w0⟩ [(q_p0, [x.2, .int .i64 r.2.2])] [row (x.2) 98 AA r.2.1, A4 (x.1) A6 r.1.un.2.2.2] w') (fun r => ∃ x : Value, e = .panicked [{ v := .iface 89 (.agg #[.int .i64 r.1.1, .int .i64 r.1.2]), recovered := false }] ∧ Stw ⟨Y, X, w0⟩ [(q_p0, [x, .int .i64 r.2.2])] [row (x) 98 AA r.2.1] w')) (Y : Nat → Prop) (X : List Nat) (w0 : World) (q_p0 : Nat) (v1 : Value) (p0 : (List (Int × Int × List UInt8 × Int)) × Int) (r : (Tr25 × ((List (Int × Int × List UInt8 × Int)) × Int)) ⊕ ((Int × Int) × ((List (Int × Int × List UInt8 × Int)) × Int))) (H : AU fRec p0 = some r) (hL : Stw ⟨Y, X, w0⟩ [(q_p0, [v1, .int .i64 p0.2])] [row v1 98 AA p0.1] w0) :
    Calls Tryd.prog 33 #[.pointer (some ⟨q_p0, 0, none⟩)] w0 fun e w' => D8 r (fun r => ∃ x : Value × Value, e = .returned (.agg #[.int .i64 r.1.un.1, .int .i64 r.1.un.2.1, .int .i64 r.1.un.2.2.1, x.1]) ∧ Stw ⟨Y, X, w0⟩ [(q_p0, [x.2, .int .i64 r.2.2])] [row (x.2) 98 AA r.2.1, A4 (x.1) A6 r.1.un.2.2.2] w') (fun r => ∃ x : Value, e = .panicked [{ v := .iface 89 (.agg #[.int .i64 r.1.1, .int .i64 r.1.2]), recovered := false }] ∧ Stw ⟨Y, X, w0⟩ [(q_p0, [x, .int .i64 r.2.2])] [row (x) 98 AA r.2.1] w') := by
 refine enter Tryd.func33 Aa Tryd.ntmps33 Aa fun a W => ?_
 have F := hL
 unfold AU at H
 refine Ah (Ab ?_)
 refine BA (cs := (CH)) W F Aa Ny Aa fun b1 a w W F => ?_
 refine Ae (Ac (Ah (Ab ?_)))
 iterate 2 refine ls W F Aa (Ai W Aa).q fun a w W F => ?_
 refine ls W F Aa (G0 (us := [.pointer (some ⟨q_p0, 0, none⟩)]) (vs := []) W Aa Aa).q fun a w W F => ?_
 obtain ⟨x1, h1, H⟩ := Aq H
 rcases x1 with x2 | x3
 ·
  have H := EZ H
  have F := F.frontM (i := 1) Aa Aa
  refine Bp (Ml := [(q_p0, [v1, .int .i64 p0.2])]) (Zl := [row v1 98 AA p0.1]) (M := (FM b1)) (Z := []) (β := Value × Value) (rv := fun x => .agg #[.int .i64 x2.1.un.1, .int .i64 x2.1.un.2.1, .int .i64 x2.1.un.2.2.1, x.1]) (MM := fun x => [(q_p0, [x.2, .int .i64 x2.2.2])]) (ZZ := fun x => [row x.2 98 AA x2.2.1, A4 x.1 A6 x2.1.un.2.2.2]) W F TS Aa Aa (fun hL => (FI fRec ih) _ _ w q_p0 (v1) p0 ([111, 114] : List UInt8) _ h1 hL) fun x a w W F => ?_
  obtain ⟨v2, v3⟩ := x
  have F : Stw ⟨Y, X, w0⟩ [(q_p0, [v3, .int .i64 x2.2.2]), (b1, (CH))] [row v3 98 AA x2.2.1, A4 v2 A6 x2.1.un.2.2.2] w := F
  refine AP (vs := (F1 x2 v2)) (M' := [(q_p0, [v3, .int .i64 x2.2.2]), (b1, (F1 x2 v2))]) 1 W F Aa Aa Aa ER Aa Aa Aa (Af Aa (Af Aa (Af Aa (Af (F.oneF (k := 1) Aa) BC)))) Aa fun w F => ?_
  refine Ae (Ac (Au ?_))
  have H := AR H
  subst H
  refine AO (.inl Aa) W F Aa (BD 1 W Aa Aa ER Aa) ?_
  have F := F.frontZ (i := 1) Aa Aa
  have F := F.frontZ (i := 1) Aa Aa
  have F := F.sub (M' := [(q_p0, [v3, .int .i64 x2.2.2])]) (Z' := [row v3 98 AA x2.2.1, A4 v2 A6 x2.1.un.2.2.2]) (List.Sublist.cons_cons _ (List.nil_sublist _)) (List.Sublist.refl _)
  exact ⟨((v2), (v3)), Aa, F⟩
 have H := EW H
 have F := F.frontM (i := 1) Aa Aa
 refine Cj (Ml := [(q_p0, [v1, .int .i64 p0.2])]) (Zl := [row v1 98 AA p0.1]) (M := (FM b1)) (Z := []) (β := Value) (pv := fun x => .iface 89 (.agg #[.int .i64 x3.1.1, .int .i64 x3.1.2])) (MM := fun x => [(q_p0, [x, .int .i64 x3.2.2])]) (ZZ := fun x => [row x 98 AA x3.2.1]) W F TS Aa (fun hL => (FI fRec ih) _ _ w q_p0 (v1) p0 ([111, 114] : List UInt8) _ h1 hL) fun x w F => ?_
 obtain ⟨v4, rfl⟩ : ∃ y, y = x := ⟨x, rfl⟩
 have F : Stw ⟨Y, X, w0⟩ [(q_p0, [v4, .int .i64 x3.2.2]), (b1, (CH))] [row v4 98 AA x3.2.1] w := F
 refine BW ?_
 have H := AR H
 subst H
 refine Bi W ?_
 have F := F.sub (M' := [(q_p0, [v4, .int .i64 x3.2.2])]) (Z' := [row v4 98 AA x3.2.1]) (List.Sublist.cons_cons _ (List.nil_sublist _)) (List.Sublist.refl _)
 exact ⟨(v4), Aa, F⟩
theorem Hf : ∀ (n : Nat) (Y : Nat → Prop) (X : List Nat) (w0 : World) (q_p0 : Nat) (v1 : Value) (p0 : (List (Int × Int × List UInt8 × Int)) × Int) (r : (Tr25 × ((List (Int × Int × List UInt8 × Int)) × Int)) ⊕ ((Int × Int) × ((List (Int × Int × List UInt8 × Int)) × Int))) (H : Ap n p0 = some r) (hL : Stw ⟨Y, X, w0⟩ [(q_p0, [v1, .int .i64 p0.2])] [row v1 98 AA p0.1] w0), Calls Tryd.prog 33 #[.pointer (some ⟨q_p0, 0, none⟩)] w0 fun e w' => D8 r (fun r => ∃ x : Value × Value, e = .returned (.agg #[.int .i64 r.1.un.1, .int .i64 r.1.un.2.1, .int .i64 r.1.un.2.2.1, x.1]) ∧ Stw ⟨Y, X, w0⟩ [(q_p0, [x.2, .int .i64 r.2.2])] [row (x.2) 98 AA r.2.1, A4 (x.1) A6 r.1.un.2.2.2] w') (fun r => ∃ x : Value, e = .panicked [{ v := .iface 89 (.agg #[.int .i64 r.1.1, .int .i64 r.1.2]), recovered := false }] ∧ Stw ⟨Y, X, w0⟩ [(q_p0, [x, .int .i64 r.2.2])] [row (x) 98 AA r.2.1] w') := by
  intro n
  induction n with
  | zero => intro Y X w0 q_p0 v1 p0 r H; exact nomatch H
  | succ n ih => intro Y X w0 q_p0 v1 p0 r H hL; exact GK (Ap n) ih Y X w0 q_p0 v1 p0 r H hL
theorem C3 (Y : Nat → Prop) (X : List Nat) (w0 : World) (q_p0 : Nat) (v1 : Value) (p0 : (List (Int × Int × List UInt8 × Int)) × Int) (r : (Tr25 × ((List (Int × Int × List UInt8 × Int)) × Int)) ⊕ ((Int × Int) × ((List (Int × Int × List UInt8 × Int)) × Int))) (H : Ce p0 = some r) (hL : Stw ⟨Y, X, w0⟩ [(q_p0, [v1, .int .i64 p0.2])] [row v1 98 AA p0.1] w0) :
    Calls Tryd.prog 33 #[.pointer (some ⟨q_p0, 0, none⟩)] w0 fun e w' => D8 r (fun r => ∃ x : Value × Value, e = .returned (.agg #[.int .i64 r.1.un.1, .int .i64 r.1.un.2.1, .int .i64 r.1.un.2.2.1, x.1]) ∧ Stw ⟨Y, X, w0⟩ [(q_p0, [x.2, .int .i64 r.2.2])] [row (x.2) 98 AA r.2.1, A4 (x.1) A6 r.1.un.2.2.2] w') (fun r => ∃ x : Value, e = .panicked [{ v := .iface 89 (.agg #[.int .i64 r.1.1, .int .i64 r.1.2]), recovered := false }] ∧ Stw ⟨Y, X, w0⟩ [(q_p0, [x, .int .i64 r.2.2])] [row (x) 98 AA r.2.1] w') := by
  obtain ⟨n, H⟩ := Cy H
  exact Hf n Y X w0 q_p0 v1 p0 r H hL
theorem IX : type_of% Tryd.underlying26 := Tryd.underlying26
theorem Sk : Has Tryd.prog 84 := ⟨fun args w => Am Tryd.func84 rfl (by decide) args w⟩
theorem OM : Et Tryd.prog 26 28 8 96 := Et.of IX (by kernel_rfl) (by kernel_rfl) (by kernel_rfl) (by decide)
abbrev Df (a0 : Nat) : List (Nat × List Value) := [(a0, [.int .i64 0, .int .i64 0, .int .i64 0, .int .i64 0, .slice none 0 0, .int .i64 0, .int .i64 0, .slice none 0 0])]
abbrev PJ (a0 : Nat) (a1 : Tr25 × ((List (Int × Int × List UInt8 × Int)) × Int)) (a2 : Value) (a3 : Nat) : List (Nat × List Value) := [(a0, [.int .i64 a1.1.un.1, .int .i64 a1.1.un.2.1, .int .i64 a1.1.un.2.2.1, a2]), (a3, [.int .i64 0, .int .i64 0, .int .i64 0, .int .i64 0, .slice none 0 0, .int .i64 0, .int .i64 0, .slice none 0 0])]
abbrev DM (a0 : Tr28 × ((List (Int × Int × List UInt8 × Int)) × Int)) (a1 : Value) (a2 : Value) : List Value := [.int .i64 a0.1.un.1, .int .i64 a0.1.un.2.1.un.1, .int .i64 a0.1.un.2.1.un.2.1, .int .i64 a0.1.un.2.1.un.2.2.1, a1, .int .i64 a0.1.un.2.2.1, .int .i64 a0.1.un.2.2.2.1, a2]
abbrev Pm (a0 : Nat) (a1 : Tr28 × ((List (Int × Int × List UInt8 × Int)) × Int)) (a2 : Value) (a3 : Value) (a4 : Nat) (a5 : Tr25 × ((List (Int × Int × List UInt8 × Int)) × Int)) (a6 : Value) (a7 : Nat) : List (Nat × List Value) := [(a0, [.int .i64 a1.1.un.1, .int .i64 a1.1.un.2.1.un.1, .int .i64 a1.1.un.2.1.un.2.1, .int .i64 a1.1.un.2.1.un.2.2.1, a2, .int .i64 a1.1.un.2.2.1, .int .i64 a1.1.un.2.2.2.1, a3]), (a4, [.int .i64 a5.1.un.1, .int .i64 a5.1.un.2.1, .int .i64 a5.1.un.2.2.1, a6]), (a7, [.int .i64 0, .int .i64 0, .int .i64 0, .int .i64 0, .slice none 0 0, .int .i64 0, .int .i64 0, .slice none 0 0])]
noncomputable def Bq (fRec_parse_parser_step : ((List (Int × Int × List UInt8 × Int)) × Int) → Option ((Tr28 × ((List (Int × Int × List UInt8 × Int)) × Int)) ⊕ ((Int × Int) × ((List (Int × Int × List UInt8 × Int)) × Int)))) (p0 : (List (Int × Int × List UInt8 × Int)) × Int) : Option ((Tr28 × ((List (Int × Int × List UInt8 × Int)) × Int)) ⊕ ((Int × Int) × ((List (Int × Int × List UInt8 × Int)) × Int))) := (Ce p0).bind fun x1 => B1 x1 (fun x2 => (Ao x2.2 ([116, 104, 101, 110] : List UInt8)).bind fun x4 => B1 x4 (fun x5 => (fRec_parse_parser_step x5).bind fun x7 => B1 x7 (fun x8 => (Ao x8.2 ([101, 108, 115, 101] : List UInt8)).bind fun x10 => B1 x10 (fun x11 => (fRec_parse_parser_step x11).bind fun x13 => B1 x13 (fun x14 => some (.inl (Tr28.of (5, x2.1, 0, 0, ([Tr28.of (x8.1.un.1, Tr25.of (x8.1.un.2.1.un.1, x8.1.un.2.1.un.2.1, x8.1.un.2.1.un.2.2.1, x8.1.un.2.1.un.2.2.2), x8.1.un.2.2.1, x8.1.un.2.2.2.1, x8.1.un.2.2.2.2), Tr28.of (x14.1.un.1, Tr25.of (x14.1.un.2.1.un.1, x14.1.un.2.1.un.2.1, x14.1.un.2.1.un.2.2.1, x14.1.un.2.1.un.2.2.2), x14.1.un.2.2.1, x14.1.un.2.2.2.1, x14.1.un.2.2.2.2)] : List Tr28)), x14.2))) (fun x15 => some (.inr (x15.1, x15.2)))) (fun x12 => some (.inr (x12.1, x12.2)))) (fun x9 => some (.inr (x9.1, x9.2)))) (fun x6 => some (.inr (x6.1, x6.2)))) (fun x3 => some (.inr (x3.1, x3.2)))
theorem FQ (fRec_parse_parser_step : ((List (Int × Int × List UInt8 × Int)) × Int) → Option ((Tr28 × ((List (Int × Int × List UInt8 × Int)) × Int)) ⊕ ((Int × Int) × ((List (Int × Int × List UInt8 × Int)) × Int)))) (ih_parse_parser_step : ∀ (Y : Nat → Prop) (X : List Nat) (w0 : World) (q_p0 : Nat) (v1 : Value) (p0 : (List (Int × Int × List UInt8 × Int)) × Int) (r : (Tr28 × ((List (Int × Int × List UInt8 × Int)) × Int)) ⊕ ((Int × Int) × ((List (Int × Int × List UInt8 × Int)) × Int))) (H : fRec_parse_parser_step p0 = some r) (hL : Stw ⟨Y, X, w0⟩ [(q_p0, [v1, .int .i64 p0.2])] [row v1 98 AA p0.1] w0), Calls Tryd.prog 84 #[.pointer (some ⟨q_p0, 0, none⟩)] w0 fun e w' => D8 r (fun r => ∃ x : Value × Value × Value, e = .returned (.agg #[.int .i64 r.1.un.1, .int .i64 r.1.un.2.1.un.1, .int .i64 r.1.un.2.1.un.2.1, .int .i64 r.1.un.2.1.un.2.2.1, x.1, .int .i64 r.1.un.2.2.1, .int .i64 r.1.un.2.2.2.1, x.2.1]) ∧ Stw ⟨Y, X, w0⟩ [(q_p0, [x.2.2, .int .i64 r.2.2])] [row (x.2.2) 98 AA r.2.1, A4 (x.1) A6 r.1.un.2.1.un.2.2.2, A4 (x.2.1) BJ r.1.un.2.2.2.2] w') (fun r => ∃ x : Value, e = .panicked [{ v := .iface 89 (.agg #[.int .i64 r.1.1, .int .i64 r.1.2]), recovered := false }] ∧ Stw ⟨Y, X, w0⟩ [(q_p0, [x, .int .i64 r.2.2])] [row (x) 98 AA r.2.1] w')) (Y : Nat → Prop) (X : List Nat) (w0 : World) (q_p0 : Nat) (v1 : Value) (p0 : (List (Int × Int × List UInt8 × Int)) × Int) (r : (Tr28 × ((List (Int × Int × List UInt8 × Int)) × Int)) ⊕ ((Int × Int) × ((List (Int × Int × List UInt8 × Int)) × Int))) (H : Bq fRec_parse_parser_step p0 = some r) (hL : Stw ⟨Y, X, w0⟩ [(q_p0, [v1, .int .i64 p0.2])] [row v1 98 AA p0.1] w0) :
    Calls Tryd.prog 104 #[.pointer (some ⟨q_p0, 0, none⟩)] w0 fun e w' => D8 r (fun r => ∃ x : Value × Value × Value, e = .returned (.agg #[.int .i64 r.1.un.1, .int .i64 r.1.un.2.1.un.1, .int .i64 r.1.un.2.1.un.2.1, .int .i64 r.1.un.2.1.un.2.2.1, x.1, .int .i64 r.1.un.2.2.1, .int .i64 r.1.un.2.2.2.1, x.2.1]) ∧ Stw ⟨Y, X, w0⟩ [(q_p0, [x.2.2, .int .i64 r.2.2])] [row (x.2.2) 98 AA r.2.1, A4 (x.1) A6 r.1.un.2.1.un.2.2.2, row (x.2.1) 28 BJ r.1.un.2.2.2.2] w') (fun r => ∃ x : Value, e = .panicked [{ v := .iface 89 (.agg #[.int .i64 r.1.1, .int .i64 r.1.2]), recovered := false }] ∧ Stw ⟨Y, X, w0⟩ [(q_p0, [x, .int .i64 r.2.2])] [row (x) 98 AA r.2.1] w') := by
 refine enter Tryd.func104 Aa Tryd.ntmps104 Aa fun a W => ?_
 have F := hL
 unfold Bq at H
 refine Ah (Ab ?_)
 refine BA (cs := (BU)) W F Aa JT Aa fun b1 a w W F => ?_
 refine Ae (Ac (Ah (Ab ?_)))
 refine ls W F Aa (Ai W Aa).q fun a w W F => ?_
 obtain ⟨x1, h1, H⟩ := Aq H
 rcases x1 with x2 | x3
 ·
  have H := EZ H
  have F := F.frontM (i := 1) Aa Aa
  refine Bp (Ml := [(q_p0, [v1, .int .i64 p0.2])]) (Zl := [row v1 98 AA p0.1]) (M := (Df b1)) (Z := []) (β := Value × Value) (rv := fun x => .agg #[.int .i64 x2.1.un.1, .int .i64 x2.1.un.2.1, .int .i64 x2.1.un.2.2.1, x.1]) (MM := fun x => [(q_p0, [x.2, .int .i64 x2.2.2])]) (ZZ := fun x => [row x.2 98 AA x2.2.1, A4 x.1 A6 x2.1.un.2.2.2]) W F S8 Aa Aa (fun hL => C3 _ _ w q_p0 (v1) p0 _ h1 hL) fun x a w W F => ?_
  obtain ⟨v2, v3⟩ := x
  have F : Stw ⟨Y, X, w0⟩ [(q_p0, [v3, .int .i64 x2.2.2]), (b1, (BU))] [row v3 98 AA x2.2.1, A4 v2 A6 x2.1.un.2.2.2] w := F
  refine BA (cs := (CH)) W F Aa Ny Aa fun b2 a w W F => ?_
  refine AP (vs := (F1 x2 v2)) (M' := [(b2, [.int .i64 x2.1.un.1, .int .i64 x2.1.un.2.1, .int .i64 x2.1.un.2.2.1, v2]), (q_p0, [v3, .int .i64 x2.2.2]), (b1, [.int .i64 0, .int .i64 0, .int .i64 0, .int .i64 0, .slice none 0 0, .int .i64 0, .int .i64 0, .slice none 0 0])]) 0 W F Aa Aa Aa ER Aa Aa Aa (Af Aa (Af Aa (Af Aa (Af (F.oneF (k := 1) Aa) BC)))) Aa fun w F => ?_
  refine Ae (Ac (Ah (Ab ?_)))
  refine ls W F Aa (Ai W Aa).q fun a w W F => ?_
  obtain ⟨x4, h2, H⟩ := Aq H
  rcases x4 with x5 | x6
  ·
   have H := EZ H
   have F := F.frontM (i := 1) Aa Aa
   refine Bp (Ml := [(q_p0, [v3, .int .i64 x2.2.2])]) (Zl := [row v3 98 AA x2.2.1]) (M := (PJ b2 x2 v2 b1)) (Z := [A4 v2 A6 x2.1.un.2.2.2]) (β := Value) (rv := fun x => .tuple #[]) (MM := fun x => [(q_p0, [x, .int .i64 x5.2])]) (ZZ := fun x => [row x 98 AA x5.1]) W F Lh Aa Aa (fun hL => BB _ _ w q_p0 (v3) x2.2 ([116, 104, 101, 110] : List UInt8) _ h2 hL) fun x a w W F => ?_
   obtain ⟨v4, rfl⟩ : ∃ y, y = x := ⟨x, rfl⟩
   have F : Stw ⟨Y, X, w0⟩ [(q_p0, [v4, .int .i64 x5.2]), (b2, (F1 x2 v2)), (b1, (BU))] [row v4 98 AA x5.1, A4 v2 A6 x2.1.un.2.2.2] w := F
   refine Ae (Ac (Ah (Ab ?_)))
   refine ls W F Aa (Ai W Aa).q fun a w W F => ?_
   obtain ⟨x7, h3, H⟩ := Aq H
   rcases x7 with x8 | x9
   ·
    have H := EZ H
    refine Bp (Ml := [(q_p0, [v4, .int .i64 x5.2])]) (Zl := [row v4 98 AA x5.1]) (M := (PJ b2 x2 v2 b1)) (Z := [A4 v2 A6 x2.1.un.2.2.2]) (β := Value × Value × Value) (rv := fun x => .agg #[.int .i64 x8.1.un.1, .int .i64 x8.1.un.2.1.un.1, .int .i64 x8.1.un.2.1.un.2.1, .int .i64 x8.1.un.2.1.un.2.2.1, x.1, .int .i64 x8.1.un.2.2.1, .int .i64 x8.1.un.2.2.2.1, x.2.1]) (MM := fun x => [(q_p0, [x.2.2, .int .i64 x8.2.2])]) (ZZ := fun x => [row x.2.2 98 AA x8.2.1, A4 x.1 A6 x8.1.un.2.1.un.2.2.2, A4 x.2.1 BJ x8.1.un.2.2.2.2]) W F Sk Aa Aa (fun hL => ih_parse_parser_step _ _ w q_p0 (v4) x5 _ h3 hL) fun x a w W F => ?_
    obtain ⟨v5, v6, v7⟩ := x
    have F : Stw ⟨Y, X, w0⟩ [(q_p0, [v7, .int .i64 x8.2.2]), (b2, (F1 x2 v2)), (b1, (BU))] [row v7 98 AA x8.2.1, A4 v5 A6 x8.1.un.2.1.un.2.2.2, A4 v6 BJ x8.1.un.2.2.2.2, A4 v2 A6 x2.1.un.2.2.2] w := F
    refine BA (cs := (BU)) W F Aa JT Aa fun b3 a w W F => ?_
    refine AP (vs := (DM x8 v5 v6)) (M' := [(b3, (DM x8 v5 v6)), (q_p0, [v7, .int .i64 x8.2.2]), (b2, (F1 x2 v2)), (b1, (BU))]) 0 W F Aa Aa Aa D1 Aa Aa Aa (Af Aa (Af Aa (Af Aa (Af Aa (Af (F.oneF (k := 1) Aa) (Af Aa (Af Aa (Af (F.oneF (k := 2) Aa) BC)))))))) Aa fun w F => ?_
    refine Ae (Ac (Ah (Ab ?_)))
    refine ls W F Aa (Ai W Aa).q fun a w W F => ?_
    obtain ⟨x10, h4, H⟩ := Aq H
    rcases x10 with x11 | x12
    ·
     have H := EZ H
     have F := F.frontM (i := 1) Aa Aa
     refine Bp (Ml := [(q_p0, [v7, .int .i64 x8.2.2])]) (Zl := [row v7 98 AA x8.2.1]) (M := (Pm b3 x8 v5 v6 b2 x2 v2 b1)) (Z := [A4 v5 A6 x8.1.un.2.1.un.2.2.2, A4 v6 BJ x8.1.un.2.2.2.2, A4 v2 A6 x2.1.un.2.2.2]) (β := Value) (rv := fun x => .tuple #[]) (MM := fun x => [(q_p0, [x, .int .i64 x11.2])]) (ZZ := fun x => [row x 98 AA x11.1]) W F Lh Aa Aa (fun hL => BB _ _ w q_p0 (v7) x8.2 ([101, 108, 115, 101] : List UInt8) _ h4 hL) fun x a w W F => ?_
     obtain ⟨v8, rfl⟩ : ∃ y, y = x := ⟨x, rfl⟩
     have F : Stw ⟨Y, X, w0⟩ [(q_p0, [v8, .int .i64 x11.2]), (b3, (DM x8 v5 v6)), (b2, (F1 x2 v2)), (b1, (BU))] [row v8 98 AA x11.1, A4 v5 A6 x8.1.un.2.1.un.2.2.2, A4 v6 BJ x8.1.un.2.2.2.2, A4 v2 A6 x2.1.un.2.2.2] w := F
     refine Ae (Ac (Ah (Ab ?_)))
     refine ls W F Aa (Ai W Aa).q fun a w W F => ?_
     obtain ⟨x13, h5, H⟩ := Aq H
     rcases x13 with x14 | x15
     ·
      have H := EZ H
      refine Bp (Ml := [(q_p0, [v8, .int .i64 x11.2])]) (Zl := [row v8 98 AA x11.1]) (M := (Pm b3 x8 v5 v6 b2 x2 v2 b1)) (Z := [A4 v5 A6 x8.1.un.2.1.un.2.2.2, A4 v6 BJ x8.1.un.2.2.2.2, A4 v2 A6 x2.1.un.2.2.2]) (β := Value × Value × Value) (rv := fun x => .agg #[.int .i64 x14.1.un.1, .int .i64 x14.1.un.2.1.un.1, .int .i64 x14.1.un.2.1.un.2.1, .int .i64 x14.1.un.2.1.un.2.2.1, x.1, .int .i64 x14.1.un.2.2.1, .int .i64 x14.1.un.2.2.2.1, x.2.1]) (MM := fun x => [(q_p0, [x.2.2, .int .i64 x14.2.2])]) (ZZ := fun x => [row x.2.2 98 AA x14.2.1, A4 x.1 A6 x14.1.un.2.1.un.2.2.2, A4 x.2.1 BJ x14.1.un.2.2.2.2]) W F Sk Aa Aa (fun hL => ih_parse_parser_step _ _ w q_p0 (v8) x11 _ h5 hL) fun x a w W F => ?_
      obtain ⟨v9, v10, v11⟩ := x
      have F : Stw ⟨Y, X, w0⟩ [(q_p0, [v11, .int .i64 x14.2.2]), (b3, (DM x8 v5 v6)), (b2, (F1 x2 v2)), (b1, (BU))] [row v11 98 AA x14.2.1, A4 v9 A6 x14.1.un.2.1.un.2.2.2, A4 v10 BJ x14.1.un.2.2.2.2, A4 v5 A6 x8.1.un.2.1.un.2.2.2, A4 v6 BJ x8.1.un.2.2.2.2, A4 v2 A6 x2.1.un.2.2.2] w := F
      refine BA (cs := (BU)) W F Aa JT Aa fun b4 a w W F => ?_
      refine AP (vs := (DM x14 v9 v10)) (M' := [(b4, (DM x14 v9 v10)), (q_p0, [v11, .int .i64 x14.2.2]), (b3, (DM x8 v5 v6)), (b2, (F1 x2 v2)), (b1, (BU))]) 0 W F Aa Aa Aa D1 Aa Aa Aa (Af Aa (Af Aa (Af Aa (Af Aa (Af (F.oneF (k := 1) Aa) (Af Aa (Af Aa (Af (F.oneF (k := 2) Aa) BC)))))))) Aa fun w F => ?_
      refine Ae (Ac (Ah (Ab ?_)))
      refine ls W F Aa (Aw (v := Value.agg #[.int .i64 x2.1.un.1, .int .i64 x2.1.un.2.1, .int .i64 x2.1.un.2.2.1, v2]) 3 W Aa Aa ER Aa).q fun a w W F => ?_
      refine ls W F Aa (Aw (v := Value.agg #[.int .i64 x8.1.un.1, .int .i64 x8.1.un.2.1.un.1, .int .i64 x8.1.un.2.1.un.2.1, .int .i64 x8.1.un.2.1.un.2.2.1, v5, .int .i64 x8.1.un.2.2.1, .int .i64 x8.1.un.2.2.2.1, v6]) 2 W Aa Aa D1 Aa).q fun a w W F => ?_
      refine ls W F Aa (Aw (v := Value.agg #[.int .i64 x14.1.un.1, .int .i64 x14.1.un.2.1.un.1, .int .i64 x14.1.un.2.1.un.2.1, .int .i64 x14.1.un.2.1.un.2.2.1, v9, .int .i64 x14.1.un.2.2.1, .int .i64 x14.1.un.2.2.2.1, v10]) 0 W Aa Aa D1 Aa).q fun a w W F => ?_
      refine Hi (z := Value.agg #[.int .i64 0, .int .i64 0, .int .i64 0, .int .i64 0, .slice none 0 0, .int .i64 0, .int .i64 0, .slice none 0 0]) (cs := [.int .i64 x8.1.un.1, .int .i64 x8.1.un.2.1.un.1, .int .i64 x8.1.un.2.1.un.2.1, .int .i64 x8.1.un.2.1.un.2.2.1, v5, .int .i64 x8.1.un.2.2.1, .int .i64 x8.1.un.2.2.2.1, v6, .int .i64 x14.1.un.1, .int .i64 x14.1.un.2.1.un.1, .int .i64 x14.1.un.2.1.un.2.1, .int .i64 x14.1.un.2.1.un.2.2.1, v9, .int .i64 x14.1.un.2.2.1, .int .i64 x14.1.un.2.2.2.1, v10]) BJ ([Tr28.of (x8.1.un.1, Tr25.of (x8.1.un.2.1.un.1, x8.1.un.2.1.un.2.1, x8.1.un.2.1.un.2.2.1, x8.1.un.2.1.un.2.2.2), x8.1.un.2.2.1, x8.1.un.2.2.2.1, x8.1.un.2.2.2.2), Tr28.of (x14.1.un.1, Tr25.of (x14.1.un.2.1.un.1, x14.1.un.2.1.un.2.1, x14.1.un.2.1.un.2.2.1, x14.1.un.2.1.un.2.2.2), x14.1.un.2.2.1, x14.1.un.2.2.2.1, x14.1.un.2.2.2.2)] : List Tr28) W F Aa OM JT Aa Aa Aa (BQ Aa Aa Aa (BQ Aa Aa Aa CX)) Aa Aa ⟨[Value.int .i64 x8.1.un.1, Value.int .i64 x8.1.un.2.1.un.1, Value.int .i64 x8.1.un.2.1.un.2.1, Value.int .i64 x8.1.un.2.1.un.2.2.1, v5, Value.int .i64 x8.1.un.2.2.1, Value.int .i64 x8.1.un.2.2.2.1, v6], _, Aa, (PP.2 ⟨[Value.int .i64 x8.1.un.1], [Value.int .i64 x8.1.un.2.1.un.1, Value.int .i64 x8.1.un.2.1.un.2.1, Value.int .i64 x8.1.un.2.1.un.2.2.1, v5, Value.int .i64 x8.1.un.2.2.1, Value.int .i64 x8.1.un.2.2.2.1, v6], Aa, Aa, ⟨[Value.int .i64 x8.1.un.2.1.un.1, Value.int .i64 x8.1.un.2.1.un.2.1, Value.int .i64 x8.1.un.2.1.un.2.2.1, v5], [Value.int .i64 x8.1.un.2.2.1, Value.int .i64 x8.1.un.2.2.2.1, v6], Aa, (Mh.2 ⟨[Value.int .i64 x8.1.un.2.1.un.1], [Value.int .i64 x8.1.un.2.1.un.2.1, Value.int .i64 x8.1.un.2.1.un.2.2.1, v5], Aa, Aa, ⟨[Value.int .i64 x8.1.un.2.1.un.2.1], [Value.int .i64 x8.1.un.2.1.un.2.2.1, v5], Aa, Aa, ⟨[Value.int .i64 x8.1.un.2.1.un.2.2.1], [v5], Aa, Aa, ⟨_, Aa, (F.item (i := 3) Aa)⟩⟩⟩⟩), ⟨[Value.int .i64 x8.1.un.2.2.1], [Value.int .i64 x8.1.un.2.2.2.1, v6], Aa, Aa, ⟨[Value.int .i64 x8.1.un.2.2.2.1], [v6], Aa, Aa, ⟨_, Aa, (F.item (i := 4) Aa)⟩⟩⟩⟩⟩), ⟨[Value.int .i64 x14.1.un.1, Value.int .i64 x14.1.un.2.1.un.1, Value.int .i64 x14.1.un.2.1.un.2.1, Value.int .i64 x14.1.un.2.1.un.2.2.1, v9, Value.int .i64 x14.1.un.2.2.1, Value.int .i64 x14.1.un.2.2.2.1, v10], _, Aa, (PP.2 ⟨[Value.int .i64 x14.1.un.1], [Value.int .i64 x14.1.un.2.1.un.1, Value.int .i64 x14.1.un.2.1.un.2.1, Value.int .i64 x14.1.un.2.1.un.2.2.1, v9, Value.int .i64 x14.1.un.2.2.1, Value.int .i64 x14.1.un.2.2.2.1, v10], Aa, Aa, ⟨[Value.int .i64 x14.1.un.2.1.un.1, Value.int .i64 x14.1.un.2.1.un.2.1, Value.int .i64 x14.1.un.2.1.un.2.2.1, v9], [Value.int .i64 x14.1.un.2.2.1, Value.int .i64 x14.1.un.2.2.2.1, v10], Aa, (Mh.2 ⟨[Value.int .i64 x14.1.un.2.1.un.1], [Value.int .i64 x14.1.un.2.1.un.2.1, Value.int .i64 x14.1.un.2.1.un.2.2.1, v9], Aa, Aa, ⟨[Value.int .i64 x14.1.un.2.1.un.2.1], [Value.int .i64 x14.1.un.2.1.un.2.2.1, v9], Aa, Aa, ⟨[Value.int .i64 x14.1.un.2.1.un.2.2.1], [v9], Aa, Aa, ⟨_, Aa, (F.item (i := 1) Aa)⟩⟩⟩⟩), ⟨[Value.int .i64 x14.1.un.2.2.1], [Value.int .i64 x14.1.un.2.2.2.1, v10], Aa, Aa, ⟨[Value.int .i64 x14.1.un.2.2.2.1], [v10], Aa, Aa, ⟨_, Aa, (F.item (i := 2) Aa)⟩⟩⟩⟩⟩), Aa⟩⟩ fun v12 a w W F => ?_
      refine ls W F Aa (Cx (v := Value.agg #[.int .i64 5, .int .i64 x2.1.un.1, .int .i64 x2.1.un.2.1, .int .i64 x2.1.un.2.2.1, v2, .int .i64 0, .int .i64 0, v12]) S6 W Aa (BQ Aa Aa Aa (BQ Aa Aa Aa (BQ Aa (FU (F.one (k := 0) Aa)) Aa CX))) Aa).q fun a w W F => ?_
      refine AP (vs := [.int .i64 5, .int .i64 x2.1.un.1, .int .i64 x2.1.un.2.1, .int .i64 x2.1.un.2.2.1, v2, .int .i64 0, .int .i64 0, v12]) (M' := [(b4, (DM x14 v9 v10)), (q_p0, [v11, .int .i64 x14.2.2]), (b3, (DM x8 v5 v6)), (b2, (F1 x2 v2)), (b1, [.int .i64 5, .int .i64 x2.1.un.1, .int .i64 x2.1.un.2.1, .int .i64 x2.1.un.2.2.1, v2, .int .i64 0, .int .i64 0, v12])]) 4 W F Aa Aa Aa D1 Aa Aa Aa (Af Aa (Af Aa (Af Aa (Af Aa (Af (F.oneF (k := 6) Aa) (Af Aa (Af Aa (Af (F.one (k := 0) Aa) BC)))))))) Aa fun w F => ?_
      refine Ae (Ac (Au ?_))
      have H := AR H
      subst H
      refine AO (.inl Aa) W F Aa (BD 4 W Aa Aa D1 Aa) ?_
      have F := F.frontZ (i := 6) Aa Aa
      have F := F.frontZ (i := 2) Aa Aa
      have F := F.frontM (i := 1) Aa Aa
      have F := F.sub (M' := [(q_p0, [v11, .int .i64 x14.2.2])]) (Z' := [row v11 98 AA x14.2.1, A4 v2 A6 x2.1.un.2.2.2, row v12 28 BJ ([Tr28.of (x8.1.un.1, Tr25.of (x8.1.un.2.1.un.1, x8.1.un.2.1.un.2.1, x8.1.un.2.1.un.2.2.1, x8.1.un.2.1.un.2.2.2), x8.1.un.2.2.1, x8.1.un.2.2.2.1, x8.1.un.2.2.2.2), Tr28.of (x14.1.un.1, Tr25.of (x14.1.un.2.1.un.1, x14.1.un.2.1.un.2.1, x14.1.un.2.1.un.2.2.1, x14.1.un.2.1.un.2.2.2), x14.1.un.2.2.1, x14.1.un.2.2.2.1, x14.1.un.2.2.2.2)] : List Tr28)]) (List.Sublist.cons_cons _ (List.nil_sublist _)) (List.Sublist.cons_cons _ (List.Sublist.cons_cons _ (List.Sublist.cons_cons _ (List.nil_sublist _))))
      exact ⟨((v2), (v12), (v11)), Aa, F⟩
     have H := EW H
     refine Cj (Ml := [(q_p0, [v8, .int .i64 x11.2])]) (Zl := [row v8 98 AA x11.1]) (M := (Pm b3 x8 v5 v6 b2 x2 v2 b1)) (Z := [A4 v5 A6 x8.1.un.2.1.un.2.2.2, A4 v6 BJ x8.1.un.2.2.2.2, A4 v2 A6 x2.1.un.2.2.2]) (β := Value) (pv := fun x => .iface 89 (.agg #[.int .i64 x15.1.1, .int .i64 x15.1.2])) (MM := fun x => [(q_p0, [x, .int .i64 x15.2.2])]) (ZZ := fun x => [row x 98 AA x15.2.1]) W F Sk Aa (fun hL => ih_parse_parser_step _ _ w q_p0 (v8) x11 _ h5 hL) fun x w F => ?_
     obtain ⟨v13, rfl⟩ : ∃ y, y = x := ⟨x, rfl⟩
     have F : Stw ⟨Y, X, w0⟩ [(q_p0, [v13, .int .i64 x15.2.2]), (b3, (DM x8 v5 v6)), (b2, (F1 x2 v2)), (b1, (BU))] [row v13 98 AA x15.2.1, A4 v5 A6 x8.1.un.2.1.un.2.2.2, A4 v6 BJ x8.1.un.2.2.2.2, A4 v2 A6 x2.1.un.2.2.2] w := F
     refine BW ?_
     have H := AR H
     subst H
     refine Bi W ?_
     have F := F.sub (M' := [(q_p0, [v13, .int .i64 x15.2.2])]) (Z' := [row v13 98 AA x15.2.1]) (List.Sublist.cons_cons _ (List.nil_sublist _)) (List.Sublist.cons_cons _ (List.nil_sublist _))
     exact ⟨(v13), Aa, F⟩
    have H := EW H
    have F := F.frontM (i := 1) Aa Aa
    refine Cj (Ml := [(q_p0, [v7, .int .i64 x8.2.2])]) (Zl := [row v7 98 AA x8.2.1]) (M := (Pm b3 x8 v5 v6 b2 x2 v2 b1)) (Z := [A4 v5 A6 x8.1.un.2.1.un.2.2.2, A4 v6 BJ x8.1.un.2.2.2.2, A4 v2 A6 x2.1.un.2.2.2]) (β := Value) (pv := fun x => .iface 89 (.agg #[.int .i64 x12.1.1, .int .i64 x12.1.2])) (MM := fun x => [(q_p0, [x, .int .i64 x12.2.2])]) (ZZ := fun x => [row x 98 AA x12.2.1]) W F Lh Aa (fun hL => BB _ _ w q_p0 (v7) x8.2 ([101, 108, 115, 101] : List UInt8) _ h4 hL) fun x w F => ?_
    obtain ⟨v14, rfl⟩ : ∃ y, y = x := ⟨x, rfl⟩
    have F : Stw ⟨Y, X, w0⟩ [(q_p0, [v14, .int .i64 x12.2.2]), (b3, (DM x8 v5 v6)), (b2, (F1 x2 v2)), (b1, (BU))] [row v14 98 AA x12.2.1, A4 v5 A6 x8.1.un.2.1.un.2.2.2, A4 v6 BJ x8.1.un.2.2.2.2, A4 v2 A6 x2.1.un.2.2.2] w := F
    refine BW ?_
    have H := AR H
    subst H
    refine Bi W ?_
    have F := F.sub (M' := [(q_p0, [v14, .int .i64 x12.2.2])]) (Z' := [row v14 98 AA x12.2.1]) (List.Sublist.cons_cons _ (List.nil_sublist _)) (List.Sublist.cons_cons _ (List.nil_sublist _))
    exact ⟨(v14), Aa, F⟩
   have H := EW H
   refine Cj (Ml := [(q_p0, [v4, .int .i64 x5.2])]) (Zl := [row v4 98 AA x5.1]) (M := (PJ b2 x2 v2 b1)) (Z := [A4 v2 A6 x2.1.un.2.2.2]) (β := Value) (pv := fun x => .iface 89 (.agg #[.int .i64 x9.1.1, .int .i64 x9.1.2])) (MM := fun x => [(q_p0, [x, .int .i64 x9.2.2])]) (ZZ := fun x => [row x 98 AA x9.2.1]) W F Sk Aa (fun hL => ih_parse_parser_step _ _ w q_p0 (v4) x5 _ h3 hL) fun x w F => ?_
   obtain ⟨v15, rfl⟩ : ∃ y, y = x := ⟨x, rfl⟩
   have F : Stw ⟨Y, X, w0⟩ [(q_p0, [v15, .int .i64 x9.2.2]), (b2, (F1 x2 v2)), (b1, (BU))] [row v15 98 AA x9.2.1, A4 v2 A6 x2.1.un.2.2.2] w := F
   refine BW ?_
   have H := AR H
   subst H
   refine Bi W ?_
   have F := F.sub (M' := [(q_p0, [v15, .int .i64 x9.2.2])]) (Z' := [row v15 98 AA x9.2.1]) (List.Sublist.cons_cons _ (List.nil_sublist _)) (List.Sublist.cons_cons _ (List.nil_sublist _))
   exact ⟨(v15), Aa, F⟩
  have H := EW H
  have F := F.frontM (i := 1) Aa Aa
  refine Cj (Ml := [(q_p0, [v3, .int .i64 x2.2.2])]) (Zl := [row v3 98 AA x2.2.1]) (M := (PJ b2 x2 v2 b1)) (Z := [A4 v2 A6 x2.1.un.2.2.2]) (β := Value) (pv := fun x => .iface 89 (.agg #[.int .i64 x6.1.1, .int .i64 x6.1.2])) (MM := fun x => [(q_p0, [x, .int .i64 x6.2.2])]) (ZZ := fun x => [row x 98 AA x6.2.1]) W F Lh Aa (fun hL => BB _ _ w q_p0 (v3) x2.2 ([116, 104, 101, 110] : List UInt8) _ h2 hL) fun x w F => ?_
  obtain ⟨v16, rfl⟩ : ∃ y, y = x := ⟨x, rfl⟩
  have F : Stw ⟨Y, X, w0⟩ [(q_p0, [v16, .int .i64 x6.2.2]), (b2, (F1 x2 v2)), (b1, (BU))] [row v16 98 AA x6.2.1, A4 v2 A6 x2.1.un.2.2.2] w := F
  refine BW ?_
  have H := AR H
  subst H
  refine Bi W ?_
  have F := F.sub (M' := [(q_p0, [v16, .int .i64 x6.2.2])]) (Z' := [row v16 98 AA x6.2.1]) (List.Sublist.cons_cons _ (List.nil_sublist _)) (List.Sublist.cons_cons _ (List.nil_sublist _))
  exact ⟨(v16), Aa, F⟩
 have H := EW H
 have F := F.frontM (i := 1) Aa Aa
 refine Cj (Ml := [(q_p0, [v1, .int .i64 p0.2])]) (Zl := [row v1 98 AA p0.1]) (M := (Df b1)) (Z := []) (β := Value) (pv := fun x => .iface 89 (.agg #[.int .i64 x3.1.1, .int .i64 x3.1.2])) (MM := fun x => [(q_p0, [x, .int .i64 x3.2.2])]) (ZZ := fun x => [row x 98 AA x3.2.1]) W F S8 Aa (fun hL => C3 _ _ w q_p0 (v1) p0 _ h1 hL) fun x w F => ?_
 obtain ⟨v17, rfl⟩ : ∃ y, y = x := ⟨x, rfl⟩
 have F : Stw ⟨Y, X, w0⟩ [(q_p0, [v17, .int .i64 x3.2.2]), (b1, (BU))] [row v17 98 AA x3.2.1] w := F
 refine BW ?_
 have H := AR H
 subst H
 refine Bi W ?_
 have F := F.sub (M' := [(q_p0, [v17, .int .i64 x3.2.2])]) (Z' := [row v17 98 AA x3.2.1]) (List.Sublist.cons_cons _ (List.nil_sublist _)) (List.Sublist.refl _)
 exact ⟨(v17), Aa, F⟩
end Go.Proofs.YtlgjpoapclifbaaDoor
