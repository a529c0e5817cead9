/- The functions of layer 29, EF. Conditions: none. -/
import Derived.Test.YtlgjpoapclifbaaDoordA1
namespace Go.Proofs.YtlgjpoapclifbaaDoor
open Go Go.RowKit
set_option linter.unusedVariables false
set_option linter.unusedSimpArgs false
set_option maxRecDepth 20000
theorem Tt : Has Tryd.prog 104 := ⟨fun args w => Am Tryd.func104 rfl (by decide) args w⟩
theorem TP : Has Tryd.prog 28 := ⟨fun args w => Am Tryd.func28 rfl (by decide) args w⟩
abbrev St (a0 : Tr25 × ((List (Int × Int × List UInt8 × Int)) × Int)) (a1 : Value) (a2 : Value) : List Value := [.int .i64 ((Aj a0.1).un.1), .int .i64 ((Aj a0.1).un.2.1.un.1), .int .i64 ((Aj a0.1).un.2.1.un.2.1), .int .i64 ((Aj a0.1).un.2.1.un.2.2.1), a1, .int .i64 ((Aj a0.1).un.2.2.1), .int .i64 ((Aj a0.1).un.2.2.2.1), a2]
abbrev Sr (a0 : Nat) (a1 : Tr28 × ((List (Int × Int × List UInt8 × Int)) × Int)) (a2 : Value) (a3 : Value) (a4 : Nat) : List (Nat × List Value) := [(a0, [.int .i64 a1.1.un.1, .int .i64 a1.1.un.2.1.un.1, .int .i64 a1.1.un.2.1.un.2.1, .int .i64 a1.1.un.2.1.un.2.2.1, a2, .int .i64 a1.1.un.2.2.1, .int .i64 a1.1.un.2.2.2.1, a3]), (a4, [.int .i64 0, .int .i64 0, .int .i64 0, .int .i64 0, .slice none 0 0, .int .i64 0, .int .i64 0, .slice none 0 0])]
noncomputable def A0 (fRec_parse_parser_policy : ((List (Int × Int × List UInt8 × Int)) × Int) → Option ((Tr28 × ((List (Int × Int × List UInt8 × Int)) × Int)) ⊕ ((Int × Int) × ((List (Int × Int × List UInt8 × Int)) × Int)))) (fRec : ((List (Int × Int × List UInt8 × Int)) × Int) → Option ((Tr28 × ((List (Int × Int × List UInt8 × Int)) × Int)) ⊕ ((Int × Int) × ((List (Int × Int × List UInt8 × Int)) × Int)))) (p0 : (List (Int × Int × List UInt8 × Int)) × Int) : Option ((Tr28 × ((List (Int × Int × List UInt8 × Int)) × Int)) ⊕ ((Int × Int) × ((List (Int × Int × List UInt8 × Int)) × Int))) := (As p0 ([100, 114, 111, 112] : List UInt8)).bind fun x1 => (if x1.1 = true then some (.inl (Tr28.of ((Aj (Tr25.of (2, 0, 0, ([] : List Tr25)))).un.1, Tr25.of ((Aj (Tr25.of (2, 0, 0, ([] : List Tr25)))).un.2.1.un.1, (Aj (Tr25.of (2, 0, 0, ([] : List Tr25)))).un.2.1.un.2.1, (Aj (Tr25.of (2, 0, 0, ([] : List Tr25)))).un.2.1.un.2.2.1, (Aj (Tr25.of (2, 0, 0, ([] : List Tr25)))).un.2.1.un.2.2.2), (Aj (Tr25.of (2, 0, 0, ([] : List Tr25)))).un.2.2.1, (Aj (Tr25.of (2, 0, 0, ([] : List Tr25)))).un.2.2.2.1, (Aj (Tr25.of (2, 0, 0, ([] : List Tr25)))).un.2.2.2.2), x1.2)) else (As x1.2 ([105, 100] : List UInt8)).bind fun x2 => (if x2.1 = true then some (.inl (Tr28.of ((Aj (Tr25.of (1, 0, 0, ([] : List Tr25)))).un.1, Tr25.of ((Aj (Tr25.of (1, 0, 0, ([] : List Tr25)))).un.2.1.un.1, (Aj (Tr25.of (1, 0, 0, ([] : List Tr25)))).un.2.1.un.2.1, (Aj (Tr25.of (1, 0, 0, ([] : List Tr25)))).un.2.1.un.2.2.1, (Aj (Tr25.of (1, 0, 0, ([] : List Tr25)))).un.2.1.un.2.2.2), (Aj (Tr25.of (1, 0, 0, ([] : List Tr25)))).un.2.2.1, (Aj (Tr25.of (1, 0, 0, ([] : List Tr25)))).un.2.2.2.1, (Aj (Tr25.of (1, 0, 0, ([] : List Tr25)))).un.2.2.2.2), x2.2)) else (As x2.2 ([119, 104, 101, 110] : List UInt8)).bind fun x3 => (if x3.1 = true then (Ce x3.2).bind fun x4 => B1 x4 (fun x5 => some (.inl (Tr28.of ((Aj x5.1).un.1, Tr25.of ((Aj x5.1).un.2.1.un.1, (Aj x5.1).un.2.1.un.2.1, (Aj x5.1).un.2.1.un.2.2.1, (Aj x5.1).un.2.1.un.2.2.2), (Aj x5.1).un.2.2.1, (Aj x5.1).un.2.2.2.1, (Aj x5.1).un.2.2.2.2), x5.2))) (fun x6 => some (.inr (x6.1, x6.2))) else (As x3.2 ([105, 102] : List UInt8)).bind fun x7 => (if x7.1 = true then ((Bq fRec) x7.2).bind fun x8 => B1 x8 (fun x9 => some (.inl (Tr28.of (x9.1.un.1, Tr25.of (x9.1.un.2.1.un.1, x9.1.un.2.1.un.2.1, x9.1.un.2.1.un.2.2.1, x9.1.un.2.1.un.2.2.2), x9.1.un.2.2.1, x9.1.un.2.2.2.1, x9.1.un.2.2.2.2), x9.2))) (fun x10 => some (.inr (x10.1, x10.2))) else (As x7.2 ([40] : List UInt8)).bind fun x11 => (if x11.1 = true then (fRec_parse_parser_policy x11.2).bind fun x12 => B1 x12 (fun x13 => (Ao x13.2 ([41] : List UInt8)).bind fun x15 => B1 x15 (fun x16 => some (.inl (Tr28.of (x13.1.un.1, Tr25.of (x13.1.un.2.1.un.1, x13.1.un.2.1.un.2.1, x13.1.un.2.1.un.2.2.1, x13.1.un.2.1.un.2.2.2), x13.1.un.2.2.1, x13.1.un.2.2.2.1, x13.1.un.2.2.2.2), x16))) (fun x17 => some (.inr (x17.1, x17.2)))) (fun x14 => some (.inr (x14.1, x14.2))) else (BE x11.2 4).bind fun x18 => B1 x18 (fun x19 => (Ao x19.2 ([58, 61] : List UInt8)).bind fun x21 => B1 x21 (fun x22 => (AQ x22).bind fun x24 => B1 x24 (fun x25 => some (.inl (Tr28.of (2, Tr25.of (0, 0, 0, ([] : List Tr25)), x19.1, x25.1, ([] : List Tr28)), x25.2))) (fun x26 => some (.inr (x26.1, x26.2)))) (fun x23 => some (.inr (x23.1, x23.2)))) (fun x20 => some (.inr (x20.1, x20.2))))))))
noncomputable def AB (fRec_parse_parser_policy : ((List (Int × Int × List UInt8 × Int)) × Int) → Option ((Tr28 × ((List (Int × Int × List UInt8 × Int)) × Int)) ⊕ ((Int × Int) × ((List (Int × Int × List UInt8 × Int)) × Int)))) : Nat → ((List (Int × Int × List UInt8 × Int)) × Int) → Option ((Tr28 × ((List (Int × Int × List UInt8 × Int)) × Int)) ⊕ ((Int × Int) × ((List (Int × Int × List UInt8 × Int)) × Int)))
  | 0 => fun _ => none
  | n + 1 => A0 fRec_parse_parser_policy (AB fRec_parse_parser_policy n)
noncomputable def Bu (fRec_parse_parser_policy : ((List (Int × Int × List UInt8 × Int)) × Int) → Option ((Tr28 × ((List (Int × Int × List UInt8 × Int)) × Int)) ⊕ ((Int × Int) × ((List (Int × Int × List UInt8 × Int)) × Int)))) (p0 : (List (Int × Int × List UInt8 × Int)) × Int) : Option ((Tr28 × ((List (Int × Int × List UInt8 × Int)) × Int)) ⊕ ((Int × Int) × ((List (Int × Int × List UInt8 × Int)) × Int))) := Ge fun n => AB fRec_parse_parser_policy n p0
theorem Iy (fRec_parse_parser_policy : ((List (Int × Int × List UInt8 × Int)) × Int) → Option ((Tr28 × ((List (Int × Int × List UInt8 × Int)) × Int)) ⊕ ((Int × Int) × ((List (Int × Int × List UInt8 × Int)) × Int)))) (ih_parse_parser_policy : ∀ (Y : Nat → Prop) (X : List Nat) (w0 : World) (q_p0 : Nat) (v1 : Value) (p0 : (List (Int × Int × List UInt8 × Int)) × Int) (r : (Tr28 × ((List (Int × Int × List UInt8 × Int)) × Int)) ⊕ ((Int × Int) × ((List (Int × Int × List UInt8 × Int)) × Int))) (H : fRec_parse_parser_policy p0 = some r) (hL : Stw ⟨Y, X, w0⟩ [(q_p0, [v1, .int .i64 p0.2])] [row v1 98 AA p0.1] w0), Calls Tryd.prog 28 #[.pointer (some ⟨q_p0, 0, none⟩)] w0 fun e w' => D8 r (fun r => ∃ x : Value × Value × Value, e = .returned (.agg #[.int .i64 r.1.un.1, .int .i64 r.1.un.2.1.un.1, .int .i64 r.1.un.2.1.un.2.1, .int .i64 r.1.un.2.1.un.2.2.1, x.1, .int .i64 r.1.un.2.2.1, .int .i64 r.1.un.2.2.2.1, x.2.1]) ∧ Stw ⟨Y, X, w0⟩ [(q_p0, [x.2.2, .int .i64 r.2.2])] [row (x.2.2) 98 AA r.2.1, A4 (x.1) A6 r.1.un.2.1.un.2.2.2, A4 (x.2.1) BJ r.1.un.2.2.2.2] w') (fun r => ∃ x : Value, e = .panicked [{ v := .iface 89 (.agg #[.int .i64 r.1.1, .int .i64 r.1.2]), recovered := false }] ∧ Stw ⟨Y, X, w0⟩ [(q_p0, [x, .int .i64 r.2.2])] [row (x) 98 AA r.2.1] w')) (fRec : ((List (Int × Int × List UInt8 × Int)) × Int) → Option ((Tr28 × ((List (Int × Int × List UInt8 × Int)) × Int)) ⊕ ((Int × Int) × ((List (Int × Int × List UInt8 × Int)) × Int)))) (ih : ∀ (Y : Nat → Prop) (X : List Nat) (w0 : World) (q_p0 : Nat) (v1 : Value) (p0 : (List (Int × Int × List UInt8 × Int)) × Int) (r : (Tr28 × ((List (Int × Int × List UInt8 × Int)) × Int)) ⊕ ((Int × Int) × ((List (Int × Int × List UInt8 × Int)) × Int))) (H : fRec p0 = some r) (hL : Stw ⟨Y, X, w0⟩ [(q_p0, [v1, .int .i64 p0.2])] [row v1 98 AA p0.1] w0), Calls Tryd.prog 84 #[.pointer (some ⟨q_p0, 0, none⟩)] w0 fun e w' => D8 r (fun r => ∃ x : Value × Value × Value, e = .returned (.agg #[.int .i64 r.1.un.1, .int .i64 r.1.un.2.1.un.1, .int .i64 r.1.un.2.1.un.2.1, .int .i64 r.1.un.2.1.un.2.2.1, x.1, .int .i64 r.1.un.2.2.1, .int .i64 r.1.un.2.2.2.1, x.2.1]) ∧ Stw ⟨Y, X, w0⟩ [(q_p0, [x.2.2, .int .i64 r.2.2])] [row (x.2.2) 98 AA r.2.1, A4 (x.1) A6 r.1.un.2.1.un.2.2.2, A4 (x.2.1) BJ r.1.un.2.2.2.2] w') (fun r => ∃ x : Value, e = .panicked [{ v := .iface 89 (.agg #[.int .i64 r.1.1, .int .i64 r.1.2]), recovered := false }] ∧ Stw ⟨Y, X, w0⟩ [(q_p0, [x, .int .i64 r.2.2])] [row (x) 98 AA r.2.1] w')) (Y : Nat → Prop) (X : List Nat) (w0 : World) (q_p0 : Nat) (v1 : Value) (p0 : (List (Int × Int × List UInt8 × Int)) × Int) (r : (Tr28 × ((List (Int × Int × List UInt8 × Int)) × Int)) ⊕ ((Int × Int) × ((List (Int × Int × List UInt8 × Int)) × Int))) (H : A0 fRec_parse_parser_policy fRec p0 = some r) (hL : Stw ⟨Y, X, w0⟩ [(q_p0, [v1, .int .i64 p0.2])] [row v1 98 AA p0.1] w0) :
    Calls Tryd.prog 84 #[.pointer (some ⟨q_p0, 0, none⟩)] w0 fun e w' => D8 r (fun r => ∃ x : Value × Value × Value, e = .returned (.agg #[.int .i64 r.1.un.1, .int .i64 r.1.un.2.1.un.1, .int .i64 r.1.un.2.1.un.2.1, .int .i64 r.1.un.2.1.un.2.2.1, x.1, .int .i64 r.1.un.2.2.1, .int .i64 r.1.un.2.2.2.1, x.2.1]) ∧ Stw ⟨Y, X, w0⟩ [(q_p0, [x.2.2, .int .i64 r.2.2])] [row (x.2.2) 98 AA r.2.1, A4 (x.1) A6 r.1.un.2.1.un.2.2.2, A4 (x.2.1) BJ r.1.un.2.2.2.2] w') (fun r => ∃ x : Value, e = .panicked [{ v := .iface 89 (.agg #[.int .i64 r.1.1, .int .i64 r.1.2]), recovered := false }] ∧ Stw ⟨Y, X, w0⟩ [(q_p0, [x, .int .i64 r.2.2])] [row (x) 98 AA r.2.1] w') := by
 refine enter Tryd.func84 Aa Tryd.ntmps84 Aa fun a W => ?_
 have F := hL
 unfold A0 at H
 refine Ah (Ab ?_)
 refine BA (cs := (BU)) W F Aa JT Aa fun b1 a w W F => ?_
 refine Ae (Ac (Ah (Bb (Ah (Ab ?_)))))
 refine ls W F Aa (Ai W Aa).q fun a w W F => ?_
 obtain ⟨x1, h1, H⟩ := Aq H
 have F := F.frontM (i := 1) Aa Aa
 refine Bp (Ml := [(q_p0, [v1, .int .i64 p0.2])]) (Zl := [row v1 98 AA p0.1]) (M := (Df b1)) (Z := []) (β := Value) (rv := fun x => .bool x1.1) (MM := fun x => [(q_p0, [x, .int .i64 x1.2.2])]) (ZZ := fun x => [row x 98 AA x1.2.1]) W F PH Aa Aa (fun hL => Bl _ _ w q_p0 (v1) p0 ([100, 114, 111, 112] : List UInt8) _ h1 hL) fun x a w W F => ?_
 obtain ⟨v2, rfl⟩ : ∃ y, y = x := ⟨x, rfl⟩
 have F : Stw ⟨Y, X, w0⟩ [(q_p0, [v2, .int .i64 x1.2.2]), (b1, (BU))] [row v2 98 AA x1.2.1] w := F
 refine ls W F Aa (Ag W Aa).q fun a w W F => ?_
 refine Ae (Ac ?_)
 refine AC W Aa (fun hb => ?_) fun hb => ?_
 ·
  have H := Ba hb H
  rw [hb] at W
  clear hb
  refine Ah (Ab ?_)
  refine ls W F Aa (Cx (v := Value.agg #[.int .i64 2, .int .i64 0, .int .i64 0, .slice none 0 0]) Ry W Aa Aa Aa).q fun a w W F => ?_
  refine Bp (Ml := []) (Zl := []) (M := [(q_p0, [v2, .int .i64 x1.2.2]), (b1, (BU))]) (Z := [row v2 98 AA x1.2.1]) (β := Value × Value) (rv := fun x => .agg #[.int .i64 ((Aj (Tr25.of (2, 0, 0, ([] : List Tr25)))).un.1), .int .i64 ((Aj (Tr25.of (2, 0, 0, ([] : List Tr25)))).un.2.1.un.1), .int .i64 ((Aj (Tr25.of (2, 0, 0, ([] : List Tr25)))).un.2.1.un.2.1), .int .i64 ((Aj (Tr25.of (2, 0, 0, ([] : List Tr25)))).un.2.1.un.2.2.1), x.1, .int .i64 ((Aj (Tr25.of (2, 0, 0, ([] : List Tr25)))).un.2.2.1), .int .i64 ((Aj (Tr25.of (2, 0, 0, ([] : List Tr25)))).un.2.2.2.1), x.2]) (MM := fun x => []) (ZZ := fun x => [A4 x.1 A6 ((Aj (Tr25.of (2, 0, 0, ([] : List Tr25)))).un.2.1.un.2.2.2), row x.2 28 BJ ((Aj (Tr25.of (2, 0, 0, ([] : List Tr25)))).un.2.2.2.2)]) W F SS Aa Aa (fun hL => GM _ w (Value.slice none 0 0) (Tr25.of (2, 0, 0, ([] : List Tr25))) _ Aa Sl.nil) fun x a w W F => ?_
  obtain ⟨v3, v4⟩ := x
  have F : Stw ⟨Y, X, w0⟩ [(q_p0, [v2, .int .i64 x1.2.2]), (b1, (BU))] [A4 v3 A6 ((Aj (Tr25.of (2, 0, 0, ([] : List Tr25)))).un.2.1.un.2.2.2), row v4 28 BJ ((Aj (Tr25.of (2, 0, 0, ([] : List Tr25)))).un.2.2.2.2), row v2 98 AA x1.2.1] w := F
  refine AP (vs := [.int .i64 ((Aj (Tr25.of (2, 0, 0, ([] : List Tr25)))).un.1), .int .i64 ((Aj (Tr25.of (2, 0, 0, ([] : List Tr25)))).un.2.1.un.1), .int .i64 ((Aj (Tr25.of (2, 0, 0, ([] : List Tr25)))).un.2.1.un.2.1), .int .i64 ((Aj (Tr25.of (2, 0, 0, ([] : List Tr25)))).un.2.1.un.2.2.1), v3, .int .i64 ((Aj (Tr25.of (2, 0, 0, ([] : List Tr25)))).un.2.2.1), .int .i64 ((Aj (Tr25.of (2, 0, 0, ([] : List Tr25)))).un.2.2.2.1), v4]) (M' := [(q_p0, [v2, .int .i64 x1.2.2]), (b1, [.int .i64 ((Aj (Tr25.of (2, 0, 0, ([] : List Tr25)))).un.1), .int .i64 ((Aj (Tr25.of (2, 0, 0, ([] : List Tr25)))).un.2.1.un.1), .int .i64 ((Aj (Tr25.of (2, 0, 0, ([] : List Tr25)))).un.2.1.un.2.1), .int .i64 ((Aj (Tr25.of (2, 0, 0, ([] : List Tr25)))).un.2.1.un.2.2.1), v3, .int .i64 ((Aj (Tr25.of (2, 0, 0, ([] : List Tr25)))).un.2.2.1), .int .i64 ((Aj (Tr25.of (2, 0, 0, ([] : List Tr25)))).un.2.2.2.1), v4])]) 1 W F Aa Aa Aa D1 Aa Aa Aa (Af Aa (Af Aa (Af Aa (Af Aa (Af (F.oneF (k := 0) Aa) (Af Aa (Af Aa (Af (F.one (k := 1) Aa) BC)))))))) Aa fun w F => ?_
  refine Ae (Ac (Au (Be (AV ?_))))
  have H := AR H
  subst H
  refine AO (.inl Aa) W F Aa (BD 1 W Aa Aa D1 Aa) ?_
  have F := F.frontZ (i := 1) Aa Aa
  have F := F.freeze
  have F := F.frontZ (i := 1) Aa Aa
  have F := F.frontZ (i := 2) Aa Aa
  have F := F.sub (M' := [(q_p0, [v2, .int .i64 x1.2.2])]) (Z' := [row v2 98 AA x1.2.1, A4 v3 A6 ((Aj (Tr25.of (2, 0, 0, ([] : List Tr25)))).un.2.1.un.2.2.2), A4 v4 BJ ((Aj (Tr25.of (2, 0, 0, ([] : List Tr25)))).un.2.2.2.2)]) (List.Sublist.cons_cons _ (List.nil_sublist _)) (List.Sublist.refl _)
  exact ⟨((v3), (v4), (v2)), Aa, F⟩
 have H := Bc (by rw [hb]; decide) H
 rw [hb] at W
 clear hb
 refine Ah (Ab ?_)
 refine ls W F Aa (Ai W Aa).q fun a w W F => ?_
 obtain ⟨x2, h2, H⟩ := Aq H
 refine Bp (Ml := [(q_p0, [v2, .int .i64 x1.2.2])]) (Zl := [row v2 98 AA x1.2.1]) (M := (Df b1)) (Z := []) (β := Value) (rv := fun x => .bool x2.1) (MM := fun x => [(q_p0, [x, .int .i64 x2.2.2])]) (ZZ := fun x => [row x 98 AA x2.2.1]) W F PH Aa Aa (fun hL => Bl _ _ w q_p0 (v2) x1.2 ([105, 100] : List UInt8) _ h2 hL) fun x a w W F => ?_
 obtain ⟨v5, rfl⟩ : ∃ y, y = x := ⟨x, rfl⟩
 have F : Stw ⟨Y, X, w0⟩ [(q_p0, [v5, .int .i64 x2.2.2]), (b1, (BU))] [row v5 98 AA x2.2.1] w := F
 refine ls W F Aa (Ag W Aa).q fun a w W F => ?_
 refine Ae (Ac ?_)
 refine AC W Aa (fun hb => ?_) fun hb => ?_
 ·
  have H := Ba hb H
  rw [hb] at W
  clear hb
  refine Ah (Ab ?_)
  refine ls W F Aa (Cx (v := Value.agg #[.int .i64 1, .int .i64 0, .int .i64 0, .slice none 0 0]) Ry W Aa Aa Aa).q fun a w W F => ?_
  refine Bp (Ml := []) (Zl := []) (M := [(q_p0, [v5, .int .i64 x2.2.2]), (b1, (BU))]) (Z := [row v5 98 AA x2.2.1]) (β := Value × Value) (rv := fun x => .agg #[.int .i64 ((Aj (Tr25.of (1, 0, 0, ([] : List Tr25)))).un.1), .int .i64 ((Aj (Tr25.of (1, 0, 0, ([] : List Tr25)))).un.2.1.un.1), .int .i64 ((Aj (Tr25.of (1, 0, 0, ([] : List Tr25)))).un.2.1.un.2.1), .int .i64 ((Aj (Tr25.of (1, 0, 0, ([] : List Tr25)))).un.2.1.un.2.2.1), x.1, .int .i64 ((Aj (Tr25.of (1, 0, 0, ([] : List Tr25)))).un.2.2.1), .int .i64 ((Aj (Tr25.of (1, 0, 0, ([] : List Tr25)))).un.2.2.2.1), x.2]) (MM := fun x => []) (ZZ := fun x => [A4 x.1 A6 ((Aj (Tr25.of (1, 0, 0, ([] : List Tr25)))).un.2.1.un.2.2.2), row x.2 28 BJ ((Aj (Tr25.of (1, 0, 0, ([] : List Tr25)))).un.2.2.2.2)]) W F SS Aa Aa (fun hL => GM _ w (Value.slice none 0 0) (Tr25.of (1, 0, 0, ([] : List Tr25))) _ Aa Sl.nil) fun x a w W F => ?_
  obtain ⟨v6, v7⟩ := x
  have F : Stw ⟨Y, X, w0⟩ [(q_p0, [v5, .int .i64 x2.2.2]), (b1, (BU))] [A4 v6 A6 ((Aj (Tr25.of (1, 0, 0, ([] : List Tr25)))).un.2.1.un.2.2.2), row v7 28 BJ ((Aj (Tr25.of (1, 0, 0, ([] : List Tr25)))).un.2.2.2.2), row v5 98 AA x2.2.1] w := F
  refine AP (vs := [.int .i64 ((Aj (Tr25.of (1, 0, 0, ([] : List Tr25)))).un.1), .int .i64 ((Aj (Tr25.of (1, 0, 0, ([] : List Tr25)))).un.2.1.un.1), .int .i64 ((Aj (Tr25.of (1, 0, 0, ([] : List Tr25)))).un.2.1.un.2.1), .int .i64 ((Aj (Tr25.of (1, 0, 0, ([] : List Tr25)))).un.2.1.un.2.2.1), v6, .int .i64 ((Aj (Tr25.of (1, 0, 0, ([] : List Tr25)))).un.2.2.1), .int .i64 ((Aj (Tr25.of (1, 0, 0, ([] : List Tr25)))).un.2.2.2.1), v7]) (M' := [(q_p0, [v5, .int .i64 x2.2.2]), (b1, [.int .i64 ((Aj (Tr25.of (1, 0, 0, ([] : List Tr25)))).un.1), .int .i64 ((Aj (Tr25.of (1, 0, 0, ([] : List Tr25)))).un.2.1.un.1), .int .i64 ((Aj (Tr25.of (1, 0, 0, ([] : List Tr25)))).un.2.1.un.2.1), .int .i64 ((Aj (Tr25.of (1, 0, 0, ([] : List Tr25)))).un.2.1.un.2.2.1), v6, .int .i64 ((Aj (Tr25.of (1, 0, 0, ([] : List Tr25)))).un.2.2.1), .int .i64 ((Aj (Tr25.of (1, 0, 0, ([] : List Tr25)))).un.2.2.2.1), v7])]) 1 W F Aa Aa Aa D1 Aa Aa Aa (Af Aa (Af Aa (Af Aa (Af Aa (Af (F.oneF (k := 0) Aa) (Af Aa (Af Aa (Af (F.one (k := 1) Aa) BC)))))))) Aa fun w F => ?_
  refine Ae (Ac (Au (Be (AV ?_))))
  have H := AR H
  subst H
  refine AO (.inl Aa) W F Aa (BD 1 W Aa Aa D1 Aa) ?_
  have F := F.frontZ (i := 1) Aa Aa
  have F := F.freeze
  have F := F.frontZ (i := 1) Aa Aa
  have F := F.frontZ (i := 2) Aa Aa
  have F := F.sub (M' := [(q_p0, [v5, .int .i64 x2.2.2])]) (Z' := [row v5 98 AA x2.2.1, A4 v6 A6 ((Aj (Tr25.of (1, 0, 0, ([] : List Tr25)))).un.2.1.un.2.2.2), A4 v7 BJ ((Aj (Tr25.of (1, 0, 0, ([] : List Tr25)))).un.2.2.2.2)]) (List.Sublist.cons_cons _ (List.nil_sublist _)) (List.Sublist.refl _)
  exact ⟨((v6), (v7), (v5)), Aa, F⟩
 have H := Bc (by rw [hb]; decide) H
 rw [hb] at W
 clear hb
 refine Ah (Ab ?_)
 refine ls W F Aa (Ai W Aa).q fun a w W F => ?_
 obtain ⟨x3, h3, H⟩ := Aq H
 refine Bp (Ml := [(q_p0, [v5, .int .i64 x2.2.2])]) (Zl := [row v5 98 AA x2.2.1]) (M := (Df b1)) (Z := []) (β := Value) (rv := fun x => .bool x3.1) (MM := fun x => [(q_p0, [x, .int .i64 x3.2.2])]) (ZZ := fun x => [row x 98 AA x3.2.1]) W F PH Aa Aa (fun hL => Bl _ _ w q_p0 (v5) x2.2 ([119, 104, 101, 110] : List UInt8) _ h3 hL) fun x a w W F => ?_
 obtain ⟨v8, rfl⟩ : ∃ y, y = x := ⟨x, rfl⟩
 have F : Stw ⟨Y, X, w0⟩ [(q_p0, [v8, .int .i64 x3.2.2]), (b1, (BU))] [row v8 98 AA x3.2.1] w := F
 refine ls W F Aa (Ag W Aa).q fun a w W F => ?_
 refine Ae (Ac ?_)
 refine AC W Aa (fun hb => ?_) fun hb => ?_
 ·
  have H := Ba hb H
  rw [hb] at W
  clear hb
  refine Ah (Ab ?_)
  refine ls W F Aa (Ai W Aa).q fun a w W F => ?_
  obtain ⟨x4, h4, H⟩ := Aq H
  rcases x4 with x5 | x6
  ·
   have H := EZ H
   refine Bp (Ml := [(q_p0, [v8, .int .i64 x3.2.2])]) (Zl := [row v8 98 AA x3.2.1]) (M := (Df b1)) (Z := []) (β := Value × Value) (rv := fun x => .agg #[.int .i64 x5.1.un.1, .int .i64 x5.1.un.2.1, .int .i64 x5.1.un.2.2.1, x.1]) (MM := fun x => [(q_p0, [x.2, .int .i64 x5.2.2])]) (ZZ := fun x => [row x.2 98 AA x5.2.1, A4 x.1 A6 x5.1.un.2.2.2]) W F S8 Aa Aa (fun hL => C3 _ _ w q_p0 (v8) x3.2 _ h4 hL) fun x a w W F => ?_
   obtain ⟨v9, v10⟩ := x
   have F : Stw ⟨Y, X, w0⟩ [(q_p0, [v10, .int .i64 x5.2.2]), (b1, (BU))] [row v10 98 AA x5.2.1, A4 v9 A6 x5.1.un.2.2.2] w := F
   refine Bp (Ml := []) (Zl := []) (M := [(q_p0, [v10, .int .i64 x5.2.2]), (b1, (BU))]) (Z := [row v10 98 AA x5.2.1, A4 v9 A6 x5.1.un.2.2.2]) (β := Value × Value) (rv := fun x => .agg #[.int .i64 ((Aj x5.1).un.1), .int .i64 ((Aj x5.1).un.2.1.un.1), .int .i64 ((Aj x5.1).un.2.1.un.2.1), .int .i64 ((Aj x5.1).un.2.1.un.2.2.1), x.1, .int .i64 ((Aj x5.1).un.2.2.1), .int .i64 ((Aj x5.1).un.2.2.2.1), x.2]) (MM := fun x => []) (ZZ := fun x => [A4 x.1 A6 ((Aj x5.1).un.2.1.un.2.2.2), row x.2 28 BJ ((Aj x5.1).un.2.2.2.2)]) W F SS Aa Aa (fun hL => GM _ w (v9) x5.1 _ Aa (F.item (i := 1) Aa)) fun x a w W F => ?_
   obtain ⟨v11, v12⟩ := x
   have F : Stw ⟨Y, X, w0⟩ [(q_p0, [v10, .int .i64 x5.2.2]), (b1, (BU))] [A4 v11 A6 ((Aj x5.1).un.2.1.un.2.2.2), row v12 28 BJ ((Aj x5.1).un.2.2.2.2), row v10 98 AA x5.2.1, A4 v9 A6 x5.1.un.2.2.2] w := F
   refine AP (vs := (St x5 v11 v12)) (M' := [(q_p0, [v10, .int .i64 x5.2.2]), (b1, (St x5 v11 v12))]) 1 W F Aa Aa Aa D1 Aa Aa Aa (Af Aa (Af Aa (Af Aa (Af Aa (Af (F.oneF (k := 0) Aa) (Af Aa (Af Aa (Af (F.one (k := 1) Aa) BC)))))))) Aa fun w F => ?_
   refine Ae (Ac (Au (Be (AV ?_))))
   have H := AR H
   subst H
   refine AO (.inl Aa) W F Aa (BD 1 W Aa Aa D1 Aa) ?_
   have F := F.frontZ (i := 1) Aa Aa
   have F := F.freeze
   have F := F.frontZ (i := 1) Aa Aa
   have F := F.frontZ (i := 2) Aa Aa
   have F := F.sub (M' := [(q_p0, [v10, .int .i64 x5.2.2])]) (Z' := [row v10 98 AA x5.2.1, A4 v11 A6 ((Aj x5.1).un.2.1.un.2.2.2), A4 v12 BJ ((Aj x5.1).un.2.2.2.2)]) (List.Sublist.cons_cons _ (List.nil_sublist _)) (List.Sublist.cons_cons _ (List.Sublist.cons_cons _ (List.Sublist.cons_cons _ (List.nil_sublist _))))
   exact ⟨((v11), (v12), (v10)), Aa, F⟩
  have H := EW H
  refine Cj (Ml := [(q_p0, [v8, .int .i64 x3.2.2])]) (Zl := [row v8 98 AA x3.2.1]) (M := (Df b1)) (Z := []) (β := Value) (pv := fun x => .iface 89 (.agg #[.int .i64 x6.1.1, .int .i64 x6.1.2])) (MM := fun x => [(q_p0, [x, .int .i64 x6.2.2])]) (ZZ := fun x => [row x 98 AA x6.2.1]) W F S8 Aa (fun hL => C3 _ _ w q_p0 (v8) x3.2 _ h4 hL) fun x w F => ?_
  obtain ⟨v13, rfl⟩ : ∃ y, y = x := ⟨x, rfl⟩
  have F : Stw ⟨Y, X, w0⟩ [(q_p0, [v13, .int .i64 x6.2.2]), (b1, (BU))] [row v13 98 AA x6.2.1] w := F
  refine BW (Ep (BW ?_))
  have H := AR H
  subst H
  refine Bi W ?_
  have F := F.sub (M' := [(q_p0, [v13, .int .i64 x6.2.2])]) (Z' := [row v13 98 AA x6.2.1]) (List.Sublist.cons_cons _ (List.nil_sublist _)) (List.Sublist.refl _)
  exact ⟨(v13), Aa, F⟩
 have H := Bc (by rw [hb]; decide) H
 rw [hb] at W
 clear hb
 refine Ah (Ab ?_)
 refine ls W F Aa (Ai W Aa).q fun a w W F => ?_
 obtain ⟨x7, h5, H⟩ := Aq H
 refine Bp (Ml := [(q_p0, [v8, .int .i64 x3.2.2])]) (Zl := [row v8 98 AA x3.2.1]) (M := (Df b1)) (Z := []) (β := Value) (rv := fun x => .bool x7.1) (MM := fun x => [(q_p0, [x, .int .i64 x7.2.2])]) (ZZ := fun x => [row x 98 AA x7.2.1]) W F PH Aa Aa (fun hL => Bl _ _ w q_p0 (v8) x3.2 ([105, 102] : List UInt8) _ h5 hL) fun x a w W F => ?_
 obtain ⟨v14, rfl⟩ : ∃ y, y = x := ⟨x, rfl⟩
 have F : Stw ⟨Y, X, w0⟩ [(q_p0, [v14, .int .i64 x7.2.2]), (b1, (BU))] [row v14 98 AA x7.2.1] w := F
 refine ls W F Aa (Ag W Aa).q fun a w W F => ?_
 refine Ae (Ac ?_)
 refine AC W Aa (fun hb => ?_) fun hb => ?_
 ·
  have H := Ba hb H
  rw [hb] at W
  clear hb
  refine Ah (Ab ?_)
  refine ls W F Aa (Ai W Aa).q fun a w W F => ?_
  obtain ⟨x8, h6, H⟩ := Aq H
  rcases x8 with x9 | x10
  ·
   have H := EZ H
   refine Bp (Ml := [(q_p0, [v14, .int .i64 x7.2.2])]) (Zl := [row v14 98 AA x7.2.1]) (M := (Df b1)) (Z := []) (β := Value × Value × Value) (rv := fun x => .agg #[.int .i64 x9.1.un.1, .int .i64 x9.1.un.2.1.un.1, .int .i64 x9.1.un.2.1.un.2.1, .int .i64 x9.1.un.2.1.un.2.2.1, x.1, .int .i64 x9.1.un.2.2.1, .int .i64 x9.1.un.2.2.2.1, x.2.1]) (MM := fun x => [(q_p0, [x.2.2, .int .i64 x9.2.2])]) (ZZ := fun x => [row x.2.2 98 AA x9.2.1, A4 x.1 A6 x9.1.un.2.1.un.2.2.2, row x.2.1 28 BJ x9.1.un.2.2.2.2]) W F Tt Aa Aa (fun hL => (FQ fRec ih) _ _ w q_p0 (v14) x7.2 _ h6 hL) fun x a w W F => ?_
   obtain ⟨v15, v16, v17⟩ := x
   have F : Stw ⟨Y, X, w0⟩ [(q_p0, [v17, .int .i64 x9.2.2]), (b1, (BU))] [row v17 98 AA x9.2.1, A4 v15 A6 x9.1.un.2.1.un.2.2.2, row v16 28 BJ x9.1.un.2.2.2.2] w := F
   refine AP (vs := (DM x9 v15 v16)) (M' := [(q_p0, [v17, .int .i64 x9.2.2]), (b1, (DM x9 v15 v16))]) 1 W F Aa Aa Aa D1 Aa Aa Aa (Af Aa (Af Aa (Af Aa (Af Aa (Af (F.oneF (k := 1) Aa) (Af Aa (Af Aa (Af (F.one (k := 2) Aa) BC)))))))) Aa fun w F => ?_
   refine Ae (Ac (Au (Be (AV ?_))))
   have H := AR H
   subst H
   refine AO (.inl Aa) W F Aa (BD 1 W Aa Aa D1 Aa) ?_
   have F := F.frontZ (i := 2) Aa Aa
   have F := F.freeze
   have F := F.frontZ (i := 2) Aa Aa
   have F := F.frontZ (i := 2) Aa Aa
   have F := F.sub (M' := [(q_p0, [v17, .int .i64 x9.2.2])]) (Z' := [row v17 98 AA x9.2.1, A4 v15 A6 x9.1.un.2.1.un.2.2.2, A4 v16 BJ x9.1.un.2.2.2.2]) (List.Sublist.cons_cons _ (List.nil_sublist _)) (List.Sublist.refl _)
   exact ⟨((v15), (v16), (v17)), Aa, F⟩
  have H := EW H
  refine Cj (Ml := [(q_p0, [v14, .int .i64 x7.2.2])]) (Zl := [row v14 98 AA x7.2.1]) (M := (Df b1)) (Z := []) (β := Value) (pv := fun x => .iface 89 (.agg #[.int .i64 x10.1.1, .int .i64 x10.1.2])) (MM := fun x => [(q_p0, [x, .int .i64 x10.2.2])]) (ZZ := fun x => [row x 98 AA x10.2.1]) W F Tt Aa (fun hL => (FQ fRec ih) _ _ w q_p0 (v14) x7.2 _ h6 hL) fun x w F => ?_
  obtain ⟨v18, rfl⟩ : ∃ y, y = x := ⟨x, rfl⟩
  have F : Stw ⟨Y, X, w0⟩ [(q_p0, [v18, .int .i64 x10.2.2]), (b1, (BU))] [row v18 98 AA x10.2.1] w := F
  refine BW (Ep (BW ?_))
  have H := AR H
  subst H
  refine Bi W ?_
  have F := F.sub (M' := [(q_p0, [v18, .int .i64 x10.2.2])]) (Z' := [row v18 98 AA x10.2.1]) (List.Sublist.cons_cons _ (List.nil_sublist _)) (List.Sublist.refl _)
  exact ⟨(v18), Aa, F⟩
 have H := Bc (by rw [hb]; decide) H
 rw [hb] at W
 clear hb
 refine Ah (Ab ?_)
 refine ls W F Aa (Ai W Aa).q fun a w W F => ?_
 obtain ⟨x11, h7, H⟩ := Aq H
 refine Bp (Ml := [(q_p0, [v14, .int .i64 x7.2.2])]) (Zl := [row v14 98 AA x7.2.1]) (M := (Df b1)) (Z := []) (β := Value) (rv := fun x => .bool x11.1) (MM := fun x => [(q_p0, [x, .int .i64 x11.2.2])]) (ZZ := fun x => [row x 98 AA x11.2.1]) W F PH Aa Aa (fun hL => Bl _ _ w q_p0 (v14) x7.2 ([40] : List UInt8) _ h7 hL) fun x a w W F => ?_
 obtain ⟨v19, rfl⟩ : ∃ y, y = x := ⟨x, rfl⟩
 have F : Stw ⟨Y, X, w0⟩ [(q_p0, [v19, .int .i64 x11.2.2]), (b1, (BU))] [row v19 98 AA x11.2.1] w := F
 refine ls W F Aa (Ag W Aa).q fun a w W F => ?_
 refine Ae (Ac ?_)
 refine AC W Aa (fun hb => ?_) fun hb => ?_
 ·
  have H := Ba hb H
  rw [hb] at W
  clear hb
  refine Ah (Ab ?_)
  refine ls W F Aa (Ai W Aa).q fun a w W F => ?_
  obtain ⟨x12, h8, H⟩ := Aq H
  rcases x12 with x13 | x14
  ·
   have H := EZ H
   refine Bp (Ml := [(q_p0, [v19, .int .i64 x11.2.2])]) (Zl := [row v19 98 AA x11.2.1]) (M := (Df b1)) (Z := []) (β := Value × Value × Value) (rv := fun x => .agg #[.int .i64 x13.1.un.1, .int .i64 x13.1.un.2.1.un.1, .int .i64 x13.1.un.2.1.un.2.1, .int .i64 x13.1.un.2.1.un.2.2.1, x.1, .int .i64 x13.1.un.2.2.1, .int .i64 x13.1.un.2.2.2.1, x.2.1]) (MM := fun x => [(q_p0, [x.2.2, .int .i64 x13.2.2])]) (ZZ := fun x => [row x.2.2 98 AA x13.2.1, A4 x.1 A6 x13.1.un.2.1.un.2.2.2, A4 x.2.1 BJ x13.1.un.2.2.2.2]) W F TP Aa Aa (fun hL => ih_parse_parser_policy _ _ w q_p0 (v19) x11.2 _ h8 hL) fun x a w W F => ?_
   obtain ⟨v20, v21, v22⟩ := x
   have F : Stw ⟨Y, X, w0⟩ [(q_p0, [v22, .int .i64 x13.2.2]), (b1, (BU))] [row v22 98 AA x13.2.1, A4 v20 A6 x13.1.un.2.1.un.2.2.2, A4 v21 BJ x13.1.un.2.2.2.2] w := F
   refine BA (cs := (BU)) W F Aa JT Aa fun b2 a w W F => ?_
   refine AP (vs := (DM x13 v20 v21)) (M' := [(b2, [.int .i64 x13.1.un.1, .int .i64 x13.1.un.2.1.un.1, .int .i64 x13.1.un.2.1.un.2.1, .int .i64 x13.1.un.2.1.un.2.2.1, v20, .int .i64 x13.1.un.2.2.1, .int .i64 x13.1.un.2.2.2.1, v21]), (q_p0, [v22, .int .i64 x13.2.2]), (b1, [.int .i64 0, .int .i64 0, .int .i64 0, .int .i64 0, .slice none 0 0, .int .i64 0, .int .i64 0, .slice none 0 0])]) 0 W F Aa Aa Aa D1 Aa Aa Aa (Af Aa (Af Aa (Af Aa (Af Aa (Af (F.oneF (k := 1) Aa) (Af Aa (Af Aa (Af (F.oneF (k := 2) Aa) BC)))))))) Aa fun w F => ?_
   refine Ae (Ac (Ah (Ab ?_)))
   refine ls W F Aa (Ai W Aa).q fun a w W F => ?_
   obtain ⟨x15, h9, H⟩ := Aq H
   rcases x15 with x16 | x17
   ·
    have H := EZ H
    have F := F.frontM (i := 1) Aa Aa
    refine Bp (Ml := [(q_p0, [v22, .int .i64 x13.2.2])]) (Zl := [row v22 98 AA x13.2.1]) (M := (Sr b2 x13 v20 v21 b1)) (Z := [A4 v20 A6 x13.1.un.2.1.un.2.2.2, A4 v21 BJ x13.1.un.2.2.2.2]) (β := Value) (rv := fun x => .tuple #[]) (MM := fun x => [(q_p0, [x, .int .i64 x16.2])]) (ZZ := fun x => [row x 98 AA x16.1]) W F Lh Aa Aa (fun hL => BB _ _ w q_p0 (v22) x13.2 ([41] : List UInt8) _ h9 hL) fun x a w W F => ?_
    obtain ⟨v23, rfl⟩ : ∃ y, y = x := ⟨x, rfl⟩
    have F : Stw ⟨Y, X, w0⟩ [(q_p0, [v23, .int .i64 x16.2]), (b2, (DM x13 v20 v21)), (b1, (BU))] [row v23 98 AA x16.1, A4 v20 A6 x13.1.un.2.1.un.2.2.2, A4 v21 BJ x13.1.un.2.2.2.2] w := F
    refine Ae (Ac (Ah (Ab ?_)))
    refine ls W F Aa (Aw (v := Value.agg #[.int .i64 x13.1.un.1, .int .i64 x13.1.un.2.1.un.1, .int .i64 x13.1.un.2.1.un.2.1, .int .i64 x13.1.un.2.1.un.2.2.1, v20, .int .i64 x13.1.un.2.2.1, .int .i64 x13.1.un.2.2.2.1, v21]) 1 W Aa Aa D1 Aa).q fun a w W F => ?_
    refine AP (vs := (DM x13 v20 v21)) (M' := [(q_p0, [v23, .int .i64 x16.2]), (b2, (DM x13 v20 v21)), (b1, (DM x13 v20 v21))]) 2 W F Aa Aa Aa D1 Aa Aa Aa (Af Aa (Af Aa (Af Aa (Af Aa (Af (F.oneF (k := 1) Aa) (Af Aa (Af Aa (Af (F.oneF (k := 2) Aa) BC)))))))) Aa fun w F => ?_
    refine Ae (Ac (Au (Be (AV ?_))))
    have H := AR H
    subst H
    refine AO (.inl Aa) W F Aa (BD 2 W Aa Aa D1 Aa) ?_
    have F := F.frontZ (i := 2) Aa Aa
    have F := F.frontZ (i := 2) Aa Aa
    have F := F.frontZ (i := 2) Aa Aa
    have F := F.sub (M' := [(q_p0, [v23, .int .i64 x16.2])]) (Z' := [row v23 98 AA x16.1, A4 v20 A6 x13.1.un.2.1.un.2.2.2, A4 v21 BJ x13.1.un.2.2.2.2]) (List.Sublist.cons_cons _ (List.nil_sublist _)) (List.Sublist.refl _)
    exact ⟨((v20), (v21), (v23)), Aa, F⟩
   have H := EW H
   have F := F.frontM (i := 1) Aa Aa
   refine Cj (Ml := [(q_p0, [v22, .int .i64 x13.2.2])]) (Zl := [row v22 98 AA x13.2.1]) (M := (Sr b2 x13 v20 v21 b1)) (Z := [A4 v20 A6 x13.1.un.2.1.un.2.2.2, A4 v21 BJ x13.1.un.2.2.2.2]) (β := Value) (pv := fun x => .iface 89 (.agg #[.int .i64 x17.1.1, .int .i64 x17.1.2])) (MM := fun x => [(q_p0, [x, .int .i64 x17.2.2])]) (ZZ := fun x => [row x 98 AA x17.2.1]) W F Lh Aa (fun hL => BB _ _ w q_p0 (v22) x13.2 ([41] : List UInt8) _ h9 hL) fun x w F => ?_
   obtain ⟨v24, rfl⟩ : ∃ y, y = x := ⟨x, rfl⟩
   have F : Stw ⟨Y, X, w0⟩ [(q_p0, [v24, .int .i64 x17.2.2]), (b2, (DM x13 v20 v21)), (b1, (BU))] [row v24 98 AA x17.2.1, A4 v20 A6 x13.1.un.2.1.un.2.2.2, A4 v21 BJ x13.1.un.2.2.2.2] w := F
   refine BW (Ep (BW ?_))
   have H := AR H
   subst H
   refine Bi W ?_
   have F := F.sub (M' := [(q_p0, [v24, .int .i64 x17.2.2])]) (Z' := [row v24 98 AA x17.2.1]) (List.Sublist.cons_cons _ (List.nil_sublist _)) (List.Sublist.cons_cons _ (List.nil_sublist _))
   exact ⟨(v24), Aa, F⟩
  have H := EW H
  refine Cj (Ml := [(q_p0, [v19, .int .i64 x11.2.2])]) (Zl := [row v19 98 AA x11.2.1]) (M := (Df b1)) (Z := []) (β := Value) (pv := fun x => .iface 89 (.agg #[.int .i64 x14.1.1, .int .i64 x14.1.2])) (MM := fun x => [(q_p0, [x, .int .i64 x14.2.2])]) (ZZ := fun x => [row x 98 AA x14.2.1]) W F TP Aa (fun hL => ih_parse_parser_policy _ _ w q_p0 (v19) x11.2 _ h8 hL) fun x w F => ?_
  obtain ⟨v25, rfl⟩ : ∃ y, y = x := ⟨x, rfl⟩
  have F : Stw ⟨Y, X, w0⟩ [(q_p0, [v25, .int .i64 x14.2.2]), (b1, (BU))] [row v25 98 AA x14.2.1] w := F
  refine BW (Ep (BW ?_))
  have H := AR H
  subst H
  refine Bi W ?_
  have F := F.sub (M' := [(q_p0, [v25, .int .i64 x14.2.2])]) (Z' := [row v25 98 AA x14.2.1]) (List.Sublist.cons_cons _ (List.nil_sublist _)) (List.Sublist.refl _)
  exact ⟨(v25), Aa, F⟩
 have H := Bc (by rw [hb]; decide) H
 rw [hb] at W
 clear hb
 refine AM (BI (Ac (Ah (Ab ?_))))
 refine ls W F Aa (Ai W Aa).q fun a w W F => ?_
 obtain ⟨x18, h10, H⟩ := Aq H
 rcases x18 with x19 | x20
 ·
  have H := EZ H
  refine Bp (Ml := [(q_p0, [v19, .int .i64 x11.2.2])]) (Zl := [row v19 98 AA x11.2.1]) (M := (Df b1)) (Z := []) (β := Value) (rv := fun x => .int .i64 x19.1) (MM := fun x => [(q_p0, [x, .int .i64 x19.2.2])]) (ZZ := fun x => [row x 98 AA x19.2.1]) W F Rr Aa Aa (fun hL => DO _ _ w q_p0 (v19) x11.2 4 _ h10 hL) fun x a w W F => ?_
  obtain ⟨v26, rfl⟩ : ∃ y, y = x := ⟨x, rfl⟩
  have F : Stw ⟨Y, X, w0⟩ [(q_p0, [v26, .int .i64 x19.2.2]), (b1, (BU))] [row v26 98 AA x19.2.1] w := F
  refine ls W F Aa (Ag W Aa).q fun a w W F => ?_
  refine Ae (Ac (Ah (Ab ?_)))
  refine ls W F Aa (Ai W Aa).q fun a w W F => ?_
  obtain ⟨x21, h11, H⟩ := Aq H
  rcases x21 with x22 | x23
  ·
   have H := EZ H
   refine Bp (Ml := [(q_p0, [v26, .int .i64 x19.2.2])]) (Zl := [row v26 98 AA x19.2.1]) (M := (Df b1)) (Z := []) (β := Value) (rv := fun x => .tuple #[]) (MM := fun x => [(q_p0, [x, .int .i64 x22.2])]) (ZZ := fun x => [row x 98 AA x22.1]) W F Lh Aa Aa (fun hL => BB _ _ w q_p0 (v26) x19.2 ([58, 61] : List UInt8) _ h11 hL) fun x a w W F => ?_
   obtain ⟨v27, rfl⟩ : ∃ y, y = x := ⟨x, rfl⟩
   have F : Stw ⟨Y, X, w0⟩ [(q_p0, [v27, .int .i64 x22.2]), (b1, (BU))] [row v27 98 AA x22.1] w := F
   refine Ae (Ac (Ah (Ab ?_)))
   iterate 2 refine ls W F Aa (Ai W Aa).q fun a w W F => ?_
   obtain ⟨x24, h12, H⟩ := Aq H
   rcases x24 with x25 | x26
   ·
    have H := EZ H
    refine Bp (Ml := [(q_p0, [v27, .int .i64 x22.2])]) (Zl := [row v27 98 AA x22.1]) (M := (Df b1)) (Z := []) (β := Value) (rv := fun x => .int .i64 x25.1) (MM := fun x => [(q_p0, [x, .int .i64 x25.2.2])]) (ZZ := fun x => [row x 98 AA x25.2.1]) W F RP Aa Aa (fun hL => Dz _ _ w q_p0 (v27) x22 _ h12 hL) fun x a w W F => ?_
    obtain ⟨v28, rfl⟩ : ∃ y, y = x := ⟨x, rfl⟩
    have F : Stw ⟨Y, X, w0⟩ [(q_p0, [v28, .int .i64 x25.2.2]), (b1, (BU))] [row v28 98 AA x25.2.1] w := F
    refine ls W F Aa (Cx (v := Value.agg #[.int .i64 2, .int .i64 0, .int .i64 0, .int .i64 0, .slice none 0 0, .int .i64 x19.1, .int .i64 x25.1, .slice none 0 0]) S6 W Aa Aa Aa).q fun a w W F => ?_
    refine AP (vs := [.int .i64 2, .int .i64 0, .int .i64 0, .int .i64 0, .slice none 0 0, .int .i64 x19.1, .int .i64 x25.1, .slice none 0 0]) (M' := [(q_p0, [v28, .int .i64 x25.2.2]), (b1, [.int .i64 2, .int .i64 0, .int .i64 0, .int .i64 0, .slice none 0 0, .int .i64 x19.1, .int .i64 x25.1, .slice none 0 0])]) 1 W F Aa Aa Aa D1 Aa Aa Aa Aa Aa fun w F => ?_
    refine Ae (Ac (Au ?_))
    have H := AR H
    subst H
    refine AO (.inl Aa) W F Aa (BD 1 W Aa Aa D1 Aa) ?_
    have F := F.note (Sl.nil (r := A6))
    have F := F.note (Sl.nil (r := BJ))
    have F := F.frontZ (i := 1) Aa Aa
    have F := F.frontZ (i := 2) Aa Aa
    have F := F.sub (M' := [(q_p0, [v28, .int .i64 x25.2.2])]) (Z' := [row v28 98 AA x25.2.1, A4 (Value.slice none 0 0) A6 ([]), A4 (Value.slice none 0 0) BJ ([])]) (List.Sublist.cons_cons _ (List.nil_sublist _)) (List.Sublist.refl _)
    exact ⟨((Value.slice none 0 0), (Value.slice none 0 0), (v28)), Aa, F⟩
   have H := EW H
   refine Cj (Ml := [(q_p0, [v27, .int .i64 x22.2])]) (Zl := [row v27 98 AA x22.1]) (M := (Df b1)) (Z := []) (β := Value) (pv := fun x => .iface 89 (.agg #[.int .i64 x26.1.1, .int .i64 x26.1.2])) (MM := fun x => [(q_p0, [x, .int .i64 x26.2.2])]) (ZZ := fun x => [row x 98 AA x26.2.1]) W F RP Aa (fun hL => Dz _ _ w q_p0 (v27) x22 _ h12 hL) fun x w F => ?_
   obtain ⟨v29, rfl⟩ : ∃ y, y = x := ⟨x, rfl⟩
   have F : Stw ⟨Y, X, w0⟩ [(q_p0, [v29, .int .i64 x26.2.2]), (b1, (BU))] [row v29 98 AA x26.2.1] w := F
   refine BW ?_
   have H := AR H
   subst H
   refine Bi W ?_
   have F := F.sub (M' := [(q_p0, [v29, .int .i64 x26.2.2])]) (Z' := [row v29 98 AA x26.2.1]) (List.Sublist.cons_cons _ (List.nil_sublist _)) (List.Sublist.refl _)
   exact ⟨(v29), Aa, F⟩
  have H := EW H
  refine Cj (Ml := [(q_p0, [v26, .int .i64 x19.2.2])]) (Zl := [row v26 98 AA x19.2.1]) (M := (Df b1)) (Z := []) (β := Value) (pv := fun x => .iface 89 (.agg #[.int .i64 x23.1.1, .int .i64 x23.1.2])) (MM := fun x => [(q_p0, [x, .int .i64 x23.2.2])]) (ZZ := fun x => [row x 98 AA x23.2.1]) W F Lh Aa (fun hL => BB _ _ w q_p0 (v26) x19.2 ([58, 61] : List UInt8) _ h11 hL) fun x w F => ?_
  obtain ⟨v30, rfl⟩ : ∃ y, y = x := ⟨x, rfl⟩
  have F : Stw ⟨Y, X, w0⟩ [(q_p0, [v30, .int .i64 x23.2.2]), (b1, (BU))] [row v30 98 AA x23.2.1] w := F
  refine BW ?_
  have H := AR H
  subst H
  refine Bi W ?_
  have F := F.sub (M' := [(q_p0, [v30, .int .i64 x23.2.2])]) (Z' := [row v30 98 AA x23.2.1]) (List.Sublist.cons_cons _ (List.nil_sublist _)) (List.Sublist.refl _)
  exact ⟨(v30), Aa, F⟩
 have H := EW H
 refine Cj (Ml := [(q_p0, [v19, .int .i64 x11.2.2])]) (Zl := [row v19 98 AA x11.2.1]) (M := (Df b1)) (Z := []) (β := Value) (pv := fun x => .iface 89 (.agg #[.int .i64 x20.1.1, .int .i64 x20.1.2])) (MM := fun x => [(q_p0, [x, .int .i64 x20.2.2])]) (ZZ := fun x => [row x 98 AA x20.2.1]) W F Rr Aa (fun hL => DO _ _ w q_p0 (v19) x11.2 4 _ h10 hL) fun x w F => ?_
 obtain ⟨v31, rfl⟩ : ∃ y, y = x := ⟨x, rfl⟩
 have F : Stw ⟨Y, X, w0⟩ [(q_p0, [v31, .int .i64 x20.2.2]), (b1, (BU))] [row v31 98 AA x20.2.1] w := F
 refine BW ?_
 have H := AR H
 subst H
 refine Bi W ?_
 have F := F.sub (M' := [(q_p0, [v31, .int .i64 x20.2.2])]) (Z' := [row v31 98 AA x20.2.1]) (List.Sublist.cons_cons _ (List.nil_sublist _)) (List.Sublist.refl _)
 exact ⟨(v31), Aa, F⟩
theorem I5 (fRec_parse_parser_policy : ((List (Int × Int × List UInt8 × Int)) × Int) → Option ((Tr28 × ((List (Int × Int × List UInt8 × Int)) × Int)) ⊕ ((Int × Int) × ((List (Int × Int × List UInt8 × Int)) × Int)))) (ih_parse_parser_policy : ∀ (Y : Nat → Prop) (X : List Nat) (w0 : World) (q_p0 : Nat) (v1 : Value) (p0 : (List (Int × Int × List UInt8 × Int)) × Int) (r : (Tr28 × ((List (Int × Int × List UInt8 × Int)) × Int)) ⊕ ((Int × Int) × ((List (Int × Int × List UInt8 × Int)) × Int))) (H : fRec_parse_parser_policy p0 = some r) (hL : Stw ⟨Y, X, w0⟩ [(q_p0, [v1, .int .i64 p0.2])] [row v1 98 AA p0.1] w0), Calls Tryd.prog 28 #[.pointer (some ⟨q_p0, 0, none⟩)] w0 fun e w' => D8 r (fun r => ∃ x : Value × Value × Value, e = .returned (.agg #[.int .i64 r.1.un.1, .int .i64 r.1.un.2.1.un.1, .int .i64 r.1.un.2.1.un.2.1, .int .i64 r.1.un.2.1.un.2.2.1, x.1, .int .i64 r.1.un.2.2.1, .int .i64 r.1.un.2.2.2.1, x.2.1]) ∧ Stw ⟨Y, X, w0⟩ [(q_p0, [x.2.2, .int .i64 r.2.2])] [row (x.2.2) 98 AA r.2.1, A4 (x.1) A6 r.1.un.2.1.un.2.2.2, A4 (x.2.1) BJ r.1.un.2.2.2.2] w') (fun r => ∃ x : Value, e = .panicked [{ v := .iface 89 (.agg #[.int .i64 r.1.1, .int .i64 r.1.2]), recovered := false }] ∧ Stw ⟨Y, X, w0⟩ [(q_p0, [x, .int .i64 r.2.2])] [row (x) 98 AA r.2.1] w')) : ∀ (n : Nat) (Y : Nat → Prop) (X : List Nat) (w0 : World) (q_p0 : Nat) (v1 : Value) (p0 : (List (Int × Int × List UInt8 × Int)) × Int) (r : (Tr28 × ((List (Int × Int × List UInt8 × Int)) × Int)) ⊕ ((Int × Int) × ((List (Int × Int × List UInt8 × Int)) × Int))) (H : AB fRec_parse_parser_policy n p0 = some r) (hL : Stw ⟨Y, X, w0⟩ [(q_p0, [v1, .int .i64 p0.2])] [row v1 98 AA p0.1] w0), Calls Tryd.prog 84 #[.pointer (some ⟨q_p0, 0, none⟩)] w0 fun e w' => D8 r (fun r => ∃ x : Value × Value × Value, e = .returned (.agg #[.int .i64 r.1.un.1, .int .i64 r.1.un.2.1.un.1, .int .i64 r.1.un.2.1.un.2.1, .int .i64 r.1.un.2.1.un.2.2.1, x.1, .int .i64 r.1.un.2.2.1, .int .i64 r.1.un.2.2.2.1, x.2.1]) ∧ Stw ⟨Y, X, w0⟩ [(q_p0, [x.2.2, .int .i64 r.2.2])] [row (x.2.2) 98 AA r.2.1, A4 (x.1) A6 r.1.un.2.1.un.2.2.2, A4 (x.2.1) BJ r.1.un.2.2.2.2] w') (fun r => ∃ x : Value, e = .panicked [{ v := .iface 89 (.agg #[.int .i64 r.1.1, .int .i64 r.1.2]), recovered := false }] ∧ Stw ⟨Y, X, w0⟩ [(q_p0, [x, .int .i64 r.2.2])] [row (x) 98 AA r.2.1] w') := by
  intro n
  induction n with
  | zero => intro Y X w0 q_p0 v1 p0 r H; exact nomatch H
  | succ n ih => intro Y X w0 q_p0 v1 p0 r H hL; exact Iy fRec_parse_parser_policy ih_parse_parser_policy (AB fRec_parse_parser_policy n) ih Y X w0 q_p0 v1 p0 r H hL
theorem D5 (fRec_parse_parser_policy : ((List (Int × Int × List UInt8 × Int)) × Int) → Option ((Tr28 × ((List (Int × Int × List UInt8 × Int)) × Int)) ⊕ ((Int × Int) × ((List (Int × Int × List UInt8 × Int)) × Int)))) (ih_parse_parser_policy : ∀ (Y : Nat → Prop) (X : List Nat) (w0 : World) (q_p0 : Nat) (v1 : Value) (p0 : (List (Int × Int × List UInt8 × Int)) × Int) (r : (Tr28 × ((List (Int × Int × List UInt8 × Int)) × Int)) ⊕ ((Int × Int) × ((List (Int × Int × List UInt8 × Int)) × Int))) (H : fRec_parse_parser_policy p0 = some r) (hL : Stw ⟨Y, X, w0⟩ [(q_p0, [v1, .int .i64 p0.2])] [row v1 98 AA p0.1] w0), Calls Tryd.prog 28 #[.pointer (some ⟨q_p0, 0, none⟩)] w0 fun e w' => D8 r (fun r => ∃ x : Value × Value × Value, e = .returned (.agg #[.int .i64 r.1.un.1, .int .i64 r.1.un.2.1.un.1, .int .i64 r.1.un.2.1.un.2.1, .int .i64 r.1.un.2.1.un.2.2.1, x.1, .int .i64 r.1.un.2.2.1, .int .i64 r.1.un.2.2.2.1, x.2.1]) ∧ Stw ⟨Y, X, w0⟩ [(q_p0, [x.2.2, .int .i64 r.2.2])] [row (x.2.2) 98 AA r.2.1, A4 (x.1) A6 r.1.un.2.1.un.2.2.2, A4 (x.2.1) BJ r.1.un.2.2.2.2] w') (fun r => ∃ x : Value, e = .panicked [{ v := .iface 89 (.agg #[.int .i64 r.1.1, .int .i64 r.1.2]), recovered := false }] ∧ Stw ⟨Y, X, w0⟩ [(q_p0, [x, .int .i64 r.2.2])] [row (x) 98 AA r.2.1] w')) (Y : Nat → Prop) (X : List Nat) (w0 : World) (q_p0 : Nat) (v1 : Value) (p0 : (List (Int × Int × List UInt8 × Int)) × Int) (r : (Tr28 × ((List (Int × Int × List UInt8 × Int)) × Int)) ⊕ ((Int × Int) × ((List (Int × Int × List UInt8 × Int)) × Int))) (H : Bu fRec_parse_parser_policy p0 = some r) (hL : Stw ⟨Y, X, w0⟩ [(q_p0, [v1, .int .i64 p0.2])] [row v1 98 AA p0.1] w0) :
    Calls Tryd.prog 84 #[.pointer (some ⟨q_p0, 0, none⟩)] w0 fun e w' => D8 r (fun r => ∃ x : Value × Value × Value, e = .returned (.agg #[.int .i64 r.1.un.1, .int .i64 r.1.un.2.1.un.1, .int .i64 r.1.un.2.1.un.2.1, .int .i64 r.1.un.2.1.un.2.2.1, x.1, .int .i64 r.1.un.2.2.1, .int .i64 r.1.un.2.2.2.1, x.2.1]) ∧ Stw ⟨Y, X, w0⟩ [(q_p0, [x.2.2, .int .i64 r.2.2])] [row (x.2.2) 98 AA r.2.1, A4 (x.1) A6 r.1.un.2.1.un.2.2.2, A4 (x.2.1) BJ r.1.un.2.2.2.2] w') (fun r => ∃ x : Value, e = .panicked [{ v := .iface 89 (.agg #[.int .i64 r.1.1, .int .i64 r.1.2]), recovered := false }] ∧ Stw ⟨Y, X, w0⟩ [(q_p0, [x, .int .i64 r.2.2])] [row (x) 98 AA r.2.1] w') := by
  obtain ⟨n, H⟩ := Cy H
  exact I5 fRec_parse_parser_policy ih_parse_parser_policy n Y X w0 q_p0 v1 p0 r H hL
abbrev Mr : Rp (Int × (Int × Int × Int × (Value × List Tr25)) × Int × Int × (Value × List Tr28)) := (Rp.pair (Rp.int .i64) (Rp.pair MJ (Rp.pair (Rp.int .i64) (Rp.pair (Rp.int .i64) (Rp.vsl BJ)))))
abbrev T0 (p : Int × (Int × Int × Int × (Value × List Tr25)) × Int × Int × (Value × List Tr28)) : Tr28 := (Tr28.of (p.1, (Tr25.of (p.2.1.1, p.2.1.2.1, p.2.1.2.2.1, p.2.1.2.2.2.2)), p.2.2.1, p.2.2.2.1, p.2.2.2.2.2))
theorem Eg : Ex BJ Mr T0 := (Ex.knot SR (of := Tr28.of) (fun _ => rfl) (fun x => by cases x; rfl) (Ex.pair Ex.rfl' (Ex.pair (Ex.knot RZ (of := Tr25.of) (fun _ => rfl) (fun x => by cases x; rfl) (Ex.pair Ex.rfl' (Ex.pair Ex.rfl' (Ex.pair Ex.rfl' Ex.sliceF)))) (Ex.pair Ex.rfl' (Ex.pair Ex.rfl' Ex.sliceF)))))
abbrev Ic (a : Int × (Int × Int × Int × (Value × List Tr25)) × Int × Int × (Value × List Tr28)) : List Value := [.int .i64 a.1, .int .i64 a.2.1.1, .int .i64 a.2.1.2.1, .int .i64 a.2.1.2.2.1, a.2.1.2.2.2.1, .int .i64 a.2.2.1, .int .i64 a.2.2.2.1, a.2.2.2.2.1]
theorem NE : GS Mr Ic := (GS.pair Fl.int.to (GS.pair (GS.pair Fl.int.to (GS.pair Fl.int.to (GS.pair Fl.int.to GS.vsl))) (GS.pair Fl.int.to (GS.pair Fl.int.to GS.vsl))))
abbrev Tk (a0 : Value) : List Value := [.int .i64 3, .int .i64 0, .int .i64 0, .int .i64 0, .slice none 0 0, .int .i64 0, .int .i64 0, a0]
def Br (p0 : List Tr28) : Tr28 := Tr28.of (3, Tr25.of (0, 0, 0, ([] : List Tr25)), 0, 0, p0)
theorem N0 (Y : Nat → Prop) (w0 : World) (v1 : Value) (p0 : List Tr28) (r : Tr28) (H : Br p0 = r) (s_v1 : Sl w0 Y BJ v1 p0) :
    Calls Tryd.prog 85 #[v1] w0 fun e w' => ∃ x : Value × Value, e = .returned (.agg #[.int .i64 r.un.1, .int .i64 r.un.2.1.un.1, .int .i64 r.un.2.1.un.2.1, .int .i64 r.un.2.1.un.2.2.1, x.1, .int .i64 r.un.2.2.1, .int .i64 r.un.2.2.2.1, x.2]) ∧ Stw ⟨Y, [], w0⟩ [] [row (x.1) 25 A6 r.un.2.1.un.2.2.2, A4 (x.2) BJ r.un.2.2.2.2] w' := by
 refine enter Tryd.func85 Aa Tryd.ntmps85 Aa fun a W => ?_
 have F := Stw.start Y w0
 obtain ⟨v2, h1, s_v1⟩ := s_v1.ex Eg
 have h_v1 := F.nx s_v1
 unfold Br at H
 refine Ah (Ab ?_)
 refine BA (cs := (BU)) W F Aa JT Aa fun b1 a w W F => ?_
 refine Ae (Ac (Ah (Ab ?_)))
 refine ls W F Aa (Ai W Aa).q fun a w W F => ?_
 refine ls W F Aa (Cx (v := Value.agg #[.int .i64 3, .int .i64 0, .int .i64 0, .int .i64 0, .slice none 0 0, .int .i64 0, .int .i64 0, v1]) S6 W Aa (BQ Aa Aa Aa (BQ Aa (FU h_v1.one) Aa CX)) Aa).q fun a w W F => ?_
 refine AP (vs := (Tk v1)) (M' := [(b1, [.int .i64 3, .int .i64 0, .int .i64 0, .int .i64 0, .slice none 0 0, .int .i64 0, .int .i64 0, v1])]) 0 W F Aa Aa Aa D1 Aa Aa Aa (Af Aa (Af Aa (Af Aa (Af Aa (Af Aa (Af Aa (Af Aa (Af h_v1.one BC)))))))) Aa fun w F => ?_
 refine Ae (Ac (Au ?_))
 subst H
 refine AO (.inl Aa) W F Aa (BD 0 W Aa Aa D1 Aa) ?_
 have F := F.nilRow 25 A6
 have F := F.note (Sl.hide Eg h1 (F.old s_v1))
 have F := F.frontZ (i := 1) Aa Aa
 have F := F.sub (M' := []) (Z' := [row (Value.slice none 0 0) 25 A6 ([]), A4 v1 BJ p0]) (List.nil_sublist _) (List.Sublist.refl _)
 exact ⟨((Value.slice none 0 0), (v1)), Aa, F⟩
theorem UT : Has Tryd.prog 85 := ⟨fun args w => Am Tryd.func85 rfl (by decide) args w⟩
abbrev Sb (a0 : List Tr28) (a1 : Value) (a2 : Value) : List Value := [.int .i64 ((Br a0).un.1), .int .i64 ((Br a0).un.2.1.un.1), .int .i64 ((Br a0).un.2.1.un.2.1), .int .i64 ((Br a0).un.2.1.un.2.2.1), a1, .int .i64 ((Br a0).un.2.2.1), .int .i64 ((Br a0).un.2.2.2.1), a2]
noncomputable def AK (fRec_parse_parser_policy : ((List (Int × Int × List UInt8 × Int)) × Int) → Option ((Tr28 × ((List (Int × Int × List UInt8 × Int)) × Int)) ⊕ ((Int × Int) × ((List (Int × Int × List UInt8 × Int)) × Int)))) (p1 : List UInt8) : (List Tr28 × (List (Int × Int × List UInt8 × Int)) × Int) → Option ((List Tr28 × (List (Int × Int × List UInt8 × Int)) × Int) ⊕ ((List Tr28 × (List (Int × Int × List UInt8 × Int)) × Int) ⊕ ((Tr28 × ((List (Int × Int × List UInt8 × Int)) × Int)) ⊕ ((Int × Int) × ((List (Int × Int × List UInt8 × Int)) × Int)))))
  | (x7, x8, x9) => (As (x8, x9) p1).bind fun x10 => (if x10.1 = true then ((Bu fRec_parse_parser_policy) x10.2).bind fun x11 => B1 x11 (fun x12 => (D0 x7 ([Tr28.of (x12.1.un.1, Tr25.of (x12.1.un.2.1.un.1, x12.1.un.2.1.un.2.1, x12.1.un.2.1.un.2.2.1, x12.1.un.2.1.un.2.2.2), x12.1.un.2.2.1, x12.1.un.2.2.2.1, x12.1.un.2.2.2.2)] : List Tr28)).bind fun x14 => some (.inl (x14, x12.2.1, x12.2.2))) (fun x13 => some (.inr (.inr (.inr (x13.1, x13.2))))) else some (.inr (.inl (x7, x10.2.1, x10.2.2))))
noncomputable def A1 (fRec_parse_parser_policy : ((List (Int × Int × List UInt8 × Int)) × Int) → Option ((Tr28 × ((List (Int × Int × List UInt8 × Int)) × Int)) ⊕ ((Int × Int) × ((List (Int × Int × List UInt8 × Int)) × Int)))) (p0 : (List (Int × Int × List UInt8 × Int)) × Int) (p1 : List UInt8) : Option ((Tr28 × ((List (Int × Int × List UInt8 × Int)) × Int)) ⊕ ((Int × Int) × ((List (Int × Int × List UInt8 × Int)) × Int))) := ((Bu fRec_parse_parser_policy) p0).bind fun x1 => B1 x1 (fun x2 => HX (Bo (AK fRec_parse_parser_policy p1) (([Tr28.of (x2.1.un.1, Tr25.of (x2.1.un.2.1.un.1, x2.1.un.2.1.un.2.1, x2.1.un.2.1.un.2.2.1, x2.1.un.2.1.un.2.2.2), x2.1.un.2.2.1, x2.1.un.2.2.2.1, x2.1.un.2.2.2.2)] : List Tr28), x2.2.1, x2.2.2)) fun (x4, x5, x6) => (if (x4.length : Int) = 1 then (ix x4 0).bind fun x15 => some (.inl (Tr28.of (x15.un.1, Tr25.of (x15.un.2.1.un.1, x15.un.2.1.un.2.1, x15.un.2.1.un.2.2.1, x15.un.2.1.un.2.2.2), x15.un.2.2.1, x15.un.2.2.2.1, x15.un.2.2.2.2), (x5, x6))) else some (.inl (Tr28.of ((Br x4).un.1, Tr25.of ((Br x4).un.2.1.un.1, (Br x4).un.2.1.un.2.1, (Br x4).un.2.1.un.2.2.1, (Br x4).un.2.1.un.2.2.2), (Br x4).un.2.2.1, (Br x4).un.2.2.2.1, (Br x4).un.2.2.2.2), (x5, x6))))) (fun x3 => some (.inr (x3.1, x3.2)))
theorem EQ (fRec_parse_parser_policy : ((List (Int × Int × List UInt8 × Int)) × Int) → Option ((Tr28 × ((List (Int × Int × List UInt8 × Int)) × Int)) ⊕ ((Int × Int) × ((List (Int × Int × List UInt8 × Int)) × Int)))) (ih_parse_parser_policy : ∀ (Y : Nat → Prop) (X : List Nat) (w0 : World) (q_p0 : Nat) (v1 : Value) (p0 : (List (Int × Int × List UInt8 × Int)) × Int) (r : (Tr28 × ((List (Int × Int × List UInt8 × Int)) × Int)) ⊕ ((Int × Int) × ((List (Int × Int × List UInt8 × Int)) × Int))) (H : fRec_parse_parser_policy p0 = some r) (hL : Stw ⟨Y, X, w0⟩ [(q_p0, [v1, .int .i64 p0.2])] [row v1 98 AA p0.1] w0), Calls Tryd.prog 28 #[.pointer (some ⟨q_p0, 0, none⟩)] w0 fun e w' => D8 r (fun r => ∃ x : Value × Value × Value, e = .returned (.agg #[.int .i64 r.1.un.1, .int .i64 r.1.un.2.1.un.1, .int .i64 r.1.un.2.1.un.2.1, .int .i64 r.1.un.2.1.un.2.2.1, x.1, .int .i64 r.1.un.2.2.1, .int .i64 r.1.un.2.2.2.1, x.2.1]) ∧ Stw ⟨Y, X, w0⟩ [(q_p0, [x.2.2, .int .i64 r.2.2])] [row (x.2.2) 98 AA r.2.1, A4 (x.1) A6 r.1.un.2.1.un.2.2.2, A4 (x.2.1) BJ r.1.un.2.2.2.2] w') (fun r => ∃ x : Value, e = .panicked [{ v := .iface 89 (.agg #[.int .i64 r.1.1, .int .i64 r.1.2]), recovered := false }] ∧ Stw ⟨Y, X, w0⟩ [(q_p0, [x, .int .i64 r.2.2])] [row (x) 98 AA r.2.1] w')) (Y : Nat → Prop) (X : List Nat) (w0 : World) (q_p0 : Nat) (v1 : Value) (p0 : (List (Int × Int × List UInt8 × Int)) × Int) (p1 : List UInt8) (r : (Tr28 × ((List (Int × Int × List UInt8 × Int)) × Int)) ⊕ ((Int × Int) × ((List (Int × Int × List UInt8 × Int)) × Int))) (H : A1 fRec_parse_parser_policy p0 p1 = some r) (hL : Stw ⟨Y, X, w0⟩ [(q_p0, [v1, .int .i64 p0.2])] [row v1 98 AA p0.1] w0) :
    Calls Tryd.prog 56 #[.pointer (some ⟨q_p0, 0, none⟩), .string (bs p1), .func (.func 84) #[.pointer (some ⟨q_p0, 0, none⟩)] #[], .func (.func 85) #[] #[]] w0 fun e w' => D8 r (fun r => ∃ x : Value × Value × Value, e = .returned (.agg #[.int .i64 r.1.un.1, .int .i64 r.1.un.2.1.un.1, .int .i64 r.1.un.2.1.un.2.1, .int .i64 r.1.un.2.1.un.2.2.1, x.1, .int .i64 r.1.un.2.2.1, .int .i64 r.1.un.2.2.2.1, x.2.1]) ∧ Stw ⟨Y, X, w0⟩ [(q_p0, [x.2.2, .int .i64 r.2.2])] [row (x.2.2) 98 AA r.2.1, A4 (x.1) A6 r.1.un.2.1.un.2.2.2, A4 (x.2.1) BJ r.1.un.2.2.2.2] w') (fun r => ∃ x : Value, e = .panicked [{ v := .iface 89 (.agg #[.int .i64 r.1.1, .int .i64 r.1.2]), recovered := false }] ∧ Stw ⟨Y, X, w0⟩ [(q_p0, [x, .int .i64 r.2.2])] [row (x) 98 AA r.2.1] w') := by
 refine enter Tryd.func56 Aa Tryd.ntmps56 Aa fun a W => ?_
 have F := hL
 unfold A1 at H
 refine Ah (Ab ?_)
 refine BA (cs := (BU)) W F Aa JT Aa fun b1 a w W F => ?_
 refine Ae (Ac (Ah (Ab ?_)))
 refine ls W F Aa (Ai W Aa).q fun a w W F => ?_
 obtain ⟨x1, h1, H⟩ := Aq H
 rcases x1 with x2 | x3
 ·
  have H := EZ H
  have F := F.frontM (i := 1) Aa Aa
  refine Eu (ws := [.pointer (some ⟨q_p0, 0, none⟩)]) (Ml := [(q_p0, [v1, .int .i64 p0.2])]) (Zl := [row v1 98 AA p0.1]) (M := (Df b1)) (Z := []) (β := Value × Value × Value) (rv := fun x => .agg #[.int .i64 x2.1.un.1, .int .i64 x2.1.un.2.1.un.1, .int .i64 x2.1.un.2.1.un.2.1, .int .i64 x2.1.un.2.1.un.2.2.1, x.1, .int .i64 x2.1.un.2.2.1, .int .i64 x2.1.un.2.2.2.1, x.2.1]) (MM := fun x => [(q_p0, [x.2.2, .int .i64 x2.2.2])]) (ZZ := fun x => [row x.2.2 98 AA x2.2.1, A4 x.1 A6 x2.1.un.2.1.un.2.2.2, A4 x.2.1 BJ x2.1.un.2.2.2.2]) W F Sk Aa Aa (fun hL => (D5 fRec_parse_parser_policy ih_parse_parser_policy) _ _ w q_p0 (v1) p0 _ h1 hL) fun x a w W F => ?_
  obtain ⟨v2, v3, v4⟩ := x
  have F : Stw ⟨Y, X, w0⟩ [(q_p0, [v4, .int .i64 x2.2.2]), (b1, (BU))] [row v4 98 AA x2.2.1, A4 v2 A6 x2.1.un.2.1.un.2.2.2, A4 v3 BJ x2.1.un.2.2.2.2] w := F
  refine Hi (z := Value.agg #[.int .i64 0, .int .i64 0, .int .i64 0, .int .i64 0, .slice none 0 0, .int .i64 0, .int .i64 0, .slice none 0 0]) (cs := (DM x2 v2 v3)) BJ ([Tr28.of (x2.1.un.1, Tr25.of (x2.1.un.2.1.un.1, x2.1.un.2.1.un.2.1, x2.1.un.2.1.un.2.2.1, x2.1.un.2.1.un.2.2.2), x2.1.un.2.2.1, x2.1.un.2.2.2.1, x2.1.un.2.2.2.2)] : List Tr28) W F Aa OM JT Aa Aa Aa (BQ Aa Aa Aa CX) Aa Aa ⟨[Value.int .i64 x2.1.un.1, Value.int .i64 x2.1.un.2.1.un.1, Value.int .i64 x2.1.un.2.1.un.2.1, Value.int .i64 x2.1.un.2.1.un.2.2.1, v2, Value.int .i64 x2.1.un.2.2.1, Value.int .i64 x2.1.un.2.2.2.1, v3], _, Aa, (PP.2 ⟨[Value.int .i64 x2.1.un.1], [Value.int .i64 x2.1.un.2.1.un.1, Value.int .i64 x2.1.un.2.1.un.2.1, Value.int .i64 x2.1.un.2.1.un.2.2.1, v2, Value.int .i64 x2.1.un.2.2.1, Value.int .i64 x2.1.un.2.2.2.1, v3], Aa, Aa, ⟨[Value.int .i64 x2.1.un.2.1.un.1, Value.int .i64 x2.1.un.2.1.un.2.1, Value.int .i64 x2.1.un.2.1.un.2.2.1, v2], [Value.int .i64 x2.1.un.2.2.1, Value.int .i64 x2.1.un.2.2.2.1, v3], Aa, (Mh.2 ⟨[Value.int .i64 x2.1.un.2.1.un.1], [Value.int .i64 x2.1.un.2.1.un.2.1, Value.int .i64 x2.1.un.2.1.un.2.2.1, v2], Aa, Aa, ⟨[Value.int .i64 x2.1.un.2.1.un.2.1], [Value.int .i64 x2.1.un.2.1.un.2.2.1, v2], Aa, Aa, ⟨[Value.int .i64 x2.1.un.2.1.un.2.2.1], [v2], Aa, Aa, ⟨_, Aa, (F.item (i := 1) Aa)⟩⟩⟩⟩), ⟨[Value.int .i64 x2.1.un.2.2.1], [Value.int .i64 x2.1.un.2.2.2.1, v3], Aa, Aa, ⟨[Value.int .i64 x2.1.un.2.2.2.1], [v3], Aa, Aa, ⟨_, Aa, (F.item (i := 2) Aa)⟩⟩⟩⟩⟩), Aa⟩ fun v5 a w W F => ?_
  refine ls W F Aa (Ag W Aa).q fun a w W F => ?_
  refine Ae (Ac ?_)
  obtain ⟨o1, G1, K1, L1⟩ := Qb H
  refine BK (fun a w => ∃ x4 : List Tr28, ∃ x5 : List (Int × Int × List UInt8 × Int), ∃ x6 : Int, ∃ v6 : Value, ∃ v7 : Value, some (Sum.inl (x4, x5, x6)) = some o1 ∧ Fr 30 [] [(3, .func (.func 85) #[] #[]), (8, .pointer (some ⟨b1, 0, none⟩)), (9, v6)] a ∧ Stw ⟨Y, X, w0⟩ [(q_p0, [v7, .int .i64 x6]), (b1, (BU))] [row v6 28 BJ x4, row v7 98 AA x5] w) ?_ ?_
  ·
   have H := G1
   clear G1 K1
   refine Bb ?_
   have F := F.frontZ (i := 1) Aa Aa
   have F := F.frontZ (i := 1) Aa Aa
   have F := F.frontM (i := 1) Aa Aa
   have F := F.frontM (i := 1) Aa Aa
   have F := F.sub (M' := [(q_p0, [v4, .int .i64 x2.2.2]), (b1, (BU))]) (Z' := [row v5 28 BJ ([Tr28.of (x2.1.un.1, Tr25.of (x2.1.un.2.1.un.1, x2.1.un.2.1.un.2.1, x2.1.un.2.1.un.2.2.1, x2.1.un.2.1.un.2.2.2), x2.1.un.2.2.1, x2.1.un.2.2.2.1, x2.1.un.2.2.2.2)] : List Tr28), row v4 98 AA x2.2.1]) (List.Sublist.refl _) (List.Sublist.cons_cons _ (List.Sublist.cons_cons _ (List.nil_sublist _)))
   refine Dl H (fun s a w => ∃ v8 : Value, ∃ v9 : Value, Fr 30 [] [(0, .pointer (some ⟨q_p0, 0, none⟩)), (1, .string (bs p1)), (2, .func (.func 84) #[.pointer (some ⟨q_p0, 0, none⟩)] #[]), (3, .func (.func 85) #[] #[]), (8, .pointer (some ⟨b1, 0, none⟩)), (9, v8)] a ∧ Stw ⟨Y, X, w0⟩ [(q_p0, [v9, .int .i64 s.2.2]), (b1, (BU))] [row v8 28 BJ s.1, row v9 98 AA s.2.1] w) ⟨(v5), (v4), W.re ⟨rfl, Aa, Aa, Aa, Aa, Aa, trivial⟩, F⟩ fun s o a w H L2 hR => ?_
   obtain ⟨x7, x8, x9⟩ := s
   obtain ⟨v8, v9, W, F⟩ := hR
   have W : Fr 30 [] [(0, .pointer (some ⟨q_p0, 0, none⟩)), (1, .string (bs p1)), (2, .func (.func 84) #[.pointer (some ⟨q_p0, 0, none⟩)] #[]), (3, .func (.func 85) #[] #[]), (8, .pointer (some ⟨b1, 0, none⟩)), (9, v8)] a := W
   have F : Stw ⟨Y, X, w0⟩ [(q_p0, [v9, .int .i64 x9]), (b1, (BU))] [row v8 28 BJ x7, row v9 98 AA x8] w := F
   rw [AK] at H
   refine Ah (Ah (Ab ?_))
   iterate 2 refine ls W F Aa (Ai W Aa).q fun a w W F => ?_
   obtain ⟨x10, h2, H⟩ := Aq H
   have F := F.frontZ (i := 1) Aa Aa
   refine Bp (Ml := [(q_p0, [v9, .int .i64 x9])]) (Zl := [row v9 98 AA x8]) (M := (Df b1)) (Z := [row v8 28 BJ x7]) (β := Value) (rv := fun x => .bool x10.1) (MM := fun x => [(q_p0, [x, .int .i64 x10.2.2])]) (ZZ := fun x => [row x 98 AA x10.2.1]) W F PH Aa Aa (fun hL => Bl _ _ w q_p0 (v9) (x8, x9) p1 _ h2 hL) fun x a w W F => ?_
   obtain ⟨v10, rfl⟩ : ∃ y, y = x := ⟨x, rfl⟩
   have F : Stw ⟨Y, X, w0⟩ [(q_p0, [v10, .int .i64 x10.2.2]), (b1, (BU))] [row v10 98 AA x10.2.1, row v8 28 BJ x7] w := F
   refine Ae (Ac ?_)
   refine AC W Aa (fun hb => ?_) fun hb => ?_
   ·
    have H := Ba hb H
    rw [hb] at W
    clear hb
    refine AM (Ac (Bb (Ab ?_)))
    iterate 2 refine ls W F Aa (Ai W Aa).q fun a w W F => ?_
    obtain ⟨x11, h3, H⟩ := Aq H
    rcases x11 with x12 | x13
    ·
     have H := EZ H
     refine Eu (ws := [.pointer (some ⟨q_p0, 0, none⟩)]) (Ml := [(q_p0, [v10, .int .i64 x10.2.2])]) (Zl := [row v10 98 AA x10.2.1]) (M := (Df b1)) (Z := [row v8 28 BJ x7]) (β := Value × Value × Value) (rv := fun x => .agg #[.int .i64 x12.1.un.1, .int .i64 x12.1.un.2.1.un.1, .int .i64 x12.1.un.2.1.un.2.1, .int .i64 x12.1.un.2.1.un.2.2.1, x.1, .int .i64 x12.1.un.2.2.1, .int .i64 x12.1.un.2.2.2.1, x.2.1]) (MM := fun x => [(q_p0, [x.2.2, .int .i64 x12.2.2])]) (ZZ := fun x => [row x.2.2 98 AA x12.2.1, A4 x.1 A6 x12.1.un.2.1.un.2.2.2, A4 x.2.1 BJ x12.1.un.2.2.2.2]) W F Sk Aa Aa (fun hL => (D5 fRec_parse_parser_policy ih_parse_parser_policy) _ _ w q_p0 (v10) x10.2 _ h3 hL) fun x a w W F => ?_
     obtain ⟨v11, v12, v13⟩ := x
     have F : Stw ⟨Y, X, w0⟩ [(q_p0, [v13, .int .i64 x12.2.2]), (b1, (BU))] [row v13 98 AA x12.2.1, A4 v11 A6 x12.1.un.2.1.un.2.2.2, A4 v12 BJ x12.1.un.2.2.2.2, row v8 28 BJ x7] w := F
     refine Hi (z := Value.agg #[.int .i64 0, .int .i64 0, .int .i64 0, .int .i64 0, .slice none 0 0, .int .i64 0, .int .i64 0, .slice none 0 0]) (cs := (DM x12 v11 v12)) BJ ([Tr28.of (x12.1.un.1, Tr25.of (x12.1.un.2.1.un.1, x12.1.un.2.1.un.2.1, x12.1.un.2.1.un.2.2.1, x12.1.un.2.1.un.2.2.2), x12.1.un.2.2.1, x12.1.un.2.2.2.1, x12.1.un.2.2.2.2)] : List Tr28) W F Aa OM JT Aa Aa Aa (BQ Aa Aa Aa CX) Aa Aa ⟨[Value.int .i64 x12.1.un.1, Value.int .i64 x12.1.un.2.1.un.1, Value.int .i64 x12.1.un.2.1.un.2.1, Value.int .i64 x12.1.un.2.1.un.2.2.1, v11, Value.int .i64 x12.1.un.2.2.1, Value.int .i64 x12.1.un.2.2.2.1, v12], _, Aa, (PP.2 ⟨[Value.int .i64 x12.1.un.1], [Value.int .i64 x12.1.un.2.1.un.1, Value.int .i64 x12.1.un.2.1.un.2.1, Value.int .i64 x12.1.un.2.1.un.2.2.1, v11, Value.int .i64 x12.1.un.2.2.1, Value.int .i64 x12.1.un.2.2.2.1, v12], Aa, Aa, ⟨[Value.int .i64 x12.1.un.2.1.un.1, Value.int .i64 x12.1.un.2.1.un.2.1, Value.int .i64 x12.1.un.2.1.un.2.2.1, v11], [Value.int .i64 x12.1.un.2.2.1, Value.int .i64 x12.1.un.2.2.2.1, v12], Aa, (Mh.2 ⟨[Value.int .i64 x12.1.un.2.1.un.1], [Value.int .i64 x12.1.un.2.1.un.2.1, Value.int .i64 x12.1.un.2.1.un.2.2.1, v11], Aa, Aa, ⟨[Value.int .i64 x12.1.un.2.1.un.2.1], [Value.int .i64 x12.1.un.2.1.un.2.2.1, v11], Aa, Aa, ⟨[Value.int .i64 x12.1.un.2.1.un.2.2.1], [v11], Aa, Aa, ⟨_, Aa, (F.item (i := 1) Aa)⟩⟩⟩⟩), ⟨[Value.int .i64 x12.1.un.2.2.1], [Value.int .i64 x12.1.un.2.2.2.1, v12], Aa, Aa, ⟨[Value.int .i64 x12.1.un.2.2.2.1], [v12], Aa, Aa, ⟨_, Aa, (F.item (i := 2) Aa)⟩⟩⟩⟩⟩), Aa⟩ fun v14 a w W F => ?_
     obtain ⟨x14, h4, H⟩ := Aq H
     refine Gd (r := BJ) (i := 4) W F Aa OM Aa Aa Aa Aa (Hh F 0 Aa) h4 Aa fun v15 a w W F => ?_
     have F : Stw ⟨Y, X, w0⟩ [(q_p0, [v13, .int .i64 x12.2.2]), (b1, (BU))] [row v15 28 BJ x14, row v14 28 BJ ([Tr28.of (x12.1.un.1, Tr25.of (x12.1.un.2.1.un.1, x12.1.un.2.1.un.2.1, x12.1.un.2.1.un.2.2.1, x12.1.un.2.1.un.2.2.2), x12.1.un.2.2.1, x12.1.un.2.2.2.1, x12.1.un.2.2.2.2)] : List Tr28), row v13 98 AA x12.2.1, A4 v11 A6 x12.1.un.2.1.un.2.2.2, A4 v12 BJ x12.1.un.2.2.2.2] w := F
     refine ls W F Aa (Ag W Aa).q fun a w W F => ?_
     refine Ae (BI (Ac ?_))
     have F := F.frontZ (i := 2) Aa Aa
     have F := F.frontZ (i := 1) Aa Aa
     have F := F.frontM (i := 1) Aa Aa
     have F := F.frontM (i := 1) Aa Aa
     have F := F.sub (M' := [(q_p0, [v13, .int .i64 x12.2.2]), (b1, (BU))]) (Z' := [row v15 28 BJ x14, row v13 98 AA x12.2.1]) (List.Sublist.refl _) (List.Sublist.cons_cons _ (List.Sublist.cons_cons _ (List.nil_sublist _)))
     exact ⟨_, H, (v15), (v13), W.re ⟨rfl, Aa, Aa, Aa, Aa, Aa, trivial⟩, F⟩
    have H := EW H
    refine Gl (ws := [.pointer (some ⟨q_p0, 0, none⟩)]) (Ml := [(q_p0, [v10, .int .i64 x10.2.2])]) (Zl := [row v10 98 AA x10.2.1]) (M := (Df b1)) (Z := [row v8 28 BJ x7]) (β := Value) (pv := fun x => .iface 89 (.agg #[.int .i64 x13.1.1, .int .i64 x13.1.2])) (MM := fun x => [(q_p0, [x, .int .i64 x13.2.2])]) (ZZ := fun x => [row x 98 AA x13.2.1]) W F Sk Aa (fun hL => (D5 fRec_parse_parser_policy ih_parse_parser_policy) _ _ w q_p0 (v10) x10.2 _ h3 hL) fun x w F => ?_
    obtain ⟨v16, rfl⟩ : ∃ y, y = x := ⟨x, rfl⟩
    have F : Stw ⟨Y, X, w0⟩ [(q_p0, [v16, .int .i64 x13.2.2]), (b1, (BU))] [row v16 98 AA x13.2.1, row v8 28 BJ x7] w := F
    refine Ep (BW (Ep (BW ?_)))
    have H := L2 _ H
    have H := L1 _ H
    have H := AR H
    subst H
    refine Bi W ?_
    have F := F.sub (M' := [(q_p0, [v16, .int .i64 x13.2.2])]) (Z' := [row v16 98 AA x13.2.1]) (List.Sublist.cons_cons _ (List.nil_sublist _)) (List.Sublist.cons_cons _ (List.nil_sublist _))
    exact ⟨(v16), Aa, F⟩
   have H := Bc (by rw [hb]; decide) H
   rw [hb] at W
   clear hb
   refine Do ?_
   iterate 2 refine Er ?_
   refine Dk (Ac ?_)
   have F := F.frontZ (i := 1) Aa Aa
   have F := F.frontM (i := 1) Aa Aa
   have F := F.frontM (i := 1) Aa Aa
   have H := L2 _ H
   exact ⟨_, _, _, (v8), (v10), H, W.re ⟨rfl, Aa, Aa, trivial⟩, F⟩
  rintro a w ⟨x4, x5, x6, v6, v7, hj, W, F⟩
  have H := K1 _ hj
  clear hj G1 K1 L1
  refine Ah (Ah (Ab ?_))
  refine ls W F Aa (Ai W Aa).q fun a w W F => ?_
  refine ls W F Aa (DC (r := BJ) (l := x4) IX Aa W Aa (CB 0 Aa)).q fun a w W F => ?_
  refine ls W F Aa (Bw W Aa Aa).q fun a w W F => ?_
  refine Ae (Ac ?_)
  refine AC W Aa (fun hb => ?_) fun hb => ?_
  ·
   have H := Ba (BM hb) H
   rw [hb] at W
   clear hb
   refine Ah ?_
   obtain ⟨v17, h5, F⟩ := F.exR Eg
   refine Ab ?_
   refine ls W F Aa (Ai W Aa).q fun a w W F => ?_
   obtain ⟨x15, h6, H⟩ := Aq H
   obtain ⟨v18, h7, h8⟩ := Gy h5 h6
   have h9 : Ic v18 = [.int .i64 x15.un.1, .int .i64 x15.un.2.1.un.1, .int .i64 x15.un.2.1.un.2.1, .int .i64 x15.un.2.1.un.2.2.1, (v18.2.1.2.2.2.1), .int .i64 x15.un.2.2.1, .int .i64 x15.un.2.2.2.1, (v18.2.2.2.2.1)] := congrArg (fun q : Tr28 => ([.int .i64 q.un.1, .int .i64 q.un.2.1.un.1, .int .i64 q.un.2.1.un.2.1, .int .i64 q.un.2.1.un.2.2.1, (v18.2.1.2.2.2.1), .int .i64 q.un.2.2.1, .int .i64 q.un.2.2.2.1, (v18.2.2.2.2.1)] : List Value)) h8
   refine ls W F Aa (DS (r := Mr) OM W Aa Aa (CB 0 Aa) h7).q fun a w W F => ?_
   refine ls W F Aa (CG (y := Value.agg #[.int .i64 x15.un.1, .int .i64 x15.un.2.1.un.1, .int .i64 x15.un.2.1.un.2.1, .int .i64 x15.un.2.1.un.2.2.1, (v18.2.1.2.2.2.1), .int .i64 x15.un.2.2.1, .int .i64 x15.un.2.2.2.1, (v18.2.2.2.2.1)]) (j := 0) (i := 0) (enc := Ic) W Aa Aa (CB 0 Aa) h7 NE D1 (by rw [h9]; rfl)).q fun a w W F => ?_
   have F := F.note (F.rowAt (k := 0) Aa h7 (AE.snd (AE.fst (AE.snd (AE.snd (AE.snd AE.here))))) (congrArg (fun q : Tr28 => q.un.2.1.un.2.2.2) h8))
   have F := F.note (F.rowAt (k := 1) Aa h7 (AE.snd (AE.snd (AE.snd (AE.snd AE.here)))) (congrArg (fun q : Tr28 => q.un.2.2.2.2) h8))
   refine AP (vs := [.int .i64 x15.un.1, .int .i64 x15.un.2.1.un.1, .int .i64 x15.un.2.1.un.2.1, .int .i64 x15.un.2.1.un.2.2.1, (v18.2.1.2.2.2.1), .int .i64 x15.un.2.2.1, .int .i64 x15.un.2.2.2.1, (v18.2.2.2.2.1)]) (M' := [(q_p0, [v7, .int .i64 x6]), (b1, [.int .i64 x15.un.1, .int .i64 x15.un.2.1.un.1, .int .i64 x15.un.2.1.un.2.1, .int .i64 x15.un.2.1.un.2.2.1, (v18.2.1.2.2.2.1), .int .i64 x15.un.2.2.1, .int .i64 x15.un.2.2.2.1, (v18.2.2.2.2.1)])]) 1 W F Aa Aa Aa D1 Aa Aa Aa (Af Aa (Af Aa (Af Aa (Af Aa (Af (F.oneF (k := 1) Aa) (Af Aa (Af Aa (Af (F.oneF (k := 0) Aa) BC)))))))) Aa fun w F => ?_
   refine Ae (Ac (Au (AV ?_)))
   have H := AR H
   subst H
   refine AO (.inl Aa) W F Aa (BD 1 W Aa Aa D1 Aa) ?_
   have F := F.frontZ (i := 1) Aa Aa
   have F := F.frontZ (i := 3) Aa Aa
   have F := F.sub (M' := [(q_p0, [v7, .int .i64 x6])]) (Z' := [row v7 98 AA x5, A4 (v18.2.1.2.2.2.1) A6 x15.un.2.1.un.2.2.2, A4 (v18.2.2.2.2.1) BJ x15.un.2.2.2.2]) (List.Sublist.cons_cons _ (List.nil_sublist _)) (List.Sublist.cons_cons _ (List.Sublist.cons_cons _ (List.Sublist.cons_cons _ (List.nil_sublist _))))
   exact ⟨(((v18.2.1.2.2.2.1)), ((v18.2.2.2.2.1)), (v7)), Aa, F⟩
  have H := Bc (BL hb) H
  rw [hb] at W
  clear hb
  refine AM (Ac (Ah (Ab ?_)))
  iterate 2 refine ls W F Aa (Ai W Aa).q fun a w W F => ?_
  have F := F.freeze
  refine Eu (ws := [v6]) (Ml := []) (Zl := []) (M := [(q_p0, [v7, .int .i64 x6]), (b1, (BU))]) (Z := [A4 v6 BJ x4, row v7 98 AA x5]) (β := Value × Value) (rv := fun x => .agg #[.int .i64 ((Br x4).un.1), .int .i64 ((Br x4).un.2.1.un.1), .int .i64 ((Br x4).un.2.1.un.2.1), .int .i64 ((Br x4).un.2.1.un.2.2.1), x.1, .int .i64 ((Br x4).un.2.2.1), .int .i64 ((Br x4).un.2.2.2.1), x.2]) (MM := fun x => []) (ZZ := fun x => [row x.1 25 A6 ((Br x4).un.2.1.un.2.2.2), A4 x.2 BJ ((Br x4).un.2.2.2.2)]) W F UT Aa Aa (fun hL => N0 _ w (v6) x4 _ Aa (F.item (i := 0) Aa)) fun x a w W F => ?_
  obtain ⟨v19, v20⟩ := x
  have F : Stw ⟨Y, X, w0⟩ [(q_p0, [v7, .int .i64 x6]), (b1, (BU))] [row v19 25 A6 ((Br x4).un.2.1.un.2.2.2), A4 v20 BJ ((Br x4).un.2.2.2.2), A4 v6 BJ x4, row v7 98 AA x5] w := F
  refine AP (vs := (Sb x4 v19 v20)) (M' := [(q_p0, [v7, .int .i64 x6]), (b1, (Sb x4 v19 v20))]) 1 W F Aa Aa Aa D1 Aa Aa Aa (Af Aa (Af Aa (Af Aa (Af Aa (Af (F.one (k := 0) Aa) (Af Aa (Af Aa (Af (F.oneF (k := 1) Aa) BC)))))))) Aa fun w F => ?_
  refine Ae (Ac (Au ?_))
  have H := AR H
  subst H
  refine AO (.inl Aa) W F Aa (BD 1 W Aa Aa D1 Aa) ?_
  have F := F.freeze
  have F := F.frontZ (i := 1) Aa Aa
  have F := F.frontZ (i := 1) Aa Aa
  have F := F.frontZ (i := 3) Aa Aa
  have F := F.sub (M' := [(q_p0, [v7, .int .i64 x6])]) (Z' := [row v7 98 AA x5, A4 v19 A6 ((Br x4).un.2.1.un.2.2.2), A4 v20 BJ ((Br x4).un.2.2.2.2)]) (List.Sublist.cons_cons _ (List.nil_sublist _)) (List.Sublist.cons_cons _ (List.Sublist.cons_cons _ (List.Sublist.cons_cons _ (List.nil_sublist _))))
  exact ⟨((v19), (v20), (v7)), Aa, F⟩
 have H := EW H
 have F := F.frontM (i := 1) Aa Aa
 refine Gl (ws := [.pointer (some ⟨q_p0, 0, none⟩)]) (Ml := [(q_p0, [v1, .int .i64 p0.2])]) (Zl := [row v1 98 AA p0.1]) (M := (Df b1)) (Z := []) (β := Value) (pv := fun x => .iface 89 (.agg #[.int .i64 x3.1.1, .int .i64 x3.1.2])) (MM := fun x => [(q_p0, [x, .int .i64 x3.2.2])]) (ZZ := fun x => [row x 98 AA x3.2.1]) W F Sk Aa (fun hL => (D5 fRec_parse_parser_policy ih_parse_parser_policy) _ _ w q_p0 (v1) p0 _ h1 hL) fun x w F => ?_
 obtain ⟨v21, rfl⟩ : ∃ y, y = x := ⟨x, rfl⟩
 have F : Stw ⟨Y, X, w0⟩ [(q_p0, [v21, .int .i64 x3.2.2]), (b1, (BU))] [row v21 98 AA x3.2.1] w := F
 refine BW ?_
 have H := AR H
 subst H
 refine Bi W ?_
 have F := F.sub (M' := [(q_p0, [v21, .int .i64 x3.2.2])]) (Z' := [row v21 98 AA x3.2.1]) (List.Sublist.cons_cons _ (List.nil_sublist _)) (List.Sublist.refl _)
 exact ⟨(v21), Aa, F⟩
theorem TL : Has Tryd.prog 56 := ⟨fun args w => Am Tryd.func56 rfl (by decide) args w⟩
noncomputable def AJ (fRec_parse_parser_policy : ((List (Int × Int × List UInt8 × Int)) × Int) → Option ((Tr28 × ((List (Int × Int × List UInt8 × Int)) × Int)) ⊕ ((Int × Int) × ((List (Int × Int × List UInt8 × Int)) × Int)))) (p0 : (List (Int × Int × List UInt8 × Int)) × Int) : Option ((Tr28 × ((List (Int × Int × List UInt8 × Int)) × Int)) ⊕ ((Int × Int) × ((List (Int × Int × List UInt8 × Int)) × Int))) := ((A1 fRec_parse_parser_policy) p0 ([59] : List UInt8)).bind fun x1 => B1 x1 (fun x2 => some (.inl (Tr28.of (x2.1.un.1, Tr25.of (x2.1.un.2.1.un.1, x2.1.un.2.1.un.2.1, x2.1.un.2.1.un.2.2.1, x2.1.un.2.1.un.2.2.2), x2.1.un.2.2.1, x2.1.un.2.2.2.1, x2.1.un.2.2.2.2), x2.2))) (fun x3 => some (.inr (x3.1, x3.2)))
theorem C8 (fRec_parse_parser_policy : ((List (Int × Int × List UInt8 × Int)) × Int) → Option ((Tr28 × ((List (Int × Int × List UInt8 × Int)) × Int)) ⊕ ((Int × Int) × ((List (Int × Int × List UInt8 × Int)) × Int)))) (ih_parse_parser_policy : ∀ (Y : Nat → Prop) (X : List Nat) (w0 : World) (q_p0 : Nat) (v1 : Value) (p0 : (List (Int × Int × List UInt8 × Int)) × Int) (r : (Tr28 × ((List (Int × Int × List UInt8 × Int)) × Int)) ⊕ ((Int × Int) × ((List (Int × Int × List UInt8 × Int)) × Int))) (H : fRec_parse_parser_policy p0 = some r) (hL : Stw ⟨Y, X, w0⟩ [(q_p0, [v1, .int .i64 p0.2])] [row v1 98 AA p0.1] w0), Calls Tryd.prog 28 #[.pointer (some ⟨q_p0, 0, none⟩)] w0 fun e w' => D8 r (fun r => ∃ x : Value × Value × Value, e = .returned (.agg #[.int .i64 r.1.un.1, .int .i64 r.1.un.2.1.un.1, .int .i64 r.1.un.2.1.un.2.1, .int .i64 r.1.un.2.1.un.2.2.1, x.1, .int .i64 r.1.un.2.2.1, .int .i64 r.1.un.2.2.2.1, x.2.1]) ∧ Stw ⟨Y, X, w0⟩ [(q_p0, [x.2.2, .int .i64 r.2.2])] [row (x.2.2) 98 AA r.2.1, A4 (x.1) A6 r.1.un.2.1.un.2.2.2, A4 (x.2.1) BJ r.1.un.2.2.2.2] w') (fun r => ∃ x : Value, e = .panicked [{ v := .iface 89 (.agg #[.int .i64 r.1.1, .int .i64 r.1.2]), recovered := false }] ∧ Stw ⟨Y, X, w0⟩ [(q_p0, [x, .int .i64 r.2.2])] [row (x) 98 AA r.2.1] w')) (Y : Nat → Prop) (X : List Nat) (w0 : World) (q_p0 : Nat) (v1 : Value) (p0 : (List (Int × Int × List UInt8 × Int)) × Int) (r : (Tr28 × ((List (Int × Int × List UInt8 × Int)) × Int)) ⊕ ((Int × Int) × ((List (Int × Int × List UInt8 × Int)) × Int))) (H : AJ fRec_parse_parser_policy p0 = some r) (hL : Stw ⟨Y, X, w0⟩ [(q_p0, [v1, .int .i64 p0.2])] [row v1 98 AA p0.1] w0) :
    Calls Tryd.prog 57 #[.pointer (some ⟨q_p0, 0, none⟩)] w0 fun e w' => D8 r (fun r => ∃ x : Value × Value × Value, e = .returned (.agg #[.int .i64 r.1.un.1, .int .i64 r.1.un.2.1.un.1, .int .i64 r.1.un.2.1.un.2.1, .int .i64 r.1.un.2.1.un.2.2.1, x.1, .int .i64 r.1.un.2.2.1, .int .i64 r.1.un.2.2.2.1, x.2.1]) ∧ Stw ⟨Y, X, w0⟩ [(q_p0, [x.2.2, .int .i64 r.2.2])] [row (x.2.2) 98 AA r.2.1, A4 (x.1) A6 r.1.un.2.1.un.2.2.2, A4 (x.2.1) BJ r.1.un.2.2.2.2] w') (fun r => ∃ x : Value, e = .panicked [{ v := .iface 89 (.agg #[.int .i64 r.1.1, .int .i64 r.1.2]), recovered := false }] ∧ Stw ⟨Y, X, w0⟩ [(q_p0, [x, .int .i64 r.2.2])] [row (x) 98 AA r.2.1] w') := by
 refine enter Tryd.func57 Aa Tryd.ntmps57 Aa fun a W => ?_
 have F := hL
 unfold AJ at H
 refine Ah (Ab ?_)
 refine BA (cs := (BU)) W F Aa JT Aa fun b1 a w W F => ?_
 refine Ae (Ac (Ah (Ab ?_)))
 iterate 2 refine ls W F Aa (Ai W Aa).q fun a w W F => ?_
 refine ls W F Aa (G0 (us := [.pointer (some ⟨q_p0, 0, none⟩)]) (vs := []) W Aa Aa).q fun a w W F => ?_
 obtain ⟨x1, h1, H⟩ := Aq H
 rcases x1 with x2 | x3
 ·
  have H := EZ H
  have F := F.frontM (i := 1) Aa Aa
  refine Bp (Ml := [(q_p0, [v1, .int .i64 p0.2])]) (Zl := [row v1 98 AA p0.1]) (M := (Df b1)) (Z := []) (β := Value × Value × Value) (rv := fun x => .agg #[.int .i64 x2.1.un.1, .int .i64 x2.1.un.2.1.un.1, .int .i64 x2.1.un.2.1.un.2.1, .int .i64 x2.1.un.2.1.un.2.2.1, x.1, .int .i64 x2.1.un.2.2.1, .int .i64 x2.1.un.2.2.2.1, x.2.1]) (MM := fun x => [(q_p0, [x.2.2, .int .i64 x2.2.2])]) (ZZ := fun x => [row x.2.2 98 AA x2.2.1, A4 x.1 A6 x2.1.un.2.1.un.2.2.2, A4 x.2.1 BJ x2.1.un.2.2.2.2]) W F TL Aa Aa (fun hL => (EQ fRec_parse_parser_policy ih_parse_parser_policy) _ _ w q_p0 (v1) p0 ([59] : List UInt8) _ h1 hL) fun x a w W F => ?_
  obtain ⟨v2, v3, v4⟩ := x
  have F : Stw ⟨Y, X, w0⟩ [(q_p0, [v4, .int .i64 x2.2.2]), (b1, (BU))] [row v4 98 AA x2.2.1, A4 v2 A6 x2.1.un.2.1.un.2.2.2, A4 v3 BJ x2.1.un.2.2.2.2] w := F
  refine AP (vs := (DM x2 v2 v3)) (M' := [(q_p0, [v4, .int .i64 x2.2.2]), (b1, (DM x2 v2 v3))]) 1 W F Aa Aa Aa D1 Aa Aa Aa (Af Aa (Af Aa (Af Aa (Af Aa (Af (F.oneF (k := 1) Aa) (Af Aa (Af Aa (Af (F.oneF (k := 2) Aa) BC)))))))) Aa fun w F => ?_
  refine Ae (Ac (Au ?_))
  have H := AR H
  subst H
  refine AO (.inl Aa) W F Aa (BD 1 W Aa Aa D1 Aa) ?_
  have F := F.frontZ (i := 2) Aa Aa
  have F := F.frontZ (i := 2) Aa Aa
  have F := F.frontZ (i := 2) Aa Aa
  have F := F.sub (M' := [(q_p0, [v4, .int .i64 x2.2.2])]) (Z' := [row v4 98 AA x2.2.1, A4 v2 A6 x2.1.un.2.1.un.2.2.2, A4 v3 BJ x2.1.un.2.2.2.2]) (List.Sublist.cons_cons _ (List.nil_sublist _)) (List.Sublist.refl _)
  exact ⟨((v2), (v3), (v4)), Aa, F⟩
 have H := EW H
 have F := F.frontM (i := 1) Aa Aa
 refine Cj (Ml := [(q_p0, [v1, .int .i64 p0.2])]) (Zl := [row v1 98 AA p0.1]) (M := (Df b1)) (Z := []) (β := Value) (pv := fun x => .iface 89 (.agg #[.int .i64 x3.1.1, .int .i64 x3.1.2])) (MM := fun x => [(q_p0, [x, .int .i64 x3.2.2])]) (ZZ := fun x => [row x 98 AA x3.2.1]) W F TL Aa (fun hL => (EQ fRec_parse_parser_policy ih_parse_parser_policy) _ _ w q_p0 (v1) p0 ([59] : List UInt8) _ h1 hL) fun x w F => ?_
 obtain ⟨v5, rfl⟩ : ∃ y, y = x := ⟨x, rfl⟩
 have F : Stw ⟨Y, X, w0⟩ [(q_p0, [v5, .int .i64 x3.2.2]), (b1, (BU))] [row v5 98 AA x3.2.1] w := F
 refine BW ?_
 have H := AR H
 subst H
 refine Bi W ?_
 have F := F.sub (M' := [(q_p0, [v5, .int .i64 x3.2.2])]) (Z' := [row v5 98 AA x3.2.1]) (List.Sublist.cons_cons _ (List.nil_sublist _)) (List.Sublist.refl _)
 exact ⟨(v5), Aa, F⟩
theorem TK : Has Tryd.prog 57 := ⟨fun args w => Am Tryd.func57 rfl (by decide) args w⟩
abbrev Tl (a0 : Value) : List Value := [.int .i64 4, .int .i64 0, .int .i64 0, .int .i64 0, .slice none 0 0, .int .i64 0, .int .i64 0, a0]
def A7 (p0 : List Tr28) : Tr28 := Tr28.of (4, Tr25.of (0, 0, 0, ([] : List Tr25)), 0, 0, p0)
theorem MP (Y : Nat → Prop) (w0 : World) (v1 : Value) (p0 : List Tr28) (r : Tr28) (H : A7 p0 = r) (s_v1 : Sl w0 Y BJ v1 p0) :
    Calls Tryd.prog 58 #[v1] w0 fun e w' => ∃ x : Value × Value, e = .returned (.agg #[.int .i64 r.un.1, .int .i64 r.un.2.1.un.1, .int .i64 r.un.2.1.un.2.1, .int .i64 r.un.2.1.un.2.2.1, x.1, .int .i64 r.un.2.2.1, .int .i64 r.un.2.2.2.1, x.2]) ∧ Stw ⟨Y, [], w0⟩ [] [row (x.1) 25 A6 r.un.2.1.un.2.2.2, A4 (x.2) BJ r.un.2.2.2.2] w' := by
 refine enter Tryd.func58 Aa Tryd.ntmps58 Aa fun a W => ?_
 have F := Stw.start Y w0
 obtain ⟨v2, h1, s_v1⟩ := s_v1.ex Eg
 have h_v1 := F.nx s_v1
 unfold A7 at H
 refine Ah (Ab ?_)
 refine BA (cs := (BU)) W F Aa JT Aa fun b1 a w W F => ?_
 refine Ae (Ac (Ah (Ab ?_)))
 refine ls W F Aa (Ai W Aa).q fun a w W F => ?_
 refine ls W F Aa (Cx (v := Value.agg #[.int .i64 4, .int .i64 0, .int .i64 0, .int .i64 0, .slice none 0 0, .int .i64 0, .int .i64 0, v1]) S6 W Aa (BQ Aa Aa Aa (BQ Aa (FU h_v1.one) Aa CX)) Aa).q fun a w W F => ?_
 refine AP (vs := (Tl v1)) (M' := [(b1, [.int .i64 4, .int .i64 0, .int .i64 0, .int .i64 0, .slice none 0 0, .int .i64 0, .int .i64 0, v1])]) 0 W F Aa Aa Aa D1 Aa Aa Aa (Af Aa (Af Aa (Af Aa (Af Aa (Af Aa (Af Aa (Af Aa (Af h_v1.one BC)))))))) Aa fun w F => ?_
 refine Ae (Ac (Au ?_))
 subst H
 refine AO (.inl Aa) W F Aa (BD 0 W Aa Aa D1 Aa) ?_
 have F := F.nilRow 25 A6
 have F := F.note (Sl.hide Eg h1 (F.old s_v1))
 have F := F.frontZ (i := 1) Aa Aa
 have F := F.sub (M' := []) (Z' := [row (Value.slice none 0 0) 25 A6 ([]), A4 v1 BJ p0]) (List.nil_sublist _) (List.Sublist.refl _)
 exact ⟨((Value.slice none 0 0), (v1)), Aa, F⟩
theorem Vb : Has Tryd.prog 58 := ⟨fun args w => Am Tryd.func58 rfl (by decide) args w⟩
abbrev Sq (a0 : List Tr28) (a1 : Value) (a2 : Value) : List Value := [.int .i64 ((A7 a0).un.1), .int .i64 ((A7 a0).un.2.1.un.1), .int .i64 ((A7 a0).un.2.1.un.2.1), .int .i64 ((A7 a0).un.2.1.un.2.2.1), a1, .int .i64 ((A7 a0).un.2.2.1), .int .i64 ((A7 a0).un.2.2.2.1), a2]
noncomputable def AH (fRec_parse_parser_policy : ((List (Int × Int × List UInt8 × Int)) × Int) → Option ((Tr28 × ((List (Int × Int × List UInt8 × Int)) × Int)) ⊕ ((Int × Int) × ((List (Int × Int × List UInt8 × Int)) × Int)))) (p1 : List UInt8) : (List Tr28 × (List (Int × Int × List UInt8 × Int)) × Int) → Option ((List Tr28 × (List (Int × Int × List UInt8 × Int)) × Int) ⊕ ((List Tr28 × (List (Int × Int × List UInt8 × Int)) × Int) ⊕ ((Tr28 × ((List (Int × Int × List UInt8 × Int)) × Int)) ⊕ ((Int × Int) × ((List (Int × Int × List UInt8 × Int)) × Int)))))
  | (x7, x8, x9) => (As (x8, x9) p1).bind fun x10 => (if x10.1 = true then ((AJ fRec_parse_parser_policy) x10.2).bind fun x11 => B1 x11 (fun x12 => (D0 x7 ([Tr28.of (x12.1.un.1, Tr25.of (x12.1.un.2.1.un.1, x12.1.un.2.1.un.2.1, x12.1.un.2.1.un.2.2.1, x12.1.un.2.1.un.2.2.2), x12.1.un.2.2.1, x12.1.un.2.2.2.1, x12.1.un.2.2.2.2)] : List Tr28)).bind fun x14 => some (.inl (x14, x12.2.1, x12.2.2))) (fun x13 => some (.inr (.inr (.inr (x13.1, x13.2))))) else some (.inr (.inl (x7, x10.2.1, x10.2.2))))
noncomputable def AW (fRec_parse_parser_policy : ((List (Int × Int × List UInt8 × Int)) × Int) → Option ((Tr28 × ((List (Int × Int × List UInt8 × Int)) × Int)) ⊕ ((Int × Int) × ((List (Int × Int × List UInt8 × Int)) × Int)))) (p0 : (List (Int × Int × List UInt8 × Int)) × Int) (p1 : List UInt8) : Option ((Tr28 × ((List (Int × Int × List UInt8 × Int)) × Int)) ⊕ ((Int × Int) × ((List (Int × Int × List UInt8 × Int)) × Int))) := ((AJ fRec_parse_parser_policy) p0).bind fun x1 => B1 x1 (fun x2 => HX (Bo (AH fRec_parse_parser_policy p1) (([Tr28.of (x2.1.un.1, Tr25.of (x2.1.un.2.1.un.1, x2.1.un.2.1.un.2.1, x2.1.un.2.1.un.2.2.1, x2.1.un.2.1.un.2.2.2), x2.1.un.2.2.1, x2.1.un.2.2.2.1, x2.1.un.2.2.2.2)] : List Tr28), x2.2.1, x2.2.2)) fun (x4, x5, x6) => (if (x4.length : Int) = 1 then (ix x4 0).bind fun x15 => some (.inl (Tr28.of (x15.un.1, Tr25.of (x15.un.2.1.un.1, x15.un.2.1.un.2.1, x15.un.2.1.un.2.2.1, x15.un.2.1.un.2.2.2), x15.un.2.2.1, x15.un.2.2.2.1, x15.un.2.2.2.2), (x5, x6))) else some (.inl (Tr28.of ((A7 x4).un.1, Tr25.of ((A7 x4).un.2.1.un.1, (A7 x4).un.2.1.un.2.1, (A7 x4).un.2.1.un.2.2.1, (A7 x4).un.2.1.un.2.2.2), (A7 x4).un.2.2.1, (A7 x4).un.2.2.2.1, (A7 x4).un.2.2.2.2), (x5, x6))))) (fun x3 => some (.inr (x3.1, x3.2)))
theorem Fy (fRec_parse_parser_policy : ((List (Int × Int × List UInt8 × Int)) × Int) → Option ((Tr28 × ((List (Int × Int × List UInt8 × Int)) × Int)) ⊕ ((Int × Int) × ((List (Int × Int × List UInt8 × Int)) × Int)))) (ih_parse_parser_policy : ∀ (Y : Nat → Prop) (X : List Nat) (w0 : World) (q_p0 : Nat) (v1 : Value) (p0 : (List (Int × Int × List UInt8 × Int)) × Int) (r : (Tr28 × ((List (Int × Int × List UInt8 × Int)) × Int)) ⊕ ((Int × Int) × ((List (Int × Int × List UInt8 × Int)) × Int))) (H : fRec_parse_parser_policy p0 = some r) (hL : Stw ⟨Y, X, w0⟩ [(q_p0, [v1, .int .i64 p0.2])] [row v1 98 AA p0.1] w0), Calls Tryd.prog 28 #[.pointer (some ⟨q_p0, 0, none⟩)] w0 fun e w' => D8 r (fun r => ∃ x : Value × Value × Value, e = .returned (.agg #[.int .i64 r.1.un.1, .int .i64 r.1.un.2.1.un.1, .int .i64 r.1.un.2.1.un.2.1, .int .i64 r.1.un.2.1.un.2.2.1, x.1, .int .i64 r.1.un.2.2.1, .int .i64 r.1.un.2.2.2.1, x.2.1]) ∧ Stw ⟨Y, X, w0⟩ [(q_p0, [x.2.2, .int .i64 r.2.2])] [row (x.2.2) 98 AA r.2.1, A4 (x.1) A6 r.1.un.2.1.un.2.2.2, A4 (x.2.1) BJ r.1.un.2.2.2.2] w') (fun r => ∃ x : Value, e = .panicked [{ v := .iface 89 (.agg #[.int .i64 r.1.1, .int .i64 r.1.2]), recovered := false }] ∧ Stw ⟨Y, X, w0⟩ [(q_p0, [x, .int .i64 r.2.2])] [row (x) 98 AA r.2.1] w')) (Y : Nat → Prop) (X : List Nat) (w0 : World) (q_p0 : Nat) (v1 : Value) (p0 : (List (Int × Int × List UInt8 × Int)) × Int) (p1 : List UInt8) (r : (Tr28 × ((List (Int × Int × List UInt8 × Int)) × Int)) ⊕ ((Int × Int) × ((List (Int × Int × List UInt8 × Int)) × Int))) (H : AW fRec_parse_parser_policy p0 p1 = some r) (hL : Stw ⟨Y, X, w0⟩ [(q_p0, [v1, .int .i64 p0.2])] [row v1 98 AA p0.1] w0) :
    Calls Tryd.prog 56 #[.pointer (some ⟨q_p0, 0, none⟩), .string (bs p1), .func (.func 57) #[.pointer (some ⟨q_p0, 0, none⟩)] #[], .func (.func 58) #[] #[]] w0 fun e w' => D8 r (fun r => ∃ x : Value × Value × Value, e = .returned (.agg #[.int .i64 r.1.un.1, .int .i64 r.1.un.2.1.un.1, .int .i64 r.1.un.2.1.un.2.1, .int .i64 r.1.un.2.1.un.2.2.1, x.1, .int .i64 r.1.un.2.2.1, .int .i64 r.1.un.2.2.2.1, x.2.1]) ∧ Stw ⟨Y, X, w0⟩ [(q_p0, [x.2.2, .int .i64 r.2.2])] [row (x.2.2) 98 AA r.2.1, A4 (x.1) A6 r.1.un.2.1.un.2.2.2, A4 (x.2.1) BJ r.1.un.2.2.2.2] w') (fun r => ∃ x : Value, e = .panicked [{ v := .iface 89 (.agg #[.int .i64 r.1.1, .int .i64 r.1.2]), recovered := false }] ∧ Stw ⟨Y, X, w0⟩ [(q_p0, [x, .int .i64 r.2.2])] [row (x) 98 AA r.2.1] w') := by
 refine enter Tryd.func56 Aa Tryd.ntmps56 Aa fun a W => ?_
 have F := hL
 unfold AW at H
 refine Ah (Ab ?_)
 refine BA (cs := (BU)) W F Aa JT Aa fun b1 a w W F => ?_
 refine Ae (Ac (Ah (Ab ?_)))
 refine ls W F Aa (Ai W Aa).q fun a w W F => ?_
 obtain ⟨x1, h1, H⟩ := Aq H
 rcases x1 with x2 | x3
 ·
  have H := EZ H
  have F := F.frontM (i := 1) Aa Aa
  refine Eu (ws := [.pointer (some ⟨q_p0, 0, none⟩)]) (Ml := [(q_p0, [v1, .int .i64 p0.2])]) (Zl := [row v1 98 AA p0.1]) (M := (Df b1)) (Z := []) (β := Value × Value × Value) (rv := fun x => .agg #[.int .i64 x2.1.un.1, .int .i64 x2.1.un.2.1.un.1, .int .i64 x2.1.un.2.1.un.2.1, .int .i64 x2.1.un.2.1.un.2.2.1, x.1, .int .i64 x2.1.un.2.2.1, .int .i64 x2.1.un.2.2.2.1, x.2.1]) (MM := fun x => [(q_p0, [x.2.2, .int .i64 x2.2.2])]) (ZZ := fun x => [row x.2.2 98 AA x2.2.1, A4 x.1 A6 x2.1.un.2.1.un.2.2.2, A4 x.2.1 BJ x2.1.un.2.2.2.2]) W F TK Aa Aa (fun hL => (C8 fRec_parse_parser_policy ih_parse_parser_policy) _ _ w q_p0 (v1) p0 _ h1 hL) fun x a w W F => ?_
  obtain ⟨v2, v3, v4⟩ := x
  have F : Stw ⟨Y, X, w0⟩ [(q_p0, [v4, .int .i64 x2.2.2]), (b1, (BU))] [row v4 98 AA x2.2.1, A4 v2 A6 x2.1.un.2.1.un.2.2.2, A4 v3 BJ x2.1.un.2.2.2.2] w := F
  refine Hi (z := Value.agg #[.int .i64 0, .int .i64 0, .int .i64 0, .int .i64 0, .slice none 0 0, .int .i64 0, .int .i64 0, .slice none 0 0]) (cs := (DM x2 v2 v3)) BJ ([Tr28.of (x2.1.un.1, Tr25.of (x2.1.un.2.1.un.1, x2.1.un.2.1.un.2.1, x2.1.un.2.1.un.2.2.1, x2.1.un.2.1.un.2.2.2), x2.1.un.2.2.1, x2.1.un.2.2.2.1, x2.1.un.2.2.2.2)] : List Tr28) W F Aa OM JT Aa Aa Aa (BQ Aa Aa Aa CX) Aa Aa ⟨[Value.int .i64 x2.1.un.1, Value.int .i64 x2.1.un.2.1.un.1, Value.int .i64 x2.1.un.2.1.un.2.1, Value.int .i64 x2.1.un.2.1.un.2.2.1, v2, Value.int .i64 x2.1.un.2.2.1, Value.int .i64 x2.1.un.2.2.2.1, v3], _, Aa, (PP.2 ⟨[Value.int .i64 x2.1.un.1], [Value.int .i64 x2.1.un.2.1.un.1, Value.int .i64 x2.1.un.2.1.un.2.1, Value.int .i64 x2.1.un.2.1.un.2.2.1, v2, Value.int .i64 x2.1.un.2.2.1, Value.int .i64 x2.1.un.2.2.2.1, v3], Aa, Aa, ⟨[Value.int .i64 x2.1.un.2.1.un.1, Value.int .i64 x2.1.un.2.1.un.2.1, Value.int .i64 x2.1.un.2.1.un.2.2.1, v2], [Value.int .i64 x2.1.un.2.2.1, Value.int .i64 x2.1.un.2.2.2.1, v3], Aa, (Mh.2 ⟨[Value.int .i64 x2.1.un.2.1.un.1], [Value.int .i64 x2.1.un.2.1.un.2.1, Value.int .i64 x2.1.un.2.1.un.2.2.1, v2], Aa, Aa, ⟨[Value.int .i64 x2.1.un.2.1.un.2.1], [Value.int .i64 x2.1.un.2.1.un.2.2.1, v2], Aa, Aa, ⟨[Value.int .i64 x2.1.un.2.1.un.2.2.1], [v2], Aa, Aa, ⟨_, Aa, (F.item (i := 1) Aa)⟩⟩⟩⟩), ⟨[Value.int .i64 x2.1.un.2.2.1], [Value.int .i64 x2.1.un.2.2.2.1, v3], Aa, Aa, ⟨[Value.int .i64 x2.1.un.2.2.2.1], [v3], Aa, Aa, ⟨_, Aa, (F.item (i := 2) Aa)⟩⟩⟩⟩⟩), Aa⟩ fun v5 a w W F => ?_
  refine ls W F Aa (Ag W Aa).q fun a w W F => ?_
  refine Ae (Ac ?_)
  obtain ⟨o1, G1, K1, L1⟩ := Qb H
  refine BK (fun a w => ∃ x4 : List Tr28, ∃ x5 : List (Int × Int × List UInt8 × Int), ∃ x6 : Int, ∃ v6 : Value, ∃ v7 : Value, some (Sum.inl (x4, x5, x6)) = some o1 ∧ Fr 30 [] [(3, .func (.func 58) #[] #[]), (8, .pointer (some ⟨b1, 0, none⟩)), (9, v6)] a ∧ Stw ⟨Y, X, w0⟩ [(q_p0, [v7, .int .i64 x6]), (b1, (BU))] [row v6 28 BJ x4, row v7 98 AA x5] w) ?_ ?_
  ·
   have H := G1
   clear G1 K1
   refine Bb ?_
   have F := F.frontZ (i := 1) Aa Aa
   have F := F.frontZ (i := 1) Aa Aa
   have F := F.frontM (i := 1) Aa Aa
   have F := F.frontM (i := 1) Aa Aa
   have F := F.sub (M' := [(q_p0, [v4, .int .i64 x2.2.2]), (b1, (BU))]) (Z' := [row v5 28 BJ ([Tr28.of (x2.1.un.1, Tr25.of (x2.1.un.2.1.un.1, x2.1.un.2.1.un.2.1, x2.1.un.2.1.un.2.2.1, x2.1.un.2.1.un.2.2.2), x2.1.un.2.2.1, x2.1.un.2.2.2.1, x2.1.un.2.2.2.2)] : List Tr28), row v4 98 AA x2.2.1]) (List.Sublist.refl _) (List.Sublist.cons_cons _ (List.Sublist.cons_cons _ (List.nil_sublist _)))
   refine Dl H (fun s a w => ∃ v8 : Value, ∃ v9 : Value, Fr 30 [] [(0, .pointer (some ⟨q_p0, 0, none⟩)), (1, .string (bs p1)), (2, .func (.func 57) #[.pointer (some ⟨q_p0, 0, none⟩)] #[]), (3, .func (.func 58) #[] #[]), (8, .pointer (some ⟨b1, 0, none⟩)), (9, v8)] a ∧ Stw ⟨Y, X, w0⟩ [(q_p0, [v9, .int .i64 s.2.2]), (b1, (BU))] [row v8 28 BJ s.1, row v9 98 AA s.2.1] w) ⟨(v5), (v4), W.re ⟨rfl, Aa, Aa, Aa, Aa, Aa, trivial⟩, F⟩ fun s o a w H L2 hR => ?_
   obtain ⟨x7, x8, x9⟩ := s
   obtain ⟨v8, v9, W, F⟩ := hR
   have W : Fr 30 [] [(0, .pointer (some ⟨q_p0, 0, none⟩)), (1, .string (bs p1)), (2, .func (.func 57) #[.pointer (some ⟨q_p0, 0, none⟩)] #[]), (3, .func (.func 58) #[] #[]), (8, .pointer (some ⟨b1, 0, none⟩)), (9, v8)] a := W
   have F : Stw ⟨Y, X, w0⟩ [(q_p0, [v9, .int .i64 x9]), (b1, (BU))] [row v8 28 BJ x7, row v9 98 AA x8] w := F
   rw [AH] at H
   refine Ah (Ah (Ab ?_))
   iterate 2 refine ls W F Aa (Ai W Aa).q fun a w W F => ?_
   obtain ⟨x10, h2, H⟩ := Aq H
   have F := F.frontZ (i := 1) Aa Aa
   refine Bp (Ml := [(q_p0, [v9, .int .i64 x9])]) (Zl := [row v9 98 AA x8]) (M := (Df b1)) (Z := [row v8 28 BJ x7]) (β := Value) (rv := fun x => .bool x10.1) (MM := fun x => [(q_p0, [x, .int .i64 x10.2.2])]) (ZZ := fun x => [row x 98 AA x10.2.1]) W F PH Aa Aa (fun hL => Bl _ _ w q_p0 (v9) (x8, x9) p1 _ h2 hL) fun x a w W F => ?_
   obtain ⟨v10, rfl⟩ : ∃ y, y = x := ⟨x, rfl⟩
   have F : Stw ⟨Y, X, w0⟩ [(q_p0, [v10, .int .i64 x10.2.2]), (b1, (BU))] [row v10 98 AA x10.2.1, row v8 28 BJ x7] w := F
   refine Ae (Ac ?_)
   refine AC W Aa (fun hb => ?_) fun hb => ?_
   ·
    have H := Ba hb H
    rw [hb] at W
    clear hb
    refine AM (Ac (Bb (Ab ?_)))
    iterate 2 refine ls W F Aa (Ai W Aa).q fun a w W F => ?_
    obtain ⟨x11, h3, H⟩ := Aq H
    rcases x11 with x12 | x13
    ·
     have H := EZ H
     refine Eu (ws := [.pointer (some ⟨q_p0, 0, none⟩)]) (Ml := [(q_p0, [v10, .int .i64 x10.2.2])]) (Zl := [row v10 98 AA x10.2.1]) (M := (Df b1)) (Z := [row v8 28 BJ x7]) (β := Value × Value × Value) (rv := fun x => .agg #[.int .i64 x12.1.un.1, .int .i64 x12.1.un.2.1.un.1, .int .i64 x12.1.un.2.1.un.2.1, .int .i64 x12.1.un.2.1.un.2.2.1, x.1, .int .i64 x12.1.un.2.2.1, .int .i64 x12.1.un.2.2.2.1, x.2.1]) (MM := fun x => [(q_p0, [x.2.2, .int .i64 x12.2.2])]) (ZZ := fun x => [row x.2.2 98 AA x12.2.1, A4 x.1 A6 x12.1.un.2.1.un.2.2.2, A4 x.2.1 BJ x12.1.un.2.2.2.2]) W F TK Aa Aa (fun hL => (C8 fRec_parse_parser_policy ih_parse_parser_policy) _ _ w q_p0 (v10) x10.2 _ h3 hL) fun x a w W F => ?_
     obtain ⟨v11, v12, v13⟩ := x
     have F : Stw ⟨Y, X, w0⟩ [(q_p0, [v13, .int .i64 x12.2.2]), (b1, (BU))] [row v13 98 AA x12.2.1, A4 v11 A6 x12.1.un.2.1.un.2.2.2, A4 v12 BJ x12.1.un.2.2.2.2, row v8 28 BJ x7] w := F
     refine Hi (z := Value.agg #[.int .i64 0, .int .i64 0, .int .i64 0, .int .i64 0, .slice none 0 0, .int .i64 0, .int .i64 0, .slice none 0 0]) (cs := (DM x12 v11 v12)) BJ ([Tr28.of (x12.1.un.1, Tr25.of (x12.1.un.2.1.un.1, x12.1.un.2.1.un.2.1, x12.1.un.2.1.un.2.2.1, x12.1.un.2.1.un.2.2.2), x12.1.un.2.2.1, x12.1.un.2.2.2.1, x12.1.un.2.2.2.2)] : List Tr28) W F Aa OM JT Aa Aa Aa (BQ Aa Aa Aa CX) Aa Aa ⟨[Value.int .i64 x12.1.un.1, Value.int .i64 x12.1.un.2.1.un.1, Value.int .i64 x12.1.un.2.1.un.2.1, Value.int .i64 x12.1.un.2.1.un.2.2.1, v11, Value.int .i64 x12.1.un.2.2.1, Value.int .i64 x12.1.un.2.2.2.1, v12], _, Aa, (PP.2 ⟨[Value.int .i64 x12.1.un.1], [Value.int .i64 x12.1.un.2.1.un.1, Value.int .i64 x12.1.un.2.1.un.2.1, Value.int .i64 x12.1.un.2.1.un.2.2.1, v11, Value.int .i64 x12.1.un.2.2.1, Value.int .i64 x12.1.un.2.2.2.1, v12], Aa, Aa, ⟨[Value.int .i64 x12.1.un.2.1.un.1, Value.int .i64 x12.1.un.2.1.un.2.1, Value.int .i64 x12.1.un.2.1.un.2.2.1, v11], [Value.int .i64 x12.1.un.2.2.1, Value.int .i64 x12.1.un.2.2.2.1, v12], Aa, (Mh.2 ⟨[Value.int .i64 x12.1.un.2.1.un.1], [Value.int .i64 x12.1.un.2.1.un.2.1, Value.int .i64 x12.1.un.2.1.un.2.2.1, v11], Aa, Aa, ⟨[Value.int .i64 x12.1.un.2.1.un.2.1], [Value.int .i64 x12.1.un.2.1.un.2.2.1, v11], Aa, Aa, ⟨[Value.int .i64 x12.1.un.2.1.un.2.2.1], [v11], Aa, Aa, ⟨_, Aa, (F.item (i := 1) Aa)⟩⟩⟩⟩), ⟨[Value.int .i64 x12.1.un.2.2.1], [Value.int .i64 x12.1.un.2.2.2.1, v12], Aa, Aa, ⟨[Value.int .i64 x12.1.un.2.2.2.1], [v12], Aa, Aa, ⟨_, Aa, (F.item (i := 2) Aa)⟩⟩⟩⟩⟩), Aa⟩ fun v14 a w W F => ?_
     obtain ⟨x14, h4, H⟩ := Aq H
     refine Gd (r := BJ) (i := 4) W F Aa OM Aa Aa Aa Aa (Hh F 0 Aa) h4 Aa fun v15 a w W F => ?_
     have F : Stw ⟨Y, X, w0⟩ [(q_p0, [v13, .int .i64 x12.2.2]), (b1, (BU))] [row v15 28 BJ x14, row v14 28 BJ ([Tr28.of (x12.1.un.1, Tr25.of (x12.1.un.2.1.un.1, x12.1.un.2.1.un.2.1, x12.1.un.2.1.un.2.2.1, x12.1.un.2.1.un.2.2.2), x12.1.un.2.2.1, x12.1.un.2.2.2.1, x12.1.un.2.2.2.2)] : List Tr28), row v13 98 AA x12.2.1, A4 v11 A6 x12.1.un.2.1.un.2.2.2, A4 v12 BJ x12.1.un.2.2.2.2] w := F
     refine ls W F Aa (Ag W Aa).q fun a w W F => ?_
     refine Ae (BI (Ac ?_))
     have F := F.frontZ (i := 2) Aa Aa
     have F := F.frontZ (i := 1) Aa Aa
     have F := F.frontM (i := 1) Aa Aa
     have F := F.frontM (i := 1) Aa Aa
     have F := F.sub (M' := [(q_p0, [v13, .int .i64 x12.2.2]), (b1, (BU))]) (Z' := [row v15 28 BJ x14, row v13 98 AA x12.2.1]) (List.Sublist.refl _) (List.Sublist.cons_cons _ (List.Sublist.cons_cons _ (List.nil_sublist _)))
     exact ⟨_, H, (v15), (v13), W.re ⟨rfl, Aa, Aa, Aa, Aa, Aa, trivial⟩, F⟩
    have H := EW H
    refine Gl (ws := [.pointer (some ⟨q_p0, 0, none⟩)]) (Ml := [(q_p0, [v10, .int .i64 x10.2.2])]) (Zl := [row v10 98 AA x10.2.1]) (M := (Df b1)) (Z := [row v8 28 BJ x7]) (β := Value) (pv := fun x => .iface 89 (.agg #[.int .i64 x13.1.1, .int .i64 x13.1.2])) (MM := fun x => [(q_p0, [x, .int .i64 x13.2.2])]) (ZZ := fun x => [row x 98 AA x13.2.1]) W F TK Aa (fun hL => (C8 fRec_parse_parser_policy ih_parse_parser_policy) _ _ w q_p0 (v10) x10.2 _ h3 hL) fun x w F => ?_
    obtain ⟨v16, rfl⟩ : ∃ y, y = x := ⟨x, rfl⟩
    have F : Stw ⟨Y, X, w0⟩ [(q_p0, [v16, .int .i64 x13.2.2]), (b1, (BU))] [row v16 98 AA x13.2.1, row v8 28 BJ x7] w := F
    refine Ep (BW (Ep (BW ?_)))
    have H := L2 _ H
    have H := L1 _ H
    have H := AR H
    subst H
    refine Bi W ?_
    have F := F.sub (M' := [(q_p0, [v16, .int .i64 x13.2.2])]) (Z' := [row v16 98 AA x13.2.1]) (List.Sublist.cons_cons _ (List.nil_sublist _)) (List.Sublist.cons_cons _ (List.nil_sublist _))
    exact ⟨(v16), Aa, F⟩
   have H := Bc (by rw [hb]; decide) H
   rw [hb] at W
   clear hb
   refine Do ?_
   iterate 2 refine Er ?_
   refine Dk (Ac ?_)
   have F := F.frontZ (i := 1) Aa Aa
   have F := F.frontM (i := 1) Aa Aa
   have F := F.frontM (i := 1) Aa Aa
   have H := L2 _ H
   exact ⟨_, _, _, (v8), (v10), H, W.re ⟨rfl, Aa, Aa, trivial⟩, F⟩
  rintro a w ⟨x4, x5, x6, v6, v7, hj, W, F⟩
  have H := K1 _ hj
  clear hj G1 K1 L1
  refine Ah (Ah (Ab ?_))
  refine ls W F Aa (Ai W Aa).q fun a w W F => ?_
  refine ls W F Aa (DC (r := BJ) (l := x4) IX Aa W Aa (CB 0 Aa)).q fun a w W F => ?_
  refine ls W F Aa (Bw W Aa Aa).q fun a w W F => ?_
  refine Ae (Ac ?_)
  refine AC W Aa (fun hb => ?_) fun hb => ?_
  ·
   have H := Ba (BM hb) H
   rw [hb] at W
   clear hb
   refine Ah ?_
   obtain ⟨v17, h5, F⟩ := F.exR Eg
   refine Ab ?_
   refine ls W F Aa (Ai W Aa).q fun a w W F => ?_
   obtain ⟨x15, h6, H⟩ := Aq H
   obtain ⟨v18, h7, h8⟩ := Gy h5 h6
   have h9 : Ic v18 = [.int .i64 x15.un.1, .int .i64 x15.un.2.1.un.1, .int .i64 x15.un.2.1.un.2.1, .int .i64 x15.un.2.1.un.2.2.1, (v18.2.1.2.2.2.1), .int .i64 x15.un.2.2.1, .int .i64 x15.un.2.2.2.1, (v18.2.2.2.2.1)] := congrArg (fun q : Tr28 => ([.int .i64 q.un.1, .int .i64 q.un.2.1.un.1, .int .i64 q.un.2.1.un.2.1, .int .i64 q.un.2.1.un.2.2.1, (v18.2.1.2.2.2.1), .int .i64 q.un.2.2.1, .int .i64 q.un.2.2.2.1, (v18.2.2.2.2.1)] : List Value)) h8
   refine ls W F Aa (DS (r := Mr) OM W Aa Aa (CB 0 Aa) h7).q fun a w W F => ?_
   refine ls W F Aa (CG (y := Value.agg #[.int .i64 x15.un.1, .int .i64 x15.un.2.1.un.1, .int .i64 x15.un.2.1.un.2.1, .int .i64 x15.un.2.1.un.2.2.1, (v18.2.1.2.2.2.1), .int .i64 x15.un.2.2.1, .int .i64 x15.un.2.2.2.1, (v18.2.2.2.2.1)]) (j := 0) (i := 0) (enc := Ic) W Aa Aa (CB 0 Aa) h7 NE D1 (by rw [h9]; rfl)).q fun a w W F => ?_
   have F := F.note (F.rowAt (k := 0) Aa h7 (AE.snd (AE.fst (AE.snd (AE.snd (AE.snd AE.here))))) (congrArg (fun q : Tr28 => q.un.2.1.un.2.2.2) h8))
   have F := F.note (F.rowAt (k := 1) Aa h7 (AE.snd (AE.snd (AE.snd (AE.snd AE.here)))) (congrArg (fun q : Tr28 => q.un.2.2.2.2) h8))
   refine AP (vs := [.int .i64 x15.un.1, .int .i64 x15.un.2.1.un.1, .int .i64 x15.un.2.1.un.2.1, .int .i64 x15.un.2.1.un.2.2.1, (v18.2.1.2.2.2.1), .int .i64 x15.un.2.2.1, .int .i64 x15.un.2.2.2.1, (v18.2.2.2.2.1)]) (M' := [(q_p0, [v7, .int .i64 x6]), (b1, [.int .i64 x15.un.1, .int .i64 x15.un.2.1.un.1, .int .i64 x15.un.2.1.un.2.1, .int .i64 x15.un.2.1.un.2.2.1, (v18.2.1.2.2.2.1), .int .i64 x15.un.2.2.1, .int .i64 x15.un.2.2.2.1, (v18.2.2.2.2.1)])]) 1 W F Aa Aa Aa D1 Aa Aa Aa (Af Aa (Af Aa (Af Aa (Af Aa (Af (F.oneF (k := 1) Aa) (Af Aa (Af Aa (Af (F.oneF (k := 0) Aa) BC)))))))) Aa fun w F => ?_
   refine Ae (Ac (Au (AV ?_)))
   have H := AR H
   subst H
   refine AO (.inl Aa) W F Aa (BD 1 W Aa Aa D1 Aa) ?_
   have F := F.frontZ (i := 1) Aa Aa
   have F := F.frontZ (i := 3) Aa Aa
   have F := F.sub (M' := [(q_p0, [v7, .int .i64 x6])]) (Z' := [row v7 98 AA x5, A4 (v18.2.1.2.2.2.1) A6 x15.un.2.1.un.2.2.2, A4 (v18.2.2.2.2.1) BJ x15.un.2.2.2.2]) (List.Sublist.cons_cons _ (List.nil_sublist _)) (List.Sublist.cons_cons _ (List.Sublist.cons_cons _ (List.Sublist.cons_cons _ (List.nil_sublist _))))
   exact ⟨(((v18.2.1.2.2.2.1)), ((v18.2.2.2.2.1)), (v7)), Aa, F⟩
  have H := Bc (BL hb) H
  rw [hb] at W
  clear hb
  refine AM (Ac (Ah (Ab ?_)))
  iterate 2 refine ls W F Aa (Ai W Aa).q fun a w W F => ?_
  have F := F.freeze
  refine Eu (ws := [v6]) (Ml := []) (Zl := []) (M := [(q_p0, [v7, .int .i64 x6]), (b1, (BU))]) (Z := [A4 v6 BJ x4, row v7 98 AA x5]) (β := Value × Value) (rv := fun x => .agg #[.int .i64 ((A7 x4).un.1), .int .i64 ((A7 x4).un.2.1.un.1), .int .i64 ((A7 x4).un.2.1.un.2.1), .int .i64 ((A7 x4).un.2.1.un.2.2.1), x.1, .int .i64 ((A7 x4).un.2.2.1), .int .i64 ((A7 x4).un.2.2.2.1), x.2]) (MM := fun x => []) (ZZ := fun x => [row x.1 25 A6 ((A7 x4).un.2.1.un.2.2.2), A4 x.2 BJ ((A7 x4).un.2.2.2.2)]) W F Vb Aa Aa (fun hL => MP _ w (v6) x4 _ Aa (F.item (i := 0) Aa)) fun x a w W F => ?_
  obtain ⟨v19, v20⟩ := x
  have F : Stw ⟨Y, X, w0⟩ [(q_p0, [v7, .int .i64 x6]), (b1, (BU))] [row v19 25 A6 ((A7 x4).un.2.1.un.2.2.2), A4 v20 BJ ((A7 x4).un.2.2.2.2), A4 v6 BJ x4, row v7 98 AA x5] w := F
  refine AP (vs := (Sq x4 v19 v20)) (M' := [(q_p0, [v7, .int .i64 x6]), (b1, (Sq x4 v19 v20))]) 1 W F Aa Aa Aa D1 Aa Aa Aa (Af Aa (Af Aa (Af Aa (Af Aa (Af (F.one (k := 0) Aa) (Af Aa (Af Aa (Af (F.oneF (k := 1) Aa) BC)))))))) Aa fun w F => ?_
  refine Ae (Ac (Au ?_))
  have H := AR H
  subst H
  refine AO (.inl Aa) W F Aa (BD 1 W Aa Aa D1 Aa) ?_
  have F := F.freeze
  have F := F.frontZ (i := 1) Aa Aa
  have F := F.frontZ (i := 1) Aa Aa
  have F := F.frontZ (i := 3) Aa Aa
  have F := F.sub (M' := [(q_p0, [v7, .int .i64 x6])]) (Z' := [row v7 98 AA x5, A4 v19 A6 ((A7 x4).un.2.1.un.2.2.2), A4 v20 BJ ((A7 x4).un.2.2.2.2)]) (List.Sublist.cons_cons _ (List.nil_sublist _)) (List.Sublist.cons_cons _ (List.Sublist.cons_cons _ (List.Sublist.cons_cons _ (List.nil_sublist _))))
  exact ⟨((v19), (v20), (v7)), Aa, F⟩
 have H := EW H
 have F := F.frontM (i := 1) Aa Aa
 refine Gl (ws := [.pointer (some ⟨q_p0, 0, none⟩)]) (Ml := [(q_p0, [v1, .int .i64 p0.2])]) (Zl := [row v1 98 AA p0.1]) (M := (Df b1)) (Z := []) (β := Value) (pv := fun x => .iface 89 (.agg #[.int .i64 x3.1.1, .int .i64 x3.1.2])) (MM := fun x => [(q_p0, [x, .int .i64 x3.2.2])]) (ZZ := fun x => [row x 98 AA x3.2.1]) W F TK Aa (fun hL => (C8 fRec_parse_parser_policy ih_parse_parser_policy) _ _ w q_p0 (v1) p0 _ h1 hL) fun x w F => ?_
 obtain ⟨v21, rfl⟩ : ∃ y, y = x := ⟨x, rfl⟩
 have F : Stw ⟨Y, X, w0⟩ [(q_p0, [v21, .int .i64 x3.2.2]), (b1, (BU))] [row v21 98 AA x3.2.1] w := F
 refine BW ?_
 have H := AR H
 subst H
 refine Bi W ?_
 have F := F.sub (M' := [(q_p0, [v21, .int .i64 x3.2.2])]) (Z' := [row v21 98 AA x3.2.1]) (List.Sublist.cons_cons _ (List.nil_sublist _)) (List.Sublist.refl _)
 exact ⟨(v21), Aa, F⟩
noncomputable def AZ (fRec : ((List (Int × Int × List UInt8 × Int)) × Int) → Option ((Tr28 × ((List (Int × Int × List UInt8 × Int)) × Int)) ⊕ ((Int × Int) × ((List (Int × Int × List UInt8 × Int)) × Int)))) (p0 : (List (Int × Int × List UInt8 × Int)) × Int) : Option ((Tr28 × ((List (Int × Int × List UInt8 × Int)) × Int)) ⊕ ((Int × Int) × ((List (Int × Int × List UInt8 × Int)) × Int))) := ((AW fRec) p0 ([124] : List UInt8)).bind fun x1 => B1 x1 (fun x2 => some (.inl (Tr28.of (x2.1.un.1, Tr25.of (x2.1.un.2.1.un.1, x2.1.un.2.1.un.2.1, x2.1.un.2.1.un.2.2.1, x2.1.un.2.1.un.2.2.2), x2.1.un.2.2.1, x2.1.un.2.2.2.1, x2.1.un.2.2.2.2), x2.2))) (fun x3 => some (.inr (x3.1, x3.2)))
noncomputable def An : Nat → ((List (Int × Int × List UInt8 × Int)) × Int) → Option ((Tr28 × ((List (Int × Int × List UInt8 × Int)) × Int)) ⊕ ((Int × Int) × ((List (Int × Int × List UInt8 × Int)) × Int)))
  | 0 => fun _ => none
  | n + 1 => AZ (An n)
noncomputable def Bv (p0 : (List (Int × Int × List UInt8 × Int)) × Int) : Option ((Tr28 × ((List (Int × Int × List UInt8 × Int)) × Int)) ⊕ ((Int × Int) × ((List (Int × Int × List UInt8 × Int)) × Int))) := Ge fun n => An n p0
theorem HN (fRec : ((List (Int × Int × List UInt8 × Int)) × Int) → Option ((Tr28 × ((List (Int × Int × List UInt8 × Int)) × Int)) ⊕ ((Int × Int) × ((List (Int × Int × List UInt8 × Int)) × Int)))) (ih : ∀ (Y : Nat → Prop) (X : List Nat) (w0 : World) (q_p0 : Nat) (v1 : Value) (p0 : (List (Int × Int × List UInt8 × Int)) × Int) (r : (Tr28 × ((List (Int × Int × List UInt8 × Int)) × Int)) ⊕ ((Int × Int) × ((List (Int × Int × List UInt8 × Int)) × Int))) (H : fRec p0 = some r) (hL : Stw ⟨Y, X, w0⟩ [(q_p0, [v1, .int .i64 p0.2])] [row v1 98 AA p0.1] w0), Calls Tryd.prog 28 #[.pointer (some ⟨q_p0, 0, none⟩)] w0 fun e w' => D8 r (fun r => ∃ x : Value × Value × Value, e = .returned (.agg #[.int .i64 r.1.un.1, .int .i64 r.1.un.2.1.un.1, .int .i64 r.1.un.2.1.un.2.1, .int .i64 r.1.un.2.1.un.2.2.1, x.1, .int .i64 r.1.un.2.2.1, .int .i64 r.1.un.2.2.2.1, x.2.1]) ∧ Stw ⟨Y, X, w0⟩ [(q_p0, [x.2.2, .int .i64 r.2.2])] [row (x.2.2) 98 AA r.2.1, A4 (x.1) A6 r.1.un.2.1.un.2.2.2, A4 (x.2.1) BJ r.1.un.2.2.2.2] w') (fun r => ∃ x : Value, e = .panicked [{ v := .iface 89 (.agg #[.int .i64 r.1.1, .int .i64 r.1.2]), recovered := false }] ∧ Stw ⟨Y, X, w0⟩ [(q_p0, [x, .int .i64 r.2.2])] [row (x) 98 AA r.2.1] w')) (Y : Nat → Prop) (X : List Nat) (w0 : World) (q_p0 : Nat) (v1 : Value) (p0 : (List (Int × Int × List UInt8 × Int)) × Int) (r : (Tr28 × ((List (Int × Int × List UInt8 × Int)) × Int)) ⊕ ((Int × Int) × ((List (Int × Int × List UInt8 × Int)) × Int))) (H : AZ fRec p0 = some r) (hL : Stw ⟨Y, X, w0⟩ [(q_p0, [v1, .int .i64 p0.2])] [row v1 98 AA p0.1] w0) :
    Calls Tryd.prog 28 #[.pointer (some ⟨q_p0, 0, none⟩)] w0 fun e w' => D8 r (fun r => ∃ x : Value × Value × Value, e = .returned (.agg #[.int .i64 r.1.un.1, .int .i64 r.1.un.2.1.un.1, .int .i64 r.1.un.2.1.un.2.1, .int .i64 r.1.un.2.1.un.2.2.1, x.1, .int .i64 r.1.un.2.2.1, .int .i64 r.1.un.2.2.2.1, x.2.1]) ∧ Stw ⟨Y, X, w0⟩ [(q_p0, [x.2.2, .int .i64 r.2.2])] [row (x.2.2) 98 AA r.2.1, A4 (x.1) A6 r.1.un.2.1.un.2.2.2, A4 (x.2.1) BJ r.1.un.2.2.2.2] w') (fun r => ∃ x : Value, e = .panicked [{ v := .iface 89 (.agg #[.int .i64 r.1.1, .int .i64 r.1.2]), recovered := false }] ∧ Stw ⟨Y, X, w0⟩ [(q_p0, [x, .int .i64 r.2.2])] [row (x) 98 AA r.2.1] w') := by
 refine enter Tryd.func28 Aa Tryd.ntmps28 Aa fun a W => ?_
 have F := hL
 unfold AZ at H
 refine Ah (Ab ?_)
 refine BA (cs := (BU)) W F Aa JT Aa fun b1 a w W F => ?_
 refine Ae (Ac (Ah (Ab ?_)))
 iterate 2 refine ls W F Aa (Ai W Aa).q fun a w W F => ?_
 refine ls W F Aa (G0 (us := [.pointer (some ⟨q_p0, 0, none⟩)]) (vs := []) W Aa Aa).q fun a w W F => ?_
 obtain ⟨x1, h1, H⟩ := Aq H
 rcases x1 with x2 | x3
 ·
  have H := EZ H
  have F := F.frontM (i := 1) Aa Aa
  refine Bp (Ml := [(q_p0, [v1, .int .i64 p0.2])]) (Zl := [row v1 98 AA p0.1]) (M := (Df b1)) (Z := []) (β := Value × Value × Value) (rv := fun x => .agg #[.int .i64 x2.1.un.1, .int .i64 x2.1.un.2.1.un.1, .int .i64 x2.1.un.2.1.un.2.1, .int .i64 x2.1.un.2.1.un.2.2.1, x.1, .int .i64 x2.1.un.2.2.1, .int .i64 x2.1.un.2.2.2.1, x.2.1]) (MM := fun x => [(q_p0, [x.2.2, .int .i64 x2.2.2])]) (ZZ := fun x => [row x.2.2 98 AA x2.2.1, A4 x.1 A6 x2.1.un.2.1.un.2.2.2, A4 x.2.1 BJ x2.1.un.2.2.2.2]) W F TL Aa Aa (fun hL => (Fy fRec ih) _ _ w q_p0 (v1) p0 ([124] : List UInt8) _ h1 hL) fun x a w W F => ?_
  obtain ⟨v2, v3, v4⟩ := x
  have F : Stw ⟨Y, X, w0⟩ [(q_p0, [v4, .int .i64 x2.2.2]), (b1, (BU))] [row v4 98 AA x2.2.1, A4 v2 A6 x2.1.un.2.1.un.2.2.2, A4 v3 BJ x2.1.un.2.2.2.2] w := F
  refine AP (vs := (DM x2 v2 v3)) (M' := [(q_p0, [v4, .int .i64 x2.2.2]), (b1, (DM x2 v2 v3))]) 1 W F Aa Aa Aa D1 Aa Aa Aa (Af Aa (Af Aa (Af Aa (Af Aa (Af (F.oneF (k := 1) Aa) (Af Aa (Af Aa (Af (F.oneF (k := 2) Aa) BC)))))))) Aa fun w F => ?_
  refine Ae (Ac (Au ?_))
  have H := AR H
  subst H
  refine AO (.inl Aa) W F Aa (BD 1 W Aa Aa D1 Aa) ?_
  have F := F.frontZ (i := 2) Aa Aa
  have F := F.frontZ (i := 2) Aa Aa
  have F := F.frontZ (i := 2) Aa Aa
  have F := F.sub (M' := [(q_p0, [v4, .int .i64 x2.2.2])]) (Z' := [row v4 98 AA x2.2.1, A4 v2 A6 x2.1.un.2.1.un.2.2.2, A4 v3 BJ x2.1.un.2.2.2.2]) (List.Sublist.cons_cons _ (List.nil_sublist _)) (List.Sublist.refl _)
  exact ⟨((v2), (v3), (v4)), Aa, F⟩
 have H := EW H
 have F := F.frontM (i := 1) Aa Aa
 refine Cj (Ml := [(q_p0, [v1, .int .i64 p0.2])]) (Zl := [row v1 98 AA p0.1]) (M := (Df b1)) (Z := []) (β := Value) (pv := fun x => .iface 89 (.agg #[.int .i64 x3.1.1, .int .i64 x3.1.2])) (MM := fun x => [(q_p0, [x, .int .i64 x3.2.2])]) (ZZ := fun x => [row x 98 AA x3.2.1]) W F TL Aa (fun hL => (Fy fRec ih) _ _ w q_p0 (v1) p0 ([124] : List UInt8) _ h1 hL) fun x w F => ?_
 obtain ⟨v5, rfl⟩ : ∃ y, y = x := ⟨x, rfl⟩
 have F : Stw ⟨Y, X, w0⟩ [(q_p0, [v5, .int .i64 x3.2.2]), (b1, (BU))] [row v5 98 AA x3.2.1] w := F
 refine BW ?_
 have H := AR H
 subst H
 refine Bi W ?_
 have F := F.sub (M' := [(q_p0, [v5, .int .i64 x3.2.2])]) (Z' := [row v5 98 AA x3.2.1]) (List.Sublist.cons_cons _ (List.nil_sublist _)) (List.Sublist.refl _)
 exact ⟨(v5), Aa, F⟩
theorem Ia : ∀ (n : Nat) (Y : Nat → Prop) (X : List Nat) (w0 : World) (q_p0 : Nat) (v1 : Value) (p0 : (List (Int × Int × List UInt8 × Int)) × Int) (r : (Tr28 × ((List (Int × Int × List UInt8 × Int)) × Int)) ⊕ ((Int × Int) × ((List (Int × Int × List UInt8 × Int)) × Int))) (H : An n p0 = some r) (hL : Stw ⟨Y, X, w0⟩ [(q_p0, [v1, .int .i64 p0.2])] [row v1 98 AA p0.1] w0), Calls Tryd.prog 28 #[.pointer (some ⟨q_p0, 0, none⟩)] w0 fun e w' => D8 r (fun r => ∃ x : Value × Value × Value, e = .returned (.agg #[.int .i64 r.1.un.1, .int .i64 r.1.un.2.1.un.1, .int .i64 r.1.un.2.1.un.2.1, .int .i64 r.1.un.2.1.un.2.2.1, x.1, .int .i64 r.1.un.2.2.1, .int .i64 r.1.un.2.2.2.1, x.2.1]) ∧ Stw ⟨Y, X, w0⟩ [(q_p0, [x.2.2, .int .i64 r.2.2])] [row (x.2.2) 98 AA r.2.1, A4 (x.1) A6 r.1.un.2.1.un.2.2.2, A4 (x.2.1) BJ r.1.un.2.2.2.2] w') (fun r => ∃ x : Value, e = .panicked [{ v := .iface 89 (.agg #[.int .i64 r.1.1, .int .i64 r.1.2]), recovered := false }] ∧ Stw ⟨Y, X, w0⟩ [(q_p0, [x, .int .i64 r.2.2])] [row (x) 98 AA r.2.1] w') := by
  intro n
  induction n with
  | zero => intro Y X w0 q_p0 v1 p0 r H; exact nomatch H
  | succ n ih => intro Y X w0 q_p0 v1 p0 r H hL; exact HN (An n) ih Y X w0 q_p0 v1 p0 r H hL
theorem FR (Y : Nat → Prop) (X : List Nat) (w0 : World) (q_p0 : Nat) (v1 : Value) (p0 : (List (Int × Int × List UInt8 × Int)) × Int) (r : (Tr28 × ((List (Int × Int × List UInt8 × Int)) × Int)) ⊕ ((Int × Int) × ((List (Int × Int × List UInt8 × Int)) × Int))) (H : Bv p0 = some r) (hL : Stw ⟨Y, X, w0⟩ [(q_p0, [v1, .int .i64 p0.2])] [row v1 98 AA p0.1] w0) :
    Calls Tryd.prog 28 #[.pointer (some ⟨q_p0, 0, none⟩)] w0 fun e w' => D8 r (fun r => ∃ x : Value × Value × Value, e = .returned (.agg #[.int .i64 r.1.un.1, .int .i64 r.1.un.2.1.un.1, .int .i64 r.1.un.2.1.un.2.1, .int .i64 r.1.un.2.1.un.2.2.1, x.1, .int .i64 r.1.un.2.2.1, .int .i64 r.1.un.2.2.2.1, x.2.1]) ∧ Stw ⟨Y, X, w0⟩ [(q_p0, [x.2.2, .int .i64 r.2.2])] [row (x.2.2) 98 AA r.2.1, A4 (x.1) A6 r.1.un.2.1.un.2.2.2, A4 (x.2.1) BJ r.1.un.2.2.2.2] w') (fun r => ∃ x : Value, e = .panicked [{ v := .iface 89 (.agg #[.int .i64 r.1.1, .int .i64 r.1.2]), recovered := false }] ∧ Stw ⟨Y, X, w0⟩ [(q_p0, [x, .int .i64 r.2.2])] [row (x) 98 AA r.2.1] w') := by
  obtain ⟨n, H⟩ := Cy H
  exact Ia n Y X w0 q_p0 v1 p0 r H hL
noncomputable def BS (p0 : (List (Int × Int × List UInt8 × Int)) × Int) : Option (Unit ⊕ (Int × Int)) := (BV p0).bind fun x1 => (if x1.1 ≠ 4 then (B2 p0).bind fun x2 => some (.inr x2) else some (.inl ()))
theorem G6 (Y : Nat → Prop) (w0 : World) (q_p0 : Nat) (v1 : Value) (p0 : (List (Int × Int × List UInt8 × Int)) × Int) (r : Unit ⊕ (Int × Int)) (H : BS p0 = some r) (h_v1 : Sl w0 (NX []) AA v1 p0.1) (a_q_p0 : At ⟨Y, [], w0⟩ q_p0 0 [v1, .int .i64 p0.2]) :
    Calls Tryd.prog 29 #[.pointer (some ⟨q_p0, 0, none⟩)] w0 fun e w' => D8 r (fun r => ∃ x : Unit, e = .returned (.tuple #[]) ∧ Stw ⟨Y, [], w0⟩ [] [] w') (fun r => ∃ x : Unit, e = .panicked [{ v := .iface 89 (.agg #[.int .i64 r.1, .int .i64 r.2]), recovered := false }] ∧ Stw ⟨Y, [], w0⟩ [] [] w') := by
 refine enter Tryd.func29 Aa Tryd.ntmps29 Aa fun a W => ?_
 have F := Stw.start Y w0
 unfold BS at H
 refine Ah (Ab ?_)
 refine ls W F Aa (Ai W Aa).q fun a w W F => ?_
 obtain ⟨x1, h1, H⟩ := Aq H
 refine ls W F Aa (Bx (v := Value.agg #[.int .i64 x1.1, .int .i64 x1.2.1, .string (bs x1.2.2.1), .int .i64 x1.2.2.2]) W Td Aa (fun w F => C5 any w q_p0 (v1) p0 _ h1 (((AG h_v1) : EB _ _ _ _ _ _) w F).nx (At.re a_q_p0 F))) fun a w W F => ?_
 refine ls W F Aa (Pk (v := Value.int .i64 x1.1) KW Aa Aa Aa T3 W Aa Aa).q fun a w W F => ?_
 refine ls W F Aa (Gn W Aa Aa).q fun a w W F => ?_
 refine Ae (Ac ?_)
 refine AC W Aa (fun hb => ?_) fun hb => ?_
 ·
  have H := Ba (BM hb) H
  rw [hb] at W
  clear hb
  refine Ab ?_
  refine ls W F Aa (Ai W Aa).q fun a w W F => ?_
  obtain ⟨x2, h2, H⟩ := Aq H
  refine Cj (Ml := []) (Zl := []) (M := []) (Z := []) (β := Unit) (pv := fun x => .iface 89 (.agg #[.int .i64 x2.1, .int .i64 x2.2])) (MM := fun x => []) (ZZ := fun x => []) W F TQ Aa (fun hL => D3 _ w q_p0 (v1) p0 _ h2 ((AG h_v1) w F).nx (At.re a_q_p0 F)) fun x w F => ?_
  have F : Stw ⟨Y, [], w0⟩ [] [] w := F
  have H := AR H
  subst H
  refine Bi W ?_
  exact ⟨(), Aa, F⟩
 have H := Bc (BL hb) H
 rw [hb] at W
 clear hb
 refine AM ?_
 have H := AR H
 subst H
 refine PB (.inr Aa) W Aa ?_
 exact ⟨(), Aa, F⟩
end Go.Proofs.YtlgjpoapclifbaaDoor
