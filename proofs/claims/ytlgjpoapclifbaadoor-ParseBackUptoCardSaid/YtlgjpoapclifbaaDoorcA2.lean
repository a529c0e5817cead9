/- The functions of layer 29, E5. Conditions: none. -/
import Derived.Test.YtlgjpoapclifbaaDoorcA1
namespace Go.Proofs.YtlgjpoapclifbaaDoor
open Go Go.RowKit
set_option linter.unusedVariables false
set_option linter.unusedSimpArgs false
set_option maxRecDepth 20000
theorem Us : Has Tryd.prog 104 := ⟨fun args w => An Tryd.func104 rfl (by decide) args w⟩
theorem U5 : Has Tryd.prog 28 := ⟨fun args w => An Tryd.func28 rfl (by decide) args w⟩
abbrev TK (a0 : Tr25 × ((List (Int × Int × List UInt8 × Int)) × Int)) (a1 : Value) (a2 : Value) : List Value := [.int .i64 ((Am a0.1).un.1), .int .i64 ((Am a0.1).un.2.1.un.1), .int .i64 ((Am a0.1).un.2.1.un.2.1), .int .i64 ((Am a0.1).un.2.1.un.2.2.1), a1, .int .i64 ((Am a0.1).un.2.2.1), .int .i64 ((Am a0.1).un.2.2.2.1), a2]
abbrev TP (a0 : Nat) (a1 : Tr28 × ((List (Int × Int × List UInt8 × Int)) × Int)) (a2 : Value) (a3 : Value) (a4 : Nat) : List (Nat × List Value) := [(a0, [.int .i64 a1.1.un.1, .int .i64 a1.1.un.2.1.un.1, .int .i64 a1.1.un.2.1.un.2.1, .int .i64 a1.1.un.2.1.un.2.2.1, a2, .int .i64 a1.1.un.2.2.1, .int .i64 a1.1.un.2.2.2.1, a3]), (a4, [.int .i64 0, .int .i64 0, .int .i64 0, .int .i64 0, .slice none 0 0, .int .i64 0, .int .i64 0, .slice none 0 0])]
noncomputable def Bq (fRec_parse_parser_policy : ((List (Int × Int × List UInt8 × Int)) × Int) → Option ((Tr28 × ((List (Int × Int × List UInt8 × Int)) × Int)) ⊕ ((Int × Int) × ((List (Int × Int × List UInt8 × Int)) × Int)))) (fRec : ((List (Int × Int × List UInt8 × Int)) × Int) → Option ((Tr28 × ((List (Int × Int × List UInt8 × Int)) × Int)) ⊕ ((Int × Int) × ((List (Int × Int × List UInt8 × Int)) × Int)))) (p0 : (List (Int × Int × List UInt8 × Int)) × Int) : Option ((Tr28 × ((List (Int × Int × List UInt8 × Int)) × Int)) ⊕ ((Int × Int) × ((List (Int × Int × List UInt8 × Int)) × Int))) := (AF p0 ([100, 114, 111, 112] : List UInt8)).bind fun x1 => (if x1.1 = true then some (.inl (Tr28.of ((Am (Tr25.of (2, 0, 0, ([] : List Tr25)))).un.1, Tr25.of ((Am (Tr25.of (2, 0, 0, ([] : List Tr25)))).un.2.1.un.1, (Am (Tr25.of (2, 0, 0, ([] : List Tr25)))).un.2.1.un.2.1, (Am (Tr25.of (2, 0, 0, ([] : List Tr25)))).un.2.1.un.2.2.1, (Am (Tr25.of (2, 0, 0, ([] : List Tr25)))).un.2.1.un.2.2.2), (Am (Tr25.of (2, 0, 0, ([] : List Tr25)))).un.2.2.1, (Am (Tr25.of (2, 0, 0, ([] : List Tr25)))).un.2.2.2.1, (Am (Tr25.of (2, 0, 0, ([] : List Tr25)))).un.2.2.2.2), x1.2)) else (AF x1.2 ([105, 100] : List UInt8)).bind fun x2 => (if x2.1 = true then some (.inl (Tr28.of ((Am (Tr25.of (1, 0, 0, ([] : List Tr25)))).un.1, Tr25.of ((Am (Tr25.of (1, 0, 0, ([] : List Tr25)))).un.2.1.un.1, (Am (Tr25.of (1, 0, 0, ([] : List Tr25)))).un.2.1.un.2.1, (Am (Tr25.of (1, 0, 0, ([] : List Tr25)))).un.2.1.un.2.2.1, (Am (Tr25.of (1, 0, 0, ([] : List Tr25)))).un.2.1.un.2.2.2), (Am (Tr25.of (1, 0, 0, ([] : List Tr25)))).un.2.2.1, (Am (Tr25.of (1, 0, 0, ([] : List Tr25)))).un.2.2.2.1, (Am (Tr25.of (1, 0, 0, ([] : List Tr25)))).un.2.2.2.2), x2.2)) else (AF x2.2 ([119, 104, 101, 110] : List UInt8)).bind fun x3 => (if x3.1 = true then (B5 x3.2).bind fun x4 => B4 x4 (fun x5 => some (.inl (Tr28.of ((Am x5.1).un.1, Tr25.of ((Am x5.1).un.2.1.un.1, (Am x5.1).un.2.1.un.2.1, (Am x5.1).un.2.1.un.2.2.1, (Am x5.1).un.2.1.un.2.2.2), (Am x5.1).un.2.2.1, (Am x5.1).un.2.2.2.1, (Am x5.1).un.2.2.2.2), x5.2))) (fun x6 => some (.inr (x6.1, x6.2))) else (AF x3.2 ([105, 102] : List UInt8)).bind fun x7 => (if x7.1 = true then ((BV fRec) x7.2).bind fun x8 => B4 x8 (fun x9 => some (.inl (Tr28.of (x9.1.un.1, Tr25.of (x9.1.un.2.1.un.1, x9.1.un.2.1.un.2.1, x9.1.un.2.1.un.2.2.1, x9.1.un.2.1.un.2.2.2), x9.1.un.2.2.1, x9.1.un.2.2.2.1, x9.1.un.2.2.2.2), x9.2))) (fun x10 => some (.inr (x10.1, x10.2))) else (AF x7.2 ([40] : List UInt8)).bind fun x11 => (if x11.1 = true then (fRec_parse_parser_policy x11.2).bind fun x12 => B4 x12 (fun x13 => (AV x13.2 ([41] : List UInt8)).bind fun x15 => B4 x15 (fun x16 => some (.inl (Tr28.of (x13.1.un.1, Tr25.of (x13.1.un.2.1.un.1, x13.1.un.2.1.un.2.1, x13.1.un.2.1.un.2.2.1, x13.1.un.2.1.un.2.2.2), x13.1.un.2.2.1, x13.1.un.2.2.2.1, x13.1.un.2.2.2.2), x16))) (fun x17 => some (.inr (x17.1, x17.2)))) (fun x14 => some (.inr (x14.1, x14.2))) else (Ck x11.2 4).bind fun x18 => B4 x18 (fun x19 => (AV x19.2 ([58, 61] : List UInt8)).bind fun x21 => B4 x21 (fun x22 => (BE x22).bind fun x24 => B4 x24 (fun x25 => some (.inl (Tr28.of (2, Tr25.of (0, 0, 0, ([] : List Tr25)), x19.1, x25.1, ([] : List Tr28)), x25.2))) (fun x26 => some (.inr (x26.1, x26.2)))) (fun x23 => some (.inr (x23.1, x23.2)))) (fun x20 => some (.inr (x20.1, x20.2))))))))
noncomputable def A6 (fRec_parse_parser_policy : ((List (Int × Int × List UInt8 × Int)) × Int) → Option ((Tr28 × ((List (Int × Int × List UInt8 × Int)) × Int)) ⊕ ((Int × Int) × ((List (Int × Int × List UInt8 × Int)) × Int)))) : Nat → ((List (Int × Int × List UInt8 × Int)) × Int) → Option ((Tr28 × ((List (Int × Int × List UInt8 × Int)) × Int)) ⊕ ((Int × Int) × ((List (Int × Int × List UInt8 × Int)) × Int)))
  | 0 => fun _ => none
  | n + 1 => Bq fRec_parse_parser_policy (A6 fRec_parse_parser_policy n)
noncomputable def BO (fRec_parse_parser_policy : ((List (Int × Int × List UInt8 × Int)) × Int) → Option ((Tr28 × ((List (Int × Int × List UInt8 × Int)) × Int)) ⊕ ((Int × Int) × ((List (Int × Int × List UInt8 × Int)) × Int)))) (p0 : (List (Int × Int × List UInt8 × Int)) × Int) : Option ((Tr28 × ((List (Int × Int × List UInt8 × Int)) × Int)) ⊕ ((Int × Int) × ((List (Int × Int × List UInt8 × Int)) × Int))) := FY fun n => A6 fRec_parse_parser_policy n p0
theorem IB (fRec_parse_parser_policy : ((List (Int × Int × List UInt8 × Int)) × Int) → Option ((Tr28 × ((List (Int × Int × List UInt8 × Int)) × Int)) ⊕ ((Int × Int) × ((List (Int × Int × List UInt8 × Int)) × Int)))) (ih_parse_parser_policy : ∀ (Y : Nat → Prop) (X : List Nat) (w0 : World) (q_p0 : Nat) (v1 : Value) (p0 : (List (Int × Int × List UInt8 × Int)) × Int) (r : (Tr28 × ((List (Int × Int × List UInt8 × Int)) × Int)) ⊕ ((Int × Int) × ((List (Int × Int × List UInt8 × Int)) × Int))) (H : fRec_parse_parser_policy p0 = some r) (hL : Stw ⟨Y, X, w0⟩ [(q_p0, [v1, .int .i64 p0.2])] [row v1 98 AC p0.1] w0), Calls Tryd.prog 28 #[.pointer (some ⟨q_p0, 0, none⟩)] w0 fun e w' => D9 r (fun r => ∃ x : Value × Value × Value, e = .returned (.agg #[.int .i64 r.1.un.1, .int .i64 r.1.un.2.1.un.1, .int .i64 r.1.un.2.1.un.2.1, .int .i64 r.1.un.2.1.un.2.2.1, x.1, .int .i64 r.1.un.2.2.1, .int .i64 r.1.un.2.2.2.1, x.2.1]) ∧ Stw ⟨Y, X, w0⟩ [(q_p0, [x.2.2, .int .i64 r.2.2])] [row (x.2.2) 98 AC r.2.1, AU (x.1) AR r.1.un.2.1.un.2.2.2, AU (x.2.1) BD r.1.un.2.2.2.2] w') (fun r => ∃ x : Value, e = .panicked [{ v := .iface 89 (.agg #[.int .i64 r.1.1, .int .i64 r.1.2]), recovered := false }] ∧ Stw ⟨Y, X, w0⟩ [(q_p0, [x, .int .i64 r.2.2])] [row (x) 98 AC r.2.1] w')) (fRec : ((List (Int × Int × List UInt8 × Int)) × Int) → Option ((Tr28 × ((List (Int × Int × List UInt8 × Int)) × Int)) ⊕ ((Int × Int) × ((List (Int × Int × List UInt8 × Int)) × Int)))) (ih : ∀ (Y : Nat → Prop) (X : List Nat) (w0 : World) (q_p0 : Nat) (v1 : Value) (p0 : (List (Int × Int × List UInt8 × Int)) × Int) (r : (Tr28 × ((List (Int × Int × List UInt8 × Int)) × Int)) ⊕ ((Int × Int) × ((List (Int × Int × List UInt8 × Int)) × Int))) (H : fRec p0 = some r) (hL : Stw ⟨Y, X, w0⟩ [(q_p0, [v1, .int .i64 p0.2])] [row v1 98 AC p0.1] w0), Calls Tryd.prog 84 #[.pointer (some ⟨q_p0, 0, none⟩)] w0 fun e w' => D9 r (fun r => ∃ x : Value × Value × Value, e = .returned (.agg #[.int .i64 r.1.un.1, .int .i64 r.1.un.2.1.un.1, .int .i64 r.1.un.2.1.un.2.1, .int .i64 r.1.un.2.1.un.2.2.1, x.1, .int .i64 r.1.un.2.2.1, .int .i64 r.1.un.2.2.2.1, x.2.1]) ∧ Stw ⟨Y, X, w0⟩ [(q_p0, [x.2.2, .int .i64 r.2.2])] [row (x.2.2) 98 AC r.2.1, AU (x.1) AR r.1.un.2.1.un.2.2.2, AU (x.2.1) BD r.1.un.2.2.2.2] w') (fun r => ∃ x : Value, e = .panicked [{ v := .iface 89 (.agg #[.int .i64 r.1.1, .int .i64 r.1.2]), recovered := false }] ∧ Stw ⟨Y, X, w0⟩ [(q_p0, [x, .int .i64 r.2.2])] [row (x) 98 AC r.2.1] w')) (Y : Nat → Prop) (X : List Nat) (w0 : World) (q_p0 : Nat) (v1 : Value) (p0 : (List (Int × Int × List UInt8 × Int)) × Int) (r : (Tr28 × ((List (Int × Int × List UInt8 × Int)) × Int)) ⊕ ((Int × Int) × ((List (Int × Int × List UInt8 × Int)) × Int))) (H : Bq fRec_parse_parser_policy fRec p0 = some r) (hL : Stw ⟨Y, X, w0⟩ [(q_p0, [v1, .int .i64 p0.2])] [row v1 98 AC p0.1] w0) :
    Calls Tryd.prog 84 #[.pointer (some ⟨q_p0, 0, none⟩)] w0 fun e w' => D9 r (fun r => ∃ x : Value × Value × Value, e = .returned (.agg #[.int .i64 r.1.un.1, .int .i64 r.1.un.2.1.un.1, .int .i64 r.1.un.2.1.un.2.1, .int .i64 r.1.un.2.1.un.2.2.1, x.1, .int .i64 r.1.un.2.2.1, .int .i64 r.1.un.2.2.2.1, x.2.1]) ∧ Stw ⟨Y, X, w0⟩ [(q_p0, [x.2.2, .int .i64 r.2.2])] [row (x.2.2) 98 AC r.2.1, AU (x.1) AR r.1.un.2.1.un.2.2.2, AU (x.2.1) BD r.1.un.2.2.2.2] w') (fun r => ∃ x : Value, e = .panicked [{ v := .iface 89 (.agg #[.int .i64 r.1.1, .int .i64 r.1.2]), recovered := false }] ∧ Stw ⟨Y, X, w0⟩ [(q_p0, [x, .int .i64 r.2.2])] [row (x) 98 AC r.2.1] w') := by
 refine enter Tryd.func84 Aa Tryd.ntmps84 Aa fun a W => ?_
 have F := hL
 unfold Bq at H
 refine Ak (Ab ?_)
 refine Bi (cs := (BM)) W F Aa Lh Aa fun b1 a w W F => ?_
 refine Ae (Ac (Ak (AP (Ak (Ab ?_)))))
 refine ls W F Aa (Ah W Aa).q fun a w W F => ?_
 obtain ⟨x1, h1, H⟩ := Aq H
 have F := F.frontM (i := 1) Aa Aa
 refine A2 (Ml := [(q_p0, [v1, .int .i64 p0.2])]) (Zl := [row v1 98 AC p0.1]) (M := (Dh b1)) (Z := []) (β := Value) (rv := fun x => .bool x1.1) (MM := fun x => [(q_p0, [x, .int .i64 x1.2.2])]) (ZZ := fun x => [row x 98 AC x1.2.1]) W F QR Aa Aa (fun hL => A9 _ _ w q_p0 (v1) p0 ([100, 114, 111, 112] : List UInt8) _ h1 hL) fun x a w W F => ?_
 obtain ⟨v2, rfl⟩ : ∃ y, y = x := ⟨x, rfl⟩
 have F : Stw ⟨Y, X, w0⟩ [(q_p0, [v2, .int .i64 x1.2.2]), (b1, (BM))] [row v2 98 AC x1.2.1] w := F
 refine ls W F Aa (Ag W Aa).q fun a w W F => ?_
 refine Ae (Ac ?_)
 refine Az W Aa (fun hb => ?_) fun hb => ?_
 ·
  have H := AW hb H
  rw [hb] at W
  clear hb
  refine Ak (Ab ?_)
  refine ls W F Aa (B7 (v := Value.agg #[.int .i64 2, .int .i64 0, .int .i64 0, .slice none 0 0]) SM W Aa Aa Aa).q fun a w W F => ?_
  refine A2 (Ml := []) (Zl := []) (M := [(q_p0, [v2, .int .i64 x1.2.2]), (b1, (BM))]) (Z := [row v2 98 AC x1.2.1]) (β := Value × Value) (rv := fun x => .agg #[.int .i64 ((Am (Tr25.of (2, 0, 0, ([] : List Tr25)))).un.1), .int .i64 ((Am (Tr25.of (2, 0, 0, ([] : List Tr25)))).un.2.1.un.1), .int .i64 ((Am (Tr25.of (2, 0, 0, ([] : List Tr25)))).un.2.1.un.2.1), .int .i64 ((Am (Tr25.of (2, 0, 0, ([] : List Tr25)))).un.2.1.un.2.2.1), x.1, .int .i64 ((Am (Tr25.of (2, 0, 0, ([] : List Tr25)))).un.2.2.1), .int .i64 ((Am (Tr25.of (2, 0, 0, ([] : List Tr25)))).un.2.2.2.1), x.2]) (MM := fun x => []) (ZZ := fun x => [AU x.1 AR ((Am (Tr25.of (2, 0, 0, ([] : List Tr25)))).un.2.1.un.2.2.2), row x.2 28 BD ((Am (Tr25.of (2, 0, 0, ([] : List Tr25)))).un.2.2.2.2)]) W F T1 Aa Aa (fun hL => Hb _ w (Value.slice none 0 0) (Tr25.of (2, 0, 0, ([] : List Tr25))) _ Aa Sl.nil) fun x a w W F => ?_
  obtain ⟨v3, v4⟩ := x
  have F : Stw ⟨Y, X, w0⟩ [(q_p0, [v2, .int .i64 x1.2.2]), (b1, (BM))] [AU v3 AR ((Am (Tr25.of (2, 0, 0, ([] : List Tr25)))).un.2.1.un.2.2.2), row v4 28 BD ((Am (Tr25.of (2, 0, 0, ([] : List Tr25)))).un.2.2.2.2), row v2 98 AC x1.2.1] w := F
  refine AL (vs := [.int .i64 ((Am (Tr25.of (2, 0, 0, ([] : List Tr25)))).un.1), .int .i64 ((Am (Tr25.of (2, 0, 0, ([] : List Tr25)))).un.2.1.un.1), .int .i64 ((Am (Tr25.of (2, 0, 0, ([] : List Tr25)))).un.2.1.un.2.1), .int .i64 ((Am (Tr25.of (2, 0, 0, ([] : List Tr25)))).un.2.1.un.2.2.1), v3, .int .i64 ((Am (Tr25.of (2, 0, 0, ([] : List Tr25)))).un.2.2.1), .int .i64 ((Am (Tr25.of (2, 0, 0, ([] : List Tr25)))).un.2.2.2.1), v4]) (M' := [(q_p0, [v2, .int .i64 x1.2.2]), (b1, [.int .i64 ((Am (Tr25.of (2, 0, 0, ([] : List Tr25)))).un.1), .int .i64 ((Am (Tr25.of (2, 0, 0, ([] : List Tr25)))).un.2.1.un.1), .int .i64 ((Am (Tr25.of (2, 0, 0, ([] : List Tr25)))).un.2.1.un.2.1), .int .i64 ((Am (Tr25.of (2, 0, 0, ([] : List Tr25)))).un.2.1.un.2.2.1), v3, .int .i64 ((Am (Tr25.of (2, 0, 0, ([] : List Tr25)))).un.2.2.1), .int .i64 ((Am (Tr25.of (2, 0, 0, ([] : List Tr25)))).un.2.2.2.1), v4])]) 1 W F Aa Aa Aa FJ Aa Aa Aa (Ai Aa (Ai Aa (Ai Aa (Ai Aa (Ai (F.oneF (k := 0) Aa) (Ai Aa (Ai Aa (Ai (F.one (k := 1) Aa) Bp)))))))) Aa fun w F => ?_
  refine Ae (Ac (Ax (Bc (AO ?_))))
  have H := AK H
  subst H
  refine AG (.inl Aa) W F Aa (A3 1 W Aa Aa FJ Aa) ?_
  have F := F.frontZ (i := 1) Aa Aa
  have F := F.freeze
  have F := F.frontZ (i := 1) Aa Aa
  have F := F.frontZ (i := 2) Aa Aa
  have F := F.sub (M' := [(q_p0, [v2, .int .i64 x1.2.2])]) (Z' := [row v2 98 AC x1.2.1, AU v3 AR ((Am (Tr25.of (2, 0, 0, ([] : List Tr25)))).un.2.1.un.2.2.2), AU v4 BD ((Am (Tr25.of (2, 0, 0, ([] : List Tr25)))).un.2.2.2.2)]) (List.Sublist.cons_cons _ (List.nil_sublist _)) (List.Sublist.refl _)
  exact ⟨((v3), (v4), (v2)), Aa, F⟩
 have H := AY (by rw [hb]; decide) H
 rw [hb] at W
 clear hb
 refine Ak (Ab ?_)
 refine ls W F Aa (Ah W Aa).q fun a w W F => ?_
 obtain ⟨x2, h2, H⟩ := Aq H
 refine A2 (Ml := [(q_p0, [v2, .int .i64 x1.2.2])]) (Zl := [row v2 98 AC x1.2.1]) (M := (Dh b1)) (Z := []) (β := Value) (rv := fun x => .bool x2.1) (MM := fun x => [(q_p0, [x, .int .i64 x2.2.2])]) (ZZ := fun x => [row x 98 AC x2.2.1]) W F QR Aa Aa (fun hL => A9 _ _ w q_p0 (v2) x1.2 ([105, 100] : List UInt8) _ h2 hL) fun x a w W F => ?_
 obtain ⟨v5, rfl⟩ : ∃ y, y = x := ⟨x, rfl⟩
 have F : Stw ⟨Y, X, w0⟩ [(q_p0, [v5, .int .i64 x2.2.2]), (b1, (BM))] [row v5 98 AC x2.2.1] w := F
 refine ls W F Aa (Ag W Aa).q fun a w W F => ?_
 refine Ae (Ac ?_)
 refine Az W Aa (fun hb => ?_) fun hb => ?_
 ·
  have H := AW hb H
  rw [hb] at W
  clear hb
  refine Ak (Ab ?_)
  refine ls W F Aa (B7 (v := Value.agg #[.int .i64 1, .int .i64 0, .int .i64 0, .slice none 0 0]) SM W Aa Aa Aa).q fun a w W F => ?_
  refine A2 (Ml := []) (Zl := []) (M := [(q_p0, [v5, .int .i64 x2.2.2]), (b1, (BM))]) (Z := [row v5 98 AC x2.2.1]) (β := Value × Value) (rv := fun x => .agg #[.int .i64 ((Am (Tr25.of (1, 0, 0, ([] : List Tr25)))).un.1), .int .i64 ((Am (Tr25.of (1, 0, 0, ([] : List Tr25)))).un.2.1.un.1), .int .i64 ((Am (Tr25.of (1, 0, 0, ([] : List Tr25)))).un.2.1.un.2.1), .int .i64 ((Am (Tr25.of (1, 0, 0, ([] : List Tr25)))).un.2.1.un.2.2.1), x.1, .int .i64 ((Am (Tr25.of (1, 0, 0, ([] : List Tr25)))).un.2.2.1), .int .i64 ((Am (Tr25.of (1, 0, 0, ([] : List Tr25)))).un.2.2.2.1), x.2]) (MM := fun x => []) (ZZ := fun x => [AU x.1 AR ((Am (Tr25.of (1, 0, 0, ([] : List Tr25)))).un.2.1.un.2.2.2), row x.2 28 BD ((Am (Tr25.of (1, 0, 0, ([] : List Tr25)))).un.2.2.2.2)]) W F T1 Aa Aa (fun hL => Hb _ w (Value.slice none 0 0) (Tr25.of (1, 0, 0, ([] : List Tr25))) _ Aa Sl.nil) fun x a w W F => ?_
  obtain ⟨v6, v7⟩ := x
  have F : Stw ⟨Y, X, w0⟩ [(q_p0, [v5, .int .i64 x2.2.2]), (b1, (BM))] [AU v6 AR ((Am (Tr25.of (1, 0, 0, ([] : List Tr25)))).un.2.1.un.2.2.2), row v7 28 BD ((Am (Tr25.of (1, 0, 0, ([] : List Tr25)))).un.2.2.2.2), row v5 98 AC x2.2.1] w := F
  refine AL (vs := [.int .i64 ((Am (Tr25.of (1, 0, 0, ([] : List Tr25)))).un.1), .int .i64 ((Am (Tr25.of (1, 0, 0, ([] : List Tr25)))).un.2.1.un.1), .int .i64 ((Am (Tr25.of (1, 0, 0, ([] : List Tr25)))).un.2.1.un.2.1), .int .i64 ((Am (Tr25.of (1, 0, 0, ([] : List Tr25)))).un.2.1.un.2.2.1), v6, .int .i64 ((Am (Tr25.of (1, 0, 0, ([] : List Tr25)))).un.2.2.1), .int .i64 ((Am (Tr25.of (1, 0, 0, ([] : List Tr25)))).un.2.2.2.1), v7]) (M' := [(q_p0, [v5, .int .i64 x2.2.2]), (b1, [.int .i64 ((Am (Tr25.of (1, 0, 0, ([] : List Tr25)))).un.1), .int .i64 ((Am (Tr25.of (1, 0, 0, ([] : List Tr25)))).un.2.1.un.1), .int .i64 ((Am (Tr25.of (1, 0, 0, ([] : List Tr25)))).un.2.1.un.2.1), .int .i64 ((Am (Tr25.of (1, 0, 0, ([] : List Tr25)))).un.2.1.un.2.2.1), v6, .int .i64 ((Am (Tr25.of (1, 0, 0, ([] : List Tr25)))).un.2.2.1), .int .i64 ((Am (Tr25.of (1, 0, 0, ([] : List Tr25)))).un.2.2.2.1), v7])]) 1 W F Aa Aa Aa FJ Aa Aa Aa (Ai Aa (Ai Aa (Ai Aa (Ai Aa (Ai (F.oneF (k := 0) Aa) (Ai Aa (Ai Aa (Ai (F.one (k := 1) Aa) Bp)))))))) Aa fun w F => ?_
  refine Ae (Ac (Ax (Bc (AO ?_))))
  have H := AK H
  subst H
  refine AG (.inl Aa) W F Aa (A3 1 W Aa Aa FJ Aa) ?_
  have F := F.frontZ (i := 1) Aa Aa
  have F := F.freeze
  have F := F.frontZ (i := 1) Aa Aa
  have F := F.frontZ (i := 2) Aa Aa
  have F := F.sub (M' := [(q_p0, [v5, .int .i64 x2.2.2])]) (Z' := [row v5 98 AC x2.2.1, AU v6 AR ((Am (Tr25.of (1, 0, 0, ([] : List Tr25)))).un.2.1.un.2.2.2), AU v7 BD ((Am (Tr25.of (1, 0, 0, ([] : List Tr25)))).un.2.2.2.2)]) (List.Sublist.cons_cons _ (List.nil_sublist _)) (List.Sublist.refl _)
  exact ⟨((v6), (v7), (v5)), Aa, F⟩
 have H := AY (by rw [hb]; decide) H
 rw [hb] at W
 clear hb
 refine Ak (Ab ?_)
 refine ls W F Aa (Ah W Aa).q fun a w W F => ?_
 obtain ⟨x3, h3, H⟩ := Aq H
 refine A2 (Ml := [(q_p0, [v5, .int .i64 x2.2.2])]) (Zl := [row v5 98 AC x2.2.1]) (M := (Dh b1)) (Z := []) (β := Value) (rv := fun x => .bool x3.1) (MM := fun x => [(q_p0, [x, .int .i64 x3.2.2])]) (ZZ := fun x => [row x 98 AC x3.2.1]) W F QR Aa Aa (fun hL => A9 _ _ w q_p0 (v5) x2.2 ([119, 104, 101, 110] : List UInt8) _ h3 hL) fun x a w W F => ?_
 obtain ⟨v8, rfl⟩ : ∃ y, y = x := ⟨x, rfl⟩
 have F : Stw ⟨Y, X, w0⟩ [(q_p0, [v8, .int .i64 x3.2.2]), (b1, (BM))] [row v8 98 AC x3.2.1] w := F
 refine ls W F Aa (Ag W Aa).q fun a w W F => ?_
 refine Ae (Ac ?_)
 refine Az W Aa (fun hb => ?_) fun hb => ?_
 ·
  have H := AW hb H
  rw [hb] at W
  clear hb
  refine Ak (Ab ?_)
  refine ls W F Aa (Ah W Aa).q fun a w W F => ?_
  obtain ⟨x4, h4, H⟩ := Aq H
  rcases x4 with x5 | x6
  ·
   have H := EZ H
   refine A2 (Ml := [(q_p0, [v8, .int .i64 x3.2.2])]) (Zl := [row v8 98 AC x3.2.1]) (M := (Dh b1)) (Z := []) (β := Value × Value) (rv := fun x => .agg #[.int .i64 x5.1.un.1, .int .i64 x5.1.un.2.1, .int .i64 x5.1.un.2.2.1, x.1]) (MM := fun x => [(q_p0, [x.2, .int .i64 x5.2.2])]) (ZZ := fun x => [row x.2 98 AC x5.2.1, AU x.1 AR x5.1.un.2.2.2]) W F TH Aa Aa (fun hL => Ca _ _ w q_p0 (v8) x3.2 _ h4 hL) fun x a w W F => ?_
   obtain ⟨v9, v10⟩ := x
   have F : Stw ⟨Y, X, w0⟩ [(q_p0, [v10, .int .i64 x5.2.2]), (b1, (BM))] [row v10 98 AC x5.2.1, AU v9 AR x5.1.un.2.2.2] w := F
   refine A2 (Ml := []) (Zl := []) (M := [(q_p0, [v10, .int .i64 x5.2.2]), (b1, (BM))]) (Z := [row v10 98 AC x5.2.1, AU v9 AR x5.1.un.2.2.2]) (β := Value × Value) (rv := fun x => .agg #[.int .i64 ((Am x5.1).un.1), .int .i64 ((Am x5.1).un.2.1.un.1), .int .i64 ((Am x5.1).un.2.1.un.2.1), .int .i64 ((Am x5.1).un.2.1.un.2.2.1), x.1, .int .i64 ((Am x5.1).un.2.2.1), .int .i64 ((Am x5.1).un.2.2.2.1), x.2]) (MM := fun x => []) (ZZ := fun x => [AU x.1 AR ((Am x5.1).un.2.1.un.2.2.2), row x.2 28 BD ((Am x5.1).un.2.2.2.2)]) W F T1 Aa Aa (fun hL => Hb _ w (v9) x5.1 _ Aa (F.item (i := 1) Aa)) fun x a w W F => ?_
   obtain ⟨v11, v12⟩ := x
   have F : Stw ⟨Y, X, w0⟩ [(q_p0, [v10, .int .i64 x5.2.2]), (b1, (BM))] [AU v11 AR ((Am x5.1).un.2.1.un.2.2.2), row v12 28 BD ((Am x5.1).un.2.2.2.2), row v10 98 AC x5.2.1, AU v9 AR x5.1.un.2.2.2] w := F
   refine AL (vs := (TK x5 v11 v12)) (M' := [(q_p0, [v10, .int .i64 x5.2.2]), (b1, (TK x5 v11 v12))]) 1 W F Aa Aa Aa FJ Aa Aa Aa (Ai Aa (Ai Aa (Ai Aa (Ai Aa (Ai (F.oneF (k := 0) Aa) (Ai Aa (Ai Aa (Ai (F.one (k := 1) Aa) Bp)))))))) Aa fun w F => ?_
   refine Ae (Ac (Ax (Bc (AO ?_))))
   have H := AK H
   subst H
   refine AG (.inl Aa) W F Aa (A3 1 W Aa Aa FJ Aa) ?_
   have F := F.frontZ (i := 1) Aa Aa
   have F := F.freeze
   have F := F.frontZ (i := 1) Aa Aa
   have F := F.frontZ (i := 2) Aa Aa
   have F := F.sub (M' := [(q_p0, [v10, .int .i64 x5.2.2])]) (Z' := [row v10 98 AC x5.2.1, AU v11 AR ((Am x5.1).un.2.1.un.2.2.2), AU v12 BD ((Am x5.1).un.2.2.2.2)]) (List.Sublist.cons_cons _ (List.nil_sublist _)) (List.Sublist.cons_cons _ (List.Sublist.cons_cons _ (List.Sublist.cons_cons _ (List.nil_sublist _))))
   exact ⟨((v11), (v12), (v10)), Aa, F⟩
  have H := EY H
  refine B0 (Ml := [(q_p0, [v8, .int .i64 x3.2.2])]) (Zl := [row v8 98 AC x3.2.1]) (M := (Dh b1)) (Z := []) (β := Value) (pv := fun x => .iface 89 (.agg #[.int .i64 x6.1.1, .int .i64 x6.1.2])) (MM := fun x => [(q_p0, [x, .int .i64 x6.2.2])]) (ZZ := fun x => [row x 98 AC x6.2.1]) W F TH Aa (fun hL => Ca _ _ w q_p0 (v8) x3.2 _ h4 hL) fun x w F => ?_
  obtain ⟨v13, rfl⟩ : ∃ y, y = x := ⟨x, rfl⟩
  have F : Stw ⟨Y, X, w0⟩ [(q_p0, [v13, .int .i64 x6.2.2]), (b1, (BM))] [row v13 98 AC x6.2.1] w := F
  refine BF (EB (BF ?_))
  have H := AK H
  subst H
  refine A7 W ?_
  have F := F.sub (M' := [(q_p0, [v13, .int .i64 x6.2.2])]) (Z' := [row v13 98 AC x6.2.1]) (List.Sublist.cons_cons _ (List.nil_sublist _)) (List.Sublist.refl _)
  exact ⟨(v13), Aa, F⟩
 have H := AY (by rw [hb]; decide) H
 rw [hb] at W
 clear hb
 refine Ak (Ab ?_)
 refine ls W F Aa (Ah W Aa).q fun a w W F => ?_
 obtain ⟨x7, h5, H⟩ := Aq H
 refine A2 (Ml := [(q_p0, [v8, .int .i64 x3.2.2])]) (Zl := [row v8 98 AC x3.2.1]) (M := (Dh b1)) (Z := []) (β := Value) (rv := fun x => .bool x7.1) (MM := fun x => [(q_p0, [x, .int .i64 x7.2.2])]) (ZZ := fun x => [row x 98 AC x7.2.1]) W F QR Aa Aa (fun hL => A9 _ _ w q_p0 (v8) x3.2 ([105, 102] : List UInt8) _ h5 hL) fun x a w W F => ?_
 obtain ⟨v14, rfl⟩ : ∃ y, y = x := ⟨x, rfl⟩
 have F : Stw ⟨Y, X, w0⟩ [(q_p0, [v14, .int .i64 x7.2.2]), (b1, (BM))] [row v14 98 AC x7.2.1] w := F
 refine ls W F Aa (Ag W Aa).q fun a w W F => ?_
 refine Ae (Ac ?_)
 refine Az W Aa (fun hb => ?_) fun hb => ?_
 ·
  have H := AW hb H
  rw [hb] at W
  clear hb
  refine Ak (Ab ?_)
  refine ls W F Aa (Ah W Aa).q fun a w W F => ?_
  obtain ⟨x8, h6, H⟩ := Aq H
  rcases x8 with x9 | x10
  ·
   have H := EZ H
   refine A2 (Ml := [(q_p0, [v14, .int .i64 x7.2.2])]) (Zl := [row v14 98 AC x7.2.1]) (M := (Dh b1)) (Z := []) (β := Value × Value × Value) (rv := fun x => .agg #[.int .i64 x9.1.un.1, .int .i64 x9.1.un.2.1.un.1, .int .i64 x9.1.un.2.1.un.2.1, .int .i64 x9.1.un.2.1.un.2.2.1, x.1, .int .i64 x9.1.un.2.2.1, .int .i64 x9.1.un.2.2.2.1, x.2.1]) (MM := fun x => [(q_p0, [x.2.2, .int .i64 x9.2.2])]) (ZZ := fun x => [row x.2.2 98 AC x9.2.1, AU x.1 AR x9.1.un.2.1.un.2.2.2, row x.2.1 28 BD x9.1.un.2.2.2.2]) W F Us Aa Aa (fun hL => (F1 fRec ih) _ _ w q_p0 (v14) x7.2 _ h6 hL) fun x a w W F => ?_
   obtain ⟨v15, v16, v17⟩ := x
   have F : Stw ⟨Y, X, w0⟩ [(q_p0, [v17, .int .i64 x9.2.2]), (b1, (BM))] [row v17 98 AC x9.2.1, AU v15 AR x9.1.un.2.1.un.2.2.2, row v16 28 BD x9.1.un.2.2.2.2] w := F
   refine AL (vs := (DK x9 v15 v16)) (M' := [(q_p0, [v17, .int .i64 x9.2.2]), (b1, (DK x9 v15 v16))]) 1 W F Aa Aa Aa FJ Aa Aa Aa (Ai Aa (Ai Aa (Ai Aa (Ai Aa (Ai (F.oneF (k := 1) Aa) (Ai Aa (Ai Aa (Ai (F.one (k := 2) Aa) Bp)))))))) Aa fun w F => ?_
   refine Ae (Ac (Ax (Bc (AO ?_))))
   have H := AK H
   subst H
   refine AG (.inl Aa) W F Aa (A3 1 W Aa Aa FJ Aa) ?_
   have F := F.frontZ (i := 2) Aa Aa
   have F := F.freeze
   have F := F.frontZ (i := 2) Aa Aa
   have F := F.frontZ (i := 2) Aa Aa
   have F := F.sub (M' := [(q_p0, [v17, .int .i64 x9.2.2])]) (Z' := [row v17 98 AC x9.2.1, AU v15 AR x9.1.un.2.1.un.2.2.2, AU v16 BD x9.1.un.2.2.2.2]) (List.Sublist.cons_cons _ (List.nil_sublist _)) (List.Sublist.refl _)
   exact ⟨((v15), (v16), (v17)), Aa, F⟩
  have H := EY H
  refine B0 (Ml := [(q_p0, [v14, .int .i64 x7.2.2])]) (Zl := [row v14 98 AC x7.2.1]) (M := (Dh b1)) (Z := []) (β := Value) (pv := fun x => .iface 89 (.agg #[.int .i64 x10.1.1, .int .i64 x10.1.2])) (MM := fun x => [(q_p0, [x, .int .i64 x10.2.2])]) (ZZ := fun x => [row x 98 AC x10.2.1]) W F Us Aa (fun hL => (F1 fRec ih) _ _ w q_p0 (v14) x7.2 _ h6 hL) fun x w F => ?_
  obtain ⟨v18, rfl⟩ : ∃ y, y = x := ⟨x, rfl⟩
  have F : Stw ⟨Y, X, w0⟩ [(q_p0, [v18, .int .i64 x10.2.2]), (b1, (BM))] [row v18 98 AC x10.2.1] w := F
  refine BF (EB (BF ?_))
  have H := AK H
  subst H
  refine A7 W ?_
  have F := F.sub (M' := [(q_p0, [v18, .int .i64 x10.2.2])]) (Z' := [row v18 98 AC x10.2.1]) (List.Sublist.cons_cons _ (List.nil_sublist _)) (List.Sublist.refl _)
  exact ⟨(v18), Aa, F⟩
 have H := AY (by rw [hb]; decide) H
 rw [hb] at W
 clear hb
 refine Ak (Ab ?_)
 refine ls W F Aa (Ah W Aa).q fun a w W F => ?_
 obtain ⟨x11, h7, H⟩ := Aq H
 refine A2 (Ml := [(q_p0, [v14, .int .i64 x7.2.2])]) (Zl := [row v14 98 AC x7.2.1]) (M := (Dh b1)) (Z := []) (β := Value) (rv := fun x => .bool x11.1) (MM := fun x => [(q_p0, [x, .int .i64 x11.2.2])]) (ZZ := fun x => [row x 98 AC x11.2.1]) W F QR Aa Aa (fun hL => A9 _ _ w q_p0 (v14) x7.2 ([40] : List UInt8) _ h7 hL) fun x a w W F => ?_
 obtain ⟨v19, rfl⟩ : ∃ y, y = x := ⟨x, rfl⟩
 have F : Stw ⟨Y, X, w0⟩ [(q_p0, [v19, .int .i64 x11.2.2]), (b1, (BM))] [row v19 98 AC x11.2.1] w := F
 refine ls W F Aa (Ag W Aa).q fun a w W F => ?_
 refine Ae (Ac ?_)
 refine Az W Aa (fun hb => ?_) fun hb => ?_
 ·
  have H := AW hb H
  rw [hb] at W
  clear hb
  refine Ak (Ab ?_)
  refine ls W F Aa (Ah W Aa).q fun a w W F => ?_
  obtain ⟨x12, h8, H⟩ := Aq H
  rcases x12 with x13 | x14
  ·
   have H := EZ H
   refine A2 (Ml := [(q_p0, [v19, .int .i64 x11.2.2])]) (Zl := [row v19 98 AC x11.2.1]) (M := (Dh b1)) (Z := []) (β := Value × Value × Value) (rv := fun x => .agg #[.int .i64 x13.1.un.1, .int .i64 x13.1.un.2.1.un.1, .int .i64 x13.1.un.2.1.un.2.1, .int .i64 x13.1.un.2.1.un.2.2.1, x.1, .int .i64 x13.1.un.2.2.1, .int .i64 x13.1.un.2.2.2.1, x.2.1]) (MM := fun x => [(q_p0, [x.2.2, .int .i64 x13.2.2])]) (ZZ := fun x => [row x.2.2 98 AC x13.2.1, AU x.1 AR x13.1.un.2.1.un.2.2.2, AU x.2.1 BD x13.1.un.2.2.2.2]) W F U5 Aa Aa (fun hL => ih_parse_parser_policy _ _ w q_p0 (v19) x11.2 _ h8 hL) fun x a w W F => ?_
   obtain ⟨v20, v21, v22⟩ := x
   have F : Stw ⟨Y, X, w0⟩ [(q_p0, [v22, .int .i64 x13.2.2]), (b1, (BM))] [row v22 98 AC x13.2.1, AU v20 AR x13.1.un.2.1.un.2.2.2, AU v21 BD x13.1.un.2.2.2.2] w := F
   refine Bi (cs := (BM)) W F Aa Lh Aa fun b2 a w W F => ?_
   refine AL (vs := (DK x13 v20 v21)) (M' := [(b2, [.int .i64 x13.1.un.1, .int .i64 x13.1.un.2.1.un.1, .int .i64 x13.1.un.2.1.un.2.1, .int .i64 x13.1.un.2.1.un.2.2.1, v20, .int .i64 x13.1.un.2.2.1, .int .i64 x13.1.un.2.2.2.1, v21]), (q_p0, [v22, .int .i64 x13.2.2]), (b1, [.int .i64 0, .int .i64 0, .int .i64 0, .int .i64 0, .slice none 0 0, .int .i64 0, .int .i64 0, .slice none 0 0])]) 0 W F Aa Aa Aa FJ Aa Aa Aa (Ai Aa (Ai Aa (Ai Aa (Ai Aa (Ai (F.oneF (k := 1) Aa) (Ai Aa (Ai Aa (Ai (F.oneF (k := 2) Aa) Bp)))))))) Aa fun w F => ?_
   refine Ae (Ac (Ak (Ab ?_)))
   refine ls W F Aa (Ah W Aa).q fun a w W F => ?_
   obtain ⟨x15, h9, H⟩ := Aq H
   rcases x15 with x16 | x17
   ·
    have H := EZ H
    have F := F.frontM (i := 1) Aa Aa
    refine A2 (Ml := [(q_p0, [v22, .int .i64 x13.2.2])]) (Zl := [row v22 98 AC x13.2.1]) (M := (TP b2 x13 v20 v21 b1)) (Z := [AU v20 AR x13.1.un.2.1.un.2.2.2, AU v21 BD x13.1.un.2.2.2.2]) (β := Value) (rv := fun x => .tuple #[]) (MM := fun x => [(q_p0, [x, .int .i64 x16.2])]) (ZZ := fun x => [row x 98 AC x16.1]) W F Lr Aa Aa (fun hL => Bl _ _ w q_p0 (v22) x13.2 ([41] : List UInt8) _ h9 hL) fun x a w W F => ?_
    obtain ⟨v23, rfl⟩ : ∃ y, y = x := ⟨x, rfl⟩
    have F : Stw ⟨Y, X, w0⟩ [(q_p0, [v23, .int .i64 x16.2]), (b2, (DK x13 v20 v21)), (b1, (BM))] [row v23 98 AC x16.1, AU v20 AR x13.1.un.2.1.un.2.2.2, AU v21 BD x13.1.un.2.2.2.2] w := F
    refine Ae (Ac (Ak (Ab ?_)))
    refine ls W F Aa (Av (v := Value.agg #[.int .i64 x13.1.un.1, .int .i64 x13.1.un.2.1.un.1, .int .i64 x13.1.un.2.1.un.2.1, .int .i64 x13.1.un.2.1.un.2.2.1, v20, .int .i64 x13.1.un.2.2.1, .int .i64 x13.1.un.2.2.2.1, v21]) 1 W Aa Aa FJ Aa).q fun a w W F => ?_
    refine AL (vs := (DK x13 v20 v21)) (M' := [(q_p0, [v23, .int .i64 x16.2]), (b2, (DK x13 v20 v21)), (b1, (DK x13 v20 v21))]) 2 W F Aa Aa Aa FJ Aa Aa Aa (Ai Aa (Ai Aa (Ai Aa (Ai Aa (Ai (F.oneF (k := 1) Aa) (Ai Aa (Ai Aa (Ai (F.oneF (k := 2) Aa) Bp)))))))) Aa fun w F => ?_
    refine Ae (Ac (Ax (Bc (AO ?_))))
    have H := AK H
    subst H
    refine AG (.inl Aa) W F Aa (A3 2 W Aa Aa FJ Aa) ?_
    have F := F.frontZ (i := 2) Aa Aa
    have F := F.frontZ (i := 2) Aa Aa
    have F := F.frontZ (i := 2) Aa Aa
    have F := F.sub (M' := [(q_p0, [v23, .int .i64 x16.2])]) (Z' := [row v23 98 AC x16.1, AU v20 AR x13.1.un.2.1.un.2.2.2, AU v21 BD x13.1.un.2.2.2.2]) (List.Sublist.cons_cons _ (List.nil_sublist _)) (List.Sublist.refl _)
    exact ⟨((v20), (v21), (v23)), Aa, F⟩
   have H := EY H
   have F := F.frontM (i := 1) Aa Aa
   refine B0 (Ml := [(q_p0, [v22, .int .i64 x13.2.2])]) (Zl := [row v22 98 AC x13.2.1]) (M := (TP b2 x13 v20 v21 b1)) (Z := [AU v20 AR x13.1.un.2.1.un.2.2.2, AU v21 BD x13.1.un.2.2.2.2]) (β := Value) (pv := fun x => .iface 89 (.agg #[.int .i64 x17.1.1, .int .i64 x17.1.2])) (MM := fun x => [(q_p0, [x, .int .i64 x17.2.2])]) (ZZ := fun x => [row x 98 AC x17.2.1]) W F Lr Aa (fun hL => Bl _ _ w q_p0 (v22) x13.2 ([41] : List UInt8) _ h9 hL) fun x w F => ?_
   obtain ⟨v24, rfl⟩ : ∃ y, y = x := ⟨x, rfl⟩
   have F : Stw ⟨Y, X, w0⟩ [(q_p0, [v24, .int .i64 x17.2.2]), (b2, (DK x13 v20 v21)), (b1, (BM))] [row v24 98 AC x17.2.1, AU v20 AR x13.1.un.2.1.un.2.2.2, AU v21 BD x13.1.un.2.2.2.2] w := F
   refine BF (EB (BF ?_))
   have H := AK H
   subst H
   refine A7 W ?_
   have F := F.sub (M' := [(q_p0, [v24, .int .i64 x17.2.2])]) (Z' := [row v24 98 AC x17.2.1]) (List.Sublist.cons_cons _ (List.nil_sublist _)) (List.Sublist.cons_cons _ (List.nil_sublist _))
   exact ⟨(v24), Aa, F⟩
  have H := EY H
  refine B0 (Ml := [(q_p0, [v19, .int .i64 x11.2.2])]) (Zl := [row v19 98 AC x11.2.1]) (M := (Dh b1)) (Z := []) (β := Value) (pv := fun x => .iface 89 (.agg #[.int .i64 x14.1.1, .int .i64 x14.1.2])) (MM := fun x => [(q_p0, [x, .int .i64 x14.2.2])]) (ZZ := fun x => [row x 98 AC x14.2.1]) W F U5 Aa (fun hL => ih_parse_parser_policy _ _ w q_p0 (v19) x11.2 _ h8 hL) fun x w F => ?_
  obtain ⟨v25, rfl⟩ : ∃ y, y = x := ⟨x, rfl⟩
  have F : Stw ⟨Y, X, w0⟩ [(q_p0, [v25, .int .i64 x14.2.2]), (b1, (BM))] [row v25 98 AC x14.2.1] w := F
  refine BF (EB (BF ?_))
  have H := AK H
  subst H
  refine A7 W ?_
  have F := F.sub (M' := [(q_p0, [v25, .int .i64 x14.2.2])]) (Z' := [row v25 98 AC x14.2.1]) (List.Sublist.cons_cons _ (List.nil_sublist _)) (List.Sublist.refl _)
  exact ⟨(v25), Aa, F⟩
 have H := AY (by rw [hb]; decide) H
 rw [hb] at W
 clear hb
 refine AA (Bn (Ac (Ak (Ab ?_))))
 refine ls W F Aa (Ah W Aa).q fun a w W F => ?_
 obtain ⟨x18, h10, H⟩ := Aq H
 rcases x18 with x19 | x20
 ·
  have H := EZ H
  refine A2 (Ml := [(q_p0, [v19, .int .i64 x11.2.2])]) (Zl := [row v19 98 AC x11.2.1]) (M := (Dh b1)) (Z := []) (β := Value) (rv := fun x => .int .i64 x19.1) (MM := fun x => [(q_p0, [x, .int .i64 x19.2.2])]) (ZZ := fun x => [row x 98 AC x19.2.1]) W F SY Aa Aa (fun hL => DL _ _ w q_p0 (v19) x11.2 4 _ h10 hL) fun x a w W F => ?_
  obtain ⟨v26, rfl⟩ : ∃ y, y = x := ⟨x, rfl⟩
  have F : Stw ⟨Y, X, w0⟩ [(q_p0, [v26, .int .i64 x19.2.2]), (b1, (BM))] [row v26 98 AC x19.2.1] w := F
  refine ls W F Aa (Ag W Aa).q fun a w W F => ?_
  refine Ae (Ac (Ak (Ab ?_)))
  refine ls W F Aa (Ah W Aa).q fun a w W F => ?_
  obtain ⟨x21, h11, H⟩ := Aq H
  rcases x21 with x22 | x23
  ·
   have H := EZ H
   refine A2 (Ml := [(q_p0, [v26, .int .i64 x19.2.2])]) (Zl := [row v26 98 AC x19.2.1]) (M := (Dh b1)) (Z := []) (β := Value) (rv := fun x => .tuple #[]) (MM := fun x => [(q_p0, [x, .int .i64 x22.2])]) (ZZ := fun x => [row x 98 AC x22.1]) W F Lr Aa Aa (fun hL => Bl _ _ w q_p0 (v26) x19.2 ([58, 61] : List UInt8) _ h11 hL) fun x a w W F => ?_
   obtain ⟨v27, rfl⟩ : ∃ y, y = x := ⟨x, rfl⟩
   have F : Stw ⟨Y, X, w0⟩ [(q_p0, [v27, .int .i64 x22.2]), (b1, (BM))] [row v27 98 AC x22.1] w := F
   refine Ae (Ac (Ak (Ab ?_)))
   iterate 2 refine ls W F Aa (Ah W Aa).q fun a w W F => ?_
   obtain ⟨x24, h12, H⟩ := Aq H
   rcases x24 with x25 | x26
   ·
    have H := EZ H
    refine A2 (Ml := [(q_p0, [v27, .int .i64 x22.2])]) (Zl := [row v27 98 AC x22.1]) (M := (Dh b1)) (Z := []) (β := Value) (rv := fun x => .int .i64 x25.1) (MM := fun x => [(q_p0, [x, .int .i64 x25.2.2])]) (ZZ := fun x => [row x 98 AC x25.2.1]) W F S9 Aa Aa (fun hL => DE _ _ w q_p0 (v27) x22 _ h12 hL) fun x a w W F => ?_
    obtain ⟨v28, rfl⟩ : ∃ y, y = x := ⟨x, rfl⟩
    have F : Stw ⟨Y, X, w0⟩ [(q_p0, [v28, .int .i64 x25.2.2]), (b1, (BM))] [row v28 98 AC x25.2.1] w := F
    refine ls W F Aa (B7 (v := Value.agg #[.int .i64 2, .int .i64 0, .int .i64 0, .int .i64 0, .slice none 0 0, .int .i64 x19.1, .int .i64 x25.1, .slice none 0 0]) TR W Aa Aa Aa).q fun a w W F => ?_
    refine AL (vs := [.int .i64 2, .int .i64 0, .int .i64 0, .int .i64 0, .slice none 0 0, .int .i64 x19.1, .int .i64 x25.1, .slice none 0 0]) (M' := [(q_p0, [v28, .int .i64 x25.2.2]), (b1, [.int .i64 2, .int .i64 0, .int .i64 0, .int .i64 0, .slice none 0 0, .int .i64 x19.1, .int .i64 x25.1, .slice none 0 0])]) 1 W F Aa Aa Aa FJ Aa Aa Aa Aa Aa fun w F => ?_
    refine Ae (Ac (Ax ?_))
    have H := AK H
    subst H
    refine AG (.inl Aa) W F Aa (A3 1 W Aa Aa FJ Aa) ?_
    have F := F.note (Sl.nil (r := AR))
    have F := F.note (Sl.nil (r := BD))
    have F := F.frontZ (i := 1) Aa Aa
    have F := F.frontZ (i := 2) Aa Aa
    have F := F.sub (M' := [(q_p0, [v28, .int .i64 x25.2.2])]) (Z' := [row v28 98 AC x25.2.1, AU (Value.slice none 0 0) AR ([]), AU (Value.slice none 0 0) BD ([])]) (List.Sublist.cons_cons _ (List.nil_sublist _)) (List.Sublist.refl _)
    exact ⟨((Value.slice none 0 0), (Value.slice none 0 0), (v28)), Aa, F⟩
   have H := EY H
   refine B0 (Ml := [(q_p0, [v27, .int .i64 x22.2])]) (Zl := [row v27 98 AC x22.1]) (M := (Dh b1)) (Z := []) (β := Value) (pv := fun x => .iface 89 (.agg #[.int .i64 x26.1.1, .int .i64 x26.1.2])) (MM := fun x => [(q_p0, [x, .int .i64 x26.2.2])]) (ZZ := fun x => [row x 98 AC x26.2.1]) W F S9 Aa (fun hL => DE _ _ w q_p0 (v27) x22 _ h12 hL) fun x w F => ?_
   obtain ⟨v29, rfl⟩ : ∃ y, y = x := ⟨x, rfl⟩
   have F : Stw ⟨Y, X, w0⟩ [(q_p0, [v29, .int .i64 x26.2.2]), (b1, (BM))] [row v29 98 AC x26.2.1] w := F
   refine BF ?_
   have H := AK H
   subst H
   refine A7 W ?_
   have F := F.sub (M' := [(q_p0, [v29, .int .i64 x26.2.2])]) (Z' := [row v29 98 AC x26.2.1]) (List.Sublist.cons_cons _ (List.nil_sublist _)) (List.Sublist.refl _)
   exact ⟨(v29), Aa, F⟩
  have H := EY H
  refine B0 (Ml := [(q_p0, [v26, .int .i64 x19.2.2])]) (Zl := [row v26 98 AC x19.2.1]) (M := (Dh b1)) (Z := []) (β := Value) (pv := fun x => .iface 89 (.agg #[.int .i64 x23.1.1, .int .i64 x23.1.2])) (MM := fun x => [(q_p0, [x, .int .i64 x23.2.2])]) (ZZ := fun x => [row x 98 AC x23.2.1]) W F Lr Aa (fun hL => Bl _ _ w q_p0 (v26) x19.2 ([58, 61] : List UInt8) _ h11 hL) fun x w F => ?_
  obtain ⟨v30, rfl⟩ : ∃ y, y = x := ⟨x, rfl⟩
  have F : Stw ⟨Y, X, w0⟩ [(q_p0, [v30, .int .i64 x23.2.2]), (b1, (BM))] [row v30 98 AC x23.2.1] w := F
  refine BF ?_
  have H := AK H
  subst H
  refine A7 W ?_
  have F := F.sub (M' := [(q_p0, [v30, .int .i64 x23.2.2])]) (Z' := [row v30 98 AC x23.2.1]) (List.Sublist.cons_cons _ (List.nil_sublist _)) (List.Sublist.refl _)
  exact ⟨(v30), Aa, F⟩
 have H := EY H
 refine B0 (Ml := [(q_p0, [v19, .int .i64 x11.2.2])]) (Zl := [row v19 98 AC x11.2.1]) (M := (Dh b1)) (Z := []) (β := Value) (pv := fun x => .iface 89 (.agg #[.int .i64 x20.1.1, .int .i64 x20.1.2])) (MM := fun x => [(q_p0, [x, .int .i64 x20.2.2])]) (ZZ := fun x => [row x 98 AC x20.2.1]) W F SY Aa (fun hL => DL _ _ w q_p0 (v19) x11.2 4 _ h10 hL) fun x w F => ?_
 obtain ⟨v31, rfl⟩ : ∃ y, y = x := ⟨x, rfl⟩
 have F : Stw ⟨Y, X, w0⟩ [(q_p0, [v31, .int .i64 x20.2.2]), (b1, (BM))] [row v31 98 AC x20.2.1] w := F
 refine BF ?_
 have H := AK H
 subst H
 refine A7 W ?_
 have F := F.sub (M' := [(q_p0, [v31, .int .i64 x20.2.2])]) (Z' := [row v31 98 AC x20.2.1]) (List.Sublist.cons_cons _ (List.nil_sublist _)) (List.Sublist.refl _)
 exact ⟨(v31), Aa, F⟩
theorem IV (fRec_parse_parser_policy : ((List (Int × Int × List UInt8 × Int)) × Int) → Option ((Tr28 × ((List (Int × Int × List UInt8 × Int)) × Int)) ⊕ ((Int × Int) × ((List (Int × Int × List UInt8 × Int)) × Int)))) (ih_parse_parser_policy : ∀ (Y : Nat → Prop) (X : List Nat) (w0 : World) (q_p0 : Nat) (v1 : Value) (p0 : (List (Int × Int × List UInt8 × Int)) × Int) (r : (Tr28 × ((List (Int × Int × List UInt8 × Int)) × Int)) ⊕ ((Int × Int) × ((List (Int × Int × List UInt8 × Int)) × Int))) (H : fRec_parse_parser_policy p0 = some r) (hL : Stw ⟨Y, X, w0⟩ [(q_p0, [v1, .int .i64 p0.2])] [row v1 98 AC p0.1] w0), Calls Tryd.prog 28 #[.pointer (some ⟨q_p0, 0, none⟩)] w0 fun e w' => D9 r (fun r => ∃ x : Value × Value × Value, e = .returned (.agg #[.int .i64 r.1.un.1, .int .i64 r.1.un.2.1.un.1, .int .i64 r.1.un.2.1.un.2.1, .int .i64 r.1.un.2.1.un.2.2.1, x.1, .int .i64 r.1.un.2.2.1, .int .i64 r.1.un.2.2.2.1, x.2.1]) ∧ Stw ⟨Y, X, w0⟩ [(q_p0, [x.2.2, .int .i64 r.2.2])] [row (x.2.2) 98 AC r.2.1, AU (x.1) AR r.1.un.2.1.un.2.2.2, AU (x.2.1) BD r.1.un.2.2.2.2] w') (fun r => ∃ x : Value, e = .panicked [{ v := .iface 89 (.agg #[.int .i64 r.1.1, .int .i64 r.1.2]), recovered := false }] ∧ Stw ⟨Y, X, w0⟩ [(q_p0, [x, .int .i64 r.2.2])] [row (x) 98 AC r.2.1] w')) : ∀ (n : Nat) (Y : Nat → Prop) (X : List Nat) (w0 : World) (q_p0 : Nat) (v1 : Value) (p0 : (List (Int × Int × List UInt8 × Int)) × Int) (r : (Tr28 × ((List (Int × Int × List UInt8 × Int)) × Int)) ⊕ ((Int × Int) × ((List (Int × Int × List UInt8 × Int)) × Int))) (H : A6 fRec_parse_parser_policy n p0 = some r) (hL : Stw ⟨Y, X, w0⟩ [(q_p0, [v1, .int .i64 p0.2])] [row v1 98 AC p0.1] w0), Calls Tryd.prog 84 #[.pointer (some ⟨q_p0, 0, none⟩)] w0 fun e w' => D9 r (fun r => ∃ x : Value × Value × Value, e = .returned (.agg #[.int .i64 r.1.un.1, .int .i64 r.1.un.2.1.un.1, .int .i64 r.1.un.2.1.un.2.1, .int .i64 r.1.un.2.1.un.2.2.1, x.1, .int .i64 r.1.un.2.2.1, .int .i64 r.1.un.2.2.2.1, x.2.1]) ∧ Stw ⟨Y, X, w0⟩ [(q_p0, [x.2.2, .int .i64 r.2.2])] [row (x.2.2) 98 AC r.2.1, AU (x.1) AR r.1.un.2.1.un.2.2.2, AU (x.2.1) BD r.1.un.2.2.2.2] w') (fun r => ∃ x : Value, e = .panicked [{ v := .iface 89 (.agg #[.int .i64 r.1.1, .int .i64 r.1.2]), recovered := false }] ∧ Stw ⟨Y, X, w0⟩ [(q_p0, [x, .int .i64 r.2.2])] [row (x) 98 AC r.2.1] w') := by
  intro n
  induction n with
  | zero => intro Y X w0 q_p0 v1 p0 r H; exact nomatch H
  | succ n ih => intro Y X w0 q_p0 v1 p0 r H hL; exact IB fRec_parse_parser_policy ih_parse_parser_policy (A6 fRec_parse_parser_policy n) ih Y X w0 q_p0 v1 p0 r H hL
theorem D2 (fRec_parse_parser_policy : ((List (Int × Int × List UInt8 × Int)) × Int) → Option ((Tr28 × ((List (Int × Int × List UInt8 × Int)) × Int)) ⊕ ((Int × Int) × ((List (Int × Int × List UInt8 × Int)) × Int)))) (ih_parse_parser_policy : ∀ (Y : Nat → Prop) (X : List Nat) (w0 : World) (q_p0 : Nat) (v1 : Value) (p0 : (List (Int × Int × List UInt8 × Int)) × Int) (r : (Tr28 × ((List (Int × Int × List UInt8 × Int)) × Int)) ⊕ ((Int × Int) × ((List (Int × Int × List UInt8 × Int)) × Int))) (H : fRec_parse_parser_policy p0 = some r) (hL : Stw ⟨Y, X, w0⟩ [(q_p0, [v1, .int .i64 p0.2])] [row v1 98 AC p0.1] w0), Calls Tryd.prog 28 #[.pointer (some ⟨q_p0, 0, none⟩)] w0 fun e w' => D9 r (fun r => ∃ x : Value × Value × Value, e = .returned (.agg #[.int .i64 r.1.un.1, .int .i64 r.1.un.2.1.un.1, .int .i64 r.1.un.2.1.un.2.1, .int .i64 r.1.un.2.1.un.2.2.1, x.1, .int .i64 r.1.un.2.2.1, .int .i64 r.1.un.2.2.2.1, x.2.1]) ∧ Stw ⟨Y, X, w0⟩ [(q_p0, [x.2.2, .int .i64 r.2.2])] [row (x.2.2) 98 AC r.2.1, AU (x.1) AR r.1.un.2.1.un.2.2.2, AU (x.2.1) BD r.1.un.2.2.2.2] w') (fun r => ∃ x : Value, e = .panicked [{ v := .iface 89 (.agg #[.int .i64 r.1.1, .int .i64 r.1.2]), recovered := false }] ∧ Stw ⟨Y, X, w0⟩ [(q_p0, [x, .int .i64 r.2.2])] [row (x) 98 AC r.2.1] w')) (Y : Nat → Prop) (X : List Nat) (w0 : World) (q_p0 : Nat) (v1 : Value) (p0 : (List (Int × Int × List UInt8 × Int)) × Int) (r : (Tr28 × ((List (Int × Int × List UInt8 × Int)) × Int)) ⊕ ((Int × Int) × ((List (Int × Int × List UInt8 × Int)) × Int))) (H : BO fRec_parse_parser_policy p0 = some r) (hL : Stw ⟨Y, X, w0⟩ [(q_p0, [v1, .int .i64 p0.2])] [row v1 98 AC p0.1] w0) :
    Calls Tryd.prog 84 #[.pointer (some ⟨q_p0, 0, none⟩)] w0 fun e w' => D9 r (fun r => ∃ x : Value × Value × Value, e = .returned (.agg #[.int .i64 r.1.un.1, .int .i64 r.1.un.2.1.un.1, .int .i64 r.1.un.2.1.un.2.1, .int .i64 r.1.un.2.1.un.2.2.1, x.1, .int .i64 r.1.un.2.2.1, .int .i64 r.1.un.2.2.2.1, x.2.1]) ∧ Stw ⟨Y, X, w0⟩ [(q_p0, [x.2.2, .int .i64 r.2.2])] [row (x.2.2) 98 AC r.2.1, AU (x.1) AR r.1.un.2.1.un.2.2.2, AU (x.2.1) BD r.1.un.2.2.2.2] w') (fun r => ∃ x : Value, e = .panicked [{ v := .iface 89 (.agg #[.int .i64 r.1.1, .int .i64 r.1.2]), recovered := false }] ∧ Stw ⟨Y, X, w0⟩ [(q_p0, [x, .int .i64 r.2.2])] [row (x) 98 AC r.2.1] w') := by
  obtain ⟨n, H⟩ := BR H
  exact IV fRec_parse_parser_policy ih_parse_parser_policy n Y X w0 q_p0 v1 p0 r H hL
abbrev PB : Rp (Int × (Int × Int × Int × (Value × List Tr25)) × Int × Int × (Value × List Tr28)) := (Rp.pair (Rp.int .i64) (Rp.pair Ln (Rp.pair (Rp.int .i64) (Rp.pair (Rp.int .i64) (Rp.vsl BD)))))
abbrev Vk (p : Int × (Int × Int × Int × (Value × List Tr25)) × Int × Int × (Value × List Tr28)) : Tr28 := (Tr28.of (p.1, (Tr25.of (p.2.1.1, p.2.1.2.1, p.2.1.2.2.1, p.2.1.2.2.2.2)), p.2.2.1, p.2.2.2.1, p.2.2.2.2.2))
theorem Js : Ex BD PB Vk := (Ex.knot T5 (of := Tr28.of) (fun _ => rfl) (fun x => by cases x; rfl) (Ex.pair Ex.rfl' (Ex.pair (Ex.knot Tc (of := Tr25.of) (fun _ => rfl) (fun x => by cases x; rfl) (Ex.pair Ex.rfl' (Ex.pair Ex.rfl' (Ex.pair Ex.rfl' Ex.sliceF)))) (Ex.pair Ex.rfl' (Ex.pair Ex.rfl' Ex.sliceF)))))
abbrev Ow (a : Int × (Int × Int × Int × (Value × List Tr25)) × Int × Int × (Value × List Tr28)) : List Value := [.int .i64 a.1, .int .i64 a.2.1.1, .int .i64 a.2.1.2.1, .int .i64 a.2.1.2.2.1, a.2.1.2.2.2.1, .int .i64 a.2.2.1, .int .i64 a.2.2.2.1, a.2.2.2.2.1]
theorem SS : EM PB Ow := (EM.pair Fl.int.to (EM.pair (EM.pair Fl.int.to (EM.pair Fl.int.to (EM.pair Fl.int.to EM.vsl))) (EM.pair Fl.int.to (EM.pair Fl.int.to EM.vsl))))
abbrev Uv (a0 : Value) : List Value := [.int .i64 3, .int .i64 0, .int .i64 0, .int .i64 0, .slice none 0 0, .int .i64 0, .int .i64 0, a0]
def Be (p0 : List Tr28) : Tr28 := Tr28.of (3, Tr25.of (0, 0, 0, ([] : List Tr25)), 0, 0, p0)
theorem Pc (Y : Nat → Prop) (w0 : World) (v1 : Value) (p0 : List Tr28) (r : Tr28) (H : Be p0 = r) (s_v1 : Sl w0 Y BD v1 p0) :
    Calls Tryd.prog 85 #[v1] w0 fun e w' => ∃ x : Value × Value, e = .returned (.agg #[.int .i64 r.un.1, .int .i64 r.un.2.1.un.1, .int .i64 r.un.2.1.un.2.1, .int .i64 r.un.2.1.un.2.2.1, x.1, .int .i64 r.un.2.2.1, .int .i64 r.un.2.2.2.1, x.2]) ∧ Stw ⟨Y, [], w0⟩ [] [row (x.1) 25 AR r.un.2.1.un.2.2.2, AU (x.2) BD r.un.2.2.2.2] w' := by
 refine enter Tryd.func85 Aa Tryd.ntmps85 Aa fun a W => ?_
 have F := Stw.start Y w0
 obtain ⟨v2, h1, s_v1⟩ := s_v1.ex Js
 have h_v1 := F.nx s_v1
 unfold Be at H
 refine Ak (Ab ?_)
 refine Bi (cs := (BM)) W F Aa Lh Aa fun b1 a w W F => ?_
 refine Ae (Ac (Ak (Ab ?_)))
 refine ls W F Aa (Ah W Aa).q fun a w W F => ?_
 refine ls W F Aa (B7 (v := Value.agg #[.int .i64 3, .int .i64 0, .int .i64 0, .int .i64 0, .slice none 0 0, .int .i64 0, .int .i64 0, v1]) TR W Aa (AX Aa Aa Aa (AX Aa (FH h_v1.one) Aa B2)) Aa).q fun a w W F => ?_
 refine AL (vs := (Uv v1)) (M' := [(b1, [.int .i64 3, .int .i64 0, .int .i64 0, .int .i64 0, .slice none 0 0, .int .i64 0, .int .i64 0, v1])]) 0 W F Aa Aa Aa FJ Aa Aa Aa (Ai Aa (Ai Aa (Ai Aa (Ai Aa (Ai Aa (Ai Aa (Ai Aa (Ai h_v1.one Bp)))))))) Aa fun w F => ?_
 refine Ae (Ac (Ax ?_))
 subst H
 refine AG (.inl Aa) W F Aa (A3 0 W Aa Aa FJ Aa) ?_
 have F := F.nilRow 25 AR
 have F := F.note (Sl.hide Js h1 (F.old s_v1))
 have F := F.frontZ (i := 1) Aa Aa
 have F := F.sub (M' := []) (Z' := [row (Value.slice none 0 0) 25 AR ([]), AU v1 BD p0]) (List.nil_sublist _) (List.Sublist.refl _)
 exact ⟨((Value.slice none 0 0), (v1)), Aa, F⟩
theorem We : Has Tryd.prog 85 := ⟨fun args w => An Tryd.func85 rfl (by decide) args w⟩
abbrev Tz (a0 : List Tr28) (a1 : Value) (a2 : Value) : List Value := [.int .i64 ((Be a0).un.1), .int .i64 ((Be a0).un.2.1.un.1), .int .i64 ((Be a0).un.2.1.un.2.1), .int .i64 ((Be a0).un.2.1.un.2.2.1), a1, .int .i64 ((Be a0).un.2.2.1), .int .i64 ((Be a0).un.2.2.2.1), a2]
noncomputable def A8 (fRec_parse_parser_policy : ((List (Int × Int × List UInt8 × Int)) × Int) → Option ((Tr28 × ((List (Int × Int × List UInt8 × Int)) × Int)) ⊕ ((Int × Int) × ((List (Int × Int × List UInt8 × Int)) × Int)))) (p1 : List UInt8) : (List Tr28 × (List (Int × Int × List UInt8 × Int)) × Int) → Option ((List Tr28 × (List (Int × Int × List UInt8 × Int)) × Int) ⊕ ((List Tr28 × (List (Int × Int × List UInt8 × Int)) × Int) ⊕ ((Tr28 × ((List (Int × Int × List UInt8 × Int)) × Int)) ⊕ ((Int × Int) × ((List (Int × Int × List UInt8 × Int)) × Int)))))
  | (x7, x8, x9) => (AF (x8, x9) p1).bind fun x10 => (if x10.1 = true then ((BO fRec_parse_parser_policy) x10.2).bind fun x11 => B4 x11 (fun x12 => (DQ x7 ([Tr28.of (x12.1.un.1, Tr25.of (x12.1.un.2.1.un.1, x12.1.un.2.1.un.2.1, x12.1.un.2.1.un.2.2.1, x12.1.un.2.1.un.2.2.2), x12.1.un.2.2.1, x12.1.un.2.2.2.1, x12.1.un.2.2.2.2)] : List Tr28)).bind fun x14 => some (.inl (x14, x12.2.1, x12.2.2))) (fun x13 => some (.inr (.inr (.inr (x13.1, x13.2))))) else some (.inr (.inl (x7, x10.2.1, x10.2.2))))
noncomputable def Bv (fRec_parse_parser_policy : ((List (Int × Int × List UInt8 × Int)) × Int) → Option ((Tr28 × ((List (Int × Int × List UInt8 × Int)) × Int)) ⊕ ((Int × Int) × ((List (Int × Int × List UInt8 × Int)) × Int)))) (p0 : (List (Int × Int × List UInt8 × Int)) × Int) (p1 : List UInt8) : Option ((Tr28 × ((List (Int × Int × List UInt8 × Int)) × Int)) ⊕ ((Int × Int) × ((List (Int × Int × List UInt8 × Int)) × Int))) := ((BO fRec_parse_parser_policy) p0).bind fun x1 => B4 x1 (fun x2 => KC (Br (A8 fRec_parse_parser_policy p1) (([Tr28.of (x2.1.un.1, Tr25.of (x2.1.un.2.1.un.1, x2.1.un.2.1.un.2.1, x2.1.un.2.1.un.2.2.1, x2.1.un.2.1.un.2.2.2), x2.1.un.2.2.1, x2.1.un.2.2.2.1, x2.1.un.2.2.2.2)] : List Tr28), x2.2.1, x2.2.2)) fun (x4, x5, x6) => (if (x4.length : Int) = 1 then (ix x4 0).bind fun x15 => some (.inl (Tr28.of (x15.un.1, Tr25.of (x15.un.2.1.un.1, x15.un.2.1.un.2.1, x15.un.2.1.un.2.2.1, x15.un.2.1.un.2.2.2), x15.un.2.2.1, x15.un.2.2.2.1, x15.un.2.2.2.2), (x5, x6))) else some (.inl (Tr28.of ((Be x4).un.1, Tr25.of ((Be x4).un.2.1.un.1, (Be x4).un.2.1.un.2.1, (Be x4).un.2.1.un.2.2.1, (Be x4).un.2.1.un.2.2.2), (Be x4).un.2.2.1, (Be x4).un.2.2.2.1, (Be x4).un.2.2.2.2), (x5, x6))))) (fun x3 => some (.inr (x3.1, x3.2)))
theorem Fb (fRec_parse_parser_policy : ((List (Int × Int × List UInt8 × Int)) × Int) → Option ((Tr28 × ((List (Int × Int × List UInt8 × Int)) × Int)) ⊕ ((Int × Int) × ((List (Int × Int × List UInt8 × Int)) × Int)))) (ih_parse_parser_policy : ∀ (Y : Nat → Prop) (X : List Nat) (w0 : World) (q_p0 : Nat) (v1 : Value) (p0 : (List (Int × Int × List UInt8 × Int)) × Int) (r : (Tr28 × ((List (Int × Int × List UInt8 × Int)) × Int)) ⊕ ((Int × Int) × ((List (Int × Int × List UInt8 × Int)) × Int))) (H : fRec_parse_parser_policy p0 = some r) (hL : Stw ⟨Y, X, w0⟩ [(q_p0, [v1, .int .i64 p0.2])] [row v1 98 AC p0.1] w0), Calls Tryd.prog 28 #[.pointer (some ⟨q_p0, 0, none⟩)] w0 fun e w' => D9 r (fun r => ∃ x : Value × Value × Value, e = .returned (.agg #[.int .i64 r.1.un.1, .int .i64 r.1.un.2.1.un.1, .int .i64 r.1.un.2.1.un.2.1, .int .i64 r.1.un.2.1.un.2.2.1, x.1, .int .i64 r.1.un.2.2.1, .int .i64 r.1.un.2.2.2.1, x.2.1]) ∧ Stw ⟨Y, X, w0⟩ [(q_p0, [x.2.2, .int .i64 r.2.2])] [row (x.2.2) 98 AC r.2.1, AU (x.1) AR r.1.un.2.1.un.2.2.2, AU (x.2.1) BD r.1.un.2.2.2.2] w') (fun r => ∃ x : Value, e = .panicked [{ v := .iface 89 (.agg #[.int .i64 r.1.1, .int .i64 r.1.2]), recovered := false }] ∧ Stw ⟨Y, X, w0⟩ [(q_p0, [x, .int .i64 r.2.2])] [row (x) 98 AC r.2.1] w')) (Y : Nat → Prop) (X : List Nat) (w0 : World) (q_p0 : Nat) (v1 : Value) (p0 : (List (Int × Int × List UInt8 × Int)) × Int) (p1 : List UInt8) (r : (Tr28 × ((List (Int × Int × List UInt8 × Int)) × Int)) ⊕ ((Int × Int) × ((List (Int × Int × List UInt8 × Int)) × Int))) (H : Bv fRec_parse_parser_policy p0 p1 = some r) (hL : Stw ⟨Y, X, w0⟩ [(q_p0, [v1, .int .i64 p0.2])] [row v1 98 AC p0.1] w0) :
    Calls Tryd.prog 56 #[.pointer (some ⟨q_p0, 0, none⟩), .string (bs p1), .func (.func 84) #[.pointer (some ⟨q_p0, 0, none⟩)] #[], .func (.func 85) #[] #[]] w0 fun e w' => D9 r (fun r => ∃ x : Value × Value × Value, e = .returned (.agg #[.int .i64 r.1.un.1, .int .i64 r.1.un.2.1.un.1, .int .i64 r.1.un.2.1.un.2.1, .int .i64 r.1.un.2.1.un.2.2.1, x.1, .int .i64 r.1.un.2.2.1, .int .i64 r.1.un.2.2.2.1, x.2.1]) ∧ Stw ⟨Y, X, w0⟩ [(q_p0, [x.2.2, .int .i64 r.2.2])] [row (x.2.2) 98 AC r.2.1, AU (x.1) AR r.1.un.2.1.un.2.2.2, AU (x.2.1) BD r.1.un.2.2.2.2] w') (fun r => ∃ x : Value, e = .panicked [{ v := .iface 89 (.agg #[.int .i64 r.1.1, .int .i64 r.1.2]), recovered := false }] ∧ Stw ⟨Y, X, w0⟩ [(q_p0, [x, .int .i64 r.2.2])] [row (x) 98 AC r.2.1] w') := by
 refine enter Tryd.func56 Aa Tryd.ntmps56 Aa fun a W => ?_
 have F := hL
 unfold Bv at H
 refine Ak (Ab ?_)
 refine Bi (cs := (BM)) W F Aa Lh Aa fun b1 a w W F => ?_
 refine Ae (Ac (Ak (Ab ?_)))
 refine ls W F Aa (Ah W Aa).q fun a w W F => ?_
 obtain ⟨x1, h1, H⟩ := Aq H
 rcases x1 with x2 | x3
 ·
  have H := EZ H
  have F := F.frontM (i := 1) Aa Aa
  refine EK (ws := [.pointer (some ⟨q_p0, 0, none⟩)]) (Ml := [(q_p0, [v1, .int .i64 p0.2])]) (Zl := [row v1 98 AC p0.1]) (M := (Dh b1)) (Z := []) (β := Value × Value × Value) (rv := fun x => .agg #[.int .i64 x2.1.un.1, .int .i64 x2.1.un.2.1.un.1, .int .i64 x2.1.un.2.1.un.2.1, .int .i64 x2.1.un.2.1.un.2.2.1, x.1, .int .i64 x2.1.un.2.2.1, .int .i64 x2.1.un.2.2.2.1, x.2.1]) (MM := fun x => [(q_p0, [x.2.2, .int .i64 x2.2.2])]) (ZZ := fun x => [row x.2.2 98 AC x2.2.1, AU x.1 AR x2.1.un.2.1.un.2.2.2, AU x.2.1 BD x2.1.un.2.2.2.2]) W F Tm Aa Aa (fun hL => (D2 fRec_parse_parser_policy ih_parse_parser_policy) _ _ w q_p0 (v1) p0 _ h1 hL) fun x a w W F => ?_
  obtain ⟨v2, v3, v4⟩ := x
  have F : Stw ⟨Y, X, w0⟩ [(q_p0, [v4, .int .i64 x2.2.2]), (b1, (BM))] [row v4 98 AC x2.2.1, AU v2 AR x2.1.un.2.1.un.2.2.2, AU v3 BD x2.1.un.2.2.2.2] w := F
  refine FN (z := Value.agg #[.int .i64 0, .int .i64 0, .int .i64 0, .int .i64 0, .slice none 0 0, .int .i64 0, .int .i64 0, .slice none 0 0]) (cs := (DK x2 v2 v3)) BD ([Tr28.of (x2.1.un.1, Tr25.of (x2.1.un.2.1.un.1, x2.1.un.2.1.un.2.1, x2.1.un.2.1.un.2.2.1, x2.1.un.2.1.un.2.2.2), x2.1.un.2.2.1, x2.1.un.2.2.2.1, x2.1.un.2.2.2.2)] : List Tr28) W F Aa Re Lh Aa Aa Aa (AX Aa Aa Aa B2) Aa Aa ⟨[Value.int .i64 x2.1.un.1, Value.int .i64 x2.1.un.2.1.un.1, Value.int .i64 x2.1.un.2.1.un.2.1, Value.int .i64 x2.1.un.2.1.un.2.2.1, v2, Value.int .i64 x2.1.un.2.2.1, Value.int .i64 x2.1.un.2.2.2.1, v3], _, Aa, (PQ.2 ⟨[Value.int .i64 x2.1.un.1], [Value.int .i64 x2.1.un.2.1.un.1, Value.int .i64 x2.1.un.2.1.un.2.1, Value.int .i64 x2.1.un.2.1.un.2.2.1, v2, Value.int .i64 x2.1.un.2.2.1, Value.int .i64 x2.1.un.2.2.2.1, v3], Aa, Aa, ⟨[Value.int .i64 x2.1.un.2.1.un.1, Value.int .i64 x2.1.un.2.1.un.2.1, Value.int .i64 x2.1.un.2.1.un.2.2.1, v2], [Value.int .i64 x2.1.un.2.2.1, Value.int .i64 x2.1.un.2.2.2.1, v3], Aa, (KO.2 ⟨[Value.int .i64 x2.1.un.2.1.un.1], [Value.int .i64 x2.1.un.2.1.un.2.1, Value.int .i64 x2.1.un.2.1.un.2.2.1, v2], Aa, Aa, ⟨[Value.int .i64 x2.1.un.2.1.un.2.1], [Value.int .i64 x2.1.un.2.1.un.2.2.1, v2], Aa, Aa, ⟨[Value.int .i64 x2.1.un.2.1.un.2.2.1], [v2], Aa, Aa, ⟨_, Aa, (F.item (i := 1) Aa)⟩⟩⟩⟩), ⟨[Value.int .i64 x2.1.un.2.2.1], [Value.int .i64 x2.1.un.2.2.2.1, v3], Aa, Aa, ⟨[Value.int .i64 x2.1.un.2.2.2.1], [v3], Aa, Aa, ⟨_, Aa, (F.item (i := 2) Aa)⟩⟩⟩⟩⟩), Aa⟩ fun v5 a w W F => ?_
  refine ls W F Aa (Ag W Aa).q fun a w W F => ?_
  refine Ae (Ac ?_)
  obtain ⟨o1, G1, K1, L1⟩ := Rk H
  refine A1 (fun a w => ∃ x4 : List Tr28, ∃ x5 : List (Int × Int × List UInt8 × Int), ∃ x6 : Int, ∃ v6 : Value, ∃ v7 : Value, some (Sum.inl (x4, x5, x6)) = some o1 ∧ Fr 30 [] [(3, .func (.func 85) #[] #[]), (8, .pointer (some ⟨b1, 0, none⟩)), (9, v6)] a ∧ Stw ⟨Y, X, w0⟩ [(q_p0, [v7, .int .i64 x6]), (b1, (BM))] [row v6 28 BD x4, row v7 98 AC x5] w) ?_ ?_
  ·
   have H := G1
   clear G1 K1
   refine AP ?_
   have F := F.frontZ (i := 1) Aa Aa
   have F := F.frontZ (i := 1) Aa Aa
   have F := F.frontM (i := 1) Aa Aa
   have F := F.frontM (i := 1) Aa Aa
   have F := F.sub (M' := [(q_p0, [v4, .int .i64 x2.2.2]), (b1, (BM))]) (Z' := [row v5 28 BD ([Tr28.of (x2.1.un.1, Tr25.of (x2.1.un.2.1.un.1, x2.1.un.2.1.un.2.1, x2.1.un.2.1.un.2.2.1, x2.1.un.2.1.un.2.2.2), x2.1.un.2.2.1, x2.1.un.2.2.2.1, x2.1.un.2.2.2.2)] : List Tr28), row v4 98 AC x2.2.1]) (List.Sublist.refl _) (List.Sublist.cons_cons _ (List.Sublist.cons_cons _ (List.nil_sublist _)))
   refine Cx H (fun s a w => ∃ v8 : Value, ∃ v9 : Value, Fr 30 [] [(0, .pointer (some ⟨q_p0, 0, none⟩)), (1, .string (bs p1)), (2, .func (.func 84) #[.pointer (some ⟨q_p0, 0, none⟩)] #[]), (3, .func (.func 85) #[] #[]), (8, .pointer (some ⟨b1, 0, none⟩)), (9, v8)] a ∧ Stw ⟨Y, X, w0⟩ [(q_p0, [v9, .int .i64 s.2.2]), (b1, (BM))] [row v8 28 BD s.1, row v9 98 AC s.2.1] w) ⟨(v5), (v4), W.re ⟨rfl, Aa, Aa, Aa, Aa, Aa, trivial⟩, F⟩ fun s o a w H L2 hR => ?_
   obtain ⟨x7, x8, x9⟩ := s
   obtain ⟨v8, v9, W, F⟩ := hR
   have W : Fr 30 [] [(0, .pointer (some ⟨q_p0, 0, none⟩)), (1, .string (bs p1)), (2, .func (.func 84) #[.pointer (some ⟨q_p0, 0, none⟩)] #[]), (3, .func (.func 85) #[] #[]), (8, .pointer (some ⟨b1, 0, none⟩)), (9, v8)] a := W
   have F : Stw ⟨Y, X, w0⟩ [(q_p0, [v9, .int .i64 x9]), (b1, (BM))] [row v8 28 BD x7, row v9 98 AC x8] w := F
   rw [A8] at H
   refine Ak (Ak (Ab ?_))
   iterate 2 refine ls W F Aa (Ah W Aa).q fun a w W F => ?_
   obtain ⟨x10, h2, H⟩ := Aq H
   have F := F.frontZ (i := 1) Aa Aa
   refine A2 (Ml := [(q_p0, [v9, .int .i64 x9])]) (Zl := [row v9 98 AC x8]) (M := (Dh b1)) (Z := [row v8 28 BD x7]) (β := Value) (rv := fun x => .bool x10.1) (MM := fun x => [(q_p0, [x, .int .i64 x10.2.2])]) (ZZ := fun x => [row x 98 AC x10.2.1]) W F QR Aa Aa (fun hL => A9 _ _ w q_p0 (v9) (x8, x9) p1 _ h2 hL) fun x a w W F => ?_
   obtain ⟨v10, rfl⟩ : ∃ y, y = x := ⟨x, rfl⟩
   have F : Stw ⟨Y, X, w0⟩ [(q_p0, [v10, .int .i64 x10.2.2]), (b1, (BM))] [row v10 98 AC x10.2.1, row v8 28 BD x7] w := F
   refine Ae (Ac ?_)
   refine Az W Aa (fun hb => ?_) fun hb => ?_
   ·
    have H := AW hb H
    rw [hb] at W
    clear hb
    refine AA (Ac (AP (Ab ?_)))
    iterate 2 refine ls W F Aa (Ah W Aa).q fun a w W F => ?_
    obtain ⟨x11, h3, H⟩ := Aq H
    rcases x11 with x12 | x13
    ·
     have H := EZ H
     refine EK (ws := [.pointer (some ⟨q_p0, 0, none⟩)]) (Ml := [(q_p0, [v10, .int .i64 x10.2.2])]) (Zl := [row v10 98 AC x10.2.1]) (M := (Dh b1)) (Z := [row v8 28 BD x7]) (β := Value × Value × Value) (rv := fun x => .agg #[.int .i64 x12.1.un.1, .int .i64 x12.1.un.2.1.un.1, .int .i64 x12.1.un.2.1.un.2.1, .int .i64 x12.1.un.2.1.un.2.2.1, x.1, .int .i64 x12.1.un.2.2.1, .int .i64 x12.1.un.2.2.2.1, x.2.1]) (MM := fun x => [(q_p0, [x.2.2, .int .i64 x12.2.2])]) (ZZ := fun x => [row x.2.2 98 AC x12.2.1, AU x.1 AR x12.1.un.2.1.un.2.2.2, AU x.2.1 BD x12.1.un.2.2.2.2]) W F Tm Aa Aa (fun hL => (D2 fRec_parse_parser_policy ih_parse_parser_policy) _ _ w q_p0 (v10) x10.2 _ h3 hL) fun x a w W F => ?_
     obtain ⟨v11, v12, v13⟩ := x
     have F : Stw ⟨Y, X, w0⟩ [(q_p0, [v13, .int .i64 x12.2.2]), (b1, (BM))] [row v13 98 AC x12.2.1, AU v11 AR x12.1.un.2.1.un.2.2.2, AU v12 BD x12.1.un.2.2.2.2, row v8 28 BD x7] w := F
     refine FN (z := Value.agg #[.int .i64 0, .int .i64 0, .int .i64 0, .int .i64 0, .slice none 0 0, .int .i64 0, .int .i64 0, .slice none 0 0]) (cs := (DK x12 v11 v12)) BD ([Tr28.of (x12.1.un.1, Tr25.of (x12.1.un.2.1.un.1, x12.1.un.2.1.un.2.1, x12.1.un.2.1.un.2.2.1, x12.1.un.2.1.un.2.2.2), x12.1.un.2.2.1, x12.1.un.2.2.2.1, x12.1.un.2.2.2.2)] : List Tr28) W F Aa Re Lh Aa Aa Aa (AX Aa Aa Aa B2) Aa Aa ⟨[Value.int .i64 x12.1.un.1, Value.int .i64 x12.1.un.2.1.un.1, Value.int .i64 x12.1.un.2.1.un.2.1, Value.int .i64 x12.1.un.2.1.un.2.2.1, v11, Value.int .i64 x12.1.un.2.2.1, Value.int .i64 x12.1.un.2.2.2.1, v12], _, Aa, (PQ.2 ⟨[Value.int .i64 x12.1.un.1], [Value.int .i64 x12.1.un.2.1.un.1, Value.int .i64 x12.1.un.2.1.un.2.1, Value.int .i64 x12.1.un.2.1.un.2.2.1, v11, Value.int .i64 x12.1.un.2.2.1, Value.int .i64 x12.1.un.2.2.2.1, v12], Aa, Aa, ⟨[Value.int .i64 x12.1.un.2.1.un.1, Value.int .i64 x12.1.un.2.1.un.2.1, Value.int .i64 x12.1.un.2.1.un.2.2.1, v11], [Value.int .i64 x12.1.un.2.2.1, Value.int .i64 x12.1.un.2.2.2.1, v12], Aa, (KO.2 ⟨[Value.int .i64 x12.1.un.2.1.un.1], [Value.int .i64 x12.1.un.2.1.un.2.1, Value.int .i64 x12.1.un.2.1.un.2.2.1, v11], Aa, Aa, ⟨[Value.int .i64 x12.1.un.2.1.un.2.1], [Value.int .i64 x12.1.un.2.1.un.2.2.1, v11], Aa, Aa, ⟨[Value.int .i64 x12.1.un.2.1.un.2.2.1], [v11], Aa, Aa, ⟨_, Aa, (F.item (i := 1) Aa)⟩⟩⟩⟩), ⟨[Value.int .i64 x12.1.un.2.2.1], [Value.int .i64 x12.1.un.2.2.2.1, v12], Aa, Aa, ⟨[Value.int .i64 x12.1.un.2.2.2.1], [v12], Aa, Aa, ⟨_, Aa, (F.item (i := 2) Aa)⟩⟩⟩⟩⟩), Aa⟩ fun v14 a w W F => ?_
     obtain ⟨x14, h4, H⟩ := Aq H
     refine EP (r := BD) (i := 4) W F Aa Re Aa Aa Aa Aa (Fv F 0 Aa) h4 Aa fun v15 a w W F => ?_
     have F : Stw ⟨Y, X, w0⟩ [(q_p0, [v13, .int .i64 x12.2.2]), (b1, (BM))] [row v15 28 BD x14, row v14 28 BD ([Tr28.of (x12.1.un.1, Tr25.of (x12.1.un.2.1.un.1, x12.1.un.2.1.un.2.1, x12.1.un.2.1.un.2.2.1, x12.1.un.2.1.un.2.2.2), x12.1.un.2.2.1, x12.1.un.2.2.2.1, x12.1.un.2.2.2.2)] : List Tr28), row v13 98 AC x12.2.1, AU v11 AR x12.1.un.2.1.un.2.2.2, AU v12 BD x12.1.un.2.2.2.2] w := F
     refine ls W F Aa (Ag W Aa).q fun a w W F => ?_
     refine Ae (Bn (Ac ?_))
     have F := F.frontZ (i := 2) Aa Aa
     have F := F.frontZ (i := 1) Aa Aa
     have F := F.frontM (i := 1) Aa Aa
     have F := F.frontM (i := 1) Aa Aa
     have F := F.sub (M' := [(q_p0, [v13, .int .i64 x12.2.2]), (b1, (BM))]) (Z' := [row v15 28 BD x14, row v13 98 AC x12.2.1]) (List.Sublist.refl _) (List.Sublist.cons_cons _ (List.Sublist.cons_cons _ (List.nil_sublist _)))
     exact ⟨_, H, (v15), (v13), W.re ⟨rfl, Aa, Aa, Aa, Aa, Aa, trivial⟩, F⟩
    have H := EY H
    refine Gj (ws := [.pointer (some ⟨q_p0, 0, none⟩)]) (Ml := [(q_p0, [v10, .int .i64 x10.2.2])]) (Zl := [row v10 98 AC x10.2.1]) (M := (Dh b1)) (Z := [row v8 28 BD x7]) (β := Value) (pv := fun x => .iface 89 (.agg #[.int .i64 x13.1.1, .int .i64 x13.1.2])) (MM := fun x => [(q_p0, [x, .int .i64 x13.2.2])]) (ZZ := fun x => [row x 98 AC x13.2.1]) W F Tm Aa (fun hL => (D2 fRec_parse_parser_policy ih_parse_parser_policy) _ _ w q_p0 (v10) x10.2 _ h3 hL) fun x w F => ?_
    obtain ⟨v16, rfl⟩ : ∃ y, y = x := ⟨x, rfl⟩
    have F : Stw ⟨Y, X, w0⟩ [(q_p0, [v16, .int .i64 x13.2.2]), (b1, (BM))] [row v16 98 AC x13.2.1, row v8 28 BD x7] w := F
    refine EB (BF (EB (BF ?_)))
    have H := L2 _ H
    have H := L1 _ H
    have H := AK H
    subst H
    refine A7 W ?_
    have F := F.sub (M' := [(q_p0, [v16, .int .i64 x13.2.2])]) (Z' := [row v16 98 AC x13.2.1]) (List.Sublist.cons_cons _ (List.nil_sublist _)) (List.Sublist.cons_cons _ (List.nil_sublist _))
    exact ⟨(v16), Aa, F⟩
   have H := AY (by rw [hb]; decide) H
   rw [hb] at W
   clear hb
   refine Cz ?_
   iterate 2 refine C8 ?_
   refine Cy (Ac ?_)
   have F := F.frontZ (i := 1) Aa Aa
   have F := F.frontM (i := 1) Aa Aa
   have F := F.frontM (i := 1) Aa Aa
   have H := L2 _ H
   exact ⟨_, _, _, (v8), (v10), H, W.re ⟨rfl, Aa, Aa, trivial⟩, F⟩
  rintro a w ⟨x4, x5, x6, v6, v7, hj, W, F⟩
  have H := K1 _ hj
  clear hj G1 K1 L1
  refine Ak (Ak (Ab ?_))
  refine ls W F Aa (Ah W Aa).q fun a w W F => ?_
  refine ls W F Aa (D7 (r := BD) (l := x4) Rz Aa W Aa (BP 0 Aa)).q fun a w W F => ?_
  refine ls W F Aa (Bd W Aa Aa).q fun a w W F => ?_
  refine Ae (Ac ?_)
  refine Az W Aa (fun hb => ?_) fun hb => ?_
  ·
   have H := AW (Bw hb) H
   rw [hb] at W
   clear hb
   refine Ak ?_
   obtain ⟨v17, h5, F⟩ := F.exR Js
   refine Ab ?_
   refine ls W F Aa (Ah W Aa).q fun a w W F => ?_
   obtain ⟨x15, h6, H⟩ := Aq H
   obtain ⟨v18, h7, h8⟩ := D5 h5 h6
   have h9 : Ow v18 = [.int .i64 x15.un.1, .int .i64 x15.un.2.1.un.1, .int .i64 x15.un.2.1.un.2.1, .int .i64 x15.un.2.1.un.2.2.1, (v18.2.1.2.2.2.1), .int .i64 x15.un.2.2.1, .int .i64 x15.un.2.2.2.1, (v18.2.2.2.2.1)] := congrArg (fun q : Tr28 => ([.int .i64 q.un.1, .int .i64 q.un.2.1.un.1, .int .i64 q.un.2.1.un.2.1, .int .i64 q.un.2.1.un.2.2.1, (v18.2.1.2.2.2.1), .int .i64 q.un.2.2.1, .int .i64 q.un.2.2.2.1, (v18.2.2.2.2.1)] : List Value)) h8
   refine ls W F Aa (Cg (r := PB) Re W Aa Aa (BP 0 Aa) h7).q fun a w W F => ?_
   refine ls W F Aa (BC (y := Value.agg #[.int .i64 x15.un.1, .int .i64 x15.un.2.1.un.1, .int .i64 x15.un.2.1.un.2.1, .int .i64 x15.un.2.1.un.2.2.1, (v18.2.1.2.2.2.1), .int .i64 x15.un.2.2.1, .int .i64 x15.un.2.2.2.1, (v18.2.2.2.2.1)]) (j := 0) (i := 0) (enc := Ow) W Aa Aa (BP 0 Aa) h7 SS FJ (by rw [h9]; rfl)).q fun a w W F => ?_
   have F := F.note (F.rowAt (k := 0) Aa h7 (AE.snd (AE.fst (AE.snd (AE.snd (AE.snd AE.here))))) (congrArg (fun q : Tr28 => q.un.2.1.un.2.2.2) h8))
   have F := F.note (F.rowAt (k := 1) Aa h7 (AE.snd (AE.snd (AE.snd (AE.snd AE.here)))) (congrArg (fun q : Tr28 => q.un.2.2.2.2) h8))
   refine AL (vs := [.int .i64 x15.un.1, .int .i64 x15.un.2.1.un.1, .int .i64 x15.un.2.1.un.2.1, .int .i64 x15.un.2.1.un.2.2.1, (v18.2.1.2.2.2.1), .int .i64 x15.un.2.2.1, .int .i64 x15.un.2.2.2.1, (v18.2.2.2.2.1)]) (M' := [(q_p0, [v7, .int .i64 x6]), (b1, [.int .i64 x15.un.1, .int .i64 x15.un.2.1.un.1, .int .i64 x15.un.2.1.un.2.1, .int .i64 x15.un.2.1.un.2.2.1, (v18.2.1.2.2.2.1), .int .i64 x15.un.2.2.1, .int .i64 x15.un.2.2.2.1, (v18.2.2.2.2.1)])]) 1 W F Aa Aa Aa FJ Aa Aa Aa (Ai Aa (Ai Aa (Ai Aa (Ai Aa (Ai (F.oneF (k := 1) Aa) (Ai Aa (Ai Aa (Ai (F.oneF (k := 0) Aa) Bp)))))))) Aa fun w F => ?_
   refine Ae (Ac (Ax (AO ?_)))
   have H := AK H
   subst H
   refine AG (.inl Aa) W F Aa (A3 1 W Aa Aa FJ Aa) ?_
   have F := F.frontZ (i := 1) Aa Aa
   have F := F.frontZ (i := 3) Aa Aa
   have F := F.sub (M' := [(q_p0, [v7, .int .i64 x6])]) (Z' := [row v7 98 AC x5, AU (v18.2.1.2.2.2.1) AR x15.un.2.1.un.2.2.2, AU (v18.2.2.2.2.1) BD x15.un.2.2.2.2]) (List.Sublist.cons_cons _ (List.nil_sublist _)) (List.Sublist.cons_cons _ (List.Sublist.cons_cons _ (List.Sublist.cons_cons _ (List.nil_sublist _))))
   exact ⟨(((v18.2.1.2.2.2.1)), ((v18.2.2.2.2.1)), (v7)), Aa, F⟩
  have H := AY (Bx hb) H
  rw [hb] at W
  clear hb
  refine AA (Ac (Ak (Ab ?_)))
  iterate 2 refine ls W F Aa (Ah W Aa).q fun a w W F => ?_
  have F := F.freeze
  refine EK (ws := [v6]) (Ml := []) (Zl := []) (M := [(q_p0, [v7, .int .i64 x6]), (b1, (BM))]) (Z := [AU v6 BD x4, row v7 98 AC x5]) (β := Value × Value) (rv := fun x => .agg #[.int .i64 ((Be x4).un.1), .int .i64 ((Be x4).un.2.1.un.1), .int .i64 ((Be x4).un.2.1.un.2.1), .int .i64 ((Be x4).un.2.1.un.2.2.1), x.1, .int .i64 ((Be x4).un.2.2.1), .int .i64 ((Be x4).un.2.2.2.1), x.2]) (MM := fun x => []) (ZZ := fun x => [row x.1 25 AR ((Be x4).un.2.1.un.2.2.2), AU x.2 BD ((Be x4).un.2.2.2.2)]) W F We Aa Aa (fun hL => Pc _ w (v6) x4 _ Aa (F.item (i := 0) Aa)) fun x a w W F => ?_
  obtain ⟨v19, v20⟩ := x
  have F : Stw ⟨Y, X, w0⟩ [(q_p0, [v7, .int .i64 x6]), (b1, (BM))] [row v19 25 AR ((Be x4).un.2.1.un.2.2.2), AU v20 BD ((Be x4).un.2.2.2.2), AU v6 BD x4, row v7 98 AC x5] w := F
  refine AL (vs := (Tz x4 v19 v20)) (M' := [(q_p0, [v7, .int .i64 x6]), (b1, (Tz x4 v19 v20))]) 1 W F Aa Aa Aa FJ Aa Aa Aa (Ai Aa (Ai Aa (Ai Aa (Ai Aa (Ai (F.one (k := 0) Aa) (Ai Aa (Ai Aa (Ai (F.oneF (k := 1) Aa) Bp)))))))) Aa fun w F => ?_
  refine Ae (Ac (Ax ?_))
  have H := AK H
  subst H
  refine AG (.inl Aa) W F Aa (A3 1 W Aa Aa FJ Aa) ?_
  have F := F.freeze
  have F := F.frontZ (i := 1) Aa Aa
  have F := F.frontZ (i := 1) Aa Aa
  have F := F.frontZ (i := 3) Aa Aa
  have F := F.sub (M' := [(q_p0, [v7, .int .i64 x6])]) (Z' := [row v7 98 AC x5, AU v19 AR ((Be x4).un.2.1.un.2.2.2), AU v20 BD ((Be x4).un.2.2.2.2)]) (List.Sublist.cons_cons _ (List.nil_sublist _)) (List.Sublist.cons_cons _ (List.Sublist.cons_cons _ (List.Sublist.cons_cons _ (List.nil_sublist _))))
  exact ⟨((v19), (v20), (v7)), Aa, F⟩
 have H := EY H
 have F := F.frontM (i := 1) Aa Aa
 refine Gj (ws := [.pointer (some ⟨q_p0, 0, none⟩)]) (Ml := [(q_p0, [v1, .int .i64 p0.2])]) (Zl := [row v1 98 AC p0.1]) (M := (Dh b1)) (Z := []) (β := Value) (pv := fun x => .iface 89 (.agg #[.int .i64 x3.1.1, .int .i64 x3.1.2])) (MM := fun x => [(q_p0, [x, .int .i64 x3.2.2])]) (ZZ := fun x => [row x 98 AC x3.2.1]) W F Tm Aa (fun hL => (D2 fRec_parse_parser_policy ih_parse_parser_policy) _ _ w q_p0 (v1) p0 _ h1 hL) fun x w F => ?_
 obtain ⟨v21, rfl⟩ : ∃ y, y = x := ⟨x, rfl⟩
 have F : Stw ⟨Y, X, w0⟩ [(q_p0, [v21, .int .i64 x3.2.2]), (b1, (BM))] [row v21 98 AC x3.2.1] w := F
 refine BF ?_
 have H := AK H
 subst H
 refine A7 W ?_
 have F := F.sub (M' := [(q_p0, [v21, .int .i64 x3.2.2])]) (Z' := [row v21 98 AC x3.2.1]) (List.Sublist.cons_cons _ (List.nil_sublist _)) (List.Sublist.refl _)
 exact ⟨(v21), Aa, F⟩
theorem UV : Has Tryd.prog 56 := ⟨fun args w => An Tryd.func56 rfl (by decide) args w⟩
noncomputable def Ba (fRec_parse_parser_policy : ((List (Int × Int × List UInt8 × Int)) × Int) → Option ((Tr28 × ((List (Int × Int × List UInt8 × Int)) × Int)) ⊕ ((Int × Int) × ((List (Int × Int × List UInt8 × Int)) × Int)))) (p0 : (List (Int × Int × List UInt8 × Int)) × Int) : Option ((Tr28 × ((List (Int × Int × List UInt8 × Int)) × Int)) ⊕ ((Int × Int) × ((List (Int × Int × List UInt8 × Int)) × Int))) := ((Bv fRec_parse_parser_policy) p0 ([59] : List UInt8)).bind fun x1 => B4 x1 (fun x2 => some (.inl (Tr28.of (x2.1.un.1, Tr25.of (x2.1.un.2.1.un.1, x2.1.un.2.1.un.2.1, x2.1.un.2.1.un.2.2.1, x2.1.un.2.1.un.2.2.2), x2.1.un.2.2.1, x2.1.un.2.2.2.1, x2.1.un.2.2.2.2), x2.2))) (fun x3 => some (.inr (x3.1, x3.2)))
theorem Db (fRec_parse_parser_policy : ((List (Int × Int × List UInt8 × Int)) × Int) → Option ((Tr28 × ((List (Int × Int × List UInt8 × Int)) × Int)) ⊕ ((Int × Int) × ((List (Int × Int × List UInt8 × Int)) × Int)))) (ih_parse_parser_policy : ∀ (Y : Nat → Prop) (X : List Nat) (w0 : World) (q_p0 : Nat) (v1 : Value) (p0 : (List (Int × Int × List UInt8 × Int)) × Int) (r : (Tr28 × ((List (Int × Int × List UInt8 × Int)) × Int)) ⊕ ((Int × Int) × ((List (Int × Int × List UInt8 × Int)) × Int))) (H : fRec_parse_parser_policy p0 = some r) (hL : Stw ⟨Y, X, w0⟩ [(q_p0, [v1, .int .i64 p0.2])] [row v1 98 AC p0.1] w0), Calls Tryd.prog 28 #[.pointer (some ⟨q_p0, 0, none⟩)] w0 fun e w' => D9 r (fun r => ∃ x : Value × Value × Value, e = .returned (.agg #[.int .i64 r.1.un.1, .int .i64 r.1.un.2.1.un.1, .int .i64 r.1.un.2.1.un.2.1, .int .i64 r.1.un.2.1.un.2.2.1, x.1, .int .i64 r.1.un.2.2.1, .int .i64 r.1.un.2.2.2.1, x.2.1]) ∧ Stw ⟨Y, X, w0⟩ [(q_p0, [x.2.2, .int .i64 r.2.2])] [row (x.2.2) 98 AC r.2.1, AU (x.1) AR r.1.un.2.1.un.2.2.2, AU (x.2.1) BD r.1.un.2.2.2.2] w') (fun r => ∃ x : Value, e = .panicked [{ v := .iface 89 (.agg #[.int .i64 r.1.1, .int .i64 r.1.2]), recovered := false }] ∧ Stw ⟨Y, X, w0⟩ [(q_p0, [x, .int .i64 r.2.2])] [row (x) 98 AC r.2.1] w')) (Y : Nat → Prop) (X : List Nat) (w0 : World) (q_p0 : Nat) (v1 : Value) (p0 : (List (Int × Int × List UInt8 × Int)) × Int) (r : (Tr28 × ((List (Int × Int × List UInt8 × Int)) × Int)) ⊕ ((Int × Int) × ((List (Int × Int × List UInt8 × Int)) × Int))) (H : Ba fRec_parse_parser_policy p0 = some r) (hL : Stw ⟨Y, X, w0⟩ [(q_p0, [v1, .int .i64 p0.2])] [row v1 98 AC p0.1] w0) :
    Calls Tryd.prog 57 #[.pointer (some ⟨q_p0, 0, none⟩)] w0 fun e w' => D9 r (fun r => ∃ x : Value × Value × Value, e = .returned (.agg #[.int .i64 r.1.un.1, .int .i64 r.1.un.2.1.un.1, .int .i64 r.1.un.2.1.un.2.1, .int .i64 r.1.un.2.1.un.2.2.1, x.1, .int .i64 r.1.un.2.2.1, .int .i64 r.1.un.2.2.2.1, x.2.1]) ∧ Stw ⟨Y, X, w0⟩ [(q_p0, [x.2.2, .int .i64 r.2.2])] [row (x.2.2) 98 AC r.2.1, AU (x.1) AR r.1.un.2.1.un.2.2.2, AU (x.2.1) BD r.1.un.2.2.2.2] w') (fun r => ∃ x : Value, e = .panicked [{ v := .iface 89 (.agg #[.int .i64 r.1.1, .int .i64 r.1.2]), recovered := false }] ∧ Stw ⟨Y, X, w0⟩ [(q_p0, [x, .int .i64 r.2.2])] [row (x) 98 AC r.2.1] w') := by
 refine enter Tryd.func57 Aa Tryd.ntmps57 Aa fun a W => ?_
 have F := hL
 unfold Ba at H
 refine Ak (Ab ?_)
 refine Bi (cs := (BM)) W F Aa Lh Aa fun b1 a w W F => ?_
 refine Ae (Ac (Ak (Ab ?_)))
 iterate 2 refine ls W F Aa (Ah W Aa).q fun a w W F => ?_
 refine ls W F Aa (F8 (us := [.pointer (some ⟨q_p0, 0, none⟩)]) (vs := []) W Aa Aa).q fun a w W F => ?_
 obtain ⟨x1, h1, H⟩ := Aq H
 rcases x1 with x2 | x3
 ·
  have H := EZ H
  have F := F.frontM (i := 1) Aa Aa
  refine A2 (Ml := [(q_p0, [v1, .int .i64 p0.2])]) (Zl := [row v1 98 AC p0.1]) (M := (Dh b1)) (Z := []) (β := Value × Value × Value) (rv := fun x => .agg #[.int .i64 x2.1.un.1, .int .i64 x2.1.un.2.1.un.1, .int .i64 x2.1.un.2.1.un.2.1, .int .i64 x2.1.un.2.1.un.2.2.1, x.1, .int .i64 x2.1.un.2.2.1, .int .i64 x2.1.un.2.2.2.1, x.2.1]) (MM := fun x => [(q_p0, [x.2.2, .int .i64 x2.2.2])]) (ZZ := fun x => [row x.2.2 98 AC x2.2.1, AU x.1 AR x2.1.un.2.1.un.2.2.2, AU x.2.1 BD x2.1.un.2.2.2.2]) W F UV Aa Aa (fun hL => (Fb fRec_parse_parser_policy ih_parse_parser_policy) _ _ w q_p0 (v1) p0 ([59] : List UInt8) _ h1 hL) fun x a w W F => ?_
  obtain ⟨v2, v3, v4⟩ := x
  have F : Stw ⟨Y, X, w0⟩ [(q_p0, [v4, .int .i64 x2.2.2]), (b1, (BM))] [row v4 98 AC x2.2.1, AU v2 AR x2.1.un.2.1.un.2.2.2, AU v3 BD x2.1.un.2.2.2.2] w := F
  refine AL (vs := (DK x2 v2 v3)) (M' := [(q_p0, [v4, .int .i64 x2.2.2]), (b1, (DK x2 v2 v3))]) 1 W F Aa Aa Aa FJ Aa Aa Aa (Ai Aa (Ai Aa (Ai Aa (Ai Aa (Ai (F.oneF (k := 1) Aa) (Ai Aa (Ai Aa (Ai (F.oneF (k := 2) Aa) Bp)))))))) Aa fun w F => ?_
  refine Ae (Ac (Ax ?_))
  have H := AK H
  subst H
  refine AG (.inl Aa) W F Aa (A3 1 W Aa Aa FJ Aa) ?_
  have F := F.frontZ (i := 2) Aa Aa
  have F := F.frontZ (i := 2) Aa Aa
  have F := F.frontZ (i := 2) Aa Aa
  have F := F.sub (M' := [(q_p0, [v4, .int .i64 x2.2.2])]) (Z' := [row v4 98 AC x2.2.1, AU v2 AR x2.1.un.2.1.un.2.2.2, AU v3 BD x2.1.un.2.2.2.2]) (List.Sublist.cons_cons _ (List.nil_sublist _)) (List.Sublist.refl _)
  exact ⟨((v2), (v3), (v4)), Aa, F⟩
 have H := EY H
 have F := F.frontM (i := 1) Aa Aa
 refine B0 (Ml := [(q_p0, [v1, .int .i64 p0.2])]) (Zl := [row v1 98 AC p0.1]) (M := (Dh b1)) (Z := []) (β := Value) (pv := fun x => .iface 89 (.agg #[.int .i64 x3.1.1, .int .i64 x3.1.2])) (MM := fun x => [(q_p0, [x, .int .i64 x3.2.2])]) (ZZ := fun x => [row x 98 AC x3.2.1]) W F UV Aa (fun hL => (Fb fRec_parse_parser_policy ih_parse_parser_policy) _ _ w q_p0 (v1) p0 ([59] : List UInt8) _ h1 hL) fun x w F => ?_
 obtain ⟨v5, rfl⟩ : ∃ y, y = x := ⟨x, rfl⟩
 have F : Stw ⟨Y, X, w0⟩ [(q_p0, [v5, .int .i64 x3.2.2]), (b1, (BM))] [row v5 98 AC x3.2.1] w := F
 refine BF ?_
 have H := AK H
 subst H
 refine A7 W ?_
 have F := F.sub (M' := [(q_p0, [v5, .int .i64 x3.2.2])]) (Z' := [row v5 98 AC x3.2.1]) (List.Sublist.cons_cons _ (List.nil_sublist _)) (List.Sublist.refl _)
 exact ⟨(v5), Aa, F⟩
theorem US : Has Tryd.prog 57 := ⟨fun args w => An Tryd.func57 rfl (by decide) args w⟩
abbrev Uu (a0 : Value) : List Value := [.int .i64 4, .int .i64 0, .int .i64 0, .int .i64 0, .slice none 0 0, .int .i64 0, .int .i64 0, a0]
def AZ (p0 : List Tr28) : Tr28 := Tr28.of (4, Tr25.of (0, 0, 0, ([] : List Tr25)), 0, 0, p0)
theorem MW (Y : Nat → Prop) (w0 : World) (v1 : Value) (p0 : List Tr28) (r : Tr28) (H : AZ p0 = r) (s_v1 : Sl w0 Y BD v1 p0) :
    Calls Tryd.prog 58 #[v1] w0 fun e w' => ∃ x : Value × Value, e = .returned (.agg #[.int .i64 r.un.1, .int .i64 r.un.2.1.un.1, .int .i64 r.un.2.1.un.2.1, .int .i64 r.un.2.1.un.2.2.1, x.1, .int .i64 r.un.2.2.1, .int .i64 r.un.2.2.2.1, x.2]) ∧ Stw ⟨Y, [], w0⟩ [] [row (x.1) 25 AR r.un.2.1.un.2.2.2, AU (x.2) BD r.un.2.2.2.2] w' := by
 refine enter Tryd.func58 Aa Tryd.ntmps58 Aa fun a W => ?_
 have F := Stw.start Y w0
 obtain ⟨v2, h1, s_v1⟩ := s_v1.ex Js
 have h_v1 := F.nx s_v1
 unfold AZ at H
 refine Ak (Ab ?_)
 refine Bi (cs := (BM)) W F Aa Lh Aa fun b1 a w W F => ?_
 refine Ae (Ac (Ak (Ab ?_)))
 refine ls W F Aa (Ah W Aa).q fun a w W F => ?_
 refine ls W F Aa (B7 (v := Value.agg #[.int .i64 4, .int .i64 0, .int .i64 0, .int .i64 0, .slice none 0 0, .int .i64 0, .int .i64 0, v1]) TR W Aa (AX Aa Aa Aa (AX Aa (FH h_v1.one) Aa B2)) Aa).q fun a w W F => ?_
 refine AL (vs := (Uu v1)) (M' := [(b1, [.int .i64 4, .int .i64 0, .int .i64 0, .int .i64 0, .slice none 0 0, .int .i64 0, .int .i64 0, v1])]) 0 W F Aa Aa Aa FJ Aa Aa Aa (Ai Aa (Ai Aa (Ai Aa (Ai Aa (Ai Aa (Ai Aa (Ai Aa (Ai h_v1.one Bp)))))))) Aa fun w F => ?_
 refine Ae (Ac (Ax ?_))
 subst H
 refine AG (.inl Aa) W F Aa (A3 0 W Aa Aa FJ Aa) ?_
 have F := F.nilRow 25 AR
 have F := F.note (Sl.hide Js h1 (F.old s_v1))
 have F := F.frontZ (i := 1) Aa Aa
 have F := F.sub (M' := []) (Z' := [row (Value.slice none 0 0) 25 AR ([]), AU v1 BD p0]) (List.nil_sublist _) (List.Sublist.refl _)
 exact ⟨((Value.slice none 0 0), (v1)), Aa, F⟩
theorem V6 : Has Tryd.prog 58 := ⟨fun args w => An Tryd.func58 rfl (by decide) args w⟩
abbrev Tk (a0 : List Tr28) (a1 : Value) (a2 : Value) : List Value := [.int .i64 ((AZ a0).un.1), .int .i64 ((AZ a0).un.2.1.un.1), .int .i64 ((AZ a0).un.2.1.un.2.1), .int .i64 ((AZ a0).un.2.1.un.2.2.1), a1, .int .i64 ((AZ a0).un.2.2.1), .int .i64 ((AZ a0).un.2.2.2.1), a2]
noncomputable def A5 (fRec_parse_parser_policy : ((List (Int × Int × List UInt8 × Int)) × Int) → Option ((Tr28 × ((List (Int × Int × List UInt8 × Int)) × Int)) ⊕ ((Int × Int) × ((List (Int × Int × List UInt8 × Int)) × Int)))) (p1 : List UInt8) : (List Tr28 × (List (Int × Int × List UInt8 × Int)) × Int) → Option ((List Tr28 × (List (Int × Int × List UInt8 × Int)) × Int) ⊕ ((List Tr28 × (List (Int × Int × List UInt8 × Int)) × Int) ⊕ ((Tr28 × ((List (Int × Int × List UInt8 × Int)) × Int)) ⊕ ((Int × Int) × ((List (Int × Int × List UInt8 × Int)) × Int)))))
  | (x7, x8, x9) => (AF (x8, x9) p1).bind fun x10 => (if x10.1 = true then ((Ba fRec_parse_parser_policy) x10.2).bind fun x11 => B4 x11 (fun x12 => (DQ x7 ([Tr28.of (x12.1.un.1, Tr25.of (x12.1.un.2.1.un.1, x12.1.un.2.1.un.2.1, x12.1.un.2.1.un.2.2.1, x12.1.un.2.1.un.2.2.2), x12.1.un.2.2.1, x12.1.un.2.2.2.1, x12.1.un.2.2.2.2)] : List Tr28)).bind fun x14 => some (.inl (x14, x12.2.1, x12.2.2))) (fun x13 => some (.inr (.inr (.inr (x13.1, x13.2))))) else some (.inr (.inl (x7, x10.2.1, x10.2.2))))
noncomputable def Bj (fRec_parse_parser_policy : ((List (Int × Int × List UInt8 × Int)) × Int) → Option ((Tr28 × ((List (Int × Int × List UInt8 × Int)) × Int)) ⊕ ((Int × Int) × ((List (Int × Int × List UInt8 × Int)) × Int)))) (p0 : (List (Int × Int × List UInt8 × Int)) × Int) (p1 : List UInt8) : Option ((Tr28 × ((List (Int × Int × List UInt8 × Int)) × Int)) ⊕ ((Int × Int) × ((List (Int × Int × List UInt8 × Int)) × Int))) := ((Ba fRec_parse_parser_policy) p0).bind fun x1 => B4 x1 (fun x2 => KC (Br (A5 fRec_parse_parser_policy p1) (([Tr28.of (x2.1.un.1, Tr25.of (x2.1.un.2.1.un.1, x2.1.un.2.1.un.2.1, x2.1.un.2.1.un.2.2.1, x2.1.un.2.1.un.2.2.2), x2.1.un.2.2.1, x2.1.un.2.2.2.1, x2.1.un.2.2.2.2)] : List Tr28), x2.2.1, x2.2.2)) fun (x4, x5, x6) => (if (x4.length : Int) = 1 then (ix x4 0).bind fun x15 => some (.inl (Tr28.of (x15.un.1, Tr25.of (x15.un.2.1.un.1, x15.un.2.1.un.2.1, x15.un.2.1.un.2.2.1, x15.un.2.1.un.2.2.2), x15.un.2.2.1, x15.un.2.2.2.1, x15.un.2.2.2.2), (x5, x6))) else some (.inl (Tr28.of ((AZ x4).un.1, Tr25.of ((AZ x4).un.2.1.un.1, (AZ x4).un.2.1.un.2.1, (AZ x4).un.2.1.un.2.2.1, (AZ x4).un.2.1.un.2.2.2), (AZ x4).un.2.2.1, (AZ x4).un.2.2.2.1, (AZ x4).un.2.2.2.2), (x5, x6))))) (fun x3 => some (.inr (x3.1, x3.2)))
theorem FE (fRec_parse_parser_policy : ((List (Int × Int × List UInt8 × Int)) × Int) → Option ((Tr28 × ((List (Int × Int × List UInt8 × Int)) × Int)) ⊕ ((Int × Int) × ((List (Int × Int × List UInt8 × Int)) × Int)))) (ih_parse_parser_policy : ∀ (Y : Nat → Prop) (X : List Nat) (w0 : World) (q_p0 : Nat) (v1 : Value) (p0 : (List (Int × Int × List UInt8 × Int)) × Int) (r : (Tr28 × ((List (Int × Int × List UInt8 × Int)) × Int)) ⊕ ((Int × Int) × ((List (Int × Int × List UInt8 × Int)) × Int))) (H : fRec_parse_parser_policy p0 = some r) (hL : Stw ⟨Y, X, w0⟩ [(q_p0, [v1, .int .i64 p0.2])] [row v1 98 AC p0.1] w0), Calls Tryd.prog 28 #[.pointer (some ⟨q_p0, 0, none⟩)] w0 fun e w' => D9 r (fun r => ∃ x : Value × Value × Value, e = .returned (.agg #[.int .i64 r.1.un.1, .int .i64 r.1.un.2.1.un.1, .int .i64 r.1.un.2.1.un.2.1, .int .i64 r.1.un.2.1.un.2.2.1, x.1, .int .i64 r.1.un.2.2.1, .int .i64 r.1.un.2.2.2.1, x.2.1]) ∧ Stw ⟨Y, X, w0⟩ [(q_p0, [x.2.2, .int .i64 r.2.2])] [row (x.2.2) 98 AC r.2.1, AU (x.1) AR r.1.un.2.1.un.2.2.2, AU (x.2.1) BD r.1.un.2.2.2.2] w') (fun r => ∃ x : Value, e = .panicked [{ v := .iface 89 (.agg #[.int .i64 r.1.1, .int .i64 r.1.2]), recovered := false }] ∧ Stw ⟨Y, X, w0⟩ [(q_p0, [x, .int .i64 r.2.2])] [row (x) 98 AC r.2.1] w')) (Y : Nat → Prop) (X : List Nat) (w0 : World) (q_p0 : Nat) (v1 : Value) (p0 : (List (Int × Int × List UInt8 × Int)) × Int) (p1 : List UInt8) (r : (Tr28 × ((List (Int × Int × List UInt8 × Int)) × Int)) ⊕ ((Int × Int) × ((List (Int × Int × List UInt8 × Int)) × Int))) (H : Bj fRec_parse_parser_policy p0 p1 = some r) (hL : Stw ⟨Y, X, w0⟩ [(q_p0, [v1, .int .i64 p0.2])] [row v1 98 AC p0.1] w0) :
    Calls Tryd.prog 56 #[.pointer (some ⟨q_p0, 0, none⟩), .string (bs p1), .func (.func 57) #[.pointer (some ⟨q_p0, 0, none⟩)] #[], .func (.func 58) #[] #[]] w0 fun e w' => D9 r (fun r => ∃ x : Value × Value × Value, e = .returned (.agg #[.int .i64 r.1.un.1, .int .i64 r.1.un.2.1.un.1, .int .i64 r.1.un.2.1.un.2.1, .int .i64 r.1.un.2.1.un.2.2.1, x.1, .int .i64 r.1.un.2.2.1, .int .i64 r.1.un.2.2.2.1, x.2.1]) ∧ Stw ⟨Y, X, w0⟩ [(q_p0, [x.2.2, .int .i64 r.2.2])] [row (x.2.2) 98 AC r.2.1, AU (x.1) AR r.1.un.2.1.un.2.2.2, AU (x.2.1) BD r.1.un.2.2.2.2] w') (fun r => ∃ x : Value, e = .panicked [{ v := .iface 89 (.agg #[.int .i64 r.1.1, .int .i64 r.1.2]), recovered := false }] ∧ Stw ⟨Y, X, w0⟩ [(q_p0, [x, .int .i64 r.2.2])] [row (x) 98 AC r.2.1] w') := by
 refine enter Tryd.func56 Aa Tryd.ntmps56 Aa fun a W => ?_
 have F := hL
 unfold Bj at H
 refine Ak (Ab ?_)
 refine Bi (cs := (BM)) W F Aa Lh Aa fun b1 a w W F => ?_
 refine Ae (Ac (Ak (Ab ?_)))
 refine ls W F Aa (Ah W Aa).q fun a w W F => ?_
 obtain ⟨x1, h1, H⟩ := Aq H
 rcases x1 with x2 | x3
 ·
  have H := EZ H
  have F := F.frontM (i := 1) Aa Aa
  refine EK (ws := [.pointer (some ⟨q_p0, 0, none⟩)]) (Ml := [(q_p0, [v1, .int .i64 p0.2])]) (Zl := [row v1 98 AC p0.1]) (M := (Dh b1)) (Z := []) (β := Value × Value × Value) (rv := fun x => .agg #[.int .i64 x2.1.un.1, .int .i64 x2.1.un.2.1.un.1, .int .i64 x2.1.un.2.1.un.2.1, .int .i64 x2.1.un.2.1.un.2.2.1, x.1, .int .i64 x2.1.un.2.2.1, .int .i64 x2.1.un.2.2.2.1, x.2.1]) (MM := fun x => [(q_p0, [x.2.2, .int .i64 x2.2.2])]) (ZZ := fun x => [row x.2.2 98 AC x2.2.1, AU x.1 AR x2.1.un.2.1.un.2.2.2, AU x.2.1 BD x2.1.un.2.2.2.2]) W F US Aa Aa (fun hL => (Db fRec_parse_parser_policy ih_parse_parser_policy) _ _ w q_p0 (v1) p0 _ h1 hL) fun x a w W F => ?_
  obtain ⟨v2, v3, v4⟩ := x
  have F : Stw ⟨Y, X, w0⟩ [(q_p0, [v4, .int .i64 x2.2.2]), (b1, (BM))] [row v4 98 AC x2.2.1, AU v2 AR x2.1.un.2.1.un.2.2.2, AU v3 BD x2.1.un.2.2.2.2] w := F
  refine FN (z := Value.agg #[.int .i64 0, .int .i64 0, .int .i64 0, .int .i64 0, .slice none 0 0, .int .i64 0, .int .i64 0, .slice none 0 0]) (cs := (DK x2 v2 v3)) BD ([Tr28.of (x2.1.un.1, Tr25.of (x2.1.un.2.1.un.1, x2.1.un.2.1.un.2.1, x2.1.un.2.1.un.2.2.1, x2.1.un.2.1.un.2.2.2), x2.1.un.2.2.1, x2.1.un.2.2.2.1, x2.1.un.2.2.2.2)] : List Tr28) W F Aa Re Lh Aa Aa Aa (AX Aa Aa Aa B2) Aa Aa ⟨[Value.int .i64 x2.1.un.1, Value.int .i64 x2.1.un.2.1.un.1, Value.int .i64 x2.1.un.2.1.un.2.1, Value.int .i64 x2.1.un.2.1.un.2.2.1, v2, Value.int .i64 x2.1.un.2.2.1, Value.int .i64 x2.1.un.2.2.2.1, v3], _, Aa, (PQ.2 ⟨[Value.int .i64 x2.1.un.1], [Value.int .i64 x2.1.un.2.1.un.1, Value.int .i64 x2.1.un.2.1.un.2.1, Value.int .i64 x2.1.un.2.1.un.2.2.1, v2, Value.int .i64 x2.1.un.2.2.1, Value.int .i64 x2.1.un.2.2.2.1, v3], Aa, Aa, ⟨[Value.int .i64 x2.1.un.2.1.un.1, Value.int .i64 x2.1.un.2.1.un.2.1, Value.int .i64 x2.1.un.2.1.un.2.2.1, v2], [Value.int .i64 x2.1.un.2.2.1, Value.int .i64 x2.1.un.2.2.2.1, v3], Aa, (KO.2 ⟨[Value.int .i64 x2.1.un.2.1.un.1], [Value.int .i64 x2.1.un.2.1.un.2.1, Value.int .i64 x2.1.un.2.1.un.2.2.1, v2], Aa, Aa, ⟨[Value.int .i64 x2.1.un.2.1.un.2.1], [Value.int .i64 x2.1.un.2.1.un.2.2.1, v2], Aa, Aa, ⟨[Value.int .i64 x2.1.un.2.1.un.2.2.1], [v2], Aa, Aa, ⟨_, Aa, (F.item (i := 1) Aa)⟩⟩⟩⟩), ⟨[Value.int .i64 x2.1.un.2.2.1], [Value.int .i64 x2.1.un.2.2.2.1, v3], Aa, Aa, ⟨[Value.int .i64 x2.1.un.2.2.2.1], [v3], Aa, Aa, ⟨_, Aa, (F.item (i := 2) Aa)⟩⟩⟩⟩⟩), Aa⟩ fun v5 a w W F => ?_
  refine ls W F Aa (Ag W Aa).q fun a w W F => ?_
  refine Ae (Ac ?_)
  obtain ⟨o1, G1, K1, L1⟩ := Rk H
  refine A1 (fun a w => ∃ x4 : List Tr28, ∃ x5 : List (Int × Int × List UInt8 × Int), ∃ x6 : Int, ∃ v6 : Value, ∃ v7 : Value, some (Sum.inl (x4, x5, x6)) = some o1 ∧ Fr 30 [] [(3, .func (.func 58) #[] #[]), (8, .pointer (some ⟨b1, 0, none⟩)), (9, v6)] a ∧ Stw ⟨Y, X, w0⟩ [(q_p0, [v7, .int .i64 x6]), (b1, (BM))] [row v6 28 BD x4, row v7 98 AC x5] w) ?_ ?_
  ·
   have H := G1
   clear G1 K1
   refine AP ?_
   have F := F.frontZ (i := 1) Aa Aa
   have F := F.frontZ (i := 1) Aa Aa
   have F := F.frontM (i := 1) Aa Aa
   have F := F.frontM (i := 1) Aa Aa
   have F := F.sub (M' := [(q_p0, [v4, .int .i64 x2.2.2]), (b1, (BM))]) (Z' := [row v5 28 BD ([Tr28.of (x2.1.un.1, Tr25.of (x2.1.un.2.1.un.1, x2.1.un.2.1.un.2.1, x2.1.un.2.1.un.2.2.1, x2.1.un.2.1.un.2.2.2), x2.1.un.2.2.1, x2.1.un.2.2.2.1, x2.1.un.2.2.2.2)] : List Tr28), row v4 98 AC x2.2.1]) (List.Sublist.refl _) (List.Sublist.cons_cons _ (List.Sublist.cons_cons _ (List.nil_sublist _)))
   refine Cx H (fun s a w => ∃ v8 : Value, ∃ v9 : Value, Fr 30 [] [(0, .pointer (some ⟨q_p0, 0, none⟩)), (1, .string (bs p1)), (2, .func (.func 57) #[.pointer (some ⟨q_p0, 0, none⟩)] #[]), (3, .func (.func 58) #[] #[]), (8, .pointer (some ⟨b1, 0, none⟩)), (9, v8)] a ∧ Stw ⟨Y, X, w0⟩ [(q_p0, [v9, .int .i64 s.2.2]), (b1, (BM))] [row v8 28 BD s.1, row v9 98 AC s.2.1] w) ⟨(v5), (v4), W.re ⟨rfl, Aa, Aa, Aa, Aa, Aa, trivial⟩, F⟩ fun s o a w H L2 hR => ?_
   obtain ⟨x7, x8, x9⟩ := s
   obtain ⟨v8, v9, W, F⟩ := hR
   have W : Fr 30 [] [(0, .pointer (some ⟨q_p0, 0, none⟩)), (1, .string (bs p1)), (2, .func (.func 57) #[.pointer (some ⟨q_p0, 0, none⟩)] #[]), (3, .func (.func 58) #[] #[]), (8, .pointer (some ⟨b1, 0, none⟩)), (9, v8)] a := W
   have F : Stw ⟨Y, X, w0⟩ [(q_p0, [v9, .int .i64 x9]), (b1, (BM))] [row v8 28 BD x7, row v9 98 AC x8] w := F
   rw [A5] at H
   refine Ak (Ak (Ab ?_))
   iterate 2 refine ls W F Aa (Ah W Aa).q fun a w W F => ?_
   obtain ⟨x10, h2, H⟩ := Aq H
   have F := F.frontZ (i := 1) Aa Aa
   refine A2 (Ml := [(q_p0, [v9, .int .i64 x9])]) (Zl := [row v9 98 AC x8]) (M := (Dh b1)) (Z := [row v8 28 BD x7]) (β := Value) (rv := fun x => .bool x10.1) (MM := fun x => [(q_p0, [x, .int .i64 x10.2.2])]) (ZZ := fun x => [row x 98 AC x10.2.1]) W F QR Aa Aa (fun hL => A9 _ _ w q_p0 (v9) (x8, x9) p1 _ h2 hL) fun x a w W F => ?_
   obtain ⟨v10, rfl⟩ : ∃ y, y = x := ⟨x, rfl⟩
   have F : Stw ⟨Y, X, w0⟩ [(q_p0, [v10, .int .i64 x10.2.2]), (b1, (BM))] [row v10 98 AC x10.2.1, row v8 28 BD x7] w := F
   refine Ae (Ac ?_)
   refine Az W Aa (fun hb => ?_) fun hb => ?_
   ·
    have H := AW hb H
    rw [hb] at W
    clear hb
    refine AA (Ac (AP (Ab ?_)))
    iterate 2 refine ls W F Aa (Ah W Aa).q fun a w W F => ?_
    obtain ⟨x11, h3, H⟩ := Aq H
    rcases x11 with x12 | x13
    ·
     have H := EZ H
     refine EK (ws := [.pointer (some ⟨q_p0, 0, none⟩)]) (Ml := [(q_p0, [v10, .int .i64 x10.2.2])]) (Zl := [row v10 98 AC x10.2.1]) (M := (Dh b1)) (Z := [row v8 28 BD x7]) (β := Value × Value × Value) (rv := fun x => .agg #[.int .i64 x12.1.un.1, .int .i64 x12.1.un.2.1.un.1, .int .i64 x12.1.un.2.1.un.2.1, .int .i64 x12.1.un.2.1.un.2.2.1, x.1, .int .i64 x12.1.un.2.2.1, .int .i64 x12.1.un.2.2.2.1, x.2.1]) (MM := fun x => [(q_p0, [x.2.2, .int .i64 x12.2.2])]) (ZZ := fun x => [row x.2.2 98 AC x12.2.1, AU x.1 AR x12.1.un.2.1.un.2.2.2, AU x.2.1 BD x12.1.un.2.2.2.2]) W F US Aa Aa (fun hL => (Db fRec_parse_parser_policy ih_parse_parser_policy) _ _ w q_p0 (v10) x10.2 _ h3 hL) fun x a w W F => ?_
     obtain ⟨v11, v12, v13⟩ := x
     have F : Stw ⟨Y, X, w0⟩ [(q_p0, [v13, .int .i64 x12.2.2]), (b1, (BM))] [row v13 98 AC x12.2.1, AU v11 AR x12.1.un.2.1.un.2.2.2, AU v12 BD x12.1.un.2.2.2.2, row v8 28 BD x7] w := F
     refine FN (z := Value.agg #[.int .i64 0, .int .i64 0, .int .i64 0, .int .i64 0, .slice none 0 0, .int .i64 0, .int .i64 0, .slice none 0 0]) (cs := (DK x12 v11 v12)) BD ([Tr28.of (x12.1.un.1, Tr25.of (x12.1.un.2.1.un.1, x12.1.un.2.1.un.2.1, x12.1.un.2.1.un.2.2.1, x12.1.un.2.1.un.2.2.2), x12.1.un.2.2.1, x12.1.un.2.2.2.1, x12.1.un.2.2.2.2)] : List Tr28) W F Aa Re Lh Aa Aa Aa (AX Aa Aa Aa B2) Aa Aa ⟨[Value.int .i64 x12.1.un.1, Value.int .i64 x12.1.un.2.1.un.1, Value.int .i64 x12.1.un.2.1.un.2.1, Value.int .i64 x12.1.un.2.1.un.2.2.1, v11, Value.int .i64 x12.1.un.2.2.1, Value.int .i64 x12.1.un.2.2.2.1, v12], _, Aa, (PQ.2 ⟨[Value.int .i64 x12.1.un.1], [Value.int .i64 x12.1.un.2.1.un.1, Value.int .i64 x12.1.un.2.1.un.2.1, Value.int .i64 x12.1.un.2.1.un.2.2.1, v11, Value.int .i64 x12.1.un.2.2.1, Value.int .i64 x12.1.un.2.2.2.1, v12], Aa, Aa, ⟨[Value.int .i64 x12.1.un.2.1.un.1, Value.int .i64 x12.1.un.2.1.un.2.1, Value.int .i64 x12.1.un.2.1.un.2.2.1, v11], [Value.int .i64 x12.1.un.2.2.1, Value.int .i64 x12.1.un.2.2.2.1, v12], Aa, (KO.2 ⟨[Value.int .i64 x12.1.un.2.1.un.1], [Value.int .i64 x12.1.un.2.1.un.2.1, Value.int .i64 x12.1.un.2.1.un.2.2.1, v11], Aa, Aa, ⟨[Value.int .i64 x12.1.un.2.1.un.2.1], [Value.int .i64 x12.1.un.2.1.un.2.2.1, v11], Aa, Aa, ⟨[Value.int .i64 x12.1.un.2.1.un.2.2.1], [v11], Aa, Aa, ⟨_, Aa, (F.item (i := 1) Aa)⟩⟩⟩⟩), ⟨[Value.int .i64 x12.1.un.2.2.1], [Value.int .i64 x12.1.un.2.2.2.1, v12], Aa, Aa, ⟨[Value.int .i64 x12.1.un.2.2.2.1], [v12], Aa, Aa, ⟨_, Aa, (F.item (i := 2) Aa)⟩⟩⟩⟩⟩), Aa⟩ fun v14 a w W F => ?_
     obtain ⟨x14, h4, H⟩ := Aq H
     refine EP (r := BD) (i := 4) W F Aa Re Aa Aa Aa Aa (Fv F 0 Aa) h4 Aa fun v15 a w W F => ?_
     have F : Stw ⟨Y, X, w0⟩ [(q_p0, [v13, .int .i64 x12.2.2]), (b1, (BM))] [row v15 28 BD x14, row v14 28 BD ([Tr28.of (x12.1.un.1, Tr25.of (x12.1.un.2.1.un.1, x12.1.un.2.1.un.2.1, x12.1.un.2.1.un.2.2.1, x12.1.un.2.1.un.2.2.2), x12.1.un.2.2.1, x12.1.un.2.2.2.1, x12.1.un.2.2.2.2)] : List Tr28), row v13 98 AC x12.2.1, AU v11 AR x12.1.un.2.1.un.2.2.2, AU v12 BD x12.1.un.2.2.2.2] w := F
     refine ls W F Aa (Ag W Aa).q fun a w W F => ?_
     refine Ae (Bn (Ac ?_))
     have F := F.frontZ (i := 2) Aa Aa
     have F := F.frontZ (i := 1) Aa Aa
     have F := F.frontM (i := 1) Aa Aa
     have F := F.frontM (i := 1) Aa Aa
     have F := F.sub (M' := [(q_p0, [v13, .int .i64 x12.2.2]), (b1, (BM))]) (Z' := [row v15 28 BD x14, row v13 98 AC x12.2.1]) (List.Sublist.refl _) (List.Sublist.cons_cons _ (List.Sublist.cons_cons _ (List.nil_sublist _)))
     exact ⟨_, H, (v15), (v13), W.re ⟨rfl, Aa, Aa, Aa, Aa, Aa, trivial⟩, F⟩
    have H := EY H
    refine Gj (ws := [.pointer (some ⟨q_p0, 0, none⟩)]) (Ml := [(q_p0, [v10, .int .i64 x10.2.2])]) (Zl := [row v10 98 AC x10.2.1]) (M := (Dh b1)) (Z := [row v8 28 BD x7]) (β := Value) (pv := fun x => .iface 89 (.agg #[.int .i64 x13.1.1, .int .i64 x13.1.2])) (MM := fun x => [(q_p0, [x, .int .i64 x13.2.2])]) (ZZ := fun x => [row x 98 AC x13.2.1]) W F US Aa (fun hL => (Db fRec_parse_parser_policy ih_parse_parser_policy) _ _ w q_p0 (v10) x10.2 _ h3 hL) fun x w F => ?_
    obtain ⟨v16, rfl⟩ : ∃ y, y = x := ⟨x, rfl⟩
    have F : Stw ⟨Y, X, w0⟩ [(q_p0, [v16, .int .i64 x13.2.2]), (b1, (BM))] [row v16 98 AC x13.2.1, row v8 28 BD x7] w := F
    refine EB (BF (EB (BF ?_)))
    have H := L2 _ H
    have H := L1 _ H
    have H := AK H
    subst H
    refine A7 W ?_
    have F := F.sub (M' := [(q_p0, [v16, .int .i64 x13.2.2])]) (Z' := [row v16 98 AC x13.2.1]) (List.Sublist.cons_cons _ (List.nil_sublist _)) (List.Sublist.cons_cons _ (List.nil_sublist _))
    exact ⟨(v16), Aa, F⟩
   have H := AY (by rw [hb]; decide) H
   rw [hb] at W
   clear hb
   refine Cz ?_
   iterate 2 refine C8 ?_
   refine Cy (Ac ?_)
   have F := F.frontZ (i := 1) Aa Aa
   have F := F.frontM (i := 1) Aa Aa
   have F := F.frontM (i := 1) Aa Aa
   have H := L2 _ H
   exact ⟨_, _, _, (v8), (v10), H, W.re ⟨rfl, Aa, Aa, trivial⟩, F⟩
  rintro a w ⟨x4, x5, x6, v6, v7, hj, W, F⟩
  have H := K1 _ hj
  clear hj G1 K1 L1
  refine Ak (Ak (Ab ?_))
  refine ls W F Aa (Ah W Aa).q fun a w W F => ?_
  refine ls W F Aa (D7 (r := BD) (l := x4) Rz Aa W Aa (BP 0 Aa)).q fun a w W F => ?_
  refine ls W F Aa (Bd W Aa Aa).q fun a w W F => ?_
  refine Ae (Ac ?_)
  refine Az W Aa (fun hb => ?_) fun hb => ?_
  ·
   have H := AW (Bw hb) H
   rw [hb] at W
   clear hb
   refine Ak ?_
   obtain ⟨v17, h5, F⟩ := F.exR Js
   refine Ab ?_
   refine ls W F Aa (Ah W Aa).q fun a w W F => ?_
   obtain ⟨x15, h6, H⟩ := Aq H
   obtain ⟨v18, h7, h8⟩ := D5 h5 h6
   have h9 : Ow v18 = [.int .i64 x15.un.1, .int .i64 x15.un.2.1.un.1, .int .i64 x15.un.2.1.un.2.1, .int .i64 x15.un.2.1.un.2.2.1, (v18.2.1.2.2.2.1), .int .i64 x15.un.2.2.1, .int .i64 x15.un.2.2.2.1, (v18.2.2.2.2.1)] := congrArg (fun q : Tr28 => ([.int .i64 q.un.1, .int .i64 q.un.2.1.un.1, .int .i64 q.un.2.1.un.2.1, .int .i64 q.un.2.1.un.2.2.1, (v18.2.1.2.2.2.1), .int .i64 q.un.2.2.1, .int .i64 q.un.2.2.2.1, (v18.2.2.2.2.1)] : List Value)) h8
   refine ls W F Aa (Cg (r := PB) Re W Aa Aa (BP 0 Aa) h7).q fun a w W F => ?_
   refine ls W F Aa (BC (y := Value.agg #[.int .i64 x15.un.1, .int .i64 x15.un.2.1.un.1, .int .i64 x15.un.2.1.un.2.1, .int .i64 x15.un.2.1.un.2.2.1, (v18.2.1.2.2.2.1), .int .i64 x15.un.2.2.1, .int .i64 x15.un.2.2.2.1, (v18.2.2.2.2.1)]) (j := 0) (i := 0) (enc := Ow) W Aa Aa (BP 0 Aa) h7 SS FJ (by rw [h9]; rfl)).q fun a w W F => ?_
   have F := F.note (F.rowAt (k := 0) Aa h7 (AE.snd (AE.fst (AE.snd (AE.snd (AE.snd AE.here))))) (congrArg (fun q : Tr28 => q.un.2.1.un.2.2.2) h8))
   have F := F.note (F.rowAt (k := 1) Aa h7 (AE.snd (AE.snd (AE.snd (AE.snd AE.here)))) (congrArg (fun q : Tr28 => q.un.2.2.2.2) h8))
   refine AL (vs := [.int .i64 x15.un.1, .int .i64 x15.un.2.1.un.1, .int .i64 x15.un.2.1.un.2.1, .int .i64 x15.un.2.1.un.2.2.1, (v18.2.1.2.2.2.1), .int .i64 x15.un.2.2.1, .int .i64 x15.un.2.2.2.1, (v18.2.2.2.2.1)]) (M' := [(q_p0, [v7, .int .i64 x6]), (b1, [.int .i64 x15.un.1, .int .i64 x15.un.2.1.un.1, .int .i64 x15.un.2.1.un.2.1, .int .i64 x15.un.2.1.un.2.2.1, (v18.2.1.2.2.2.1), .int .i64 x15.un.2.2.1, .int .i64 x15.un.2.2.2.1, (v18.2.2.2.2.1)])]) 1 W F Aa Aa Aa FJ Aa Aa Aa (Ai Aa (Ai Aa (Ai Aa (Ai Aa (Ai (F.oneF (k := 1) Aa) (Ai Aa (Ai Aa (Ai (F.oneF (k := 0) Aa) Bp)))))))) Aa fun w F => ?_
   refine Ae (Ac (Ax (AO ?_)))
   have H := AK H
   subst H
   refine AG (.inl Aa) W F Aa (A3 1 W Aa Aa FJ Aa) ?_
   have F := F.frontZ (i := 1) Aa Aa
   have F := F.frontZ (i := 3) Aa Aa
   have F := F.sub (M' := [(q_p0, [v7, .int .i64 x6])]) (Z' := [row v7 98 AC x5, AU (v18.2.1.2.2.2.1) AR x15.un.2.1.un.2.2.2, AU (v18.2.2.2.2.1) BD x15.un.2.2.2.2]) (List.Sublist.cons_cons _ (List.nil_sublist _)) (List.Sublist.cons_cons _ (List.Sublist.cons_cons _ (List.Sublist.cons_cons _ (List.nil_sublist _))))
   exact ⟨(((v18.2.1.2.2.2.1)), ((v18.2.2.2.2.1)), (v7)), Aa, F⟩
  have H := AY (Bx hb) H
  rw [hb] at W
  clear hb
  refine AA (Ac (Ak (Ab ?_)))
  iterate 2 refine ls W F Aa (Ah W Aa).q fun a w W F => ?_
  have F := F.freeze
  refine EK (ws := [v6]) (Ml := []) (Zl := []) (M := [(q_p0, [v7, .int .i64 x6]), (b1, (BM))]) (Z := [AU v6 BD x4, row v7 98 AC x5]) (β := Value × Value) (rv := fun x => .agg #[.int .i64 ((AZ x4).un.1), .int .i64 ((AZ x4).un.2.1.un.1), .int .i64 ((AZ x4).un.2.1.un.2.1), .int .i64 ((AZ x4).un.2.1.un.2.2.1), x.1, .int .i64 ((AZ x4).un.2.2.1), .int .i64 ((AZ x4).un.2.2.2.1), x.2]) (MM := fun x => []) (ZZ := fun x => [row x.1 25 AR ((AZ x4).un.2.1.un.2.2.2), AU x.2 BD ((AZ x4).un.2.2.2.2)]) W F V6 Aa Aa (fun hL => MW _ w (v6) x4 _ Aa (F.item (i := 0) Aa)) fun x a w W F => ?_
  obtain ⟨v19, v20⟩ := x
  have F : Stw ⟨Y, X, w0⟩ [(q_p0, [v7, .int .i64 x6]), (b1, (BM))] [row v19 25 AR ((AZ x4).un.2.1.un.2.2.2), AU v20 BD ((AZ x4).un.2.2.2.2), AU v6 BD x4, row v7 98 AC x5] w := F
  refine AL (vs := (Tk x4 v19 v20)) (M' := [(q_p0, [v7, .int .i64 x6]), (b1, (Tk x4 v19 v20))]) 1 W F Aa Aa Aa FJ Aa Aa Aa (Ai Aa (Ai Aa (Ai Aa (Ai Aa (Ai (F.one (k := 0) Aa) (Ai Aa (Ai Aa (Ai (F.oneF (k := 1) Aa) Bp)))))))) Aa fun w F => ?_
  refine Ae (Ac (Ax ?_))
  have H := AK H
  subst H
  refine AG (.inl Aa) W F Aa (A3 1 W Aa Aa FJ Aa) ?_
  have F := F.freeze
  have F := F.frontZ (i := 1) Aa Aa
  have F := F.frontZ (i := 1) Aa Aa
  have F := F.frontZ (i := 3) Aa Aa
  have F := F.sub (M' := [(q_p0, [v7, .int .i64 x6])]) (Z' := [row v7 98 AC x5, AU v19 AR ((AZ x4).un.2.1.un.2.2.2), AU v20 BD ((AZ x4).un.2.2.2.2)]) (List.Sublist.cons_cons _ (List.nil_sublist _)) (List.Sublist.cons_cons _ (List.Sublist.cons_cons _ (List.Sublist.cons_cons _ (List.nil_sublist _))))
  exact ⟨((v19), (v20), (v7)), Aa, F⟩
 have H := EY H
 have F := F.frontM (i := 1) Aa Aa
 refine Gj (ws := [.pointer (some ⟨q_p0, 0, none⟩)]) (Ml := [(q_p0, [v1, .int .i64 p0.2])]) (Zl := [row v1 98 AC p0.1]) (M := (Dh b1)) (Z := []) (β := Value) (pv := fun x => .iface 89 (.agg #[.int .i64 x3.1.1, .int .i64 x3.1.2])) (MM := fun x => [(q_p0, [x, .int .i64 x3.2.2])]) (ZZ := fun x => [row x 98 AC x3.2.1]) W F US Aa (fun hL => (Db fRec_parse_parser_policy ih_parse_parser_policy) _ _ w q_p0 (v1) p0 _ h1 hL) fun x w F => ?_
 obtain ⟨v21, rfl⟩ : ∃ y, y = x := ⟨x, rfl⟩
 have F : Stw ⟨Y, X, w0⟩ [(q_p0, [v21, .int .i64 x3.2.2]), (b1, (BM))] [row v21 98 AC x3.2.1] w := F
 refine BF ?_
 have H := AK H
 subst H
 refine A7 W ?_
 have F := F.sub (M' := [(q_p0, [v21, .int .i64 x3.2.2])]) (Z' := [row v21 98 AC x3.2.1]) (List.Sublist.cons_cons _ (List.nil_sublist _)) (List.Sublist.refl _)
 exact ⟨(v21), Aa, F⟩
noncomputable def BA (fRec : ((List (Int × Int × List UInt8 × Int)) × Int) → Option ((Tr28 × ((List (Int × Int × List UInt8 × Int)) × Int)) ⊕ ((Int × Int) × ((List (Int × Int × List UInt8 × Int)) × Int)))) (p0 : (List (Int × Int × List UInt8 × Int)) × Int) : Option ((Tr28 × ((List (Int × Int × List UInt8 × Int)) × Int)) ⊕ ((Int × Int) × ((List (Int × Int × List UInt8 × Int)) × Int))) := ((Bj fRec) p0 ([124] : List UInt8)).bind fun x1 => B4 x1 (fun x2 => some (.inl (Tr28.of (x2.1.un.1, Tr25.of (x2.1.un.2.1.un.1, x2.1.un.2.1.un.2.1, x2.1.un.2.1.un.2.2.1, x2.1.un.2.1.un.2.2.2), x2.1.un.2.2.1, x2.1.un.2.2.2.1, x2.1.un.2.2.2.2), x2.2))) (fun x3 => some (.inr (x3.1, x3.2)))
noncomputable def AJ : Nat → ((List (Int × Int × List UInt8 × Int)) × Int) → Option ((Tr28 × ((List (Int × Int × List UInt8 × Int)) × Int)) ⊕ ((Int × Int) × ((List (Int × Int × List UInt8 × Int)) × Int)))
  | 0 => fun _ => none
  | n + 1 => BA (AJ n)
noncomputable def Di (p0 : (List (Int × Int × List UInt8 × Int)) × Int) : Option ((Tr28 × ((List (Int × Int × List UInt8 × Int)) × Int)) ⊕ ((Int × Int) × ((List (Int × Int × List UInt8 × Int)) × Int))) := FY fun n => AJ n p0
theorem H5 (fRec : ((List (Int × Int × List UInt8 × Int)) × Int) → Option ((Tr28 × ((List (Int × Int × List UInt8 × Int)) × Int)) ⊕ ((Int × Int) × ((List (Int × Int × List UInt8 × Int)) × Int)))) (ih : ∀ (Y : Nat → Prop) (X : List Nat) (w0 : World) (q_p0 : Nat) (v1 : Value) (p0 : (List (Int × Int × List UInt8 × Int)) × Int) (r : (Tr28 × ((List (Int × Int × List UInt8 × Int)) × Int)) ⊕ ((Int × Int) × ((List (Int × Int × List UInt8 × Int)) × Int))) (H : fRec p0 = some r) (hL : Stw ⟨Y, X, w0⟩ [(q_p0, [v1, .int .i64 p0.2])] [row v1 98 AC p0.1] w0), Calls Tryd.prog 28 #[.pointer (some ⟨q_p0, 0, none⟩)] w0 fun e w' => D9 r (fun r => ∃ x : Value × Value × Value, e = .returned (.agg #[.int .i64 r.1.un.1, .int .i64 r.1.un.2.1.un.1, .int .i64 r.1.un.2.1.un.2.1, .int .i64 r.1.un.2.1.un.2.2.1, x.1, .int .i64 r.1.un.2.2.1, .int .i64 r.1.un.2.2.2.1, x.2.1]) ∧ Stw ⟨Y, X, w0⟩ [(q_p0, [x.2.2, .int .i64 r.2.2])] [row (x.2.2) 98 AC r.2.1, AU (x.1) AR r.1.un.2.1.un.2.2.2, AU (x.2.1) BD r.1.un.2.2.2.2] w') (fun r => ∃ x : Value, e = .panicked [{ v := .iface 89 (.agg #[.int .i64 r.1.1, .int .i64 r.1.2]), recovered := false }] ∧ Stw ⟨Y, X, w0⟩ [(q_p0, [x, .int .i64 r.2.2])] [row (x) 98 AC r.2.1] w')) (Y : Nat → Prop) (X : List Nat) (w0 : World) (q_p0 : Nat) (v1 : Value) (p0 : (List (Int × Int × List UInt8 × Int)) × Int) (r : (Tr28 × ((List (Int × Int × List UInt8 × Int)) × Int)) ⊕ ((Int × Int) × ((List (Int × Int × List UInt8 × Int)) × Int))) (H : BA fRec p0 = some r) (hL : Stw ⟨Y, X, w0⟩ [(q_p0, [v1, .int .i64 p0.2])] [row v1 98 AC p0.1] w0) :
    Calls Tryd.prog 28 #[.pointer (some ⟨q_p0, 0, none⟩)] w0 fun e w' => D9 r (fun r => ∃ x : Value × Value × Value, e = .returned (.agg #[.int .i64 r.1.un.1, .int .i64 r.1.un.2.1.un.1, .int .i64 r.1.un.2.1.un.2.1, .int .i64 r.1.un.2.1.un.2.2.1, x.1, .int .i64 r.1.un.2.2.1, .int .i64 r.1.un.2.2.2.1, x.2.1]) ∧ Stw ⟨Y, X, w0⟩ [(q_p0, [x.2.2, .int .i64 r.2.2])] [row (x.2.2) 98 AC r.2.1, AU (x.1) AR r.1.un.2.1.un.2.2.2, AU (x.2.1) BD r.1.un.2.2.2.2] w') (fun r => ∃ x : Value, e = .panicked [{ v := .iface 89 (.agg #[.int .i64 r.1.1, .int .i64 r.1.2]), recovered := false }] ∧ Stw ⟨Y, X, w0⟩ [(q_p0, [x, .int .i64 r.2.2])] [row (x) 98 AC r.2.1] w') := by
 refine enter Tryd.func28 Aa Tryd.ntmps28 Aa fun a W => ?_
 have F := hL
 unfold BA at H
 refine Ak (Ab ?_)
 refine Bi (cs := (BM)) W F Aa Lh Aa fun b1 a w W F => ?_
 refine Ae (Ac (Ak (Ab ?_)))
 iterate 2 refine ls W F Aa (Ah W Aa).q fun a w W F => ?_
 refine ls W F Aa (F8 (us := [.pointer (some ⟨q_p0, 0, none⟩)]) (vs := []) W Aa Aa).q fun a w W F => ?_
 obtain ⟨x1, h1, H⟩ := Aq H
 rcases x1 with x2 | x3
 ·
  have H := EZ H
  have F := F.frontM (i := 1) Aa Aa
  refine A2 (Ml := [(q_p0, [v1, .int .i64 p0.2])]) (Zl := [row v1 98 AC p0.1]) (M := (Dh b1)) (Z := []) (β := Value × Value × Value) (rv := fun x => .agg #[.int .i64 x2.1.un.1, .int .i64 x2.1.un.2.1.un.1, .int .i64 x2.1.un.2.1.un.2.1, .int .i64 x2.1.un.2.1.un.2.2.1, x.1, .int .i64 x2.1.un.2.2.1, .int .i64 x2.1.un.2.2.2.1, x.2.1]) (MM := fun x => [(q_p0, [x.2.2, .int .i64 x2.2.2])]) (ZZ := fun x => [row x.2.2 98 AC x2.2.1, AU x.1 AR x2.1.un.2.1.un.2.2.2, AU x.2.1 BD x2.1.un.2.2.2.2]) W F UV Aa Aa (fun hL => (FE fRec ih) _ _ w q_p0 (v1) p0 ([124] : List UInt8) _ h1 hL) fun x a w W F => ?_
  obtain ⟨v2, v3, v4⟩ := x
  have F : Stw ⟨Y, X, w0⟩ [(q_p0, [v4, .int .i64 x2.2.2]), (b1, (BM))] [row v4 98 AC x2.2.1, AU v2 AR x2.1.un.2.1.un.2.2.2, AU v3 BD x2.1.un.2.2.2.2] w := F
  refine AL (vs := (DK x2 v2 v3)) (M' := [(q_p0, [v4, .int .i64 x2.2.2]), (b1, (DK x2 v2 v3))]) 1 W F Aa Aa Aa FJ Aa Aa Aa (Ai Aa (Ai Aa (Ai Aa (Ai Aa (Ai (F.oneF (k := 1) Aa) (Ai Aa (Ai Aa (Ai (F.oneF (k := 2) Aa) Bp)))))))) Aa fun w F => ?_
  refine Ae (Ac (Ax ?_))
  have H := AK H
  subst H
  refine AG (.inl Aa) W F Aa (A3 1 W Aa Aa FJ Aa) ?_
  have F := F.frontZ (i := 2) Aa Aa
  have F := F.frontZ (i := 2) Aa Aa
  have F := F.frontZ (i := 2) Aa Aa
  have F := F.sub (M' := [(q_p0, [v4, .int .i64 x2.2.2])]) (Z' := [row v4 98 AC x2.2.1, AU v2 AR x2.1.un.2.1.un.2.2.2, AU v3 BD x2.1.un.2.2.2.2]) (List.Sublist.cons_cons _ (List.nil_sublist _)) (List.Sublist.refl _)
  exact ⟨((v2), (v3), (v4)), Aa, F⟩
 have H := EY H
 have F := F.frontM (i := 1) Aa Aa
 refine B0 (Ml := [(q_p0, [v1, .int .i64 p0.2])]) (Zl := [row v1 98 AC p0.1]) (M := (Dh b1)) (Z := []) (β := Value) (pv := fun x => .iface 89 (.agg #[.int .i64 x3.1.1, .int .i64 x3.1.2])) (MM := fun x => [(q_p0, [x, .int .i64 x3.2.2])]) (ZZ := fun x => [row x 98 AC x3.2.1]) W F UV Aa (fun hL => (FE fRec ih) _ _ w q_p0 (v1) p0 ([124] : List UInt8) _ h1 hL) fun x w F => ?_
 obtain ⟨v5, rfl⟩ : ∃ y, y = x := ⟨x, rfl⟩
 have F : Stw ⟨Y, X, w0⟩ [(q_p0, [v5, .int .i64 x3.2.2]), (b1, (BM))] [row v5 98 AC x3.2.1] w := F
 refine BF ?_
 have H := AK H
 subst H
 refine A7 W ?_
 have F := F.sub (M' := [(q_p0, [v5, .int .i64 x3.2.2])]) (Z' := [row v5 98 AC x3.2.1]) (List.Sublist.cons_cons _ (List.nil_sublist _)) (List.Sublist.refl _)
 exact ⟨(v5), Aa, F⟩
theorem Ij : ∀ (n : Nat) (Y : Nat → Prop) (X : List Nat) (w0 : World) (q_p0 : Nat) (v1 : Value) (p0 : (List (Int × Int × List UInt8 × Int)) × Int) (r : (Tr28 × ((List (Int × Int × List UInt8 × Int)) × Int)) ⊕ ((Int × Int) × ((List (Int × Int × List UInt8 × Int)) × Int))) (H : AJ n p0 = some r) (hL : Stw ⟨Y, X, w0⟩ [(q_p0, [v1, .int .i64 p0.2])] [row v1 98 AC p0.1] w0), Calls Tryd.prog 28 #[.pointer (some ⟨q_p0, 0, none⟩)] w0 fun e w' => D9 r (fun r => ∃ x : Value × Value × Value, e = .returned (.agg #[.int .i64 r.1.un.1, .int .i64 r.1.un.2.1.un.1, .int .i64 r.1.un.2.1.un.2.1, .int .i64 r.1.un.2.1.un.2.2.1, x.1, .int .i64 r.1.un.2.2.1, .int .i64 r.1.un.2.2.2.1, x.2.1]) ∧ Stw ⟨Y, X, w0⟩ [(q_p0, [x.2.2, .int .i64 r.2.2])] [row (x.2.2) 98 AC r.2.1, AU (x.1) AR r.1.un.2.1.un.2.2.2, AU (x.2.1) BD r.1.un.2.2.2.2] w') (fun r => ∃ x : Value, e = .panicked [{ v := .iface 89 (.agg #[.int .i64 r.1.1, .int .i64 r.1.2]), recovered := false }] ∧ Stw ⟨Y, X, w0⟩ [(q_p0, [x, .int .i64 r.2.2])] [row (x) 98 AC r.2.1] w') := by
  intro n
  induction n with
  | zero => intro Y X w0 q_p0 v1 p0 r H; exact nomatch H
  | succ n ih => intro Y X w0 q_p0 v1 p0 r H hL; exact H5 (AJ n) ih Y X w0 q_p0 v1 p0 r H hL
theorem F4 (Y : Nat → Prop) (X : List Nat) (w0 : World) (q_p0 : Nat) (v1 : Value) (p0 : (List (Int × Int × List UInt8 × Int)) × Int) (r : (Tr28 × ((List (Int × Int × List UInt8 × Int)) × Int)) ⊕ ((Int × Int) × ((List (Int × Int × List UInt8 × Int)) × Int))) (H : Di p0 = some r) (hL : Stw ⟨Y, X, w0⟩ [(q_p0, [v1, .int .i64 p0.2])] [row v1 98 AC p0.1] w0) :
    Calls Tryd.prog 28 #[.pointer (some ⟨q_p0, 0, none⟩)] w0 fun e w' => D9 r (fun r => ∃ x : Value × Value × Value, e = .returned (.agg #[.int .i64 r.1.un.1, .int .i64 r.1.un.2.1.un.1, .int .i64 r.1.un.2.1.un.2.1, .int .i64 r.1.un.2.1.un.2.2.1, x.1, .int .i64 r.1.un.2.2.1, .int .i64 r.1.un.2.2.2.1, x.2.1]) ∧ Stw ⟨Y, X, w0⟩ [(q_p0, [x.2.2, .int .i64 r.2.2])] [row (x.2.2) 98 AC r.2.1, AU (x.1) AR r.1.un.2.1.un.2.2.2, AU (x.2.1) BD r.1.un.2.2.2.2] w') (fun r => ∃ x : Value, e = .panicked [{ v := .iface 89 (.agg #[.int .i64 r.1.1, .int .i64 r.1.2]), recovered := false }] ∧ Stw ⟨Y, X, w0⟩ [(q_p0, [x, .int .i64 r.2.2])] [row (x) 98 AC r.2.1] w') := by
  obtain ⟨n, H⟩ := BR H
  exact Ij n Y X w0 q_p0 v1 p0 r H hL
noncomputable def Cb (p0 : (List (Int × Int × List UInt8 × Int)) × Int) : Option (Unit ⊕ (Int × Int)) := (BL p0).bind fun x1 => (if x1.1 ≠ 4 then (CA p0).bind fun x2 => some (.inr x2) else some (.inl ()))
theorem EH (Y : Nat → Prop) (w0 : World) (q_p0 : Nat) (v1 : Value) (p0 : (List (Int × Int × List UInt8 × Int)) × Int) (r : Unit ⊕ (Int × Int)) (H : Cb p0 = some r) (h_v1 : Sl w0 (NX []) AC v1 p0.1) (a_q_p0 : At ⟨Y, [], w0⟩ q_p0 0 [v1, .int .i64 p0.2]) :
    Calls Tryd.prog 29 #[.pointer (some ⟨q_p0, 0, none⟩)] w0 fun e w' => D9 r (fun r => ∃ x : Unit, e = .returned (.tuple #[]) ∧ Stw ⟨Y, [], w0⟩ [] [] w') (fun r => ∃ x : Unit, e = .panicked [{ v := .iface 89 (.agg #[.int .i64 r.1, .int .i64 r.2]), recovered := false }] ∧ Stw ⟨Y, [], w0⟩ [] [] w') := by
 refine enter Tryd.func29 Aa Tryd.ntmps29 Aa fun a W => ?_
 have F := Stw.start Y w0
 unfold Cb at H
 refine Ak (Ab ?_)
 refine ls W F Aa (Ah W Aa).q fun a w W F => ?_
 obtain ⟨x1, h1, H⟩ := Aq H
 refine ls W F Aa (A0 (v := Value.agg #[.int .i64 x1.1, .int .i64 x1.2.1, .string (bs x1.2.2.1), .int .i64 x1.2.2.2]) W Ut Aa (fun w F => C7 any w q_p0 (v1) p0 _ h1 (((Ay h_v1) : DZ _ _ _ _ _ _) w F).nx (At.re a_q_p0 F))) fun a w W F => ?_
 refine ls W F Aa (QV (v := Value.int .i64 x1.1) Li Aa Aa Aa T3 W Aa Aa).q fun a w W F => ?_
 refine ls W F Aa (Dp W Aa Aa).q fun a w W F => ?_
 refine Ae (Ac ?_)
 refine Az W Aa (fun hb => ?_) fun hb => ?_
 ·
  have H := AW (Bw hb) H
  rw [hb] at W
  clear hb
  refine Ab ?_
  refine ls W F Aa (Ah W Aa).q fun a w W F => ?_
  obtain ⟨x2, h2, H⟩ := Aq H
  refine B0 (Ml := []) (Zl := []) (M := []) (Z := []) (β := Unit) (pv := fun x => .iface 89 (.agg #[.int .i64 x2.1, .int .i64 x2.2])) (MM := fun x => []) (ZZ := fun x => []) W F UT Aa (fun hL => D3 _ w q_p0 (v1) p0 _ h2 ((Ay h_v1) w F).nx (At.re a_q_p0 F)) fun x w F => ?_
  have F : Stw ⟨Y, [], w0⟩ [] [] w := F
  have H := AK H
  subst H
  refine A7 W ?_
  exact ⟨(), Aa, F⟩
 have H := AY (Bx hb) H
 rw [hb] at W
 clear hb
 refine AA ?_
 have H := AK H
 subst H
 refine NO (.inr Aa) W Aa ?_
 exact ⟨(), Aa, F⟩
end Go.Proofs.YtlgjpoapclifbaaDoor
