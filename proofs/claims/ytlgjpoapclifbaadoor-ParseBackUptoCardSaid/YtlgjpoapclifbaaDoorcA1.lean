/- The functions of layer 29, E5. Conditions: none. -/
import Derived.Test.YtlgjpoapclifbaaDoorcA0
namespace Go.Proofs.YtlgjpoapclifbaaDoor
open Go Go.RowKit
set_option linter.unusedVariables false
set_option linter.unusedSimpArgs false
set_option maxRecDepth 20000
theorem S9 : Has Tryd.prog 107 := ⟨fun args w => An Tryd.func107 rfl (by decide) args w⟩
abbrev Ct  : List Value := [.int .i64 0, .int .i64 0, .int .i64 0, .slice none 0 0]
abbrev FX (a0 : Nat) : List (Nat × List Value) := [(a0, [.int .i64 0, .int .i64 0, .int .i64 0, .slice none 0 0])]
abbrev UM  : List Value := [.int .i64 1, .int .i64 0, .int .i64 0, .slice none 0 0]
abbrev UP  : List Value := [.int .i64 2, .int .i64 0, .int .i64 0, .slice none 0 0]
abbrev FL (a0 : Tr25 × ((List (Int × Int × List UInt8 × Int)) × Int)) (a1 : Value) : List Value := [.int .i64 a0.1.un.1, .int .i64 a0.1.un.2.1, .int .i64 a0.1.un.2.2.1, a1]
abbrev Ti (a0 : Value) : List Value := [.int .i64 4, .int .i64 0, .int .i64 0, a0]
noncomputable def BB (fRec_parse_parser_condition : ((List (Int × Int × List UInt8 × Int)) × Int) → Option ((Tr25 × ((List (Int × Int × List UInt8 × Int)) × Int)) ⊕ ((Int × Int) × ((List (Int × Int × List UInt8 × Int)) × Int)))) (fRec : ((List (Int × Int × List UInt8 × Int)) × Int) → Option ((Tr25 × ((List (Int × Int × List UInt8 × Int)) × Int)) ⊕ ((Int × Int) × ((List (Int × Int × List UInt8 × Int)) × Int)))) (p0 : (List (Int × Int × List UInt8 × Int)) × Int) : Option ((Tr25 × ((List (Int × Int × List UInt8 × Int)) × Int)) ⊕ ((Int × Int) × ((List (Int × Int × List UInt8 × Int)) × Int))) := (AF p0 ([116, 114, 117, 101] : List UInt8)).bind fun x1 => (if x1.1 = true then some (.inl (Tr25.of (1, 0, 0, ([] : List Tr25)), x1.2)) else (AF x1.2 ([102, 97, 108, 115, 101] : List UInt8)).bind fun x2 => (if x2.1 = true then some (.inl (Tr25.of (2, 0, 0, ([] : List Tr25)), x2.2)) else (AF x2.2 ([110, 111, 116] : List UInt8)).bind fun x3 => (if x3.1 = true then (fRec x3.2).bind fun x4 => B4 x4 (fun x5 => some (.inl (Tr25.of (4, 0, 0, ([x5.1] : List Tr25)), x5.2))) (fun x6 => some (.inr (x6.1, x6.2))) else (AF x3.2 ([40] : List UInt8)).bind fun x7 => (if x7.1 = true then (fRec_parse_parser_condition x7.2).bind fun x8 => B4 x8 (fun x9 => (AV x9.2 ([41] : List UInt8)).bind fun x11 => B4 x11 (fun x12 => some (.inl (x9.1, x12))) (fun x13 => some (.inr (x13.1, x13.2)))) (fun x10 => some (.inr (x10.1, x10.2))) else (Ck x7.2 5).bind fun x14 => B4 x14 (fun x15 => (AV x15.2 ([61] : List UInt8)).bind fun x17 => B4 x17 (fun x18 => (BE x18).bind fun x20 => B4 x20 (fun x21 => some (.inl (Tr25.of (3, x15.1, x21.1, ([] : List Tr25)), x21.2))) (fun x22 => some (.inr (x22.1, x22.2)))) (fun x19 => some (.inr (x19.1, x19.2)))) (fun x16 => some (.inr (x16.1, x16.2)))))))
noncomputable def Bm (fRec_parse_parser_condition : ((List (Int × Int × List UInt8 × Int)) × Int) → Option ((Tr25 × ((List (Int × Int × List UInt8 × Int)) × Int)) ⊕ ((Int × Int) × ((List (Int × Int × List UInt8 × Int)) × Int)))) : Nat → ((List (Int × Int × List UInt8 × Int)) × Int) → Option ((Tr25 × ((List (Int × Int × List UInt8 × Int)) × Int)) ⊕ ((Int × Int) × ((List (Int × Int × List UInt8 × Int)) × Int)))
  | 0 => fun _ => none
  | n + 1 => BB fRec_parse_parser_condition (Bm fRec_parse_parser_condition n)
noncomputable def Cc (fRec_parse_parser_condition : ((List (Int × Int × List UInt8 × Int)) × Int) → Option ((Tr25 × ((List (Int × Int × List UInt8 × Int)) × Int)) ⊕ ((Int × Int) × ((List (Int × Int × List UInt8 × Int)) × Int)))) (p0 : (List (Int × Int × List UInt8 × Int)) × Int) : Option ((Tr25 × ((List (Int × Int × List UInt8 × Int)) × Int)) ⊕ ((Int × Int) × ((List (Int × Int × List UInt8 × Int)) × Int))) := FY fun n => Bm fRec_parse_parser_condition n p0
theorem HV (fRec_parse_parser_condition : ((List (Int × Int × List UInt8 × Int)) × Int) → Option ((Tr25 × ((List (Int × Int × List UInt8 × Int)) × Int)) ⊕ ((Int × Int) × ((List (Int × Int × List UInt8 × Int)) × Int)))) (ih_parse_parser_condition : ∀ (Y : Nat → Prop) (X : List Nat) (w0 : World) (q_p0 : Nat) (v1 : Value) (p0 : (List (Int × Int × List UInt8 × Int)) × Int) (r : (Tr25 × ((List (Int × Int × List UInt8 × Int)) × Int)) ⊕ ((Int × Int) × ((List (Int × Int × List UInt8 × Int)) × Int))) (H : fRec_parse_parser_condition p0 = some r) (hL : Stw ⟨Y, X, w0⟩ [(q_p0, [v1, .int .i64 p0.2])] [row v1 98 AC p0.1] w0), Calls Tryd.prog 33 #[.pointer (some ⟨q_p0, 0, none⟩)] w0 fun e w' => D9 r (fun r => ∃ x : Value × Value, e = .returned (.agg #[.int .i64 r.1.un.1, .int .i64 r.1.un.2.1, .int .i64 r.1.un.2.2.1, x.1]) ∧ Stw ⟨Y, X, w0⟩ [(q_p0, [x.2, .int .i64 r.2.2])] [row (x.2) 98 AC r.2.1, AU (x.1) AR r.1.un.2.2.2] w') (fun r => ∃ x : Value, e = .panicked [{ v := .iface 89 (.agg #[.int .i64 r.1.1, .int .i64 r.1.2]), recovered := false }] ∧ Stw ⟨Y, X, w0⟩ [(q_p0, [x, .int .i64 r.2.2])] [row (x) 98 AC r.2.1] w')) (fRec : ((List (Int × Int × List UInt8 × Int)) × Int) → Option ((Tr25 × ((List (Int × Int × List UInt8 × Int)) × Int)) ⊕ ((Int × Int) × ((List (Int × Int × List UInt8 × Int)) × Int)))) (ih : ∀ (Y : Nat → Prop) (X : List Nat) (w0 : World) (q_p0 : Nat) (v1 : Value) (p0 : (List (Int × Int × List UInt8 × Int)) × Int) (r : (Tr25 × ((List (Int × Int × List UInt8 × Int)) × Int)) ⊕ ((Int × Int) × ((List (Int × Int × List UInt8 × Int)) × Int))) (H : fRec p0 = some r) (hL : Stw ⟨Y, X, w0⟩ [(q_p0, [v1, .int .i64 p0.2])] [row v1 98 AC p0.1] w0), Calls Tryd.prog 88 #[.pointer (some ⟨q_p0, 0, none⟩)] w0 fun e w' => D9 r (fun r => ∃ x : Value × Value, e = .returned (.agg #[.int .i64 r.1.un.1, .int .i64 r.1.un.2.1, .int .i64 r.1.un.2.2.1, x.1]) ∧ Stw ⟨Y, X, w0⟩ [(q_p0, [x.2, .int .i64 r.2.2])] [row (x.2) 98 AC r.2.1, AU (x.1) AR r.1.un.2.2.2] w') (fun r => ∃ x : Value, e = .panicked [{ v := .iface 89 (.agg #[.int .i64 r.1.1, .int .i64 r.1.2]), recovered := false }] ∧ Stw ⟨Y, X, w0⟩ [(q_p0, [x, .int .i64 r.2.2])] [row (x) 98 AC r.2.1] w')) (Y : Nat → Prop) (X : List Nat) (w0 : World) (q_p0 : Nat) (v1 : Value) (p0 : (List (Int × Int × List UInt8 × Int)) × Int) (r : (Tr25 × ((List (Int × Int × List UInt8 × Int)) × Int)) ⊕ ((Int × Int) × ((List (Int × Int × List UInt8 × Int)) × Int))) (H : BB fRec_parse_parser_condition fRec p0 = some r) (hL : Stw ⟨Y, X, w0⟩ [(q_p0, [v1, .int .i64 p0.2])] [row v1 98 AC p0.1] w0) :
    Calls Tryd.prog 88 #[.pointer (some ⟨q_p0, 0, none⟩)] w0 fun e w' => D9 r (fun r => ∃ x : Value × Value, e = .returned (.agg #[.int .i64 r.1.un.1, .int .i64 r.1.un.2.1, .int .i64 r.1.un.2.2.1, x.1]) ∧ Stw ⟨Y, X, w0⟩ [(q_p0, [x.2, .int .i64 r.2.2])] [row (x.2) 98 AC r.2.1, AU (x.1) AR r.1.un.2.2.2] w') (fun r => ∃ x : Value, e = .panicked [{ v := .iface 89 (.agg #[.int .i64 r.1.1, .int .i64 r.1.2]), recovered := false }] ∧ Stw ⟨Y, X, w0⟩ [(q_p0, [x, .int .i64 r.2.2])] [row (x) 98 AC r.2.1] w') := by
 refine enter Tryd.func88 Aa Tryd.ntmps88 Aa fun a W => ?_
 have F := hL
 unfold BB at H
 refine Ak (Ab ?_)
 refine Bi (cs := (Ct)) W F Aa NI Aa fun b1 a w W F => ?_
 refine Ae (Ac (Ak (AP (Ak (Ab ?_)))))
 refine ls W F Aa (Ah W Aa).q fun a w W F => ?_
 obtain ⟨x1, h1, H⟩ := Aq H
 have F := F.frontM (i := 1) Aa Aa
 refine A2 (Ml := [(q_p0, [v1, .int .i64 p0.2])]) (Zl := [row v1 98 AC p0.1]) (M := (FX b1)) (Z := []) (β := Value) (rv := fun x => .bool x1.1) (MM := fun x => [(q_p0, [x, .int .i64 x1.2.2])]) (ZZ := fun x => [row x 98 AC x1.2.1]) W F QR Aa Aa (fun hL => A9 _ _ w q_p0 (v1) p0 ([116, 114, 117, 101] : List UInt8) _ h1 hL) fun x a w W F => ?_
 obtain ⟨v2, rfl⟩ : ∃ y, y = x := ⟨x, rfl⟩
 have F : Stw ⟨Y, X, w0⟩ [(q_p0, [v2, .int .i64 x1.2.2]), (b1, (Ct))] [row v2 98 AC x1.2.1] w := F
 refine ls W F Aa (Ag W Aa).q fun a w W F => ?_
 refine Ae (Ac ?_)
 refine Az W Aa (fun hb => ?_) fun hb => ?_
 ·
  have H := AW hb H
  rw [hb] at W
  clear hb
  refine Ak (Ab ?_)
  refine ls W F Aa (B7 (v := Value.agg #[.int .i64 1, .int .i64 0, .int .i64 0, .slice none 0 0]) SM W Aa Aa Aa).q fun a w W F => ?_
  refine AL (vs := (UM)) (M' := [(q_p0, [v2, .int .i64 x1.2.2]), (b1, (UM))]) 1 W F Aa Aa Aa FW Aa Aa Aa Aa Aa fun w F => ?_
  refine Ae (Ac (Ax (Bc (AO ?_))))
  have H := AK H
  subst H
  refine AG (.inl Aa) W F Aa (A3 1 W Aa Aa FW Aa) ?_
  have F := F.note (Sl.nil (r := AR))
  have F := F.frontZ (i := 1) Aa Aa
  have F := F.sub (M' := [(q_p0, [v2, .int .i64 x1.2.2])]) (Z' := [row v2 98 AC x1.2.1, AU (Value.slice none 0 0) AR ([])]) (List.Sublist.cons_cons _ (List.nil_sublist _)) (List.Sublist.refl _)
  exact ⟨((Value.slice none 0 0), (v2)), Aa, F⟩
 have H := AY (by rw [hb]; decide) H
 rw [hb] at W
 clear hb
 refine Ak (Ab ?_)
 refine ls W F Aa (Ah W Aa).q fun a w W F => ?_
 obtain ⟨x2, h2, H⟩ := Aq H
 refine A2 (Ml := [(q_p0, [v2, .int .i64 x1.2.2])]) (Zl := [row v2 98 AC x1.2.1]) (M := (FX b1)) (Z := []) (β := Value) (rv := fun x => .bool x2.1) (MM := fun x => [(q_p0, [x, .int .i64 x2.2.2])]) (ZZ := fun x => [row x 98 AC x2.2.1]) W F QR Aa Aa (fun hL => A9 _ _ w q_p0 (v2) x1.2 ([102, 97, 108, 115, 101] : List UInt8) _ h2 hL) fun x a w W F => ?_
 obtain ⟨v3, rfl⟩ : ∃ y, y = x := ⟨x, rfl⟩
 have F : Stw ⟨Y, X, w0⟩ [(q_p0, [v3, .int .i64 x2.2.2]), (b1, (Ct))] [row v3 98 AC x2.2.1] w := F
 refine ls W F Aa (Ag W Aa).q fun a w W F => ?_
 refine Ae (Ac ?_)
 refine Az W Aa (fun hb => ?_) fun hb => ?_
 ·
  have H := AW hb H
  rw [hb] at W
  clear hb
  refine Ak (Ab ?_)
  refine ls W F Aa (B7 (v := Value.agg #[.int .i64 2, .int .i64 0, .int .i64 0, .slice none 0 0]) SM W Aa Aa Aa).q fun a w W F => ?_
  refine AL (vs := (UP)) (M' := [(q_p0, [v3, .int .i64 x2.2.2]), (b1, (UP))]) 1 W F Aa Aa Aa FW Aa Aa Aa Aa Aa fun w F => ?_
  refine Ae (Ac (Ax (Bc (AO ?_))))
  have H := AK H
  subst H
  refine AG (.inl Aa) W F Aa (A3 1 W Aa Aa FW Aa) ?_
  have F := F.note (Sl.nil (r := AR))
  have F := F.frontZ (i := 1) Aa Aa
  have F := F.sub (M' := [(q_p0, [v3, .int .i64 x2.2.2])]) (Z' := [row v3 98 AC x2.2.1, AU (Value.slice none 0 0) AR ([])]) (List.Sublist.cons_cons _ (List.nil_sublist _)) (List.Sublist.refl _)
  exact ⟨((Value.slice none 0 0), (v3)), Aa, F⟩
 have H := AY (by rw [hb]; decide) H
 rw [hb] at W
 clear hb
 refine Ak (Ab ?_)
 refine ls W F Aa (Ah W Aa).q fun a w W F => ?_
 obtain ⟨x3, h3, H⟩ := Aq H
 refine A2 (Ml := [(q_p0, [v3, .int .i64 x2.2.2])]) (Zl := [row v3 98 AC x2.2.1]) (M := (FX b1)) (Z := []) (β := Value) (rv := fun x => .bool x3.1) (MM := fun x => [(q_p0, [x, .int .i64 x3.2.2])]) (ZZ := fun x => [row x 98 AC x3.2.1]) W F QR Aa Aa (fun hL => A9 _ _ w q_p0 (v3) x2.2 ([110, 111, 116] : List UInt8) _ h3 hL) fun x a w W F => ?_
 obtain ⟨v4, rfl⟩ : ∃ y, y = x := ⟨x, rfl⟩
 have F : Stw ⟨Y, X, w0⟩ [(q_p0, [v4, .int .i64 x3.2.2]), (b1, (Ct))] [row v4 98 AC x3.2.1] w := F
 refine ls W F Aa (Ag W Aa).q fun a w W F => ?_
 refine Ae (Ac ?_)
 refine Az W Aa (fun hb => ?_) fun hb => ?_
 ·
  have H := AW hb H
  rw [hb] at W
  clear hb
  refine Ak (Ab ?_)
  refine ls W F Aa (Ah W Aa).q fun a w W F => ?_
  obtain ⟨x4, h4, H⟩ := Aq H
  rcases x4 with x5 | x6
  ·
   have H := EZ H
   refine A2 (Ml := [(q_p0, [v4, .int .i64 x3.2.2])]) (Zl := [row v4 98 AC x3.2.1]) (M := (FX b1)) (Z := []) (β := Value × Value) (rv := fun x => .agg #[.int .i64 x5.1.un.1, .int .i64 x5.1.un.2.1, .int .i64 x5.1.un.2.2.1, x.1]) (MM := fun x => [(q_p0, [x.2, .int .i64 x5.2.2])]) (ZZ := fun x => [row x.2 98 AC x5.2.1, AU x.1 AR x5.1.un.2.2.2]) W F Un Aa Aa (fun hL => ih _ _ w q_p0 (v4) x3.2 _ h4 hL) fun x a w W F => ?_
   obtain ⟨v5, v6⟩ := x
   have F : Stw ⟨Y, X, w0⟩ [(q_p0, [v6, .int .i64 x5.2.2]), (b1, (Ct))] [row v6 98 AC x5.2.1, AU v5 AR x5.1.un.2.2.2] w := F
   refine FN (z := Value.agg #[.int .i64 0, .int .i64 0, .int .i64 0, .slice none 0 0]) (cs := (FL x5 v5)) AR ([x5.1] : List Tr25) W F Aa Rl NI Aa Aa Aa (AX Aa Aa Aa B2) Aa Aa ⟨[Value.int .i64 x5.1.un.1, Value.int .i64 x5.1.un.2.1, Value.int .i64 x5.1.un.2.2.1, v5], _, Aa, (KO.2 ⟨[Value.int .i64 x5.1.un.1], [Value.int .i64 x5.1.un.2.1, Value.int .i64 x5.1.un.2.2.1, v5], Aa, Aa, ⟨[Value.int .i64 x5.1.un.2.1], [Value.int .i64 x5.1.un.2.2.1, v5], Aa, Aa, ⟨[Value.int .i64 x5.1.un.2.2.1], [v5], Aa, Aa, ⟨_, Aa, (F.item (i := 1) Aa)⟩⟩⟩⟩), Aa⟩ fun v7 a w W F => ?_
   refine ls W F Aa (B7 (v := Value.agg #[.int .i64 4, .int .i64 0, .int .i64 0, v7]) SM W Aa (AX Aa Aa Aa (AX Aa (FH (F.one (k := 0) Aa)) Aa B2)) Aa).q fun a w W F => ?_
   refine AL (vs := (Ti v7)) (M' := [(q_p0, [v6, .int .i64 x5.2.2]), (b1, (Ti v7))]) 1 W F Aa Aa Aa FW Aa Aa Aa (Ai Aa (Ai Aa (Ai Aa (Ai (F.one (k := 0) Aa) Bp)))) Aa fun w F => ?_
   refine Ae (Ac (Ax (Bc (AO ?_))))
   have H := AK H
   subst H
   refine AG (.inl Aa) W F Aa (A3 1 W Aa Aa FW Aa) ?_
   have F := F.freeze
   have F := F.frontZ (i := 1) Aa Aa
   have F := F.sub (M' := [(q_p0, [v6, .int .i64 x5.2.2])]) (Z' := [row v6 98 AC x5.2.1, AU v7 AR ([x5.1] : List Tr25)]) (List.Sublist.cons_cons _ (List.nil_sublist _)) (List.Sublist.cons_cons _ (List.Sublist.cons_cons _ (List.nil_sublist _)))
   exact ⟨((v7), (v6)), Aa, F⟩
  have H := EY H
  refine B0 (Ml := [(q_p0, [v4, .int .i64 x3.2.2])]) (Zl := [row v4 98 AC x3.2.1]) (M := (FX b1)) (Z := []) (β := Value) (pv := fun x => .iface 89 (.agg #[.int .i64 x6.1.1, .int .i64 x6.1.2])) (MM := fun x => [(q_p0, [x, .int .i64 x6.2.2])]) (ZZ := fun x => [row x 98 AC x6.2.1]) W F Un Aa (fun hL => ih _ _ w q_p0 (v4) x3.2 _ h4 hL) fun x w F => ?_
  obtain ⟨v8, rfl⟩ : ∃ y, y = x := ⟨x, rfl⟩
  have F : Stw ⟨Y, X, w0⟩ [(q_p0, [v8, .int .i64 x6.2.2]), (b1, (Ct))] [row v8 98 AC x6.2.1] w := F
  refine BF (EB (BF ?_))
  have H := AK H
  subst H
  refine A7 W ?_
  have F := F.sub (M' := [(q_p0, [v8, .int .i64 x6.2.2])]) (Z' := [row v8 98 AC x6.2.1]) (List.Sublist.cons_cons _ (List.nil_sublist _)) (List.Sublist.refl _)
  exact ⟨(v8), Aa, F⟩
 have H := AY (by rw [hb]; decide) H
 rw [hb] at W
 clear hb
 refine Ak (Ab ?_)
 refine ls W F Aa (Ah W Aa).q fun a w W F => ?_
 obtain ⟨x7, h5, H⟩ := Aq H
 refine A2 (Ml := [(q_p0, [v4, .int .i64 x3.2.2])]) (Zl := [row v4 98 AC x3.2.1]) (M := (FX b1)) (Z := []) (β := Value) (rv := fun x => .bool x7.1) (MM := fun x => [(q_p0, [x, .int .i64 x7.2.2])]) (ZZ := fun x => [row x 98 AC x7.2.1]) W F QR Aa Aa (fun hL => A9 _ _ w q_p0 (v4) x3.2 ([40] : List UInt8) _ h5 hL) fun x a w W F => ?_
 obtain ⟨v9, rfl⟩ : ∃ y, y = x := ⟨x, rfl⟩
 have F : Stw ⟨Y, X, w0⟩ [(q_p0, [v9, .int .i64 x7.2.2]), (b1, (Ct))] [row v9 98 AC x7.2.1] w := F
 refine ls W F Aa (Ag W Aa).q fun a w W F => ?_
 refine Ae (Ac ?_)
 refine Az W Aa (fun hb => ?_) fun hb => ?_
 ·
  have H := AW hb H
  rw [hb] at W
  clear hb
  refine Ak (Ab ?_)
  refine ls W F Aa (Ah W Aa).q fun a w W F => ?_
  obtain ⟨x8, h6, H⟩ := Aq H
  rcases x8 with x9 | x10
  ·
   have H := EZ H
   refine A2 (Ml := [(q_p0, [v9, .int .i64 x7.2.2])]) (Zl := [row v9 98 AC x7.2.1]) (M := (FX b1)) (Z := []) (β := Value × Value) (rv := fun x => .agg #[.int .i64 x9.1.un.1, .int .i64 x9.1.un.2.1, .int .i64 x9.1.un.2.2.1, x.1]) (MM := fun x => [(q_p0, [x.2, .int .i64 x9.2.2])]) (ZZ := fun x => [row x.2 98 AC x9.2.1, AU x.1 AR x9.1.un.2.2.2]) W F TH Aa Aa (fun hL => ih_parse_parser_condition _ _ w q_p0 (v9) x7.2 _ h6 hL) fun x a w W F => ?_
   obtain ⟨v10, v11⟩ := x
   have F : Stw ⟨Y, X, w0⟩ [(q_p0, [v11, .int .i64 x9.2.2]), (b1, (Ct))] [row v11 98 AC x9.2.1, AU v10 AR x9.1.un.2.2.2] w := F
   refine Bi (cs := (Ct)) W F Aa NI Aa fun b2 a w W F => ?_
   refine AL (vs := (FL x9 v10)) (M' := [(b2, [.int .i64 x9.1.un.1, .int .i64 x9.1.un.2.1, .int .i64 x9.1.un.2.2.1, v10]), (q_p0, [v11, .int .i64 x9.2.2]), (b1, [.int .i64 0, .int .i64 0, .int .i64 0, .slice none 0 0])]) 0 W F Aa Aa Aa FW Aa Aa Aa (Ai Aa (Ai Aa (Ai Aa (Ai (F.oneF (k := 1) Aa) Bp)))) Aa fun w F => ?_
   refine Ae (Ac (Ak (Ab ?_)))
   refine ls W F Aa (Ah W Aa).q fun a w W F => ?_
   obtain ⟨x11, h7, H⟩ := Aq H
   rcases x11 with x12 | x13
   ·
    have H := EZ H
    have F := F.frontM (i := 1) Aa Aa
    refine A2 (Ml := [(q_p0, [v11, .int .i64 x9.2.2])]) (Zl := [row v11 98 AC x9.2.1]) (M := [(b2, [.int .i64 x9.1.un.1, .int .i64 x9.1.un.2.1, .int .i64 x9.1.un.2.2.1, v10]), (b1, [.int .i64 0, .int .i64 0, .int .i64 0, .slice none 0 0])]) (Z := [AU v10 AR x9.1.un.2.2.2]) (β := Value) (rv := fun x => .tuple #[]) (MM := fun x => [(q_p0, [x, .int .i64 x12.2])]) (ZZ := fun x => [row x 98 AC x12.1]) W F Lr Aa Aa (fun hL => Bl _ _ w q_p0 (v11) x9.2 ([41] : List UInt8) _ h7 hL) fun x a w W F => ?_
    obtain ⟨v12, rfl⟩ : ∃ y, y = x := ⟨x, rfl⟩
    have F : Stw ⟨Y, X, w0⟩ [(q_p0, [v12, .int .i64 x12.2]), (b2, (FL x9 v10)), (b1, (Ct))] [row v12 98 AC x12.1, AU v10 AR x9.1.un.2.2.2] w := F
    refine Ae (Ac (Ak (Ab ?_)))
    refine ls W F Aa (Av (v := Value.agg #[.int .i64 x9.1.un.1, .int .i64 x9.1.un.2.1, .int .i64 x9.1.un.2.2.1, v10]) 1 W Aa Aa FW Aa).q fun a w W F => ?_
    refine AL (vs := (FL x9 v10)) (M' := [(q_p0, [v12, .int .i64 x12.2]), (b2, (FL x9 v10)), (b1, (FL x9 v10))]) 2 W F Aa Aa Aa FW Aa Aa Aa (Ai Aa (Ai Aa (Ai Aa (Ai (F.oneF (k := 1) Aa) Bp)))) Aa fun w F => ?_
    refine Ae (Ac (Ax (Bc (AO ?_))))
    have H := AK H
    subst H
    refine AG (.inl Aa) W F Aa (A3 2 W Aa Aa FW Aa) ?_
    have F := F.frontZ (i := 1) Aa Aa
    have F := F.frontZ (i := 1) Aa Aa
    have F := F.sub (M' := [(q_p0, [v12, .int .i64 x12.2])]) (Z' := [row v12 98 AC x12.1, AU v10 AR x9.1.un.2.2.2]) (List.Sublist.cons_cons _ (List.nil_sublist _)) (List.Sublist.refl _)
    exact ⟨((v10), (v12)), Aa, F⟩
   have H := EY H
   have F := F.frontM (i := 1) Aa Aa
   refine B0 (Ml := [(q_p0, [v11, .int .i64 x9.2.2])]) (Zl := [row v11 98 AC x9.2.1]) (M := [(b2, [.int .i64 x9.1.un.1, .int .i64 x9.1.un.2.1, .int .i64 x9.1.un.2.2.1, v10]), (b1, [.int .i64 0, .int .i64 0, .int .i64 0, .slice none 0 0])]) (Z := [AU v10 AR x9.1.un.2.2.2]) (β := Value) (pv := fun x => .iface 89 (.agg #[.int .i64 x13.1.1, .int .i64 x13.1.2])) (MM := fun x => [(q_p0, [x, .int .i64 x13.2.2])]) (ZZ := fun x => [row x 98 AC x13.2.1]) W F Lr Aa (fun hL => Bl _ _ w q_p0 (v11) x9.2 ([41] : List UInt8) _ h7 hL) fun x w F => ?_
   obtain ⟨v13, rfl⟩ : ∃ y, y = x := ⟨x, rfl⟩
   have F : Stw ⟨Y, X, w0⟩ [(q_p0, [v13, .int .i64 x13.2.2]), (b2, (FL x9 v10)), (b1, (Ct))] [row v13 98 AC x13.2.1, AU v10 AR x9.1.un.2.2.2] w := F
   refine BF (EB (BF ?_))
   have H := AK H
   subst H
   refine A7 W ?_
   have F := F.sub (M' := [(q_p0, [v13, .int .i64 x13.2.2])]) (Z' := [row v13 98 AC x13.2.1]) (List.Sublist.cons_cons _ (List.nil_sublist _)) (List.Sublist.cons_cons _ (List.nil_sublist _))
   exact ⟨(v13), Aa, F⟩
  have H := EY H
  refine B0 (Ml := [(q_p0, [v9, .int .i64 x7.2.2])]) (Zl := [row v9 98 AC x7.2.1]) (M := (FX b1)) (Z := []) (β := Value) (pv := fun x => .iface 89 (.agg #[.int .i64 x10.1.1, .int .i64 x10.1.2])) (MM := fun x => [(q_p0, [x, .int .i64 x10.2.2])]) (ZZ := fun x => [row x 98 AC x10.2.1]) W F TH Aa (fun hL => ih_parse_parser_condition _ _ w q_p0 (v9) x7.2 _ h6 hL) fun x w F => ?_
  obtain ⟨v14, rfl⟩ : ∃ y, y = x := ⟨x, rfl⟩
  have F : Stw ⟨Y, X, w0⟩ [(q_p0, [v14, .int .i64 x10.2.2]), (b1, (Ct))] [row v14 98 AC x10.2.1] w := F
  refine BF (EB (BF ?_))
  have H := AK H
  subst H
  refine A7 W ?_
  have F := F.sub (M' := [(q_p0, [v14, .int .i64 x10.2.2])]) (Z' := [row v14 98 AC x10.2.1]) (List.Sublist.cons_cons _ (List.nil_sublist _)) (List.Sublist.refl _)
  exact ⟨(v14), Aa, F⟩
 have H := AY (by rw [hb]; decide) H
 rw [hb] at W
 clear hb
 refine AA (Bn (Ac (Ak (Ab ?_))))
 refine ls W F Aa (Ah W Aa).q fun a w W F => ?_
 obtain ⟨x14, h8, H⟩ := Aq H
 rcases x14 with x15 | x16
 ·
  have H := EZ H
  refine A2 (Ml := [(q_p0, [v9, .int .i64 x7.2.2])]) (Zl := [row v9 98 AC x7.2.1]) (M := (FX b1)) (Z := []) (β := Value) (rv := fun x => .int .i64 x15.1) (MM := fun x => [(q_p0, [x, .int .i64 x15.2.2])]) (ZZ := fun x => [row x 98 AC x15.2.1]) W F SY Aa Aa (fun hL => DL _ _ w q_p0 (v9) x7.2 5 _ h8 hL) fun x a w W F => ?_
  obtain ⟨v15, rfl⟩ : ∃ y, y = x := ⟨x, rfl⟩
  have F : Stw ⟨Y, X, w0⟩ [(q_p0, [v15, .int .i64 x15.2.2]), (b1, (Ct))] [row v15 98 AC x15.2.1] w := F
  refine ls W F Aa (Ag W Aa).q fun a w W F => ?_
  refine Ae (Ac (Ak (Ab ?_)))
  refine ls W F Aa (Ah W Aa).q fun a w W F => ?_
  obtain ⟨x17, h9, H⟩ := Aq H
  rcases x17 with x18 | x19
  ·
   have H := EZ H
   refine A2 (Ml := [(q_p0, [v15, .int .i64 x15.2.2])]) (Zl := [row v15 98 AC x15.2.1]) (M := (FX b1)) (Z := []) (β := Value) (rv := fun x => .tuple #[]) (MM := fun x => [(q_p0, [x, .int .i64 x18.2])]) (ZZ := fun x => [row x 98 AC x18.1]) W F Lr Aa Aa (fun hL => Bl _ _ w q_p0 (v15) x15.2 ([61] : List UInt8) _ h9 hL) fun x a w W F => ?_
   obtain ⟨v16, rfl⟩ : ∃ y, y = x := ⟨x, rfl⟩
   have F : Stw ⟨Y, X, w0⟩ [(q_p0, [v16, .int .i64 x18.2]), (b1, (Ct))] [row v16 98 AC x18.1] w := F
   refine Ae (Ac (Ak (Ab ?_)))
   iterate 2 refine ls W F Aa (Ah W Aa).q fun a w W F => ?_
   obtain ⟨x20, h10, H⟩ := Aq H
   rcases x20 with x21 | x22
   ·
    have H := EZ H
    refine A2 (Ml := [(q_p0, [v16, .int .i64 x18.2])]) (Zl := [row v16 98 AC x18.1]) (M := (FX b1)) (Z := []) (β := Value) (rv := fun x => .int .i64 x21.1) (MM := fun x => [(q_p0, [x, .int .i64 x21.2.2])]) (ZZ := fun x => [row x 98 AC x21.2.1]) W F S9 Aa Aa (fun hL => DE _ _ w q_p0 (v16) x18 _ h10 hL) fun x a w W F => ?_
    obtain ⟨v17, rfl⟩ : ∃ y, y = x := ⟨x, rfl⟩
    have F : Stw ⟨Y, X, w0⟩ [(q_p0, [v17, .int .i64 x21.2.2]), (b1, (Ct))] [row v17 98 AC x21.2.1] w := F
    refine ls W F Aa (B7 (v := Value.agg #[.int .i64 3, .int .i64 x15.1, .int .i64 x21.1, .slice none 0 0]) SM W Aa Aa Aa).q fun a w W F => ?_
    refine AL (vs := [.int .i64 3, .int .i64 x15.1, .int .i64 x21.1, .slice none 0 0]) (M' := [(q_p0, [v17, .int .i64 x21.2.2]), (b1, [.int .i64 3, .int .i64 x15.1, .int .i64 x21.1, .slice none 0 0])]) 1 W F Aa Aa Aa FW Aa Aa Aa Aa Aa fun w F => ?_
    refine Ae (Ac (Ax ?_))
    have H := AK H
    subst H
    refine AG (.inl Aa) W F Aa (A3 1 W Aa Aa FW Aa) ?_
    have F := F.note (Sl.nil (r := AR))
    have F := F.frontZ (i := 1) Aa Aa
    have F := F.sub (M' := [(q_p0, [v17, .int .i64 x21.2.2])]) (Z' := [row v17 98 AC x21.2.1, AU (Value.slice none 0 0) AR ([])]) (List.Sublist.cons_cons _ (List.nil_sublist _)) (List.Sublist.refl _)
    exact ⟨((Value.slice none 0 0), (v17)), Aa, F⟩
   have H := EY H
   refine B0 (Ml := [(q_p0, [v16, .int .i64 x18.2])]) (Zl := [row v16 98 AC x18.1]) (M := (FX b1)) (Z := []) (β := Value) (pv := fun x => .iface 89 (.agg #[.int .i64 x22.1.1, .int .i64 x22.1.2])) (MM := fun x => [(q_p0, [x, .int .i64 x22.2.2])]) (ZZ := fun x => [row x 98 AC x22.2.1]) W F S9 Aa (fun hL => DE _ _ w q_p0 (v16) x18 _ h10 hL) fun x w F => ?_
   obtain ⟨v18, rfl⟩ : ∃ y, y = x := ⟨x, rfl⟩
   have F : Stw ⟨Y, X, w0⟩ [(q_p0, [v18, .int .i64 x22.2.2]), (b1, (Ct))] [row v18 98 AC x22.2.1] w := F
   refine BF ?_
   have H := AK H
   subst H
   refine A7 W ?_
   have F := F.sub (M' := [(q_p0, [v18, .int .i64 x22.2.2])]) (Z' := [row v18 98 AC x22.2.1]) (List.Sublist.cons_cons _ (List.nil_sublist _)) (List.Sublist.refl _)
   exact ⟨(v18), Aa, F⟩
  have H := EY H
  refine B0 (Ml := [(q_p0, [v15, .int .i64 x15.2.2])]) (Zl := [row v15 98 AC x15.2.1]) (M := (FX b1)) (Z := []) (β := Value) (pv := fun x => .iface 89 (.agg #[.int .i64 x19.1.1, .int .i64 x19.1.2])) (MM := fun x => [(q_p0, [x, .int .i64 x19.2.2])]) (ZZ := fun x => [row x 98 AC x19.2.1]) W F Lr Aa (fun hL => Bl _ _ w q_p0 (v15) x15.2 ([61] : List UInt8) _ h9 hL) fun x w F => ?_
  obtain ⟨v19, rfl⟩ : ∃ y, y = x := ⟨x, rfl⟩
  have F : Stw ⟨Y, X, w0⟩ [(q_p0, [v19, .int .i64 x19.2.2]), (b1, (Ct))] [row v19 98 AC x19.2.1] w := F
  refine BF ?_
  have H := AK H
  subst H
  refine A7 W ?_
  have F := F.sub (M' := [(q_p0, [v19, .int .i64 x19.2.2])]) (Z' := [row v19 98 AC x19.2.1]) (List.Sublist.cons_cons _ (List.nil_sublist _)) (List.Sublist.refl _)
  exact ⟨(v19), Aa, F⟩
 have H := EY H
 refine B0 (Ml := [(q_p0, [v9, .int .i64 x7.2.2])]) (Zl := [row v9 98 AC x7.2.1]) (M := (FX b1)) (Z := []) (β := Value) (pv := fun x => .iface 89 (.agg #[.int .i64 x16.1.1, .int .i64 x16.1.2])) (MM := fun x => [(q_p0, [x, .int .i64 x16.2.2])]) (ZZ := fun x => [row x 98 AC x16.2.1]) W F SY Aa (fun hL => DL _ _ w q_p0 (v9) x7.2 5 _ h8 hL) fun x w F => ?_
 obtain ⟨v20, rfl⟩ : ∃ y, y = x := ⟨x, rfl⟩
 have F : Stw ⟨Y, X, w0⟩ [(q_p0, [v20, .int .i64 x16.2.2]), (b1, (Ct))] [row v20 98 AC x16.2.1] w := F
 refine BF ?_
 have H := AK H
 subst H
 refine A7 W ?_
 have F := F.sub (M' := [(q_p0, [v20, .int .i64 x16.2.2])]) (Z' := [row v20 98 AC x16.2.1]) (List.Sublist.cons_cons _ (List.nil_sublist _)) (List.Sublist.refl _)
 exact ⟨(v20), Aa, F⟩
theorem Ig (fRec_parse_parser_condition : ((List (Int × Int × List UInt8 × Int)) × Int) → Option ((Tr25 × ((List (Int × Int × List UInt8 × Int)) × Int)) ⊕ ((Int × Int) × ((List (Int × Int × List UInt8 × Int)) × Int)))) (ih_parse_parser_condition : ∀ (Y : Nat → Prop) (X : List Nat) (w0 : World) (q_p0 : Nat) (v1 : Value) (p0 : (List (Int × Int × List UInt8 × Int)) × Int) (r : (Tr25 × ((List (Int × Int × List UInt8 × Int)) × Int)) ⊕ ((Int × Int) × ((List (Int × Int × List UInt8 × Int)) × Int))) (H : fRec_parse_parser_condition p0 = some r) (hL : Stw ⟨Y, X, w0⟩ [(q_p0, [v1, .int .i64 p0.2])] [row v1 98 AC p0.1] w0), Calls Tryd.prog 33 #[.pointer (some ⟨q_p0, 0, none⟩)] w0 fun e w' => D9 r (fun r => ∃ x : Value × Value, e = .returned (.agg #[.int .i64 r.1.un.1, .int .i64 r.1.un.2.1, .int .i64 r.1.un.2.2.1, x.1]) ∧ Stw ⟨Y, X, w0⟩ [(q_p0, [x.2, .int .i64 r.2.2])] [row (x.2) 98 AC r.2.1, AU (x.1) AR r.1.un.2.2.2] w') (fun r => ∃ x : Value, e = .panicked [{ v := .iface 89 (.agg #[.int .i64 r.1.1, .int .i64 r.1.2]), recovered := false }] ∧ Stw ⟨Y, X, w0⟩ [(q_p0, [x, .int .i64 r.2.2])] [row (x) 98 AC r.2.1] w')) : ∀ (n : Nat) (Y : Nat → Prop) (X : List Nat) (w0 : World) (q_p0 : Nat) (v1 : Value) (p0 : (List (Int × Int × List UInt8 × Int)) × Int) (r : (Tr25 × ((List (Int × Int × List UInt8 × Int)) × Int)) ⊕ ((Int × Int) × ((List (Int × Int × List UInt8 × Int)) × Int))) (H : Bm fRec_parse_parser_condition n p0 = some r) (hL : Stw ⟨Y, X, w0⟩ [(q_p0, [v1, .int .i64 p0.2])] [row v1 98 AC p0.1] w0), Calls Tryd.prog 88 #[.pointer (some ⟨q_p0, 0, none⟩)] w0 fun e w' => D9 r (fun r => ∃ x : Value × Value, e = .returned (.agg #[.int .i64 r.1.un.1, .int .i64 r.1.un.2.1, .int .i64 r.1.un.2.2.1, x.1]) ∧ Stw ⟨Y, X, w0⟩ [(q_p0, [x.2, .int .i64 r.2.2])] [row (x.2) 98 AC r.2.1, AU (x.1) AR r.1.un.2.2.2] w') (fun r => ∃ x : Value, e = .panicked [{ v := .iface 89 (.agg #[.int .i64 r.1.1, .int .i64 r.1.2]), recovered := false }] ∧ Stw ⟨Y, X, w0⟩ [(q_p0, [x, .int .i64 r.2.2])] [row (x) 98 AC r.2.1] w') := by
  intro n
  induction n with
  | zero => intro Y X w0 q_p0 v1 p0 r H; exact nomatch H
  | succ n ih => intro Y X w0 q_p0 v1 p0 r H hL; exact HV fRec_parse_parser_condition ih_parse_parser_condition (Bm fRec_parse_parser_condition n) ih Y X w0 q_p0 v1 p0 r H hL
theorem DD (fRec_parse_parser_condition : ((List (Int × Int × List UInt8 × Int)) × Int) → Option ((Tr25 × ((List (Int × Int × List UInt8 × Int)) × Int)) ⊕ ((Int × Int) × ((List (Int × Int × List UInt8 × Int)) × Int)))) (ih_parse_parser_condition : ∀ (Y : Nat → Prop) (X : List Nat) (w0 : World) (q_p0 : Nat) (v1 : Value) (p0 : (List (Int × Int × List UInt8 × Int)) × Int) (r : (Tr25 × ((List (Int × Int × List UInt8 × Int)) × Int)) ⊕ ((Int × Int) × ((List (Int × Int × List UInt8 × Int)) × Int))) (H : fRec_parse_parser_condition p0 = some r) (hL : Stw ⟨Y, X, w0⟩ [(q_p0, [v1, .int .i64 p0.2])] [row v1 98 AC p0.1] w0), Calls Tryd.prog 33 #[.pointer (some ⟨q_p0, 0, none⟩)] w0 fun e w' => D9 r (fun r => ∃ x : Value × Value, e = .returned (.agg #[.int .i64 r.1.un.1, .int .i64 r.1.un.2.1, .int .i64 r.1.un.2.2.1, x.1]) ∧ Stw ⟨Y, X, w0⟩ [(q_p0, [x.2, .int .i64 r.2.2])] [row (x.2) 98 AC r.2.1, AU (x.1) AR r.1.un.2.2.2] w') (fun r => ∃ x : Value, e = .panicked [{ v := .iface 89 (.agg #[.int .i64 r.1.1, .int .i64 r.1.2]), recovered := false }] ∧ Stw ⟨Y, X, w0⟩ [(q_p0, [x, .int .i64 r.2.2])] [row (x) 98 AC r.2.1] w')) (Y : Nat → Prop) (X : List Nat) (w0 : World) (q_p0 : Nat) (v1 : Value) (p0 : (List (Int × Int × List UInt8 × Int)) × Int) (r : (Tr25 × ((List (Int × Int × List UInt8 × Int)) × Int)) ⊕ ((Int × Int) × ((List (Int × Int × List UInt8 × Int)) × Int))) (H : Cc fRec_parse_parser_condition p0 = some r) (hL : Stw ⟨Y, X, w0⟩ [(q_p0, [v1, .int .i64 p0.2])] [row v1 98 AC p0.1] w0) :
    Calls Tryd.prog 88 #[.pointer (some ⟨q_p0, 0, none⟩)] w0 fun e w' => D9 r (fun r => ∃ x : Value × Value, e = .returned (.agg #[.int .i64 r.1.un.1, .int .i64 r.1.un.2.1, .int .i64 r.1.un.2.2.1, x.1]) ∧ Stw ⟨Y, X, w0⟩ [(q_p0, [x.2, .int .i64 r.2.2])] [row (x.2) 98 AC r.2.1, AU (x.1) AR r.1.un.2.2.2] w') (fun r => ∃ x : Value, e = .panicked [{ v := .iface 89 (.agg #[.int .i64 r.1.1, .int .i64 r.1.2]), recovered := false }] ∧ Stw ⟨Y, X, w0⟩ [(q_p0, [x, .int .i64 r.2.2])] [row (x) 98 AC r.2.1] w') := by
  obtain ⟨n, H⟩ := BR H
  exact Ig fRec_parse_parser_condition ih_parse_parser_condition n Y X w0 q_p0 v1 p0 r H hL
abbrev Oc (a : Int × Int × Int × (Value × List Tr25)) : List Value := [.int .i64 a.1, .int .i64 a.2.1, .int .i64 a.2.2.1, a.2.2.2.1]
theorem SQ : EM Ln Oc := (EM.pair Fl.int.to (EM.pair Fl.int.to (EM.pair Fl.int.to EM.vsl)))
def Cp (p0 : List Tr25) : Tr25 := Tr25.of (5, 0, 0, p0)
theorem PA (Y : Nat → Prop) (w0 : World) (v1 : Value) (p0 : List Tr25) (r : Tr25) (H : Cp p0 = r) (s_v1 : Sl w0 Y AR v1 p0) :
    Calls Tryd.prog 89 #[v1] w0 fun e w' => ∃ x : Value, e = .returned (.agg #[.int .i64 r.un.1, .int .i64 r.un.2.1, .int .i64 r.un.2.2.1, x]) ∧ Stw ⟨Y, [], w0⟩ [] [AU (x) AR r.un.2.2.2] w' := by
 refine enter Tryd.func89 Aa Tryd.ntmps89 Aa fun a W => ?_
 have F := Stw.start Y w0
 obtain ⟨v2, h1, s_v1⟩ := s_v1.ex FZ
 have h_v1 := F.nx s_v1
 unfold Cp at H
 refine Ak (Ab ?_)
 refine Bi (cs := (Ct)) W F Aa NI Aa fun b1 a w W F => ?_
 refine Ae (Ac (Ak (Ab ?_)))
 refine ls W F Aa (Ah W Aa).q fun a w W F => ?_
 refine ls W F Aa (B7 (v := Value.agg #[.int .i64 5, .int .i64 0, .int .i64 0, v1]) SM W Aa (AX Aa Aa Aa (AX Aa (FH h_v1.one) Aa B2)) Aa).q fun a w W F => ?_
 refine AL (vs := [.int .i64 5, .int .i64 0, .int .i64 0, v1]) (M' := [(b1, [.int .i64 5, .int .i64 0, .int .i64 0, v1])]) 0 W F Aa Aa Aa FW Aa Aa Aa (Ai Aa (Ai Aa (Ai Aa (Ai h_v1.one Bp)))) Aa fun w F => ?_
 refine Ae (Ac (Ax ?_))
 subst H
 refine AG (.inl Aa) W F Aa (A3 0 W Aa Aa FW Aa) ?_
 have F := F.note (Sl.hide FZ h1 (F.old s_v1))
 have F := F.sub (M' := []) (Z' := [AU v1 AR p0]) (List.nil_sublist _) (List.Sublist.refl _)
 exact ⟨(v1), Aa, F⟩
theorem Wd : Has Tryd.prog 89 := ⟨fun args w => An Tryd.func89 rfl (by decide) args w⟩
abbrev Tv (a0 : List Tr25) (a1 : Value) : List Value := [.int .i64 ((Cp a0).un.1), .int .i64 ((Cp a0).un.2.1), .int .i64 ((Cp a0).un.2.2.1), a1]
noncomputable def Bg (fRec_parse_parser_condition : ((List (Int × Int × List UInt8 × Int)) × Int) → Option ((Tr25 × ((List (Int × Int × List UInt8 × Int)) × Int)) ⊕ ((Int × Int) × ((List (Int × Int × List UInt8 × Int)) × Int)))) (p1 : List UInt8) : (List Tr25 × (List (Int × Int × List UInt8 × Int)) × Int) → Option ((List Tr25 × (List (Int × Int × List UInt8 × Int)) × Int) ⊕ ((List Tr25 × (List (Int × Int × List UInt8 × Int)) × Int) ⊕ ((Tr25 × ((List (Int × Int × List UInt8 × Int)) × Int)) ⊕ ((Int × Int) × ((List (Int × Int × List UInt8 × Int)) × Int)))))
  | (x7, x8, x9) => (AF (x8, x9) p1).bind fun x10 => (if x10.1 = true then ((Cc fRec_parse_parser_condition) x10.2).bind fun x11 => B4 x11 (fun x12 => (DQ x7 ([x12.1] : List Tr25)).bind fun x14 => some (.inl (x14, x12.2.1, x12.2.2))) (fun x13 => some (.inr (.inr (.inr (x13.1, x13.2))))) else some (.inr (.inl (x7, x10.2.1, x10.2.2))))
noncomputable def BG (fRec_parse_parser_condition : ((List (Int × Int × List UInt8 × Int)) × Int) → Option ((Tr25 × ((List (Int × Int × List UInt8 × Int)) × Int)) ⊕ ((Int × Int) × ((List (Int × Int × List UInt8 × Int)) × Int)))) (p0 : (List (Int × Int × List UInt8 × Int)) × Int) (p1 : List UInt8) : Option ((Tr25 × ((List (Int × Int × List UInt8 × Int)) × Int)) ⊕ ((Int × Int) × ((List (Int × Int × List UInt8 × Int)) × Int))) := ((Cc fRec_parse_parser_condition) p0).bind fun x1 => B4 x1 (fun x2 => KC (Br (Bg fRec_parse_parser_condition p1) (([x2.1] : List Tr25), x2.2.1, x2.2.2)) fun (x4, x5, x6) => (if (x4.length : Int) = 1 then (ix x4 0).bind fun x15 => some (.inl (x15, (x5, x6))) else some (.inl (Tr25.of ((Cp x4).un.1, (Cp x4).un.2.1, (Cp x4).un.2.2.1, (Cp x4).un.2.2.2), (x5, x6))))) (fun x3 => some (.inr (x3.1, x3.2)))
theorem Fo (fRec_parse_parser_condition : ((List (Int × Int × List UInt8 × Int)) × Int) → Option ((Tr25 × ((List (Int × Int × List UInt8 × Int)) × Int)) ⊕ ((Int × Int) × ((List (Int × Int × List UInt8 × Int)) × Int)))) (ih_parse_parser_condition : ∀ (Y : Nat → Prop) (X : List Nat) (w0 : World) (q_p0 : Nat) (v1 : Value) (p0 : (List (Int × Int × List UInt8 × Int)) × Int) (r : (Tr25 × ((List (Int × Int × List UInt8 × Int)) × Int)) ⊕ ((Int × Int) × ((List (Int × Int × List UInt8 × Int)) × Int))) (H : fRec_parse_parser_condition p0 = some r) (hL : Stw ⟨Y, X, w0⟩ [(q_p0, [v1, .int .i64 p0.2])] [row v1 98 AC p0.1] w0), Calls Tryd.prog 33 #[.pointer (some ⟨q_p0, 0, none⟩)] w0 fun e w' => D9 r (fun r => ∃ x : Value × Value, e = .returned (.agg #[.int .i64 r.1.un.1, .int .i64 r.1.un.2.1, .int .i64 r.1.un.2.2.1, x.1]) ∧ Stw ⟨Y, X, w0⟩ [(q_p0, [x.2, .int .i64 r.2.2])] [row (x.2) 98 AC r.2.1, AU (x.1) AR r.1.un.2.2.2] w') (fun r => ∃ x : Value, e = .panicked [{ v := .iface 89 (.agg #[.int .i64 r.1.1, .int .i64 r.1.2]), recovered := false }] ∧ Stw ⟨Y, X, w0⟩ [(q_p0, [x, .int .i64 r.2.2])] [row (x) 98 AC r.2.1] w')) (Y : Nat → Prop) (X : List Nat) (w0 : World) (q_p0 : Nat) (v1 : Value) (p0 : (List (Int × Int × List UInt8 × Int)) × Int) (p1 : List UInt8) (r : (Tr25 × ((List (Int × Int × List UInt8 × Int)) × Int)) ⊕ ((Int × Int) × ((List (Int × Int × List UInt8 × Int)) × Int))) (H : BG fRec_parse_parser_condition p0 p1 = some r) (hL : Stw ⟨Y, X, w0⟩ [(q_p0, [v1, .int .i64 p0.2])] [row v1 98 AC p0.1] w0) :
    Calls Tryd.prog 67 #[.pointer (some ⟨q_p0, 0, none⟩), .string (bs p1), .func (.func 88) #[.pointer (some ⟨q_p0, 0, none⟩)] #[], .func (.func 89) #[] #[]] w0 fun e w' => D9 r (fun r => ∃ x : Value × Value, e = .returned (.agg #[.int .i64 r.1.un.1, .int .i64 r.1.un.2.1, .int .i64 r.1.un.2.2.1, x.1]) ∧ Stw ⟨Y, X, w0⟩ [(q_p0, [x.2, .int .i64 r.2.2])] [row (x.2) 98 AC r.2.1, AU (x.1) AR r.1.un.2.2.2] w') (fun r => ∃ x : Value, e = .panicked [{ v := .iface 89 (.agg #[.int .i64 r.1.1, .int .i64 r.1.2]), recovered := false }] ∧ Stw ⟨Y, X, w0⟩ [(q_p0, [x, .int .i64 r.2.2])] [row (x) 98 AC r.2.1] w') := by
 refine enter Tryd.func67 Aa Tryd.ntmps67 Aa fun a W => ?_
 have F := hL
 unfold BG at H
 refine Ak (Ab ?_)
 refine Bi (cs := (Ct)) W F Aa NI Aa fun b1 a w W F => ?_
 refine Ae (Ac (Ak (Ab ?_)))
 refine ls W F Aa (Ah W Aa).q fun a w W F => ?_
 obtain ⟨x1, h1, H⟩ := Aq H
 rcases x1 with x2 | x3
 ·
  have H := EZ H
  have F := F.frontM (i := 1) Aa Aa
  refine EK (ws := [.pointer (some ⟨q_p0, 0, none⟩)]) (Ml := [(q_p0, [v1, .int .i64 p0.2])]) (Zl := [row v1 98 AC p0.1]) (M := (FX b1)) (Z := []) (β := Value × Value) (rv := fun x => .agg #[.int .i64 x2.1.un.1, .int .i64 x2.1.un.2.1, .int .i64 x2.1.un.2.2.1, x.1]) (MM := fun x => [(q_p0, [x.2, .int .i64 x2.2.2])]) (ZZ := fun x => [row x.2 98 AC x2.2.1, AU x.1 AR x2.1.un.2.2.2]) W F Un Aa Aa (fun hL => (DD fRec_parse_parser_condition ih_parse_parser_condition) _ _ w q_p0 (v1) p0 _ h1 hL) fun x a w W F => ?_
  obtain ⟨v2, v3⟩ := x
  have F : Stw ⟨Y, X, w0⟩ [(q_p0, [v3, .int .i64 x2.2.2]), (b1, (Ct))] [row v3 98 AC x2.2.1, AU v2 AR x2.1.un.2.2.2] w := F
  refine FN (z := Value.agg #[.int .i64 0, .int .i64 0, .int .i64 0, .slice none 0 0]) (cs := (FL x2 v2)) AR ([x2.1] : List Tr25) W F Aa Rl NI Aa Aa Aa (AX Aa Aa Aa B2) Aa Aa ⟨[Value.int .i64 x2.1.un.1, Value.int .i64 x2.1.un.2.1, Value.int .i64 x2.1.un.2.2.1, v2], _, Aa, (KO.2 ⟨[Value.int .i64 x2.1.un.1], [Value.int .i64 x2.1.un.2.1, Value.int .i64 x2.1.un.2.2.1, v2], Aa, Aa, ⟨[Value.int .i64 x2.1.un.2.1], [Value.int .i64 x2.1.un.2.2.1, v2], Aa, Aa, ⟨[Value.int .i64 x2.1.un.2.2.1], [v2], Aa, Aa, ⟨_, Aa, (F.item (i := 1) Aa)⟩⟩⟩⟩), Aa⟩ fun v4 a w W F => ?_
  refine ls W F Aa (Ag W Aa).q fun a w W F => ?_
  refine Ae (Ac ?_)
  obtain ⟨o1, G1, K1, L1⟩ := Rk H
  refine A1 (fun a w => ∃ x4 : List Tr25, ∃ x5 : List (Int × Int × List UInt8 × Int), ∃ x6 : Int, ∃ v5 : Value, ∃ v6 : Value, some (Sum.inl (x4, x5, x6)) = some o1 ∧ Fr 30 [] [(3, .func (.func 89) #[] #[]), (8, .pointer (some ⟨b1, 0, none⟩)), (9, v5)] a ∧ Stw ⟨Y, X, w0⟩ [(q_p0, [v6, .int .i64 x6]), (b1, (Ct))] [row v5 25 AR x4, row v6 98 AC x5] w) ?_ ?_
  ·
   have H := G1
   clear G1 K1
   refine AP ?_
   have F := F.frontZ (i := 1) Aa Aa
   have F := F.frontZ (i := 1) Aa Aa
   have F := F.frontM (i := 1) Aa Aa
   have F := F.frontM (i := 1) Aa Aa
   have F := F.sub (M' := [(q_p0, [v3, .int .i64 x2.2.2]), (b1, (Ct))]) (Z' := [row v4 25 AR ([x2.1] : List Tr25), row v3 98 AC x2.2.1]) (List.Sublist.refl _) (List.Sublist.cons_cons _ (List.Sublist.cons_cons _ (List.nil_sublist _)))
   refine Cx H (fun s a w => ∃ v7 : Value, ∃ v8 : Value, Fr 30 [] [(0, .pointer (some ⟨q_p0, 0, none⟩)), (1, .string (bs p1)), (2, .func (.func 88) #[.pointer (some ⟨q_p0, 0, none⟩)] #[]), (3, .func (.func 89) #[] #[]), (8, .pointer (some ⟨b1, 0, none⟩)), (9, v7)] a ∧ Stw ⟨Y, X, w0⟩ [(q_p0, [v8, .int .i64 s.2.2]), (b1, (Ct))] [row v7 25 AR s.1, row v8 98 AC s.2.1] w) ⟨(v4), (v3), W.re ⟨rfl, Aa, Aa, Aa, Aa, Aa, trivial⟩, F⟩ fun s o a w H L2 hR => ?_
   obtain ⟨x7, x8, x9⟩ := s
   obtain ⟨v7, v8, W, F⟩ := hR
   have W : Fr 30 [] [(0, .pointer (some ⟨q_p0, 0, none⟩)), (1, .string (bs p1)), (2, .func (.func 88) #[.pointer (some ⟨q_p0, 0, none⟩)] #[]), (3, .func (.func 89) #[] #[]), (8, .pointer (some ⟨b1, 0, none⟩)), (9, v7)] a := W
   have F : Stw ⟨Y, X, w0⟩ [(q_p0, [v8, .int .i64 x9]), (b1, (Ct))] [row v7 25 AR x7, row v8 98 AC x8] w := F
   rw [Bg] at H
   refine Ak (Ak (Ab ?_))
   iterate 2 refine ls W F Aa (Ah W Aa).q fun a w W F => ?_
   obtain ⟨x10, h2, H⟩ := Aq H
   have F := F.frontZ (i := 1) Aa Aa
   refine A2 (Ml := [(q_p0, [v8, .int .i64 x9])]) (Zl := [row v8 98 AC x8]) (M := (FX b1)) (Z := [row v7 25 AR x7]) (β := Value) (rv := fun x => .bool x10.1) (MM := fun x => [(q_p0, [x, .int .i64 x10.2.2])]) (ZZ := fun x => [row x 98 AC x10.2.1]) W F QR Aa Aa (fun hL => A9 _ _ w q_p0 (v8) (x8, x9) p1 _ h2 hL) fun x a w W F => ?_
   obtain ⟨v9, rfl⟩ : ∃ y, y = x := ⟨x, rfl⟩
   have F : Stw ⟨Y, X, w0⟩ [(q_p0, [v9, .int .i64 x10.2.2]), (b1, (Ct))] [row v9 98 AC x10.2.1, row v7 25 AR x7] w := F
   refine Ae (Ac ?_)
   refine Az W Aa (fun hb => ?_) fun hb => ?_
   ·
    have H := AW hb H
    rw [hb] at W
    clear hb
    refine AA (Ac (AP (Ab ?_)))
    iterate 2 refine ls W F Aa (Ah W Aa).q fun a w W F => ?_
    obtain ⟨x11, h3, H⟩ := Aq H
    rcases x11 with x12 | x13
    ·
     have H := EZ H
     refine EK (ws := [.pointer (some ⟨q_p0, 0, none⟩)]) (Ml := [(q_p0, [v9, .int .i64 x10.2.2])]) (Zl := [row v9 98 AC x10.2.1]) (M := (FX b1)) (Z := [row v7 25 AR x7]) (β := Value × Value) (rv := fun x => .agg #[.int .i64 x12.1.un.1, .int .i64 x12.1.un.2.1, .int .i64 x12.1.un.2.2.1, x.1]) (MM := fun x => [(q_p0, [x.2, .int .i64 x12.2.2])]) (ZZ := fun x => [row x.2 98 AC x12.2.1, AU x.1 AR x12.1.un.2.2.2]) W F Un Aa Aa (fun hL => (DD fRec_parse_parser_condition ih_parse_parser_condition) _ _ w q_p0 (v9) x10.2 _ h3 hL) fun x a w W F => ?_
     obtain ⟨v10, v11⟩ := x
     have F : Stw ⟨Y, X, w0⟩ [(q_p0, [v11, .int .i64 x12.2.2]), (b1, (Ct))] [row v11 98 AC x12.2.1, AU v10 AR x12.1.un.2.2.2, row v7 25 AR x7] w := F
     refine FN (z := Value.agg #[.int .i64 0, .int .i64 0, .int .i64 0, .slice none 0 0]) (cs := (FL x12 v10)) AR ([x12.1] : List Tr25) W F Aa Rl NI Aa Aa Aa (AX Aa Aa Aa B2) Aa Aa ⟨[Value.int .i64 x12.1.un.1, Value.int .i64 x12.1.un.2.1, Value.int .i64 x12.1.un.2.2.1, v10], _, Aa, (KO.2 ⟨[Value.int .i64 x12.1.un.1], [Value.int .i64 x12.1.un.2.1, Value.int .i64 x12.1.un.2.2.1, v10], Aa, Aa, ⟨[Value.int .i64 x12.1.un.2.1], [Value.int .i64 x12.1.un.2.2.1, v10], Aa, Aa, ⟨[Value.int .i64 x12.1.un.2.2.1], [v10], Aa, Aa, ⟨_, Aa, (F.item (i := 1) Aa)⟩⟩⟩⟩), Aa⟩ fun v12 a w W F => ?_
     obtain ⟨x14, h4, H⟩ := Aq H
     refine EP (r := AR) (i := 3) W F Aa Rl Aa Aa Aa Aa (Fv F 0 Aa) h4 Aa fun v13 a w W F => ?_
     have F : Stw ⟨Y, X, w0⟩ [(q_p0, [v11, .int .i64 x12.2.2]), (b1, (Ct))] [row v13 25 AR x14, row v12 25 AR ([x12.1] : List Tr25), row v11 98 AC x12.2.1, AU v10 AR x12.1.un.2.2.2] w := F
     refine ls W F Aa (Ag W Aa).q fun a w W F => ?_
     refine Ae (Bn (Ac ?_))
     have F := F.frontZ (i := 2) Aa Aa
     have F := F.frontZ (i := 1) Aa Aa
     have F := F.frontM (i := 1) Aa Aa
     have F := F.frontM (i := 1) Aa Aa
     have F := F.sub (M' := [(q_p0, [v11, .int .i64 x12.2.2]), (b1, (Ct))]) (Z' := [row v13 25 AR x14, row v11 98 AC x12.2.1]) (List.Sublist.refl _) (List.Sublist.cons_cons _ (List.Sublist.cons_cons _ (List.nil_sublist _)))
     exact ⟨_, H, (v13), (v11), W.re ⟨rfl, Aa, Aa, Aa, Aa, Aa, trivial⟩, F⟩
    have H := EY H
    refine Gj (ws := [.pointer (some ⟨q_p0, 0, none⟩)]) (Ml := [(q_p0, [v9, .int .i64 x10.2.2])]) (Zl := [row v9 98 AC x10.2.1]) (M := (FX b1)) (Z := [row v7 25 AR x7]) (β := Value) (pv := fun x => .iface 89 (.agg #[.int .i64 x13.1.1, .int .i64 x13.1.2])) (MM := fun x => [(q_p0, [x, .int .i64 x13.2.2])]) (ZZ := fun x => [row x 98 AC x13.2.1]) W F Un Aa (fun hL => (DD fRec_parse_parser_condition ih_parse_parser_condition) _ _ w q_p0 (v9) x10.2 _ h3 hL) fun x w F => ?_
    obtain ⟨v14, rfl⟩ : ∃ y, y = x := ⟨x, rfl⟩
    have F : Stw ⟨Y, X, w0⟩ [(q_p0, [v14, .int .i64 x13.2.2]), (b1, (Ct))] [row v14 98 AC x13.2.1, row v7 25 AR x7] w := F
    refine EB (BF (EB (BF ?_)))
    have H := L2 _ H
    have H := L1 _ H
    have H := AK H
    subst H
    refine A7 W ?_
    have F := F.sub (M' := [(q_p0, [v14, .int .i64 x13.2.2])]) (Z' := [row v14 98 AC x13.2.1]) (List.Sublist.cons_cons _ (List.nil_sublist _)) (List.Sublist.cons_cons _ (List.nil_sublist _))
    exact ⟨(v14), Aa, F⟩
   have H := AY (by rw [hb]; decide) H
   rw [hb] at W
   clear hb
   refine Cz ?_
   iterate 2 refine C8 ?_
   refine Cy (Ac ?_)
   have F := F.frontZ (i := 1) Aa Aa
   have F := F.frontM (i := 1) Aa Aa
   have F := F.frontM (i := 1) Aa Aa
   have H := L2 _ H
   exact ⟨_, _, _, (v7), (v9), H, W.re ⟨rfl, Aa, Aa, trivial⟩, F⟩
  rintro a w ⟨x4, x5, x6, v5, v6, hj, W, F⟩
  have H := K1 _ hj
  clear hj G1 K1 L1
  refine Ak (Ak (Ab ?_))
  refine ls W F Aa (Ah W Aa).q fun a w W F => ?_
  refine ls W F Aa (D7 (r := AR) (l := x4) SE Aa W Aa (BP 0 Aa)).q fun a w W F => ?_
  refine ls W F Aa (Bd W Aa Aa).q fun a w W F => ?_
  refine Ae (Ac ?_)
  refine Az W Aa (fun hb => ?_) fun hb => ?_
  ·
   have H := AW (Bw hb) H
   rw [hb] at W
   clear hb
   refine Ak ?_
   obtain ⟨v15, h5, F⟩ := F.exR FZ
   refine Ab ?_
   refine ls W F Aa (Ah W Aa).q fun a w W F => ?_
   obtain ⟨x15, h6, H⟩ := Aq H
   obtain ⟨v16, h7, h8⟩ := D5 h5 h6
   have h9 : Oc v16 = [.int .i64 x15.un.1, .int .i64 x15.un.2.1, .int .i64 x15.un.2.2.1, (v16.2.2.2.1)] := congrArg (fun q : Tr25 => ([.int .i64 q.un.1, .int .i64 q.un.2.1, .int .i64 q.un.2.2.1, (v16.2.2.2.1)] : List Value)) h8
   refine ls W F Aa (Cg (r := Ln) Rl W Aa Aa (BP 0 Aa) h7).q fun a w W F => ?_
   refine ls W F Aa (BC (y := Value.agg #[.int .i64 x15.un.1, .int .i64 x15.un.2.1, .int .i64 x15.un.2.2.1, (v16.2.2.2.1)]) (j := 0) (i := 0) (enc := Oc) W Aa Aa (BP 0 Aa) h7 SQ FW (by rw [h9]; rfl)).q fun a w W F => ?_
   have F := F.note (F.rowAt (k := 0) Aa h7 (AE.snd (AE.snd (AE.snd AE.here))) (congrArg (fun q : Tr25 => q.un.2.2.2) h8))
   refine AL (vs := [.int .i64 x15.un.1, .int .i64 x15.un.2.1, .int .i64 x15.un.2.2.1, (v16.2.2.2.1)]) (M' := [(q_p0, [v6, .int .i64 x6]), (b1, [.int .i64 x15.un.1, .int .i64 x15.un.2.1, .int .i64 x15.un.2.2.1, (v16.2.2.2.1)])]) 1 W F Aa Aa Aa FW Aa Aa Aa (Ai Aa (Ai Aa (Ai Aa (Ai (F.oneF (k := 0) Aa) Bp)))) Aa fun w F => ?_
   refine Ae (Ac (Ax (AO ?_)))
   have H := AK H
   subst H
   refine AG (.inl Aa) W F Aa (A3 1 W Aa Aa FW Aa) ?_
   have F := F.frontZ (i := 2) Aa Aa
   have F := F.sub (M' := [(q_p0, [v6, .int .i64 x6])]) (Z' := [row v6 98 AC x5, AU (v16.2.2.2.1) AR x15.un.2.2.2]) (List.Sublist.cons_cons _ (List.nil_sublist _)) (List.Sublist.cons_cons _ (List.Sublist.cons_cons _ (List.nil_sublist _)))
   exact ⟨(((v16.2.2.2.1)), (v6)), Aa, F⟩
  have H := AY (Bx hb) H
  rw [hb] at W
  clear hb
  refine AA (Ac (Ak (Ab ?_)))
  iterate 2 refine ls W F Aa (Ah W Aa).q fun a w W F => ?_
  have F := F.freeze
  refine EK (ws := [v5]) (Ml := []) (Zl := []) (M := [(q_p0, [v6, .int .i64 x6]), (b1, (Ct))]) (Z := [AU v5 AR x4, row v6 98 AC x5]) (β := Value) (rv := fun x => .agg #[.int .i64 ((Cp x4).un.1), .int .i64 ((Cp x4).un.2.1), .int .i64 ((Cp x4).un.2.2.1), x]) (MM := fun x => []) (ZZ := fun x => [AU x AR ((Cp x4).un.2.2.2)]) W F Wd Aa Aa (fun hL => PA _ w (v5) x4 _ Aa (F.item (i := 0) Aa)) fun x a w W F => ?_
  obtain ⟨v17, rfl⟩ : ∃ y, y = x := ⟨x, rfl⟩
  have F : Stw ⟨Y, X, w0⟩ [(q_p0, [v6, .int .i64 x6]), (b1, (Ct))] [AU v17 AR ((Cp x4).un.2.2.2), AU v5 AR x4, row v6 98 AC x5] w := F
  refine AL (vs := (Tv x4 v17)) (M' := [(q_p0, [v6, .int .i64 x6]), (b1, (Tv x4 v17))]) 1 W F Aa Aa Aa FW Aa Aa Aa (Ai Aa (Ai Aa (Ai Aa (Ai (F.oneF (k := 0) Aa) Bp)))) Aa fun w F => ?_
  refine Ae (Ac (Ax ?_))
  have H := AK H
  subst H
  refine AG (.inl Aa) W F Aa (A3 1 W Aa Aa FW Aa) ?_
  have F := F.frontZ (i := 2) Aa Aa
  have F := F.sub (M' := [(q_p0, [v6, .int .i64 x6])]) (Z' := [row v6 98 AC x5, AU v17 AR ((Cp x4).un.2.2.2)]) (List.Sublist.cons_cons _ (List.nil_sublist _)) (List.Sublist.cons_cons _ (List.Sublist.cons_cons _ (List.nil_sublist _)))
  exact ⟨((v17), (v6)), Aa, F⟩
 have H := EY H
 have F := F.frontM (i := 1) Aa Aa
 refine Gj (ws := [.pointer (some ⟨q_p0, 0, none⟩)]) (Ml := [(q_p0, [v1, .int .i64 p0.2])]) (Zl := [row v1 98 AC p0.1]) (M := (FX b1)) (Z := []) (β := Value) (pv := fun x => .iface 89 (.agg #[.int .i64 x3.1.1, .int .i64 x3.1.2])) (MM := fun x => [(q_p0, [x, .int .i64 x3.2.2])]) (ZZ := fun x => [row x 98 AC x3.2.1]) W F Un Aa (fun hL => (DD fRec_parse_parser_condition ih_parse_parser_condition) _ _ w q_p0 (v1) p0 _ h1 hL) fun x w F => ?_
 obtain ⟨v18, rfl⟩ : ∃ y, y = x := ⟨x, rfl⟩
 have F : Stw ⟨Y, X, w0⟩ [(q_p0, [v18, .int .i64 x3.2.2]), (b1, (Ct))] [row v18 98 AC x3.2.1] w := F
 refine BF ?_
 have H := AK H
 subst H
 refine A7 W ?_
 have F := F.sub (M' := [(q_p0, [v18, .int .i64 x3.2.2])]) (Z' := [row v18 98 AC x3.2.1]) (List.Sublist.cons_cons _ (List.nil_sublist _)) (List.Sublist.refl _)
 exact ⟨(v18), Aa, F⟩
theorem UR : Has Tryd.prog 67 := ⟨fun args w => An Tryd.func67 rfl (by decide) args w⟩
noncomputable def Bz (fRec_parse_parser_condition : ((List (Int × Int × List UInt8 × Int)) × Int) → Option ((Tr25 × ((List (Int × Int × List UInt8 × Int)) × Int)) ⊕ ((Int × Int) × ((List (Int × Int × List UInt8 × Int)) × Int)))) (p0 : (List (Int × Int × List UInt8 × Int)) × Int) : Option ((Tr25 × ((List (Int × Int × List UInt8 × Int)) × Int)) ⊕ ((Int × Int) × ((List (Int × Int × List UInt8 × Int)) × Int))) := ((BG fRec_parse_parser_condition) p0 ([97, 110, 100] : List UInt8)).bind fun x1 => B4 x1 (fun x2 => some (.inl (x2.1, x2.2))) (fun x3 => some (.inr (x3.1, x3.2)))
theorem D0 (fRec_parse_parser_condition : ((List (Int × Int × List UInt8 × Int)) × Int) → Option ((Tr25 × ((List (Int × Int × List UInt8 × Int)) × Int)) ⊕ ((Int × Int) × ((List (Int × Int × List UInt8 × Int)) × Int)))) (ih_parse_parser_condition : ∀ (Y : Nat → Prop) (X : List Nat) (w0 : World) (q_p0 : Nat) (v1 : Value) (p0 : (List (Int × Int × List UInt8 × Int)) × Int) (r : (Tr25 × ((List (Int × Int × List UInt8 × Int)) × Int)) ⊕ ((Int × Int) × ((List (Int × Int × List UInt8 × Int)) × Int))) (H : fRec_parse_parser_condition p0 = some r) (hL : Stw ⟨Y, X, w0⟩ [(q_p0, [v1, .int .i64 p0.2])] [row v1 98 AC p0.1] w0), Calls Tryd.prog 33 #[.pointer (some ⟨q_p0, 0, none⟩)] w0 fun e w' => D9 r (fun r => ∃ x : Value × Value, e = .returned (.agg #[.int .i64 r.1.un.1, .int .i64 r.1.un.2.1, .int .i64 r.1.un.2.2.1, x.1]) ∧ Stw ⟨Y, X, w0⟩ [(q_p0, [x.2, .int .i64 r.2.2])] [row (x.2) 98 AC r.2.1, AU (x.1) AR r.1.un.2.2.2] w') (fun r => ∃ x : Value, e = .panicked [{ v := .iface 89 (.agg #[.int .i64 r.1.1, .int .i64 r.1.2]), recovered := false }] ∧ Stw ⟨Y, X, w0⟩ [(q_p0, [x, .int .i64 r.2.2])] [row (x) 98 AC r.2.1] w')) (Y : Nat → Prop) (X : List Nat) (w0 : World) (q_p0 : Nat) (v1 : Value) (p0 : (List (Int × Int × List UInt8 × Int)) × Int) (r : (Tr25 × ((List (Int × Int × List UInt8 × Int)) × Int)) ⊕ ((Int × Int) × ((List (Int × Int × List UInt8 × Int)) × Int))) (H : Bz fRec_parse_parser_condition p0 = some r) (hL : Stw ⟨Y, X, w0⟩ [(q_p0, [v1, .int .i64 p0.2])] [row v1 98 AC p0.1] w0) :
    Calls Tryd.prog 68 #[.pointer (some ⟨q_p0, 0, none⟩)] w0 fun e w' => D9 r (fun r => ∃ x : Value × Value, e = .returned (.agg #[.int .i64 r.1.un.1, .int .i64 r.1.un.2.1, .int .i64 r.1.un.2.2.1, x.1]) ∧ Stw ⟨Y, X, w0⟩ [(q_p0, [x.2, .int .i64 r.2.2])] [row (x.2) 98 AC r.2.1, AU (x.1) AR r.1.un.2.2.2] w') (fun r => ∃ x : Value, e = .panicked [{ v := .iface 89 (.agg #[.int .i64 r.1.1, .int .i64 r.1.2]), recovered := false }] ∧ Stw ⟨Y, X, w0⟩ [(q_p0, [x, .int .i64 r.2.2])] [row (x) 98 AC r.2.1] w') := by
 refine enter Tryd.func68 Aa Tryd.ntmps68 Aa fun a W => ?_
 have F := hL
 unfold Bz at H
 refine Ak (Ab ?_)
 refine Bi (cs := (Ct)) W F Aa NI Aa fun b1 a w W F => ?_
 refine Ae (Ac (Ak (Ab ?_)))
 iterate 2 refine ls W F Aa (Ah W Aa).q fun a w W F => ?_
 refine ls W F Aa (F8 (us := [.pointer (some ⟨q_p0, 0, none⟩)]) (vs := []) W Aa Aa).q fun a w W F => ?_
 obtain ⟨x1, h1, H⟩ := Aq H
 rcases x1 with x2 | x3
 ·
  have H := EZ H
  have F := F.frontM (i := 1) Aa Aa
  refine A2 (Ml := [(q_p0, [v1, .int .i64 p0.2])]) (Zl := [row v1 98 AC p0.1]) (M := (FX b1)) (Z := []) (β := Value × Value) (rv := fun x => .agg #[.int .i64 x2.1.un.1, .int .i64 x2.1.un.2.1, .int .i64 x2.1.un.2.2.1, x.1]) (MM := fun x => [(q_p0, [x.2, .int .i64 x2.2.2])]) (ZZ := fun x => [row x.2 98 AC x2.2.1, AU x.1 AR x2.1.un.2.2.2]) W F UR Aa Aa (fun hL => (Fo fRec_parse_parser_condition ih_parse_parser_condition) _ _ w q_p0 (v1) p0 ([97, 110, 100] : List UInt8) _ h1 hL) fun x a w W F => ?_
  obtain ⟨v2, v3⟩ := x
  have F : Stw ⟨Y, X, w0⟩ [(q_p0, [v3, .int .i64 x2.2.2]), (b1, (Ct))] [row v3 98 AC x2.2.1, AU v2 AR x2.1.un.2.2.2] w := F
  refine AL (vs := (FL x2 v2)) (M' := [(q_p0, [v3, .int .i64 x2.2.2]), (b1, (FL x2 v2))]) 1 W F Aa Aa Aa FW Aa Aa Aa (Ai Aa (Ai Aa (Ai Aa (Ai (F.oneF (k := 1) Aa) Bp)))) Aa fun w F => ?_
  refine Ae (Ac (Ax ?_))
  have H := AK H
  subst H
  refine AG (.inl Aa) W F Aa (A3 1 W Aa Aa FW Aa) ?_
  have F := F.frontZ (i := 1) Aa Aa
  have F := F.frontZ (i := 1) Aa Aa
  have F := F.sub (M' := [(q_p0, [v3, .int .i64 x2.2.2])]) (Z' := [row v3 98 AC x2.2.1, AU v2 AR x2.1.un.2.2.2]) (List.Sublist.cons_cons _ (List.nil_sublist _)) (List.Sublist.refl _)
  exact ⟨((v2), (v3)), Aa, F⟩
 have H := EY H
 have F := F.frontM (i := 1) Aa Aa
 refine B0 (Ml := [(q_p0, [v1, .int .i64 p0.2])]) (Zl := [row v1 98 AC p0.1]) (M := (FX b1)) (Z := []) (β := Value) (pv := fun x => .iface 89 (.agg #[.int .i64 x3.1.1, .int .i64 x3.1.2])) (MM := fun x => [(q_p0, [x, .int .i64 x3.2.2])]) (ZZ := fun x => [row x 98 AC x3.2.1]) W F UR Aa (fun hL => (Fo fRec_parse_parser_condition ih_parse_parser_condition) _ _ w q_p0 (v1) p0 ([97, 110, 100] : List UInt8) _ h1 hL) fun x w F => ?_
 obtain ⟨v4, rfl⟩ : ∃ y, y = x := ⟨x, rfl⟩
 have F : Stw ⟨Y, X, w0⟩ [(q_p0, [v4, .int .i64 x3.2.2]), (b1, (Ct))] [row v4 98 AC x3.2.1] w := F
 refine BF ?_
 have H := AK H
 subst H
 refine A7 W ?_
 have F := F.sub (M' := [(q_p0, [v4, .int .i64 x3.2.2])]) (Z' := [row v4 98 AC x3.2.1]) (List.Sublist.cons_cons _ (List.nil_sublist _)) (List.Sublist.refl _)
 exact ⟨(v4), Aa, F⟩
theorem U6 : Has Tryd.prog 68 := ⟨fun args w => An Tryd.func68 rfl (by decide) args w⟩
def CM (p0 : List Tr25) : Tr25 := Tr25.of (6, 0, 0, p0)
theorem P7 (Y : Nat → Prop) (w0 : World) (v1 : Value) (p0 : List Tr25) (r : Tr25) (H : CM p0 = r) (s_v1 : Sl w0 Y AR v1 p0) :
    Calls Tryd.prog 69 #[v1] w0 fun e w' => ∃ x : Value, e = .returned (.agg #[.int .i64 r.un.1, .int .i64 r.un.2.1, .int .i64 r.un.2.2.1, x]) ∧ Stw ⟨Y, [], w0⟩ [] [AU (x) AR r.un.2.2.2] w' := by
 refine enter Tryd.func69 Aa Tryd.ntmps69 Aa fun a W => ?_
 have F := Stw.start Y w0
 obtain ⟨v2, h1, s_v1⟩ := s_v1.ex FZ
 have h_v1 := F.nx s_v1
 unfold CM at H
 refine Ak (Ab ?_)
 refine Bi (cs := (Ct)) W F Aa NI Aa fun b1 a w W F => ?_
 refine Ae (Ac (Ak (Ab ?_)))
 refine ls W F Aa (Ah W Aa).q fun a w W F => ?_
 refine ls W F Aa (B7 (v := Value.agg #[.int .i64 6, .int .i64 0, .int .i64 0, v1]) SM W Aa (AX Aa Aa Aa (AX Aa (FH h_v1.one) Aa B2)) Aa).q fun a w W F => ?_
 refine AL (vs := [.int .i64 6, .int .i64 0, .int .i64 0, v1]) (M' := [(b1, [.int .i64 6, .int .i64 0, .int .i64 0, v1])]) 0 W F Aa Aa Aa FW Aa Aa Aa (Ai Aa (Ai Aa (Ai Aa (Ai h_v1.one Bp)))) Aa fun w F => ?_
 refine Ae (Ac (Ax ?_))
 subst H
 refine AG (.inl Aa) W F Aa (A3 0 W Aa Aa FW Aa) ?_
 have F := F.note (Sl.hide FZ h1 (F.old s_v1))
 have F := F.sub (M' := []) (Z' := [AU v1 AR p0]) (List.nil_sublist _) (List.Sublist.refl _)
 exact ⟨(v1), Aa, F⟩
theorem Wo : Has Tryd.prog 69 := ⟨fun args w => An Tryd.func69 rfl (by decide) args w⟩
abbrev TE (a0 : List Tr25) (a1 : Value) : List Value := [.int .i64 ((CM a0).un.1), .int .i64 ((CM a0).un.2.1), .int .i64 ((CM a0).un.2.2.1), a1]
noncomputable def Bh (fRec_parse_parser_condition : ((List (Int × Int × List UInt8 × Int)) × Int) → Option ((Tr25 × ((List (Int × Int × List UInt8 × Int)) × Int)) ⊕ ((Int × Int) × ((List (Int × Int × List UInt8 × Int)) × Int)))) (p1 : List UInt8) : (List Tr25 × (List (Int × Int × List UInt8 × Int)) × Int) → Option ((List Tr25 × (List (Int × Int × List UInt8 × Int)) × Int) ⊕ ((List Tr25 × (List (Int × Int × List UInt8 × Int)) × Int) ⊕ ((Tr25 × ((List (Int × Int × List UInt8 × Int)) × Int)) ⊕ ((Int × Int) × ((List (Int × Int × List UInt8 × Int)) × Int)))))
  | (x7, x8, x9) => (AF (x8, x9) p1).bind fun x10 => (if x10.1 = true then ((Bz fRec_parse_parser_condition) x10.2).bind fun x11 => B4 x11 (fun x12 => (DQ x7 ([x12.1] : List Tr25)).bind fun x14 => some (.inl (x14, x12.2.1, x12.2.2))) (fun x13 => some (.inr (.inr (.inr (x13.1, x13.2))))) else some (.inr (.inl (x7, x10.2.1, x10.2.2))))
noncomputable def BH (fRec_parse_parser_condition : ((List (Int × Int × List UInt8 × Int)) × Int) → Option ((Tr25 × ((List (Int × Int × List UInt8 × Int)) × Int)) ⊕ ((Int × Int) × ((List (Int × Int × List UInt8 × Int)) × Int)))) (p0 : (List (Int × Int × List UInt8 × Int)) × Int) (p1 : List UInt8) : Option ((Tr25 × ((List (Int × Int × List UInt8 × Int)) × Int)) ⊕ ((Int × Int) × ((List (Int × Int × List UInt8 × Int)) × Int))) := ((Bz fRec_parse_parser_condition) p0).bind fun x1 => B4 x1 (fun x2 => KC (Br (Bh fRec_parse_parser_condition p1) (([x2.1] : List Tr25), x2.2.1, x2.2.2)) fun (x4, x5, x6) => (if (x4.length : Int) = 1 then (ix x4 0).bind fun x15 => some (.inl (x15, (x5, x6))) else some (.inl (Tr25.of ((CM x4).un.1, (CM x4).un.2.1, (CM x4).un.2.2.1, (CM x4).un.2.2.2), (x5, x6))))) (fun x3 => some (.inr (x3.1, x3.2)))
theorem FS (fRec_parse_parser_condition : ((List (Int × Int × List UInt8 × Int)) × Int) → Option ((Tr25 × ((List (Int × Int × List UInt8 × Int)) × Int)) ⊕ ((Int × Int) × ((List (Int × Int × List UInt8 × Int)) × Int)))) (ih_parse_parser_condition : ∀ (Y : Nat → Prop) (X : List Nat) (w0 : World) (q_p0 : Nat) (v1 : Value) (p0 : (List (Int × Int × List UInt8 × Int)) × Int) (r : (Tr25 × ((List (Int × Int × List UInt8 × Int)) × Int)) ⊕ ((Int × Int) × ((List (Int × Int × List UInt8 × Int)) × Int))) (H : fRec_parse_parser_condition p0 = some r) (hL : Stw ⟨Y, X, w0⟩ [(q_p0, [v1, .int .i64 p0.2])] [row v1 98 AC p0.1] w0), Calls Tryd.prog 33 #[.pointer (some ⟨q_p0, 0, none⟩)] w0 fun e w' => D9 r (fun r => ∃ x : Value × Value, e = .returned (.agg #[.int .i64 r.1.un.1, .int .i64 r.1.un.2.1, .int .i64 r.1.un.2.2.1, x.1]) ∧ Stw ⟨Y, X, w0⟩ [(q_p0, [x.2, .int .i64 r.2.2])] [row (x.2) 98 AC r.2.1, AU (x.1) AR r.1.un.2.2.2] w') (fun r => ∃ x : Value, e = .panicked [{ v := .iface 89 (.agg #[.int .i64 r.1.1, .int .i64 r.1.2]), recovered := false }] ∧ Stw ⟨Y, X, w0⟩ [(q_p0, [x, .int .i64 r.2.2])] [row (x) 98 AC r.2.1] w')) (Y : Nat → Prop) (X : List Nat) (w0 : World) (q_p0 : Nat) (v1 : Value) (p0 : (List (Int × Int × List UInt8 × Int)) × Int) (p1 : List UInt8) (r : (Tr25 × ((List (Int × Int × List UInt8 × Int)) × Int)) ⊕ ((Int × Int) × ((List (Int × Int × List UInt8 × Int)) × Int))) (H : BH fRec_parse_parser_condition p0 p1 = some r) (hL : Stw ⟨Y, X, w0⟩ [(q_p0, [v1, .int .i64 p0.2])] [row v1 98 AC p0.1] w0) :
    Calls Tryd.prog 67 #[.pointer (some ⟨q_p0, 0, none⟩), .string (bs p1), .func (.func 68) #[.pointer (some ⟨q_p0, 0, none⟩)] #[], .func (.func 69) #[] #[]] w0 fun e w' => D9 r (fun r => ∃ x : Value × Value, e = .returned (.agg #[.int .i64 r.1.un.1, .int .i64 r.1.un.2.1, .int .i64 r.1.un.2.2.1, x.1]) ∧ Stw ⟨Y, X, w0⟩ [(q_p0, [x.2, .int .i64 r.2.2])] [row (x.2) 98 AC r.2.1, AU (x.1) AR r.1.un.2.2.2] w') (fun r => ∃ x : Value, e = .panicked [{ v := .iface 89 (.agg #[.int .i64 r.1.1, .int .i64 r.1.2]), recovered := false }] ∧ Stw ⟨Y, X, w0⟩ [(q_p0, [x, .int .i64 r.2.2])] [row (x) 98 AC r.2.1] w') := by
 refine enter Tryd.func67 Aa Tryd.ntmps67 Aa fun a W => ?_
 have F := hL
 unfold BH at H
 refine Ak (Ab ?_)
 refine Bi (cs := (Ct)) W F Aa NI Aa fun b1 a w W F => ?_
 refine Ae (Ac (Ak (Ab ?_)))
 refine ls W F Aa (Ah W Aa).q fun a w W F => ?_
 obtain ⟨x1, h1, H⟩ := Aq H
 rcases x1 with x2 | x3
 ·
  have H := EZ H
  have F := F.frontM (i := 1) Aa Aa
  refine EK (ws := [.pointer (some ⟨q_p0, 0, none⟩)]) (Ml := [(q_p0, [v1, .int .i64 p0.2])]) (Zl := [row v1 98 AC p0.1]) (M := (FX b1)) (Z := []) (β := Value × Value) (rv := fun x => .agg #[.int .i64 x2.1.un.1, .int .i64 x2.1.un.2.1, .int .i64 x2.1.un.2.2.1, x.1]) (MM := fun x => [(q_p0, [x.2, .int .i64 x2.2.2])]) (ZZ := fun x => [row x.2 98 AC x2.2.1, AU x.1 AR x2.1.un.2.2.2]) W F U6 Aa Aa (fun hL => (D0 fRec_parse_parser_condition ih_parse_parser_condition) _ _ w q_p0 (v1) p0 _ h1 hL) fun x a w W F => ?_
  obtain ⟨v2, v3⟩ := x
  have F : Stw ⟨Y, X, w0⟩ [(q_p0, [v3, .int .i64 x2.2.2]), (b1, (Ct))] [row v3 98 AC x2.2.1, AU v2 AR x2.1.un.2.2.2] w := F
  refine FN (z := Value.agg #[.int .i64 0, .int .i64 0, .int .i64 0, .slice none 0 0]) (cs := (FL x2 v2)) AR ([x2.1] : List Tr25) W F Aa Rl NI Aa Aa Aa (AX Aa Aa Aa B2) Aa Aa ⟨[Value.int .i64 x2.1.un.1, Value.int .i64 x2.1.un.2.1, Value.int .i64 x2.1.un.2.2.1, v2], _, Aa, (KO.2 ⟨[Value.int .i64 x2.1.un.1], [Value.int .i64 x2.1.un.2.1, Value.int .i64 x2.1.un.2.2.1, v2], Aa, Aa, ⟨[Value.int .i64 x2.1.un.2.1], [Value.int .i64 x2.1.un.2.2.1, v2], Aa, Aa, ⟨[Value.int .i64 x2.1.un.2.2.1], [v2], Aa, Aa, ⟨_, Aa, (F.item (i := 1) Aa)⟩⟩⟩⟩), Aa⟩ fun v4 a w W F => ?_
  refine ls W F Aa (Ag W Aa).q fun a w W F => ?_
  refine Ae (Ac ?_)
  obtain ⟨o1, G1, K1, L1⟩ := Rk H
  refine A1 (fun a w => ∃ x4 : List Tr25, ∃ x5 : List (Int × Int × List UInt8 × Int), ∃ x6 : Int, ∃ v5 : Value, ∃ v6 : Value, some (Sum.inl (x4, x5, x6)) = some o1 ∧ Fr 30 [] [(3, .func (.func 69) #[] #[]), (8, .pointer (some ⟨b1, 0, none⟩)), (9, v5)] a ∧ Stw ⟨Y, X, w0⟩ [(q_p0, [v6, .int .i64 x6]), (b1, (Ct))] [row v5 25 AR x4, row v6 98 AC x5] w) ?_ ?_
  ·
   have H := G1
   clear G1 K1
   refine AP ?_
   have F := F.frontZ (i := 1) Aa Aa
   have F := F.frontZ (i := 1) Aa Aa
   have F := F.frontM (i := 1) Aa Aa
   have F := F.frontM (i := 1) Aa Aa
   have F := F.sub (M' := [(q_p0, [v3, .int .i64 x2.2.2]), (b1, (Ct))]) (Z' := [row v4 25 AR ([x2.1] : List Tr25), row v3 98 AC x2.2.1]) (List.Sublist.refl _) (List.Sublist.cons_cons _ (List.Sublist.cons_cons _ (List.nil_sublist _)))
   refine Cx H (fun s a w => ∃ v7 : Value, ∃ v8 : Value, Fr 30 [] [(0, .pointer (some ⟨q_p0, 0, none⟩)), (1, .string (bs p1)), (2, .func (.func 68) #[.pointer (some ⟨q_p0, 0, none⟩)] #[]), (3, .func (.func 69) #[] #[]), (8, .pointer (some ⟨b1, 0, none⟩)), (9, v7)] a ∧ Stw ⟨Y, X, w0⟩ [(q_p0, [v8, .int .i64 s.2.2]), (b1, (Ct))] [row v7 25 AR s.1, row v8 98 AC s.2.1] w) ⟨(v4), (v3), W.re ⟨rfl, Aa, Aa, Aa, Aa, Aa, trivial⟩, F⟩ fun s o a w H L2 hR => ?_
   obtain ⟨x7, x8, x9⟩ := s
   obtain ⟨v7, v8, W, F⟩ := hR
   have W : Fr 30 [] [(0, .pointer (some ⟨q_p0, 0, none⟩)), (1, .string (bs p1)), (2, .func (.func 68) #[.pointer (some ⟨q_p0, 0, none⟩)] #[]), (3, .func (.func 69) #[] #[]), (8, .pointer (some ⟨b1, 0, none⟩)), (9, v7)] a := W
   have F : Stw ⟨Y, X, w0⟩ [(q_p0, [v8, .int .i64 x9]), (b1, (Ct))] [row v7 25 AR x7, row v8 98 AC x8] w := F
   rw [Bh] at H
   refine Ak (Ak (Ab ?_))
   iterate 2 refine ls W F Aa (Ah W Aa).q fun a w W F => ?_
   obtain ⟨x10, h2, H⟩ := Aq H
   have F := F.frontZ (i := 1) Aa Aa
   refine A2 (Ml := [(q_p0, [v8, .int .i64 x9])]) (Zl := [row v8 98 AC x8]) (M := (FX b1)) (Z := [row v7 25 AR x7]) (β := Value) (rv := fun x => .bool x10.1) (MM := fun x => [(q_p0, [x, .int .i64 x10.2.2])]) (ZZ := fun x => [row x 98 AC x10.2.1]) W F QR Aa Aa (fun hL => A9 _ _ w q_p0 (v8) (x8, x9) p1 _ h2 hL) fun x a w W F => ?_
   obtain ⟨v9, rfl⟩ : ∃ y, y = x := ⟨x, rfl⟩
   have F : Stw ⟨Y, X, w0⟩ [(q_p0, [v9, .int .i64 x10.2.2]), (b1, (Ct))] [row v9 98 AC x10.2.1, row v7 25 AR x7] w := F
   refine Ae (Ac ?_)
   refine Az W Aa (fun hb => ?_) fun hb => ?_
   ·
    have H := AW hb H
    rw [hb] at W
    clear hb
    refine AA (Ac (AP (Ab ?_)))
    iterate 2 refine ls W F Aa (Ah W Aa).q fun a w W F => ?_
    obtain ⟨x11, h3, H⟩ := Aq H
    rcases x11 with x12 | x13
    ·
     have H := EZ H
     refine EK (ws := [.pointer (some ⟨q_p0, 0, none⟩)]) (Ml := [(q_p0, [v9, .int .i64 x10.2.2])]) (Zl := [row v9 98 AC x10.2.1]) (M := (FX b1)) (Z := [row v7 25 AR x7]) (β := Value × Value) (rv := fun x => .agg #[.int .i64 x12.1.un.1, .int .i64 x12.1.un.2.1, .int .i64 x12.1.un.2.2.1, x.1]) (MM := fun x => [(q_p0, [x.2, .int .i64 x12.2.2])]) (ZZ := fun x => [row x.2 98 AC x12.2.1, AU x.1 AR x12.1.un.2.2.2]) W F U6 Aa Aa (fun hL => (D0 fRec_parse_parser_condition ih_parse_parser_condition) _ _ w q_p0 (v9) x10.2 _ h3 hL) fun x a w W F => ?_
     obtain ⟨v10, v11⟩ := x
     have F : Stw ⟨Y, X, w0⟩ [(q_p0, [v11, .int .i64 x12.2.2]), (b1, (Ct))] [row v11 98 AC x12.2.1, AU v10 AR x12.1.un.2.2.2, row v7 25 AR x7] w := F
     refine FN (z := Value.agg #[.int .i64 0, .int .i64 0, .int .i64 0, .slice none 0 0]) (cs := (FL x12 v10)) AR ([x12.1] : List Tr25) W F Aa Rl NI Aa Aa Aa (AX Aa Aa Aa B2) Aa Aa ⟨[Value.int .i64 x12.1.un.1, Value.int .i64 x12.1.un.2.1, Value.int .i64 x12.1.un.2.2.1, v10], _, Aa, (KO.2 ⟨[Value.int .i64 x12.1.un.1], [Value.int .i64 x12.1.un.2.1, Value.int .i64 x12.1.un.2.2.1, v10], Aa, Aa, ⟨[Value.int .i64 x12.1.un.2.1], [Value.int .i64 x12.1.un.2.2.1, v10], Aa, Aa, ⟨[Value.int .i64 x12.1.un.2.2.1], [v10], Aa, Aa, ⟨_, Aa, (F.item (i := 1) Aa)⟩⟩⟩⟩), Aa⟩ fun v12 a w W F => ?_
     obtain ⟨x14, h4, H⟩ := Aq H
     refine EP (r := AR) (i := 3) W F Aa Rl Aa Aa Aa Aa (Fv F 0 Aa) h4 Aa fun v13 a w W F => ?_
     have F : Stw ⟨Y, X, w0⟩ [(q_p0, [v11, .int .i64 x12.2.2]), (b1, (Ct))] [row v13 25 AR x14, row v12 25 AR ([x12.1] : List Tr25), row v11 98 AC x12.2.1, AU v10 AR x12.1.un.2.2.2] w := F
     refine ls W F Aa (Ag W Aa).q fun a w W F => ?_
     refine Ae (Bn (Ac ?_))
     have F := F.frontZ (i := 2) Aa Aa
     have F := F.frontZ (i := 1) Aa Aa
     have F := F.frontM (i := 1) Aa Aa
     have F := F.frontM (i := 1) Aa Aa
     have F := F.sub (M' := [(q_p0, [v11, .int .i64 x12.2.2]), (b1, (Ct))]) (Z' := [row v13 25 AR x14, row v11 98 AC x12.2.1]) (List.Sublist.refl _) (List.Sublist.cons_cons _ (List.Sublist.cons_cons _ (List.nil_sublist _)))
     exact ⟨_, H, (v13), (v11), W.re ⟨rfl, Aa, Aa, Aa, Aa, Aa, trivial⟩, F⟩
    have H := EY H
    refine Gj (ws := [.pointer (some ⟨q_p0, 0, none⟩)]) (Ml := [(q_p0, [v9, .int .i64 x10.2.2])]) (Zl := [row v9 98 AC x10.2.1]) (M := (FX b1)) (Z := [row v7 25 AR x7]) (β := Value) (pv := fun x => .iface 89 (.agg #[.int .i64 x13.1.1, .int .i64 x13.1.2])) (MM := fun x => [(q_p0, [x, .int .i64 x13.2.2])]) (ZZ := fun x => [row x 98 AC x13.2.1]) W F U6 Aa (fun hL => (D0 fRec_parse_parser_condition ih_parse_parser_condition) _ _ w q_p0 (v9) x10.2 _ h3 hL) fun x w F => ?_
    obtain ⟨v14, rfl⟩ : ∃ y, y = x := ⟨x, rfl⟩
    have F : Stw ⟨Y, X, w0⟩ [(q_p0, [v14, .int .i64 x13.2.2]), (b1, (Ct))] [row v14 98 AC x13.2.1, row v7 25 AR x7] w := F
    refine EB (BF (EB (BF ?_)))
    have H := L2 _ H
    have H := L1 _ H
    have H := AK H
    subst H
    refine A7 W ?_
    have F := F.sub (M' := [(q_p0, [v14, .int .i64 x13.2.2])]) (Z' := [row v14 98 AC x13.2.1]) (List.Sublist.cons_cons _ (List.nil_sublist _)) (List.Sublist.cons_cons _ (List.nil_sublist _))
    exact ⟨(v14), Aa, F⟩
   have H := AY (by rw [hb]; decide) H
   rw [hb] at W
   clear hb
   refine Cz ?_
   iterate 2 refine C8 ?_
   refine Cy (Ac ?_)
   have F := F.frontZ (i := 1) Aa Aa
   have F := F.frontM (i := 1) Aa Aa
   have F := F.frontM (i := 1) Aa Aa
   have H := L2 _ H
   exact ⟨_, _, _, (v7), (v9), H, W.re ⟨rfl, Aa, Aa, trivial⟩, F⟩
  rintro a w ⟨x4, x5, x6, v5, v6, hj, W, F⟩
  have H := K1 _ hj
  clear hj G1 K1 L1
  refine Ak (Ak (Ab ?_))
  refine ls W F Aa (Ah W Aa).q fun a w W F => ?_
  refine ls W F Aa (D7 (r := AR) (l := x4) SE Aa W Aa (BP 0 Aa)).q fun a w W F => ?_
  refine ls W F Aa (Bd W Aa Aa).q fun a w W F => ?_
  refine Ae (Ac ?_)
  refine Az W Aa (fun hb => ?_) fun hb => ?_
  ·
   have H := AW (Bw hb) H
   rw [hb] at W
   clear hb
   refine Ak ?_
   obtain ⟨v15, h5, F⟩ := F.exR FZ
   refine Ab ?_
   refine ls W F Aa (Ah W Aa).q fun a w W F => ?_
   obtain ⟨x15, h6, H⟩ := Aq H
   obtain ⟨v16, h7, h8⟩ := D5 h5 h6
   have h9 : Oc v16 = [.int .i64 x15.un.1, .int .i64 x15.un.2.1, .int .i64 x15.un.2.2.1, (v16.2.2.2.1)] := congrArg (fun q : Tr25 => ([.int .i64 q.un.1, .int .i64 q.un.2.1, .int .i64 q.un.2.2.1, (v16.2.2.2.1)] : List Value)) h8
   refine ls W F Aa (Cg (r := Ln) Rl W Aa Aa (BP 0 Aa) h7).q fun a w W F => ?_
   refine ls W F Aa (BC (y := Value.agg #[.int .i64 x15.un.1, .int .i64 x15.un.2.1, .int .i64 x15.un.2.2.1, (v16.2.2.2.1)]) (j := 0) (i := 0) (enc := Oc) W Aa Aa (BP 0 Aa) h7 SQ FW (by rw [h9]; rfl)).q fun a w W F => ?_
   have F := F.note (F.rowAt (k := 0) Aa h7 (AE.snd (AE.snd (AE.snd AE.here))) (congrArg (fun q : Tr25 => q.un.2.2.2) h8))
   refine AL (vs := [.int .i64 x15.un.1, .int .i64 x15.un.2.1, .int .i64 x15.un.2.2.1, (v16.2.2.2.1)]) (M' := [(q_p0, [v6, .int .i64 x6]), (b1, [.int .i64 x15.un.1, .int .i64 x15.un.2.1, .int .i64 x15.un.2.2.1, (v16.2.2.2.1)])]) 1 W F Aa Aa Aa FW Aa Aa Aa (Ai Aa (Ai Aa (Ai Aa (Ai (F.oneF (k := 0) Aa) Bp)))) Aa fun w F => ?_
   refine Ae (Ac (Ax (AO ?_)))
   have H := AK H
   subst H
   refine AG (.inl Aa) W F Aa (A3 1 W Aa Aa FW Aa) ?_
   have F := F.frontZ (i := 2) Aa Aa
   have F := F.sub (M' := [(q_p0, [v6, .int .i64 x6])]) (Z' := [row v6 98 AC x5, AU (v16.2.2.2.1) AR x15.un.2.2.2]) (List.Sublist.cons_cons _ (List.nil_sublist _)) (List.Sublist.cons_cons _ (List.Sublist.cons_cons _ (List.nil_sublist _)))
   exact ⟨(((v16.2.2.2.1)), (v6)), Aa, F⟩
  have H := AY (Bx hb) H
  rw [hb] at W
  clear hb
  refine AA (Ac (Ak (Ab ?_)))
  iterate 2 refine ls W F Aa (Ah W Aa).q fun a w W F => ?_
  have F := F.freeze
  refine EK (ws := [v5]) (Ml := []) (Zl := []) (M := [(q_p0, [v6, .int .i64 x6]), (b1, (Ct))]) (Z := [AU v5 AR x4, row v6 98 AC x5]) (β := Value) (rv := fun x => .agg #[.int .i64 ((CM x4).un.1), .int .i64 ((CM x4).un.2.1), .int .i64 ((CM x4).un.2.2.1), x]) (MM := fun x => []) (ZZ := fun x => [AU x AR ((CM x4).un.2.2.2)]) W F Wo Aa Aa (fun hL => P7 _ w (v5) x4 _ Aa (F.item (i := 0) Aa)) fun x a w W F => ?_
  obtain ⟨v17, rfl⟩ : ∃ y, y = x := ⟨x, rfl⟩
  have F : Stw ⟨Y, X, w0⟩ [(q_p0, [v6, .int .i64 x6]), (b1, (Ct))] [AU v17 AR ((CM x4).un.2.2.2), AU v5 AR x4, row v6 98 AC x5] w := F
  refine AL (vs := (TE x4 v17)) (M' := [(q_p0, [v6, .int .i64 x6]), (b1, (TE x4 v17))]) 1 W F Aa Aa Aa FW Aa Aa Aa (Ai Aa (Ai Aa (Ai Aa (Ai (F.oneF (k := 0) Aa) Bp)))) Aa fun w F => ?_
  refine Ae (Ac (Ax ?_))
  have H := AK H
  subst H
  refine AG (.inl Aa) W F Aa (A3 1 W Aa Aa FW Aa) ?_
  have F := F.frontZ (i := 2) Aa Aa
  have F := F.sub (M' := [(q_p0, [v6, .int .i64 x6])]) (Z' := [row v6 98 AC x5, AU v17 AR ((CM x4).un.2.2.2)]) (List.Sublist.cons_cons _ (List.nil_sublist _)) (List.Sublist.cons_cons _ (List.Sublist.cons_cons _ (List.nil_sublist _)))
  exact ⟨((v17), (v6)), Aa, F⟩
 have H := EY H
 have F := F.frontM (i := 1) Aa Aa
 refine Gj (ws := [.pointer (some ⟨q_p0, 0, none⟩)]) (Ml := [(q_p0, [v1, .int .i64 p0.2])]) (Zl := [row v1 98 AC p0.1]) (M := (FX b1)) (Z := []) (β := Value) (pv := fun x => .iface 89 (.agg #[.int .i64 x3.1.1, .int .i64 x3.1.2])) (MM := fun x => [(q_p0, [x, .int .i64 x3.2.2])]) (ZZ := fun x => [row x 98 AC x3.2.1]) W F U6 Aa (fun hL => (D0 fRec_parse_parser_condition ih_parse_parser_condition) _ _ w q_p0 (v1) p0 _ h1 hL) fun x w F => ?_
 obtain ⟨v18, rfl⟩ : ∃ y, y = x := ⟨x, rfl⟩
 have F : Stw ⟨Y, X, w0⟩ [(q_p0, [v18, .int .i64 x3.2.2]), (b1, (Ct))] [row v18 98 AC x3.2.1] w := F
 refine BF ?_
 have H := AK H
 subst H
 refine A7 W ?_
 have F := F.sub (M' := [(q_p0, [v18, .int .i64 x3.2.2])]) (Z' := [row v18 98 AC x3.2.1]) (List.Sublist.cons_cons _ (List.nil_sublist _)) (List.Sublist.refl _)
 exact ⟨(v18), Aa, F⟩
noncomputable def Bf (fRec : ((List (Int × Int × List UInt8 × Int)) × Int) → Option ((Tr25 × ((List (Int × Int × List UInt8 × Int)) × Int)) ⊕ ((Int × Int) × ((List (Int × Int × List UInt8 × Int)) × Int)))) (p0 : (List (Int × Int × List UInt8 × Int)) × Int) : Option ((Tr25 × ((List (Int × Int × List UInt8 × Int)) × Int)) ⊕ ((Int × Int) × ((List (Int × Int × List UInt8 × Int)) × Int))) := ((BH fRec) p0 ([111, 114] : List UInt8)).bind fun x1 => B4 x1 (fun x2 => some (.inl (x2.1, x2.2))) (fun x3 => some (.inr (x3.1, x3.2)))
noncomputable def AH : Nat → ((List (Int × Int × List UInt8 × Int)) × Int) → Option ((Tr25 × ((List (Int × Int × List UInt8 × Int)) × Int)) ⊕ ((Int × Int) × ((List (Int × Int × List UInt8 × Int)) × Int)))
  | 0 => fun _ => none
  | n + 1 => Bf (AH n)
noncomputable def B5 (p0 : (List (Int × Int × List UInt8 × Int)) × Int) : Option ((Tr25 × ((List (Int × Int × List UInt8 × Int)) × Int)) ⊕ ((Int × Int) × ((List (Int × Int × List UInt8 × Int)) × Int))) := FY fun n => AH n p0
theorem Hd (fRec : ((List (Int × Int × List UInt8 × Int)) × Int) → Option ((Tr25 × ((List (Int × Int × List UInt8 × Int)) × Int)) ⊕ ((Int × Int) × ((List (Int × Int × List UInt8 × Int)) × Int)))) (ih : ∀ (Y : Nat → Prop) (X : List Nat) (w0 : World) (q_p0 : Nat) (v1 : Value) (p0 : (List (Int × Int × List UInt8 × Int)) × Int) (r : (Tr25 × ((List (Int × Int × List UInt8 × Int)) × Int)) ⊕ ((Int × Int) × ((List (Int × Int × List UInt8 × Int)) × Int))) (H : fRec p0 = some r) (hL : Stw ⟨Y, X, w0⟩ [(q_p0, [v1, .int .i64 p0.2])] [row v1 98 AC p0.1] w0), Calls Tryd.prog 33 #[.pointer (some ⟨q_p0, 0, none⟩)] w0 fun e w' => D9 r (fun r => ∃ x : Value × Value, e = .returned (.agg #[.int .i64 r.1.un.1, .int .i64 r.1.un.2.1, .int .i64 r.1.un.2.2.1, x.1]) ∧ Stw ⟨Y, X, w0⟩ [(q_p0, [x.2, .int .i64 r.2.2])] [row (x.2) 98 AC r.2.1, AU (x.1) AR r.1.un.2.2.2] w') (fun r => ∃ x : Value, e = .panicked [{ v := .iface 89 (.agg #[.int .i64 r.1.1, .int .i64 r.1.2]), recovered := false }] ∧ Stw ⟨Y, X, w0⟩ [(q_p0, [x, .int .i64 r.2.2])] [row (x) 98 AC r.2.1] w')) (Y : Nat → Prop) (X : List Nat) (w0 : World) (q_p0 : Nat) (v1 : Value) (p0 : (List (Int × Int × List UInt8 × Int)) × Int) (r : (Tr25 × ((List (Int × Int × List UInt8 × Int)) × Int)) ⊕ ((Int × Int) × ((List (Int × Int × List UInt8 × Int)) × Int))) (H : Bf fRec p0 = some r) (hL : Stw ⟨Y, X, w0⟩ [(q_p0, [v1, .int .i64 p0.2])] [row v1 98 AC p0.1] w0) :
    Calls Tryd.prog 33 #[.pointer (some ⟨q_p0, 0, none⟩)] w0 fun e w' => D9 r (fun r => ∃ x : Value × Value, e = .returned (.agg #[.int .i64 r.1.un.1, .int .i64 r.1.un.2.1, .int .i64 r.1.un.2.2.1, x.1]) ∧ Stw ⟨Y, X, w0⟩ [(q_p0, [x.2, .int .i64 r.2.2])] [row (x.2) 98 AC r.2.1, AU (x.1) AR r.1.un.2.2.2] w') (fun r => ∃ x : Value, e = .panicked [{ v := .iface 89 (.agg #[.int .i64 r.1.1, .int .i64 r.1.2]), recovered := false }] ∧ Stw ⟨Y, X, w0⟩ [(q_p0, [x, .int .i64 r.2.2])] [row (x) 98 AC r.2.1] w') := by
 refine enter Tryd.func33 Aa Tryd.ntmps33 Aa fun a W => ?_
 have F := hL
 unfold Bf at H
 refine Ak (Ab ?_)
 refine Bi (cs := (Ct)) W F Aa NI Aa fun b1 a w W F => ?_
 refine Ae (Ac (Ak (Ab ?_)))
 iterate 2 refine ls W F Aa (Ah W Aa).q fun a w W F => ?_
 refine ls W F Aa (F8 (us := [.pointer (some ⟨q_p0, 0, none⟩)]) (vs := []) W Aa Aa).q fun a w W F => ?_
 obtain ⟨x1, h1, H⟩ := Aq H
 rcases x1 with x2 | x3
 ·
  have H := EZ H
  have F := F.frontM (i := 1) Aa Aa
  refine A2 (Ml := [(q_p0, [v1, .int .i64 p0.2])]) (Zl := [row v1 98 AC p0.1]) (M := (FX b1)) (Z := []) (β := Value × Value) (rv := fun x => .agg #[.int .i64 x2.1.un.1, .int .i64 x2.1.un.2.1, .int .i64 x2.1.un.2.2.1, x.1]) (MM := fun x => [(q_p0, [x.2, .int .i64 x2.2.2])]) (ZZ := fun x => [row x.2 98 AC x2.2.1, AU x.1 AR x2.1.un.2.2.2]) W F UR Aa Aa (fun hL => (FS fRec ih) _ _ w q_p0 (v1) p0 ([111, 114] : List UInt8) _ h1 hL) fun x a w W F => ?_
  obtain ⟨v2, v3⟩ := x
  have F : Stw ⟨Y, X, w0⟩ [(q_p0, [v3, .int .i64 x2.2.2]), (b1, (Ct))] [row v3 98 AC x2.2.1, AU v2 AR x2.1.un.2.2.2] w := F
  refine AL (vs := (FL x2 v2)) (M' := [(q_p0, [v3, .int .i64 x2.2.2]), (b1, (FL x2 v2))]) 1 W F Aa Aa Aa FW Aa Aa Aa (Ai Aa (Ai Aa (Ai Aa (Ai (F.oneF (k := 1) Aa) Bp)))) Aa fun w F => ?_
  refine Ae (Ac (Ax ?_))
  have H := AK H
  subst H
  refine AG (.inl Aa) W F Aa (A3 1 W Aa Aa FW Aa) ?_
  have F := F.frontZ (i := 1) Aa Aa
  have F := F.frontZ (i := 1) Aa Aa
  have F := F.sub (M' := [(q_p0, [v3, .int .i64 x2.2.2])]) (Z' := [row v3 98 AC x2.2.1, AU v2 AR x2.1.un.2.2.2]) (List.Sublist.cons_cons _ (List.nil_sublist _)) (List.Sublist.refl _)
  exact ⟨((v2), (v3)), Aa, F⟩
 have H := EY H
 have F := F.frontM (i := 1) Aa Aa
 refine B0 (Ml := [(q_p0, [v1, .int .i64 p0.2])]) (Zl := [row v1 98 AC p0.1]) (M := (FX b1)) (Z := []) (β := Value) (pv := fun x => .iface 89 (.agg #[.int .i64 x3.1.1, .int .i64 x3.1.2])) (MM := fun x => [(q_p0, [x, .int .i64 x3.2.2])]) (ZZ := fun x => [row x 98 AC x3.2.1]) W F UR Aa (fun hL => (FS fRec ih) _ _ w q_p0 (v1) p0 ([111, 114] : List UInt8) _ h1 hL) fun x w F => ?_
 obtain ⟨v4, rfl⟩ : ∃ y, y = x := ⟨x, rfl⟩
 have F : Stw ⟨Y, X, w0⟩ [(q_p0, [v4, .int .i64 x3.2.2]), (b1, (Ct))] [row v4 98 AC x3.2.1] w := F
 refine BF ?_
 have H := AK H
 subst H
 refine A7 W ?_
 have F := F.sub (M' := [(q_p0, [v4, .int .i64 x3.2.2])]) (Z' := [row v4 98 AC x3.2.1]) (List.Sublist.cons_cons _ (List.nil_sublist _)) (List.Sublist.refl _)
 exact ⟨(v4), Aa, F⟩
theorem Ho : ∀ (n : Nat) (Y : Nat → Prop) (X : List Nat) (w0 : World) (q_p0 : Nat) (v1 : Value) (p0 : (List (Int × Int × List UInt8 × Int)) × Int) (r : (Tr25 × ((List (Int × Int × List UInt8 × Int)) × Int)) ⊕ ((Int × Int) × ((List (Int × Int × List UInt8 × Int)) × Int))) (H : AH n p0 = some r) (hL : Stw ⟨Y, X, w0⟩ [(q_p0, [v1, .int .i64 p0.2])] [row v1 98 AC p0.1] w0), Calls Tryd.prog 33 #[.pointer (some ⟨q_p0, 0, none⟩)] w0 fun e w' => D9 r (fun r => ∃ x : Value × Value, e = .returned (.agg #[.int .i64 r.1.un.1, .int .i64 r.1.un.2.1, .int .i64 r.1.un.2.2.1, x.1]) ∧ Stw ⟨Y, X, w0⟩ [(q_p0, [x.2, .int .i64 r.2.2])] [row (x.2) 98 AC r.2.1, AU (x.1) AR r.1.un.2.2.2] w') (fun r => ∃ x : Value, e = .panicked [{ v := .iface 89 (.agg #[.int .i64 r.1.1, .int .i64 r.1.2]), recovered := false }] ∧ Stw ⟨Y, X, w0⟩ [(q_p0, [x, .int .i64 r.2.2])] [row (x) 98 AC r.2.1] w') := by
  intro n
  induction n with
  | zero => intro Y X w0 q_p0 v1 p0 r H; exact nomatch H
  | succ n ih => intro Y X w0 q_p0 v1 p0 r H hL; exact Hd (AH n) ih Y X w0 q_p0 v1 p0 r H hL
theorem Ca (Y : Nat → Prop) (X : List Nat) (w0 : World) (q_p0 : Nat) (v1 : Value) (p0 : (List (Int × Int × List UInt8 × Int)) × Int) (r : (Tr25 × ((List (Int × Int × List UInt8 × Int)) × Int)) ⊕ ((Int × Int) × ((List (Int × Int × List UInt8 × Int)) × Int))) (H : B5 p0 = some r) (hL : Stw ⟨Y, X, w0⟩ [(q_p0, [v1, .int .i64 p0.2])] [row v1 98 AC p0.1] w0) :
    Calls Tryd.prog 33 #[.pointer (some ⟨q_p0, 0, none⟩)] w0 fun e w' => D9 r (fun r => ∃ x : Value × Value, e = .returned (.agg #[.int .i64 r.1.un.1, .int .i64 r.1.un.2.1, .int .i64 r.1.un.2.2.1, x.1]) ∧ Stw ⟨Y, X, w0⟩ [(q_p0, [x.2, .int .i64 r.2.2])] [row (x.2) 98 AC r.2.1, AU (x.1) AR r.1.un.2.2.2] w') (fun r => ∃ x : Value, e = .panicked [{ v := .iface 89 (.agg #[.int .i64 r.1.1, .int .i64 r.1.2]), recovered := false }] ∧ Stw ⟨Y, X, w0⟩ [(q_p0, [x, .int .i64 r.2.2])] [row (x) 98 AC r.2.1] w') := by
  obtain ⟨n, H⟩ := BR H
  exact Ho n Y X w0 q_p0 v1 p0 r H hL
theorem Rz : type_of% Tryd.underlying26 := Tryd.underlying26
theorem Tm : Has Tryd.prog 84 := ⟨fun args w => An Tryd.func84 rfl (by decide) args w⟩
theorem Re : Et Tryd.prog 26 28 8 96 := Et.of Rz (by kernel_rfl) (by kernel_rfl) (by kernel_rfl) (by decide)
abbrev Dh (a0 : Nat) : List (Nat × List Value) := [(a0, [.int .i64 0, .int .i64 0, .int .i64 0, .int .i64 0, .slice none 0 0, .int .i64 0, .int .i64 0, .slice none 0 0])]
abbrev QN (a0 : Nat) (a1 : Tr25 × ((List (Int × Int × List UInt8 × Int)) × Int)) (a2 : Value) (a3 : Nat) : List (Nat × List Value) := [(a0, [.int .i64 a1.1.un.1, .int .i64 a1.1.un.2.1, .int .i64 a1.1.un.2.2.1, a2]), (a3, [.int .i64 0, .int .i64 0, .int .i64 0, .int .i64 0, .slice none 0 0, .int .i64 0, .int .i64 0, .slice none 0 0])]
abbrev DK (a0 : Tr28 × ((List (Int × Int × List UInt8 × Int)) × Int)) (a1 : Value) (a2 : Value) : List Value := [.int .i64 a0.1.un.1, .int .i64 a0.1.un.2.1.un.1, .int .i64 a0.1.un.2.1.un.2.1, .int .i64 a0.1.un.2.1.un.2.2.1, a1, .int .i64 a0.1.un.2.2.1, .int .i64 a0.1.un.2.2.2.1, a2]
abbrev QT (a0 : Nat) (a1 : Tr28 × ((List (Int × Int × List UInt8 × Int)) × Int)) (a2 : Value) (a3 : Value) (a4 : Nat) (a5 : Tr25 × ((List (Int × Int × List UInt8 × Int)) × Int)) (a6 : Value) (a7 : Nat) : List (Nat × List Value) := [(a0, [.int .i64 a1.1.un.1, .int .i64 a1.1.un.2.1.un.1, .int .i64 a1.1.un.2.1.un.2.1, .int .i64 a1.1.un.2.1.un.2.2.1, a2, .int .i64 a1.1.un.2.2.1, .int .i64 a1.1.un.2.2.2.1, a3]), (a4, [.int .i64 a5.1.un.1, .int .i64 a5.1.un.2.1, .int .i64 a5.1.un.2.2.1, a6]), (a7, [.int .i64 0, .int .i64 0, .int .i64 0, .int .i64 0, .slice none 0 0, .int .i64 0, .int .i64 0, .slice none 0 0])]
noncomputable def BV (fRec_parse_parser_step : ((List (Int × Int × List UInt8 × Int)) × Int) → Option ((Tr28 × ((List (Int × Int × List UInt8 × Int)) × Int)) ⊕ ((Int × Int) × ((List (Int × Int × List UInt8 × Int)) × Int)))) (p0 : (List (Int × Int × List UInt8 × Int)) × Int) : Option ((Tr28 × ((List (Int × Int × List UInt8 × Int)) × Int)) ⊕ ((Int × Int) × ((List (Int × Int × List UInt8 × Int)) × Int))) := (B5 p0).bind fun x1 => B4 x1 (fun x2 => (AV x2.2 ([116, 104, 101, 110] : List UInt8)).bind fun x4 => B4 x4 (fun x5 => (fRec_parse_parser_step x5).bind fun x7 => B4 x7 (fun x8 => (AV x8.2 ([101, 108, 115, 101] : List UInt8)).bind fun x10 => B4 x10 (fun x11 => (fRec_parse_parser_step x11).bind fun x13 => B4 x13 (fun x14 => some (.inl (Tr28.of (5, x2.1, 0, 0, ([Tr28.of (x8.1.un.1, Tr25.of (x8.1.un.2.1.un.1, x8.1.un.2.1.un.2.1, x8.1.un.2.1.un.2.2.1, x8.1.un.2.1.un.2.2.2), x8.1.un.2.2.1, x8.1.un.2.2.2.1, x8.1.un.2.2.2.2), Tr28.of (x14.1.un.1, Tr25.of (x14.1.un.2.1.un.1, x14.1.un.2.1.un.2.1, x14.1.un.2.1.un.2.2.1, x14.1.un.2.1.un.2.2.2), x14.1.un.2.2.1, x14.1.un.2.2.2.1, x14.1.un.2.2.2.2)] : List Tr28)), x14.2))) (fun x15 => some (.inr (x15.1, x15.2)))) (fun x12 => some (.inr (x12.1, x12.2)))) (fun x9 => some (.inr (x9.1, x9.2)))) (fun x6 => some (.inr (x6.1, x6.2)))) (fun x3 => some (.inr (x3.1, x3.2)))
theorem F1 (fRec_parse_parser_step : ((List (Int × Int × List UInt8 × Int)) × Int) → Option ((Tr28 × ((List (Int × Int × List UInt8 × Int)) × Int)) ⊕ ((Int × Int) × ((List (Int × Int × List UInt8 × Int)) × Int)))) (ih_parse_parser_step : ∀ (Y : Nat → Prop) (X : List Nat) (w0 : World) (q_p0 : Nat) (v1 : Value) (p0 : (List (Int × Int × List UInt8 × Int)) × Int) (r : (Tr28 × ((List (Int × Int × List UInt8 × Int)) × Int)) ⊕ ((Int × Int) × ((List (Int × Int × List UInt8 × Int)) × Int))) (H : fRec_parse_parser_step p0 = some r) (hL : Stw ⟨Y, X, w0⟩ [(q_p0, [v1, .int .i64 p0.2])] [row v1 98 AC p0.1] w0), Calls Tryd.prog 84 #[.pointer (some ⟨q_p0, 0, none⟩)] w0 fun e w' => D9 r (fun r => ∃ x : Value × Value × Value, e = .returned (.agg #[.int .i64 r.1.un.1, .int .i64 r.1.un.2.1.un.1, .int .i64 r.1.un.2.1.un.2.1, .int .i64 r.1.un.2.1.un.2.2.1, x.1, .int .i64 r.1.un.2.2.1, .int .i64 r.1.un.2.2.2.1, x.2.1]) ∧ Stw ⟨Y, X, w0⟩ [(q_p0, [x.2.2, .int .i64 r.2.2])] [row (x.2.2) 98 AC r.2.1, AU (x.1) AR r.1.un.2.1.un.2.2.2, AU (x.2.1) BD r.1.un.2.2.2.2] w') (fun r => ∃ x : Value, e = .panicked [{ v := .iface 89 (.agg #[.int .i64 r.1.1, .int .i64 r.1.2]), recovered := false }] ∧ Stw ⟨Y, X, w0⟩ [(q_p0, [x, .int .i64 r.2.2])] [row (x) 98 AC r.2.1] w')) (Y : Nat → Prop) (X : List Nat) (w0 : World) (q_p0 : Nat) (v1 : Value) (p0 : (List (Int × Int × List UInt8 × Int)) × Int) (r : (Tr28 × ((List (Int × Int × List UInt8 × Int)) × Int)) ⊕ ((Int × Int) × ((List (Int × Int × List UInt8 × Int)) × Int))) (H : BV fRec_parse_parser_step p0 = some r) (hL : Stw ⟨Y, X, w0⟩ [(q_p0, [v1, .int .i64 p0.2])] [row v1 98 AC p0.1] w0) :
    Calls Tryd.prog 104 #[.pointer (some ⟨q_p0, 0, none⟩)] w0 fun e w' => D9 r (fun r => ∃ x : Value × Value × Value, e = .returned (.agg #[.int .i64 r.1.un.1, .int .i64 r.1.un.2.1.un.1, .int .i64 r.1.un.2.1.un.2.1, .int .i64 r.1.un.2.1.un.2.2.1, x.1, .int .i64 r.1.un.2.2.1, .int .i64 r.1.un.2.2.2.1, x.2.1]) ∧ Stw ⟨Y, X, w0⟩ [(q_p0, [x.2.2, .int .i64 r.2.2])] [row (x.2.2) 98 AC r.2.1, AU (x.1) AR r.1.un.2.1.un.2.2.2, row (x.2.1) 28 BD r.1.un.2.2.2.2] w') (fun r => ∃ x : Value, e = .panicked [{ v := .iface 89 (.agg #[.int .i64 r.1.1, .int .i64 r.1.2]), recovered := false }] ∧ Stw ⟨Y, X, w0⟩ [(q_p0, [x, .int .i64 r.2.2])] [row (x) 98 AC r.2.1] w') := by
 refine enter Tryd.func104 Aa Tryd.ntmps104 Aa fun a W => ?_
 have F := hL
 unfold BV at H
 refine Ak (Ab ?_)
 refine Bi (cs := (BM)) W F Aa Lh Aa fun b1 a w W F => ?_
 refine Ae (Ac (Ak (Ab ?_)))
 refine ls W F Aa (Ah W Aa).q fun a w W F => ?_
 obtain ⟨x1, h1, H⟩ := Aq H
 rcases x1 with x2 | x3
 ·
  have H := EZ H
  have F := F.frontM (i := 1) Aa Aa
  refine A2 (Ml := [(q_p0, [v1, .int .i64 p0.2])]) (Zl := [row v1 98 AC p0.1]) (M := (Dh b1)) (Z := []) (β := Value × Value) (rv := fun x => .agg #[.int .i64 x2.1.un.1, .int .i64 x2.1.un.2.1, .int .i64 x2.1.un.2.2.1, x.1]) (MM := fun x => [(q_p0, [x.2, .int .i64 x2.2.2])]) (ZZ := fun x => [row x.2 98 AC x2.2.1, AU x.1 AR x2.1.un.2.2.2]) W F TH Aa Aa (fun hL => Ca _ _ w q_p0 (v1) p0 _ h1 hL) fun x a w W F => ?_
  obtain ⟨v2, v3⟩ := x
  have F : Stw ⟨Y, X, w0⟩ [(q_p0, [v3, .int .i64 x2.2.2]), (b1, (BM))] [row v3 98 AC x2.2.1, AU v2 AR x2.1.un.2.2.2] w := F
  refine Bi (cs := (Ct)) W F Aa NI Aa fun b2 a w W F => ?_
  refine AL (vs := (FL x2 v2)) (M' := [(b2, [.int .i64 x2.1.un.1, .int .i64 x2.1.un.2.1, .int .i64 x2.1.un.2.2.1, v2]), (q_p0, [v3, .int .i64 x2.2.2]), (b1, [.int .i64 0, .int .i64 0, .int .i64 0, .int .i64 0, .slice none 0 0, .int .i64 0, .int .i64 0, .slice none 0 0])]) 0 W F Aa Aa Aa FW Aa Aa Aa (Ai Aa (Ai Aa (Ai Aa (Ai (F.oneF (k := 1) Aa) Bp)))) Aa fun w F => ?_
  refine Ae (Ac (Ak (Ab ?_)))
  refine ls W F Aa (Ah W Aa).q fun a w W F => ?_
  obtain ⟨x4, h2, H⟩ := Aq H
  rcases x4 with x5 | x6
  ·
   have H := EZ H
   have F := F.frontM (i := 1) Aa Aa
   refine A2 (Ml := [(q_p0, [v3, .int .i64 x2.2.2])]) (Zl := [row v3 98 AC x2.2.1]) (M := (QN b2 x2 v2 b1)) (Z := [AU v2 AR x2.1.un.2.2.2]) (β := Value) (rv := fun x => .tuple #[]) (MM := fun x => [(q_p0, [x, .int .i64 x5.2])]) (ZZ := fun x => [row x 98 AC x5.1]) W F Lr Aa Aa (fun hL => Bl _ _ w q_p0 (v3) x2.2 ([116, 104, 101, 110] : List UInt8) _ h2 hL) fun x a w W F => ?_
   obtain ⟨v4, rfl⟩ : ∃ y, y = x := ⟨x, rfl⟩
   have F : Stw ⟨Y, X, w0⟩ [(q_p0, [v4, .int .i64 x5.2]), (b2, (FL x2 v2)), (b1, (BM))] [row v4 98 AC x5.1, AU v2 AR x2.1.un.2.2.2] w := F
   refine Ae (Ac (Ak (Ab ?_)))
   refine ls W F Aa (Ah W Aa).q fun a w W F => ?_
   obtain ⟨x7, h3, H⟩ := Aq H
   rcases x7 with x8 | x9
   ·
    have H := EZ H
    refine A2 (Ml := [(q_p0, [v4, .int .i64 x5.2])]) (Zl := [row v4 98 AC x5.1]) (M := (QN b2 x2 v2 b1)) (Z := [AU v2 AR x2.1.un.2.2.2]) (β := Value × Value × Value) (rv := fun x => .agg #[.int .i64 x8.1.un.1, .int .i64 x8.1.un.2.1.un.1, .int .i64 x8.1.un.2.1.un.2.1, .int .i64 x8.1.un.2.1.un.2.2.1, x.1, .int .i64 x8.1.un.2.2.1, .int .i64 x8.1.un.2.2.2.1, x.2.1]) (MM := fun x => [(q_p0, [x.2.2, .int .i64 x8.2.2])]) (ZZ := fun x => [row x.2.2 98 AC x8.2.1, AU x.1 AR x8.1.un.2.1.un.2.2.2, AU x.2.1 BD x8.1.un.2.2.2.2]) W F Tm Aa Aa (fun hL => ih_parse_parser_step _ _ w q_p0 (v4) x5 _ h3 hL) fun x a w W F => ?_
    obtain ⟨v5, v6, v7⟩ := x
    have F : Stw ⟨Y, X, w0⟩ [(q_p0, [v7, .int .i64 x8.2.2]), (b2, (FL x2 v2)), (b1, (BM))] [row v7 98 AC x8.2.1, AU v5 AR x8.1.un.2.1.un.2.2.2, AU v6 BD x8.1.un.2.2.2.2, AU v2 AR x2.1.un.2.2.2] w := F
    refine Bi (cs := (BM)) W F Aa Lh Aa fun b3 a w W F => ?_
    refine AL (vs := (DK x8 v5 v6)) (M' := [(b3, (DK x8 v5 v6)), (q_p0, [v7, .int .i64 x8.2.2]), (b2, (FL x2 v2)), (b1, (BM))]) 0 W F Aa Aa Aa FJ Aa Aa Aa (Ai Aa (Ai Aa (Ai Aa (Ai Aa (Ai (F.oneF (k := 1) Aa) (Ai Aa (Ai Aa (Ai (F.oneF (k := 2) Aa) Bp)))))))) Aa fun w F => ?_
    refine Ae (Ac (Ak (Ab ?_)))
    refine ls W F Aa (Ah W Aa).q fun a w W F => ?_
    obtain ⟨x10, h4, H⟩ := Aq H
    rcases x10 with x11 | x12
    ·
     have H := EZ H
     have F := F.frontM (i := 1) Aa Aa
     refine A2 (Ml := [(q_p0, [v7, .int .i64 x8.2.2])]) (Zl := [row v7 98 AC x8.2.1]) (M := (QT b3 x8 v5 v6 b2 x2 v2 b1)) (Z := [AU v5 AR x8.1.un.2.1.un.2.2.2, AU v6 BD x8.1.un.2.2.2.2, AU v2 AR x2.1.un.2.2.2]) (β := Value) (rv := fun x => .tuple #[]) (MM := fun x => [(q_p0, [x, .int .i64 x11.2])]) (ZZ := fun x => [row x 98 AC x11.1]) W F Lr Aa Aa (fun hL => Bl _ _ w q_p0 (v7) x8.2 ([101, 108, 115, 101] : List UInt8) _ h4 hL) fun x a w W F => ?_
     obtain ⟨v8, rfl⟩ : ∃ y, y = x := ⟨x, rfl⟩
     have F : Stw ⟨Y, X, w0⟩ [(q_p0, [v8, .int .i64 x11.2]), (b3, (DK x8 v5 v6)), (b2, (FL x2 v2)), (b1, (BM))] [row v8 98 AC x11.1, AU v5 AR x8.1.un.2.1.un.2.2.2, AU v6 BD x8.1.un.2.2.2.2, AU v2 AR x2.1.un.2.2.2] w := F
     refine Ae (Ac (Ak (Ab ?_)))
     refine ls W F Aa (Ah W Aa).q fun a w W F => ?_
     obtain ⟨x13, h5, H⟩ := Aq H
     rcases x13 with x14 | x15
     ·
      have H := EZ H
      refine A2 (Ml := [(q_p0, [v8, .int .i64 x11.2])]) (Zl := [row v8 98 AC x11.1]) (M := (QT b3 x8 v5 v6 b2 x2 v2 b1)) (Z := [AU v5 AR x8.1.un.2.1.un.2.2.2, AU v6 BD x8.1.un.2.2.2.2, AU v2 AR x2.1.un.2.2.2]) (β := Value × Value × Value) (rv := fun x => .agg #[.int .i64 x14.1.un.1, .int .i64 x14.1.un.2.1.un.1, .int .i64 x14.1.un.2.1.un.2.1, .int .i64 x14.1.un.2.1.un.2.2.1, x.1, .int .i64 x14.1.un.2.2.1, .int .i64 x14.1.un.2.2.2.1, x.2.1]) (MM := fun x => [(q_p0, [x.2.2, .int .i64 x14.2.2])]) (ZZ := fun x => [row x.2.2 98 AC x14.2.1, AU x.1 AR x14.1.un.2.1.un.2.2.2, AU x.2.1 BD x14.1.un.2.2.2.2]) W F Tm Aa Aa (fun hL => ih_parse_parser_step _ _ w q_p0 (v8) x11 _ h5 hL) fun x a w W F => ?_
      obtain ⟨v9, v10, v11⟩ := x
      have F : Stw ⟨Y, X, w0⟩ [(q_p0, [v11, .int .i64 x14.2.2]), (b3, (DK x8 v5 v6)), (b2, (FL x2 v2)), (b1, (BM))] [row v11 98 AC x14.2.1, AU v9 AR x14.1.un.2.1.un.2.2.2, AU v10 BD x14.1.un.2.2.2.2, AU v5 AR x8.1.un.2.1.un.2.2.2, AU v6 BD x8.1.un.2.2.2.2, AU v2 AR x2.1.un.2.2.2] w := F
      refine Bi (cs := (BM)) W F Aa Lh Aa fun b4 a w W F => ?_
      refine AL (vs := (DK x14 v9 v10)) (M' := [(b4, (DK x14 v9 v10)), (q_p0, [v11, .int .i64 x14.2.2]), (b3, (DK x8 v5 v6)), (b2, (FL x2 v2)), (b1, (BM))]) 0 W F Aa Aa Aa FJ Aa Aa Aa (Ai Aa (Ai Aa (Ai Aa (Ai Aa (Ai (F.oneF (k := 1) Aa) (Ai Aa (Ai Aa (Ai (F.oneF (k := 2) Aa) Bp)))))))) Aa fun w F => ?_
      refine Ae (Ac (Ak (Ab ?_)))
      refine ls W F Aa (Av (v := Value.agg #[.int .i64 x2.1.un.1, .int .i64 x2.1.un.2.1, .int .i64 x2.1.un.2.2.1, v2]) 3 W Aa Aa FW Aa).q fun a w W F => ?_
      refine ls W F Aa (Av (v := Value.agg #[.int .i64 x8.1.un.1, .int .i64 x8.1.un.2.1.un.1, .int .i64 x8.1.un.2.1.un.2.1, .int .i64 x8.1.un.2.1.un.2.2.1, v5, .int .i64 x8.1.un.2.2.1, .int .i64 x8.1.un.2.2.2.1, v6]) 2 W Aa Aa FJ Aa).q fun a w W F => ?_
      refine ls W F Aa (Av (v := Value.agg #[.int .i64 x14.1.un.1, .int .i64 x14.1.un.2.1.un.1, .int .i64 x14.1.un.2.1.un.2.1, .int .i64 x14.1.un.2.1.un.2.2.1, v9, .int .i64 x14.1.un.2.2.1, .int .i64 x14.1.un.2.2.2.1, v10]) 0 W Aa Aa FJ Aa).q fun a w W F => ?_
      refine FN (z := Value.agg #[.int .i64 0, .int .i64 0, .int .i64 0, .int .i64 0, .slice none 0 0, .int .i64 0, .int .i64 0, .slice none 0 0]) (cs := [.int .i64 x8.1.un.1, .int .i64 x8.1.un.2.1.un.1, .int .i64 x8.1.un.2.1.un.2.1, .int .i64 x8.1.un.2.1.un.2.2.1, v5, .int .i64 x8.1.un.2.2.1, .int .i64 x8.1.un.2.2.2.1, v6, .int .i64 x14.1.un.1, .int .i64 x14.1.un.2.1.un.1, .int .i64 x14.1.un.2.1.un.2.1, .int .i64 x14.1.un.2.1.un.2.2.1, v9, .int .i64 x14.1.un.2.2.1, .int .i64 x14.1.un.2.2.2.1, v10]) BD ([Tr28.of (x8.1.un.1, Tr25.of (x8.1.un.2.1.un.1, x8.1.un.2.1.un.2.1, x8.1.un.2.1.un.2.2.1, x8.1.un.2.1.un.2.2.2), x8.1.un.2.2.1, x8.1.un.2.2.2.1, x8.1.un.2.2.2.2), Tr28.of (x14.1.un.1, Tr25.of (x14.1.un.2.1.un.1, x14.1.un.2.1.un.2.1, x14.1.un.2.1.un.2.2.1, x14.1.un.2.1.un.2.2.2), x14.1.un.2.2.1, x14.1.un.2.2.2.1, x14.1.un.2.2.2.2)] : List Tr28) W F Aa Re Lh Aa Aa Aa (AX Aa Aa Aa (AX Aa Aa Aa B2)) Aa Aa ⟨[Value.int .i64 x8.1.un.1, Value.int .i64 x8.1.un.2.1.un.1, Value.int .i64 x8.1.un.2.1.un.2.1, Value.int .i64 x8.1.un.2.1.un.2.2.1, v5, Value.int .i64 x8.1.un.2.2.1, Value.int .i64 x8.1.un.2.2.2.1, v6], _, Aa, (PQ.2 ⟨[Value.int .i64 x8.1.un.1], [Value.int .i64 x8.1.un.2.1.un.1, Value.int .i64 x8.1.un.2.1.un.2.1, Value.int .i64 x8.1.un.2.1.un.2.2.1, v5, Value.int .i64 x8.1.un.2.2.1, Value.int .i64 x8.1.un.2.2.2.1, v6], Aa, Aa, ⟨[Value.int .i64 x8.1.un.2.1.un.1, Value.int .i64 x8.1.un.2.1.un.2.1, Value.int .i64 x8.1.un.2.1.un.2.2.1, v5], [Value.int .i64 x8.1.un.2.2.1, Value.int .i64 x8.1.un.2.2.2.1, v6], Aa, (KO.2 ⟨[Value.int .i64 x8.1.un.2.1.un.1], [Value.int .i64 x8.1.un.2.1.un.2.1, Value.int .i64 x8.1.un.2.1.un.2.2.1, v5], Aa, Aa, ⟨[Value.int .i64 x8.1.un.2.1.un.2.1], [Value.int .i64 x8.1.un.2.1.un.2.2.1, v5], Aa, Aa, ⟨[Value.int .i64 x8.1.un.2.1.un.2.2.1], [v5], Aa, Aa, ⟨_, Aa, (F.item (i := 3) Aa)⟩⟩⟩⟩), ⟨[Value.int .i64 x8.1.un.2.2.1], [Value.int .i64 x8.1.un.2.2.2.1, v6], Aa, Aa, ⟨[Value.int .i64 x8.1.un.2.2.2.1], [v6], Aa, Aa, ⟨_, Aa, (F.item (i := 4) Aa)⟩⟩⟩⟩⟩), ⟨[Value.int .i64 x14.1.un.1, Value.int .i64 x14.1.un.2.1.un.1, Value.int .i64 x14.1.un.2.1.un.2.1, Value.int .i64 x14.1.un.2.1.un.2.2.1, v9, Value.int .i64 x14.1.un.2.2.1, Value.int .i64 x14.1.un.2.2.2.1, v10], _, Aa, (PQ.2 ⟨[Value.int .i64 x14.1.un.1], [Value.int .i64 x14.1.un.2.1.un.1, Value.int .i64 x14.1.un.2.1.un.2.1, Value.int .i64 x14.1.un.2.1.un.2.2.1, v9, Value.int .i64 x14.1.un.2.2.1, Value.int .i64 x14.1.un.2.2.2.1, v10], Aa, Aa, ⟨[Value.int .i64 x14.1.un.2.1.un.1, Value.int .i64 x14.1.un.2.1.un.2.1, Value.int .i64 x14.1.un.2.1.un.2.2.1, v9], [Value.int .i64 x14.1.un.2.2.1, Value.int .i64 x14.1.un.2.2.2.1, v10], Aa, (KO.2 ⟨[Value.int .i64 x14.1.un.2.1.un.1], [Value.int .i64 x14.1.un.2.1.un.2.1, Value.int .i64 x14.1.un.2.1.un.2.2.1, v9], Aa, Aa, ⟨[Value.int .i64 x14.1.un.2.1.un.2.1], [Value.int .i64 x14.1.un.2.1.un.2.2.1, v9], Aa, Aa, ⟨[Value.int .i64 x14.1.un.2.1.un.2.2.1], [v9], Aa, Aa, ⟨_, Aa, (F.item (i := 1) Aa)⟩⟩⟩⟩), ⟨[Value.int .i64 x14.1.un.2.2.1], [Value.int .i64 x14.1.un.2.2.2.1, v10], Aa, Aa, ⟨[Value.int .i64 x14.1.un.2.2.2.1], [v10], Aa, Aa, ⟨_, Aa, (F.item (i := 2) Aa)⟩⟩⟩⟩⟩), Aa⟩⟩ fun v12 a w W F => ?_
      refine ls W F Aa (B7 (v := Value.agg #[.int .i64 5, .int .i64 x2.1.un.1, .int .i64 x2.1.un.2.1, .int .i64 x2.1.un.2.2.1, v2, .int .i64 0, .int .i64 0, v12]) TR W Aa (AX Aa Aa Aa (AX Aa Aa Aa (AX Aa (FH (F.one (k := 0) Aa)) Aa B2))) Aa).q fun a w W F => ?_
      refine AL (vs := [.int .i64 5, .int .i64 x2.1.un.1, .int .i64 x2.1.un.2.1, .int .i64 x2.1.un.2.2.1, v2, .int .i64 0, .int .i64 0, v12]) (M' := [(b4, (DK x14 v9 v10)), (q_p0, [v11, .int .i64 x14.2.2]), (b3, (DK x8 v5 v6)), (b2, (FL x2 v2)), (b1, [.int .i64 5, .int .i64 x2.1.un.1, .int .i64 x2.1.un.2.1, .int .i64 x2.1.un.2.2.1, v2, .int .i64 0, .int .i64 0, v12])]) 4 W F Aa Aa Aa FJ Aa Aa Aa (Ai Aa (Ai Aa (Ai Aa (Ai Aa (Ai (F.oneF (k := 6) Aa) (Ai Aa (Ai Aa (Ai (F.one (k := 0) Aa) Bp)))))))) Aa fun w F => ?_
      refine Ae (Ac (Ax ?_))
      have H := AK H
      subst H
      refine AG (.inl Aa) W F Aa (A3 4 W Aa Aa FJ Aa) ?_
      have F := F.frontZ (i := 6) Aa Aa
      have F := F.frontZ (i := 2) Aa Aa
      have F := F.frontM (i := 1) Aa Aa
      have F := F.sub (M' := [(q_p0, [v11, .int .i64 x14.2.2])]) (Z' := [row v11 98 AC x14.2.1, AU v2 AR x2.1.un.2.2.2, row v12 28 BD ([Tr28.of (x8.1.un.1, Tr25.of (x8.1.un.2.1.un.1, x8.1.un.2.1.un.2.1, x8.1.un.2.1.un.2.2.1, x8.1.un.2.1.un.2.2.2), x8.1.un.2.2.1, x8.1.un.2.2.2.1, x8.1.un.2.2.2.2), Tr28.of (x14.1.un.1, Tr25.of (x14.1.un.2.1.un.1, x14.1.un.2.1.un.2.1, x14.1.un.2.1.un.2.2.1, x14.1.un.2.1.un.2.2.2), x14.1.un.2.2.1, x14.1.un.2.2.2.1, x14.1.un.2.2.2.2)] : List Tr28)]) (List.Sublist.cons_cons _ (List.nil_sublist _)) (List.Sublist.cons_cons _ (List.Sublist.cons_cons _ (List.Sublist.cons_cons _ (List.nil_sublist _))))
      exact ⟨((v2), (v12), (v11)), Aa, F⟩
     have H := EY H
     refine B0 (Ml := [(q_p0, [v8, .int .i64 x11.2])]) (Zl := [row v8 98 AC x11.1]) (M := (QT b3 x8 v5 v6 b2 x2 v2 b1)) (Z := [AU v5 AR x8.1.un.2.1.un.2.2.2, AU v6 BD x8.1.un.2.2.2.2, AU v2 AR x2.1.un.2.2.2]) (β := Value) (pv := fun x => .iface 89 (.agg #[.int .i64 x15.1.1, .int .i64 x15.1.2])) (MM := fun x => [(q_p0, [x, .int .i64 x15.2.2])]) (ZZ := fun x => [row x 98 AC x15.2.1]) W F Tm Aa (fun hL => ih_parse_parser_step _ _ w q_p0 (v8) x11 _ h5 hL) fun x w F => ?_
     obtain ⟨v13, rfl⟩ : ∃ y, y = x := ⟨x, rfl⟩
     have F : Stw ⟨Y, X, w0⟩ [(q_p0, [v13, .int .i64 x15.2.2]), (b3, (DK x8 v5 v6)), (b2, (FL x2 v2)), (b1, (BM))] [row v13 98 AC x15.2.1, AU v5 AR x8.1.un.2.1.un.2.2.2, AU v6 BD x8.1.un.2.2.2.2, AU v2 AR x2.1.un.2.2.2] w := F
     refine BF ?_
     have H := AK H
     subst H
     refine A7 W ?_
     have F := F.sub (M' := [(q_p0, [v13, .int .i64 x15.2.2])]) (Z' := [row v13 98 AC x15.2.1]) (List.Sublist.cons_cons _ (List.nil_sublist _)) (List.Sublist.cons_cons _ (List.nil_sublist _))
     exact ⟨(v13), Aa, F⟩
    have H := EY H
    have F := F.frontM (i := 1) Aa Aa
    refine B0 (Ml := [(q_p0, [v7, .int .i64 x8.2.2])]) (Zl := [row v7 98 AC x8.2.1]) (M := (QT b3 x8 v5 v6 b2 x2 v2 b1)) (Z := [AU v5 AR x8.1.un.2.1.un.2.2.2, AU v6 BD x8.1.un.2.2.2.2, AU v2 AR x2.1.un.2.2.2]) (β := Value) (pv := fun x => .iface 89 (.agg #[.int .i64 x12.1.1, .int .i64 x12.1.2])) (MM := fun x => [(q_p0, [x, .int .i64 x12.2.2])]) (ZZ := fun x => [row x 98 AC x12.2.1]) W F Lr Aa (fun hL => Bl _ _ w q_p0 (v7) x8.2 ([101, 108, 115, 101] : List UInt8) _ h4 hL) fun x w F => ?_
    obtain ⟨v14, rfl⟩ : ∃ y, y = x := ⟨x, rfl⟩
    have F : Stw ⟨Y, X, w0⟩ [(q_p0, [v14, .int .i64 x12.2.2]), (b3, (DK x8 v5 v6)), (b2, (FL x2 v2)), (b1, (BM))] [row v14 98 AC x12.2.1, AU v5 AR x8.1.un.2.1.un.2.2.2, AU v6 BD x8.1.un.2.2.2.2, AU v2 AR x2.1.un.2.2.2] w := F
    refine BF ?_
    have H := AK H
    subst H
    refine A7 W ?_
    have F := F.sub (M' := [(q_p0, [v14, .int .i64 x12.2.2])]) (Z' := [row v14 98 AC x12.2.1]) (List.Sublist.cons_cons _ (List.nil_sublist _)) (List.Sublist.cons_cons _ (List.nil_sublist _))
    exact ⟨(v14), Aa, F⟩
   have H := EY H
   refine B0 (Ml := [(q_p0, [v4, .int .i64 x5.2])]) (Zl := [row v4 98 AC x5.1]) (M := (QN b2 x2 v2 b1)) (Z := [AU v2 AR x2.1.un.2.2.2]) (β := Value) (pv := fun x => .iface 89 (.agg #[.int .i64 x9.1.1, .int .i64 x9.1.2])) (MM := fun x => [(q_p0, [x, .int .i64 x9.2.2])]) (ZZ := fun x => [row x 98 AC x9.2.1]) W F Tm Aa (fun hL => ih_parse_parser_step _ _ w q_p0 (v4) x5 _ h3 hL) fun x w F => ?_
   obtain ⟨v15, rfl⟩ : ∃ y, y = x := ⟨x, rfl⟩
   have F : Stw ⟨Y, X, w0⟩ [(q_p0, [v15, .int .i64 x9.2.2]), (b2, (FL x2 v2)), (b1, (BM))] [row v15 98 AC x9.2.1, AU v2 AR x2.1.un.2.2.2] w := F
   refine BF ?_
   have H := AK H
   subst H
   refine A7 W ?_
   have F := F.sub (M' := [(q_p0, [v15, .int .i64 x9.2.2])]) (Z' := [row v15 98 AC x9.2.1]) (List.Sublist.cons_cons _ (List.nil_sublist _)) (List.Sublist.cons_cons _ (List.nil_sublist _))
   exact ⟨(v15), Aa, F⟩
  have H := EY H
  have F := F.frontM (i := 1) Aa Aa
  refine B0 (Ml := [(q_p0, [v3, .int .i64 x2.2.2])]) (Zl := [row v3 98 AC x2.2.1]) (M := (QN b2 x2 v2 b1)) (Z := [AU v2 AR x2.1.un.2.2.2]) (β := Value) (pv := fun x => .iface 89 (.agg #[.int .i64 x6.1.1, .int .i64 x6.1.2])) (MM := fun x => [(q_p0, [x, .int .i64 x6.2.2])]) (ZZ := fun x => [row x 98 AC x6.2.1]) W F Lr Aa (fun hL => Bl _ _ w q_p0 (v3) x2.2 ([116, 104, 101, 110] : List UInt8) _ h2 hL) fun x w F => ?_
  obtain ⟨v16, rfl⟩ : ∃ y, y = x := ⟨x, rfl⟩
  have F : Stw ⟨Y, X, w0⟩ [(q_p0, [v16, .int .i64 x6.2.2]), (b2, (FL x2 v2)), (b1, (BM))] [row v16 98 AC x6.2.1, AU v2 AR x2.1.un.2.2.2] w := F
  refine BF ?_
  have H := AK H
  subst H
  refine A7 W ?_
  have F := F.sub (M' := [(q_p0, [v16, .int .i64 x6.2.2])]) (Z' := [row v16 98 AC x6.2.1]) (List.Sublist.cons_cons _ (List.nil_sublist _)) (List.Sublist.cons_cons _ (List.nil_sublist _))
  exact ⟨(v16), Aa, F⟩
 have H := EY H
 have F := F.frontM (i := 1) Aa Aa
 refine B0 (Ml := [(q_p0, [v1, .int .i64 p0.2])]) (Zl := [row v1 98 AC p0.1]) (M := (Dh b1)) (Z := []) (β := Value) (pv := fun x => .iface 89 (.agg #[.int .i64 x3.1.1, .int .i64 x3.1.2])) (MM := fun x => [(q_p0, [x, .int .i64 x3.2.2])]) (ZZ := fun x => [row x 98 AC x3.2.1]) W F TH Aa (fun hL => Ca _ _ w q_p0 (v1) p0 _ h1 hL) fun x w F => ?_
 obtain ⟨v17, rfl⟩ : ∃ y, y = x := ⟨x, rfl⟩
 have F : Stw ⟨Y, X, w0⟩ [(q_p0, [v17, .int .i64 x3.2.2]), (b1, (BM))] [row v17 98 AC x3.2.1] w := F
 refine BF ?_
 have H := AK H
 subst H
 refine A7 W ?_
 have F := F.sub (M' := [(q_p0, [v17, .int .i64 x3.2.2])]) (Z' := [row v17 98 AC x3.2.1]) (List.Sublist.cons_cons _ (List.nil_sublist _)) (List.Sublist.refl _)
 exact ⟨(v17), Aa, F⟩
end Go.Proofs.YtlgjpoapclifbaaDoor
