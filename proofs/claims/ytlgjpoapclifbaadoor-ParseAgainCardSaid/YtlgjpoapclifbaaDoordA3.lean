/- The functions of layer 29, EF. Conditions: none. -/
import Derived.Test.YtlgjpoapclifbaaDoordA2
namespace Go.Proofs.YtlgjpoapclifbaaDoor
open Go Go.RowKit
set_option linter.unusedVariables false
set_option linter.unusedSimpArgs false
set_option maxRecDepth 20000
theorem Tu : type_of% Tryd.underlying20 := Tryd.underlying20
theorem UG : Has Tryd.prog 29 := ⟨fun args w => Am Tryd.func29 rfl (by decide) args w⟩
theorem R4 : Ty Tryd.prog 29 false 1 := ⟨by kernel_rfl, by kernel_rfl⟩
def GQ (p0 : Tr28) (p1 : Int) (p2 : Int) : Unit := ()
theorem I2 (Y : Nat → Prop) (X : List Nat) (w0 : World) (q_p0 : Nat) (v1 : Value) (v2 : Value) (q_p1 : Nat) (q_p2 : Nat) (p0 : Tr28) (p1 : Int) (p2 : Int) (r : Unit) (H : GQ p0 p1 p2 = r) (hL : Stw ⟨Y, X, w0⟩ [(q_p0, [.int .i64 p0.un.1, .int .i64 p0.un.2.1.un.1, .int .i64 p0.un.2.1.un.2.1, .int .i64 p0.un.2.1.un.2.2.1, v1, .int .i64 p0.un.2.2.1, .int .i64 p0.un.2.2.2.1, v2]), (q_p1, [.int .i64 p1]), (q_p2, [.int .i64 p2])] [A4 v1 A6 p0.un.2.1.un.2.2.2, A4 v2 BJ p0.un.2.2.2.2] w0) :
    CallsD Tryd.prog 25 #[.pointer (some ⟨q_p0, 0, none⟩), .pointer (some ⟨q_p1, 0, none⟩), .pointer (some ⟨q_p2, 0, none⟩)] .returning w0 fun e u' w' => u' = .returning ∧ (∃ x : Unit, e = .returned (.tuple #[]) ∧ Stw ⟨Y, X, w0⟩ [(q_p0, [.int .i64 p0.un.1, .int .i64 p0.un.2.1.un.1, .int .i64 p0.un.2.1.un.2.1, .int .i64 p0.un.2.1.un.2.2.1, v1, .int .i64 p0.un.2.2.1, .int .i64 p0.un.2.2.2.1, v2]), (q_p1, [.int .i64 p1]), (q_p2, [.int .i64 p2])] [A4 v1 A6 p0.un.2.1.un.2.2.2, A4 v2 BJ p0.un.2.2.2.2] w') := by
 refine MR Tryd.func25 Aa Tryd.ntmps25 Aa Aa Aa fun a F => ?_
 have W := hL
 unfold GQ at H
 refine Ah (Ab ?_)
 refine ls F W Aa (Ai F Aa).q fun a w F W => ?_
 refine ls F W Aa (ND Tu F Aa).q fun a w F W => ?_
 refine Ae (Ac ?_)
 refine Ol F Aa ?_
 refine AM ?_
 subst H
 refine PB (.inr Aa) F Aa ?_
 have W := W.frontZ (i := 1) Aa Aa
 have W := W.frontZ (i := 1) Aa Aa
 have W := W.frontM (i := 2) Aa Aa
 have W := W.frontM (i := 2) Aa Aa
 have W := W.frontM (i := 2) Aa Aa
 exact ⟨(), Aa, W⟩
theorem TT : Has Tryd.prog 25 := ⟨fun args w => Am Tryd.func25 rfl (by decide) args w⟩
theorem Va : (Tryd.prog.info? 89).bind (·.zero) = some (.agg #[.int .i64 0, .int .i64 0]) := by kernel_rfl
theorem US : Ty Tryd.prog 89 true 2 := ⟨by kernel_rfl, by kernel_rfl⟩
def B8 (p0 : Int × Int) : Int × Int := (p0.1, p0.2)
theorem Mx (Y : Nat → Prop) (w0 : World)  (p0 : Int × Int) (r : Int × Int) (H : B8 p0 = r)  :
    Calls Tryd.prog 26 #[.iface 89 (.agg #[.int .i64 p0.1, .int .i64 p0.2])] w0 fun e w' => e = .returned (.tuple #[.int .i64 r.1, .int .i64 r.2]) ∧ Below w0.heap.size w0 w' := by
 refine enter Tryd.func26 Aa Tryd.ntmps26 Aa fun a F => ?_
 have W := Stw.start Y w0
 unfold B8 at H
 refine Ah (Ab ?_)
 iterate 2 refine ls F W Aa (Ag F Aa).q fun a w F W => ?_
 refine Ae (Ac (Ah (Ab ?_)))
 refine ls F W Aa (Ai F Aa).q fun a w F W => ?_
 refine ls F W Aa (Nq T2 F Aa).q fun a w F W => ?_
 refine ls F W Aa (Ai F Aa).q fun a w F W => ?_
 refine ls F W Aa (B9 (v := Value.agg #[.int .i64 p0.1, .int .i64 p0.2]) F Aa Aa).q fun a w F W => ?_
 refine ls F W Aa (B9 (v := Value.bool true) F Aa Aa).q fun a w F W => ?_
 refine BA (cs := [.int .i64 0, .int .i64 0]) F W Aa Va Aa fun b1 a w F W => ?_
 refine AP (vs := [.int .i64 p0.1, .int .i64 p0.2]) (M' := [(b1, [.int .i64 p0.1, .int .i64 p0.2])]) 0 F W Aa Aa Aa US Aa Aa Aa Aa Aa fun w W => ?_
 refine ls F W Aa (Ag F Aa).q fun a w F W => ?_
 refine Ae (Ac (Ah (Ah (Ab ?_))))
 refine ls F W Aa (Ai F Aa).q fun a w F W => ?_
 refine ls F W Aa (Iu F Aa).q fun a w F W => ?_
 refine Ae (Ac ?_)
 refine Ol F Aa ?_
 refine AM (Ac (Ah ?_))
 refine HR W MO (by kernel_rfl) ?_
 refine qs F Aa (Al SY Aa Aa Aa T3 F Aa 0 Aa).q fun a F => ?_
 refine qs F Aa (Aw (v := Value.int .i64 p0.1) 0 F Aa Aa T3 Aa).q fun a F => ?_
 refine qs F Aa (Al SY Aa Aa Aa R4 F Aa 1 Aa).q fun a F => ?_
 refine qs F Aa (Aw (v := Value.int .i64 p0.2) 0 F Aa Aa R4 Aa).q fun a F => ?_
 iterate 2 refine qs F Aa (Ag F Aa).q fun a F => ?_
 refine CY fun w W => ?_
 refine Ac (Au ?_)
 subst H
 refine Mb (.inl Aa) F W Aa (AD F Aa) (AD F Aa) ?_
 exact ⟨rfl, W.done⟩
theorem UI : Has Tryd.prog 26 := ⟨fun args w => Am Tryd.func26 rfl (by decide) args w⟩
def Ad (p0 : Tr28) (p1 : Int) (p2 : Int) (pc : Int × Int) : Tr28 × Int × Int := (Tr28.of (0, Tr25.of (0, 0, 0, ([] : List Tr25)), 0, 0, ([] : List Tr28)), (B8 pc).1, (B8 pc).2)
theorem Ez (Y : Nat → Prop) (X : List Nat) (w0 : World) (q_p0 : Nat) (v1 : Value) (v2 : Value) (q_p1 : Nat) (q_p2 : Nat) (p0 : Tr28) (p1 : Int) (p2 : Int) (pc : Int × Int) (r : Tr28 × Int × Int) (H : Ad p0 p1 p2 pc = r) (hL : Stw ⟨Y, X, w0⟩ [(q_p0, [.int .i64 p0.un.1, .int .i64 p0.un.2.1.un.1, .int .i64 p0.un.2.1.un.2.1, .int .i64 p0.un.2.1.un.2.2.1, v1, .int .i64 p0.un.2.2.1, .int .i64 p0.un.2.2.2.1, v2]), (q_p1, [.int .i64 p1]), (q_p2, [.int .i64 p2])] [A4 v1 A6 p0.un.2.1.un.2.2.2, A4 v2 BJ p0.un.2.2.2.2] w0) :
    CallsD Tryd.prog 25 #[.pointer (some ⟨q_p0, 0, none⟩), .pointer (some ⟨q_p1, 0, none⟩), .pointer (some ⟨q_p2, 0, none⟩)] (.panicking ({ v := .iface 89 (.agg #[.int .i64 pc.1, .int .i64 pc.2]), recovered := false } :: [])) w0 fun e u' w' => u' = .panicking ({ v := .iface 89 (.agg #[.int .i64 pc.1, .int .i64 pc.2]), recovered := true } :: []) ∧ (∃ x : Value × Value, e = .returned (.tuple #[]) ∧ Stw ⟨Y, X, w0⟩ [(q_p0, [.int .i64 r.1.un.1, .int .i64 r.1.un.2.1.un.1, .int .i64 r.1.un.2.1.un.2.1, .int .i64 r.1.un.2.1.un.2.2.1, x.1, .int .i64 r.1.un.2.2.1, .int .i64 r.1.un.2.2.2.1, x.2]), (q_p1, [.int .i64 r.2.1]), (q_p2, [.int .i64 r.2.2])] [A4 (x.1) A6 r.1.un.2.1.un.2.2.2, A4 (x.2) BJ r.1.un.2.2.2.2] w') := by
 refine Mw Tryd.func25 Aa Tryd.ntmps25 Aa Aa Aa fun a F => ?_
 have W := hL
 unfold Ad at H
 refine Ah (Ab ?_)
 refine ls F W Aa (Ai F Aa).q fun a w F W => ?_
 refine ls F W Aa (Mu Tu F Aa).q fun a w F W => ?_
 refine Ae (Ac ?_)
 refine QU F Aa ?_
 refine Ah (Ab ?_)
 refine ls F W Aa (Cx (v := Value.agg #[.int .i64 0, .int .i64 0, .int .i64 0, .int .i64 0, .slice none 0 0, .int .i64 0, .int .i64 0, .slice none 0 0]) S6 F Aa Aa Aa).q fun a w F W => ?_
 refine AP (vs := (BU)) (M' := [(q_p0, (BU)), (q_p1, [.int .i64 p1]), (q_p2, [.int .i64 p2])]) 0 F W Aa Aa Aa D1 Aa Aa Aa Aa Aa fun w W => ?_
 refine Ae (Ac (Ab ?_))
 refine ls F W Aa (Ai F Aa).q fun a w F W => ?_
 refine ls F W Aa (Bx (v := Value.tuple #[.int .i64 ((B8 pc).1), .int .i64 ((B8 pc).2)]) F UI Aa (fun w W => Mx any w pc _ Aa)) fun a w F W => ?_
 refine ls F W Aa (Ai F Aa).q fun a w F W => ?_
 refine ls F W Aa (B9 (v := Value.int .i64 ((B8 pc).1)) F Aa Aa).q fun a w F W => ?_
 refine ls F W Aa (B9 (v := Value.int .i64 ((B8 pc).2)) F Aa Aa).q fun a w F W => ?_
 refine AP (vs := [.int .i64 ((B8 pc).1)]) (M' := [(q_p0, (BU)), (q_p1, [.int .i64 ((B8 pc).1)]), (q_p2, [.int .i64 p2])]) 1 F W Aa Aa Aa T3 Aa Aa Aa Aa Aa fun w W => ?_
 refine AP (vs := [.int .i64 ((B8 pc).2)]) (M' := [(q_p0, (BU)), (q_p1, [.int .i64 ((B8 pc).1)]), (q_p2, [.int .i64 ((B8 pc).2)])]) 2 F W Aa Aa Aa R4 Aa Aa Aa Aa Aa fun w W => ?_
 refine Ae ?_
 subst H
 refine PB (.inr Aa) F Aa ?_
 have W := W.note (Sl.nil (r := A6))
 have W := W.note (Sl.nil (r := BJ))
 have W := W.frontZ (i := 1) Aa Aa
 have W := W.frontM (i := 2) Aa Aa
 have W := W.frontM (i := 2) Aa Aa
 have W := W.frontM (i := 2) Aa Aa
 have W := W.sub (M' := [(q_p0, (BU)), (q_p1, [.int .i64 ((B8 pc).1)]), (q_p2, [.int .i64 ((B8 pc).2)])]) (Z' := [A4 (Value.slice none 0 0) A6 ([]), A4 (Value.slice none 0 0) BJ ([])]) (List.Sublist.refl _) (List.Sublist.cons_cons _ (List.Sublist.cons_cons _ (List.nil_sublist _)))
 exact ⟨((Value.slice none 0 0), (Value.slice none 0 0)), Aa, W⟩
abbrev R6 (a0 : Nat) (a1 : Nat) (a2 : Nat) : List Value := [.pointer (some ⟨a0, 0, none⟩), .pointer (some ⟨a1, 0, none⟩), .pointer (some ⟨a2, 0, none⟩)]
abbrev N8 (a0 : Nat) (a1 : Nat) (a2 : Nat) : List (Nat × List Value) := [(a0, [.int .i64 0]), (a1, [.int .i64 0]), (a2, [.int .i64 0, .int .i64 0, .int .i64 0, .int .i64 0, .slice none 0 0, .int .i64 0, .int .i64 0, .slice none 0 0])]
abbrev KO (a0 : Nat) (a1 : Value) (a2 : Tr28 × ((List (Int × Int × List UInt8 × Int)) × Int)) (a3 : Nat) (a4 : Nat) (a5 : Nat) (a6 : Value) (a7 : Value) : List (Nat × List Value) := [(a0, [a1, .int .i64 a2.2.2]), (a3, [.int .i64 0]), (a4, [.int .i64 0]), (a5, [.int .i64 a2.1.un.1, .int .i64 a2.1.un.2.1.un.1, .int .i64 a2.1.un.2.1.un.2.1, .int .i64 a2.1.un.2.1.un.2.2.1, a6, .int .i64 a2.1.un.2.2.1, .int .i64 a2.1.un.2.2.2.1, a7])]
abbrev R2 (a0 : Nat) (a1 : Tr28 × ((List (Int × Int × List UInt8 × Int)) × Int)) (a2 : Value) (a3 : Value) (a4 : Nat) (a5 : Nat) : List (Nat × List Value) := [(a0, [.int .i64 a1.1.un.1, .int .i64 a1.1.un.2.1.un.1, .int .i64 a1.1.un.2.1.un.2.1, .int .i64 a1.1.un.2.1.un.2.2.1, a2, .int .i64 a1.1.un.2.2.1, .int .i64 a1.1.un.2.2.2.1, a3]), (a4, [.int .i64 0]), (a5, [.int .i64 0])]
abbrev R7 (a0 : Nat) (a1 : Nat) (a2 : Nat) : List (Nat × List Value) := [(a0, [.int .i64 0, .int .i64 0, .int .i64 0, .int .i64 0, .slice none 0 0, .int .i64 0, .int .i64 0, .slice none 0 0]), (a1, [.int .i64 0]), (a2, [.int .i64 0])]
noncomputable def B0 (p0 : List UInt8) : Option (Tr28 × Int × Int) := (EJ p0).bind fun x1 => B1 x1 (fun x2 => (Bv x2).bind fun x4 => B1 x4 (fun x5 => (BS x5.2).bind fun x7 => B1 x7 (fun x8 => some (Tr28.of ((Tr28.of (x5.1.un.1, Tr25.of (x5.1.un.2.1.un.1, x5.1.un.2.1.un.2.1, x5.1.un.2.1.un.2.2.1, x5.1.un.2.1.un.2.2.2), x5.1.un.2.2.1, x5.1.un.2.2.2.1, x5.1.un.2.2.2.2)).un.1, Tr25.of ((Tr28.of (x5.1.un.1, Tr25.of (x5.1.un.2.1.un.1, x5.1.un.2.1.un.2.1, x5.1.un.2.1.un.2.2.1, x5.1.un.2.1.un.2.2.2), x5.1.un.2.2.1, x5.1.un.2.2.2.1, x5.1.un.2.2.2.2)).un.2.1.un.1, (Tr28.of (x5.1.un.1, Tr25.of (x5.1.un.2.1.un.1, x5.1.un.2.1.un.2.1, x5.1.un.2.1.un.2.2.1, x5.1.un.2.1.un.2.2.2), x5.1.un.2.2.1, x5.1.un.2.2.2.1, x5.1.un.2.2.2.2)).un.2.1.un.2.1, (Tr28.of (x5.1.un.1, Tr25.of (x5.1.un.2.1.un.1, x5.1.un.2.1.un.2.1, x5.1.un.2.1.un.2.2.1, x5.1.un.2.1.un.2.2.2), x5.1.un.2.2.1, x5.1.un.2.2.2.1, x5.1.un.2.2.2.2)).un.2.1.un.2.2.1, (Tr28.of (x5.1.un.1, Tr25.of (x5.1.un.2.1.un.1, x5.1.un.2.1.un.2.1, x5.1.un.2.1.un.2.2.1, x5.1.un.2.1.un.2.2.2), x5.1.un.2.2.1, x5.1.un.2.2.2.1, x5.1.un.2.2.2.2)).un.2.1.un.2.2.2), (Tr28.of (x5.1.un.1, Tr25.of (x5.1.un.2.1.un.1, x5.1.un.2.1.un.2.1, x5.1.un.2.1.un.2.2.1, x5.1.un.2.1.un.2.2.2), x5.1.un.2.2.1, x5.1.un.2.2.2.1, x5.1.un.2.2.2.2)).un.2.2.1, (Tr28.of (x5.1.un.1, Tr25.of (x5.1.un.2.1.un.1, x5.1.un.2.1.un.2.1, x5.1.un.2.1.un.2.2.1, x5.1.un.2.1.un.2.2.2), x5.1.un.2.2.1, x5.1.un.2.2.2.1, x5.1.un.2.2.2.2)).un.2.2.2.1, (Tr28.of (x5.1.un.1, Tr25.of (x5.1.un.2.1.un.1, x5.1.un.2.1.un.2.1, x5.1.un.2.1.un.2.2.1, x5.1.un.2.1.un.2.2.2), x5.1.un.2.2.1, x5.1.un.2.2.2.1, x5.1.un.2.2.2.2)).un.2.2.2.2), 0, 0)) (fun x9 => some (Tr28.of ((Ad (Tr28.of (x5.1.un.1, Tr25.of (x5.1.un.2.1.un.1, x5.1.un.2.1.un.2.1, x5.1.un.2.1.un.2.2.1, x5.1.un.2.1.un.2.2.2), x5.1.un.2.2.1, x5.1.un.2.2.2.1, x5.1.un.2.2.2.2)) 0 0 x9).1.un.1, Tr25.of ((Ad (Tr28.of (x5.1.un.1, Tr25.of (x5.1.un.2.1.un.1, x5.1.un.2.1.un.2.1, x5.1.un.2.1.un.2.2.1, x5.1.un.2.1.un.2.2.2), x5.1.un.2.2.1, x5.1.un.2.2.2.1, x5.1.un.2.2.2.2)) 0 0 x9).1.un.2.1.un.1, (Ad (Tr28.of (x5.1.un.1, Tr25.of (x5.1.un.2.1.un.1, x5.1.un.2.1.un.2.1, x5.1.un.2.1.un.2.2.1, x5.1.un.2.1.un.2.2.2), x5.1.un.2.2.1, x5.1.un.2.2.2.1, x5.1.un.2.2.2.2)) 0 0 x9).1.un.2.1.un.2.1, (Ad (Tr28.of (x5.1.un.1, Tr25.of (x5.1.un.2.1.un.1, x5.1.un.2.1.un.2.1, x5.1.un.2.1.un.2.2.1, x5.1.un.2.1.un.2.2.2), x5.1.un.2.2.1, x5.1.un.2.2.2.1, x5.1.un.2.2.2.2)) 0 0 x9).1.un.2.1.un.2.2.1, (Ad (Tr28.of (x5.1.un.1, Tr25.of (x5.1.un.2.1.un.1, x5.1.un.2.1.un.2.1, x5.1.un.2.1.un.2.2.1, x5.1.un.2.1.un.2.2.2), x5.1.un.2.2.1, x5.1.un.2.2.2.1, x5.1.un.2.2.2.2)) 0 0 x9).1.un.2.1.un.2.2.2), (Ad (Tr28.of (x5.1.un.1, Tr25.of (x5.1.un.2.1.un.1, x5.1.un.2.1.un.2.1, x5.1.un.2.1.un.2.2.1, x5.1.un.2.1.un.2.2.2), x5.1.un.2.2.1, x5.1.un.2.2.2.1, x5.1.un.2.2.2.2)) 0 0 x9).1.un.2.2.1, (Ad (Tr28.of (x5.1.un.1, Tr25.of (x5.1.un.2.1.un.1, x5.1.un.2.1.un.2.1, x5.1.un.2.1.un.2.2.1, x5.1.un.2.1.un.2.2.2), x5.1.un.2.2.1, x5.1.un.2.2.2.1, x5.1.un.2.2.2.2)) 0 0 x9).1.un.2.2.2.1, (Ad (Tr28.of (x5.1.un.1, Tr25.of (x5.1.un.2.1.un.1, x5.1.un.2.1.un.2.1, x5.1.un.2.1.un.2.2.1, x5.1.un.2.1.un.2.2.2), x5.1.un.2.2.1, x5.1.un.2.2.2.1, x5.1.un.2.2.2.2)) 0 0 x9).1.un.2.2.2.2), (Ad (Tr28.of (x5.1.un.1, Tr25.of (x5.1.un.2.1.un.1, x5.1.un.2.1.un.2.1, x5.1.un.2.1.un.2.2.1, x5.1.un.2.1.un.2.2.2), x5.1.un.2.2.1, x5.1.un.2.2.2.1, x5.1.un.2.2.2.2)) 0 0 x9).2.1, (Ad (Tr28.of (x5.1.un.1, Tr25.of (x5.1.un.2.1.un.1, x5.1.un.2.1.un.2.1, x5.1.un.2.1.un.2.2.1, x5.1.un.2.1.un.2.2.2), x5.1.un.2.2.1, x5.1.un.2.2.2.1, x5.1.un.2.2.2.2)) 0 0 x9).2.2))) (fun x6 => some (Tr28.of ((Ad (Tr28.of (0, Tr25.of (0, 0, 0, ([] : List Tr25)), 0, 0, ([] : List Tr28))) 0 0 x6.1).1.un.1, Tr25.of ((Ad (Tr28.of (0, Tr25.of (0, 0, 0, ([] : List Tr25)), 0, 0, ([] : List Tr28))) 0 0 x6.1).1.un.2.1.un.1, (Ad (Tr28.of (0, Tr25.of (0, 0, 0, ([] : List Tr25)), 0, 0, ([] : List Tr28))) 0 0 x6.1).1.un.2.1.un.2.1, (Ad (Tr28.of (0, Tr25.of (0, 0, 0, ([] : List Tr25)), 0, 0, ([] : List Tr28))) 0 0 x6.1).1.un.2.1.un.2.2.1, (Ad (Tr28.of (0, Tr25.of (0, 0, 0, ([] : List Tr25)), 0, 0, ([] : List Tr28))) 0 0 x6.1).1.un.2.1.un.2.2.2), (Ad (Tr28.of (0, Tr25.of (0, 0, 0, ([] : List Tr25)), 0, 0, ([] : List Tr28))) 0 0 x6.1).1.un.2.2.1, (Ad (Tr28.of (0, Tr25.of (0, 0, 0, ([] : List Tr25)), 0, 0, ([] : List Tr28))) 0 0 x6.1).1.un.2.2.2.1, (Ad (Tr28.of (0, Tr25.of (0, 0, 0, ([] : List Tr25)), 0, 0, ([] : List Tr28))) 0 0 x6.1).1.un.2.2.2.2), (Ad (Tr28.of (0, Tr25.of (0, 0, 0, ([] : List Tr25)), 0, 0, ([] : List Tr28))) 0 0 x6.1).2.1, (Ad (Tr28.of (0, Tr25.of (0, 0, 0, ([] : List Tr25)), 0, 0, ([] : List Tr28))) 0 0 x6.1).2.2))) (fun x3 => some (Tr28.of ((Ad (Tr28.of (0, Tr25.of (0, 0, 0, ([] : List Tr25)), 0, 0, ([] : List Tr28))) 0 0 x3).1.un.1, Tr25.of ((Ad (Tr28.of (0, Tr25.of (0, 0, 0, ([] : List Tr25)), 0, 0, ([] : List Tr28))) 0 0 x3).1.un.2.1.un.1, (Ad (Tr28.of (0, Tr25.of (0, 0, 0, ([] : List Tr25)), 0, 0, ([] : List Tr28))) 0 0 x3).1.un.2.1.un.2.1, (Ad (Tr28.of (0, Tr25.of (0, 0, 0, ([] : List Tr25)), 0, 0, ([] : List Tr28))) 0 0 x3).1.un.2.1.un.2.2.1, (Ad (Tr28.of (0, Tr25.of (0, 0, 0, ([] : List Tr25)), 0, 0, ([] : List Tr28))) 0 0 x3).1.un.2.1.un.2.2.2), (Ad (Tr28.of (0, Tr25.of (0, 0, 0, ([] : List Tr25)), 0, 0, ([] : List Tr28))) 0 0 x3).1.un.2.2.1, (Ad (Tr28.of (0, Tr25.of (0, 0, 0, ([] : List Tr25)), 0, 0, ([] : List Tr28))) 0 0 x3).1.un.2.2.2.1, (Ad (Tr28.of (0, Tr25.of (0, 0, 0, ([] : List Tr25)), 0, 0, ([] : List Tr28))) 0 0 x3).1.un.2.2.2.2), (Ad (Tr28.of (0, Tr25.of (0, 0, 0, ([] : List Tr25)), 0, 0, ([] : List Tr28))) 0 0 x3).2.1, (Ad (Tr28.of (0, Tr25.of (0, 0, 0, ([] : List Tr25)), 0, 0, ([] : List Tr28))) 0 0 x3).2.2))
theorem F7 (Y : Nat → Prop) (w0 : World)  (p0 : List UInt8) (r : Tr28 × Int × Int) (H : B0 p0 = some r)  :
    Calls Tryd.prog 7 #[.string (bs p0)] w0 fun e w' => ∃ x : Value × Value, e = .returned (.tuple #[.agg #[.int .i64 r.1.un.1, .int .i64 r.1.un.2.1.un.1, .int .i64 r.1.un.2.1.un.2.1, .int .i64 r.1.un.2.1.un.2.2.1, x.1, .int .i64 r.1.un.2.2.1, .int .i64 r.1.un.2.2.2.1, x.2], .int .i64 r.2.1, .int .i64 r.2.2]) ∧ Stw ⟨Y, [], w0⟩ [] [A4 (x.1) A6 r.1.un.2.1.un.2.2.2, A4 (x.2) BJ r.1.un.2.2.2.2] w' := by
 refine ST Tryd.func7 Aa Tryd.ntmps7 Aa fun a F => ?_
 have W := Stw.start Y w0
 unfold B0 at H
 refine Ah (Ab ?_)
 refine BA (cs := (BU)) F W Aa JT Aa fun b1 a w F W => ?_
 refine BA (cs := [.int .i64 0]) F W Aa Z3 Aa fun b2 a w F W => ?_
 refine BA (cs := [.int .i64 0]) F W Aa UK Aa fun b3 a w F W => ?_
 refine Ae (Ac (Ah (Ab ?_)))
 refine ls F W Aa (G0 (us := []) (vs := (R6 b1 b2 b3)) F Aa Aa).q fun a w F W => ?_
 refine RH (vs := (R6 b1 b2 b3)) F Aa fun a F => ?_
 refine Ae (Ac (Ah (Ab ?_)))
 refine ls F W Aa (Ai F Aa).q fun a w F W => ?_
 obtain ⟨x1, h1, H⟩ := Aq H
 rcases x1 with x2 | x3
 ·
  have H := EZ H
  refine Bp (Ml := []) (Zl := []) (M := (N8 b3 b2 b1)) (Z := []) (β := Nat × Value) (rv := fun x => .pointer (some ⟨x.1, 0, none⟩)) (MM := fun x => [(x.1, [x.2, .int .i64 x2.2])]) (ZZ := fun x => [row x.2 98 AA x2.1]) F W Uv Aa Aa (fun hL => JW _ w p0 _ h1) fun x a w F W => ?_
  obtain ⟨b4, v1⟩ := x
  have W : Stw ⟨Y, [], w0⟩ [(b4, [v1, .int .i64 x2.2]), (b3, [.int .i64 0]), (b2, [.int .i64 0]), (b1, [.int .i64 0, .int .i64 0, .int .i64 0, .int .i64 0, .slice none 0 0, .int .i64 0, .int .i64 0, .slice none 0 0])] [row v1 98 AA x2.1] w := W
  refine ls F W Aa (Ag F Aa).q fun a w F W => ?_
  refine Ae (Ac (Ah (Ab ?_)))
  refine ls F W Aa (Ai F Aa).q fun a w F W => ?_
  obtain ⟨x4, h2, H⟩ := Aq H
  rcases x4 with x5 | x6
  ·
   have H := EZ H
   refine Bp (Ml := [(b4, [v1, .int .i64 x2.2])]) (Zl := [row v1 98 AA x2.1]) (M := (N8 b3 b2 b1)) (Z := []) (β := Value × Value × Value) (rv := fun x => .agg #[.int .i64 x5.1.un.1, .int .i64 x5.1.un.2.1.un.1, .int .i64 x5.1.un.2.1.un.2.1, .int .i64 x5.1.un.2.1.un.2.2.1, x.1, .int .i64 x5.1.un.2.2.1, .int .i64 x5.1.un.2.2.2.1, x.2.1]) (MM := fun x => [(b4, [x.2.2, .int .i64 x5.2.2])]) (ZZ := fun x => [row x.2.2 98 AA x5.2.1, A4 x.1 A6 x5.1.un.2.1.un.2.2.2, A4 x.2.1 BJ x5.1.un.2.2.2.2]) F W TP Aa Aa (fun hL => FR _ _ w b4 (v1) x2 _ h2 hL) fun x a w F W => ?_
   obtain ⟨v2, v3, v4⟩ := x
   have W : Stw ⟨Y, [], w0⟩ [(b4, [v4, .int .i64 x5.2.2]), (b3, [.int .i64 0]), (b2, [.int .i64 0]), (b1, [.int .i64 0, .int .i64 0, .int .i64 0, .int .i64 0, .slice none 0 0, .int .i64 0, .int .i64 0, .slice none 0 0])] [row v4 98 AA x5.2.1, A4 v2 A6 x5.1.un.2.1.un.2.2.2, A4 v3 BJ x5.1.un.2.2.2.2] w := W
   refine AP (vs := (DM x5 v2 v3)) (M' := (KO b4 v4 x5 b3 b2 b1 v2 v3)) 3 F W Aa Aa Aa D1 Aa Aa Aa (Af Aa (Af Aa (Af Aa (Af Aa (Af (W.oneF (k := 1) Aa) (Af Aa (Af Aa (Af (W.oneF (k := 2) Aa) BC)))))))) Aa fun w W => ?_
   refine Ae (Ac (Ah (Ab ?_)))
   refine ls F W Aa (Ai F Aa).q fun a w F W => ?_
   obtain ⟨x7, h3, H⟩ := Aq H
   rcases x7 with x8 | x9
   ·
    have H := EZ H
    refine Bp (Ml := []) (Zl := []) (M := (KO b4 v4 x5 b3 b2 b1 v2 v3)) (Z := [row v4 98 AA x5.2.1, A4 v2 A6 x5.1.un.2.1.un.2.2.2, A4 v3 BJ x5.1.un.2.2.2.2]) (β := Unit) (rv := fun x => .tuple #[]) (MM := fun x => []) (ZZ := fun x => []) F W UG Aa Aa (fun hL => G6 _ w b4 (v4) x5.2 _ h3 ((CB 0 Aa) w W).nx (On W 0 Aa)) fun x a w F W => ?_
    have W : Stw ⟨Y, [], w0⟩ (KO b4 v4 x5 b3 b2 b1 v2 v3) [row v4 98 AA x5.2.1, A4 v2 A6 x5.1.un.2.1.un.2.2.2, A4 v3 BJ x5.1.un.2.2.2.2] w := W
    refine Ae (Ac (Ah (Ab ?_)))
    refine ls F W Aa (Aw (v := Value.agg #[.int .i64 x5.1.un.1, .int .i64 x5.1.un.2.1.un.1, .int .i64 x5.1.un.2.1.un.2.1, .int .i64 x5.1.un.2.1.un.2.2.1, v2, .int .i64 x5.1.un.2.2.1, .int .i64 x5.1.un.2.2.2.1, v3]) 3 F Aa Aa D1 Aa).q fun a w F W => ?_
    refine AP (vs := (DM x5 v2 v3)) (M' := (KO b4 v4 x5 b3 b2 b1 v2 v3)) 3 F W Aa Aa Aa D1 Aa Aa Aa (Af Aa (Af Aa (Af Aa (Af Aa (Af (W.oneF (k := 1) Aa) (Af Aa (Af Aa (Af (W.oneF (k := 2) Aa) BC)))))))) Aa fun w W => ?_
    refine AP (vs := [.int .i64 0]) (M' := (KO b4 v4 x5 b3 b2 b1 v2 v3)) 2 F W Aa Aa Aa T3 Aa Aa Aa Aa Aa fun w W => ?_
    refine AP (vs := [.int .i64 0]) (M' := (KO b4 v4 x5 b3 b2 b1 v2 v3)) 1 F W Aa Aa Aa R4 Aa Aa Aa Aa Aa fun w W => ?_
    refine Ae (Ac (Au ?_))
    refine P3 (.inl Aa) F ?_
    have W := W.frontZ (i := 2) Aa Aa
    have W := W.frontZ (i := 2) Aa Aa
    have W := W.frontM (i := 1) Aa Aa
    have W := W.frontM (i := 2) Aa Aa
    have W := W.frontM (i := 3) Aa Aa
    refine Lo (Ml := (R2 b1 x5 v2 v3 b2 b3)) (Zl := [A4 v2 A6 x5.1.un.2.1.un.2.2.2, A4 v3 BJ x5.1.un.2.2.2.2]) (M := [(b4, [v4, .int .i64 x5.2.2])]) (Z := [row v4 98 AA x5.2.1]) (β := Unit) (u' := .returning) (MM := fun x => [(b1, [.int .i64 ((Tr28.of (x5.1.un.1, Tr25.of (x5.1.un.2.1.un.1, x5.1.un.2.1.un.2.1, x5.1.un.2.1.un.2.2.1, x5.1.un.2.1.un.2.2.2), x5.1.un.2.2.1, x5.1.un.2.2.2.1, x5.1.un.2.2.2.2)).un.1), .int .i64 ((Tr28.of (x5.1.un.1, Tr25.of (x5.1.un.2.1.un.1, x5.1.un.2.1.un.2.1, x5.1.un.2.1.un.2.2.1, x5.1.un.2.1.un.2.2.2), x5.1.un.2.2.1, x5.1.un.2.2.2.1, x5.1.un.2.2.2.2)).un.2.1.un.1), .int .i64 ((Tr28.of (x5.1.un.1, Tr25.of (x5.1.un.2.1.un.1, x5.1.un.2.1.un.2.1, x5.1.un.2.1.un.2.2.1, x5.1.un.2.1.un.2.2.2), x5.1.un.2.2.1, x5.1.un.2.2.2.1, x5.1.un.2.2.2.2)).un.2.1.un.2.1), .int .i64 ((Tr28.of (x5.1.un.1, Tr25.of (x5.1.un.2.1.un.1, x5.1.un.2.1.un.2.1, x5.1.un.2.1.un.2.2.1, x5.1.un.2.1.un.2.2.2), x5.1.un.2.2.1, x5.1.un.2.2.2.1, x5.1.un.2.2.2.2)).un.2.1.un.2.2.1), (v2), .int .i64 ((Tr28.of (x5.1.un.1, Tr25.of (x5.1.un.2.1.un.1, x5.1.un.2.1.un.2.1, x5.1.un.2.1.un.2.2.1, x5.1.un.2.1.un.2.2.2), x5.1.un.2.2.1, x5.1.un.2.2.2.1, x5.1.un.2.2.2.2)).un.2.2.1), .int .i64 ((Tr28.of (x5.1.un.1, Tr25.of (x5.1.un.2.1.un.1, x5.1.un.2.1.un.2.1, x5.1.un.2.1.un.2.2.1, x5.1.un.2.1.un.2.2.2), x5.1.un.2.2.1, x5.1.un.2.2.2.1, x5.1.un.2.2.2.2)).un.2.2.2.1), (v3)]), (b2, [.int .i64 0]), (b3, [.int .i64 0])]) (ZZ := fun x => [A4 (v2) A6 ((Tr28.of (x5.1.un.1, Tr25.of (x5.1.un.2.1.un.1, x5.1.un.2.1.un.2.1, x5.1.un.2.1.un.2.2.1, x5.1.un.2.1.un.2.2.2), x5.1.un.2.2.1, x5.1.un.2.2.2.1, x5.1.un.2.2.2.2)).un.2.1.un.2.2.2), A4 (v3) BJ ((Tr28.of (x5.1.un.1, Tr25.of (x5.1.un.2.1.un.1, x5.1.un.2.1.un.2.1, x5.1.un.2.1.un.2.2.1, x5.1.un.2.1.un.2.2.2), x5.1.un.2.2.1, x5.1.un.2.2.2.1, x5.1.un.2.2.2.2)).un.2.2.2.2)]) W TT (by simp) (fun hL => I2 _ _ w b1 (v2) (v3) b2 b3 (Tr28.of (x5.1.un.1, Tr25.of (x5.1.un.2.1.un.1, x5.1.un.2.1.un.2.1, x5.1.un.2.1.un.2.2.1, x5.1.un.2.1.un.2.2.2), x5.1.un.2.2.1, x5.1.un.2.2.2.1, x5.1.un.2.2.2.2)) 0 0 _ Aa hL) fun _ w W => ?_
    have W : Stw ⟨Y, [], w0⟩ [(b1, [.int .i64 ((Tr28.of (x5.1.un.1, Tr25.of (x5.1.un.2.1.un.1, x5.1.un.2.1.un.2.1, x5.1.un.2.1.un.2.2.1, x5.1.un.2.1.un.2.2.2), x5.1.un.2.2.1, x5.1.un.2.2.2.1, x5.1.un.2.2.2.2)).un.1), .int .i64 ((Tr28.of (x5.1.un.1, Tr25.of (x5.1.un.2.1.un.1, x5.1.un.2.1.un.2.1, x5.1.un.2.1.un.2.2.1, x5.1.un.2.1.un.2.2.2), x5.1.un.2.2.1, x5.1.un.2.2.2.1, x5.1.un.2.2.2.2)).un.2.1.un.1), .int .i64 ((Tr28.of (x5.1.un.1, Tr25.of (x5.1.un.2.1.un.1, x5.1.un.2.1.un.2.1, x5.1.un.2.1.un.2.2.1, x5.1.un.2.1.un.2.2.2), x5.1.un.2.2.1, x5.1.un.2.2.2.1, x5.1.un.2.2.2.2)).un.2.1.un.2.1), .int .i64 ((Tr28.of (x5.1.un.1, Tr25.of (x5.1.un.2.1.un.1, x5.1.un.2.1.un.2.1, x5.1.un.2.1.un.2.2.1, x5.1.un.2.1.un.2.2.2), x5.1.un.2.2.1, x5.1.un.2.2.2.1, x5.1.un.2.2.2.2)).un.2.1.un.2.2.1), (v2), .int .i64 ((Tr28.of (x5.1.un.1, Tr25.of (x5.1.un.2.1.un.1, x5.1.un.2.1.un.2.1, x5.1.un.2.1.un.2.2.1, x5.1.un.2.1.un.2.2.2), x5.1.un.2.2.1, x5.1.un.2.2.2.1, x5.1.un.2.2.2.2)).un.2.2.1), .int .i64 ((Tr28.of (x5.1.un.1, Tr25.of (x5.1.un.2.1.un.1, x5.1.un.2.1.un.2.1, x5.1.un.2.1.un.2.2.1, x5.1.un.2.1.un.2.2.2), x5.1.un.2.2.1, x5.1.un.2.2.2.1, x5.1.un.2.2.2.2)).un.2.2.2.1), (v3)]), (b2, [.int .i64 0]), (b3, [.int .i64 0]), (b4, [v4, .int .i64 x5.2.2])] [A4 (v2) A6 ((Tr28.of (x5.1.un.1, Tr25.of (x5.1.un.2.1.un.1, x5.1.un.2.1.un.2.1, x5.1.un.2.1.un.2.2.1, x5.1.un.2.1.un.2.2.2), x5.1.un.2.2.1, x5.1.un.2.2.2.1, x5.1.un.2.2.2.2)).un.2.1.un.2.2.2), A4 (v3) BJ ((Tr28.of (x5.1.un.1, Tr25.of (x5.1.un.2.1.un.1, x5.1.un.2.1.un.2.1, x5.1.un.2.1.un.2.2.1, x5.1.un.2.1.un.2.2.2), x5.1.un.2.2.1, x5.1.un.2.2.2.1, x5.1.un.2.2.2.2)).un.2.2.2.2), row v4 98 AA x5.2.1] w := W
    have H := AR H
    subst H
    refine Lw W Aa (BD 0 F Aa Aa D1 Aa) (BD 1 F Aa Aa T3 Aa) (BD 2 F Aa Aa R4 Aa) ?_
    have W := W.frontZ (i := 1) Aa Aa
    have W := W.frontZ (i := 1) Aa Aa
    have W := W.sub (M' := []) (Z' := [A4 (v2) A6 ((Tr28.of (x5.1.un.1, Tr25.of (x5.1.un.2.1.un.1, x5.1.un.2.1.un.2.1, x5.1.un.2.1.un.2.2.1, x5.1.un.2.1.un.2.2.2), x5.1.un.2.2.1, x5.1.un.2.2.2.1, x5.1.un.2.2.2.2)).un.2.1.un.2.2.2), A4 (v3) BJ ((Tr28.of (x5.1.un.1, Tr25.of (x5.1.un.2.1.un.1, x5.1.un.2.1.un.2.1, x5.1.un.2.1.un.2.2.1, x5.1.un.2.1.un.2.2.2), x5.1.un.2.2.1, x5.1.un.2.2.2.1, x5.1.un.2.2.2.2)).un.2.2.2.2)]) (List.nil_sublist _) (List.Sublist.cons_cons _ (List.Sublist.cons_cons _ (List.nil_sublist _)))
    exact ⟨(((v2)), ((v3))), Aa, W⟩
   have H := EW H
   refine Cj (Ml := []) (Zl := []) (M := (KO b4 v4 x5 b3 b2 b1 v2 v3)) (Z := [row v4 98 AA x5.2.1, A4 v2 A6 x5.1.un.2.1.un.2.2.2, A4 v3 BJ x5.1.un.2.2.2.2]) (β := Unit) (pv := fun x => .iface 89 (.agg #[.int .i64 x9.1, .int .i64 x9.2])) (MM := fun x => []) (ZZ := fun x => []) F W UG Aa (fun hL => G6 _ w b4 (v4) x5.2 _ h3 ((CB 0 Aa) w W).nx (On W 0 Aa)) fun x w W => ?_
   have W : Stw ⟨Y, [], w0⟩ (KO b4 v4 x5 b3 b2 b1 v2 v3) [row v4 98 AA x5.2.1, A4 v2 A6 x5.1.un.2.1.un.2.2.2, A4 v3 BJ x5.1.un.2.2.2.2] w := W
   refine BW ?_
   refine I0 F ?_
   have W := W.frontZ (i := 2) Aa Aa
   have W := W.frontZ (i := 2) Aa Aa
   have W := W.frontM (i := 1) Aa Aa
   have W := W.frontM (i := 2) Aa Aa
   have W := W.frontM (i := 3) Aa Aa
   refine Lo (Ml := (R2 b1 x5 v2 v3 b2 b3)) (Zl := [A4 v2 A6 x5.1.un.2.1.un.2.2.2, A4 v3 BJ x5.1.un.2.2.2.2]) (M := [(b4, [v4, .int .i64 x5.2.2])]) (Z := [row v4 98 AA x5.2.1]) (β := Value × Value) (u' := (.panicking ({ v := .iface 89 (.agg #[.int .i64 x9.1, .int .i64 x9.2]), recovered := true } :: []))) (MM := fun x => [(b1, [.int .i64 ((Ad (Tr28.of (x5.1.un.1, Tr25.of (x5.1.un.2.1.un.1, x5.1.un.2.1.un.2.1, x5.1.un.2.1.un.2.2.1, x5.1.un.2.1.un.2.2.2), x5.1.un.2.2.1, x5.1.un.2.2.2.1, x5.1.un.2.2.2.2)) 0 0 x9).1.un.1), .int .i64 ((Ad (Tr28.of (x5.1.un.1, Tr25.of (x5.1.un.2.1.un.1, x5.1.un.2.1.un.2.1, x5.1.un.2.1.un.2.2.1, x5.1.un.2.1.un.2.2.2), x5.1.un.2.2.1, x5.1.un.2.2.2.1, x5.1.un.2.2.2.2)) 0 0 x9).1.un.2.1.un.1), .int .i64 ((Ad (Tr28.of (x5.1.un.1, Tr25.of (x5.1.un.2.1.un.1, x5.1.un.2.1.un.2.1, x5.1.un.2.1.un.2.2.1, x5.1.un.2.1.un.2.2.2), x5.1.un.2.2.1, x5.1.un.2.2.2.1, x5.1.un.2.2.2.2)) 0 0 x9).1.un.2.1.un.2.1), .int .i64 ((Ad (Tr28.of (x5.1.un.1, Tr25.of (x5.1.un.2.1.un.1, x5.1.un.2.1.un.2.1, x5.1.un.2.1.un.2.2.1, x5.1.un.2.1.un.2.2.2), x5.1.un.2.2.1, x5.1.un.2.2.2.1, x5.1.un.2.2.2.2)) 0 0 x9).1.un.2.1.un.2.2.1), x.1, .int .i64 ((Ad (Tr28.of (x5.1.un.1, Tr25.of (x5.1.un.2.1.un.1, x5.1.un.2.1.un.2.1, x5.1.un.2.1.un.2.2.1, x5.1.un.2.1.un.2.2.2), x5.1.un.2.2.1, x5.1.un.2.2.2.1, x5.1.un.2.2.2.2)) 0 0 x9).1.un.2.2.1), .int .i64 ((Ad (Tr28.of (x5.1.un.1, Tr25.of (x5.1.un.2.1.un.1, x5.1.un.2.1.un.2.1, x5.1.un.2.1.un.2.2.1, x5.1.un.2.1.un.2.2.2), x5.1.un.2.2.1, x5.1.un.2.2.2.1, x5.1.un.2.2.2.2)) 0 0 x9).1.un.2.2.2.1), x.2]), (b2, [.int .i64 ((Ad (Tr28.of (x5.1.un.1, Tr25.of (x5.1.un.2.1.un.1, x5.1.un.2.1.un.2.1, x5.1.un.2.1.un.2.2.1, x5.1.un.2.1.un.2.2.2), x5.1.un.2.2.1, x5.1.un.2.2.2.1, x5.1.un.2.2.2.2)) 0 0 x9).2.1)]), (b3, [.int .i64 ((Ad (Tr28.of (x5.1.un.1, Tr25.of (x5.1.un.2.1.un.1, x5.1.un.2.1.un.2.1, x5.1.un.2.1.un.2.2.1, x5.1.un.2.1.un.2.2.2), x5.1.un.2.2.1, x5.1.un.2.2.2.1, x5.1.un.2.2.2.2)) 0 0 x9).2.2)])]) (ZZ := fun x => [A4 x.1 A6 ((Ad (Tr28.of (x5.1.un.1, Tr25.of (x5.1.un.2.1.un.1, x5.1.un.2.1.un.2.1, x5.1.un.2.1.un.2.2.1, x5.1.un.2.1.un.2.2.2), x5.1.un.2.2.1, x5.1.un.2.2.2.1, x5.1.un.2.2.2.2)) 0 0 x9).1.un.2.1.un.2.2.2), A4 x.2 BJ ((Ad (Tr28.of (x5.1.un.1, Tr25.of (x5.1.un.2.1.un.1, x5.1.un.2.1.un.2.1, x5.1.un.2.1.un.2.2.1, x5.1.un.2.1.un.2.2.2), x5.1.un.2.2.1, x5.1.un.2.2.2.1, x5.1.un.2.2.2.2)) 0 0 x9).1.un.2.2.2.2)]) W TT (by simp) (fun hL => Ez _ _ w b1 (v2) (v3) b2 b3 (Tr28.of (x5.1.un.1, Tr25.of (x5.1.un.2.1.un.1, x5.1.un.2.1.un.2.1, x5.1.un.2.1.un.2.2.1, x5.1.un.2.1.un.2.2.2), x5.1.un.2.2.1, x5.1.un.2.2.2.1, x5.1.un.2.2.2.2)) 0 0 x9 _ Aa hL) fun x w W => ?_
   obtain ⟨v5, v6⟩ := x
   have W : Stw ⟨Y, [], w0⟩ [(b1, [.int .i64 ((Ad (Tr28.of (x5.1.un.1, Tr25.of (x5.1.un.2.1.un.1, x5.1.un.2.1.un.2.1, x5.1.un.2.1.un.2.2.1, x5.1.un.2.1.un.2.2.2), x5.1.un.2.2.1, x5.1.un.2.2.2.1, x5.1.un.2.2.2.2)) 0 0 x9).1.un.1), .int .i64 ((Ad (Tr28.of (x5.1.un.1, Tr25.of (x5.1.un.2.1.un.1, x5.1.un.2.1.un.2.1, x5.1.un.2.1.un.2.2.1, x5.1.un.2.1.un.2.2.2), x5.1.un.2.2.1, x5.1.un.2.2.2.1, x5.1.un.2.2.2.2)) 0 0 x9).1.un.2.1.un.1), .int .i64 ((Ad (Tr28.of (x5.1.un.1, Tr25.of (x5.1.un.2.1.un.1, x5.1.un.2.1.un.2.1, x5.1.un.2.1.un.2.2.1, x5.1.un.2.1.un.2.2.2), x5.1.un.2.2.1, x5.1.un.2.2.2.1, x5.1.un.2.2.2.2)) 0 0 x9).1.un.2.1.un.2.1), .int .i64 ((Ad (Tr28.of (x5.1.un.1, Tr25.of (x5.1.un.2.1.un.1, x5.1.un.2.1.un.2.1, x5.1.un.2.1.un.2.2.1, x5.1.un.2.1.un.2.2.2), x5.1.un.2.2.1, x5.1.un.2.2.2.1, x5.1.un.2.2.2.2)) 0 0 x9).1.un.2.1.un.2.2.1), v5, .int .i64 ((Ad (Tr28.of (x5.1.un.1, Tr25.of (x5.1.un.2.1.un.1, x5.1.un.2.1.un.2.1, x5.1.un.2.1.un.2.2.1, x5.1.un.2.1.un.2.2.2), x5.1.un.2.2.1, x5.1.un.2.2.2.1, x5.1.un.2.2.2.2)) 0 0 x9).1.un.2.2.1), .int .i64 ((Ad (Tr28.of (x5.1.un.1, Tr25.of (x5.1.un.2.1.un.1, x5.1.un.2.1.un.2.1, x5.1.un.2.1.un.2.2.1, x5.1.un.2.1.un.2.2.2), x5.1.un.2.2.1, x5.1.un.2.2.2.1, x5.1.un.2.2.2.2)) 0 0 x9).1.un.2.2.2.1), v6]), (b2, [.int .i64 ((Ad (Tr28.of (x5.1.un.1, Tr25.of (x5.1.un.2.1.un.1, x5.1.un.2.1.un.2.1, x5.1.un.2.1.un.2.2.1, x5.1.un.2.1.un.2.2.2), x5.1.un.2.2.1, x5.1.un.2.2.2.1, x5.1.un.2.2.2.2)) 0 0 x9).2.1)]), (b3, [.int .i64 ((Ad (Tr28.of (x5.1.un.1, Tr25.of (x5.1.un.2.1.un.1, x5.1.un.2.1.un.2.1, x5.1.un.2.1.un.2.2.1, x5.1.un.2.1.un.2.2.2), x5.1.un.2.2.1, x5.1.un.2.2.2.1, x5.1.un.2.2.2.2)) 0 0 x9).2.2)]), (b4, [v4, .int .i64 x5.2.2])] [A4 v5 A6 ((Ad (Tr28.of (x5.1.un.1, Tr25.of (x5.1.un.2.1.un.1, x5.1.un.2.1.un.2.1, x5.1.un.2.1.un.2.2.1, x5.1.un.2.1.un.2.2.2), x5.1.un.2.2.1, x5.1.un.2.2.2.1, x5.1.un.2.2.2.2)) 0 0 x9).1.un.2.1.un.2.2.2), A4 v6 BJ ((Ad (Tr28.of (x5.1.un.1, Tr25.of (x5.1.un.2.1.un.1, x5.1.un.2.1.un.2.1, x5.1.un.2.1.un.2.2.1, x5.1.un.2.1.un.2.2.2), x5.1.un.2.2.1, x5.1.un.2.2.2.1, x5.1.un.2.2.2.2)) 0 0 x9).1.un.2.2.2.2), row v4 98 AA x5.2.1] w := W
   have H := AR H
   subst H
   refine Lw W Aa (BD 0 F Aa Aa D1 Aa) (BD 1 F Aa Aa T3 Aa) (BD 2 F Aa Aa R4 Aa) ?_
   have W := W.frontZ (i := 1) Aa Aa
   have W := W.frontZ (i := 1) Aa Aa
   have W := W.sub (M' := []) (Z' := [A4 v5 A6 ((Ad (Tr28.of (x5.1.un.1, Tr25.of (x5.1.un.2.1.un.1, x5.1.un.2.1.un.2.1, x5.1.un.2.1.un.2.2.1, x5.1.un.2.1.un.2.2.2), x5.1.un.2.2.1, x5.1.un.2.2.2.1, x5.1.un.2.2.2.2)) 0 0 x9).1.un.2.1.un.2.2.2), A4 v6 BJ ((Ad (Tr28.of (x5.1.un.1, Tr25.of (x5.1.un.2.1.un.1, x5.1.un.2.1.un.2.1, x5.1.un.2.1.un.2.2.1, x5.1.un.2.1.un.2.2.2), x5.1.un.2.2.1, x5.1.un.2.2.2.1, x5.1.un.2.2.2.2)) 0 0 x9).1.un.2.2.2.2)]) (List.nil_sublist _) (List.Sublist.cons_cons _ (List.Sublist.cons_cons _ (List.nil_sublist _)))
   exact ⟨((v5), (v6)), Aa, W⟩
  have H := EW H
  refine Cj (Ml := [(b4, [v1, .int .i64 x2.2])]) (Zl := [row v1 98 AA x2.1]) (M := (N8 b3 b2 b1)) (Z := []) (β := Value) (pv := fun x => .iface 89 (.agg #[.int .i64 x6.1.1, .int .i64 x6.1.2])) (MM := fun x => [(b4, [x, .int .i64 x6.2.2])]) (ZZ := fun x => [row x 98 AA x6.2.1]) F W TP Aa (fun hL => FR _ _ w b4 (v1) x2 _ h2 hL) fun x w W => ?_
  obtain ⟨v7, rfl⟩ : ∃ y, y = x := ⟨x, rfl⟩
  have W : Stw ⟨Y, [], w0⟩ [(b4, [v7, .int .i64 x6.2.2]), (b3, [.int .i64 0]), (b2, [.int .i64 0]), (b1, [.int .i64 0, .int .i64 0, .int .i64 0, .int .i64 0, .slice none 0 0, .int .i64 0, .int .i64 0, .slice none 0 0])] [row v7 98 AA x6.2.1] w := W
  refine BW ?_
  refine I0 F ?_
  have W := W.note (Sl.nil (r := A6))
  have W := W.note (Sl.nil (r := BJ))
  have W := W.frontZ (i := 1) Aa Aa
  have W := W.frontM (i := 1) Aa Aa
  have W := W.frontM (i := 2) Aa Aa
  have W := W.frontM (i := 3) Aa Aa
  refine Lo (Ml := (R7 b1 b2 b3)) (Zl := [A4 (Value.slice none 0 0) A6 ([]), A4 (Value.slice none 0 0) BJ ([])]) (M := [(b4, [v7, .int .i64 x6.2.2])]) (Z := [row v7 98 AA x6.2.1]) (β := Value × Value) (u' := (.panicking ({ v := .iface 89 (.agg #[.int .i64 x6.1.1, .int .i64 x6.1.2]), recovered := true } :: []))) (MM := fun x => [(b1, [.int .i64 ((Ad (Tr28.of (0, Tr25.of (0, 0, 0, ([] : List Tr25)), 0, 0, ([] : List Tr28))) 0 0 x6.1).1.un.1), .int .i64 ((Ad (Tr28.of (0, Tr25.of (0, 0, 0, ([] : List Tr25)), 0, 0, ([] : List Tr28))) 0 0 x6.1).1.un.2.1.un.1), .int .i64 ((Ad (Tr28.of (0, Tr25.of (0, 0, 0, ([] : List Tr25)), 0, 0, ([] : List Tr28))) 0 0 x6.1).1.un.2.1.un.2.1), .int .i64 ((Ad (Tr28.of (0, Tr25.of (0, 0, 0, ([] : List Tr25)), 0, 0, ([] : List Tr28))) 0 0 x6.1).1.un.2.1.un.2.2.1), x.1, .int .i64 ((Ad (Tr28.of (0, Tr25.of (0, 0, 0, ([] : List Tr25)), 0, 0, ([] : List Tr28))) 0 0 x6.1).1.un.2.2.1), .int .i64 ((Ad (Tr28.of (0, Tr25.of (0, 0, 0, ([] : List Tr25)), 0, 0, ([] : List Tr28))) 0 0 x6.1).1.un.2.2.2.1), x.2]), (b2, [.int .i64 ((Ad (Tr28.of (0, Tr25.of (0, 0, 0, ([] : List Tr25)), 0, 0, ([] : List Tr28))) 0 0 x6.1).2.1)]), (b3, [.int .i64 ((Ad (Tr28.of (0, Tr25.of (0, 0, 0, ([] : List Tr25)), 0, 0, ([] : List Tr28))) 0 0 x6.1).2.2)])]) (ZZ := fun x => [A4 x.1 A6 ((Ad (Tr28.of (0, Tr25.of (0, 0, 0, ([] : List Tr25)), 0, 0, ([] : List Tr28))) 0 0 x6.1).1.un.2.1.un.2.2.2), A4 x.2 BJ ((Ad (Tr28.of (0, Tr25.of (0, 0, 0, ([] : List Tr25)), 0, 0, ([] : List Tr28))) 0 0 x6.1).1.un.2.2.2.2)]) W TT (by simp) (fun hL => Ez _ _ w b1 (Value.slice none 0 0) (Value.slice none 0 0) b2 b3 (Tr28.of (0, Tr25.of (0, 0, 0, ([] : List Tr25)), 0, 0, ([] : List Tr28))) 0 0 x6.1 _ Aa hL) fun x w W => ?_
  obtain ⟨v8, v9⟩ := x
  have W : Stw ⟨Y, [], w0⟩ [(b1, [.int .i64 ((Ad (Tr28.of (0, Tr25.of (0, 0, 0, ([] : List Tr25)), 0, 0, ([] : List Tr28))) 0 0 x6.1).1.un.1), .int .i64 ((Ad (Tr28.of (0, Tr25.of (0, 0, 0, ([] : List Tr25)), 0, 0, ([] : List Tr28))) 0 0 x6.1).1.un.2.1.un.1), .int .i64 ((Ad (Tr28.of (0, Tr25.of (0, 0, 0, ([] : List Tr25)), 0, 0, ([] : List Tr28))) 0 0 x6.1).1.un.2.1.un.2.1), .int .i64 ((Ad (Tr28.of (0, Tr25.of (0, 0, 0, ([] : List Tr25)), 0, 0, ([] : List Tr28))) 0 0 x6.1).1.un.2.1.un.2.2.1), v8, .int .i64 ((Ad (Tr28.of (0, Tr25.of (0, 0, 0, ([] : List Tr25)), 0, 0, ([] : List Tr28))) 0 0 x6.1).1.un.2.2.1), .int .i64 ((Ad (Tr28.of (0, Tr25.of (0, 0, 0, ([] : List Tr25)), 0, 0, ([] : List Tr28))) 0 0 x6.1).1.un.2.2.2.1), v9]), (b2, [.int .i64 ((Ad (Tr28.of (0, Tr25.of (0, 0, 0, ([] : List Tr25)), 0, 0, ([] : List Tr28))) 0 0 x6.1).2.1)]), (b3, [.int .i64 ((Ad (Tr28.of (0, Tr25.of (0, 0, 0, ([] : List Tr25)), 0, 0, ([] : List Tr28))) 0 0 x6.1).2.2)]), (b4, [v7, .int .i64 x6.2.2])] [A4 v8 A6 ((Ad (Tr28.of (0, Tr25.of (0, 0, 0, ([] : List Tr25)), 0, 0, ([] : List Tr28))) 0 0 x6.1).1.un.2.1.un.2.2.2), A4 v9 BJ ((Ad (Tr28.of (0, Tr25.of (0, 0, 0, ([] : List Tr25)), 0, 0, ([] : List Tr28))) 0 0 x6.1).1.un.2.2.2.2), row v7 98 AA x6.2.1] w := W
  have H := AR H
  subst H
  refine Lw W Aa (BD 0 F Aa Aa D1 Aa) (BD 1 F Aa Aa T3 Aa) (BD 2 F Aa Aa R4 Aa) ?_
  have W := W.frontZ (i := 1) Aa Aa
  have W := W.frontZ (i := 1) Aa Aa
  have W := W.sub (M' := []) (Z' := [A4 v8 A6 ((Ad (Tr28.of (0, Tr25.of (0, 0, 0, ([] : List Tr25)), 0, 0, ([] : List Tr28))) 0 0 x6.1).1.un.2.1.un.2.2.2), A4 v9 BJ ((Ad (Tr28.of (0, Tr25.of (0, 0, 0, ([] : List Tr25)), 0, 0, ([] : List Tr28))) 0 0 x6.1).1.un.2.2.2.2)]) (List.nil_sublist _) (List.Sublist.cons_cons _ (List.Sublist.cons_cons _ (List.nil_sublist _)))
  exact ⟨((v8), (v9)), Aa, W⟩
 have H := EW H
 refine Cj (Ml := []) (Zl := []) (M := (N8 b3 b2 b1)) (Z := []) (β := Unit) (pv := fun x => .iface 89 (.agg #[.int .i64 x3.1, .int .i64 x3.2])) (MM := fun x => []) (ZZ := fun x => []) F W Uv Aa (fun hL => JW _ w p0 _ h1) fun x w W => ?_
 have W : Stw ⟨Y, [], w0⟩ (N8 b3 b2 b1) [] w := W
 refine BW ?_
 refine I0 F ?_
 have W := W.note (Sl.nil (r := A6))
 have W := W.note (Sl.nil (r := BJ))
 have W := W.frontZ (i := 1) Aa Aa
 have W := W.frontM (i := 1) Aa Aa
 have W := W.frontM (i := 2) Aa Aa
 refine Lo (Ml := (R7 b1 b2 b3)) (Zl := [A4 (Value.slice none 0 0) A6 ([]), A4 (Value.slice none 0 0) BJ ([])]) (M := []) (Z := []) (β := Value × Value) (u' := (.panicking ({ v := .iface 89 (.agg #[.int .i64 x3.1, .int .i64 x3.2]), recovered := true } :: []))) (MM := fun x => [(b1, [.int .i64 ((Ad (Tr28.of (0, Tr25.of (0, 0, 0, ([] : List Tr25)), 0, 0, ([] : List Tr28))) 0 0 x3).1.un.1), .int .i64 ((Ad (Tr28.of (0, Tr25.of (0, 0, 0, ([] : List Tr25)), 0, 0, ([] : List Tr28))) 0 0 x3).1.un.2.1.un.1), .int .i64 ((Ad (Tr28.of (0, Tr25.of (0, 0, 0, ([] : List Tr25)), 0, 0, ([] : List Tr28))) 0 0 x3).1.un.2.1.un.2.1), .int .i64 ((Ad (Tr28.of (0, Tr25.of (0, 0, 0, ([] : List Tr25)), 0, 0, ([] : List Tr28))) 0 0 x3).1.un.2.1.un.2.2.1), x.1, .int .i64 ((Ad (Tr28.of (0, Tr25.of (0, 0, 0, ([] : List Tr25)), 0, 0, ([] : List Tr28))) 0 0 x3).1.un.2.2.1), .int .i64 ((Ad (Tr28.of (0, Tr25.of (0, 0, 0, ([] : List Tr25)), 0, 0, ([] : List Tr28))) 0 0 x3).1.un.2.2.2.1), x.2]), (b2, [.int .i64 ((Ad (Tr28.of (0, Tr25.of (0, 0, 0, ([] : List Tr25)), 0, 0, ([] : List Tr28))) 0 0 x3).2.1)]), (b3, [.int .i64 ((Ad (Tr28.of (0, Tr25.of (0, 0, 0, ([] : List Tr25)), 0, 0, ([] : List Tr28))) 0 0 x3).2.2)])]) (ZZ := fun x => [A4 x.1 A6 ((Ad (Tr28.of (0, Tr25.of (0, 0, 0, ([] : List Tr25)), 0, 0, ([] : List Tr28))) 0 0 x3).1.un.2.1.un.2.2.2), A4 x.2 BJ ((Ad (Tr28.of (0, Tr25.of (0, 0, 0, ([] : List Tr25)), 0, 0, ([] : List Tr28))) 0 0 x3).1.un.2.2.2.2)]) W TT (by simp) (fun hL => Ez _ _ w b1 (Value.slice none 0 0) (Value.slice none 0 0) b2 b3 (Tr28.of (0, Tr25.of (0, 0, 0, ([] : List Tr25)), 0, 0, ([] : List Tr28))) 0 0 x3 _ Aa hL) fun x w W => ?_
 obtain ⟨v10, v11⟩ := x
 have W : Stw ⟨Y, [], w0⟩ [(b1, [.int .i64 ((Ad (Tr28.of (0, Tr25.of (0, 0, 0, ([] : List Tr25)), 0, 0, ([] : List Tr28))) 0 0 x3).1.un.1), .int .i64 ((Ad (Tr28.of (0, Tr25.of (0, 0, 0, ([] : List Tr25)), 0, 0, ([] : List Tr28))) 0 0 x3).1.un.2.1.un.1), .int .i64 ((Ad (Tr28.of (0, Tr25.of (0, 0, 0, ([] : List Tr25)), 0, 0, ([] : List Tr28))) 0 0 x3).1.un.2.1.un.2.1), .int .i64 ((Ad (Tr28.of (0, Tr25.of (0, 0, 0, ([] : List Tr25)), 0, 0, ([] : List Tr28))) 0 0 x3).1.un.2.1.un.2.2.1), v10, .int .i64 ((Ad (Tr28.of (0, Tr25.of (0, 0, 0, ([] : List Tr25)), 0, 0, ([] : List Tr28))) 0 0 x3).1.un.2.2.1), .int .i64 ((Ad (Tr28.of (0, Tr25.of (0, 0, 0, ([] : List Tr25)), 0, 0, ([] : List Tr28))) 0 0 x3).1.un.2.2.2.1), v11]), (b2, [.int .i64 ((Ad (Tr28.of (0, Tr25.of (0, 0, 0, ([] : List Tr25)), 0, 0, ([] : List Tr28))) 0 0 x3).2.1)]), (b3, [.int .i64 ((Ad (Tr28.of (0, Tr25.of (0, 0, 0, ([] : List Tr25)), 0, 0, ([] : List Tr28))) 0 0 x3).2.2)])] [A4 v10 A6 ((Ad (Tr28.of (0, Tr25.of (0, 0, 0, ([] : List Tr25)), 0, 0, ([] : List Tr28))) 0 0 x3).1.un.2.1.un.2.2.2), A4 v11 BJ ((Ad (Tr28.of (0, Tr25.of (0, 0, 0, ([] : List Tr25)), 0, 0, ([] : List Tr28))) 0 0 x3).1.un.2.2.2.2)] w := W
 have H := AR H
 subst H
 refine Lw W Aa (BD 0 F Aa Aa D1 Aa) (BD 1 F Aa Aa T3 Aa) (BD 2 F Aa Aa R4 Aa) ?_
 have W := W.frontZ (i := 1) Aa Aa
 have W := W.frontZ (i := 1) Aa Aa
 have W := W.sub (M' := []) (Z' := [A4 v10 A6 ((Ad (Tr28.of (0, Tr25.of (0, 0, 0, ([] : List Tr25)), 0, 0, ([] : List Tr28))) 0 0 x3).1.un.2.1.un.2.2.2), A4 v11 BJ ((Ad (Tr28.of (0, Tr25.of (0, 0, 0, ([] : List Tr25)), 0, 0, ([] : List Tr28))) 0 0 x3).1.un.2.2.2.2)]) (List.nil_sublist _) (List.Sublist.refl _)
 exact ⟨((v10), (v11)), Aa, W⟩
theorem H7 : Has Tryd.prog 7 := ⟨fun args w => Am Tryd.func7 rfl (by decide) args w⟩
def AY (p0 : Int) : List UInt8 := (if p0 = 0 then ([115, 114, 99] : List UInt8) else (if p0 = 1 then ([100, 115, 116] : List UInt8) else (if p0 = 2 then ([107, 105, 110, 100] : List UInt8) else (if p0 = 3 then ([116, 97, 103] : List UInt8) else (if p0 = 4 then ([112, 111, 114, 116] : List UInt8) else (if p0 = 5 then ([115, 119, 105, 116, 99, 104] : List UInt8) else ([63] : List UInt8)))))))
theorem Kh (Y : Nat → Prop) (w0 : World)  (p0 : Int) (r : List UInt8) (H : AY p0 = r)  :
    Calls Tryd.prog 49 #[.int .i64 p0] w0 fun e w' => e = .returned (.string (bs r)) ∧ Below w0.heap.size w0 w' := by
 refine enter Tryd.func49 Aa Tryd.ntmps49 Aa fun a F => ?_
 have W := Stw.start Y w0
 unfold AY at H
 refine Ah (Ab ?_)
 refine ls F W Aa (Ag (v := Value.string (bs ([] : List UInt8))) F Aa).q fun a w F W => ?_
 refine Ae (Ac (Ah (Ah (Ab ?_))))
 refine ls F W Aa (Ai F Aa).q fun a w F W => ?_
 refine Ae (Ac (Bb (Ah (Ab ?_))))
 refine ls F W Aa (Bw F Aa Aa).q fun a w F W => ?_
 refine ls F W Aa (Ag F Aa).q fun a w F W => ?_
 refine Ae (Ac ?_)
 refine AC F Aa (fun hb => ?_) fun hb => ?_
 ·
  have H := Ba (BM hb) H
  rw [hb] at F
  clear hb
  refine Ah (Ab ?_)
  refine ls F W Aa (Ag (v := Value.string (bs ([115, 114, 99] : List UInt8))) F Aa).q fun a w F W => ?_
  refine Ae (Ac (Au (Be (AV ?_))))
  subst H
  refine AO (.inl Aa) F W Aa (AD F Aa) ?_
  exact ⟨rfl, W.done⟩
 have H := Bc (BL hb) H
 rw [hb] at F
 clear hb
 refine Ah (Ab ?_)
 refine ls F W Aa (Bw F Aa Aa).q fun a w F W => ?_
 refine ls F W Aa (Ag F Aa).q fun a w F W => ?_
 refine Ae (Ac ?_)
 refine AC F Aa (fun hb => ?_) fun hb => ?_
 ·
  have H := Ba (BM hb) H
  rw [hb] at F
  clear hb
  refine Ah (Ab ?_)
  refine ls F W Aa (Ag (v := Value.string (bs ([100, 115, 116] : List UInt8))) F Aa).q fun a w F W => ?_
  refine Ae (Ac (Au (Be (AV ?_))))
  subst H
  refine AO (.inl Aa) F W Aa (AD F Aa) ?_
  exact ⟨rfl, W.done⟩
 have H := Bc (BL hb) H
 rw [hb] at F
 clear hb
 refine Ah (Ab ?_)
 refine ls F W Aa (Bw F Aa Aa).q fun a w F W => ?_
 refine ls F W Aa (Ag F Aa).q fun a w F W => ?_
 refine Ae (Ac ?_)
 refine AC F Aa (fun hb => ?_) fun hb => ?_
 ·
  have H := Ba (BM hb) H
  rw [hb] at F
  clear hb
  refine Ah (Ab ?_)
  refine ls F W Aa (Ag (v := Value.string (bs ([107, 105, 110, 100] : List UInt8))) F Aa).q fun a w F W => ?_
  refine Ae (Ac (Au (Be (AV ?_))))
  subst H
  refine AO (.inl Aa) F W Aa (AD F Aa) ?_
  exact ⟨rfl, W.done⟩
 have H := Bc (BL hb) H
 rw [hb] at F
 clear hb
 refine Ah (Ab ?_)
 refine ls F W Aa (Bw F Aa Aa).q fun a w F W => ?_
 refine ls F W Aa (Ag F Aa).q fun a w F W => ?_
 refine Ae (Ac ?_)
 refine AC F Aa (fun hb => ?_) fun hb => ?_
 ·
  have H := Ba (BM hb) H
  rw [hb] at F
  clear hb
  refine Ah (Ab ?_)
  refine ls F W Aa (Ag (v := Value.string (bs ([116, 97, 103] : List UInt8))) F Aa).q fun a w F W => ?_
  refine Ae (Ac (Au (Be (AV ?_))))
  subst H
  refine AO (.inl Aa) F W Aa (AD F Aa) ?_
  exact ⟨rfl, W.done⟩
 have H := Bc (BL hb) H
 rw [hb] at F
 clear hb
 refine Ah (Ab ?_)
 refine ls F W Aa (Bw F Aa Aa).q fun a w F W => ?_
 refine ls F W Aa (Ag F Aa).q fun a w F W => ?_
 refine Ae (Ac ?_)
 refine AC F Aa (fun hb => ?_) fun hb => ?_
 ·
  have H := Ba (BM hb) H
  rw [hb] at F
  clear hb
  refine Ah (Ab ?_)
  refine ls F W Aa (Ag (v := Value.string (bs ([112, 111, 114, 116] : List UInt8))) F Aa).q fun a w F W => ?_
  refine Ae (Ac (Au (Be (AV ?_))))
  subst H
  refine AO (.inl Aa) F W Aa (AD F Aa) ?_
  exact ⟨rfl, W.done⟩
 have H := Bc (BL hb) H
 rw [hb] at F
 clear hb
 refine Ah (Ab ?_)
 refine ls F W Aa (Bw F Aa Aa).q fun a w F W => ?_
 refine ls F W Aa (Ag F Aa).q fun a w F W => ?_
 refine Ae (Ac ?_)
 refine AC F Aa (fun hb => ?_) fun hb => ?_
 ·
  have H := Ba (BM hb) H
  rw [hb] at F
  clear hb
  refine Ah (Ab ?_)
  refine ls F W Aa (Ag (v := Value.string (bs ([115, 119, 105, 116, 99, 104] : List UInt8))) F Aa).q fun a w F W => ?_
  refine Ae (Ac (Au (Be (AV ?_))))
  subst H
  refine AO (.inl Aa) F W Aa (AD F Aa) ?_
  exact ⟨rfl, W.done⟩
 have H := Bc (BL hb) H
 rw [hb] at F
 clear hb
 refine AM (BI (Ac (Ah (Ab ?_))))
 refine ls F W Aa (Ag (v := Value.string (bs ([63] : List UInt8))) F Aa).q fun a w F W => ?_
 refine Ae (Ac (Au ?_))
 subst H
 refine AO (.inl Aa) F W Aa (AD F Aa) ?_
 exact ⟨rfl, W.done⟩
theorem Uc : type_of% Tryd.underlying78 := Tryd.underlying78
theorem U5 : Has Tryd.prog 49 := ⟨fun args w => Am Tryd.func49 rfl (by decide) args w⟩
theorem Us : Has Tryd.prog 43 := ⟨fun args w => Am Tryd.func43 rfl (by decide) args w⟩
theorem Lv : Ty Tryd.prog 23 false 1 := ⟨by kernel_rfl, by kernel_rfl⟩
theorem Un : Has Tryd.prog 21 := ⟨fun args w => Am Tryd.func21 rfl (by decide) args w⟩
theorem Z9 : (Tryd.prog.info? 9).bind (·.zero) = some (.string (bs ([] : List UInt8))) := by kernel_rfl
theorem TU : Et Tryd.prog 78 9 1 16 := Et.of Uc (by kernel_rfl) (by kernel_rfl) (by kernel_rfl) (by decide)
theorem TH : Has Tryd.prog 44 := ⟨fun args w => Am Tryd.func44 rfl (by decide) args w⟩
noncomputable def CC (fRec_pred_Text : Tr25 → Option (List UInt8)) (p0 : List Tr25) : (List (List UInt8) × Int) → Option ((List (List UInt8) × Int) ⊕ (List (List UInt8)))
  | (x2, x3) => (if x3 < (p0.length : Int) then (ix p0 x3).bind fun x4 => (fRec_pred_Text x4).bind fun x5 => (if (decide (x4.un.1 = 5) || decide (x4.un.1 = 6)) = true then (D0 ([40] : List UInt8) x5).bind fun x7 => (D0 x7 ([41] : List UInt8)).bind fun x8 => some x8 else some x5).bind fun x6 => (D0 x2 ([x6] : List (List UInt8))).bind fun x9 => some (.inl (x9, CI (x3 + 1))) else some (.inr x2))
noncomputable def DG (fRec_pred_Text : Tr25 → Option (List UInt8)) (p0 : List Tr25) (p1 : List UInt8) : Option (List UInt8) := (Bo (CC fRec_pred_Text p0) ([], 0)).bind fun x1 => (HT x1 p1).bind fun x10 => some x10
theorem ID (fRec_pred_Text : Tr25 → Option (List UInt8)) (ih_pred_Text : ∀ (Y : Nat → Prop) (w0 : World) (v1 : Value) (p0 : Tr25) (r : List UInt8) (H : fRec_pred_Text p0 = some r) (h_v1 : Sl w0 (NX []) A6 v1 p0.un.2.2.2) (hG : Gk [] w0), Calls Tryd.prog 21 #[.agg #[.int .i64 p0.un.1, .int .i64 p0.un.2.1, .int .i64 p0.un.2.2.1, v1]] w0 fun e w' => e = .returned (.string (bs r)) ∧ Below w0.heap.size w0 w') (Y : Nat → Prop) (w0 : World) (v1 : Value) (p0 : List Tr25) (p1 : List UInt8) (r : List UInt8) (H : DG fRec_pred_Text p0 p1 = some r) (h_v1 : Sl w0 (NX []) A6 v1 p0) (hG : Gk [] w0) :
    Calls Tryd.prog 50 #[v1, .string (bs p1)] w0 fun e w' => e = .returned (.string (bs r)) ∧ Below w0.heap.size w0 w' := by
 refine enter Tryd.func50 Aa Tryd.ntmps50 Aa fun a F => ?_
 have W := Stw.start Y w0
 obtain ⟨v2, h1, h_v1⟩ := h_v1.ex CF
 unfold DG at H
 refine Ah (Ab ?_)
 refine ls F W Aa (Ag (v := Value.string (bs ([] : List UInt8))) F Aa).q fun a w F W => ?_
 refine Ae (Ac (Ah (Ab ?_)))
 refine ls F W Aa (Ag F Aa).q fun a w F W => ?_
 refine Ae (Ac ?_)
 obtain ⟨o1, G1, K1⟩ := Aq H
 refine BK (fun a w => ∃ x1 : List (List UInt8), ∃ v3 : Value, some (x1) = some o1 ∧ Fr 36 [] [(1, .string (bs p1)), (4, .string (bs ([] : List UInt8))), (5, v3)] a ∧ Stw ⟨Y, [], w0⟩ [] [row v3 9 Rp.str x1] w) ?_ ?_
 ·
  have H := G1
  clear G1 K1
  refine Ah (Ab ?_)
  refine ls F W Aa (Ai F Aa).q fun a w F W => ?_
  refine ls F W Aa (DC (r := A6) (l := p0) J7 Aa F Aa (Bd CF h1 (AG h_v1))).q fun a w F W => ?_
  refine ls F W Aa (Ai F Aa).q fun a w F W => ?_
  refine Ae (Ac (Bb ?_))
  have W := W.nilRow 9 Rp.str
  refine Dl H (fun s a w => ∃ v4 : Value, Fr 36 [] [(1, .string (bs p1)), (4, .string (bs ([] : List UInt8))), (5, v4), (9, v1), (10, .int .i64 (p0.length : Int)), (11, .int .i64 s.2)] a ∧ Stw ⟨Y, [], w0⟩ [] [row v4 9 Rp.str s.1] w) ⟨(Value.slice none 0 0), F.re ⟨rfl, Aa, Aa, Aa, Aa, Aa, trivial⟩, W⟩ fun s o a w H L2 hR => ?_
  obtain ⟨x2, x3⟩ := s
  obtain ⟨v4, F, W⟩ := hR
  have F : Fr 36 [] [(1, .string (bs p1)), (4, .string (bs ([] : List UInt8))), (5, v4), (9, v1), (10, .int .i64 (p0.length : Int)), (11, .int .i64 x3)] a := F
  have W : Stw ⟨Y, [], w0⟩ [] [row v4 9 Rp.str x2] w := W
  rw [CC] at H
  refine Ah (Ab ?_)
  refine ls F W Aa (Fx F Aa Aa).q fun a w F W => ?_
  refine Ae (Ac (Ah ?_))
  refine AC F Aa (fun hb => ?_) fun hb => ?_
  ·
   have H := Ba (BM hb) H
   rw [hb] at F
   clear hb
   refine AM (Ac (Ah (Bb (Ah (Ab ?_)))))
   obtain ⟨x4, h2, H⟩ := Aq H
   obtain ⟨v5, h3, h4⟩ := Gy h1 h2
   have h5 : JE v5 = [.int .i64 x4.un.1, .int .i64 x4.un.2.1, .int .i64 x4.un.2.2.1, (v5.2.2.2.1)] := congrArg (fun q : Tr25 => ([.int .i64 q.un.1, .int .i64 q.un.2.1, .int .i64 q.un.2.2.1, (v5.2.2.2.1)] : List Value)) h4
   refine ls F W Aa (DS (r := MJ) Pi F Aa Aa (AG h_v1) h3).q fun a w F W => ?_
   refine ls F W Aa (CG (y := Value.agg #[.int .i64 x4.un.1, .int .i64 x4.un.2.1, .int .i64 x4.un.2.2.1, (v5.2.2.2.1)]) (j := 0) (i := x3) (enc := JE) F Aa Aa (AG h_v1) h3 ON ER (by rw [h5]; rfl)).q fun a w F W => ?_
   refine BA (cs := (CH)) F W Aa Ny Aa fun b1 a w F W => ?_
   refine AP (vs := [.int .i64 x4.un.1, .int .i64 x4.un.2.1, .int .i64 x4.un.2.2.1, (v5.2.2.2.1)]) (M' := [(b1, [.int .i64 x4.un.1, .int .i64 x4.un.2.1, .int .i64 x4.un.2.2.1, (v5.2.2.2.1)])]) 0 F W Aa Aa Aa ER Aa Aa Aa (Af Aa (Af Aa (Af Aa (Af ((Cz (AG h_v1) h3 (AE.snd (AE.snd (AE.snd AE.here))) (congrArg (fun q : Tr25 => q.un.2.2.2) h4)) _ W).one BC)))) Aa fun w W => ?_
   refine Ae (Ac (Ah (Ab ?_)))
   refine ls F W Aa (Aw (v := Value.agg #[.int .i64 x4.un.1, .int .i64 x4.un.2.1, .int .i64 x4.un.2.2.1, (v5.2.2.2.1)]) 0 F Aa Aa ER Aa).q fun a w F W => ?_
   obtain ⟨x5, h6, H⟩ := Aq H
   refine ls F W Aa (Bx (v := Value.string (bs x5)) F Un Aa (fun w W => ih_pred_Text any w ((v5.2.2.2.1)) x4 _ h6 (((Cz (AG h_v1) h3 (AE.snd (AE.snd (AE.snd AE.here))) (congrArg (fun q : Tr25 => q.un.2.2.2) h4)) : EB _ _ _ _ _ _) w W).nx (hG.go0 W))) fun a w F W => ?_
   refine ls F W Aa (Ag F Aa).q fun a w F W => ?_
   refine Ae (Ac ?_)
   obtain ⟨o3, G3, K3⟩ := Aq H
   refine BK (fun a w => ∃ x6 : List UInt8, some (x6) = some o3 ∧ Fr 36 [] [(1, .string (bs p1)), (4, .string (bs ([] : List UInt8))), (5, v4), (8, .string (bs x6)), (9, v1), (10, .int .i64 (p0.length : Int)), (11, .int .i64 x3)] a ∧ Stw ⟨Y, [], w0⟩ [(b1, [.int .i64 x4.un.1, .int .i64 x4.un.2.1, .int .i64 x4.un.2.2.1, (v5.2.2.2.1)])] [row v4 9 Rp.str x2] w) ?_ ?_
   ·
    have H := G3
    clear G3 K3
    refine BK (fun a w => Fr 36 [] [(1, .string (bs p1)), (4, .string (bs ([] : List UInt8))), (5, v4), (8, .string (bs x5)), (9, v1), (10, .int .i64 (p0.length : Int)), (11, .int .i64 x3), (24, .bool (decide (x4.un.1 = 5) || decide (x4.un.1 = 6)))] a ∧ Stw ⟨Y, [], w0⟩ [(b1, [.int .i64 x4.un.1, .int .i64 x4.un.2.1, .int .i64 x4.un.2.2.1, (v5.2.2.2.1)])] [row v4 9 Rp.str x2] w) ?_ ?_
    ·
     refine Ab ?_
     refine ls F W Aa (Al ET Aa Aa Aa T3 F Aa 0 Aa).q fun a w F W => ?_
     refine ls F W Aa (Aw (v := Value.int .i64 x4.un.1) 0 F Aa Aa T3 Aa).q fun a w F W => ?_
     refine ls F W Aa (Bw F Aa Aa).q fun a w F W => ?_
     refine ls F W Aa (Ai F Aa).q fun a w F W => ?_
     rcases Bool.eq_false_or_eq_true (decide (x4.un.1 = 5)) with hb0 | hb0
     ·
      rw [hb0] at F
      iterate 3 refine EX F Aa Aa Aa Aa Aa Aa Aa fun a F => ?_
      refine ls F W Aa (A2 F Aa Aa Aa).q fun a w F W => ?_
      refine Ae (Ac ?_)
      exact ⟨F.re ⟨rfl, Aa, Aa, Aa, Aa, Aa, Aa, (JQ (by try rw [hb0]; all_goals simp only [JV])), trivial⟩, W⟩
     rw [hb0] at F
     refine Bn F W (Ak F Aa Aa Aa Aa) Aa (Ay Aa) (Al ET Aa Aa Aa T3 F Aa 0 Aa).q fun a w F W => ?_
     refine Bn F W (Ak F Aa Aa Aa Aa) Aa (Ay Aa) (Aw (v := Value.int .i64 x4.un.1) 0 F Aa Aa T3 Aa).q fun a w F W => ?_
     refine Bn F W (Ak F Aa Aa Aa Aa) Aa (Ay Aa) (Bw F Aa Aa).q fun a w F W => ?_
     refine ls F W Aa (Ax F Aa Aa Aa).q fun a w F W => ?_
     refine Ae (Ac ?_)
     exact ⟨F.re ⟨rfl, Aa, Aa, Aa, Aa, Aa, Aa, (JQ (by try rw [hb0]; all_goals simp only [JV])), trivial⟩, W⟩
    rintro a w ⟨F, W⟩
    refine AC F Aa (fun hb => ?_) fun hb => ?_
    ·
     have H := Ba hb H
     rw [hb] at F
     clear hb
     refine Ab ?_
     refine ls F W Aa (Ai F Aa).q fun a w F W => ?_
     obtain ⟨x7, h7, H⟩ := Aq H
     refine ls F W Aa (Fm (l := ([40] : List UInt8)) (m := x5) F Aa Aa h7).q fun a w F W => ?_
     obtain ⟨x8, h8, H⟩ := Aq H
     refine ls F W Aa (Fm (l := x7) (m := ([41] : List UInt8)) F Aa Aa h8).q fun a w F W => ?_
     refine ls F W Aa (Ag F Aa).q fun a w F W => ?_
     refine Ae (Ac ?_)
     exact ⟨_, H, F.re ⟨rfl, Aa, Aa, Aa, Aa, Aa, Aa, trivial⟩, W⟩
    have H := Bc (by rw [hb]; decide) H
    rw [hb] at F
    clear hb
    refine AM (Ac ?_)
    exact ⟨_, H, F.re ⟨rfl, Aa, Aa, Aa, Aa, Aa, Aa, trivial⟩, W⟩
   rintro a w ⟨x6, hj, F, W⟩
   have hj := AR hj
   subst hj
   have H := K3
   clear G3 K3
   refine Ab ?_
   iterate 2 refine ls F W Aa (Ai F Aa).q fun a w F W => ?_
   refine Hi (z := Value.string (bs ([] : List UInt8))) (cs := [.string (bs x6)]) Rp.str ([x6] : List (List UInt8)) F W Aa TU Z9 Aa Aa Aa Aa Aa Aa (Fl.str.repL _ _ ([x6] : List (List UInt8))) fun v6 a w F W => ?_
   obtain ⟨x9, h9, H⟩ := Aq H
   refine Gd (r := Rp.str) (i := 1) F W Aa TU Aa Aa Aa Aa (Hh W 0 Aa) h9 Aa fun v7 a w F W => ?_
   have W : Stw ⟨Y, [], w0⟩ [(b1, [.int .i64 x4.un.1, .int .i64 x4.un.2.1, .int .i64 x4.un.2.2.1, (v5.2.2.2.1)])] [row v7 9 Rp.str x9, row v6 9 Rp.str ([x6] : List (List UInt8))] w := W
   refine ls F W Aa (Ag F Aa).q fun a w F W => ?_
   refine Ae (BI (Ac (Ab ?_)))
   refine ls F W Aa (Fe F Aa Aa Aa).q fun a w F W => ?_
   refine ls F W Aa (Ai F Aa).q fun a w F W => ?_
   refine Ae (Ac ?_)
   have W := W.sub (M' := []) (Z' := [row v7 9 Rp.str x9]) (List.nil_sublist _) (List.Sublist.cons_cons _ (List.nil_sublist _))
   exact ⟨_, H, (v7), F.re ⟨rfl, Aa, Aa, Aa, Aa, Aa, trivial⟩, W⟩
  have H := Bc (BL hb) H
  rw [hb] at F
  clear hb
  refine Do ?_
  iterate 2 refine Er ?_
  refine Dk (Ac ?_)
  have H := L2 _ H
  exact ⟨_, (v4), H, F.re ⟨rfl, Aa, Aa, trivial⟩, W⟩
 rintro a w ⟨x1, v3, hj, F, W⟩
 have hj := AR hj
 subst hj
 have H := K1
 clear G1 K1
 refine Ah (Ab ?_)
 iterate 2 refine ls F W Aa (Ai F Aa).q fun a w F W => ?_
 obtain ⟨x10, h10, H⟩ := Aq H
 refine ls F W Aa (Bx (v := Value.string (bs x10)) F TH Aa (fun w W => NH any w (v3) x1 p1 _ h10 (((CB 0 Aa) : EB _ _ _ _ _ _) w W).nx)) fun a w F W => ?_
 refine ls F W Aa (Ag F Aa).q fun a w F W => ?_
 refine Ae (Ac (Au ?_))
 have H := AR H
 subst H
 refine AO (.inl Aa) F W Aa (AD F Aa) ?_
 exact ⟨rfl, W.done⟩
theorem Ui : Has Tryd.prog 50 := ⟨fun args w => Am Tryd.func50 rfl (by decide) args w⟩
noncomputable def C0 (fRec : Tr25 → Option (List UInt8)) (p0 : Tr25) : Option (List UInt8) := (if p0.un.1 = 1 then some ([116, 114, 117, 101] : List UInt8) else (if p0.un.1 = 2 then some ([102, 97, 108, 115, 101] : List UInt8) else (if p0.un.1 = 3 then (D0 (AY p0.un.2.1) ([32, 61, 32] : List UInt8)).bind fun x1 => (Ms p0.un.2.2.1).bind fun x2 => (D0 x1 x2).bind fun x3 => some x3 else (if p0.un.1 = 4 then ((DG fRec) p0.un.2.2.2 ([] : List UInt8)).bind fun x4 => (D0 ([110, 111, 116, 32] : List UInt8) x4).bind fun x5 => some x5 else (if p0.un.1 = 5 then ((DG fRec) p0.un.2.2.2 ([32, 97, 110, 100, 32] : List UInt8)).bind fun x6 => some x6 else (if p0.un.1 = 6 then ((DG fRec) p0.un.2.2.2 ([32, 111, 114, 32] : List UInt8)).bind fun x7 => some x7 else some ([63] : List UInt8)))))))
noncomputable def CU : Nat → Tr25 → Option (List UInt8)
  | 0 => fun _ => none
  | n + 1 => C0 (CU n)
noncomputable def HH (p0 : Tr25) : Option (List UInt8) := Ge fun n => CU n p0
theorem MA (fRec : Tr25 → Option (List UInt8)) (ih : ∀ (Y : Nat → Prop) (w0 : World) (v1 : Value) (p0 : Tr25) (r : List UInt8) (H : fRec p0 = some r) (h_v1 : Sl w0 (NX []) A6 v1 p0.un.2.2.2) (hG : Gk [] w0), Calls Tryd.prog 21 #[.agg #[.int .i64 p0.un.1, .int .i64 p0.un.2.1, .int .i64 p0.un.2.2.1, v1]] w0 fun e w' => e = .returned (.string (bs r)) ∧ Below w0.heap.size w0 w') (Y : Nat → Prop) (w0 : World) (v1 : Value) (p0 : Tr25) (r : List UInt8) (H : C0 fRec p0 = some r) (h_v1 : Sl w0 (NX []) A6 v1 p0.un.2.2.2) (hG : Gk [] w0) :
    Calls Tryd.prog 21 #[.agg #[.int .i64 p0.un.1, .int .i64 p0.un.2.1, .int .i64 p0.un.2.2.1, v1]] w0 fun e w' => e = .returned (.string (bs r)) ∧ Below w0.heap.size w0 w' := by
 refine enter Tryd.func21 Aa Tryd.ntmps21 Aa fun a F => ?_
 have W := Stw.start Y w0
 obtain ⟨v2, h1, h_v1⟩ := h_v1.ex CF
 unfold C0 at H
 refine Ah (Ab ?_)
 refine FH (cs := (IY p0 v1)) F W Aa Aa Aa fun b1 a w F W => ?_
 refine ls F W Aa (Ag (v := Value.string (bs ([] : List UInt8))) F Aa).q fun a w F W => ?_
 refine Ae (Ac (Ah (Ah (Ab ?_))))
 refine ls F W Aa (Al ET Aa Aa Aa T3 F Aa 0 Aa).q fun a w F W => ?_
 refine ls F W Aa (Aw (v := Value.int .i64 p0.un.1) 0 F Aa Aa T3 Aa).q fun a w F W => ?_
 refine Ae (Ac (Bb (Ah (Ab ?_))))
 refine ls F W Aa (Bw F Aa Aa).q fun a w F W => ?_
 refine ls F W Aa (Ag F Aa).q fun a w F W => ?_
 refine Ae (Ac ?_)
 refine AC F Aa (fun hb => ?_) fun hb => ?_
 ·
  have H := Ba (BM hb) H
  rw [hb] at F
  clear hb
  refine Ah (Ab ?_)
  refine ls F W Aa (Ag (v := Value.string (bs ([116, 114, 117, 101] : List UInt8))) F Aa).q fun a w F W => ?_
  refine Ae (Ac (Au (Be (AV ?_))))
  have H := AR H
  subst H
  refine AO (.inl Aa) F W Aa (AD F Aa) ?_
  exact ⟨rfl, W.done⟩
 have H := Bc (BL hb) H
 rw [hb] at F
 clear hb
 refine Ah (Ab ?_)
 refine ls F W Aa (Bw F Aa Aa).q fun a w F W => ?_
 refine ls F W Aa (Ag F Aa).q fun a w F W => ?_
 refine Ae (Ac ?_)
 refine AC F Aa (fun hb => ?_) fun hb => ?_
 ·
  have H := Ba (BM hb) H
  rw [hb] at F
  clear hb
  refine Ah (Ab ?_)
  refine ls F W Aa (Ag (v := Value.string (bs ([102, 97, 108, 115, 101] : List UInt8))) F Aa).q fun a w F W => ?_
  refine Ae (Ac (Au (Be (AV ?_))))
  have H := AR H
  subst H
  refine AO (.inl Aa) F W Aa (AD F Aa) ?_
  exact ⟨rfl, W.done⟩
 have H := Bc (BL hb) H
 rw [hb] at F
 clear hb
 refine Ah (Ab ?_)
 refine ls F W Aa (Bw F Aa Aa).q fun a w F W => ?_
 refine ls F W Aa (Ag F Aa).q fun a w F W => ?_
 refine Ae (Ac ?_)
 refine AC F Aa (fun hb => ?_) fun hb => ?_
 ·
  have H := Ba (BM hb) H
  rw [hb] at F
  clear hb
  refine Ah ?_
  refine HR W MO (by kernel_rfl) ?_
  refine qs F Aa (Al ET Aa Aa Aa T3 F Aa 1 Aa).q fun a F => ?_
  refine qs F Aa (Aw (v := Value.int .i64 p0.un.2.1) 0 F Aa Aa T3 Aa).q fun a F => ?_
  refine qs F Aa (Bx (v := Value.string (bs (AY p0.un.2.1))) F U5 Aa (fun w W => Kh any w p0.un.2.1 _ Aa)) fun a F => ?_
  obtain ⟨x1, h2, H⟩ := Aq H
  refine qs F Aa (Fm (l := (AY p0.un.2.1)) (m := ([32, 61, 32] : List UInt8)) F Aa Aa h2).q fun a F => ?_
  refine qs F Aa (Al ET Aa Aa Aa T3 F Aa 2 Aa).q fun a F => ?_
  refine qs F Aa (Aw (v := Value.int .i64 p0.un.2.2.1) 0 F Aa Aa T3 Aa).q fun a F => ?_
  obtain ⟨x2, h3, H⟩ := Aq H
  refine qs F Aa (Bx (v := Value.string (bs x2)) F Us Aa (fun w W => Qn any w p0.un.2.2.1 _ h3 (hG.go0 W))) fun a F => ?_
  obtain ⟨x3, h4, H⟩ := Aq H
  refine qs F Aa (Fm (l := x1) (m := x2) F Aa Aa h4).q fun a F => ?_
  refine qs F Aa (Ag F Aa).q fun a F => ?_
  refine CY fun w W => ?_
  refine Ac (Au (Be (AV ?_)))
  have H := AR H
  subst H
  refine AO (.inl Aa) F W Aa (AD F Aa) ?_
  exact ⟨rfl, W.done⟩
 have H := Bc (BL hb) H
 rw [hb] at F
 clear hb
 refine Ah (Ab ?_)
 refine ls F W Aa (Bw F Aa Aa).q fun a w F W => ?_
 refine ls F W Aa (Ag F Aa).q fun a w F W => ?_
 refine Ae (Ac ?_)
 refine AC F Aa (fun hb => ?_) fun hb => ?_
 ·
  have H := Ba (BM hb) H
  rw [hb] at F
  clear hb
  refine Ah (Ab ?_)
  refine ls F W Aa (Al ET Aa Aa Aa Lv F Aa 3 Aa).q fun a w F W => ?_
  refine ls F W Aa (Aw (v := v1) 0 F Aa Aa Lv Aa).q fun a w F W => ?_
  obtain ⟨x4, h5, H⟩ := Aq H
  refine ls F W Aa (Bx (v := Value.string (bs x4)) F Ui Aa (fun w W => (ID fRec ih) any w (v1) p0.un.2.2.2 ([] : List UInt8) _ h5 (((Bd CF h1 (AG h_v1)) : EB _ _ _ _ _ _) w W).nx (hG.go0 W))) fun a w F W => ?_
  obtain ⟨x5, h6, H⟩ := Aq H
  refine ls F W Aa (Fm (l := ([110, 111, 116, 32] : List UInt8)) (m := x4) F Aa Aa h6).q fun a w F W => ?_
  refine ls F W Aa (Ag F Aa).q fun a w F W => ?_
  refine Ae (Ac (Au (Be (AV ?_))))
  have H := AR H
  subst H
  refine AO (.inl Aa) F W Aa (AD F Aa) ?_
  exact ⟨rfl, W.done⟩
 have H := Bc (BL hb) H
 rw [hb] at F
 clear hb
 refine Ah (Ab ?_)
 refine ls F W Aa (Bw F Aa Aa).q fun a w F W => ?_
 refine ls F W Aa (Ag F Aa).q fun a w F W => ?_
 refine Ae (Ac ?_)
 refine AC F Aa (fun hb => ?_) fun hb => ?_
 ·
  have H := Ba (BM hb) H
  rw [hb] at F
  clear hb
  refine Ah (Ab ?_)
  refine ls F W Aa (Al ET Aa Aa Aa Lv F Aa 3 Aa).q fun a w F W => ?_
  refine ls F W Aa (Aw (v := v1) 0 F Aa Aa Lv Aa).q fun a w F W => ?_
  obtain ⟨x6, h7, H⟩ := Aq H
  refine ls F W Aa (Bx (v := Value.string (bs x6)) F Ui Aa (fun w W => (ID fRec ih) any w (v1) p0.un.2.2.2 ([32, 97, 110, 100, 32] : List UInt8) _ h7 (((Bd CF h1 (AG h_v1)) : EB _ _ _ _ _ _) w W).nx (hG.go0 W))) fun a w F W => ?_
  refine ls F W Aa (Ag F Aa).q fun a w F W => ?_
  refine Ae (Ac (Au (Be (AV ?_))))
  have H := AR H
  subst H
  refine AO (.inl Aa) F W Aa (AD F Aa) ?_
  exact ⟨rfl, W.done⟩
 have H := Bc (BL hb) H
 rw [hb] at F
 clear hb
 refine Ah (Ab ?_)
 refine ls F W Aa (Bw F Aa Aa).q fun a w F W => ?_
 refine ls F W Aa (Ag F Aa).q fun a w F W => ?_
 refine Ae (Ac ?_)
 refine AC F Aa (fun hb => ?_) fun hb => ?_
 ·
  have H := Ba (BM hb) H
  rw [hb] at F
  clear hb
  refine Ah (Ab ?_)
  refine ls F W Aa (Al ET Aa Aa Aa Lv F Aa 3 Aa).q fun a w F W => ?_
  refine ls F W Aa (Aw (v := v1) 0 F Aa Aa Lv Aa).q fun a w F W => ?_
  obtain ⟨x7, h8, H⟩ := Aq H
  refine ls F W Aa (Bx (v := Value.string (bs x7)) F Ui Aa (fun w W => (ID fRec ih) any w (v1) p0.un.2.2.2 ([32, 111, 114, 32] : List UInt8) _ h8 (((Bd CF h1 (AG h_v1)) : EB _ _ _ _ _ _) w W).nx (hG.go0 W))) fun a w F W => ?_
  refine ls F W Aa (Ag F Aa).q fun a w F W => ?_
  refine Ae (Ac (Au (Be (AV ?_))))
  have H := AR H
  subst H
  refine AO (.inl Aa) F W Aa (AD F Aa) ?_
  exact ⟨rfl, W.done⟩
 have H := Bc (BL hb) H
 rw [hb] at F
 clear hb
 refine AM (BI (Ac (Ah (Ab ?_))))
 refine ls F W Aa (Ag (v := Value.string (bs ([63] : List UInt8))) F Aa).q fun a w F W => ?_
 refine Ae (Ac (Au ?_))
 have H := AR H
 subst H
 refine AO (.inl Aa) F W Aa (AD F Aa) ?_
 exact ⟨rfl, W.done⟩
theorem Nu : ∀ (n : Nat) (Y : Nat → Prop) (w0 : World) (v1 : Value) (p0 : Tr25) (r : List UInt8) (H : CU n p0 = some r) (h_v1 : Sl w0 (NX []) A6 v1 p0.un.2.2.2) (hG : Gk [] w0), Calls Tryd.prog 21 #[.agg #[.int .i64 p0.un.1, .int .i64 p0.un.2.1, .int .i64 p0.un.2.2.1, v1]] w0 fun e w' => e = .returned (.string (bs r)) ∧ Below w0.heap.size w0 w' := by
  intro n
  induction n with
  | zero => intro Y w0 v1 p0 r H; exact nomatch H
  | succ n ih => intro Y w0 v1 p0 r H h_v1 hG; exact MA (CU n) ih Y w0 v1 p0 r H h_v1 hG
theorem KR (Y : Nat → Prop) (w0 : World) (v1 : Value) (p0 : Tr25) (r : List UInt8) (H : HH p0 = some r) (h_v1 : Sl w0 (NX []) A6 v1 p0.un.2.2.2) (hG : Gk [] w0) :
    Calls Tryd.prog 21 #[.agg #[.int .i64 p0.un.1, .int .i64 p0.un.2.1, .int .i64 p0.un.2.2.1, v1]] w0 fun e w' => e = .returned (.string (bs r)) ∧ Below w0.heap.size w0 w' := by
  obtain ⟨n, H⟩ := Cy H
  exact Nu n Y w0 v1 p0 r H h_v1 hG
noncomputable def Db (p0 : Tr25) : Option (List UInt8) := (if p0.un.1 = 1 then some ([105, 100] : List UInt8) else (if p0.un.1 = 2 then some ([100, 114, 111, 112] : List UInt8) else (HH p0).bind fun x1 => (D0 ([119, 104, 101, 110, 32] : List UInt8) x1).bind fun x2 => some x2))
theorem Jm (Y : Nat → Prop) (w0 : World) (v1 : Value) (p0 : Tr25) (r : List UInt8) (H : Db p0 = some r) (h_v1 : Sl w0 (NX []) A6 v1 p0.un.2.2.2) (hG : Gk [] w0) :
    Calls Tryd.prog 41 #[.agg #[.int .i64 p0.un.1, .int .i64 p0.un.2.1, .int .i64 p0.un.2.2.1, v1]] w0 fun e w' => e = .returned (.string (bs r)) ∧ Below w0.heap.size w0 w' := by
 refine enter Tryd.func41 Aa Tryd.ntmps41 Aa fun a F => ?_
 have W := Stw.start Y w0
 obtain ⟨v2, h1, h_v1⟩ := h_v1.ex CF
 unfold Db at H
 refine Ah (Ab ?_)
 refine FH (cs := (IY p0 v1)) F W Aa Aa Aa fun b1 a w F W => ?_
 refine ls F W Aa (Ag (v := Value.string (bs ([] : List UInt8))) F Aa).q fun a w F W => ?_
 refine Ae (Ac (Ah (Ah (Ab ?_))))
 refine ls F W Aa (Al ET Aa Aa Aa T3 F Aa 0 Aa).q fun a w F W => ?_
 refine ls F W Aa (Aw (v := Value.int .i64 p0.un.1) 0 F Aa Aa T3 Aa).q fun a w F W => ?_
 refine Ae (Ac (Bb (Ah (Ab ?_))))
 refine ls F W Aa (Bw F Aa Aa).q fun a w F W => ?_
 refine ls F W Aa (Ag F Aa).q fun a w F W => ?_
 refine Ae (Ac ?_)
 refine AC F Aa (fun hb => ?_) fun hb => ?_
 ·
  have H := Ba (BM hb) H
  rw [hb] at F
  clear hb
  refine Ah (Ab ?_)
  refine ls F W Aa (Ag (v := Value.string (bs ([105, 100] : List UInt8))) F Aa).q fun a w F W => ?_
  refine Ae (Ac (Au (Be (AV ?_))))
  have H := AR H
  subst H
  refine AO (.inl Aa) F W Aa (AD F Aa) ?_
  exact ⟨rfl, W.done⟩
 have H := Bc (BL hb) H
 rw [hb] at F
 clear hb
 refine Ah (Ab ?_)
 refine ls F W Aa (Bw F Aa Aa).q fun a w F W => ?_
 refine ls F W Aa (Ag F Aa).q fun a w F W => ?_
 refine Ae (Ac ?_)
 refine AC F Aa (fun hb => ?_) fun hb => ?_
 ·
  have H := Ba (BM hb) H
  rw [hb] at F
  clear hb
  refine Ah (Ab ?_)
  refine ls F W Aa (Ag (v := Value.string (bs ([100, 114, 111, 112] : List UInt8))) F Aa).q fun a w F W => ?_
  refine Ae (Ac (Au (Be (AV ?_))))
  have H := AR H
  subst H
  refine AO (.inl Aa) F W Aa (AD F Aa) ?_
  exact ⟨rfl, W.done⟩
 have H := Bc (BL hb) H
 rw [hb] at F
 clear hb
 refine AM (BI (Ac (Ah (Ab ?_))))
 refine ls F W Aa (Aw (v := Value.agg #[.int .i64 p0.un.1, .int .i64 p0.un.2.1, .int .i64 p0.un.2.2.1, v1]) 0 F Aa Aa ER Aa).q fun a w F W => ?_
 obtain ⟨x1, h2, H⟩ := Aq H
 refine ls F W Aa (Bx (v := Value.string (bs x1)) F Un Aa (fun w W => KR any w (v1) p0 _ h2 (((Bd CF h1 (AG h_v1)) : EB _ _ _ _ _ _) w W).nx (hG.go0 W))) fun a w F W => ?_
 obtain ⟨x2, h3, H⟩ := Aq H
 refine ls F W Aa (Fm (l := ([119, 104, 101, 110, 32] : List UInt8)) (m := x1) F Aa Aa h3).q fun a w F W => ?_
 refine ls F W Aa (Ag F Aa).q fun a w F W => ?_
 refine Ae (Ac (Au ?_))
 have H := AR H
 subst H
 refine AO (.inl Aa) F W Aa (AD F Aa) ?_
 exact ⟨rfl, W.done⟩
theorem UM : Has Tryd.prog 41 := ⟨fun args w => Am Tryd.func41 rfl (by decide) args w⟩
def Ch (p0 : Int) : List UInt8 := (if p0 = 0 then ([115, 114, 99] : List UInt8) else (if p0 = 1 then ([100, 115, 116] : List UInt8) else (if p0 = 2 then ([107, 105, 110, 100] : List UInt8) else (if p0 = 3 then ([116, 97, 103] : List UInt8) else (if p0 = 4 then ([112, 111, 114, 116] : List UInt8) else ([63] : List UInt8))))))
theorem JC (Y : Nat → Prop) (w0 : World)  (p0 : Int) (r : List UInt8) (H : Ch p0 = r)  :
    Calls Tryd.prog 42 #[.int .i64 p0] w0 fun e w' => e = .returned (.string (bs r)) ∧ Below w0.heap.size w0 w' := by
 refine enter Tryd.func42 Aa Tryd.ntmps42 Aa fun a F => ?_
 have W := Stw.start Y w0
 unfold Ch at H
 refine Ah (Ab ?_)
 refine ls F W Aa (Ag (v := Value.string (bs ([] : List UInt8))) F Aa).q fun a w F W => ?_
 refine Ae (Ac (Ah (Ah (Ab ?_))))
 refine ls F W Aa (Ai F Aa).q fun a w F W => ?_
 refine Ae (Ac (Bb (Ah (Ab ?_))))
 refine ls F W Aa (Bw F Aa Aa).q fun a w F W => ?_
 refine ls F W Aa (Ag F Aa).q fun a w F W => ?_
 refine Ae (Ac ?_)
 refine AC F Aa (fun hb => ?_) fun hb => ?_
 ·
  have H := Ba (BM hb) H
  rw [hb] at F
  clear hb
  refine Ah (Ab ?_)
  refine ls F W Aa (Ag (v := Value.string (bs ([115, 114, 99] : List UInt8))) F Aa).q fun a w F W => ?_
  refine Ae (Ac (Au (Be (AV ?_))))
  subst H
  refine AO (.inl Aa) F W Aa (AD F Aa) ?_
  exact ⟨rfl, W.done⟩
 have H := Bc (BL hb) H
 rw [hb] at F
 clear hb
 refine Ah (Ab ?_)
 refine ls F W Aa (Bw F Aa Aa).q fun a w F W => ?_
 refine ls F W Aa (Ag F Aa).q fun a w F W => ?_
 refine Ae (Ac ?_)
 refine AC F Aa (fun hb => ?_) fun hb => ?_
 ·
  have H := Ba (BM hb) H
  rw [hb] at F
  clear hb
  refine Ah (Ab ?_)
  refine ls F W Aa (Ag (v := Value.string (bs ([100, 115, 116] : List UInt8))) F Aa).q fun a w F W => ?_
  refine Ae (Ac (Au (Be (AV ?_))))
  subst H
  refine AO (.inl Aa) F W Aa (AD F Aa) ?_
  exact ⟨rfl, W.done⟩
 have H := Bc (BL hb) H
 rw [hb] at F
 clear hb
 refine Ah (Ab ?_)
 refine ls F W Aa (Bw F Aa Aa).q fun a w F W => ?_
 refine ls F W Aa (Ag F Aa).q fun a w F W => ?_
 refine Ae (Ac ?_)
 refine AC F Aa (fun hb => ?_) fun hb => ?_
 ·
  have H := Ba (BM hb) H
  rw [hb] at F
  clear hb
  refine Ah (Ab ?_)
  refine ls F W Aa (Ag (v := Value.string (bs ([107, 105, 110, 100] : List UInt8))) F Aa).q fun a w F W => ?_
  refine Ae (Ac (Au (Be (AV ?_))))
  subst H
  refine AO (.inl Aa) F W Aa (AD F Aa) ?_
  exact ⟨rfl, W.done⟩
 have H := Bc (BL hb) H
 rw [hb] at F
 clear hb
 refine Ah (Ab ?_)
 refine ls F W Aa (Bw F Aa Aa).q fun a w F W => ?_
 refine ls F W Aa (Ag F Aa).q fun a w F W => ?_
 refine Ae (Ac ?_)
 refine AC F Aa (fun hb => ?_) fun hb => ?_
 ·
  have H := Ba (BM hb) H
  rw [hb] at F
  clear hb
  refine Ah (Ab ?_)
  refine ls F W Aa (Ag (v := Value.string (bs ([116, 97, 103] : List UInt8))) F Aa).q fun a w F W => ?_
  refine Ae (Ac (Au (Be (AV ?_))))
  subst H
  refine AO (.inl Aa) F W Aa (AD F Aa) ?_
  exact ⟨rfl, W.done⟩
 have H := Bc (BL hb) H
 rw [hb] at F
 clear hb
 refine Ah (Ab ?_)
 refine ls F W Aa (Bw F Aa Aa).q fun a w F W => ?_
 refine ls F W Aa (Ag F Aa).q fun a w F W => ?_
 refine Ae (Ac ?_)
 refine AC F Aa (fun hb => ?_) fun hb => ?_
 ·
  have H := Ba (BM hb) H
  rw [hb] at F
  clear hb
  refine Ah (Ab ?_)
  refine ls F W Aa (Ag (v := Value.string (bs ([112, 111, 114, 116] : List UInt8))) F Aa).q fun a w F W => ?_
  refine Ae (Ac (Au (Be (AV ?_))))
  subst H
  refine AO (.inl Aa) F W Aa (AD F Aa) ?_
  exact ⟨rfl, W.done⟩
 have H := Bc (BL hb) H
 rw [hb] at F
 clear hb
 refine AM (BI (Ac (Ah (Ab ?_))))
 refine ls F W Aa (Ag (v := Value.string (bs ([63] : List UInt8))) F Aa).q fun a w F W => ?_
 refine Ae (Ac (Au ?_))
 subst H
 refine AO (.inl Aa) F W Aa (AD F Aa) ?_
 exact ⟨rfl, W.done⟩
theorem UX : Has Tryd.prog 42 := ⟨fun args w => Am Tryd.func42 rfl (by decide) args w⟩
theorem JM : Ty Tryd.prog 26 false 1 := ⟨by kernel_rfl, by kernel_rfl⟩
theorem TJ : Has Tryd.prog 17 := ⟨fun args w => Am Tryd.func17 rfl (by decide) args w⟩
noncomputable def BG (fRec_policy_Text : Tr28 → Option (List UInt8)) (p0 : List Tr28) : (List (List UInt8) × Int) → Option ((List (List UInt8) × Int) ⊕ (List (List UInt8)))
  | (x2, x3) => (if x3 < (p0.length : Int) then (ix p0 x3).bind fun x4 => (fRec_policy_Text (Tr28.of (x4.un.1, Tr25.of (x4.un.2.1.un.1, x4.un.2.1.un.2.1, x4.un.2.1.un.2.2.1, x4.un.2.1.un.2.2.2), x4.un.2.2.1, x4.un.2.2.2.1, x4.un.2.2.2.2))).bind fun x5 => (if (decide (x4.un.1 = 3) || (decide (x4.un.1 = 4) || decide (x4.un.1 = 5))) = true then (D0 ([40] : List UInt8) x5).bind fun x7 => (D0 x7 ([41] : List UInt8)).bind fun x8 => some x8 else some x5).bind fun x6 => (D0 x2 ([x6] : List (List UInt8))).bind fun x9 => some (.inl (x9, CI (x3 + 1))) else some (.inr x2))
noncomputable def BT (fRec_policy_Text : Tr28 → Option (List UInt8)) (p0 : List Tr28) : Option (List (List UInt8)) := (Bo (BG fRec_policy_Text p0) ([], 0)).bind fun x1 => some x1
theorem E1 (fRec_policy_Text : Tr28 → Option (List UInt8)) (ih_policy_Text : ∀ (Y : Nat → Prop) (w0 : World) (v1 : Value) (v2 : Value) (p0 : Tr28) (r : List UInt8) (H : fRec_policy_Text p0 = some r) (h_v1 : Sl w0 (NX []) A6 v1 p0.un.2.1.un.2.2.2) (h_v2 : Sl w0 (NX []) BJ v2 p0.un.2.2.2.2) (hG : Gk [] w0), Calls Tryd.prog 17 #[.agg #[.int .i64 p0.un.1, .int .i64 p0.un.2.1.un.1, .int .i64 p0.un.2.1.un.2.1, .int .i64 p0.un.2.1.un.2.2.1, v1, .int .i64 p0.un.2.2.1, .int .i64 p0.un.2.2.2.1, v2]] w0 fun e w' => e = .returned (.string (bs r)) ∧ Below w0.heap.size w0 w') (Y : Nat → Prop) (w0 : World) (v1 : Value) (p0 : List Tr28) (r : List (List UInt8)) (H : BT fRec_policy_Text p0 = some r) (h_v1 : Sl w0 (NX []) BJ v1 p0) (hG : Gk [] w0) :
    Calls Tryd.prog 45 #[v1] w0 fun e w' => ∃ x : Value, e = .returned (x) ∧ Stw ⟨Y, [], w0⟩ [] [row (x) 9 Rp.str r] w' := by
 refine enter Tryd.func45 Aa Tryd.ntmps45 Aa fun a F => ?_
 have W := Stw.start Y w0
 obtain ⟨v2, h1, h_v1⟩ := h_v1.ex Eg
 unfold BT at H
 refine Ah (Ab ?_)
 refine ls F W Aa (Ag F Aa).q fun a w F W => ?_
 refine Ae (Ac (Ah (Ab ?_)))
 refine ls F W Aa (Ag F Aa).q fun a w F W => ?_
 refine Ae (Ac ?_)
 obtain ⟨o1, G1, K1⟩ := Aq H
 refine BK (fun a w => ∃ x1 : List (List UInt8), ∃ v3 : Value, some (x1) = some o1 ∧ Fr 37 [] [(2, .slice none 0 0), (3, v3)] a ∧ Stw ⟨Y, [], w0⟩ [] [row v3 9 Rp.str x1] w) ?_ ?_
 ·
  have H := G1
  clear G1 K1
  refine Ah (Ab ?_)
  refine ls F W Aa (Ai F Aa).q fun a w F W => ?_
  refine ls F W Aa (DC (r := BJ) (l := p0) IX Aa F Aa (Bd Eg h1 (AG h_v1))).q fun a w F W => ?_
  refine ls F W Aa (Ai F Aa).q fun a w F W => ?_
  refine Ae (Ac (Bb ?_))
  have W := W.nilRow 9 Rp.str
  refine Dl H (fun s a w => ∃ v4 : Value, Fr 37 [] [(2, .slice none 0 0), (3, v4), (7, v1), (8, .int .i64 (p0.length : Int)), (9, .int .i64 s.2)] a ∧ Stw ⟨Y, [], w0⟩ [] [row v4 9 Rp.str s.1] w) ⟨(Value.slice none 0 0), F.re ⟨rfl, Aa, Aa, Aa, Aa, trivial⟩, W⟩ fun s o a w H L2 hR => ?_
  obtain ⟨x2, x3⟩ := s
  obtain ⟨v4, F, W⟩ := hR
  have F : Fr 37 [] [(2, .slice none 0 0), (3, v4), (7, v1), (8, .int .i64 (p0.length : Int)), (9, .int .i64 x3)] a := F
  have W : Stw ⟨Y, [], w0⟩ [] [row v4 9 Rp.str x2] w := W
  rw [BG] at H
  refine Ah (Ab ?_)
  refine ls F W Aa (Fx F Aa Aa).q fun a w F W => ?_
  refine Ae (Ac (Ah ?_))
  refine AC F Aa (fun hb => ?_) fun hb => ?_
  ·
   have H := Ba (BM hb) H
   rw [hb] at F
   clear hb
   refine AM (Ac (Ah (Bb (Ah (Ab ?_)))))
   obtain ⟨x4, h2, H⟩ := Aq H
   obtain ⟨v5, h3, h4⟩ := Gy h1 h2
   have h5 : Ic v5 = [.int .i64 x4.un.1, .int .i64 x4.un.2.1.un.1, .int .i64 x4.un.2.1.un.2.1, .int .i64 x4.un.2.1.un.2.2.1, (v5.2.1.2.2.2.1), .int .i64 x4.un.2.2.1, .int .i64 x4.un.2.2.2.1, (v5.2.2.2.2.1)] := congrArg (fun q : Tr28 => ([.int .i64 q.un.1, .int .i64 q.un.2.1.un.1, .int .i64 q.un.2.1.un.2.1, .int .i64 q.un.2.1.un.2.2.1, (v5.2.1.2.2.2.1), .int .i64 q.un.2.2.1, .int .i64 q.un.2.2.2.1, (v5.2.2.2.2.1)] : List Value)) h4
   refine ls F W Aa (DS (r := Mr) OM F Aa Aa (AG h_v1) h3).q fun a w F W => ?_
   refine ls F W Aa (CG (y := Value.agg #[.int .i64 x4.un.1, .int .i64 x4.un.2.1.un.1, .int .i64 x4.un.2.1.un.2.1, .int .i64 x4.un.2.1.un.2.2.1, (v5.2.1.2.2.2.1), .int .i64 x4.un.2.2.1, .int .i64 x4.un.2.2.2.1, (v5.2.2.2.2.1)]) (j := 0) (i := x3) (enc := Ic) F Aa Aa (AG h_v1) h3 NE D1 (by rw [h5]; rfl)).q fun a w F W => ?_
   refine BA (cs := (BU)) F W Aa JT Aa fun b1 a w F W => ?_
   refine AP (vs := [.int .i64 x4.un.1, .int .i64 x4.un.2.1.un.1, .int .i64 x4.un.2.1.un.2.1, .int .i64 x4.un.2.1.un.2.2.1, (v5.2.1.2.2.2.1), .int .i64 x4.un.2.2.1, .int .i64 x4.un.2.2.2.1, (v5.2.2.2.2.1)]) (M' := [(b1, [.int .i64 x4.un.1, .int .i64 x4.un.2.1.un.1, .int .i64 x4.un.2.1.un.2.1, .int .i64 x4.un.2.1.un.2.2.1, (v5.2.1.2.2.2.1), .int .i64 x4.un.2.2.1, .int .i64 x4.un.2.2.2.1, (v5.2.2.2.2.1)])]) 0 F W Aa Aa Aa D1 Aa Aa Aa (Af Aa (Af Aa (Af Aa (Af Aa (Af ((Cz (AG h_v1) h3 (AE.snd (AE.fst (AE.snd (AE.snd (AE.snd AE.here))))) (congrArg (fun q : Tr28 => q.un.2.1.un.2.2.2) h4)) _ W).one (Af Aa (Af Aa (Af ((Cz (AG h_v1) h3 (AE.snd (AE.snd (AE.snd (AE.snd AE.here)))) (congrArg (fun q : Tr28 => q.un.2.2.2.2) h4)) _ W).one BC)))))))) Aa fun w W => ?_
   refine Ae (Ac (Ah (Ab ?_)))
   refine ls F W Aa (Aw (v := Value.agg #[.int .i64 x4.un.1, .int .i64 x4.un.2.1.un.1, .int .i64 x4.un.2.1.un.2.1, .int .i64 x4.un.2.1.un.2.2.1, (v5.2.1.2.2.2.1), .int .i64 x4.un.2.2.1, .int .i64 x4.un.2.2.2.1, (v5.2.2.2.2.1)]) 0 F Aa Aa D1 Aa).q fun a w F W => ?_
   obtain ⟨x5, h6, H⟩ := Aq H
   refine ls F W Aa (Bx (v := Value.string (bs x5)) F TJ Aa (fun w W => ih_policy_Text any w ((v5.2.1.2.2.2.1)) ((v5.2.2.2.2.1)) (Tr28.of (x4.un.1, Tr25.of (x4.un.2.1.un.1, x4.un.2.1.un.2.1, x4.un.2.1.un.2.2.1, x4.un.2.1.un.2.2.2), x4.un.2.2.1, x4.un.2.2.2.1, x4.un.2.2.2.2)) _ h6 (((Cz (AG h_v1) h3 (AE.snd (AE.fst (AE.snd (AE.snd (AE.snd AE.here))))) (congrArg (fun q : Tr28 => q.un.2.1.un.2.2.2) h4)) : EB _ _ _ _ _ _) w W).nx (((Cz (AG h_v1) h3 (AE.snd (AE.snd (AE.snd (AE.snd AE.here)))) (congrArg (fun q : Tr28 => q.un.2.2.2.2) h4)) : EB _ _ _ _ _ _) w W).nx (hG.go0 W))) fun a w F W => ?_
   refine ls F W Aa (Ag F Aa).q fun a w F W => ?_
   refine Ae (Ac ?_)
   obtain ⟨o3, G3, K3⟩ := Aq H
   refine BK (fun a w => ∃ x6 : List UInt8, some (x6) = some o3 ∧ Fr 37 [] [(2, .slice none 0 0), (3, v4), (6, .string (bs x6)), (7, v1), (8, .int .i64 (p0.length : Int)), (9, .int .i64 x3)] a ∧ Stw ⟨Y, [], w0⟩ [(b1, [.int .i64 x4.un.1, .int .i64 x4.un.2.1.un.1, .int .i64 x4.un.2.1.un.2.1, .int .i64 x4.un.2.1.un.2.2.1, (v5.2.1.2.2.2.1), .int .i64 x4.un.2.2.1, .int .i64 x4.un.2.2.2.1, (v5.2.2.2.2.1)])] [row v4 9 Rp.str x2] w) ?_ ?_
   ·
    have H := G3
    clear G3 K3
    refine BK (fun a w => Fr 37 [] [(2, .slice none 0 0), (3, v4), (6, .string (bs x5)), (7, v1), (8, .int .i64 (p0.length : Int)), (9, .int .i64 x3), (27, .bool (decide (x4.un.1 = 3) || (decide (x4.un.1 = 4) || decide (x4.un.1 = 5))))] a ∧ Stw ⟨Y, [], w0⟩ [(b1, [.int .i64 x4.un.1, .int .i64 x4.un.2.1.un.1, .int .i64 x4.un.2.1.un.2.1, .int .i64 x4.un.2.1.un.2.2.1, (v5.2.1.2.2.2.1), .int .i64 x4.un.2.2.1, .int .i64 x4.un.2.2.2.1, (v5.2.2.2.2.1)])] [row v4 9 Rp.str x2] w) ?_ ?_
    ·
     refine Ab ?_
     refine ls F W Aa (Al Dm Aa Aa Aa T3 F Aa 0 Aa).q fun a w F W => ?_
     refine ls F W Aa (Aw (v := Value.int .i64 x4.un.1) 0 F Aa Aa T3 Aa).q fun a w F W => ?_
     refine ls F W Aa (Bw F Aa Aa).q fun a w F W => ?_
     refine ls F W Aa (Ai F Aa).q fun a w F W => ?_
     rcases Bool.eq_false_or_eq_true (decide (x4.un.1 = 3)) with hb0 | hb0
     ·
      rw [hb0] at F
      iterate 3 refine EX F Aa Aa Aa Aa Aa Aa Aa fun a F => ?_
      refine ls F W Aa (A2 F Aa Aa Aa).q fun a w F W => ?_
      refine ls F W Aa (Ai F Aa).q fun a w F W => ?_
      iterate 3 refine EX F Aa Aa Aa Aa Aa Aa Aa fun a F => ?_
      refine ls F W Aa (A2 F Aa Aa Aa).q fun a w F W => ?_
      refine Ae (Ac ?_)
      exact ⟨F.re ⟨rfl, Aa, Aa, Aa, Aa, Aa, (JQ (by try rw [hb0]; all_goals simp only [JV])), trivial⟩, W⟩
     rw [hb0] at F
     refine Bn F W (Ak F Aa Aa Aa Aa) Aa (Ay Aa) (Al Dm Aa Aa Aa T3 F Aa 0 Aa).q fun a w F W => ?_
     refine Bn F W (Ak F Aa Aa Aa Aa) Aa (Ay Aa) (Aw (v := Value.int .i64 x4.un.1) 0 F Aa Aa T3 Aa).q fun a w F W => ?_
     refine Bn F W (Ak F Aa Aa Aa Aa) Aa (Ay Aa) (Bw F Aa Aa).q fun a w F W => ?_
     refine ls F W Aa (Ax F Aa Aa Aa).q fun a w F W => ?_
     refine ls F W Aa (Ai F Aa).q fun a w F W => ?_
     rcases Bool.eq_false_or_eq_true (decide (x4.un.1 = 4)) with hb1 | hb1
     ·
      rw [hb1] at F
      iterate 3 refine EX F Aa Aa Aa Aa Aa Aa Aa fun a F => ?_
      refine ls F W Aa (A2 F Aa Aa Aa).q fun a w F W => ?_
      refine Ae (Ac ?_)
      exact ⟨F.re ⟨rfl, Aa, Aa, Aa, Aa, Aa, (JQ (by try rw [hb0]; try rw [hb1]; all_goals simp only [JV])), trivial⟩, W⟩
     rw [hb1] at F
     refine Bn F W (Ak F Aa Aa Aa Aa) Aa (Ay Aa) (Al Dm Aa Aa Aa T3 F Aa 0 Aa).q fun a w F W => ?_
     refine Bn F W (Ak F Aa Aa Aa Aa) Aa (Ay Aa) (Aw (v := Value.int .i64 x4.un.1) 0 F Aa Aa T3 Aa).q fun a w F W => ?_
     refine Bn F W (Ak F Aa Aa Aa Aa) Aa (Ay Aa) (Bw F Aa Aa).q fun a w F W => ?_
     refine ls F W Aa (Ax F Aa Aa Aa).q fun a w F W => ?_
     refine Ae (Ac ?_)
     exact ⟨F.re ⟨rfl, Aa, Aa, Aa, Aa, Aa, (JQ (by try rw [hb0]; try rw [hb1]; all_goals simp only [JV])), trivial⟩, W⟩
    rintro a w ⟨F, W⟩
    refine AC F Aa (fun hb => ?_) fun hb => ?_
    ·
     have H := Ba hb H
     rw [hb] at F
     clear hb
     refine Ab ?_
     refine ls F W Aa (Ai F Aa).q fun a w F W => ?_
     obtain ⟨x7, h7, H⟩ := Aq H
     refine ls F W Aa (Fm (l := ([40] : List UInt8)) (m := x5) F Aa Aa h7).q fun a w F W => ?_
     obtain ⟨x8, h8, H⟩ := Aq H
     refine ls F W Aa (Fm (l := x7) (m := ([41] : List UInt8)) F Aa Aa h8).q fun a w F W => ?_
     refine ls F W Aa (Ag F Aa).q fun a w F W => ?_
     refine Ae (Ac ?_)
     exact ⟨_, H, F.re ⟨rfl, Aa, Aa, Aa, Aa, Aa, trivial⟩, W⟩
    have H := Bc (by rw [hb]; decide) H
    rw [hb] at F
    clear hb
    refine AM (Ac ?_)
    exact ⟨_, H, F.re ⟨rfl, Aa, Aa, Aa, Aa, Aa, trivial⟩, W⟩
   rintro a w ⟨x6, hj, F, W⟩
   have hj := AR hj
   subst hj
   have H := K3
   clear G3 K3
   refine Ab ?_
   iterate 2 refine ls F W Aa (Ai F Aa).q fun a w F W => ?_
   refine Hi (z := Value.string (bs ([] : List UInt8))) (cs := [.string (bs x6)]) Rp.str ([x6] : List (List UInt8)) F W Aa TU Z9 Aa Aa Aa Aa Aa Aa (Fl.str.repL _ _ ([x6] : List (List UInt8))) fun v6 a w F W => ?_
   obtain ⟨x9, h9, H⟩ := Aq H
   refine Gd (r := Rp.str) (i := 1) F W Aa TU Aa Aa Aa Aa (Hh W 0 Aa) h9 Aa fun v7 a w F W => ?_
   have W : Stw ⟨Y, [], w0⟩ [(b1, [.int .i64 x4.un.1, .int .i64 x4.un.2.1.un.1, .int .i64 x4.un.2.1.un.2.1, .int .i64 x4.un.2.1.un.2.2.1, (v5.2.1.2.2.2.1), .int .i64 x4.un.2.2.1, .int .i64 x4.un.2.2.2.1, (v5.2.2.2.2.1)])] [row v7 9 Rp.str x9, row v6 9 Rp.str ([x6] : List (List UInt8))] w := W
   refine ls F W Aa (Ag F Aa).q fun a w F W => ?_
   refine Ae (BI (Ac (Ab ?_)))
   refine ls F W Aa (Fe F Aa Aa Aa).q fun a w F W => ?_
   refine ls F W Aa (Ai F Aa).q fun a w F W => ?_
   refine Ae (Ac ?_)
   have W := W.sub (M' := []) (Z' := [row v7 9 Rp.str x9]) (List.nil_sublist _) (List.Sublist.cons_cons _ (List.nil_sublist _))
   exact ⟨_, H, (v7), F.re ⟨rfl, Aa, Aa, Aa, Aa, trivial⟩, W⟩
  have H := Bc (BL hb) H
  rw [hb] at F
  clear hb
  refine Do ?_
  iterate 2 refine Er ?_
  refine Dk (Ac ?_)
  have H := L2 _ H
  exact ⟨_, (v4), H, F.re ⟨rfl, Aa, trivial⟩, W⟩
 rintro a w ⟨x1, v3, hj, F, W⟩
 have hj := AR hj
 subst hj
 have H := K1
 clear G1 K1
 refine Ah (Ab ?_)
 refine ls F W Aa (Ai F Aa).q fun a w F W => ?_
 refine ls F W Aa (Ag F Aa).q fun a w F W => ?_
 refine Ae (Ac (Au ?_))
 have H := AR H
 subst H
 refine AO (.inl Aa) F W Aa (AD F Aa) ?_
 exact ⟨(v3), Aa, W⟩
theorem TZ : Has Tryd.prog 45 := ⟨fun args w => Am Tryd.func45 rfl (by decide) args w⟩
abbrev Fa (a0 : Tr28) (a1 : Value) (a2 : Value) : List Value := [.int .i64 a0.un.1, .int .i64 a0.un.2.1.un.1, .int .i64 a0.un.2.1.un.2.1, .int .i64 a0.un.2.1.un.2.2.1, a1, .int .i64 a0.un.2.2.1, .int .i64 a0.un.2.2.2.1, a2]
abbrev E8 (a0 : Nat) (a1 : Tr28) (a2 : Value) (a3 : Value) : List (Nat × List Value) := [(a0, [.int .i64 a1.un.1, .int .i64 a1.un.2.1.un.1, .int .i64 a1.un.2.1.un.2.1, .int .i64 a1.un.2.1.un.2.2.1, a2, .int .i64 a1.un.2.2.1, .int .i64 a1.un.2.2.2.1, a3])]
noncomputable def CA (fRec : Tr28 → Option (List UInt8)) (p0 : Tr28) : Option (List UInt8) := (if p0.un.1 = 1 then (Db (Tr25.of (p0.un.2.1.un.1, p0.un.2.1.un.2.1, p0.un.2.1.un.2.2.1, p0.un.2.1.un.2.2.2))).bind fun x1 => some x1 else (if p0.un.1 = 2 then (D0 (Ch p0.un.2.2.1) ([32, 58, 61, 32] : List UInt8)).bind fun x2 => (Ms p0.un.2.2.2.1).bind fun x3 => (D0 x2 x3).bind fun x4 => some x4 else (if p0.un.1 = 3 then ((BT fRec) p0.un.2.2.2.2).bind fun x5 => (HT x5 ([59, 32] : List UInt8)).bind fun x6 => some x6 else (if p0.un.1 = 4 then ((BT fRec) p0.un.2.2.2.2).bind fun x7 => (HT x7 ([32, 124, 32] : List UInt8)).bind fun x8 => some x8 else (if p0.un.1 = 5 then (HH (Tr25.of (p0.un.2.1.un.1, p0.un.2.1.un.2.1, p0.un.2.1.un.2.2.1, p0.un.2.1.un.2.2.2))).bind fun x9 => (D0 ([105, 102, 32] : List UInt8) x9).bind fun x10 => (D0 x10 ([32, 116, 104, 101, 110, 32] : List UInt8)).bind fun x11 => ((BT fRec) p0.un.2.2.2.2).bind fun x12 => (HT x12 ([32, 101, 108, 115, 101, 32] : List UInt8)).bind fun x13 => (D0 x11 x13).bind fun x14 => some x14 else some ([63] : List UInt8))))))
noncomputable def Cr : Nat → Tr28 → Option (List UInt8)
  | 0 => fun _ => none
  | n + 1 => CA (Cr n)
noncomputable def Fv (p0 : Tr28) : Option (List UInt8) := Ge fun n => Cr n p0
theorem Ld (fRec : Tr28 → Option (List UInt8)) (ih : ∀ (Y : Nat → Prop) (w0 : World) (v1 : Value) (v2 : Value) (p0 : Tr28) (r : List UInt8) (H : fRec p0 = some r) (h_v1 : Sl w0 (NX []) A6 v1 p0.un.2.1.un.2.2.2) (h_v2 : Sl w0 (NX []) BJ v2 p0.un.2.2.2.2) (hG : Gk [] w0), Calls Tryd.prog 17 #[.agg #[.int .i64 p0.un.1, .int .i64 p0.un.2.1.un.1, .int .i64 p0.un.2.1.un.2.1, .int .i64 p0.un.2.1.un.2.2.1, v1, .int .i64 p0.un.2.2.1, .int .i64 p0.un.2.2.2.1, v2]] w0 fun e w' => e = .returned (.string (bs r)) ∧ Below w0.heap.size w0 w') (Y : Nat → Prop) (w0 : World) (v1 : Value) (v2 : Value) (p0 : Tr28) (r : List UInt8) (H : CA fRec p0 = some r) (h_v1 : Sl w0 (NX []) A6 v1 p0.un.2.1.un.2.2.2) (h_v2 : Sl w0 (NX []) BJ v2 p0.un.2.2.2.2) (hG : Gk [] w0) :
    Calls Tryd.prog 17 #[.agg #[.int .i64 p0.un.1, .int .i64 p0.un.2.1.un.1, .int .i64 p0.un.2.1.un.2.1, .int .i64 p0.un.2.1.un.2.2.1, v1, .int .i64 p0.un.2.2.1, .int .i64 p0.un.2.2.2.1, v2]] w0 fun e w' => e = .returned (.string (bs r)) ∧ Below w0.heap.size w0 w' := by
 refine enter Tryd.func17 Aa Tryd.ntmps17 Aa fun a F => ?_
 have W := Stw.start Y w0
 obtain ⟨v3, h1, h_v1⟩ := h_v1.ex CF
 obtain ⟨v4, h2, h_v2⟩ := h_v2.ex Eg
 unfold CA at H
 refine Ah (Ab ?_)
 refine FH (cs := (Fa p0 v1 v2)) F W Aa Aa Aa fun b1 a w F W => ?_
 refine ls F W Aa (Ag (v := Value.string (bs ([] : List UInt8))) F Aa).q fun a w F W => ?_
 refine Ae (Ac (Ah (Ah (Ab ?_))))
 refine ls F W Aa (Al Dm Aa Aa Aa T3 F Aa 0 Aa).q fun a w F W => ?_
 refine ls F W Aa (Aw (v := Value.int .i64 p0.un.1) 0 F Aa Aa T3 Aa).q fun a w F W => ?_
 refine Ae (Ac (Bb (Ah (Ab ?_))))
 refine ls F W Aa (Bw F Aa Aa).q fun a w F W => ?_
 refine ls F W Aa (Ag F Aa).q fun a w F W => ?_
 refine Ae (Ac ?_)
 refine AC F Aa (fun hb => ?_) fun hb => ?_
 ·
  have H := Ba (BM hb) H
  rw [hb] at F
  clear hb
  refine Ah (Ab ?_)
  refine ls F W Aa (Al Dm Aa Aa Aa ER F Aa 1 Aa).q fun a w F W => ?_
  refine ls F W Aa (Aw (v := Value.agg #[.int .i64 p0.un.2.1.un.1, .int .i64 p0.un.2.1.un.2.1, .int .i64 p0.un.2.1.un.2.2.1, v1]) 0 F Aa Aa ER Aa).q fun a w F W => ?_
  obtain ⟨x1, h3, H⟩ := Aq H
  refine ls F W Aa (Bx (v := Value.string (bs x1)) F UM Aa (fun w W => Jm any w (v1) (Tr25.of (p0.un.2.1.un.1, p0.un.2.1.un.2.1, p0.un.2.1.un.2.2.1, p0.un.2.1.un.2.2.2)) _ h3 (((Bd CF h1 (AG h_v1)) : EB _ _ _ _ _ _) w W).nx (hG.go0 W))) fun a w F W => ?_
  refine ls F W Aa (Ag F Aa).q fun a w F W => ?_
  refine Ae (Ac (Au (Be (AV ?_))))
  have H := AR H
  subst H
  refine AO (.inl Aa) F W Aa (AD F Aa) ?_
  exact ⟨rfl, W.done⟩
 have H := Bc (BL hb) H
 rw [hb] at F
 clear hb
 refine Ah (Ab ?_)
 refine ls F W Aa (Bw F Aa Aa).q fun a w F W => ?_
 refine ls F W Aa (Ag F Aa).q fun a w F W => ?_
 refine Ae (Ac ?_)
 refine AC F Aa (fun hb => ?_) fun hb => ?_
 ·
  have H := Ba (BM hb) H
  rw [hb] at F
  clear hb
  refine Ah ?_
  refine HR W MO (by kernel_rfl) ?_
  refine qs F Aa (Al Dm Aa Aa Aa T3 F Aa 5 Aa).q fun a F => ?_
  refine qs F Aa (Aw (v := Value.int .i64 p0.un.2.2.1) 0 F Aa Aa T3 Aa).q fun a F => ?_
  refine qs F Aa (Bx (v := Value.string (bs (Ch p0.un.2.2.1))) F UX Aa (fun w W => JC any w p0.un.2.2.1 _ Aa)) fun a F => ?_
  obtain ⟨x2, h4, H⟩ := Aq H
  refine qs F Aa (Fm (l := (Ch p0.un.2.2.1)) (m := ([32, 58, 61, 32] : List UInt8)) F Aa Aa h4).q fun a F => ?_
  refine qs F Aa (Al Dm Aa Aa Aa T3 F Aa 6 Aa).q fun a F => ?_
  refine qs F Aa (Aw (v := Value.int .i64 p0.un.2.2.2.1) 0 F Aa Aa T3 Aa).q fun a F => ?_
  obtain ⟨x3, h5, H⟩ := Aq H
  refine qs F Aa (Bx (v := Value.string (bs x3)) F Us Aa (fun w W => Qn any w p0.un.2.2.2.1 _ h5 (hG.go0 W))) fun a F => ?_
  obtain ⟨x4, h6, H⟩ := Aq H
  refine qs F Aa (Fm (l := x2) (m := x3) F Aa Aa h6).q fun a F => ?_
  refine qs F Aa (Ag F Aa).q fun a F => ?_
  refine CY fun w W => ?_
  refine Ac (Au (Be (AV ?_)))
  have H := AR H
  subst H
  refine AO (.inl Aa) F W Aa (AD F Aa) ?_
  exact ⟨rfl, W.done⟩
 have H := Bc (BL hb) H
 rw [hb] at F
 clear hb
 refine Ah (Ab ?_)
 refine ls F W Aa (Bw F Aa Aa).q fun a w F W => ?_
 refine ls F W Aa (Ag F Aa).q fun a w F W => ?_
 refine Ae (Ac ?_)
 refine AC F Aa (fun hb => ?_) fun hb => ?_
 ·
  have H := Ba (BM hb) H
  rw [hb] at F
  clear hb
  refine Ah (Ab ?_)
  refine ls F W Aa (Al Dm Aa Aa Aa JM F Aa 7 Aa).q fun a w F W => ?_
  refine ls F W Aa (Aw (v := v2) 0 F Aa Aa JM Aa).q fun a w F W => ?_
  obtain ⟨x5, h7, H⟩ := Aq H
  refine Bp (Ml := []) (Zl := []) (M := (E8 b1 p0 v1 v2)) (Z := []) (β := Value) (rv := fun x => x) (MM := fun x => []) (ZZ := fun x => [row x 9 Rp.str x5]) F W TZ Aa Aa (fun hL => (E1 fRec ih) _ w (v2) p0.un.2.2.2.2 _ h7 ((Bd Eg h2 (AG h_v2)) w W).nx (hG.go0 W)) fun x a w F W => ?_
  obtain ⟨v5, rfl⟩ : ∃ y, y = x := ⟨x, rfl⟩
  have W : Stw ⟨Y, [], w0⟩ (E8 b1 p0 v1 v2) [row v5 9 Rp.str x5] w := W
  obtain ⟨x6, h8, H⟩ := Aq H
  refine ls F W Aa (Bx (v := Value.string (bs x6)) F TH Aa (fun w W => NH any w (v5) x5 ([59, 32] : List UInt8) _ h8 (((CB 0 Aa) : EB _ _ _ _ _ _) w W).nx)) fun a w F W => ?_
  refine ls F W Aa (Ag F Aa).q fun a w F W => ?_
  refine Ae (Ac (Au (Be (AV ?_))))
  have H := AR H
  subst H
  refine AO (.inl Aa) F W Aa (AD F Aa) ?_
  exact ⟨rfl, W.done⟩
 have H := Bc (BL hb) H
 rw [hb] at F
 clear hb
 refine Ah (Ab ?_)
 refine ls F W Aa (Bw F Aa Aa).q fun a w F W => ?_
 refine ls F W Aa (Ag F Aa).q fun a w F W => ?_
 refine Ae (Ac ?_)
 refine AC F Aa (fun hb => ?_) fun hb => ?_
 ·
  have H := Ba (BM hb) H
  rw [hb] at F
  clear hb
  refine Ah (Ab ?_)
  refine ls F W Aa (Al Dm Aa Aa Aa JM F Aa 7 Aa).q fun a w F W => ?_
  refine ls F W Aa (Aw (v := v2) 0 F Aa Aa JM Aa).q fun a w F W => ?_
  obtain ⟨x7, h9, H⟩ := Aq H
  refine Bp (Ml := []) (Zl := []) (M := (E8 b1 p0 v1 v2)) (Z := []) (β := Value) (rv := fun x => x) (MM := fun x => []) (ZZ := fun x => [row x 9 Rp.str x7]) F W TZ Aa Aa (fun hL => (E1 fRec ih) _ w (v2) p0.un.2.2.2.2 _ h9 ((Bd Eg h2 (AG h_v2)) w W).nx (hG.go0 W)) fun x a w F W => ?_
  obtain ⟨v6, rfl⟩ : ∃ y, y = x := ⟨x, rfl⟩
  have W : Stw ⟨Y, [], w0⟩ (E8 b1 p0 v1 v2) [row v6 9 Rp.str x7] w := W
  obtain ⟨x8, h10, H⟩ := Aq H
  refine ls F W Aa (Bx (v := Value.string (bs x8)) F TH Aa (fun w W => NH any w (v6) x7 ([32, 124, 32] : List UInt8) _ h10 (((CB 0 Aa) : EB _ _ _ _ _ _) w W).nx)) fun a w F W => ?_
  refine ls F W Aa (Ag F Aa).q fun a w F W => ?_
  refine Ae (Ac (Au (Be (AV ?_))))
  have H := AR H
  subst H
  refine AO (.inl Aa) F W Aa (AD F Aa) ?_
  exact ⟨rfl, W.done⟩
 have H := Bc (BL hb) H
 rw [hb] at F
 clear hb
 refine Ah (Ab ?_)
 refine ls F W Aa (Bw F Aa Aa).q fun a w F W => ?_
 refine ls F W Aa (Ag F Aa).q fun a w F W => ?_
 refine Ae (Ac ?_)
 refine AC F Aa (fun hb => ?_) fun hb => ?_
 ·
  have H := Ba (BM hb) H
  rw [hb] at F
  clear hb
  refine Ah ?_
  refine Q3 [(true, 0), (true, 1), (true, 5), (true, 6), (false, 2), (true, 3), (true, 4), (false, 7), (false, 8), (true, 9), (false, 10)] (CN ⟨Y, [], w0⟩ [(some 2, b1, [.int .i64 p0.un.1, .int .i64 p0.un.2.1.un.1, .int .i64 p0.un.2.1.un.2.1, .int .i64 p0.un.2.1.un.2.2.1, v1, .int .i64 p0.un.2.2.1, .int .i64 p0.un.2.2.2.1, v2]), (some 7, b1, [.int .i64 p0.un.1, .int .i64 p0.un.2.1.un.1, .int .i64 p0.un.2.1.un.2.1, .int .i64 p0.un.2.1.un.2.2.1, v1, .int .i64 p0.un.2.2.1, .int .i64 p0.un.2.2.2.1, v2])] []) (fun ch a d v w h => by cases d <;> exact h) MO (by kernel_rfl) W (fun w W => ⟨_, _, W, (E7 (fun _ => (.head _)) (E7 (fun _ => (.head _)) F5)), F5⟩) fun w W => ?_
  refine O4 (R := []) F Aa Aa (yC fun M Z hN hZ => Al Dm Aa Aa Aa ER F Aa 1 Aa) Aa Aa fun a F => ?_
  refine O4 (R := [2]) F Aa Aa (yC fun M Z hN hZ => OB (cs := (Fa p0 v1 v2)) (v := Value.agg #[.int .i64 p0.un.2.1.un.1, .int .i64 p0.un.2.1.un.2.1, .int .i64 p0.un.2.1.un.2.2.1, v1]) F Aa (hN ((some 2), b1, (Fa p0 v1 v2)) (.head _) Aa) ER Aa) (by kernel_rfl) Aa fun a F => ?_
  refine O4 (R := []) F Aa Aa (yC fun M Z hN hZ => Al Dm Aa Aa Aa JM F Aa 7 Aa) Aa Aa fun a F => ?_
  refine O4 (R := [7]) F Aa Aa (yC fun M Z hN hZ => OB (cs := (Fa p0 v1 v2)) (v := v2) F Aa (hN ((some 7), b1, (Fa p0 v1 v2)) (.tail _ (.head _)) Aa) JM Aa) (by kernel_rfl) Aa fun a F => ?_
  refine RK Aa ?_
  obtain ⟨x9, h11, H⟩ := Aq H
  refine ls F W Aa (Bx (v := Value.string (bs x9)) F Un Aa (fun w W => KR any w (v1) (Tr25.of (p0.un.2.1.un.1, p0.un.2.1.un.2.1, p0.un.2.1.un.2.2.1, p0.un.2.1.un.2.2.2)) _ h11 (((Bd CF h1 (AG h_v1)) : EB _ _ _ _ _ _) w W).nx (hG.go0 W))) fun a w F W => ?_
  refine Lu (N2 := []) (NZ2 := []) (N3 := [(some 2, b1, [.int .i64 p0.un.1, .int .i64 p0.un.2.1.un.1, .int .i64 p0.un.2.1.un.2.1, .int .i64 p0.un.2.1.un.2.2.1, v1, .int .i64 p0.un.2.2.1, .int .i64 p0.un.2.2.2.1, v2]), (some 7, b1, [.int .i64 p0.un.1, .int .i64 p0.un.2.1.un.1, .int .i64 p0.un.2.1.un.2.1, .int .i64 p0.un.2.1.un.2.2.1, v1, .int .i64 p0.un.2.2.1, .int .i64 p0.un.2.2.2.1, v2])]) (NZ3 := []) W Aa Aa (E7 (fun h => GO (by kernel_rfl) h) (E7 (fun _ => (.head _)) F5)) F5 ?_
  obtain ⟨x10, h12, H⟩ := Aq H
  refine O4 (R := []) F Aa Aa (yC fun M Z hN hZ => Fm (l := ([105, 102, 32] : List UInt8)) (m := x9) F Aa Aa h12) Aa Aa fun a F => ?_
  obtain ⟨x11, h13, H⟩ := Aq H
  refine O4 (R := []) F Aa Aa (yC fun M Z hN hZ => Fm (l := x10) (m := ([32, 116, 104, 101, 110, 32] : List UInt8)) F Aa Aa h13) Aa Aa fun a F => ?_
  refine RK Aa ?_
  obtain ⟨x12, h14, H⟩ := Aq H
  refine Bp (Ml := []) (Zl := []) (M := (E8 b1 p0 v1 v2)) (Z := []) (β := Value) (rv := fun x => x) (MM := fun x => []) (ZZ := fun x => [row x 9 Rp.str x12]) F W TZ Aa Aa (fun hL => (E1 fRec ih) _ w (v2) p0.un.2.2.2.2 _ h14 ((Bd Eg h2 (AG h_v2)) w W).nx (hG.go0 W)) fun x a w F W => ?_
  obtain ⟨v7, rfl⟩ : ∃ y, y = x := ⟨x, rfl⟩
  have W : Stw ⟨Y, [], w0⟩ (E8 b1 p0 v1 v2) [row v7 9 Rp.str x12] w := W
  refine Lu (N2 := []) (NZ2 := []) (N3 := [(some 2, b1, [.int .i64 p0.un.1, .int .i64 p0.un.2.1.un.1, .int .i64 p0.un.2.1.un.2.1, .int .i64 p0.un.2.1.un.2.2.1, v1, .int .i64 p0.un.2.2.1, .int .i64 p0.un.2.2.2.1, v2]), (some 7, b1, [.int .i64 p0.un.1, .int .i64 p0.un.2.1.un.1, .int .i64 p0.un.2.1.un.2.1, .int .i64 p0.un.2.1.un.2.2.1, v1, .int .i64 p0.un.2.2.1, .int .i64 p0.un.2.2.2.1, v2])]) (NZ3 := []) W Aa Aa (E7 (fun h => GO (by kernel_rfl) h) (E7 (fun h => GO (by kernel_rfl) h) F5)) F5 ?_
  refine RK Aa ?_
  obtain ⟨x13, h15, H⟩ := Aq H
  refine ls F W Aa (Bx (v := Value.string (bs x13)) F TH Aa (fun w W => NH any w (v7) x12 ([32, 101, 108, 115, 101, 32] : List UInt8) _ h15 (((CB 0 Aa) : EB _ _ _ _ _ _) w W).nx)) fun a w F W => ?_
  refine Lu (N2 := []) (NZ2 := []) (N3 := [(some 2, b1, [.int .i64 p0.un.1, .int .i64 p0.un.2.1.un.1, .int .i64 p0.un.2.1.un.2.1, .int .i64 p0.un.2.1.un.2.2.1, v1, .int .i64 p0.un.2.2.1, .int .i64 p0.un.2.2.2.1, v2]), (some 7, b1, [.int .i64 p0.un.1, .int .i64 p0.un.2.1.un.1, .int .i64 p0.un.2.1.un.2.1, .int .i64 p0.un.2.1.un.2.2.1, v1, .int .i64 p0.un.2.2.1, .int .i64 p0.un.2.2.2.1, v2])]) (NZ3 := []) W Aa Aa (E7 (fun h => GO (by kernel_rfl) h) (E7 (fun h => GO (by kernel_rfl) h) F5)) F5 ?_
  obtain ⟨x14, h16, H⟩ := Aq H
  refine O4 (R := []) F Aa Aa (yC fun M Z hN hZ => Fm (l := x11) (m := x13) F Aa Aa h16) Aa Aa fun a F => ?_
  refine RK Aa ?_
  refine ls F W Aa (Ag F Aa).q fun a w F W => ?_
  refine Lu (N2 := []) (NZ2 := []) (N3 := [(some 2, b1, [.int .i64 p0.un.1, .int .i64 p0.un.2.1.un.1, .int .i64 p0.un.2.1.un.2.1, .int .i64 p0.un.2.1.un.2.2.1, v1, .int .i64 p0.un.2.2.1, .int .i64 p0.un.2.2.2.1, v2]), (some 7, b1, [.int .i64 p0.un.1, .int .i64 p0.un.2.1.un.1, .int .i64 p0.un.2.1.un.2.1, .int .i64 p0.un.2.1.un.2.2.1, v1, .int .i64 p0.un.2.2.1, .int .i64 p0.un.2.2.2.1, v2])]) (NZ3 := []) W Aa Aa (E7 (fun h => GO (by kernel_rfl) h) (E7 (fun h => GO (by kernel_rfl) h) F5)) F5 ?_
  refine S2 (Ac (Au (Be (AV ?_))))
  have H := AR H
  subst H
  refine AO (.inl Aa) F W Aa (AD F Aa) ?_
  exact ⟨rfl, W.done⟩
 have H := Bc (BL hb) H
 rw [hb] at F
 clear hb
 refine AM (BI (Ac (Ah (Ab ?_))))
 refine ls F W Aa (Ag (v := Value.string (bs ([63] : List UInt8))) F Aa).q fun a w F W => ?_
 refine Ae (Ac (Au ?_))
 have H := AR H
 subst H
 refine AO (.inl Aa) F W Aa (AD F Aa) ?_
 exact ⟨rfl, W.done⟩
theorem LR : ∀ (n : Nat) (Y : Nat → Prop) (w0 : World) (v1 : Value) (v2 : Value) (p0 : Tr28) (r : List UInt8) (H : Cr n p0 = some r) (h_v1 : Sl w0 (NX []) A6 v1 p0.un.2.1.un.2.2.2) (h_v2 : Sl w0 (NX []) BJ v2 p0.un.2.2.2.2) (hG : Gk [] w0), Calls Tryd.prog 17 #[.agg #[.int .i64 p0.un.1, .int .i64 p0.un.2.1.un.1, .int .i64 p0.un.2.1.un.2.1, .int .i64 p0.un.2.1.un.2.2.1, v1, .int .i64 p0.un.2.2.1, .int .i64 p0.un.2.2.2.1, v2]] w0 fun e w' => e = .returned (.string (bs r)) ∧ Below w0.heap.size w0 w' := by
  intro n
  induction n with
  | zero => intro Y w0 v1 v2 p0 r H; exact nomatch H
  | succ n ih => intro Y w0 v1 v2 p0 r H h_v1 h_v2 hG; exact Ld (Cr n) ih Y w0 v1 v2 p0 r H h_v1 h_v2 hG
theorem Hu (Y : Nat → Prop) (w0 : World) (v1 : Value) (v2 : Value) (p0 : Tr28) (r : List UInt8) (H : Fv p0 = some r) (h_v1 : Sl w0 (NX []) A6 v1 p0.un.2.1.un.2.2.2) (h_v2 : Sl w0 (NX []) BJ v2 p0.un.2.2.2.2) (hG : Gk [] w0) :
    Calls Tryd.prog 17 #[.agg #[.int .i64 p0.un.1, .int .i64 p0.un.2.1.un.1, .int .i64 p0.un.2.1.un.2.1, .int .i64 p0.un.2.1.un.2.2.1, v1, .int .i64 p0.un.2.2.1, .int .i64 p0.un.2.2.2.1, v2]] w0 fun e w' => e = .returned (.string (bs r)) ∧ Below w0.heap.size w0 w' := by
  obtain ⟨n, H⟩ := Cy H
  exact LR n Y w0 v1 v2 p0 r H h_v1 h_v2 hG
end Go.Proofs.YtlgjpoapclifbaaDoor
