/- The functions of layer 29, E5. Conditions: none. -/
import Derived.Test.YtlgjpoapclifbaaDoorcA2
namespace Go.Proofs.YtlgjpoapclifbaaDoor
open Go Go.RowKit
set_option linter.unusedVariables false
set_option linter.unusedSimpArgs false
set_option maxRecDepth 20000
theorem Ta : type_of% Tryd.underlying20 := Tryd.underlying20
theorem U1 : Has Tryd.prog 29 := ⟨fun args w => An Tryd.func29 rfl (by decide) args w⟩
theorem QJ : Ty Tryd.prog 29 false 1 := ⟨by kernel_rfl, by kernel_rfl⟩
def G0 (p0 : Tr28) (p1 : Int) (p2 : Int) : Unit := ()
theorem IL (Y : Nat → Prop) (X : List Nat) (w0 : World) (q_p0 : Nat) (v1 : Value) (v2 : Value) (q_p1 : Nat) (q_p2 : Nat) (p0 : Tr28) (p1 : Int) (p2 : Int) (r : Unit) (H : G0 p0 p1 p2 = r) (hL : Stw ⟨Y, X, w0⟩ [(q_p0, [.int .i64 p0.un.1, .int .i64 p0.un.2.1.un.1, .int .i64 p0.un.2.1.un.2.1, .int .i64 p0.un.2.1.un.2.2.1, v1, .int .i64 p0.un.2.2.1, .int .i64 p0.un.2.2.2.1, v2]), (q_p1, [.int .i64 p1]), (q_p2, [.int .i64 p2])] [AU v1 AR p0.un.2.1.un.2.2.2, AU v2 BD p0.un.2.2.2.2] w0) :
    CallsD Tryd.prog 25 #[.pointer (some ⟨q_p0, 0, none⟩), .pointer (some ⟨q_p1, 0, none⟩), .pointer (some ⟨q_p2, 0, none⟩)] .returning w0 fun e u' w' => u' = .returning ∧ (∃ x : Unit, e = .returned (.tuple #[]) ∧ Stw ⟨Y, X, w0⟩ [(q_p0, [.int .i64 p0.un.1, .int .i64 p0.un.2.1.un.1, .int .i64 p0.un.2.1.un.2.1, .int .i64 p0.un.2.1.un.2.2.1, v1, .int .i64 p0.un.2.2.1, .int .i64 p0.un.2.2.2.1, v2]), (q_p1, [.int .i64 p1]), (q_p2, [.int .i64 p2])] [AU v1 AR p0.un.2.1.un.2.2.2, AU v2 BD p0.un.2.2.2.2] w') := by
 refine Jw Tryd.func25 Aa Tryd.ntmps25 Aa Aa Aa fun a F => ?_
 have W := hL
 unfold G0 at H
 refine Ak (Ab ?_)
 refine ls F W Aa (Ah F Aa).q fun a w F W => ?_
 refine ls F W Aa (Kk Ta F Aa).q fun a w F W => ?_
 refine Ae (Ac ?_)
 refine LG F Aa ?_
 refine AA ?_
 subst H
 refine NO (.inr Aa) F Aa ?_
 have W := W.frontZ (i := 1) Aa Aa
 have W := W.frontZ (i := 1) Aa Aa
 have W := W.frontM (i := 2) Aa Aa
 have W := W.frontM (i := 2) Aa Aa
 have W := W.frontM (i := 2) Aa Aa
 exact ⟨(), Aa, W⟩
theorem UZ : Has Tryd.prog 25 := ⟨fun args w => An Tryd.func25 rfl (by decide) args w⟩
theorem Wa : (Tryd.prog.info? 89).bind (·.zero) = some (.agg #[.int .i64 0, .int .i64 0]) := by kernel_rfl
theorem Wk : Ty Tryd.prog 89 true 2 := ⟨by kernel_rfl, by kernel_rfl⟩
def Bb (p0 : Int × Int) : Int × Int := (p0.1, p0.2)
theorem JU (Y : Nat → Prop) (w0 : World)  (p0 : Int × Int) (r : Int × Int) (H : Bb p0 = r)  :
    Calls Tryd.prog 26 #[.iface 89 (.agg #[.int .i64 p0.1, .int .i64 p0.2])] w0 fun e w' => e = .returned (.tuple #[.int .i64 r.1, .int .i64 r.2]) ∧ Below w0.heap.size w0 w' := by
 refine enter Tryd.func26 Aa Tryd.ntmps26 Aa fun a F => ?_
 have W := Stw.start Y w0
 unfold Bb at H
 refine Ak (Ab ?_)
 iterate 2 refine ls F W Aa (Ag F Aa).q fun a w F W => ?_
 refine Ae (Ac (Ak (Ab ?_)))
 refine ls F W Aa (Ah F Aa).q fun a w F W => ?_
 refine ls F W Aa (N6 Vn F Aa).q fun a w F W => ?_
 refine ls F W Aa (Ah F Aa).q fun a w F W => ?_
 refine ls F W Aa (B3 (v := Value.agg #[.int .i64 p0.1, .int .i64 p0.2]) F Aa Aa).q fun a w F W => ?_
 refine ls F W Aa (B3 (v := Value.bool true) F Aa Aa).q fun a w F W => ?_
 refine Bi (cs := [.int .i64 0, .int .i64 0]) F W Aa Wa Aa fun b1 a w F W => ?_
 refine AL (vs := [.int .i64 p0.1, .int .i64 p0.2]) (M' := [(b1, [.int .i64 p0.1, .int .i64 p0.2])]) 0 F W Aa Aa Aa Wk Aa Aa Aa Aa Aa fun w W => ?_
 refine ls F W Aa (Ag F Aa).q fun a w F W => ?_
 refine Ae (Ac (Ak (Ak (Ab ?_))))
 refine ls F W Aa (Ah F Aa).q fun a w F W => ?_
 refine ls F W Aa (Hs F Aa).q fun a w F W => ?_
 refine Ae (Ac ?_)
 refine LG F Aa ?_
 refine AA (Ac (Ak ?_))
 refine EQ W MO (by kernel_rfl) ?_
 refine qs F Aa (Aj T4 Aa Aa Aa T3 F Aa 0 Aa).q fun a F => ?_
 refine qs F Aa (Av (v := Value.int .i64 p0.1) 0 F Aa Aa T3 Aa).q fun a F => ?_
 refine qs F Aa (Aj T4 Aa Aa Aa QJ F Aa 1 Aa).q fun a F => ?_
 refine qs F Aa (Av (v := Value.int .i64 p0.2) 0 F Aa Aa QJ Aa).q fun a F => ?_
 iterate 2 refine qs F Aa (Ag F Aa).q fun a F => ?_
 refine Cr fun w W => ?_
 refine Ac (Ax ?_)
 subst H
 refine MF (.inl Aa) F W Aa (AD F Aa) (AD F Aa) ?_
 exact ⟨rfl, W.done⟩
theorem VE : Has Tryd.prog 26 := ⟨fun args w => An Tryd.func26 rfl (by decide) args w⟩
def Af (p0 : Tr28) (p1 : Int) (p2 : Int) (pc : Int × Int) : Tr28 × Int × Int := (Tr28.of (0, Tr25.of (0, 0, 0, ([] : List Tr25)), 0, 0, ([] : List Tr28)), (Bb pc).1, (Bb pc).2)
theorem ET (Y : Nat → Prop) (X : List Nat) (w0 : World) (q_p0 : Nat) (v1 : Value) (v2 : Value) (q_p1 : Nat) (q_p2 : Nat) (p0 : Tr28) (p1 : Int) (p2 : Int) (pc : Int × Int) (r : Tr28 × Int × Int) (H : Af p0 p1 p2 pc = r) (hL : Stw ⟨Y, X, w0⟩ [(q_p0, [.int .i64 p0.un.1, .int .i64 p0.un.2.1.un.1, .int .i64 p0.un.2.1.un.2.1, .int .i64 p0.un.2.1.un.2.2.1, v1, .int .i64 p0.un.2.2.1, .int .i64 p0.un.2.2.2.1, v2]), (q_p1, [.int .i64 p1]), (q_p2, [.int .i64 p2])] [AU v1 AR p0.un.2.1.un.2.2.2, AU v2 BD p0.un.2.2.2.2] w0) :
    CallsD Tryd.prog 25 #[.pointer (some ⟨q_p0, 0, none⟩), .pointer (some ⟨q_p1, 0, none⟩), .pointer (some ⟨q_p2, 0, none⟩)] (.panicking ({ v := .iface 89 (.agg #[.int .i64 pc.1, .int .i64 pc.2]), recovered := false } :: [])) w0 fun e u' w' => u' = .panicking ({ v := .iface 89 (.agg #[.int .i64 pc.1, .int .i64 pc.2]), recovered := true } :: []) ∧ (∃ x : Value × Value, e = .returned (.tuple #[]) ∧ Stw ⟨Y, X, w0⟩ [(q_p0, [.int .i64 r.1.un.1, .int .i64 r.1.un.2.1.un.1, .int .i64 r.1.un.2.1.un.2.1, .int .i64 r.1.un.2.1.un.2.2.1, x.1, .int .i64 r.1.un.2.2.1, .int .i64 r.1.un.2.2.2.1, x.2]), (q_p1, [.int .i64 r.2.1]), (q_p2, [.int .i64 r.2.2])] [AU (x.1) AR r.1.un.2.1.un.2.2.2, AU (x.2) BD r.1.un.2.2.2.2] w') := by
 refine JA Tryd.func25 Aa Tryd.ntmps25 Aa Aa Aa fun a F => ?_
 have W := hL
 unfold Af at H
 refine Ak (Ab ?_)
 refine ls F W Aa (Ah F Aa).q fun a w F W => ?_
 refine ls F W Aa (JL Ta F Aa).q fun a w F W => ?_
 refine Ae (Ac ?_)
 refine Pg F Aa ?_
 refine Ak (Ab ?_)
 refine ls F W Aa (B7 (v := Value.agg #[.int .i64 0, .int .i64 0, .int .i64 0, .int .i64 0, .slice none 0 0, .int .i64 0, .int .i64 0, .slice none 0 0]) TR F Aa Aa Aa).q fun a w F W => ?_
 refine AL (vs := (BM)) (M' := [(q_p0, (BM)), (q_p1, [.int .i64 p1]), (q_p2, [.int .i64 p2])]) 0 F W Aa Aa Aa FJ Aa Aa Aa Aa Aa fun w W => ?_
 refine Ae (Ac (Ab ?_))
 refine ls F W Aa (Ah F Aa).q fun a w F W => ?_
 refine ls F W Aa (A0 (v := Value.tuple #[.int .i64 ((Bb pc).1), .int .i64 ((Bb pc).2)]) F VE Aa (fun w W => JU any w pc _ Aa)) fun a w F W => ?_
 refine ls F W Aa (Ah F Aa).q fun a w F W => ?_
 refine ls F W Aa (B3 (v := Value.int .i64 ((Bb pc).1)) F Aa Aa).q fun a w F W => ?_
 refine ls F W Aa (B3 (v := Value.int .i64 ((Bb pc).2)) F Aa Aa).q fun a w F W => ?_
 refine AL (vs := [.int .i64 ((Bb pc).1)]) (M' := [(q_p0, (BM)), (q_p1, [.int .i64 ((Bb pc).1)]), (q_p2, [.int .i64 p2])]) 1 F W Aa Aa Aa T3 Aa Aa Aa Aa Aa fun w W => ?_
 refine AL (vs := [.int .i64 ((Bb pc).2)]) (M' := [(q_p0, (BM)), (q_p1, [.int .i64 ((Bb pc).1)]), (q_p2, [.int .i64 ((Bb pc).2)])]) 2 F W Aa Aa Aa QJ Aa Aa Aa Aa Aa fun w W => ?_
 refine Ae ?_
 subst H
 refine NO (.inr Aa) F Aa ?_
 have W := W.note (Sl.nil (r := AR))
 have W := W.note (Sl.nil (r := BD))
 have W := W.frontZ (i := 1) Aa Aa
 have W := W.frontM (i := 2) Aa Aa
 have W := W.frontM (i := 2) Aa Aa
 have W := W.frontM (i := 2) Aa Aa
 have W := W.sub (M' := [(q_p0, (BM)), (q_p1, [.int .i64 ((Bb pc).1)]), (q_p2, [.int .i64 ((Bb pc).2)])]) (Z' := [AU (Value.slice none 0 0) AR ([]), AU (Value.slice none 0 0) BD ([])]) (List.Sublist.refl _) (List.Sublist.cons_cons _ (List.Sublist.cons_cons _ (List.nil_sublist _)))
 exact ⟨((Value.slice none 0 0), (Value.slice none 0 0)), Aa, W⟩
abbrev QA (a0 : Nat) (a1 : Nat) (a2 : Nat) : List Value := [.pointer (some ⟨a0, 0, none⟩), .pointer (some ⟨a1, 0, none⟩), .pointer (some ⟨a2, 0, none⟩)]
abbrev OO (a0 : Nat) (a1 : Nat) (a2 : Nat) : List (Nat × List Value) := [(a0, [.int .i64 0]), (a1, [.int .i64 0]), (a2, [.int .i64 0, .int .i64 0, .int .i64 0, .int .i64 0, .slice none 0 0, .int .i64 0, .int .i64 0, .slice none 0 0])]
abbrev K0 (a0 : Nat) (a1 : Value) (a2 : Tr28 × ((List (Int × Int × List UInt8 × Int)) × Int)) (a3 : Nat) (a4 : Nat) (a5 : Nat) (a6 : Value) (a7 : Value) : List (Nat × List Value) := [(a0, [a1, .int .i64 a2.2.2]), (a3, [.int .i64 0]), (a4, [.int .i64 0]), (a5, [.int .i64 a2.1.un.1, .int .i64 a2.1.un.2.1.un.1, .int .i64 a2.1.un.2.1.un.2.1, .int .i64 a2.1.un.2.1.un.2.2.1, a6, .int .i64 a2.1.un.2.2.1, .int .i64 a2.1.un.2.2.2.1, a7])]
abbrev TM (a0 : Nat) (a1 : Tr28 × ((List (Int × Int × List UInt8 × Int)) × Int)) (a2 : Value) (a3 : Value) (a4 : Nat) (a5 : Nat) : List (Nat × List Value) := [(a0, [.int .i64 a1.1.un.1, .int .i64 a1.1.un.2.1.un.1, .int .i64 a1.1.un.2.1.un.2.1, .int .i64 a1.1.un.2.1.un.2.2.1, a2, .int .i64 a1.1.un.2.2.1, .int .i64 a1.1.un.2.2.2.1, a3]), (a4, [.int .i64 0]), (a5, [.int .i64 0])]
abbrev Tt (a0 : Nat) (a1 : Nat) (a2 : Nat) : List (Nat × List Value) := [(a0, [.int .i64 0, .int .i64 0, .int .i64 0, .int .i64 0, .slice none 0 0, .int .i64 0, .int .i64 0, .slice none 0 0]), (a1, [.int .i64 0]), (a2, [.int .i64 0])]
noncomputable def DM (p0 : List UInt8) : Option (Tr28 × Int × Int) := (E3 p0).bind fun x1 => B4 x1 (fun x2 => (Di x2).bind fun x4 => B4 x4 (fun x5 => (Cb x5.2).bind fun x7 => B4 x7 (fun x8 => some (Tr28.of ((Tr28.of (x5.1.un.1, Tr25.of (x5.1.un.2.1.un.1, x5.1.un.2.1.un.2.1, x5.1.un.2.1.un.2.2.1, x5.1.un.2.1.un.2.2.2), x5.1.un.2.2.1, x5.1.un.2.2.2.1, x5.1.un.2.2.2.2)).un.1, Tr25.of ((Tr28.of (x5.1.un.1, Tr25.of (x5.1.un.2.1.un.1, x5.1.un.2.1.un.2.1, x5.1.un.2.1.un.2.2.1, x5.1.un.2.1.un.2.2.2), x5.1.un.2.2.1, x5.1.un.2.2.2.1, x5.1.un.2.2.2.2)).un.2.1.un.1, (Tr28.of (x5.1.un.1, Tr25.of (x5.1.un.2.1.un.1, x5.1.un.2.1.un.2.1, x5.1.un.2.1.un.2.2.1, x5.1.un.2.1.un.2.2.2), x5.1.un.2.2.1, x5.1.un.2.2.2.1, x5.1.un.2.2.2.2)).un.2.1.un.2.1, (Tr28.of (x5.1.un.1, Tr25.of (x5.1.un.2.1.un.1, x5.1.un.2.1.un.2.1, x5.1.un.2.1.un.2.2.1, x5.1.un.2.1.un.2.2.2), x5.1.un.2.2.1, x5.1.un.2.2.2.1, x5.1.un.2.2.2.2)).un.2.1.un.2.2.1, (Tr28.of (x5.1.un.1, Tr25.of (x5.1.un.2.1.un.1, x5.1.un.2.1.un.2.1, x5.1.un.2.1.un.2.2.1, x5.1.un.2.1.un.2.2.2), x5.1.un.2.2.1, x5.1.un.2.2.2.1, x5.1.un.2.2.2.2)).un.2.1.un.2.2.2), (Tr28.of (x5.1.un.1, Tr25.of (x5.1.un.2.1.un.1, x5.1.un.2.1.un.2.1, x5.1.un.2.1.un.2.2.1, x5.1.un.2.1.un.2.2.2), x5.1.un.2.2.1, x5.1.un.2.2.2.1, x5.1.un.2.2.2.2)).un.2.2.1, (Tr28.of (x5.1.un.1, Tr25.of (x5.1.un.2.1.un.1, x5.1.un.2.1.un.2.1, x5.1.un.2.1.un.2.2.1, x5.1.un.2.1.un.2.2.2), x5.1.un.2.2.1, x5.1.un.2.2.2.1, x5.1.un.2.2.2.2)).un.2.2.2.1, (Tr28.of (x5.1.un.1, Tr25.of (x5.1.un.2.1.un.1, x5.1.un.2.1.un.2.1, x5.1.un.2.1.un.2.2.1, x5.1.un.2.1.un.2.2.2), x5.1.un.2.2.1, x5.1.un.2.2.2.1, x5.1.un.2.2.2.2)).un.2.2.2.2), 0, 0)) (fun x9 => some (Tr28.of ((Af (Tr28.of (x5.1.un.1, Tr25.of (x5.1.un.2.1.un.1, x5.1.un.2.1.un.2.1, x5.1.un.2.1.un.2.2.1, x5.1.un.2.1.un.2.2.2), x5.1.un.2.2.1, x5.1.un.2.2.2.1, x5.1.un.2.2.2.2)) 0 0 x9).1.un.1, Tr25.of ((Af (Tr28.of (x5.1.un.1, Tr25.of (x5.1.un.2.1.un.1, x5.1.un.2.1.un.2.1, x5.1.un.2.1.un.2.2.1, x5.1.un.2.1.un.2.2.2), x5.1.un.2.2.1, x5.1.un.2.2.2.1, x5.1.un.2.2.2.2)) 0 0 x9).1.un.2.1.un.1, (Af (Tr28.of (x5.1.un.1, Tr25.of (x5.1.un.2.1.un.1, x5.1.un.2.1.un.2.1, x5.1.un.2.1.un.2.2.1, x5.1.un.2.1.un.2.2.2), x5.1.un.2.2.1, x5.1.un.2.2.2.1, x5.1.un.2.2.2.2)) 0 0 x9).1.un.2.1.un.2.1, (Af (Tr28.of (x5.1.un.1, Tr25.of (x5.1.un.2.1.un.1, x5.1.un.2.1.un.2.1, x5.1.un.2.1.un.2.2.1, x5.1.un.2.1.un.2.2.2), x5.1.un.2.2.1, x5.1.un.2.2.2.1, x5.1.un.2.2.2.2)) 0 0 x9).1.un.2.1.un.2.2.1, (Af (Tr28.of (x5.1.un.1, Tr25.of (x5.1.un.2.1.un.1, x5.1.un.2.1.un.2.1, x5.1.un.2.1.un.2.2.1, x5.1.un.2.1.un.2.2.2), x5.1.un.2.2.1, x5.1.un.2.2.2.1, x5.1.un.2.2.2.2)) 0 0 x9).1.un.2.1.un.2.2.2), (Af (Tr28.of (x5.1.un.1, Tr25.of (x5.1.un.2.1.un.1, x5.1.un.2.1.un.2.1, x5.1.un.2.1.un.2.2.1, x5.1.un.2.1.un.2.2.2), x5.1.un.2.2.1, x5.1.un.2.2.2.1, x5.1.un.2.2.2.2)) 0 0 x9).1.un.2.2.1, (Af (Tr28.of (x5.1.un.1, Tr25.of (x5.1.un.2.1.un.1, x5.1.un.2.1.un.2.1, x5.1.un.2.1.un.2.2.1, x5.1.un.2.1.un.2.2.2), x5.1.un.2.2.1, x5.1.un.2.2.2.1, x5.1.un.2.2.2.2)) 0 0 x9).1.un.2.2.2.1, (Af (Tr28.of (x5.1.un.1, Tr25.of (x5.1.un.2.1.un.1, x5.1.un.2.1.un.2.1, x5.1.un.2.1.un.2.2.1, x5.1.un.2.1.un.2.2.2), x5.1.un.2.2.1, x5.1.un.2.2.2.1, x5.1.un.2.2.2.2)) 0 0 x9).1.un.2.2.2.2), (Af (Tr28.of (x5.1.un.1, Tr25.of (x5.1.un.2.1.un.1, x5.1.un.2.1.un.2.1, x5.1.un.2.1.un.2.2.1, x5.1.un.2.1.un.2.2.2), x5.1.un.2.2.1, x5.1.un.2.2.2.1, x5.1.un.2.2.2.2)) 0 0 x9).2.1, (Af (Tr28.of (x5.1.un.1, Tr25.of (x5.1.un.2.1.un.1, x5.1.un.2.1.un.2.1, x5.1.un.2.1.un.2.2.1, x5.1.un.2.1.un.2.2.2), x5.1.un.2.2.1, x5.1.un.2.2.2.1, x5.1.un.2.2.2.2)) 0 0 x9).2.2))) (fun x6 => some (Tr28.of ((Af (Tr28.of (0, Tr25.of (0, 0, 0, ([] : List Tr25)), 0, 0, ([] : List Tr28))) 0 0 x6.1).1.un.1, Tr25.of ((Af (Tr28.of (0, Tr25.of (0, 0, 0, ([] : List Tr25)), 0, 0, ([] : List Tr28))) 0 0 x6.1).1.un.2.1.un.1, (Af (Tr28.of (0, Tr25.of (0, 0, 0, ([] : List Tr25)), 0, 0, ([] : List Tr28))) 0 0 x6.1).1.un.2.1.un.2.1, (Af (Tr28.of (0, Tr25.of (0, 0, 0, ([] : List Tr25)), 0, 0, ([] : List Tr28))) 0 0 x6.1).1.un.2.1.un.2.2.1, (Af (Tr28.of (0, Tr25.of (0, 0, 0, ([] : List Tr25)), 0, 0, ([] : List Tr28))) 0 0 x6.1).1.un.2.1.un.2.2.2), (Af (Tr28.of (0, Tr25.of (0, 0, 0, ([] : List Tr25)), 0, 0, ([] : List Tr28))) 0 0 x6.1).1.un.2.2.1, (Af (Tr28.of (0, Tr25.of (0, 0, 0, ([] : List Tr25)), 0, 0, ([] : List Tr28))) 0 0 x6.1).1.un.2.2.2.1, (Af (Tr28.of (0, Tr25.of (0, 0, 0, ([] : List Tr25)), 0, 0, ([] : List Tr28))) 0 0 x6.1).1.un.2.2.2.2), (Af (Tr28.of (0, Tr25.of (0, 0, 0, ([] : List Tr25)), 0, 0, ([] : List Tr28))) 0 0 x6.1).2.1, (Af (Tr28.of (0, Tr25.of (0, 0, 0, ([] : List Tr25)), 0, 0, ([] : List Tr28))) 0 0 x6.1).2.2))) (fun x3 => some (Tr28.of ((Af (Tr28.of (0, Tr25.of (0, 0, 0, ([] : List Tr25)), 0, 0, ([] : List Tr28))) 0 0 x3).1.un.1, Tr25.of ((Af (Tr28.of (0, Tr25.of (0, 0, 0, ([] : List Tr25)), 0, 0, ([] : List Tr28))) 0 0 x3).1.un.2.1.un.1, (Af (Tr28.of (0, Tr25.of (0, 0, 0, ([] : List Tr25)), 0, 0, ([] : List Tr28))) 0 0 x3).1.un.2.1.un.2.1, (Af (Tr28.of (0, Tr25.of (0, 0, 0, ([] : List Tr25)), 0, 0, ([] : List Tr28))) 0 0 x3).1.un.2.1.un.2.2.1, (Af (Tr28.of (0, Tr25.of (0, 0, 0, ([] : List Tr25)), 0, 0, ([] : List Tr28))) 0 0 x3).1.un.2.1.un.2.2.2), (Af (Tr28.of (0, Tr25.of (0, 0, 0, ([] : List Tr25)), 0, 0, ([] : List Tr28))) 0 0 x3).1.un.2.2.1, (Af (Tr28.of (0, Tr25.of (0, 0, 0, ([] : List Tr25)), 0, 0, ([] : List Tr28))) 0 0 x3).1.un.2.2.2.1, (Af (Tr28.of (0, Tr25.of (0, 0, 0, ([] : List Tr25)), 0, 0, ([] : List Tr28))) 0 0 x3).1.un.2.2.2.2), (Af (Tr28.of (0, Tr25.of (0, 0, 0, ([] : List Tr25)), 0, 0, ([] : List Tr28))) 0 0 x3).2.1, (Af (Tr28.of (0, Tr25.of (0, 0, 0, ([] : List Tr25)), 0, 0, ([] : List Tr28))) 0 0 x3).2.2))
theorem JC (Y : Nat → Prop) (w0 : World)  (p0 : List UInt8) (r : Tr28 × Int × Int) (H : DM p0 = some r)  :
    Calls Tryd.prog 7 #[.string (bs p0)] w0 fun e w' => ∃ x : Value × Value, e = .returned (.tuple #[.agg #[.int .i64 r.1.un.1, .int .i64 r.1.un.2.1.un.1, .int .i64 r.1.un.2.1.un.2.1, .int .i64 r.1.un.2.1.un.2.2.1, x.1, .int .i64 r.1.un.2.2.1, .int .i64 r.1.un.2.2.2.1, x.2], .int .i64 r.2.1, .int .i64 r.2.2]) ∧ Stw ⟨Y, [], w0⟩ [] [AU (x.1) AR r.1.un.2.1.un.2.2.2, AU (x.2) BD r.1.un.2.2.2.2] w' := by
 refine Sg Tryd.func7 Aa Tryd.ntmps7 Aa fun a F => ?_
 have W := Stw.start Y w0
 unfold DM at H
 refine Ak (Ab ?_)
 refine Bi (cs := (BM)) F W Aa Lh Aa fun b1 a w F W => ?_
 refine Bi (cs := [.int .i64 0]) F W Aa Z3 Aa fun b2 a w F W => ?_
 refine Bi (cs := [.int .i64 0]) F W Aa VN Aa fun b3 a w F W => ?_
 refine Ae (Ac (Ak (Ab ?_)))
 refine ls F W Aa (F8 (us := []) (vs := (QA b1 b2 b3)) F Aa Aa).q fun a w F W => ?_
 refine Qx (vs := (QA b1 b2 b3)) F Aa fun a F => ?_
 refine Ae (Ac (Ak (Ab ?_)))
 refine ls F W Aa (Ah F Aa).q fun a w F W => ?_
 obtain ⟨x1, h1, H⟩ := Aq H
 rcases x1 with x2 | x3
 ·
  have H := EZ H
  refine A2 (Ml := []) (Zl := []) (M := (OO b3 b2 b1)) (Z := []) (β := Nat × Value) (rv := fun x => .pointer (some ⟨x.1, 0, none⟩)) (MM := fun x => [(x.1, [x.2, .int .i64 x2.2])]) (ZZ := fun x => [row x.2 98 AC x2.1]) F W U4 Aa Aa (fun hL => GG _ w p0 _ h1) fun x a w F W => ?_
  obtain ⟨b4, v1⟩ := x
  have W : Stw ⟨Y, [], w0⟩ [(b4, [v1, .int .i64 x2.2]), (b3, [.int .i64 0]), (b2, [.int .i64 0]), (b1, [.int .i64 0, .int .i64 0, .int .i64 0, .int .i64 0, .slice none 0 0, .int .i64 0, .int .i64 0, .slice none 0 0])] [row v1 98 AC x2.1] w := W
  refine ls F W Aa (Ag F Aa).q fun a w F W => ?_
  refine Ae (Ac (Ak (Ab ?_)))
  refine ls F W Aa (Ah F Aa).q fun a w F W => ?_
  obtain ⟨x4, h2, H⟩ := Aq H
  rcases x4 with x5 | x6
  ·
   have H := EZ H
   refine A2 (Ml := [(b4, [v1, .int .i64 x2.2])]) (Zl := [row v1 98 AC x2.1]) (M := (OO b3 b2 b1)) (Z := []) (β := Value × Value × Value) (rv := fun x => .agg #[.int .i64 x5.1.un.1, .int .i64 x5.1.un.2.1.un.1, .int .i64 x5.1.un.2.1.un.2.1, .int .i64 x5.1.un.2.1.un.2.2.1, x.1, .int .i64 x5.1.un.2.2.1, .int .i64 x5.1.un.2.2.2.1, x.2.1]) (MM := fun x => [(b4, [x.2.2, .int .i64 x5.2.2])]) (ZZ := fun x => [row x.2.2 98 AC x5.2.1, AU x.1 AR x5.1.un.2.1.un.2.2.2, AU x.2.1 BD x5.1.un.2.2.2.2]) F W U5 Aa Aa (fun hL => F4 _ _ w b4 (v1) x2 _ h2 hL) fun x a w F W => ?_
   obtain ⟨v2, v3, v4⟩ := x
   have W : Stw ⟨Y, [], w0⟩ [(b4, [v4, .int .i64 x5.2.2]), (b3, [.int .i64 0]), (b2, [.int .i64 0]), (b1, [.int .i64 0, .int .i64 0, .int .i64 0, .int .i64 0, .slice none 0 0, .int .i64 0, .int .i64 0, .slice none 0 0])] [row v4 98 AC x5.2.1, AU v2 AR x5.1.un.2.1.un.2.2.2, AU v3 BD x5.1.un.2.2.2.2] w := W
   refine AL (vs := (DK x5 v2 v3)) (M' := (K0 b4 v4 x5 b3 b2 b1 v2 v3)) 3 F W Aa Aa Aa FJ Aa Aa Aa (Ai Aa (Ai Aa (Ai Aa (Ai Aa (Ai (W.oneF (k := 1) Aa) (Ai Aa (Ai Aa (Ai (W.oneF (k := 2) Aa) Bp)))))))) Aa fun w W => ?_
   refine Ae (Ac (Ak (Ab ?_)))
   refine ls F W Aa (Ah F Aa).q fun a w F W => ?_
   obtain ⟨x7, h3, H⟩ := Aq H
   rcases x7 with x8 | x9
   ·
    have H := EZ H
    refine A2 (Ml := []) (Zl := []) (M := (K0 b4 v4 x5 b3 b2 b1 v2 v3)) (Z := [row v4 98 AC x5.2.1, AU v2 AR x5.1.un.2.1.un.2.2.2, AU v3 BD x5.1.un.2.2.2.2]) (β := Unit) (rv := fun x => .tuple #[]) (MM := fun x => []) (ZZ := fun x => []) F W U1 Aa Aa (fun hL => EH _ w b4 (v4) x5.2 _ h3 ((BP 0 Aa) w W).nx (M7 W 0 Aa)) fun x a w F W => ?_
    have W : Stw ⟨Y, [], w0⟩ (K0 b4 v4 x5 b3 b2 b1 v2 v3) [row v4 98 AC x5.2.1, AU v2 AR x5.1.un.2.1.un.2.2.2, AU v3 BD x5.1.un.2.2.2.2] w := W
    refine Ae (Ac (Ak (Ab ?_)))
    refine ls F W Aa (Av (v := Value.agg #[.int .i64 x5.1.un.1, .int .i64 x5.1.un.2.1.un.1, .int .i64 x5.1.un.2.1.un.2.1, .int .i64 x5.1.un.2.1.un.2.2.1, v2, .int .i64 x5.1.un.2.2.1, .int .i64 x5.1.un.2.2.2.1, v3]) 3 F Aa Aa FJ Aa).q fun a w F W => ?_
    refine AL (vs := (DK x5 v2 v3)) (M' := (K0 b4 v4 x5 b3 b2 b1 v2 v3)) 3 F W Aa Aa Aa FJ Aa Aa Aa (Ai Aa (Ai Aa (Ai Aa (Ai Aa (Ai (W.oneF (k := 1) Aa) (Ai Aa (Ai Aa (Ai (W.oneF (k := 2) Aa) Bp)))))))) Aa fun w W => ?_
    refine AL (vs := [.int .i64 0]) (M' := (K0 b4 v4 x5 b3 b2 b1 v2 v3)) 2 F W Aa Aa Aa T3 Aa Aa Aa Aa Aa fun w W => ?_
    refine AL (vs := [.int .i64 0]) (M' := (K0 b4 v4 x5 b3 b2 b1 v2 v3)) 1 F W Aa Aa Aa QJ Aa Aa Aa Aa Aa fun w W => ?_
    refine Ae (Ac (Ax ?_))
    refine NA (.inl Aa) F ?_
    have W := W.frontZ (i := 2) Aa Aa
    have W := W.frontZ (i := 2) Aa Aa
    have W := W.frontM (i := 1) Aa Aa
    have W := W.frontM (i := 2) Aa Aa
    have W := W.frontM (i := 3) Aa Aa
    refine Hv (Ml := (TM b1 x5 v2 v3 b2 b3)) (Zl := [AU v2 AR x5.1.un.2.1.un.2.2.2, AU v3 BD x5.1.un.2.2.2.2]) (M := [(b4, [v4, .int .i64 x5.2.2])]) (Z := [row v4 98 AC x5.2.1]) (β := Unit) (u' := .returning) (MM := fun x => [(b1, [.int .i64 ((Tr28.of (x5.1.un.1, Tr25.of (x5.1.un.2.1.un.1, x5.1.un.2.1.un.2.1, x5.1.un.2.1.un.2.2.1, x5.1.un.2.1.un.2.2.2), x5.1.un.2.2.1, x5.1.un.2.2.2.1, x5.1.un.2.2.2.2)).un.1), .int .i64 ((Tr28.of (x5.1.un.1, Tr25.of (x5.1.un.2.1.un.1, x5.1.un.2.1.un.2.1, x5.1.un.2.1.un.2.2.1, x5.1.un.2.1.un.2.2.2), x5.1.un.2.2.1, x5.1.un.2.2.2.1, x5.1.un.2.2.2.2)).un.2.1.un.1), .int .i64 ((Tr28.of (x5.1.un.1, Tr25.of (x5.1.un.2.1.un.1, x5.1.un.2.1.un.2.1, x5.1.un.2.1.un.2.2.1, x5.1.un.2.1.un.2.2.2), x5.1.un.2.2.1, x5.1.un.2.2.2.1, x5.1.un.2.2.2.2)).un.2.1.un.2.1), .int .i64 ((Tr28.of (x5.1.un.1, Tr25.of (x5.1.un.2.1.un.1, x5.1.un.2.1.un.2.1, x5.1.un.2.1.un.2.2.1, x5.1.un.2.1.un.2.2.2), x5.1.un.2.2.1, x5.1.un.2.2.2.1, x5.1.un.2.2.2.2)).un.2.1.un.2.2.1), (v2), .int .i64 ((Tr28.of (x5.1.un.1, Tr25.of (x5.1.un.2.1.un.1, x5.1.un.2.1.un.2.1, x5.1.un.2.1.un.2.2.1, x5.1.un.2.1.un.2.2.2), x5.1.un.2.2.1, x5.1.un.2.2.2.1, x5.1.un.2.2.2.2)).un.2.2.1), .int .i64 ((Tr28.of (x5.1.un.1, Tr25.of (x5.1.un.2.1.un.1, x5.1.un.2.1.un.2.1, x5.1.un.2.1.un.2.2.1, x5.1.un.2.1.un.2.2.2), x5.1.un.2.2.1, x5.1.un.2.2.2.1, x5.1.un.2.2.2.2)).un.2.2.2.1), (v3)]), (b2, [.int .i64 0]), (b3, [.int .i64 0])]) (ZZ := fun x => [AU (v2) AR ((Tr28.of (x5.1.un.1, Tr25.of (x5.1.un.2.1.un.1, x5.1.un.2.1.un.2.1, x5.1.un.2.1.un.2.2.1, x5.1.un.2.1.un.2.2.2), x5.1.un.2.2.1, x5.1.un.2.2.2.1, x5.1.un.2.2.2.2)).un.2.1.un.2.2.2), AU (v3) BD ((Tr28.of (x5.1.un.1, Tr25.of (x5.1.un.2.1.un.1, x5.1.un.2.1.un.2.1, x5.1.un.2.1.un.2.2.1, x5.1.un.2.1.un.2.2.2), x5.1.un.2.2.1, x5.1.un.2.2.2.1, x5.1.un.2.2.2.2)).un.2.2.2.2)]) W UZ (by simp) (fun hL => IL _ _ w b1 (v2) (v3) b2 b3 (Tr28.of (x5.1.un.1, Tr25.of (x5.1.un.2.1.un.1, x5.1.un.2.1.un.2.1, x5.1.un.2.1.un.2.2.1, x5.1.un.2.1.un.2.2.2), x5.1.un.2.2.1, x5.1.un.2.2.2.1, x5.1.un.2.2.2.2)) 0 0 _ Aa hL) fun _ w W => ?_
    have W : Stw ⟨Y, [], w0⟩ [(b1, [.int .i64 ((Tr28.of (x5.1.un.1, Tr25.of (x5.1.un.2.1.un.1, x5.1.un.2.1.un.2.1, x5.1.un.2.1.un.2.2.1, x5.1.un.2.1.un.2.2.2), x5.1.un.2.2.1, x5.1.un.2.2.2.1, x5.1.un.2.2.2.2)).un.1), .int .i64 ((Tr28.of (x5.1.un.1, Tr25.of (x5.1.un.2.1.un.1, x5.1.un.2.1.un.2.1, x5.1.un.2.1.un.2.2.1, x5.1.un.2.1.un.2.2.2), x5.1.un.2.2.1, x5.1.un.2.2.2.1, x5.1.un.2.2.2.2)).un.2.1.un.1), .int .i64 ((Tr28.of (x5.1.un.1, Tr25.of (x5.1.un.2.1.un.1, x5.1.un.2.1.un.2.1, x5.1.un.2.1.un.2.2.1, x5.1.un.2.1.un.2.2.2), x5.1.un.2.2.1, x5.1.un.2.2.2.1, x5.1.un.2.2.2.2)).un.2.1.un.2.1), .int .i64 ((Tr28.of (x5.1.un.1, Tr25.of (x5.1.un.2.1.un.1, x5.1.un.2.1.un.2.1, x5.1.un.2.1.un.2.2.1, x5.1.un.2.1.un.2.2.2), x5.1.un.2.2.1, x5.1.un.2.2.2.1, x5.1.un.2.2.2.2)).un.2.1.un.2.2.1), (v2), .int .i64 ((Tr28.of (x5.1.un.1, Tr25.of (x5.1.un.2.1.un.1, x5.1.un.2.1.un.2.1, x5.1.un.2.1.un.2.2.1, x5.1.un.2.1.un.2.2.2), x5.1.un.2.2.1, x5.1.un.2.2.2.1, x5.1.un.2.2.2.2)).un.2.2.1), .int .i64 ((Tr28.of (x5.1.un.1, Tr25.of (x5.1.un.2.1.un.1, x5.1.un.2.1.un.2.1, x5.1.un.2.1.un.2.2.1, x5.1.un.2.1.un.2.2.2), x5.1.un.2.2.1, x5.1.un.2.2.2.1, x5.1.un.2.2.2.2)).un.2.2.2.1), (v3)]), (b2, [.int .i64 0]), (b3, [.int .i64 0]), (b4, [v4, .int .i64 x5.2.2])] [AU (v2) AR ((Tr28.of (x5.1.un.1, Tr25.of (x5.1.un.2.1.un.1, x5.1.un.2.1.un.2.1, x5.1.un.2.1.un.2.2.1, x5.1.un.2.1.un.2.2.2), x5.1.un.2.2.1, x5.1.un.2.2.2.1, x5.1.un.2.2.2.2)).un.2.1.un.2.2.2), AU (v3) BD ((Tr28.of (x5.1.un.1, Tr25.of (x5.1.un.2.1.un.1, x5.1.un.2.1.un.2.1, x5.1.un.2.1.un.2.2.1, x5.1.un.2.1.un.2.2.2), x5.1.un.2.2.1, x5.1.un.2.2.2.1, x5.1.un.2.2.2.2)).un.2.2.2.2), row v4 98 AC x5.2.1] w := W
    have H := AK H
    subst H
    refine Hx W Aa (A3 0 F Aa Aa FJ Aa) (A3 1 F Aa Aa T3 Aa) (A3 2 F Aa Aa QJ Aa) ?_
    have W := W.frontZ (i := 1) Aa Aa
    have W := W.frontZ (i := 1) Aa Aa
    have W := W.sub (M' := []) (Z' := [AU (v2) AR ((Tr28.of (x5.1.un.1, Tr25.of (x5.1.un.2.1.un.1, x5.1.un.2.1.un.2.1, x5.1.un.2.1.un.2.2.1, x5.1.un.2.1.un.2.2.2), x5.1.un.2.2.1, x5.1.un.2.2.2.1, x5.1.un.2.2.2.2)).un.2.1.un.2.2.2), AU (v3) BD ((Tr28.of (x5.1.un.1, Tr25.of (x5.1.un.2.1.un.1, x5.1.un.2.1.un.2.1, x5.1.un.2.1.un.2.2.1, x5.1.un.2.1.un.2.2.2), x5.1.un.2.2.1, x5.1.un.2.2.2.1, x5.1.un.2.2.2.2)).un.2.2.2.2)]) (List.nil_sublist _) (List.Sublist.cons_cons _ (List.Sublist.cons_cons _ (List.nil_sublist _)))
    exact ⟨(((v2)), ((v3))), Aa, W⟩
   have H := EY H
   refine B0 (Ml := []) (Zl := []) (M := (K0 b4 v4 x5 b3 b2 b1 v2 v3)) (Z := [row v4 98 AC x5.2.1, AU v2 AR x5.1.un.2.1.un.2.2.2, AU v3 BD x5.1.un.2.2.2.2]) (β := Unit) (pv := fun x => .iface 89 (.agg #[.int .i64 x9.1, .int .i64 x9.2])) (MM := fun x => []) (ZZ := fun x => []) F W U1 Aa (fun hL => EH _ w b4 (v4) x5.2 _ h3 ((BP 0 Aa) w W).nx (M7 W 0 Aa)) fun x w W => ?_
   have W : Stw ⟨Y, [], w0⟩ (K0 b4 v4 x5 b3 b2 b1 v2 v3) [row v4 98 AC x5.2.1, AU v2 AR x5.1.un.2.1.un.2.2.2, AU v3 BD x5.1.un.2.2.2.2] w := W
   refine BF ?_
   refine FF F ?_
   have W := W.frontZ (i := 2) Aa Aa
   have W := W.frontZ (i := 2) Aa Aa
   have W := W.frontM (i := 1) Aa Aa
   have W := W.frontM (i := 2) Aa Aa
   have W := W.frontM (i := 3) Aa Aa
   refine Hv (Ml := (TM b1 x5 v2 v3 b2 b3)) (Zl := [AU v2 AR x5.1.un.2.1.un.2.2.2, AU v3 BD x5.1.un.2.2.2.2]) (M := [(b4, [v4, .int .i64 x5.2.2])]) (Z := [row v4 98 AC x5.2.1]) (β := Value × Value) (u' := (.panicking ({ v := .iface 89 (.agg #[.int .i64 x9.1, .int .i64 x9.2]), recovered := true } :: []))) (MM := fun x => [(b1, [.int .i64 ((Af (Tr28.of (x5.1.un.1, Tr25.of (x5.1.un.2.1.un.1, x5.1.un.2.1.un.2.1, x5.1.un.2.1.un.2.2.1, x5.1.un.2.1.un.2.2.2), x5.1.un.2.2.1, x5.1.un.2.2.2.1, x5.1.un.2.2.2.2)) 0 0 x9).1.un.1), .int .i64 ((Af (Tr28.of (x5.1.un.1, Tr25.of (x5.1.un.2.1.un.1, x5.1.un.2.1.un.2.1, x5.1.un.2.1.un.2.2.1, x5.1.un.2.1.un.2.2.2), x5.1.un.2.2.1, x5.1.un.2.2.2.1, x5.1.un.2.2.2.2)) 0 0 x9).1.un.2.1.un.1), .int .i64 ((Af (Tr28.of (x5.1.un.1, Tr25.of (x5.1.un.2.1.un.1, x5.1.un.2.1.un.2.1, x5.1.un.2.1.un.2.2.1, x5.1.un.2.1.un.2.2.2), x5.1.un.2.2.1, x5.1.un.2.2.2.1, x5.1.un.2.2.2.2)) 0 0 x9).1.un.2.1.un.2.1), .int .i64 ((Af (Tr28.of (x5.1.un.1, Tr25.of (x5.1.un.2.1.un.1, x5.1.un.2.1.un.2.1, x5.1.un.2.1.un.2.2.1, x5.1.un.2.1.un.2.2.2), x5.1.un.2.2.1, x5.1.un.2.2.2.1, x5.1.un.2.2.2.2)) 0 0 x9).1.un.2.1.un.2.2.1), x.1, .int .i64 ((Af (Tr28.of (x5.1.un.1, Tr25.of (x5.1.un.2.1.un.1, x5.1.un.2.1.un.2.1, x5.1.un.2.1.un.2.2.1, x5.1.un.2.1.un.2.2.2), x5.1.un.2.2.1, x5.1.un.2.2.2.1, x5.1.un.2.2.2.2)) 0 0 x9).1.un.2.2.1), .int .i64 ((Af (Tr28.of (x5.1.un.1, Tr25.of (x5.1.un.2.1.un.1, x5.1.un.2.1.un.2.1, x5.1.un.2.1.un.2.2.1, x5.1.un.2.1.un.2.2.2), x5.1.un.2.2.1, x5.1.un.2.2.2.1, x5.1.un.2.2.2.2)) 0 0 x9).1.un.2.2.2.1), x.2]), (b2, [.int .i64 ((Af (Tr28.of (x5.1.un.1, Tr25.of (x5.1.un.2.1.un.1, x5.1.un.2.1.un.2.1, x5.1.un.2.1.un.2.2.1, x5.1.un.2.1.un.2.2.2), x5.1.un.2.2.1, x5.1.un.2.2.2.1, x5.1.un.2.2.2.2)) 0 0 x9).2.1)]), (b3, [.int .i64 ((Af (Tr28.of (x5.1.un.1, Tr25.of (x5.1.un.2.1.un.1, x5.1.un.2.1.un.2.1, x5.1.un.2.1.un.2.2.1, x5.1.un.2.1.un.2.2.2), x5.1.un.2.2.1, x5.1.un.2.2.2.1, x5.1.un.2.2.2.2)) 0 0 x9).2.2)])]) (ZZ := fun x => [AU x.1 AR ((Af (Tr28.of (x5.1.un.1, Tr25.of (x5.1.un.2.1.un.1, x5.1.un.2.1.un.2.1, x5.1.un.2.1.un.2.2.1, x5.1.un.2.1.un.2.2.2), x5.1.un.2.2.1, x5.1.un.2.2.2.1, x5.1.un.2.2.2.2)) 0 0 x9).1.un.2.1.un.2.2.2), AU x.2 BD ((Af (Tr28.of (x5.1.un.1, Tr25.of (x5.1.un.2.1.un.1, x5.1.un.2.1.un.2.1, x5.1.un.2.1.un.2.2.1, x5.1.un.2.1.un.2.2.2), x5.1.un.2.2.1, x5.1.un.2.2.2.1, x5.1.un.2.2.2.2)) 0 0 x9).1.un.2.2.2.2)]) W UZ (by simp) (fun hL => ET _ _ w b1 (v2) (v3) b2 b3 (Tr28.of (x5.1.un.1, Tr25.of (x5.1.un.2.1.un.1, x5.1.un.2.1.un.2.1, x5.1.un.2.1.un.2.2.1, x5.1.un.2.1.un.2.2.2), x5.1.un.2.2.1, x5.1.un.2.2.2.1, x5.1.un.2.2.2.2)) 0 0 x9 _ Aa hL) fun x w W => ?_
   obtain ⟨v5, v6⟩ := x
   have W : Stw ⟨Y, [], w0⟩ [(b1, [.int .i64 ((Af (Tr28.of (x5.1.un.1, Tr25.of (x5.1.un.2.1.un.1, x5.1.un.2.1.un.2.1, x5.1.un.2.1.un.2.2.1, x5.1.un.2.1.un.2.2.2), x5.1.un.2.2.1, x5.1.un.2.2.2.1, x5.1.un.2.2.2.2)) 0 0 x9).1.un.1), .int .i64 ((Af (Tr28.of (x5.1.un.1, Tr25.of (x5.1.un.2.1.un.1, x5.1.un.2.1.un.2.1, x5.1.un.2.1.un.2.2.1, x5.1.un.2.1.un.2.2.2), x5.1.un.2.2.1, x5.1.un.2.2.2.1, x5.1.un.2.2.2.2)) 0 0 x9).1.un.2.1.un.1), .int .i64 ((Af (Tr28.of (x5.1.un.1, Tr25.of (x5.1.un.2.1.un.1, x5.1.un.2.1.un.2.1, x5.1.un.2.1.un.2.2.1, x5.1.un.2.1.un.2.2.2), x5.1.un.2.2.1, x5.1.un.2.2.2.1, x5.1.un.2.2.2.2)) 0 0 x9).1.un.2.1.un.2.1), .int .i64 ((Af (Tr28.of (x5.1.un.1, Tr25.of (x5.1.un.2.1.un.1, x5.1.un.2.1.un.2.1, x5.1.un.2.1.un.2.2.1, x5.1.un.2.1.un.2.2.2), x5.1.un.2.2.1, x5.1.un.2.2.2.1, x5.1.un.2.2.2.2)) 0 0 x9).1.un.2.1.un.2.2.1), v5, .int .i64 ((Af (Tr28.of (x5.1.un.1, Tr25.of (x5.1.un.2.1.un.1, x5.1.un.2.1.un.2.1, x5.1.un.2.1.un.2.2.1, x5.1.un.2.1.un.2.2.2), x5.1.un.2.2.1, x5.1.un.2.2.2.1, x5.1.un.2.2.2.2)) 0 0 x9).1.un.2.2.1), .int .i64 ((Af (Tr28.of (x5.1.un.1, Tr25.of (x5.1.un.2.1.un.1, x5.1.un.2.1.un.2.1, x5.1.un.2.1.un.2.2.1, x5.1.un.2.1.un.2.2.2), x5.1.un.2.2.1, x5.1.un.2.2.2.1, x5.1.un.2.2.2.2)) 0 0 x9).1.un.2.2.2.1), v6]), (b2, [.int .i64 ((Af (Tr28.of (x5.1.un.1, Tr25.of (x5.1.un.2.1.un.1, x5.1.un.2.1.un.2.1, x5.1.un.2.1.un.2.2.1, x5.1.un.2.1.un.2.2.2), x5.1.un.2.2.1, x5.1.un.2.2.2.1, x5.1.un.2.2.2.2)) 0 0 x9).2.1)]), (b3, [.int .i64 ((Af (Tr28.of (x5.1.un.1, Tr25.of (x5.1.un.2.1.un.1, x5.1.un.2.1.un.2.1, x5.1.un.2.1.un.2.2.1, x5.1.un.2.1.un.2.2.2), x5.1.un.2.2.1, x5.1.un.2.2.2.1, x5.1.un.2.2.2.2)) 0 0 x9).2.2)]), (b4, [v4, .int .i64 x5.2.2])] [AU v5 AR ((Af (Tr28.of (x5.1.un.1, Tr25.of (x5.1.un.2.1.un.1, x5.1.un.2.1.un.2.1, x5.1.un.2.1.un.2.2.1, x5.1.un.2.1.un.2.2.2), x5.1.un.2.2.1, x5.1.un.2.2.2.1, x5.1.un.2.2.2.2)) 0 0 x9).1.un.2.1.un.2.2.2), AU v6 BD ((Af (Tr28.of (x5.1.un.1, Tr25.of (x5.1.un.2.1.un.1, x5.1.un.2.1.un.2.1, x5.1.un.2.1.un.2.2.1, x5.1.un.2.1.un.2.2.2), x5.1.un.2.2.1, x5.1.un.2.2.2.1, x5.1.un.2.2.2.2)) 0 0 x9).1.un.2.2.2.2), row v4 98 AC x5.2.1] w := W
   have H := AK H
   subst H
   refine Hx W Aa (A3 0 F Aa Aa FJ Aa) (A3 1 F Aa Aa T3 Aa) (A3 2 F Aa Aa QJ Aa) ?_
   have W := W.frontZ (i := 1) Aa Aa
   have W := W.frontZ (i := 1) Aa Aa
   have W := W.sub (M' := []) (Z' := [AU v5 AR ((Af (Tr28.of (x5.1.un.1, Tr25.of (x5.1.un.2.1.un.1, x5.1.un.2.1.un.2.1, x5.1.un.2.1.un.2.2.1, x5.1.un.2.1.un.2.2.2), x5.1.un.2.2.1, x5.1.un.2.2.2.1, x5.1.un.2.2.2.2)) 0 0 x9).1.un.2.1.un.2.2.2), AU v6 BD ((Af (Tr28.of (x5.1.un.1, Tr25.of (x5.1.un.2.1.un.1, x5.1.un.2.1.un.2.1, x5.1.un.2.1.un.2.2.1, x5.1.un.2.1.un.2.2.2), x5.1.un.2.2.1, x5.1.un.2.2.2.1, x5.1.un.2.2.2.2)) 0 0 x9).1.un.2.2.2.2)]) (List.nil_sublist _) (List.Sublist.cons_cons _ (List.Sublist.cons_cons _ (List.nil_sublist _)))
   exact ⟨((v5), (v6)), Aa, W⟩
  have H := EY H
  refine B0 (Ml := [(b4, [v1, .int .i64 x2.2])]) (Zl := [row v1 98 AC x2.1]) (M := (OO b3 b2 b1)) (Z := []) (β := Value) (pv := fun x => .iface 89 (.agg #[.int .i64 x6.1.1, .int .i64 x6.1.2])) (MM := fun x => [(b4, [x, .int .i64 x6.2.2])]) (ZZ := fun x => [row x 98 AC x6.2.1]) F W U5 Aa (fun hL => F4 _ _ w b4 (v1) x2 _ h2 hL) fun x w W => ?_
  obtain ⟨v7, rfl⟩ : ∃ y, y = x := ⟨x, rfl⟩
  have W : Stw ⟨Y, [], w0⟩ [(b4, [v7, .int .i64 x6.2.2]), (b3, [.int .i64 0]), (b2, [.int .i64 0]), (b1, [.int .i64 0, .int .i64 0, .int .i64 0, .int .i64 0, .slice none 0 0, .int .i64 0, .int .i64 0, .slice none 0 0])] [row v7 98 AC x6.2.1] w := W
  refine BF ?_
  refine FF F ?_
  have W := W.note (Sl.nil (r := AR))
  have W := W.note (Sl.nil (r := BD))
  have W := W.frontZ (i := 1) Aa Aa
  have W := W.frontM (i := 1) Aa Aa
  have W := W.frontM (i := 2) Aa Aa
  have W := W.frontM (i := 3) Aa Aa
  refine Hv (Ml := (Tt b1 b2 b3)) (Zl := [AU (Value.slice none 0 0) AR ([]), AU (Value.slice none 0 0) BD ([])]) (M := [(b4, [v7, .int .i64 x6.2.2])]) (Z := [row v7 98 AC x6.2.1]) (β := Value × Value) (u' := (.panicking ({ v := .iface 89 (.agg #[.int .i64 x6.1.1, .int .i64 x6.1.2]), recovered := true } :: []))) (MM := fun x => [(b1, [.int .i64 ((Af (Tr28.of (0, Tr25.of (0, 0, 0, ([] : List Tr25)), 0, 0, ([] : List Tr28))) 0 0 x6.1).1.un.1), .int .i64 ((Af (Tr28.of (0, Tr25.of (0, 0, 0, ([] : List Tr25)), 0, 0, ([] : List Tr28))) 0 0 x6.1).1.un.2.1.un.1), .int .i64 ((Af (Tr28.of (0, Tr25.of (0, 0, 0, ([] : List Tr25)), 0, 0, ([] : List Tr28))) 0 0 x6.1).1.un.2.1.un.2.1), .int .i64 ((Af (Tr28.of (0, Tr25.of (0, 0, 0, ([] : List Tr25)), 0, 0, ([] : List Tr28))) 0 0 x6.1).1.un.2.1.un.2.2.1), x.1, .int .i64 ((Af (Tr28.of (0, Tr25.of (0, 0, 0, ([] : List Tr25)), 0, 0, ([] : List Tr28))) 0 0 x6.1).1.un.2.2.1), .int .i64 ((Af (Tr28.of (0, Tr25.of (0, 0, 0, ([] : List Tr25)), 0, 0, ([] : List Tr28))) 0 0 x6.1).1.un.2.2.2.1), x.2]), (b2, [.int .i64 ((Af (Tr28.of (0, Tr25.of (0, 0, 0, ([] : List Tr25)), 0, 0, ([] : List Tr28))) 0 0 x6.1).2.1)]), (b3, [.int .i64 ((Af (Tr28.of (0, Tr25.of (0, 0, 0, ([] : List Tr25)), 0, 0, ([] : List Tr28))) 0 0 x6.1).2.2)])]) (ZZ := fun x => [AU x.1 AR ((Af (Tr28.of (0, Tr25.of (0, 0, 0, ([] : List Tr25)), 0, 0, ([] : List Tr28))) 0 0 x6.1).1.un.2.1.un.2.2.2), AU x.2 BD ((Af (Tr28.of (0, Tr25.of (0, 0, 0, ([] : List Tr25)), 0, 0, ([] : List Tr28))) 0 0 x6.1).1.un.2.2.2.2)]) W UZ (by simp) (fun hL => ET _ _ w b1 (Value.slice none 0 0) (Value.slice none 0 0) b2 b3 (Tr28.of (0, Tr25.of (0, 0, 0, ([] : List Tr25)), 0, 0, ([] : List Tr28))) 0 0 x6.1 _ Aa hL) fun x w W => ?_
  obtain ⟨v8, v9⟩ := x
  have W : Stw ⟨Y, [], w0⟩ [(b1, [.int .i64 ((Af (Tr28.of (0, Tr25.of (0, 0, 0, ([] : List Tr25)), 0, 0, ([] : List Tr28))) 0 0 x6.1).1.un.1), .int .i64 ((Af (Tr28.of (0, Tr25.of (0, 0, 0, ([] : List Tr25)), 0, 0, ([] : List Tr28))) 0 0 x6.1).1.un.2.1.un.1), .int .i64 ((Af (Tr28.of (0, Tr25.of (0, 0, 0, ([] : List Tr25)), 0, 0, ([] : List Tr28))) 0 0 x6.1).1.un.2.1.un.2.1), .int .i64 ((Af (Tr28.of (0, Tr25.of (0, 0, 0, ([] : List Tr25)), 0, 0, ([] : List Tr28))) 0 0 x6.1).1.un.2.1.un.2.2.1), v8, .int .i64 ((Af (Tr28.of (0, Tr25.of (0, 0, 0, ([] : List Tr25)), 0, 0, ([] : List Tr28))) 0 0 x6.1).1.un.2.2.1), .int .i64 ((Af (Tr28.of (0, Tr25.of (0, 0, 0, ([] : List Tr25)), 0, 0, ([] : List Tr28))) 0 0 x6.1).1.un.2.2.2.1), v9]), (b2, [.int .i64 ((Af (Tr28.of (0, Tr25.of (0, 0, 0, ([] : List Tr25)), 0, 0, ([] : List Tr28))) 0 0 x6.1).2.1)]), (b3, [.int .i64 ((Af (Tr28.of (0, Tr25.of (0, 0, 0, ([] : List Tr25)), 0, 0, ([] : List Tr28))) 0 0 x6.1).2.2)]), (b4, [v7, .int .i64 x6.2.2])] [AU v8 AR ((Af (Tr28.of (0, Tr25.of (0, 0, 0, ([] : List Tr25)), 0, 0, ([] : List Tr28))) 0 0 x6.1).1.un.2.1.un.2.2.2), AU v9 BD ((Af (Tr28.of (0, Tr25.of (0, 0, 0, ([] : List Tr25)), 0, 0, ([] : List Tr28))) 0 0 x6.1).1.un.2.2.2.2), row v7 98 AC x6.2.1] w := W
  have H := AK H
  subst H
  refine Hx W Aa (A3 0 F Aa Aa FJ Aa) (A3 1 F Aa Aa T3 Aa) (A3 2 F Aa Aa QJ Aa) ?_
  have W := W.frontZ (i := 1) Aa Aa
  have W := W.frontZ (i := 1) Aa Aa
  have W := W.sub (M' := []) (Z' := [AU v8 AR ((Af (Tr28.of (0, Tr25.of (0, 0, 0, ([] : List Tr25)), 0, 0, ([] : List Tr28))) 0 0 x6.1).1.un.2.1.un.2.2.2), AU v9 BD ((Af (Tr28.of (0, Tr25.of (0, 0, 0, ([] : List Tr25)), 0, 0, ([] : List Tr28))) 0 0 x6.1).1.un.2.2.2.2)]) (List.nil_sublist _) (List.Sublist.cons_cons _ (List.Sublist.cons_cons _ (List.nil_sublist _)))
  exact ⟨((v8), (v9)), Aa, W⟩
 have H := EY H
 refine B0 (Ml := []) (Zl := []) (M := (OO b3 b2 b1)) (Z := []) (β := Unit) (pv := fun x => .iface 89 (.agg #[.int .i64 x3.1, .int .i64 x3.2])) (MM := fun x => []) (ZZ := fun x => []) F W U4 Aa (fun hL => GG _ w p0 _ h1) fun x w W => ?_
 have W : Stw ⟨Y, [], w0⟩ (OO b3 b2 b1) [] w := W
 refine BF ?_
 refine FF F ?_
 have W := W.note (Sl.nil (r := AR))
 have W := W.note (Sl.nil (r := BD))
 have W := W.frontZ (i := 1) Aa Aa
 have W := W.frontM (i := 1) Aa Aa
 have W := W.frontM (i := 2) Aa Aa
 refine Hv (Ml := (Tt b1 b2 b3)) (Zl := [AU (Value.slice none 0 0) AR ([]), AU (Value.slice none 0 0) BD ([])]) (M := []) (Z := []) (β := Value × Value) (u' := (.panicking ({ v := .iface 89 (.agg #[.int .i64 x3.1, .int .i64 x3.2]), recovered := true } :: []))) (MM := fun x => [(b1, [.int .i64 ((Af (Tr28.of (0, Tr25.of (0, 0, 0, ([] : List Tr25)), 0, 0, ([] : List Tr28))) 0 0 x3).1.un.1), .int .i64 ((Af (Tr28.of (0, Tr25.of (0, 0, 0, ([] : List Tr25)), 0, 0, ([] : List Tr28))) 0 0 x3).1.un.2.1.un.1), .int .i64 ((Af (Tr28.of (0, Tr25.of (0, 0, 0, ([] : List Tr25)), 0, 0, ([] : List Tr28))) 0 0 x3).1.un.2.1.un.2.1), .int .i64 ((Af (Tr28.of (0, Tr25.of (0, 0, 0, ([] : List Tr25)), 0, 0, ([] : List Tr28))) 0 0 x3).1.un.2.1.un.2.2.1), x.1, .int .i64 ((Af (Tr28.of (0, Tr25.of (0, 0, 0, ([] : List Tr25)), 0, 0, ([] : List Tr28))) 0 0 x3).1.un.2.2.1), .int .i64 ((Af (Tr28.of (0, Tr25.of (0, 0, 0, ([] : List Tr25)), 0, 0, ([] : List Tr28))) 0 0 x3).1.un.2.2.2.1), x.2]), (b2, [.int .i64 ((Af (Tr28.of (0, Tr25.of (0, 0, 0, ([] : List Tr25)), 0, 0, ([] : List Tr28))) 0 0 x3).2.1)]), (b3, [.int .i64 ((Af (Tr28.of (0, Tr25.of (0, 0, 0, ([] : List Tr25)), 0, 0, ([] : List Tr28))) 0 0 x3).2.2)])]) (ZZ := fun x => [AU x.1 AR ((Af (Tr28.of (0, Tr25.of (0, 0, 0, ([] : List Tr25)), 0, 0, ([] : List Tr28))) 0 0 x3).1.un.2.1.un.2.2.2), AU x.2 BD ((Af (Tr28.of (0, Tr25.of (0, 0, 0, ([] : List Tr25)), 0, 0, ([] : List Tr28))) 0 0 x3).1.un.2.2.2.2)]) W UZ (by simp) (fun hL => ET _ _ w b1 (Value.slice none 0 0) (Value.slice none 0 0) b2 b3 (Tr28.of (0, Tr25.of (0, 0, 0, ([] : List Tr25)), 0, 0, ([] : List Tr28))) 0 0 x3 _ Aa hL) fun x w W => ?_
 obtain ⟨v10, v11⟩ := x
 have W : Stw ⟨Y, [], w0⟩ [(b1, [.int .i64 ((Af (Tr28.of (0, Tr25.of (0, 0, 0, ([] : List Tr25)), 0, 0, ([] : List Tr28))) 0 0 x3).1.un.1), .int .i64 ((Af (Tr28.of (0, Tr25.of (0, 0, 0, ([] : List Tr25)), 0, 0, ([] : List Tr28))) 0 0 x3).1.un.2.1.un.1), .int .i64 ((Af (Tr28.of (0, Tr25.of (0, 0, 0, ([] : List Tr25)), 0, 0, ([] : List Tr28))) 0 0 x3).1.un.2.1.un.2.1), .int .i64 ((Af (Tr28.of (0, Tr25.of (0, 0, 0, ([] : List Tr25)), 0, 0, ([] : List Tr28))) 0 0 x3).1.un.2.1.un.2.2.1), v10, .int .i64 ((Af (Tr28.of (0, Tr25.of (0, 0, 0, ([] : List Tr25)), 0, 0, ([] : List Tr28))) 0 0 x3).1.un.2.2.1), .int .i64 ((Af (Tr28.of (0, Tr25.of (0, 0, 0, ([] : List Tr25)), 0, 0, ([] : List Tr28))) 0 0 x3).1.un.2.2.2.1), v11]), (b2, [.int .i64 ((Af (Tr28.of (0, Tr25.of (0, 0, 0, ([] : List Tr25)), 0, 0, ([] : List Tr28))) 0 0 x3).2.1)]), (b3, [.int .i64 ((Af (Tr28.of (0, Tr25.of (0, 0, 0, ([] : List Tr25)), 0, 0, ([] : List Tr28))) 0 0 x3).2.2)])] [AU v10 AR ((Af (Tr28.of (0, Tr25.of (0, 0, 0, ([] : List Tr25)), 0, 0, ([] : List Tr28))) 0 0 x3).1.un.2.1.un.2.2.2), AU v11 BD ((Af (Tr28.of (0, Tr25.of (0, 0, 0, ([] : List Tr25)), 0, 0, ([] : List Tr28))) 0 0 x3).1.un.2.2.2.2)] w := W
 have H := AK H
 subst H
 refine Hx W Aa (A3 0 F Aa Aa FJ Aa) (A3 1 F Aa Aa T3 Aa) (A3 2 F Aa Aa QJ Aa) ?_
 have W := W.frontZ (i := 1) Aa Aa
 have W := W.frontZ (i := 1) Aa Aa
 have W := W.sub (M' := []) (Z' := [AU v10 AR ((Af (Tr28.of (0, Tr25.of (0, 0, 0, ([] : List Tr25)), 0, 0, ([] : List Tr28))) 0 0 x3).1.un.2.1.un.2.2.2), AU v11 BD ((Af (Tr28.of (0, Tr25.of (0, 0, 0, ([] : List Tr25)), 0, 0, ([] : List Tr28))) 0 0 x3).1.un.2.2.2.2)]) (List.nil_sublist _) (List.Sublist.refl _)
 exact ⟨((v10), (v11)), Aa, W⟩
theorem H7 : Has Tryd.prog 7 := ⟨fun args w => An Tryd.func7 rfl (by decide) args w⟩
def AQ (p0 : Int) : List UInt8 := (if p0 = 0 then ([115, 114, 99] : List UInt8) else (if p0 = 1 then ([100, 115, 116] : List UInt8) else (if p0 = 2 then ([107, 105, 110, 100] : List UInt8) else (if p0 = 3 then ([116, 97, 103] : List UInt8) else (if p0 = 4 then ([112, 111, 114, 116] : List UInt8) else (if p0 = 5 then ([115, 119, 105, 116, 99, 104] : List UInt8) else ([63] : List UInt8)))))))
theorem KS (Y : Nat → Prop) (w0 : World)  (p0 : Int) (r : List UInt8) (H : AQ p0 = r)  :
    Calls Tryd.prog 49 #[.int .i64 p0] w0 fun e w' => e = .returned (.string (bs r)) ∧ Below w0.heap.size w0 w' := by
 refine enter Tryd.func49 Aa Tryd.ntmps49 Aa fun a F => ?_
 have W := Stw.start Y w0
 unfold AQ at H
 refine Ak (Ab ?_)
 refine ls F W Aa (Ag (v := Value.string (bs ([] : List UInt8))) F Aa).q fun a w F W => ?_
 refine Ae (Ac (Ak (Ak (Ab ?_))))
 refine ls F W Aa (Ah F Aa).q fun a w F W => ?_
 refine Ae (Ac (AP (Ak (Ab ?_))))
 refine ls F W Aa (Bd F Aa Aa).q fun a w F W => ?_
 refine ls F W Aa (Ag F Aa).q fun a w F W => ?_
 refine Ae (Ac ?_)
 refine Az F Aa (fun hb => ?_) fun hb => ?_
 ·
  have H := AW (Bw hb) H
  rw [hb] at F
  clear hb
  refine Ak (Ab ?_)
  refine ls F W Aa (Ag (v := Value.string (bs ([115, 114, 99] : List UInt8))) F Aa).q fun a w F W => ?_
  refine Ae (Ac (Ax (Bc (AO ?_))))
  subst H
  refine AG (.inl Aa) F W Aa (AD F Aa) ?_
  exact ⟨rfl, W.done⟩
 have H := AY (Bx hb) H
 rw [hb] at F
 clear hb
 refine Ak (Ab ?_)
 refine ls F W Aa (Bd F Aa Aa).q fun a w F W => ?_
 refine ls F W Aa (Ag F Aa).q fun a w F W => ?_
 refine Ae (Ac ?_)
 refine Az F Aa (fun hb => ?_) fun hb => ?_
 ·
  have H := AW (Bw hb) H
  rw [hb] at F
  clear hb
  refine Ak (Ab ?_)
  refine ls F W Aa (Ag (v := Value.string (bs ([100, 115, 116] : List UInt8))) F Aa).q fun a w F W => ?_
  refine Ae (Ac (Ax (Bc (AO ?_))))
  subst H
  refine AG (.inl Aa) F W Aa (AD F Aa) ?_
  exact ⟨rfl, W.done⟩
 have H := AY (Bx hb) H
 rw [hb] at F
 clear hb
 refine Ak (Ab ?_)
 refine ls F W Aa (Bd F Aa Aa).q fun a w F W => ?_
 refine ls F W Aa (Ag F Aa).q fun a w F W => ?_
 refine Ae (Ac ?_)
 refine Az F Aa (fun hb => ?_) fun hb => ?_
 ·
  have H := AW (Bw hb) H
  rw [hb] at F
  clear hb
  refine Ak (Ab ?_)
  refine ls F W Aa (Ag (v := Value.string (bs ([107, 105, 110, 100] : List UInt8))) F Aa).q fun a w F W => ?_
  refine Ae (Ac (Ax (Bc (AO ?_))))
  subst H
  refine AG (.inl Aa) F W Aa (AD F Aa) ?_
  exact ⟨rfl, W.done⟩
 have H := AY (Bx hb) H
 rw [hb] at F
 clear hb
 refine Ak (Ab ?_)
 refine ls F W Aa (Bd F Aa Aa).q fun a w F W => ?_
 refine ls F W Aa (Ag F Aa).q fun a w F W => ?_
 refine Ae (Ac ?_)
 refine Az F Aa (fun hb => ?_) fun hb => ?_
 ·
  have H := AW (Bw hb) H
  rw [hb] at F
  clear hb
  refine Ak (Ab ?_)
  refine ls F W Aa (Ag (v := Value.string (bs ([116, 97, 103] : List UInt8))) F Aa).q fun a w F W => ?_
  refine Ae (Ac (Ax (Bc (AO ?_))))
  subst H
  refine AG (.inl Aa) F W Aa (AD F Aa) ?_
  exact ⟨rfl, W.done⟩
 have H := AY (Bx hb) H
 rw [hb] at F
 clear hb
 refine Ak (Ab ?_)
 refine ls F W Aa (Bd F Aa Aa).q fun a w F W => ?_
 refine ls F W Aa (Ag F Aa).q fun a w F W => ?_
 refine Ae (Ac ?_)
 refine Az F Aa (fun hb => ?_) fun hb => ?_
 ·
  have H := AW (Bw hb) H
  rw [hb] at F
  clear hb
  refine Ak (Ab ?_)
  refine ls F W Aa (Ag (v := Value.string (bs ([112, 111, 114, 116] : List UInt8))) F Aa).q fun a w F W => ?_
  refine Ae (Ac (Ax (Bc (AO ?_))))
  subst H
  refine AG (.inl Aa) F W Aa (AD F Aa) ?_
  exact ⟨rfl, W.done⟩
 have H := AY (Bx hb) H
 rw [hb] at F
 clear hb
 refine Ak (Ab ?_)
 refine ls F W Aa (Bd F Aa Aa).q fun a w F W => ?_
 refine ls F W Aa (Ag F Aa).q fun a w F W => ?_
 refine Ae (Ac ?_)
 refine Az F Aa (fun hb => ?_) fun hb => ?_
 ·
  have H := AW (Bw hb) H
  rw [hb] at F
  clear hb
  refine Ak (Ab ?_)
  refine ls F W Aa (Ag (v := Value.string (bs ([115, 119, 105, 116, 99, 104] : List UInt8))) F Aa).q fun a w F W => ?_
  refine Ae (Ac (Ax (Bc (AO ?_))))
  subst H
  refine AG (.inl Aa) F W Aa (AD F Aa) ?_
  exact ⟨rfl, W.done⟩
 have H := AY (Bx hb) H
 rw [hb] at F
 clear hb
 refine AA (Bn (Ac (Ak (Ab ?_))))
 refine ls F W Aa (Ag (v := Value.string (bs ([63] : List UInt8))) F Aa).q fun a w F W => ?_
 refine Ae (Ac (Ax ?_))
 subst H
 refine AG (.inl Aa) F W Aa (AD F Aa) ?_
 exact ⟨rfl, W.done⟩
theorem Vj : type_of% Tryd.underlying78 := Tryd.underlying78
theorem V8 : Has Tryd.prog 49 := ⟨fun args w => An Tryd.func49 rfl (by decide) args w⟩
theorem VX : Has Tryd.prog 43 := ⟨fun args w => An Tryd.func43 rfl (by decide) args w⟩
theorem QE : Ty Tryd.prog 23 false 1 := ⟨by kernel_rfl, by kernel_rfl⟩
theorem U0 : Has Tryd.prog 21 := ⟨fun args w => An Tryd.func21 rfl (by decide) args w⟩
theorem Z9 : (Tryd.prog.info? 9).bind (·.zero) = some (.string (bs ([] : List UInt8))) := by kernel_rfl
theorem Uj : Et Tryd.prog 78 9 1 16 := Et.of Vj (by kernel_rfl) (by kernel_rfl) (by kernel_rfl) (by decide)
theorem UQ : Has Tryd.prog 44 := ⟨fun args w => An Tryd.func44 rfl (by decide) args w⟩
noncomputable def CG (fRec_pred_Text : Tr25 → Option (List UInt8)) (p0 : List Tr25) : (List (List UInt8) × Int) → Option ((List (List UInt8) × Int) ⊕ (List (List UInt8)))
  | (x2, x3) => (if x3 < (p0.length : Int) then (ix p0 x3).bind fun x4 => (fRec_pred_Text x4).bind fun x5 => (if (decide (x4.un.1 = 5) || decide (x4.un.1 = 6)) = true then (DQ ([40] : List UInt8) x5).bind fun x7 => (DQ x7 ([41] : List UInt8)).bind fun x8 => some x8 else some x5).bind fun x6 => (DQ x2 ([x6] : List (List UInt8))).bind fun x9 => some (.inl (x9, DP (x3 + 1))) else some (.inr x2))
noncomputable def DI (fRec_pred_Text : Tr25 → Option (List UInt8)) (p0 : List Tr25) (p1 : List UInt8) : Option (List UInt8) := (Br (CG fRec_pred_Text p0) ([], 0)).bind fun x1 => (HM x1 p1).bind fun x10 => some x10
theorem Jb (fRec_pred_Text : Tr25 → Option (List UInt8)) (ih_pred_Text : ∀ (Y : Nat → Prop) (w0 : World) (v1 : Value) (p0 : Tr25) (r : List UInt8) (H : fRec_pred_Text p0 = some r) (h_v1 : Sl w0 (NX []) AR v1 p0.un.2.2.2) (hG : Gk [] w0), Calls Tryd.prog 21 #[.agg #[.int .i64 p0.un.1, .int .i64 p0.un.2.1, .int .i64 p0.un.2.2.1, v1]] w0 fun e w' => e = .returned (.string (bs r)) ∧ Below w0.heap.size w0 w') (Y : Nat → Prop) (w0 : World) (v1 : Value) (p0 : List Tr25) (p1 : List UInt8) (r : List UInt8) (H : DI fRec_pred_Text p0 p1 = some r) (h_v1 : Sl w0 (NX []) AR v1 p0) (hG : Gk [] w0) :
    Calls Tryd.prog 50 #[v1, .string (bs p1)] w0 fun e w' => e = .returned (.string (bs r)) ∧ Below w0.heap.size w0 w' := by
 refine enter Tryd.func50 Aa Tryd.ntmps50 Aa fun a F => ?_
 have W := Stw.start Y w0
 obtain ⟨v2, h1, h_v1⟩ := h_v1.ex FZ
 unfold DI at H
 refine Ak (Ab ?_)
 refine ls F W Aa (Ag (v := Value.string (bs ([] : List UInt8))) F Aa).q fun a w F W => ?_
 refine Ae (Ac (Ak (Ab ?_)))
 refine ls F W Aa (Ag F Aa).q fun a w F W => ?_
 refine Ae (Ac ?_)
 obtain ⟨o1, G1, K1⟩ := Aq H
 refine A1 (fun a w => ∃ x1 : List (List UInt8), ∃ v3 : Value, some (x1) = some o1 ∧ Fr 36 [] [(1, .string (bs p1)), (4, .string (bs ([] : List UInt8))), (5, v3)] a ∧ Stw ⟨Y, [], w0⟩ [] [row v3 9 Rp.str x1] w) ?_ ?_
 ·
  have H := G1
  clear G1 K1
  refine Ak (Ab ?_)
  refine ls F W Aa (Ah F Aa).q fun a w F W => ?_
  refine ls F W Aa (D7 (r := AR) (l := p0) SE Aa F Aa (AM FZ h1 (Ay h_v1))).q fun a w F W => ?_
  refine ls F W Aa (Ah F Aa).q fun a w F W => ?_
  refine Ae (Ac (AP ?_))
  have W := W.nilRow 9 Rp.str
  refine Cx H (fun s a w => ∃ v4 : Value, Fr 36 [] [(1, .string (bs p1)), (4, .string (bs ([] : List UInt8))), (5, v4), (9, v1), (10, .int .i64 (p0.length : Int)), (11, .int .i64 s.2)] a ∧ Stw ⟨Y, [], w0⟩ [] [row v4 9 Rp.str s.1] w) ⟨(Value.slice none 0 0), F.re ⟨rfl, Aa, Aa, Aa, Aa, Aa, trivial⟩, W⟩ fun s o a w H L2 hR => ?_
  obtain ⟨x2, x3⟩ := s
  obtain ⟨v4, F, W⟩ := hR
  have F : Fr 36 [] [(1, .string (bs p1)), (4, .string (bs ([] : List UInt8))), (5, v4), (9, v1), (10, .int .i64 (p0.length : Int)), (11, .int .i64 x3)] a := F
  have W : Stw ⟨Y, [], w0⟩ [] [row v4 9 Rp.str x2] w := W
  rw [CG] at H
  refine Ak (Ab ?_)
  refine ls F W Aa (Co F Aa Aa).q fun a w F W => ?_
  refine Ae (Ac (Ak ?_))
  refine Az F Aa (fun hb => ?_) fun hb => ?_
  ·
   have H := AW (Bw hb) H
   rw [hb] at F
   clear hb
   refine AA (Ac (Ak (AP (Ak (Ab ?_)))))
   obtain ⟨x4, h2, H⟩ := Aq H
   obtain ⟨v5, h3, h4⟩ := D5 h1 h2
   have h5 : Oc v5 = [.int .i64 x4.un.1, .int .i64 x4.un.2.1, .int .i64 x4.un.2.2.1, (v5.2.2.2.1)] := congrArg (fun q : Tr25 => ([.int .i64 q.un.1, .int .i64 q.un.2.1, .int .i64 q.un.2.2.1, (v5.2.2.2.1)] : List Value)) h4
   refine ls F W Aa (Cg (r := Ln) Rl F Aa Aa (Ay h_v1) h3).q fun a w F W => ?_
   refine ls F W Aa (BC (y := Value.agg #[.int .i64 x4.un.1, .int .i64 x4.un.2.1, .int .i64 x4.un.2.2.1, (v5.2.2.2.1)]) (j := 0) (i := x3) (enc := Oc) F Aa Aa (Ay h_v1) h3 SQ FW (by rw [h5]; rfl)).q fun a w F W => ?_
   refine Bi (cs := (Ct)) F W Aa NI Aa fun b1 a w F W => ?_
   refine AL (vs := [.int .i64 x4.un.1, .int .i64 x4.un.2.1, .int .i64 x4.un.2.2.1, (v5.2.2.2.1)]) (M' := [(b1, [.int .i64 x4.un.1, .int .i64 x4.un.2.1, .int .i64 x4.un.2.2.1, (v5.2.2.2.1)])]) 0 F W Aa Aa Aa FW Aa Aa Aa (Ai Aa (Ai Aa (Ai Aa (Ai ((Ci (Ay h_v1) h3 (AE.snd (AE.snd (AE.snd AE.here))) (congrArg (fun q : Tr25 => q.un.2.2.2) h4)) _ W).one Bp)))) Aa fun w W => ?_
   refine Ae (Ac (Ak (Ab ?_)))
   refine ls F W Aa (Av (v := Value.agg #[.int .i64 x4.un.1, .int .i64 x4.un.2.1, .int .i64 x4.un.2.2.1, (v5.2.2.2.1)]) 0 F Aa Aa FW Aa).q fun a w F W => ?_
   obtain ⟨x5, h6, H⟩ := Aq H
   refine ls F W Aa (A0 (v := Value.string (bs x5)) F U0 Aa (fun w W => ih_pred_Text any w ((v5.2.2.2.1)) x4 _ h6 (((Ci (Ay h_v1) h3 (AE.snd (AE.snd (AE.snd AE.here))) (congrArg (fun q : Tr25 => q.un.2.2.2) h4)) : DZ _ _ _ _ _ _) w W).nx (hG.go0 W))) fun a w F W => ?_
   refine ls F W Aa (Ag F Aa).q fun a w F W => ?_
   refine Ae (Ac ?_)
   obtain ⟨o3, G3, K3⟩ := Aq H
   refine A1 (fun a w => ∃ x6 : List UInt8, some (x6) = some o3 ∧ Fr 36 [] [(1, .string (bs p1)), (4, .string (bs ([] : List UInt8))), (5, v4), (8, .string (bs x6)), (9, v1), (10, .int .i64 (p0.length : Int)), (11, .int .i64 x3)] a ∧ Stw ⟨Y, [], w0⟩ [(b1, [.int .i64 x4.un.1, .int .i64 x4.un.2.1, .int .i64 x4.un.2.2.1, (v5.2.2.2.1)])] [row v4 9 Rp.str x2] w) ?_ ?_
   ·
    have H := G3
    clear G3 K3
    refine A1 (fun a w => Fr 36 [] [(1, .string (bs p1)), (4, .string (bs ([] : List UInt8))), (5, v4), (8, .string (bs x5)), (9, v1), (10, .int .i64 (p0.length : Int)), (11, .int .i64 x3), (24, .bool (decide (x4.un.1 = 5) || decide (x4.un.1 = 6)))] a ∧ Stw ⟨Y, [], w0⟩ [(b1, [.int .i64 x4.un.1, .int .i64 x4.un.2.1, .int .i64 x4.un.2.2.1, (v5.2.2.2.1)])] [row v4 9 Rp.str x2] w) ?_ ?_
    ·
     refine Ab ?_
     refine ls F W Aa (Aj Ja Aa Aa Aa T3 F Aa 0 Aa).q fun a w F W => ?_
     refine ls F W Aa (Av (v := Value.int .i64 x4.un.1) 0 F Aa Aa T3 Aa).q fun a w F W => ?_
     refine ls F W Aa (Bd F Aa Aa).q fun a w F W => ?_
     refine ls F W Aa (Ah F Aa).q fun a w F W => ?_
     rcases Bool.eq_false_or_eq_true (decide (x4.un.1 = 5)) with hb0 | hb0
     ·
      rw [hb0] at F
      iterate 3 refine Cd F Aa Aa Aa Aa Aa Aa Aa fun a F => ?_
      refine ls F W Aa (As F Aa Aa Aa).q fun a w F W => ?_
      refine Ae (Ac ?_)
      exact ⟨F.re ⟨rfl, Aa, Aa, Aa, Aa, Aa, Aa, (Dq (by try rw [hb0]; all_goals simp only [Dr])), trivial⟩, W⟩
     rw [hb0] at F
     refine Au F W (Ad F Aa Aa Aa Aa) Aa (Al Aa) (Aj Ja Aa Aa Aa T3 F Aa 0 Aa).q fun a w F W => ?_
     refine Au F W (Ad F Aa Aa Aa Aa) Aa (Al Aa) (Av (v := Value.int .i64 x4.un.1) 0 F Aa Aa T3 Aa).q fun a w F W => ?_
     refine Au F W (Ad F Aa Aa Aa Aa) Aa (Al Aa) (Bd F Aa Aa).q fun a w F W => ?_
     refine ls F W Aa (Ap F Aa Aa Aa).q fun a w F W => ?_
     refine Ae (Ac ?_)
     exact ⟨F.re ⟨rfl, Aa, Aa, Aa, Aa, Aa, Aa, (Dq (by try rw [hb0]; all_goals simp only [Dr])), trivial⟩, W⟩
    rintro a w ⟨F, W⟩
    refine Az F Aa (fun hb => ?_) fun hb => ?_
    ·
     have H := AW hb H
     rw [hb] at F
     clear hb
     refine Ab ?_
     refine ls F W Aa (Ah F Aa).q fun a w F W => ?_
     obtain ⟨x7, h7, H⟩ := Aq H
     refine ls F W Aa (Cw (l := ([40] : List UInt8)) (m := x5) F Aa Aa h7).q fun a w F W => ?_
     obtain ⟨x8, h8, H⟩ := Aq H
     refine ls F W Aa (Cw (l := x7) (m := ([41] : List UInt8)) F Aa Aa h8).q fun a w F W => ?_
     refine ls F W Aa (Ag F Aa).q fun a w F W => ?_
     refine Ae (Ac ?_)
     exact ⟨_, H, F.re ⟨rfl, Aa, Aa, Aa, Aa, Aa, Aa, trivial⟩, W⟩
    have H := AY (by rw [hb]; decide) H
    rw [hb] at F
    clear hb
    refine AA (Ac ?_)
    exact ⟨_, H, F.re ⟨rfl, Aa, Aa, Aa, Aa, Aa, Aa, trivial⟩, W⟩
   rintro a w ⟨x6, hj, F, W⟩
   have hj := AK hj
   subst hj
   have H := K3
   clear G3 K3
   refine Ab ?_
   iterate 2 refine ls F W Aa (Ah F Aa).q fun a w F W => ?_
   refine FN (z := Value.string (bs ([] : List UInt8))) (cs := [.string (bs x6)]) Rp.str ([x6] : List (List UInt8)) F W Aa Uj Z9 Aa Aa Aa Aa Aa Aa (Fl.str.repL _ _ ([x6] : List (List UInt8))) fun v6 a w F W => ?_
   obtain ⟨x9, h9, H⟩ := Aq H
   refine EP (r := Rp.str) (i := 1) F W Aa Uj Aa Aa Aa Aa (Fv W 0 Aa) h9 Aa fun v7 a w F W => ?_
   have W : Stw ⟨Y, [], w0⟩ [(b1, [.int .i64 x4.un.1, .int .i64 x4.un.2.1, .int .i64 x4.un.2.2.1, (v5.2.2.2.1)])] [row v7 9 Rp.str x9, row v6 9 Rp.str ([x6] : List (List UInt8))] w := W
   refine ls F W Aa (Ag F Aa).q fun a w F W => ?_
   refine Ae (Bn (Ac (Ab ?_)))
   refine ls F W Aa (C5 F Aa Aa Aa).q fun a w F W => ?_
   refine ls F W Aa (Ah F Aa).q fun a w F W => ?_
   refine Ae (Ac ?_)
   have W := W.sub (M' := []) (Z' := [row v7 9 Rp.str x9]) (List.nil_sublist _) (List.Sublist.cons_cons _ (List.nil_sublist _))
   exact ⟨_, H, (v7), F.re ⟨rfl, Aa, Aa, Aa, Aa, Aa, trivial⟩, W⟩
  have H := AY (Bx hb) H
  rw [hb] at F
  clear hb
  refine Cz ?_
  iterate 2 refine C8 ?_
  refine Cy (Ac ?_)
  have H := L2 _ H
  exact ⟨_, (v4), H, F.re ⟨rfl, Aa, Aa, trivial⟩, W⟩
 rintro a w ⟨x1, v3, hj, F, W⟩
 have hj := AK hj
 subst hj
 have H := K1
 clear G1 K1
 refine Ak (Ab ?_)
 iterate 2 refine ls F W Aa (Ah F Aa).q fun a w F W => ?_
 obtain ⟨x10, h10, H⟩ := Aq H
 refine ls F W Aa (A0 (v := Value.string (bs x10)) F UQ Aa (fun w W => NV any w (v3) x1 p1 _ h10 (((BP 0 Aa) : DZ _ _ _ _ _ _) w W).nx)) fun a w F W => ?_
 refine ls F W Aa (Ag F Aa).q fun a w F W => ?_
 refine Ae (Ac (Ax ?_))
 have H := AK H
 subst H
 refine AG (.inl Aa) F W Aa (AD F Aa) ?_
 exact ⟨rfl, W.done⟩
theorem Vp : Has Tryd.prog 50 := ⟨fun args w => An Tryd.func50 rfl (by decide) args w⟩
noncomputable def CZ (fRec : Tr25 → Option (List UInt8)) (p0 : Tr25) : Option (List UInt8) := (if p0.un.1 = 1 then some ([116, 114, 117, 101] : List UInt8) else (if p0.un.1 = 2 then some ([102, 97, 108, 115, 101] : List UInt8) else (if p0.un.1 = 3 then (DQ (AQ p0.un.2.1) ([32, 61, 32] : List UInt8)).bind fun x1 => (Mo p0.un.2.2.1).bind fun x2 => (DQ x1 x2).bind fun x3 => some x3 else (if p0.un.1 = 4 then ((DI fRec) p0.un.2.2.2 ([] : List UInt8)).bind fun x4 => (DQ ([110, 111, 116, 32] : List UInt8) x4).bind fun x5 => some x5 else (if p0.un.1 = 5 then ((DI fRec) p0.un.2.2.2 ([32, 97, 110, 100, 32] : List UInt8)).bind fun x6 => some x6 else (if p0.un.1 = 6 then ((DI fRec) p0.un.2.2.2 ([32, 111, 114, 32] : List UInt8)).bind fun x7 => some x7 else some ([63] : List UInt8)))))))
noncomputable def CV : Nat → Tr25 → Option (List UInt8)
  | 0 => fun _ => none
  | n + 1 => CZ (CV n)
noncomputable def Ga (p0 : Tr25) : Option (List UInt8) := FY fun n => CV n p0
theorem MY (fRec : Tr25 → Option (List UInt8)) (ih : ∀ (Y : Nat → Prop) (w0 : World) (v1 : Value) (p0 : Tr25) (r : List UInt8) (H : fRec p0 = some r) (h_v1 : Sl w0 (NX []) AR v1 p0.un.2.2.2) (hG : Gk [] w0), Calls Tryd.prog 21 #[.agg #[.int .i64 p0.un.1, .int .i64 p0.un.2.1, .int .i64 p0.un.2.2.1, v1]] w0 fun e w' => e = .returned (.string (bs r)) ∧ Below w0.heap.size w0 w') (Y : Nat → Prop) (w0 : World) (v1 : Value) (p0 : Tr25) (r : List UInt8) (H : CZ fRec p0 = some r) (h_v1 : Sl w0 (NX []) AR v1 p0.un.2.2.2) (hG : Gk [] w0) :
    Calls Tryd.prog 21 #[.agg #[.int .i64 p0.un.1, .int .i64 p0.un.2.1, .int .i64 p0.un.2.2.1, v1]] w0 fun e w' => e = .returned (.string (bs r)) ∧ Below w0.heap.size w0 w' := by
 refine enter Tryd.func21 Aa Tryd.ntmps21 Aa fun a F => ?_
 have W := Stw.start Y w0
 obtain ⟨v2, h1, h_v1⟩ := h_v1.ex FZ
 unfold CZ at H
 refine Ak (Ab ?_)
 refine D6 (cs := (M4 p0 v1)) F W Aa Aa Aa fun b1 a w F W => ?_
 refine ls F W Aa (Ag (v := Value.string (bs ([] : List UInt8))) F Aa).q fun a w F W => ?_
 refine Ae (Ac (Ak (Ak (Ab ?_))))
 refine ls F W Aa (Aj Ja Aa Aa Aa T3 F Aa 0 Aa).q fun a w F W => ?_
 refine ls F W Aa (Av (v := Value.int .i64 p0.un.1) 0 F Aa Aa T3 Aa).q fun a w F W => ?_
 refine Ae (Ac (AP (Ak (Ab ?_))))
 refine ls F W Aa (Bd F Aa Aa).q fun a w F W => ?_
 refine ls F W Aa (Ag F Aa).q fun a w F W => ?_
 refine Ae (Ac ?_)
 refine Az F Aa (fun hb => ?_) fun hb => ?_
 ·
  have H := AW (Bw hb) H
  rw [hb] at F
  clear hb
  refine Ak (Ab ?_)
  refine ls F W Aa (Ag (v := Value.string (bs ([116, 114, 117, 101] : List UInt8))) F Aa).q fun a w F W => ?_
  refine Ae (Ac (Ax (Bc (AO ?_))))
  have H := AK H
  subst H
  refine AG (.inl Aa) F W Aa (AD F Aa) ?_
  exact ⟨rfl, W.done⟩
 have H := AY (Bx hb) H
 rw [hb] at F
 clear hb
 refine Ak (Ab ?_)
 refine ls F W Aa (Bd F Aa Aa).q fun a w F W => ?_
 refine ls F W Aa (Ag F Aa).q fun a w F W => ?_
 refine Ae (Ac ?_)
 refine Az F Aa (fun hb => ?_) fun hb => ?_
 ·
  have H := AW (Bw hb) H
  rw [hb] at F
  clear hb
  refine Ak (Ab ?_)
  refine ls F W Aa (Ag (v := Value.string (bs ([102, 97, 108, 115, 101] : List UInt8))) F Aa).q fun a w F W => ?_
  refine Ae (Ac (Ax (Bc (AO ?_))))
  have H := AK H
  subst H
  refine AG (.inl Aa) F W Aa (AD F Aa) ?_
  exact ⟨rfl, W.done⟩
 have H := AY (Bx hb) H
 rw [hb] at F
 clear hb
 refine Ak (Ab ?_)
 refine ls F W Aa (Bd F Aa Aa).q fun a w F W => ?_
 refine ls F W Aa (Ag F Aa).q fun a w F W => ?_
 refine Ae (Ac ?_)
 refine Az F Aa (fun hb => ?_) fun hb => ?_
 ·
  have H := AW (Bw hb) H
  rw [hb] at F
  clear hb
  refine Ak ?_
  refine EQ W MO (by kernel_rfl) ?_
  refine qs F Aa (Aj Ja Aa Aa Aa T3 F Aa 1 Aa).q fun a F => ?_
  refine qs F Aa (Av (v := Value.int .i64 p0.un.2.1) 0 F Aa Aa T3 Aa).q fun a F => ?_
  refine qs F Aa (A0 (v := Value.string (bs (AQ p0.un.2.1))) F V8 Aa (fun w W => KS any w p0.un.2.1 _ Aa)) fun a F => ?_
  obtain ⟨x1, h2, H⟩ := Aq H
  refine qs F Aa (Cw (l := (AQ p0.un.2.1)) (m := ([32, 61, 32] : List UInt8)) F Aa Aa h2).q fun a F => ?_
  refine qs F Aa (Aj Ja Aa Aa Aa T3 F Aa 2 Aa).q fun a F => ?_
  refine qs F Aa (Av (v := Value.int .i64 p0.un.2.2.1) 0 F Aa Aa T3 Aa).q fun a F => ?_
  obtain ⟨x2, h3, H⟩ := Aq H
  refine qs F Aa (A0 (v := Value.string (bs x2)) F VX Aa (fun w W => SC any w p0.un.2.2.1 _ h3 (hG.go0 W))) fun a F => ?_
  obtain ⟨x3, h4, H⟩ := Aq H
  refine qs F Aa (Cw (l := x1) (m := x2) F Aa Aa h4).q fun a F => ?_
  refine qs F Aa (Ag F Aa).q fun a F => ?_
  refine Cr fun w W => ?_
  refine Ac (Ax (Bc (AO ?_)))
  have H := AK H
  subst H
  refine AG (.inl Aa) F W Aa (AD F Aa) ?_
  exact ⟨rfl, W.done⟩
 have H := AY (Bx hb) H
 rw [hb] at F
 clear hb
 refine Ak (Ab ?_)
 refine ls F W Aa (Bd F Aa Aa).q fun a w F W => ?_
 refine ls F W Aa (Ag F Aa).q fun a w F W => ?_
 refine Ae (Ac ?_)
 refine Az F Aa (fun hb => ?_) fun hb => ?_
 ·
  have H := AW (Bw hb) H
  rw [hb] at F
  clear hb
  refine Ak (Ab ?_)
  refine ls F W Aa (Aj Ja Aa Aa Aa QE F Aa 3 Aa).q fun a w F W => ?_
  refine ls F W Aa (Av (v := v1) 0 F Aa Aa QE Aa).q fun a w F W => ?_
  obtain ⟨x4, h5, H⟩ := Aq H
  refine ls F W Aa (A0 (v := Value.string (bs x4)) F Vp Aa (fun w W => (Jb fRec ih) any w (v1) p0.un.2.2.2 ([] : List UInt8) _ h5 (((AM FZ h1 (Ay h_v1)) : DZ _ _ _ _ _ _) w W).nx (hG.go0 W))) fun a w F W => ?_
  obtain ⟨x5, h6, H⟩ := Aq H
  refine ls F W Aa (Cw (l := ([110, 111, 116, 32] : List UInt8)) (m := x4) F Aa Aa h6).q fun a w F W => ?_
  refine ls F W Aa (Ag F Aa).q fun a w F W => ?_
  refine Ae (Ac (Ax (Bc (AO ?_))))
  have H := AK H
  subst H
  refine AG (.inl Aa) F W Aa (AD F Aa) ?_
  exact ⟨rfl, W.done⟩
 have H := AY (Bx hb) H
 rw [hb] at F
 clear hb
 refine Ak (Ab ?_)
 refine ls F W Aa (Bd F Aa Aa).q fun a w F W => ?_
 refine ls F W Aa (Ag F Aa).q fun a w F W => ?_
 refine Ae (Ac ?_)
 refine Az F Aa (fun hb => ?_) fun hb => ?_
 ·
  have H := AW (Bw hb) H
  rw [hb] at F
  clear hb
  refine Ak (Ab ?_)
  refine ls F W Aa (Aj Ja Aa Aa Aa QE F Aa 3 Aa).q fun a w F W => ?_
  refine ls F W Aa (Av (v := v1) 0 F Aa Aa QE Aa).q fun a w F W => ?_
  obtain ⟨x6, h7, H⟩ := Aq H
  refine ls F W Aa (A0 (v := Value.string (bs x6)) F Vp Aa (fun w W => (Jb fRec ih) any w (v1) p0.un.2.2.2 ([32, 97, 110, 100, 32] : List UInt8) _ h7 (((AM FZ h1 (Ay h_v1)) : DZ _ _ _ _ _ _) w W).nx (hG.go0 W))) fun a w F W => ?_
  refine ls F W Aa (Ag F Aa).q fun a w F W => ?_
  refine Ae (Ac (Ax (Bc (AO ?_))))
  have H := AK H
  subst H
  refine AG (.inl Aa) F W Aa (AD F Aa) ?_
  exact ⟨rfl, W.done⟩
 have H := AY (Bx hb) H
 rw [hb] at F
 clear hb
 refine Ak (Ab ?_)
 refine ls F W Aa (Bd F Aa Aa).q fun a w F W => ?_
 refine ls F W Aa (Ag F Aa).q fun a w F W => ?_
 refine Ae (Ac ?_)
 refine Az F Aa (fun hb => ?_) fun hb => ?_
 ·
  have H := AW (Bw hb) H
  rw [hb] at F
  clear hb
  refine Ak (Ab ?_)
  refine ls F W Aa (Aj Ja Aa Aa Aa QE F Aa 3 Aa).q fun a w F W => ?_
  refine ls F W Aa (Av (v := v1) 0 F Aa Aa QE Aa).q fun a w F W => ?_
  obtain ⟨x7, h8, H⟩ := Aq H
  refine ls F W Aa (A0 (v := Value.string (bs x7)) F Vp Aa (fun w W => (Jb fRec ih) any w (v1) p0.un.2.2.2 ([32, 111, 114, 32] : List UInt8) _ h8 (((AM FZ h1 (Ay h_v1)) : DZ _ _ _ _ _ _) w W).nx (hG.go0 W))) fun a w F W => ?_
  refine ls F W Aa (Ag F Aa).q fun a w F W => ?_
  refine Ae (Ac (Ax (Bc (AO ?_))))
  have H := AK H
  subst H
  refine AG (.inl Aa) F W Aa (AD F Aa) ?_
  exact ⟨rfl, W.done⟩
 have H := AY (Bx hb) H
 rw [hb] at F
 clear hb
 refine AA (Bn (Ac (Ak (Ab ?_))))
 refine ls F W Aa (Ag (v := Value.string (bs ([63] : List UInt8))) F Aa).q fun a w F W => ?_
 refine Ae (Ac (Ax ?_))
 have H := AK H
 subst H
 refine AG (.inl Aa) F W Aa (AD F Aa) ?_
 exact ⟨rfl, W.done⟩
theorem N9 : ∀ (n : Nat) (Y : Nat → Prop) (w0 : World) (v1 : Value) (p0 : Tr25) (r : List UInt8) (H : CV n p0 = some r) (h_v1 : Sl w0 (NX []) AR v1 p0.un.2.2.2) (hG : Gk [] w0), Calls Tryd.prog 21 #[.agg #[.int .i64 p0.un.1, .int .i64 p0.un.2.1, .int .i64 p0.un.2.2.1, v1]] w0 fun e w' => e = .returned (.string (bs r)) ∧ Below w0.heap.size w0 w' := by
  intro n
  induction n with
  | zero => intro Y w0 v1 p0 r H; exact nomatch H
  | succ n ih => intro Y w0 v1 p0 r H h_v1 hG; exact MY (CV n) ih Y w0 v1 p0 r H h_v1 hG
theorem IQ (Y : Nat → Prop) (w0 : World) (v1 : Value) (p0 : Tr25) (r : List UInt8) (H : Ga p0 = some r) (h_v1 : Sl w0 (NX []) AR v1 p0.un.2.2.2) (hG : Gk [] w0) :
    Calls Tryd.prog 21 #[.agg #[.int .i64 p0.un.1, .int .i64 p0.un.2.1, .int .i64 p0.un.2.2.1, v1]] w0 fun e w' => e = .returned (.string (bs r)) ∧ Below w0.heap.size w0 w' := by
  obtain ⟨n, H⟩ := BR H
  exact N9 n Y w0 v1 p0 r H h_v1 hG
noncomputable def Dd (p0 : Tr25) : Option (List UInt8) := (if p0.un.1 = 1 then some ([105, 100] : List UInt8) else (if p0.un.1 = 2 then some ([100, 114, 111, 112] : List UInt8) else (Ga p0).bind fun x1 => (DQ ([119, 104, 101, 110, 32] : List UInt8) x1).bind fun x2 => some x2))
theorem Jr (Y : Nat → Prop) (w0 : World) (v1 : Value) (p0 : Tr25) (r : List UInt8) (H : Dd p0 = some r) (h_v1 : Sl w0 (NX []) AR v1 p0.un.2.2.2) (hG : Gk [] w0) :
    Calls Tryd.prog 41 #[.agg #[.int .i64 p0.un.1, .int .i64 p0.un.2.1, .int .i64 p0.un.2.2.1, v1]] w0 fun e w' => e = .returned (.string (bs r)) ∧ Below w0.heap.size w0 w' := by
 refine enter Tryd.func41 Aa Tryd.ntmps41 Aa fun a F => ?_
 have W := Stw.start Y w0
 obtain ⟨v2, h1, h_v1⟩ := h_v1.ex FZ
 unfold Dd at H
 refine Ak (Ab ?_)
 refine D6 (cs := (M4 p0 v1)) F W Aa Aa Aa fun b1 a w F W => ?_
 refine ls F W Aa (Ag (v := Value.string (bs ([] : List UInt8))) F Aa).q fun a w F W => ?_
 refine Ae (Ac (Ak (Ak (Ab ?_))))
 refine ls F W Aa (Aj Ja Aa Aa Aa T3 F Aa 0 Aa).q fun a w F W => ?_
 refine ls F W Aa (Av (v := Value.int .i64 p0.un.1) 0 F Aa Aa T3 Aa).q fun a w F W => ?_
 refine Ae (Ac (AP (Ak (Ab ?_))))
 refine ls F W Aa (Bd F Aa Aa).q fun a w F W => ?_
 refine ls F W Aa (Ag F Aa).q fun a w F W => ?_
 refine Ae (Ac ?_)
 refine Az F Aa (fun hb => ?_) fun hb => ?_
 ·
  have H := AW (Bw hb) H
  rw [hb] at F
  clear hb
  refine Ak (Ab ?_)
  refine ls F W Aa (Ag (v := Value.string (bs ([105, 100] : List UInt8))) F Aa).q fun a w F W => ?_
  refine Ae (Ac (Ax (Bc (AO ?_))))
  have H := AK H
  subst H
  refine AG (.inl Aa) F W Aa (AD F Aa) ?_
  exact ⟨rfl, W.done⟩
 have H := AY (Bx hb) H
 rw [hb] at F
 clear hb
 refine Ak (Ab ?_)
 refine ls F W Aa (Bd F Aa Aa).q fun a w F W => ?_
 refine ls F W Aa (Ag F Aa).q fun a w F W => ?_
 refine Ae (Ac ?_)
 refine Az F Aa (fun hb => ?_) fun hb => ?_
 ·
  have H := AW (Bw hb) H
  rw [hb] at F
  clear hb
  refine Ak (Ab ?_)
  refine ls F W Aa (Ag (v := Value.string (bs ([100, 114, 111, 112] : List UInt8))) F Aa).q fun a w F W => ?_
  refine Ae (Ac (Ax (Bc (AO ?_))))
  have H := AK H
  subst H
  refine AG (.inl Aa) F W Aa (AD F Aa) ?_
  exact ⟨rfl, W.done⟩
 have H := AY (Bx hb) H
 rw [hb] at F
 clear hb
 refine AA (Bn (Ac (Ak (Ab ?_))))
 refine ls F W Aa (Av (v := Value.agg #[.int .i64 p0.un.1, .int .i64 p0.un.2.1, .int .i64 p0.un.2.2.1, v1]) 0 F Aa Aa FW Aa).q fun a w F W => ?_
 obtain ⟨x1, h2, H⟩ := Aq H
 refine ls F W Aa (A0 (v := Value.string (bs x1)) F U0 Aa (fun w W => IQ any w (v1) p0 _ h2 (((AM FZ h1 (Ay h_v1)) : DZ _ _ _ _ _ _) w W).nx (hG.go0 W))) fun a w F W => ?_
 obtain ⟨x2, h3, H⟩ := Aq H
 refine ls F W Aa (Cw (l := ([119, 104, 101, 110, 32] : List UInt8)) (m := x1) F Aa Aa h3).q fun a w F W => ?_
 refine ls F W Aa (Ag F Aa).q fun a w F W => ?_
 refine Ae (Ac (Ax ?_))
 have H := AK H
 subst H
 refine AG (.inl Aa) F W Aa (AD F Aa) ?_
 exact ⟨rfl, W.done⟩
theorem Wm : Has Tryd.prog 41 := ⟨fun args w => An Tryd.func41 rfl (by decide) args w⟩
def BW (p0 : Int) : List UInt8 := (if p0 = 0 then ([115, 114, 99] : List UInt8) else (if p0 = 1 then ([100, 115, 116] : List UInt8) else (if p0 = 2 then ([107, 105, 110, 100] : List UInt8) else (if p0 = 3 then ([116, 97, 103] : List UInt8) else (if p0 = 4 then ([112, 111, 114, 116] : List UInt8) else ([63] : List UInt8))))))
theorem J1 (Y : Nat → Prop) (w0 : World)  (p0 : Int) (r : List UInt8) (H : BW p0 = r)  :
    Calls Tryd.prog 42 #[.int .i64 p0] w0 fun e w' => e = .returned (.string (bs r)) ∧ Below w0.heap.size w0 w' := by
 refine enter Tryd.func42 Aa Tryd.ntmps42 Aa fun a F => ?_
 have W := Stw.start Y w0
 unfold BW at H
 refine Ak (Ab ?_)
 refine ls F W Aa (Ag (v := Value.string (bs ([] : List UInt8))) F Aa).q fun a w F W => ?_
 refine Ae (Ac (Ak (Ak (Ab ?_))))
 refine ls F W Aa (Ah F Aa).q fun a w F W => ?_
 refine Ae (Ac (AP (Ak (Ab ?_))))
 refine ls F W Aa (Bd F Aa Aa).q fun a w F W => ?_
 refine ls F W Aa (Ag F Aa).q fun a w F W => ?_
 refine Ae (Ac ?_)
 refine Az F Aa (fun hb => ?_) fun hb => ?_
 ·
  have H := AW (Bw hb) H
  rw [hb] at F
  clear hb
  refine Ak (Ab ?_)
  refine ls F W Aa (Ag (v := Value.string (bs ([115, 114, 99] : List UInt8))) F Aa).q fun a w F W => ?_
  refine Ae (Ac (Ax (Bc (AO ?_))))
  subst H
  refine AG (.inl Aa) F W Aa (AD F Aa) ?_
  exact ⟨rfl, W.done⟩
 have H := AY (Bx hb) H
 rw [hb] at F
 clear hb
 refine Ak (Ab ?_)
 refine ls F W Aa (Bd F Aa Aa).q fun a w F W => ?_
 refine ls F W Aa (Ag F Aa).q fun a w F W => ?_
 refine Ae (Ac ?_)
 refine Az F Aa (fun hb => ?_) fun hb => ?_
 ·
  have H := AW (Bw hb) H
  rw [hb] at F
  clear hb
  refine Ak (Ab ?_)
  refine ls F W Aa (Ag (v := Value.string (bs ([100, 115, 116] : List UInt8))) F Aa).q fun a w F W => ?_
  refine Ae (Ac (Ax (Bc (AO ?_))))
  subst H
  refine AG (.inl Aa) F W Aa (AD F Aa) ?_
  exact ⟨rfl, W.done⟩
 have H := AY (Bx hb) H
 rw [hb] at F
 clear hb
 refine Ak (Ab ?_)
 refine ls F W Aa (Bd F Aa Aa).q fun a w F W => ?_
 refine ls F W Aa (Ag F Aa).q fun a w F W => ?_
 refine Ae (Ac ?_)
 refine Az F Aa (fun hb => ?_) fun hb => ?_
 ·
  have H := AW (Bw hb) H
  rw [hb] at F
  clear hb
  refine Ak (Ab ?_)
  refine ls F W Aa (Ag (v := Value.string (bs ([107, 105, 110, 100] : List UInt8))) F Aa).q fun a w F W => ?_
  refine Ae (Ac (Ax (Bc (AO ?_))))
  subst H
  refine AG (.inl Aa) F W Aa (AD F Aa) ?_
  exact ⟨rfl, W.done⟩
 have H := AY (Bx hb) H
 rw [hb] at F
 clear hb
 refine Ak (Ab ?_)
 refine ls F W Aa (Bd F Aa Aa).q fun a w F W => ?_
 refine ls F W Aa (Ag F Aa).q fun a w F W => ?_
 refine Ae (Ac ?_)
 refine Az F Aa (fun hb => ?_) fun hb => ?_
 ·
  have H := AW (Bw hb) H
  rw [hb] at F
  clear hb
  refine Ak (Ab ?_)
  refine ls F W Aa (Ag (v := Value.string (bs ([116, 97, 103] : List UInt8))) F Aa).q fun a w F W => ?_
  refine Ae (Ac (Ax (Bc (AO ?_))))
  subst H
  refine AG (.inl Aa) F W Aa (AD F Aa) ?_
  exact ⟨rfl, W.done⟩
 have H := AY (Bx hb) H
 rw [hb] at F
 clear hb
 refine Ak (Ab ?_)
 refine ls F W Aa (Bd F Aa Aa).q fun a w F W => ?_
 refine ls F W Aa (Ag F Aa).q fun a w F W => ?_
 refine Ae (Ac ?_)
 refine Az F Aa (fun hb => ?_) fun hb => ?_
 ·
  have H := AW (Bw hb) H
  rw [hb] at F
  clear hb
  refine Ak (Ab ?_)
  refine ls F W Aa (Ag (v := Value.string (bs ([112, 111, 114, 116] : List UInt8))) F Aa).q fun a w F W => ?_
  refine Ae (Ac (Ax (Bc (AO ?_))))
  subst H
  refine AG (.inl Aa) F W Aa (AD F Aa) ?_
  exact ⟨rfl, W.done⟩
 have H := AY (Bx hb) H
 rw [hb] at F
 clear hb
 refine AA (Bn (Ac (Ak (Ab ?_))))
 refine ls F W Aa (Ag (v := Value.string (bs ([63] : List UInt8))) F Aa).q fun a w F W => ?_
 refine Ae (Ac (Ax ?_))
 subst H
 refine AG (.inl Aa) F W Aa (AD F Aa) ?_
 exact ⟨rfl, W.done⟩
theorem Wi : Has Tryd.prog 42 := ⟨fun args w => An Tryd.func42 rfl (by decide) args w⟩
theorem PL : Ty Tryd.prog 26 false 1 := ⟨by kernel_rfl, by kernel_rfl⟩
theorem U9 : Has Tryd.prog 17 := ⟨fun args w => An Tryd.func17 rfl (by decide) args w⟩
noncomputable def Bu (fRec_policy_Text : Tr28 → Option (List UInt8)) (p0 : List Tr28) : (List (List UInt8) × Int) → Option ((List (List UInt8) × Int) ⊕ (List (List UInt8)))
  | (x2, x3) => (if x3 < (p0.length : Int) then (ix p0 x3).bind fun x4 => (fRec_policy_Text (Tr28.of (x4.un.1, Tr25.of (x4.un.2.1.un.1, x4.un.2.1.un.2.1, x4.un.2.1.un.2.2.1, x4.un.2.1.un.2.2.2), x4.un.2.2.1, x4.un.2.2.2.1, x4.un.2.2.2.2))).bind fun x5 => (if (decide (x4.un.1 = 3) || (decide (x4.un.1 = 4) || decide (x4.un.1 = 5))) = true then (DQ ([40] : List UInt8) x5).bind fun x7 => (DQ x7 ([41] : List UInt8)).bind fun x8 => some x8 else some x5).bind fun x6 => (DQ x2 ([x6] : List (List UInt8))).bind fun x9 => some (.inl (x9, DP (x3 + 1))) else some (.inr x2))
noncomputable def BJ (fRec_policy_Text : Tr28 → Option (List UInt8)) (p0 : List Tr28) : Option (List (List UInt8)) := (Br (Bu fRec_policy_Text p0) ([], 0)).bind fun x1 => some x1
theorem Fh (fRec_policy_Text : Tr28 → Option (List UInt8)) (ih_policy_Text : ∀ (Y : Nat → Prop) (w0 : World) (v1 : Value) (v2 : Value) (p0 : Tr28) (r : List UInt8) (H : fRec_policy_Text p0 = some r) (h_v1 : Sl w0 (NX []) AR v1 p0.un.2.1.un.2.2.2) (h_v2 : Sl w0 (NX []) BD v2 p0.un.2.2.2.2) (hG : Gk [] w0), Calls Tryd.prog 17 #[.agg #[.int .i64 p0.un.1, .int .i64 p0.un.2.1.un.1, .int .i64 p0.un.2.1.un.2.1, .int .i64 p0.un.2.1.un.2.2.1, v1, .int .i64 p0.un.2.2.1, .int .i64 p0.un.2.2.2.1, v2]] w0 fun e w' => e = .returned (.string (bs r)) ∧ Below w0.heap.size w0 w') (Y : Nat → Prop) (w0 : World) (v1 : Value) (p0 : List Tr28) (r : List (List UInt8)) (H : BJ fRec_policy_Text p0 = some r) (h_v1 : Sl w0 (NX []) BD v1 p0) (hG : Gk [] w0) :
    Calls Tryd.prog 45 #[v1] w0 fun e w' => ∃ x : Value, e = .returned (x) ∧ Stw ⟨Y, [], w0⟩ [] [row (x) 9 Rp.str r] w' := by
 refine enter Tryd.func45 Aa Tryd.ntmps45 Aa fun a F => ?_
 have W := Stw.start Y w0
 obtain ⟨v2, h1, h_v1⟩ := h_v1.ex Js
 unfold BJ at H
 refine Ak (Ab ?_)
 refine ls F W Aa (Ag F Aa).q fun a w F W => ?_
 refine Ae (Ac (Ak (Ab ?_)))
 refine ls F W Aa (Ag F Aa).q fun a w F W => ?_
 refine Ae (Ac ?_)
 obtain ⟨o1, G1, K1⟩ := Aq H
 refine A1 (fun a w => ∃ x1 : List (List UInt8), ∃ v3 : Value, some (x1) = some o1 ∧ Fr 37 [] [(2, .slice none 0 0), (3, v3)] a ∧ Stw ⟨Y, [], w0⟩ [] [row v3 9 Rp.str x1] w) ?_ ?_
 ·
  have H := G1
  clear G1 K1
  refine Ak (Ab ?_)
  refine ls F W Aa (Ah F Aa).q fun a w F W => ?_
  refine ls F W Aa (D7 (r := BD) (l := p0) Rz Aa F Aa (AM Js h1 (Ay h_v1))).q fun a w F W => ?_
  refine ls F W Aa (Ah F Aa).q fun a w F W => ?_
  refine Ae (Ac (AP ?_))
  have W := W.nilRow 9 Rp.str
  refine Cx H (fun s a w => ∃ v4 : Value, Fr 37 [] [(2, .slice none 0 0), (3, v4), (7, v1), (8, .int .i64 (p0.length : Int)), (9, .int .i64 s.2)] a ∧ Stw ⟨Y, [], w0⟩ [] [row v4 9 Rp.str s.1] w) ⟨(Value.slice none 0 0), F.re ⟨rfl, Aa, Aa, Aa, Aa, trivial⟩, W⟩ fun s o a w H L2 hR => ?_
  obtain ⟨x2, x3⟩ := s
  obtain ⟨v4, F, W⟩ := hR
  have F : Fr 37 [] [(2, .slice none 0 0), (3, v4), (7, v1), (8, .int .i64 (p0.length : Int)), (9, .int .i64 x3)] a := F
  have W : Stw ⟨Y, [], w0⟩ [] [row v4 9 Rp.str x2] w := W
  rw [Bu] at H
  refine Ak (Ab ?_)
  refine ls F W Aa (Co F Aa Aa).q fun a w F W => ?_
  refine Ae (Ac (Ak ?_))
  refine Az F Aa (fun hb => ?_) fun hb => ?_
  ·
   have H := AW (Bw hb) H
   rw [hb] at F
   clear hb
   refine AA (Ac (Ak (AP (Ak (Ab ?_)))))
   obtain ⟨x4, h2, H⟩ := Aq H
   obtain ⟨v5, h3, h4⟩ := D5 h1 h2
   have h5 : Ow v5 = [.int .i64 x4.un.1, .int .i64 x4.un.2.1.un.1, .int .i64 x4.un.2.1.un.2.1, .int .i64 x4.un.2.1.un.2.2.1, (v5.2.1.2.2.2.1), .int .i64 x4.un.2.2.1, .int .i64 x4.un.2.2.2.1, (v5.2.2.2.2.1)] := congrArg (fun q : Tr28 => ([.int .i64 q.un.1, .int .i64 q.un.2.1.un.1, .int .i64 q.un.2.1.un.2.1, .int .i64 q.un.2.1.un.2.2.1, (v5.2.1.2.2.2.1), .int .i64 q.un.2.2.1, .int .i64 q.un.2.2.2.1, (v5.2.2.2.2.1)] : List Value)) h4
   refine ls F W Aa (Cg (r := PB) Re F Aa Aa (Ay h_v1) h3).q fun a w F W => ?_
   refine ls F W Aa (BC (y := Value.agg #[.int .i64 x4.un.1, .int .i64 x4.un.2.1.un.1, .int .i64 x4.un.2.1.un.2.1, .int .i64 x4.un.2.1.un.2.2.1, (v5.2.1.2.2.2.1), .int .i64 x4.un.2.2.1, .int .i64 x4.un.2.2.2.1, (v5.2.2.2.2.1)]) (j := 0) (i := x3) (enc := Ow) F Aa Aa (Ay h_v1) h3 SS FJ (by rw [h5]; rfl)).q fun a w F W => ?_
   refine Bi (cs := (BM)) F W Aa Lh Aa fun b1 a w F W => ?_
   refine AL (vs := [.int .i64 x4.un.1, .int .i64 x4.un.2.1.un.1, .int .i64 x4.un.2.1.un.2.1, .int .i64 x4.un.2.1.un.2.2.1, (v5.2.1.2.2.2.1), .int .i64 x4.un.2.2.1, .int .i64 x4.un.2.2.2.1, (v5.2.2.2.2.1)]) (M' := [(b1, [.int .i64 x4.un.1, .int .i64 x4.un.2.1.un.1, .int .i64 x4.un.2.1.un.2.1, .int .i64 x4.un.2.1.un.2.2.1, (v5.2.1.2.2.2.1), .int .i64 x4.un.2.2.1, .int .i64 x4.un.2.2.2.1, (v5.2.2.2.2.1)])]) 0 F W Aa Aa Aa FJ Aa Aa Aa (Ai Aa (Ai Aa (Ai Aa (Ai Aa (Ai ((Ci (Ay h_v1) h3 (AE.snd (AE.fst (AE.snd (AE.snd (AE.snd AE.here))))) (congrArg (fun q : Tr28 => q.un.2.1.un.2.2.2) h4)) _ W).one (Ai Aa (Ai Aa (Ai ((Ci (Ay h_v1) h3 (AE.snd (AE.snd (AE.snd (AE.snd AE.here)))) (congrArg (fun q : Tr28 => q.un.2.2.2.2) h4)) _ W).one Bp)))))))) Aa fun w W => ?_
   refine Ae (Ac (Ak (Ab ?_)))
   refine ls F W Aa (Av (v := Value.agg #[.int .i64 x4.un.1, .int .i64 x4.un.2.1.un.1, .int .i64 x4.un.2.1.un.2.1, .int .i64 x4.un.2.1.un.2.2.1, (v5.2.1.2.2.2.1), .int .i64 x4.un.2.2.1, .int .i64 x4.un.2.2.2.1, (v5.2.2.2.2.1)]) 0 F Aa Aa FJ Aa).q fun a w F W => ?_
   obtain ⟨x5, h6, H⟩ := Aq H
   refine ls F W Aa (A0 (v := Value.string (bs x5)) F U9 Aa (fun w W => ih_policy_Text any w ((v5.2.1.2.2.2.1)) ((v5.2.2.2.2.1)) (Tr28.of (x4.un.1, Tr25.of (x4.un.2.1.un.1, x4.un.2.1.un.2.1, x4.un.2.1.un.2.2.1, x4.un.2.1.un.2.2.2), x4.un.2.2.1, x4.un.2.2.2.1, x4.un.2.2.2.2)) _ h6 (((Ci (Ay h_v1) h3 (AE.snd (AE.fst (AE.snd (AE.snd (AE.snd AE.here))))) (congrArg (fun q : Tr28 => q.un.2.1.un.2.2.2) h4)) : DZ _ _ _ _ _ _) w W).nx (((Ci (Ay h_v1) h3 (AE.snd (AE.snd (AE.snd (AE.snd AE.here)))) (congrArg (fun q : Tr28 => q.un.2.2.2.2) h4)) : DZ _ _ _ _ _ _) w W).nx (hG.go0 W))) fun a w F W => ?_
   refine ls F W Aa (Ag F Aa).q fun a w F W => ?_
   refine Ae (Ac ?_)
   obtain ⟨o3, G3, K3⟩ := Aq H
   refine A1 (fun a w => ∃ x6 : List UInt8, some (x6) = some o3 ∧ Fr 37 [] [(2, .slice none 0 0), (3, v4), (6, .string (bs x6)), (7, v1), (8, .int .i64 (p0.length : Int)), (9, .int .i64 x3)] a ∧ Stw ⟨Y, [], w0⟩ [(b1, [.int .i64 x4.un.1, .int .i64 x4.un.2.1.un.1, .int .i64 x4.un.2.1.un.2.1, .int .i64 x4.un.2.1.un.2.2.1, (v5.2.1.2.2.2.1), .int .i64 x4.un.2.2.1, .int .i64 x4.un.2.2.2.1, (v5.2.2.2.2.1)])] [row v4 9 Rp.str x2] w) ?_ ?_
   ·
    have H := G3
    clear G3 K3
    refine A1 (fun a w => Fr 37 [] [(2, .slice none 0 0), (3, v4), (6, .string (bs x5)), (7, v1), (8, .int .i64 (p0.length : Int)), (9, .int .i64 x3), (27, .bool (decide (x4.un.1 = 3) || (decide (x4.un.1 = 4) || decide (x4.un.1 = 5))))] a ∧ Stw ⟨Y, [], w0⟩ [(b1, [.int .i64 x4.un.1, .int .i64 x4.un.2.1.un.1, .int .i64 x4.un.2.1.un.2.1, .int .i64 x4.un.2.1.un.2.2.1, (v5.2.1.2.2.2.1), .int .i64 x4.un.2.2.1, .int .i64 x4.un.2.2.2.1, (v5.2.2.2.2.1)])] [row v4 9 Rp.str x2] w) ?_ ?_
    ·
     refine Ab ?_
     refine ls F W Aa (Aj Hl Aa Aa Aa T3 F Aa 0 Aa).q fun a w F W => ?_
     refine ls F W Aa (Av (v := Value.int .i64 x4.un.1) 0 F Aa Aa T3 Aa).q fun a w F W => ?_
     refine ls F W Aa (Bd F Aa Aa).q fun a w F W => ?_
     refine ls F W Aa (Ah F Aa).q fun a w F W => ?_
     rcases Bool.eq_false_or_eq_true (decide (x4.un.1 = 3)) with hb0 | hb0
     ·
      rw [hb0] at F
      iterate 3 refine Cd F Aa Aa Aa Aa Aa Aa Aa fun a F => ?_
      refine ls F W Aa (As F Aa Aa Aa).q fun a w F W => ?_
      refine ls F W Aa (Ah F Aa).q fun a w F W => ?_
      iterate 3 refine Cd F Aa Aa Aa Aa Aa Aa Aa fun a F => ?_
      refine ls F W Aa (As F Aa Aa Aa).q fun a w F W => ?_
      refine Ae (Ac ?_)
      exact ⟨F.re ⟨rfl, Aa, Aa, Aa, Aa, Aa, (Dq (by try rw [hb0]; all_goals simp only [Dr])), trivial⟩, W⟩
     rw [hb0] at F
     refine Au F W (Ad F Aa Aa Aa Aa) Aa (Al Aa) (Aj Hl Aa Aa Aa T3 F Aa 0 Aa).q fun a w F W => ?_
     refine Au F W (Ad F Aa Aa Aa Aa) Aa (Al Aa) (Av (v := Value.int .i64 x4.un.1) 0 F Aa Aa T3 Aa).q fun a w F W => ?_
     refine Au F W (Ad F Aa Aa Aa Aa) Aa (Al Aa) (Bd F Aa Aa).q fun a w F W => ?_
     refine ls F W Aa (Ap F Aa Aa Aa).q fun a w F W => ?_
     refine ls F W Aa (Ah F Aa).q fun a w F W => ?_
     rcases Bool.eq_false_or_eq_true (decide (x4.un.1 = 4)) with hb1 | hb1
     ·
      rw [hb1] at F
      iterate 3 refine Cd F Aa Aa Aa Aa Aa Aa Aa fun a F => ?_
      refine ls F W Aa (As F Aa Aa Aa).q fun a w F W => ?_
      refine Ae (Ac ?_)
      exact ⟨F.re ⟨rfl, Aa, Aa, Aa, Aa, Aa, (Dq (by try rw [hb0]; try rw [hb1]; all_goals simp only [Dr])), trivial⟩, W⟩
     rw [hb1] at F
     refine Au F W (Ad F Aa Aa Aa Aa) Aa (Al Aa) (Aj Hl Aa Aa Aa T3 F Aa 0 Aa).q fun a w F W => ?_
     refine Au F W (Ad F Aa Aa Aa Aa) Aa (Al Aa) (Av (v := Value.int .i64 x4.un.1) 0 F Aa Aa T3 Aa).q fun a w F W => ?_
     refine Au F W (Ad F Aa Aa Aa Aa) Aa (Al Aa) (Bd F Aa Aa).q fun a w F W => ?_
     refine ls F W Aa (Ap F Aa Aa Aa).q fun a w F W => ?_
     refine Ae (Ac ?_)
     exact ⟨F.re ⟨rfl, Aa, Aa, Aa, Aa, Aa, (Dq (by try rw [hb0]; try rw [hb1]; all_goals simp only [Dr])), trivial⟩, W⟩
    rintro a w ⟨F, W⟩
    refine Az F Aa (fun hb => ?_) fun hb => ?_
    ·
     have H := AW hb H
     rw [hb] at F
     clear hb
     refine Ab ?_
     refine ls F W Aa (Ah F Aa).q fun a w F W => ?_
     obtain ⟨x7, h7, H⟩ := Aq H
     refine ls F W Aa (Cw (l := ([40] : List UInt8)) (m := x5) F Aa Aa h7).q fun a w F W => ?_
     obtain ⟨x8, h8, H⟩ := Aq H
     refine ls F W Aa (Cw (l := x7) (m := ([41] : List UInt8)) F Aa Aa h8).q fun a w F W => ?_
     refine ls F W Aa (Ag F Aa).q fun a w F W => ?_
     refine Ae (Ac ?_)
     exact ⟨_, H, F.re ⟨rfl, Aa, Aa, Aa, Aa, Aa, trivial⟩, W⟩
    have H := AY (by rw [hb]; decide) H
    rw [hb] at F
    clear hb
    refine AA (Ac ?_)
    exact ⟨_, H, F.re ⟨rfl, Aa, Aa, Aa, Aa, Aa, trivial⟩, W⟩
   rintro a w ⟨x6, hj, F, W⟩
   have hj := AK hj
   subst hj
   have H := K3
   clear G3 K3
   refine Ab ?_
   iterate 2 refine ls F W Aa (Ah F Aa).q fun a w F W => ?_
   refine FN (z := Value.string (bs ([] : List UInt8))) (cs := [.string (bs x6)]) Rp.str ([x6] : List (List UInt8)) F W Aa Uj Z9 Aa Aa Aa Aa Aa Aa (Fl.str.repL _ _ ([x6] : List (List UInt8))) fun v6 a w F W => ?_
   obtain ⟨x9, h9, H⟩ := Aq H
   refine EP (r := Rp.str) (i := 1) F W Aa Uj Aa Aa Aa Aa (Fv W 0 Aa) h9 Aa fun v7 a w F W => ?_
   have W : Stw ⟨Y, [], w0⟩ [(b1, [.int .i64 x4.un.1, .int .i64 x4.un.2.1.un.1, .int .i64 x4.un.2.1.un.2.1, .int .i64 x4.un.2.1.un.2.2.1, (v5.2.1.2.2.2.1), .int .i64 x4.un.2.2.1, .int .i64 x4.un.2.2.2.1, (v5.2.2.2.2.1)])] [row v7 9 Rp.str x9, row v6 9 Rp.str ([x6] : List (List UInt8))] w := W
   refine ls F W Aa (Ag F Aa).q fun a w F W => ?_
   refine Ae (Bn (Ac (Ab ?_)))
   refine ls F W Aa (C5 F Aa Aa Aa).q fun a w F W => ?_
   refine ls F W Aa (Ah F Aa).q fun a w F W => ?_
   refine Ae (Ac ?_)
   have W := W.sub (M' := []) (Z' := [row v7 9 Rp.str x9]) (List.nil_sublist _) (List.Sublist.cons_cons _ (List.nil_sublist _))
   exact ⟨_, H, (v7), F.re ⟨rfl, Aa, Aa, Aa, Aa, trivial⟩, W⟩
  have H := AY (Bx hb) H
  rw [hb] at F
  clear hb
  refine Cz ?_
  iterate 2 refine C8 ?_
  refine Cy (Ac ?_)
  have H := L2 _ H
  exact ⟨_, (v4), H, F.re ⟨rfl, Aa, trivial⟩, W⟩
 rintro a w ⟨x1, v3, hj, F, W⟩
 have hj := AK hj
 subst hj
 have H := K1
 clear G1 K1
 refine Ak (Ab ?_)
 refine ls F W Aa (Ah F Aa).q fun a w F W => ?_
 refine ls F W Aa (Ag F Aa).q fun a w F W => ?_
 refine Ae (Ac (Ax ?_))
 have H := AK H
 subst H
 refine AG (.inl Aa) F W Aa (AD F Aa) ?_
 exact ⟨(v3), Aa, W⟩
theorem Vb : Has Tryd.prog 45 := ⟨fun args w => An Tryd.func45 rfl (by decide) args w⟩
abbrev Gu (a0 : Tr28) (a1 : Value) (a2 : Value) : List Value := [.int .i64 a0.un.1, .int .i64 a0.un.2.1.un.1, .int .i64 a0.un.2.1.un.2.1, .int .i64 a0.un.2.1.un.2.2.1, a1, .int .i64 a0.un.2.2.1, .int .i64 a0.un.2.2.2.1, a2]
abbrev NF (a0 : Nat) (a1 : Tr28) (a2 : Value) (a3 : Value) : List (Nat × List Value) := [(a0, [.int .i64 a1.un.1, .int .i64 a1.un.2.1.un.1, .int .i64 a1.un.2.1.un.2.1, .int .i64 a1.un.2.1.un.2.2.1, a2, .int .i64 a1.un.2.2.1, .int .i64 a1.un.2.2.2.1, a3])]
noncomputable def CF (fRec : Tr28 → Option (List UInt8)) (p0 : Tr28) : Option (List UInt8) := (if p0.un.1 = 1 then (Dd (Tr25.of (p0.un.2.1.un.1, p0.un.2.1.un.2.1, p0.un.2.1.un.2.2.1, p0.un.2.1.un.2.2.2))).bind fun x1 => some x1 else (if p0.un.1 = 2 then (DQ (BW p0.un.2.2.1) ([32, 58, 61, 32] : List UInt8)).bind fun x2 => (Mo p0.un.2.2.2.1).bind fun x3 => (DQ x2 x3).bind fun x4 => some x4 else (if p0.un.1 = 3 then ((BJ fRec) p0.un.2.2.2.2).bind fun x5 => (HM x5 ([59, 32] : List UInt8)).bind fun x6 => some x6 else (if p0.un.1 = 4 then ((BJ fRec) p0.un.2.2.2.2).bind fun x7 => (HM x7 ([32, 124, 32] : List UInt8)).bind fun x8 => some x8 else (if p0.un.1 = 5 then (Ga (Tr25.of (p0.un.2.1.un.1, p0.un.2.1.un.2.1, p0.un.2.1.un.2.2.1, p0.un.2.1.un.2.2.2))).bind fun x9 => (DQ ([105, 102, 32] : List UInt8) x9).bind fun x10 => (DQ x10 ([32, 116, 104, 101, 110, 32] : List UInt8)).bind fun x11 => ((BJ fRec) p0.un.2.2.2.2).bind fun x12 => (HM x12 ([32, 101, 108, 115, 101, 32] : List UInt8)).bind fun x13 => (DQ x11 x13).bind fun x14 => some x14 else some ([63] : List UInt8))))))
noncomputable def Cn : Nat → Tr28 → Option (List UInt8)
  | 0 => fun _ => none
  | n + 1 => CF (Cn n)
noncomputable def FG (p0 : Tr28) : Option (List UInt8) := FY fun n => Cn n p0
theorem Lx (fRec : Tr28 → Option (List UInt8)) (ih : ∀ (Y : Nat → Prop) (w0 : World) (v1 : Value) (v2 : Value) (p0 : Tr28) (r : List UInt8) (H : fRec p0 = some r) (h_v1 : Sl w0 (NX []) AR v1 p0.un.2.1.un.2.2.2) (h_v2 : Sl w0 (NX []) BD v2 p0.un.2.2.2.2) (hG : Gk [] w0), Calls Tryd.prog 17 #[.agg #[.int .i64 p0.un.1, .int .i64 p0.un.2.1.un.1, .int .i64 p0.un.2.1.un.2.1, .int .i64 p0.un.2.1.un.2.2.1, v1, .int .i64 p0.un.2.2.1, .int .i64 p0.un.2.2.2.1, v2]] w0 fun e w' => e = .returned (.string (bs r)) ∧ Below w0.heap.size w0 w') (Y : Nat → Prop) (w0 : World) (v1 : Value) (v2 : Value) (p0 : Tr28) (r : List UInt8) (H : CF fRec p0 = some r) (h_v1 : Sl w0 (NX []) AR v1 p0.un.2.1.un.2.2.2) (h_v2 : Sl w0 (NX []) BD v2 p0.un.2.2.2.2) (hG : Gk [] w0) :
    Calls Tryd.prog 17 #[.agg #[.int .i64 p0.un.1, .int .i64 p0.un.2.1.un.1, .int .i64 p0.un.2.1.un.2.1, .int .i64 p0.un.2.1.un.2.2.1, v1, .int .i64 p0.un.2.2.1, .int .i64 p0.un.2.2.2.1, v2]] w0 fun e w' => e = .returned (.string (bs r)) ∧ Below w0.heap.size w0 w' := by
 refine enter Tryd.func17 Aa Tryd.ntmps17 Aa fun a F => ?_
 have W := Stw.start Y w0
 obtain ⟨v3, h1, h_v1⟩ := h_v1.ex FZ
 obtain ⟨v4, h2, h_v2⟩ := h_v2.ex Js
 unfold CF at H
 refine Ak (Ab ?_)
 refine D6 (cs := (Gu p0 v1 v2)) F W Aa Aa Aa fun b1 a w F W => ?_
 refine ls F W Aa (Ag (v := Value.string (bs ([] : List UInt8))) F Aa).q fun a w F W => ?_
 refine Ae (Ac (Ak (Ak (Ab ?_))))
 refine ls F W Aa (Aj Hl Aa Aa Aa T3 F Aa 0 Aa).q fun a w F W => ?_
 refine ls F W Aa (Av (v := Value.int .i64 p0.un.1) 0 F Aa Aa T3 Aa).q fun a w F W => ?_
 refine Ae (Ac (AP (Ak (Ab ?_))))
 refine ls F W Aa (Bd F Aa Aa).q fun a w F W => ?_
 refine ls F W Aa (Ag F Aa).q fun a w F W => ?_
 refine Ae (Ac ?_)
 refine Az F Aa (fun hb => ?_) fun hb => ?_
 ·
  have H := AW (Bw hb) H
  rw [hb] at F
  clear hb
  refine Ak (Ab ?_)
  refine ls F W Aa (Aj Hl Aa Aa Aa FW F Aa 1 Aa).q fun a w F W => ?_
  refine ls F W Aa (Av (v := Value.agg #[.int .i64 p0.un.2.1.un.1, .int .i64 p0.un.2.1.un.2.1, .int .i64 p0.un.2.1.un.2.2.1, v1]) 0 F Aa Aa FW Aa).q fun a w F W => ?_
  obtain ⟨x1, h3, H⟩ := Aq H
  refine ls F W Aa (A0 (v := Value.string (bs x1)) F Wm Aa (fun w W => Jr any w (v1) (Tr25.of (p0.un.2.1.un.1, p0.un.2.1.un.2.1, p0.un.2.1.un.2.2.1, p0.un.2.1.un.2.2.2)) _ h3 (((AM FZ h1 (Ay h_v1)) : DZ _ _ _ _ _ _) w W).nx (hG.go0 W))) fun a w F W => ?_
  refine ls F W Aa (Ag F Aa).q fun a w F W => ?_
  refine Ae (Ac (Ax (Bc (AO ?_))))
  have H := AK H
  subst H
  refine AG (.inl Aa) F W Aa (AD F Aa) ?_
  exact ⟨rfl, W.done⟩
 have H := AY (Bx hb) H
 rw [hb] at F
 clear hb
 refine Ak (Ab ?_)
 refine ls F W Aa (Bd F Aa Aa).q fun a w F W => ?_
 refine ls F W Aa (Ag F Aa).q fun a w F W => ?_
 refine Ae (Ac ?_)
 refine Az F Aa (fun hb => ?_) fun hb => ?_
 ·
  have H := AW (Bw hb) H
  rw [hb] at F
  clear hb
  refine Ak ?_
  refine EQ W MO (by kernel_rfl) ?_
  refine qs F Aa (Aj Hl Aa Aa Aa T3 F Aa 5 Aa).q fun a F => ?_
  refine qs F Aa (Av (v := Value.int .i64 p0.un.2.2.1) 0 F Aa Aa T3 Aa).q fun a F => ?_
  refine qs F Aa (A0 (v := Value.string (bs (BW p0.un.2.2.1))) F Wi Aa (fun w W => J1 any w p0.un.2.2.1 _ Aa)) fun a F => ?_
  obtain ⟨x2, h4, H⟩ := Aq H
  refine qs F Aa (Cw (l := (BW p0.un.2.2.1)) (m := ([32, 58, 61, 32] : List UInt8)) F Aa Aa h4).q fun a F => ?_
  refine qs F Aa (Aj Hl Aa Aa Aa T3 F Aa 6 Aa).q fun a F => ?_
  refine qs F Aa (Av (v := Value.int .i64 p0.un.2.2.2.1) 0 F Aa Aa T3 Aa).q fun a F => ?_
  obtain ⟨x3, h5, H⟩ := Aq H
  refine qs F Aa (A0 (v := Value.string (bs x3)) F VX Aa (fun w W => SC any w p0.un.2.2.2.1 _ h5 (hG.go0 W))) fun a F => ?_
  obtain ⟨x4, h6, H⟩ := Aq H
  refine qs F Aa (Cw (l := x2) (m := x3) F Aa Aa h6).q fun a F => ?_
  refine qs F Aa (Ag F Aa).q fun a F => ?_
  refine Cr fun w W => ?_
  refine Ac (Ax (Bc (AO ?_)))
  have H := AK H
  subst H
  refine AG (.inl Aa) F W Aa (AD F Aa) ?_
  exact ⟨rfl, W.done⟩
 have H := AY (Bx hb) H
 rw [hb] at F
 clear hb
 refine Ak (Ab ?_)
 refine ls F W Aa (Bd F Aa Aa).q fun a w F W => ?_
 refine ls F W Aa (Ag F Aa).q fun a w F W => ?_
 refine Ae (Ac ?_)
 refine Az F Aa (fun hb => ?_) fun hb => ?_
 ·
  have H := AW (Bw hb) H
  rw [hb] at F
  clear hb
  refine Ak (Ab ?_)
  refine ls F W Aa (Aj Hl Aa Aa Aa PL F Aa 7 Aa).q fun a w F W => ?_
  refine ls F W Aa (Av (v := v2) 0 F Aa Aa PL Aa).q fun a w F W => ?_
  obtain ⟨x5, h7, H⟩ := Aq H
  refine A2 (Ml := []) (Zl := []) (M := (NF b1 p0 v1 v2)) (Z := []) (β := Value) (rv := fun x => x) (MM := fun x => []) (ZZ := fun x => [row x 9 Rp.str x5]) F W Vb Aa Aa (fun hL => (Fh fRec ih) _ w (v2) p0.un.2.2.2.2 _ h7 ((AM Js h2 (Ay h_v2)) w W).nx (hG.go0 W)) fun x a w F W => ?_
  obtain ⟨v5, rfl⟩ : ∃ y, y = x := ⟨x, rfl⟩
  have W : Stw ⟨Y, [], w0⟩ (NF b1 p0 v1 v2) [row v5 9 Rp.str x5] w := W
  obtain ⟨x6, h8, H⟩ := Aq H
  refine ls F W Aa (A0 (v := Value.string (bs x6)) F UQ Aa (fun w W => NV any w (v5) x5 ([59, 32] : List UInt8) _ h8 (((BP 0 Aa) : DZ _ _ _ _ _ _) w W).nx)) fun a w F W => ?_
  refine ls F W Aa (Ag F Aa).q fun a w F W => ?_
  refine Ae (Ac (Ax (Bc (AO ?_))))
  have H := AK H
  subst H
  refine AG (.inl Aa) F W Aa (AD F Aa) ?_
  exact ⟨rfl, W.done⟩
 have H := AY (Bx hb) H
 rw [hb] at F
 clear hb
 refine Ak (Ab ?_)
 refine ls F W Aa (Bd F Aa Aa).q fun a w F W => ?_
 refine ls F W Aa (Ag F Aa).q fun a w F W => ?_
 refine Ae (Ac ?_)
 refine Az F Aa (fun hb => ?_) fun hb => ?_
 ·
  have H := AW (Bw hb) H
  rw [hb] at F
  clear hb
  refine Ak (Ab ?_)
  refine ls F W Aa (Aj Hl Aa Aa Aa PL F Aa 7 Aa).q fun a w F W => ?_
  refine ls F W Aa (Av (v := v2) 0 F Aa Aa PL Aa).q fun a w F W => ?_
  obtain ⟨x7, h9, H⟩ := Aq H
  refine A2 (Ml := []) (Zl := []) (M := (NF b1 p0 v1 v2)) (Z := []) (β := Value) (rv := fun x => x) (MM := fun x => []) (ZZ := fun x => [row x 9 Rp.str x7]) F W Vb Aa Aa (fun hL => (Fh fRec ih) _ w (v2) p0.un.2.2.2.2 _ h9 ((AM Js h2 (Ay h_v2)) w W).nx (hG.go0 W)) fun x a w F W => ?_
  obtain ⟨v6, rfl⟩ : ∃ y, y = x := ⟨x, rfl⟩
  have W : Stw ⟨Y, [], w0⟩ (NF b1 p0 v1 v2) [row v6 9 Rp.str x7] w := W
  obtain ⟨x8, h10, H⟩ := Aq H
  refine ls F W Aa (A0 (v := Value.string (bs x8)) F UQ Aa (fun w W => NV any w (v6) x7 ([32, 124, 32] : List UInt8) _ h10 (((BP 0 Aa) : DZ _ _ _ _ _ _) w W).nx)) fun a w F W => ?_
  refine ls F W Aa (Ag F Aa).q fun a w F W => ?_
  refine Ae (Ac (Ax (Bc (AO ?_))))
  have H := AK H
  subst H
  refine AG (.inl Aa) F W Aa (AD F Aa) ?_
  exact ⟨rfl, W.done⟩
 have H := AY (Bx hb) H
 rw [hb] at F
 clear hb
 refine Ak (Ab ?_)
 refine ls F W Aa (Bd F Aa Aa).q fun a w F W => ?_
 refine ls F W Aa (Ag F Aa).q fun a w F W => ?_
 refine Ae (Ac ?_)
 refine Az F Aa (fun hb => ?_) fun hb => ?_
 ·
  have H := AW (Bw hb) H
  rw [hb] at F
  clear hb
  refine Ak ?_
  refine GW [(true, 0), (true, 1), (true, 5), (true, 6), (false, 2), (true, 3), (true, 4), (false, 7), (false, 8), (true, 9), (false, 10)] (CN ⟨Y, [], w0⟩ [(some 2, b1, [.int .i64 p0.un.1, .int .i64 p0.un.2.1.un.1, .int .i64 p0.un.2.1.un.2.1, .int .i64 p0.un.2.1.un.2.2.1, v1, .int .i64 p0.un.2.2.1, .int .i64 p0.un.2.2.2.1, v2]), (some 7, b1, [.int .i64 p0.un.1, .int .i64 p0.un.2.1.un.1, .int .i64 p0.un.2.1.un.2.1, .int .i64 p0.un.2.1.un.2.2.1, v1, .int .i64 p0.un.2.2.1, .int .i64 p0.un.2.2.2.1, v2])] []) (fun ch a d v w h => by cases d <;> exact h) MO (by kernel_rfl) W (fun w W => ⟨_, _, W, (Aw (fun _ => (.head _)) (Aw (fun _ => (.head _)) AB)), AB⟩) fun w W => ?_
  refine CK (R := []) F Aa Aa (yC fun M Z hN hZ => Aj Hl Aa Aa Aa FW F Aa 1 Aa) Aa Aa fun a F => ?_
  refine CK (R := [2]) F Aa Aa (yC fun M Z hN hZ => Cs (cs := (Gu p0 v1 v2)) (v := Value.agg #[.int .i64 p0.un.2.1.un.1, .int .i64 p0.un.2.1.un.2.1, .int .i64 p0.un.2.1.un.2.2.1, v1]) F Aa (hN ((some 2), b1, (Gu p0 v1 v2)) (.head _) Aa) FW Aa) (by kernel_rfl) Aa fun a F => ?_
  refine CK (R := []) F Aa Aa (yC fun M Z hN hZ => Aj Hl Aa Aa Aa PL F Aa 7 Aa) Aa Aa fun a F => ?_
  refine CK (R := [7]) F Aa Aa (yC fun M Z hN hZ => Cs (cs := (Gu p0 v1 v2)) (v := v2) F Aa (hN ((some 7), b1, (Gu p0 v1 v2)) (.tail _ (.head _)) Aa) PL Aa) (by kernel_rfl) Aa fun a F => ?_
  refine Fj Aa ?_
  obtain ⟨x9, h11, H⟩ := Aq H
  refine ls F W Aa (A0 (v := Value.string (bs x9)) F U0 Aa (fun w W => IQ any w (v1) (Tr25.of (p0.un.2.1.un.1, p0.un.2.1.un.2.1, p0.un.2.1.un.2.2.1, p0.un.2.1.un.2.2.2)) _ h11 (((AM FZ h1 (Ay h_v1)) : DZ _ _ _ _ _ _) w W).nx (hG.go0 W))) fun a w F W => ?_
  refine BZ (N2 := []) (NZ2 := []) (N3 := [(some 2, b1, [.int .i64 p0.un.1, .int .i64 p0.un.2.1.un.1, .int .i64 p0.un.2.1.un.2.1, .int .i64 p0.un.2.1.un.2.2.1, v1, .int .i64 p0.un.2.2.1, .int .i64 p0.un.2.2.2.1, v2]), (some 7, b1, [.int .i64 p0.un.1, .int .i64 p0.un.2.1.un.1, .int .i64 p0.un.2.1.un.2.1, .int .i64 p0.un.2.1.un.2.2.1, v1, .int .i64 p0.un.2.2.1, .int .i64 p0.un.2.2.2.1, v2])]) (NZ3 := []) W Aa Aa (Aw (fun h => AN (by kernel_rfl) h) (Aw (fun _ => (.head _)) AB)) AB ?_
  obtain ⟨x10, h12, H⟩ := Aq H
  refine CK (R := []) F Aa Aa (yC fun M Z hN hZ => Cw (l := ([105, 102, 32] : List UInt8)) (m := x9) F Aa Aa h12) Aa Aa fun a F => ?_
  obtain ⟨x11, h13, H⟩ := Aq H
  refine CK (R := []) F Aa Aa (yC fun M Z hN hZ => Cw (l := x10) (m := ([32, 116, 104, 101, 110, 32] : List UInt8)) F Aa Aa h13) Aa Aa fun a F => ?_
  refine Fj Aa ?_
  obtain ⟨x12, h14, H⟩ := Aq H
  refine A2 (Ml := []) (Zl := []) (M := (NF b1 p0 v1 v2)) (Z := []) (β := Value) (rv := fun x => x) (MM := fun x => []) (ZZ := fun x => [row x 9 Rp.str x12]) F W Vb Aa Aa (fun hL => (Fh fRec ih) _ w (v2) p0.un.2.2.2.2 _ h14 ((AM Js h2 (Ay h_v2)) w W).nx (hG.go0 W)) fun x a w F W => ?_
  obtain ⟨v7, rfl⟩ : ∃ y, y = x := ⟨x, rfl⟩
  have W : Stw ⟨Y, [], w0⟩ (NF b1 p0 v1 v2) [row v7 9 Rp.str x12] w := W
  refine BZ (N2 := []) (NZ2 := []) (N3 := [(some 2, b1, [.int .i64 p0.un.1, .int .i64 p0.un.2.1.un.1, .int .i64 p0.un.2.1.un.2.1, .int .i64 p0.un.2.1.un.2.2.1, v1, .int .i64 p0.un.2.2.1, .int .i64 p0.un.2.2.2.1, v2]), (some 7, b1, [.int .i64 p0.un.1, .int .i64 p0.un.2.1.un.1, .int .i64 p0.un.2.1.un.2.1, .int .i64 p0.un.2.1.un.2.2.1, v1, .int .i64 p0.un.2.2.1, .int .i64 p0.un.2.2.2.1, v2])]) (NZ3 := []) W Aa Aa (Aw (fun h => AN (by kernel_rfl) h) (Aw (fun h => AN (by kernel_rfl) h) AB)) AB ?_
  refine Fj Aa ?_
  obtain ⟨x13, h15, H⟩ := Aq H
  refine ls F W Aa (A0 (v := Value.string (bs x13)) F UQ Aa (fun w W => NV any w (v7) x12 ([32, 101, 108, 115, 101, 32] : List UInt8) _ h15 (((BP 0 Aa) : DZ _ _ _ _ _ _) w W).nx)) fun a w F W => ?_
  refine BZ (N2 := []) (NZ2 := []) (N3 := [(some 2, b1, [.int .i64 p0.un.1, .int .i64 p0.un.2.1.un.1, .int .i64 p0.un.2.1.un.2.1, .int .i64 p0.un.2.1.un.2.2.1, v1, .int .i64 p0.un.2.2.1, .int .i64 p0.un.2.2.2.1, v2]), (some 7, b1, [.int .i64 p0.un.1, .int .i64 p0.un.2.1.un.1, .int .i64 p0.un.2.1.un.2.1, .int .i64 p0.un.2.1.un.2.2.1, v1, .int .i64 p0.un.2.2.1, .int .i64 p0.un.2.2.2.1, v2])]) (NZ3 := []) W Aa Aa (Aw (fun h => AN (by kernel_rfl) h) (Aw (fun h => AN (by kernel_rfl) h) AB)) AB ?_
  obtain ⟨x14, h16, H⟩ := Aq H
  refine CK (R := []) F Aa Aa (yC fun M Z hN hZ => Cw (l := x11) (m := x13) F Aa Aa h16) Aa Aa fun a F => ?_
  refine Fj Aa ?_
  refine ls F W Aa (Ag F Aa).q fun a w F W => ?_
  refine BZ (N2 := []) (NZ2 := []) (N3 := [(some 2, b1, [.int .i64 p0.un.1, .int .i64 p0.un.2.1.un.1, .int .i64 p0.un.2.1.un.2.1, .int .i64 p0.un.2.1.un.2.2.1, v1, .int .i64 p0.un.2.2.1, .int .i64 p0.un.2.2.2.1, v2]), (some 7, b1, [.int .i64 p0.un.1, .int .i64 p0.un.2.1.un.1, .int .i64 p0.un.2.1.un.2.1, .int .i64 p0.un.2.1.un.2.2.1, v1, .int .i64 p0.un.2.2.1, .int .i64 p0.un.2.2.2.1, v2])]) (NZ3 := []) W Aa Aa (Aw (fun h => AN (by kernel_rfl) h) (Aw (fun h => AN (by kernel_rfl) h) AB)) AB ?_
  refine He (Ac (Ax (Bc (AO ?_))))
  have H := AK H
  subst H
  refine AG (.inl Aa) F W Aa (AD F Aa) ?_
  exact ⟨rfl, W.done⟩
 have H := AY (Bx hb) H
 rw [hb] at F
 clear hb
 refine AA (Bn (Ac (Ak (Ab ?_))))
 refine ls F W Aa (Ag (v := Value.string (bs ([63] : List UInt8))) F Aa).q fun a w F W => ?_
 refine Ae (Ac (Ax ?_))
 have H := AK H
 subst H
 refine AG (.inl Aa) F W Aa (AD F Aa) ?_
 exact ⟨rfl, W.done⟩
theorem LM : ∀ (n : Nat) (Y : Nat → Prop) (w0 : World) (v1 : Value) (v2 : Value) (p0 : Tr28) (r : List UInt8) (H : Cn n p0 = some r) (h_v1 : Sl w0 (NX []) AR v1 p0.un.2.1.un.2.2.2) (h_v2 : Sl w0 (NX []) BD v2 p0.un.2.2.2.2) (hG : Gk [] w0), Calls Tryd.prog 17 #[.agg #[.int .i64 p0.un.1, .int .i64 p0.un.2.1.un.1, .int .i64 p0.un.2.1.un.2.1, .int .i64 p0.un.2.1.un.2.2.1, v1, .int .i64 p0.un.2.2.1, .int .i64 p0.un.2.2.2.1, v2]] w0 fun e w' => e = .returned (.string (bs r)) ∧ Below w0.heap.size w0 w' := by
  intro n
  induction n with
  | zero => intro Y w0 v1 v2 p0 r H; exact nomatch H
  | succ n ih => intro Y w0 v1 v2 p0 r H h_v1 h_v2 hG; exact Lx (Cn n) ih Y w0 v1 v2 p0 r H h_v1 h_v2 hG
theorem JB (Y : Nat → Prop) (w0 : World) (v1 : Value) (v2 : Value) (p0 : Tr28) (r : List UInt8) (H : FG p0 = some r) (h_v1 : Sl w0 (NX []) AR v1 p0.un.2.1.un.2.2.2) (h_v2 : Sl w0 (NX []) BD v2 p0.un.2.2.2.2) (hG : Gk [] w0) :
    Calls Tryd.prog 17 #[.agg #[.int .i64 p0.un.1, .int .i64 p0.un.2.1.un.1, .int .i64 p0.un.2.1.un.2.1, .int .i64 p0.un.2.1.un.2.2.1, v1, .int .i64 p0.un.2.2.1, .int .i64 p0.un.2.2.2.1, v2]] w0 fun e w' => e = .returned (.string (bs r)) ∧ Below w0.heap.size w0 w' := by
  obtain ⟨n, H⟩ := BR H
  exact LM n Y w0 v1 v2 p0 r H h_v1 h_v2 hG
end Go.Proofs.YtlgjpoapclifbaaDoor
