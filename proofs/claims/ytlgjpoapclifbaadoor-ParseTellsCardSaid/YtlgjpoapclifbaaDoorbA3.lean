/- The functions of layer 29, EO. Conditions: none. -/
import Derived.Test.YtlgjpoapclifbaaDoorbA2
namespace Go.Proofs.YtlgjpoapclifbaaDoor
open Go Go.RowKit
set_option linter.unusedVariables false
set_option linter.unusedSimpArgs false
set_option maxRecDepth 20000
theorem Q7 : type_of% Tryd.underlying20 := Tryd.underlying20
theorem Sy : Has Tryd.prog 29 := ⟨fun args w => Al Tryd.func29 rfl (by decide) args w⟩
theorem OY : Ty Tryd.prog 29 false 1 := ⟨by kernel_rfl, by kernel_rfl⟩
def GI (p0 : Tr28) (p1 : Int) (p2 : Int) : Unit := ()
theorem Ir (Y : Nat → Prop) (X : List Nat) (w0 : World) (q_p0 : Nat) (v1 : Value) (v2 : Value) (q_p1 : Nat) (q_p2 : Nat) (p0 : Tr28) (p1 : Int) (p2 : Int) (r : Unit) (H : GI p0 p1 p2 = r) (hL : Stw ⟨Y, X, w0⟩ [(q_p0, [.int .i64 p0.un.1, .int .i64 p0.un.2.1.un.1, .int .i64 p0.un.2.1.un.2.1, .int .i64 p0.un.2.1.un.2.2.1, v1, .int .i64 p0.un.2.2.1, .int .i64 p0.un.2.2.2.1, v2]), (q_p1, [.int .i64 p1]), (q_p2, [.int .i64 p2])] [Av v1 AY p0.un.2.1.un.2.2.2, Av v2 BJ p0.un.2.2.2.2] w0) :
    CallsD Tryd.prog 25 #[.pointer (some ⟨q_p0, 0, none⟩), .pointer (some ⟨q_p1, 0, none⟩), .pointer (some ⟨q_p2, 0, none⟩)] .returning w0 fun e u' w' => u' = .returning ∧ (∃ x : Unit, e = .returned (.tuple #[]) ∧ Stw ⟨Y, X, w0⟩ [(q_p0, [.int .i64 p0.un.1, .int .i64 p0.un.2.1.un.1, .int .i64 p0.un.2.1.un.2.1, .int .i64 p0.un.2.1.un.2.2.1, v1, .int .i64 p0.un.2.2.1, .int .i64 p0.un.2.2.2.1, v2]), (q_p1, [.int .i64 p1]), (q_p2, [.int .i64 p2])] [Av v1 AY p0.un.2.1.un.2.2.2, Av v2 BJ p0.un.2.2.2.2] w') := by
 refine I3 Tryd.func25 Aa Tryd.ntmps25 Aa Aa Aa fun a F => ?_
 have W := hL
 unfold GI at H
 refine Ai (Ab ?_)
 refine ls F W Aa (Ah F Aa).q fun a w F W => ?_
 refine ls F W Aa (JF Q7 F Aa).q fun a w F W => ?_
 refine Ae (Ad ?_)
 refine K4 F Aa ?_
 refine Ax ?_
 subst H
 refine Mi (.inr Aa) F Aa ?_
 have W := W.frontZ (i := 1) Aa Aa
 have W := W.frontZ (i := 1) Aa Aa
 have W := W.frontM (i := 2) Aa Aa
 have W := W.frontM (i := 2) Aa Aa
 have W := W.frontM (i := 2) Aa Aa
 exact ⟨(), Aa, W⟩
theorem SA : Has Tryd.prog 25 := ⟨fun args w => Al Tryd.func25 rfl (by decide) args w⟩
theorem TC : (Tryd.prog.info? 89).bind (·.zero) = some (.agg #[.int .i64 0, .int .i64 0]) := by kernel_rfl
theorem TA : Ty Tryd.prog 89 true 2 := ⟨by kernel_rfl, by kernel_rfl⟩
def A8 (p0 : Int × Int) : Int × Int := (p0.1, p0.2)
theorem I9 (Y : Nat → Prop) (w0 : World)  (p0 : Int × Int) (r : Int × Int) (H : A8 p0 = r)  :
    Calls Tryd.prog 26 #[.iface 89 (.agg #[.int .i64 p0.1, .int .i64 p0.2])] w0 fun e w' => e = .returned (.tuple #[.int .i64 r.1, .int .i64 r.2]) ∧ Below w0.heap.size w0 w' := by
 refine enter Tryd.func26 Aa Tryd.ntmps26 Aa fun a F => ?_
 have W := Stw.start Y w0
 unfold A8 at H
 refine Ai (Ab ?_)
 iterate 2 refine ls F W Aa (Ag F Aa).q fun a w F W => ?_
 refine Ae (Ad (Ai (Ab ?_)))
 refine ls F W Aa (Ah F Aa).q fun a w F W => ?_
 refine ls F W Aa (MF SY F Aa).q fun a w F W => ?_
 refine ls F W Aa (Ah F Aa).q fun a w F W => ?_
 refine ls F W Aa (As (v := Value.agg #[.int .i64 p0.1, .int .i64 p0.2]) F Aa Aa).q fun a w F W => ?_
 refine ls F W Aa (As (v := Value.bool true) F Aa Aa).q fun a w F W => ?_
 refine AU (cs := [.int .i64 0, .int .i64 0]) F W Aa TC Aa fun b1 a w F W => ?_
 refine Au (vs := [.int .i64 p0.1, .int .i64 p0.2]) (M' := [(b1, [.int .i64 p0.1, .int .i64 p0.2])]) 0 F W Aa Aa Aa TA Aa Aa Aa Aa Aa fun w W => ?_
 refine ls F W Aa (Ag F Aa).q fun a w F W => ?_
 refine Ae (Ad (Ai (Ai (Ab ?_))))
 refine ls F W Aa (Ah F Aa).q fun a w F W => ?_
 refine ls F W Aa (FH F Aa).q fun a w F W => ?_
 refine Ae (Ad ?_)
 refine K4 F Aa ?_
 refine Ax (Ad (Ai ?_))
 refine Fc W MO (by kernel_rfl) ?_
 refine qs F Aa (Ao RI Aa Aa Aa T3 F Aa 0 Aa).q fun a F => ?_
 refine qs F Aa (AJ (v := Value.int .i64 p0.1) 0 F Aa Aa T3 Aa).q fun a F => ?_
 refine qs F Aa (Ao RI Aa Aa Aa OY F Aa 1 Aa).q fun a F => ?_
 refine qs F Aa (AJ (v := Value.int .i64 p0.2) 0 F Aa Aa OY Aa).q fun a F => ?_
 iterate 2 refine qs F Aa (Ag F Aa).q fun a F => ?_
 refine Ek fun w W => ?_
 refine Ad (Aq ?_)
 subst H
 refine KS (.inl Aa) F W Aa (Ap F Aa) (Ap F Aa) ?_
 exact ⟨rfl, W.done⟩
theorem Tg : Has Tryd.prog 26 := ⟨fun args w => Al Tryd.func26 rfl (by decide) args w⟩
def Af (p0 : Tr28) (p1 : Int) (p2 : Int) (pc : Int × Int) : Tr28 × Int × Int := (Tr28.of (0, Tr25.of (0, 0, 0, ([] : List Tr25)), 0, 0, ([] : List Tr28)), (A8 pc).1, (A8 pc).2)
theorem Eu (Y : Nat → Prop) (X : List Nat) (w0 : World) (q_p0 : Nat) (v1 : Value) (v2 : Value) (q_p1 : Nat) (q_p2 : Nat) (p0 : Tr28) (p1 : Int) (p2 : Int) (pc : Int × Int) (r : Tr28 × Int × Int) (H : Af p0 p1 p2 pc = r) (hL : Stw ⟨Y, X, w0⟩ [(q_p0, [.int .i64 p0.un.1, .int .i64 p0.un.2.1.un.1, .int .i64 p0.un.2.1.un.2.1, .int .i64 p0.un.2.1.un.2.2.1, v1, .int .i64 p0.un.2.2.1, .int .i64 p0.un.2.2.2.1, v2]), (q_p1, [.int .i64 p1]), (q_p2, [.int .i64 p2])] [Av v1 AY p0.un.2.1.un.2.2.2, Av v2 BJ p0.un.2.2.2.2] w0) :
    CallsD Tryd.prog 25 #[.pointer (some ⟨q_p0, 0, none⟩), .pointer (some ⟨q_p1, 0, none⟩), .pointer (some ⟨q_p2, 0, none⟩)] (.panicking ({ v := .iface 89 (.agg #[.int .i64 pc.1, .int .i64 pc.2]), recovered := false } :: [])) w0 fun e u' w' => u' = .panicking ({ v := .iface 89 (.agg #[.int .i64 pc.1, .int .i64 pc.2]), recovered := true } :: []) ∧ (∃ x : Value × Value, e = .returned (.tuple #[]) ∧ Stw ⟨Y, X, w0⟩ [(q_p0, [.int .i64 r.1.un.1, .int .i64 r.1.un.2.1.un.1, .int .i64 r.1.un.2.1.un.2.1, .int .i64 r.1.un.2.1.un.2.2.1, x.1, .int .i64 r.1.un.2.2.1, .int .i64 r.1.un.2.2.2.1, x.2]), (q_p1, [.int .i64 r.2.1]), (q_p2, [.int .i64 r.2.2])] [Av (x.1) AY r.1.un.2.1.un.2.2.2, Av (x.2) BJ r.1.un.2.2.2.2] w') := by
 refine I5 Tryd.func25 Aa Tryd.ntmps25 Aa Aa Aa fun a F => ?_
 have W := hL
 unfold Af at H
 refine Ai (Ab ?_)
 refine ls F W Aa (Ah F Aa).q fun a w F W => ?_
 refine ls F W Aa (Ji Q7 F Aa).q fun a w F W => ?_
 refine Ae (Ad ?_)
 refine NF F Aa ?_
 refine Ai (Ab ?_)
 refine ls F W Aa (Ba (v := Value.agg #[.int .i64 0, .int .i64 0, .int .i64 0, .int .i64 0, .slice none 0 0, .int .i64 0, .int .i64 0, .slice none 0 0]) RZ F Aa Aa Aa).q fun a w F W => ?_
 refine Au (vs := (Bl)) (M' := [(q_p0, (Bl)), (q_p1, [.int .i64 p1]), (q_p2, [.int .i64 p2])]) 0 F W Aa Aa Aa FG Aa Aa Aa Aa Aa fun w W => ?_
 refine Ae (Ad (Ab ?_))
 refine ls F W Aa (Ah F Aa).q fun a w F W => ?_
 refine ls F W Aa (A1 (v := Value.tuple #[.int .i64 ((A8 pc).1), .int .i64 ((A8 pc).2)]) F Tg Aa (fun w W => I9 any w pc _ Aa)) fun a w F W => ?_
 refine ls F W Aa (Ah F Aa).q fun a w F W => ?_
 refine ls F W Aa (As (v := Value.int .i64 ((A8 pc).1)) F Aa Aa).q fun a w F W => ?_
 refine ls F W Aa (As (v := Value.int .i64 ((A8 pc).2)) F Aa Aa).q fun a w F W => ?_
 refine Au (vs := [.int .i64 ((A8 pc).1)]) (M' := [(q_p0, (Bl)), (q_p1, [.int .i64 ((A8 pc).1)]), (q_p2, [.int .i64 p2])]) 1 F W Aa Aa Aa T3 Aa Aa Aa Aa Aa fun w W => ?_
 refine Au (vs := [.int .i64 ((A8 pc).2)]) (M' := [(q_p0, (Bl)), (q_p1, [.int .i64 ((A8 pc).1)]), (q_p2, [.int .i64 ((A8 pc).2)])]) 2 F W Aa Aa Aa OY Aa Aa Aa Aa Aa fun w W => ?_
 refine Ae ?_
 subst H
 refine Mi (.inr Aa) F Aa ?_
 have W := W.note (Sl.nil (r := AY))
 have W := W.note (Sl.nil (r := BJ))
 have W := W.frontZ (i := 1) Aa Aa
 have W := W.frontM (i := 2) Aa Aa
 have W := W.frontM (i := 2) Aa Aa
 have W := W.frontM (i := 2) Aa Aa
 have W := W.sub (M' := [(q_p0, (Bl)), (q_p1, [.int .i64 ((A8 pc).1)]), (q_p2, [.int .i64 ((A8 pc).2)])]) (Z' := [Av (Value.slice none 0 0) AY ([]), Av (Value.slice none 0 0) BJ ([])]) (List.Sublist.refl _) (List.Sublist.cons_cons _ (List.Sublist.cons_cons _ (List.nil_sublist _)))
 exact ⟨((Value.slice none 0 0), (Value.slice none 0 0)), Aa, W⟩
abbrev OO (a0 : Nat) (a1 : Nat) (a2 : Nat) : List Value := [.pointer (some ⟨a0, 0, none⟩), .pointer (some ⟨a1, 0, none⟩), .pointer (some ⟨a2, 0, none⟩)]
abbrev Nl (a0 : Nat) (a1 : Nat) (a2 : Nat) : List (Nat × List Value) := [(a0, [.int .i64 0]), (a1, [.int .i64 0]), (a2, [.int .i64 0, .int .i64 0, .int .i64 0, .int .i64 0, .slice none 0 0, .int .i64 0, .int .i64 0, .slice none 0 0])]
abbrev Km (a0 : Nat) (a1 : Value) (a2 : Tr28 × ((List (Int × Int × List UInt8 × Int)) × Int)) (a3 : Nat) (a4 : Nat) (a5 : Nat) (a6 : Value) (a7 : Value) : List (Nat × List Value) := [(a0, [a1, .int .i64 a2.2.2]), (a3, [.int .i64 0]), (a4, [.int .i64 0]), (a5, [.int .i64 a2.1.un.1, .int .i64 a2.1.un.2.1.un.1, .int .i64 a2.1.un.2.1.un.2.1, .int .i64 a2.1.un.2.1.un.2.2.1, a6, .int .i64 a2.1.un.2.2.1, .int .i64 a2.1.un.2.2.2.1, a7])]
abbrev Rx (a0 : Nat) (a1 : Tr28 × ((List (Int × Int × List UInt8 × Int)) × Int)) (a2 : Value) (a3 : Value) (a4 : Nat) (a5 : Nat) : List (Nat × List Value) := [(a0, [.int .i64 a1.1.un.1, .int .i64 a1.1.un.2.1.un.1, .int .i64 a1.1.un.2.1.un.2.1, .int .i64 a1.1.un.2.1.un.2.2.1, a2, .int .i64 a1.1.un.2.2.1, .int .i64 a1.1.un.2.2.2.1, a3]), (a4, [.int .i64 0]), (a5, [.int .i64 0])]
abbrev Rf (a0 : Nat) (a1 : Nat) (a2 : Nat) : List (Nat × List Value) := [(a0, [.int .i64 0, .int .i64 0, .int .i64 0, .int .i64 0, .slice none 0 0, .int .i64 0, .int .i64 0, .slice none 0 0]), (a1, [.int .i64 0]), (a2, [.int .i64 0])]
noncomputable def DX (p0 : List UInt8) : Option (Tr28 × Int × Int) := (ED p0).bind fun x1 => BZ x1 (fun x2 => (CB x2).bind fun x4 => BZ x4 (fun x5 => (BD x5.2).bind fun x7 => BZ x7 (fun x8 => some (Tr28.of ((Tr28.of (x5.1.un.1, Tr25.of (x5.1.un.2.1.un.1, x5.1.un.2.1.un.2.1, x5.1.un.2.1.un.2.2.1, x5.1.un.2.1.un.2.2.2), x5.1.un.2.2.1, x5.1.un.2.2.2.1, x5.1.un.2.2.2.2)).un.1, Tr25.of ((Tr28.of (x5.1.un.1, Tr25.of (x5.1.un.2.1.un.1, x5.1.un.2.1.un.2.1, x5.1.un.2.1.un.2.2.1, x5.1.un.2.1.un.2.2.2), x5.1.un.2.2.1, x5.1.un.2.2.2.1, x5.1.un.2.2.2.2)).un.2.1.un.1, (Tr28.of (x5.1.un.1, Tr25.of (x5.1.un.2.1.un.1, x5.1.un.2.1.un.2.1, x5.1.un.2.1.un.2.2.1, x5.1.un.2.1.un.2.2.2), x5.1.un.2.2.1, x5.1.un.2.2.2.1, x5.1.un.2.2.2.2)).un.2.1.un.2.1, (Tr28.of (x5.1.un.1, Tr25.of (x5.1.un.2.1.un.1, x5.1.un.2.1.un.2.1, x5.1.un.2.1.un.2.2.1, x5.1.un.2.1.un.2.2.2), x5.1.un.2.2.1, x5.1.un.2.2.2.1, x5.1.un.2.2.2.2)).un.2.1.un.2.2.1, (Tr28.of (x5.1.un.1, Tr25.of (x5.1.un.2.1.un.1, x5.1.un.2.1.un.2.1, x5.1.un.2.1.un.2.2.1, x5.1.un.2.1.un.2.2.2), x5.1.un.2.2.1, x5.1.un.2.2.2.1, x5.1.un.2.2.2.2)).un.2.1.un.2.2.2), (Tr28.of (x5.1.un.1, Tr25.of (x5.1.un.2.1.un.1, x5.1.un.2.1.un.2.1, x5.1.un.2.1.un.2.2.1, x5.1.un.2.1.un.2.2.2), x5.1.un.2.2.1, x5.1.un.2.2.2.1, x5.1.un.2.2.2.2)).un.2.2.1, (Tr28.of (x5.1.un.1, Tr25.of (x5.1.un.2.1.un.1, x5.1.un.2.1.un.2.1, x5.1.un.2.1.un.2.2.1, x5.1.un.2.1.un.2.2.2), x5.1.un.2.2.1, x5.1.un.2.2.2.1, x5.1.un.2.2.2.2)).un.2.2.2.1, (Tr28.of (x5.1.un.1, Tr25.of (x5.1.un.2.1.un.1, x5.1.un.2.1.un.2.1, x5.1.un.2.1.un.2.2.1, x5.1.un.2.1.un.2.2.2), x5.1.un.2.2.1, x5.1.un.2.2.2.1, x5.1.un.2.2.2.2)).un.2.2.2.2), 0, 0)) (fun x9 => some (Tr28.of ((Af (Tr28.of (x5.1.un.1, Tr25.of (x5.1.un.2.1.un.1, x5.1.un.2.1.un.2.1, x5.1.un.2.1.un.2.2.1, x5.1.un.2.1.un.2.2.2), x5.1.un.2.2.1, x5.1.un.2.2.2.1, x5.1.un.2.2.2.2)) 0 0 x9).1.un.1, Tr25.of ((Af (Tr28.of (x5.1.un.1, Tr25.of (x5.1.un.2.1.un.1, x5.1.un.2.1.un.2.1, x5.1.un.2.1.un.2.2.1, x5.1.un.2.1.un.2.2.2), x5.1.un.2.2.1, x5.1.un.2.2.2.1, x5.1.un.2.2.2.2)) 0 0 x9).1.un.2.1.un.1, (Af (Tr28.of (x5.1.un.1, Tr25.of (x5.1.un.2.1.un.1, x5.1.un.2.1.un.2.1, x5.1.un.2.1.un.2.2.1, x5.1.un.2.1.un.2.2.2), x5.1.un.2.2.1, x5.1.un.2.2.2.1, x5.1.un.2.2.2.2)) 0 0 x9).1.un.2.1.un.2.1, (Af (Tr28.of (x5.1.un.1, Tr25.of (x5.1.un.2.1.un.1, x5.1.un.2.1.un.2.1, x5.1.un.2.1.un.2.2.1, x5.1.un.2.1.un.2.2.2), x5.1.un.2.2.1, x5.1.un.2.2.2.1, x5.1.un.2.2.2.2)) 0 0 x9).1.un.2.1.un.2.2.1, (Af (Tr28.of (x5.1.un.1, Tr25.of (x5.1.un.2.1.un.1, x5.1.un.2.1.un.2.1, x5.1.un.2.1.un.2.2.1, x5.1.un.2.1.un.2.2.2), x5.1.un.2.2.1, x5.1.un.2.2.2.1, x5.1.un.2.2.2.2)) 0 0 x9).1.un.2.1.un.2.2.2), (Af (Tr28.of (x5.1.un.1, Tr25.of (x5.1.un.2.1.un.1, x5.1.un.2.1.un.2.1, x5.1.un.2.1.un.2.2.1, x5.1.un.2.1.un.2.2.2), x5.1.un.2.2.1, x5.1.un.2.2.2.1, x5.1.un.2.2.2.2)) 0 0 x9).1.un.2.2.1, (Af (Tr28.of (x5.1.un.1, Tr25.of (x5.1.un.2.1.un.1, x5.1.un.2.1.un.2.1, x5.1.un.2.1.un.2.2.1, x5.1.un.2.1.un.2.2.2), x5.1.un.2.2.1, x5.1.un.2.2.2.1, x5.1.un.2.2.2.2)) 0 0 x9).1.un.2.2.2.1, (Af (Tr28.of (x5.1.un.1, Tr25.of (x5.1.un.2.1.un.1, x5.1.un.2.1.un.2.1, x5.1.un.2.1.un.2.2.1, x5.1.un.2.1.un.2.2.2), x5.1.un.2.2.1, x5.1.un.2.2.2.1, x5.1.un.2.2.2.2)) 0 0 x9).1.un.2.2.2.2), (Af (Tr28.of (x5.1.un.1, Tr25.of (x5.1.un.2.1.un.1, x5.1.un.2.1.un.2.1, x5.1.un.2.1.un.2.2.1, x5.1.un.2.1.un.2.2.2), x5.1.un.2.2.1, x5.1.un.2.2.2.1, x5.1.un.2.2.2.2)) 0 0 x9).2.1, (Af (Tr28.of (x5.1.un.1, Tr25.of (x5.1.un.2.1.un.1, x5.1.un.2.1.un.2.1, x5.1.un.2.1.un.2.2.1, x5.1.un.2.1.un.2.2.2), x5.1.un.2.2.1, x5.1.un.2.2.2.1, x5.1.un.2.2.2.2)) 0 0 x9).2.2))) (fun x6 => some (Tr28.of ((Af (Tr28.of (0, Tr25.of (0, 0, 0, ([] : List Tr25)), 0, 0, ([] : List Tr28))) 0 0 x6.1).1.un.1, Tr25.of ((Af (Tr28.of (0, Tr25.of (0, 0, 0, ([] : List Tr25)), 0, 0, ([] : List Tr28))) 0 0 x6.1).1.un.2.1.un.1, (Af (Tr28.of (0, Tr25.of (0, 0, 0, ([] : List Tr25)), 0, 0, ([] : List Tr28))) 0 0 x6.1).1.un.2.1.un.2.1, (Af (Tr28.of (0, Tr25.of (0, 0, 0, ([] : List Tr25)), 0, 0, ([] : List Tr28))) 0 0 x6.1).1.un.2.1.un.2.2.1, (Af (Tr28.of (0, Tr25.of (0, 0, 0, ([] : List Tr25)), 0, 0, ([] : List Tr28))) 0 0 x6.1).1.un.2.1.un.2.2.2), (Af (Tr28.of (0, Tr25.of (0, 0, 0, ([] : List Tr25)), 0, 0, ([] : List Tr28))) 0 0 x6.1).1.un.2.2.1, (Af (Tr28.of (0, Tr25.of (0, 0, 0, ([] : List Tr25)), 0, 0, ([] : List Tr28))) 0 0 x6.1).1.un.2.2.2.1, (Af (Tr28.of (0, Tr25.of (0, 0, 0, ([] : List Tr25)), 0, 0, ([] : List Tr28))) 0 0 x6.1).1.un.2.2.2.2), (Af (Tr28.of (0, Tr25.of (0, 0, 0, ([] : List Tr25)), 0, 0, ([] : List Tr28))) 0 0 x6.1).2.1, (Af (Tr28.of (0, Tr25.of (0, 0, 0, ([] : List Tr25)), 0, 0, ([] : List Tr28))) 0 0 x6.1).2.2))) (fun x3 => some (Tr28.of ((Af (Tr28.of (0, Tr25.of (0, 0, 0, ([] : List Tr25)), 0, 0, ([] : List Tr28))) 0 0 x3).1.un.1, Tr25.of ((Af (Tr28.of (0, Tr25.of (0, 0, 0, ([] : List Tr25)), 0, 0, ([] : List Tr28))) 0 0 x3).1.un.2.1.un.1, (Af (Tr28.of (0, Tr25.of (0, 0, 0, ([] : List Tr25)), 0, 0, ([] : List Tr28))) 0 0 x3).1.un.2.1.un.2.1, (Af (Tr28.of (0, Tr25.of (0, 0, 0, ([] : List Tr25)), 0, 0, ([] : List Tr28))) 0 0 x3).1.un.2.1.un.2.2.1, (Af (Tr28.of (0, Tr25.of (0, 0, 0, ([] : List Tr25)), 0, 0, ([] : List Tr28))) 0 0 x3).1.un.2.1.un.2.2.2), (Af (Tr28.of (0, Tr25.of (0, 0, 0, ([] : List Tr25)), 0, 0, ([] : List Tr28))) 0 0 x3).1.un.2.2.1, (Af (Tr28.of (0, Tr25.of (0, 0, 0, ([] : List Tr25)), 0, 0, ([] : List Tr28))) 0 0 x3).1.un.2.2.2.1, (Af (Tr28.of (0, Tr25.of (0, 0, 0, ([] : List Tr25)), 0, 0, ([] : List Tr28))) 0 0 x3).1.un.2.2.2.2), (Af (Tr28.of (0, Tr25.of (0, 0, 0, ([] : List Tr25)), 0, 0, ([] : List Tr28))) 0 0 x3).2.1, (Af (Tr28.of (0, Tr25.of (0, 0, 0, ([] : List Tr25)), 0, 0, ([] : List Tr28))) 0 0 x3).2.2))
theorem Je (Y : Nat → Prop) (w0 : World)  (p0 : List UInt8) (r : Tr28 × Int × Int) (H : DX p0 = some r)  :
    Calls Tryd.prog 7 #[.string (bs p0)] w0 fun e w' => ∃ x : Value × Value, e = .returned (.tuple #[.agg #[.int .i64 r.1.un.1, .int .i64 r.1.un.2.1.un.1, .int .i64 r.1.un.2.1.un.2.1, .int .i64 r.1.un.2.1.un.2.2.1, x.1, .int .i64 r.1.un.2.2.1, .int .i64 r.1.un.2.2.2.1, x.2], .int .i64 r.2.1, .int .i64 r.2.2]) ∧ Stw ⟨Y, [], w0⟩ [] [Av (x.1) AY r.1.un.2.1.un.2.2.2, Av (x.2) BJ r.1.un.2.2.2.2] w' := by
 refine P7 Tryd.func7 Aa Tryd.ntmps7 Aa fun a F => ?_
 have W := Stw.start Y w0
 unfold DX at H
 refine Ai (Ab ?_)
 refine AU (cs := (Bl)) F W Aa L4 Aa fun b1 a w F W => ?_
 refine AU (cs := [.int .i64 0]) F W Aa Z3 Aa fun b2 a w F W => ?_
 refine AU (cs := [.int .i64 0]) F W Aa Tj Aa fun b3 a w F W => ?_
 refine Ae (Ad (Ai (Ab ?_)))
 refine ls F W Aa (FM (us := []) (vs := (OO b1 b2 b3)) F Aa Aa).q fun a w F W => ?_
 refine OU (vs := (OO b1 b2 b3)) F Aa fun a F => ?_
 refine Ae (Ad (Ai (Ab ?_)))
 refine ls F W Aa (Ah F Aa).q fun a w F W => ?_
 obtain ⟨x1, h1, H⟩ := An H
 rcases x1 with x2 | x3
 ·
  have H := Ez H
  refine AO (Ml := []) (Zl := []) (M := (Nl b3 b2 b1)) (Z := []) (β := Nat × Value) (rv := fun x => .pointer (some ⟨x.1, 0, none⟩)) (MM := fun x => [(x.1, [x.2, .int .i64 x2.2])]) (ZZ := fun x => [row x.2 98 Az x2.1]) F W Sm Aa Aa (fun hL => Gr _ w p0 _ h1) fun x a w F W => ?_
  obtain ⟨b4, v1⟩ := x
  have W : Stw ⟨Y, [], w0⟩ [(b4, [v1, .int .i64 x2.2]), (b3, [.int .i64 0]), (b2, [.int .i64 0]), (b1, [.int .i64 0, .int .i64 0, .int .i64 0, .int .i64 0, .slice none 0 0, .int .i64 0, .int .i64 0, .slice none 0 0])] [row v1 98 Az x2.1] w := W
  refine ls F W Aa (Ag F Aa).q fun a w F W => ?_
  refine Ae (Ad (Ai (Ab ?_)))
  refine ls F W Aa (Ah F Aa).q fun a w F W => ?_
  obtain ⟨x4, h2, H⟩ := An H
  rcases x4 with x5 | x6
  ·
   have H := Ez H
   refine AO (Ml := [(b4, [v1, .int .i64 x2.2])]) (Zl := [row v1 98 Az x2.1]) (M := (Nl b3 b2 b1)) (Z := []) (β := Value × Value × Value) (rv := fun x => .agg #[.int .i64 x5.1.un.1, .int .i64 x5.1.un.2.1.un.1, .int .i64 x5.1.un.2.1.un.2.1, .int .i64 x5.1.un.2.1.un.2.2.1, x.1, .int .i64 x5.1.un.2.2.1, .int .i64 x5.1.un.2.2.2.1, x.2.1]) (MM := fun x => [(b4, [x.2.2, .int .i64 x5.2.2])]) (ZZ := fun x => [row x.2.2 98 Az x5.2.1, Av x.1 AY x5.1.un.2.1.un.2.2.2, Av x.2.1 BJ x5.1.un.2.2.2.2]) F W Su Aa Aa (fun hL => FE _ _ w b4 (v1) x2 _ h2 hL) fun x a w F W => ?_
   obtain ⟨v2, v3, v4⟩ := x
   have W : Stw ⟨Y, [], w0⟩ [(b4, [v4, .int .i64 x5.2.2]), (b3, [.int .i64 0]), (b2, [.int .i64 0]), (b1, [.int .i64 0, .int .i64 0, .int .i64 0, .int .i64 0, .slice none 0 0, .int .i64 0, .int .i64 0, .slice none 0 0])] [row v4 98 Az x5.2.1, Av v2 AY x5.1.un.2.1.un.2.2.2, Av v3 BJ x5.1.un.2.2.2.2] w := W
   refine Au (vs := (Di x5 v2 v3)) (M' := (Km b4 v4 x5 b3 b2 b1 v2 v3)) 3 F W Aa Aa Aa FG Aa Aa Aa (Ac Aa (Ac Aa (Ac Aa (Ac Aa (Ac (W.oneF (k := 1) Aa) (Ac Aa (Ac Aa (Ac (W.oneF (k := 2) Aa) AM)))))))) Aa fun w W => ?_
   refine Ae (Ad (Ai (Ab ?_)))
   refine ls F W Aa (Ah F Aa).q fun a w F W => ?_
   obtain ⟨x7, h3, H⟩ := An H
   rcases x7 with x8 | x9
   ·
    have H := Ez H
    refine AO (Ml := []) (Zl := []) (M := (Km b4 v4 x5 b3 b2 b1 v2 v3)) (Z := [row v4 98 Az x5.2.1, Av v2 AY x5.1.un.2.1.un.2.2.2, Av v3 BJ x5.1.un.2.2.2.2]) (β := Unit) (rv := fun x => .tuple #[]) (MM := fun x => []) (ZZ := fun x => []) F W Sy Aa Aa (fun hL => D1 _ w b4 (v4) x5.2 _ h3 ((Bq 0 Aa) w W).nx (LW W 0 Aa)) fun x a w F W => ?_
    have W : Stw ⟨Y, [], w0⟩ (Km b4 v4 x5 b3 b2 b1 v2 v3) [row v4 98 Az x5.2.1, Av v2 AY x5.1.un.2.1.un.2.2.2, Av v3 BJ x5.1.un.2.2.2.2] w := W
    refine Ae (Ad (Ai (Ab ?_)))
    refine ls F W Aa (AJ (v := Value.agg #[.int .i64 x5.1.un.1, .int .i64 x5.1.un.2.1.un.1, .int .i64 x5.1.un.2.1.un.2.1, .int .i64 x5.1.un.2.1.un.2.2.1, v2, .int .i64 x5.1.un.2.2.1, .int .i64 x5.1.un.2.2.2.1, v3]) 3 F Aa Aa FG Aa).q fun a w F W => ?_
    refine Au (vs := (Di x5 v2 v3)) (M' := (Km b4 v4 x5 b3 b2 b1 v2 v3)) 3 F W Aa Aa Aa FG Aa Aa Aa (Ac Aa (Ac Aa (Ac Aa (Ac Aa (Ac (W.oneF (k := 1) Aa) (Ac Aa (Ac Aa (Ac (W.oneF (k := 2) Aa) AM)))))))) Aa fun w W => ?_
    refine Au (vs := [.int .i64 0]) (M' := (Km b4 v4 x5 b3 b2 b1 v2 v3)) 2 F W Aa Aa Aa T3 Aa Aa Aa Aa Aa fun w W => ?_
    refine Au (vs := [.int .i64 0]) (M' := (Km b4 v4 x5 b3 b2 b1 v2 v3)) 1 F W Aa Aa Aa OY Aa Aa Aa Aa Aa fun w W => ?_
    refine Ae (Ad (Aq ?_))
    refine Mj (.inl Aa) F ?_
    have W := W.frontZ (i := 2) Aa Aa
    have W := W.frontZ (i := 2) Aa Aa
    have W := W.frontM (i := 1) Aa Aa
    have W := W.frontM (i := 2) Aa Aa
    have W := W.frontM (i := 3) Aa Aa
    refine Hd (Ml := (Rx b1 x5 v2 v3 b2 b3)) (Zl := [Av v2 AY x5.1.un.2.1.un.2.2.2, Av v3 BJ x5.1.un.2.2.2.2]) (M := [(b4, [v4, .int .i64 x5.2.2])]) (Z := [row v4 98 Az x5.2.1]) (β := Unit) (u' := .returning) (MM := fun x => [(b1, [.int .i64 ((Tr28.of (x5.1.un.1, Tr25.of (x5.1.un.2.1.un.1, x5.1.un.2.1.un.2.1, x5.1.un.2.1.un.2.2.1, x5.1.un.2.1.un.2.2.2), x5.1.un.2.2.1, x5.1.un.2.2.2.1, x5.1.un.2.2.2.2)).un.1), .int .i64 ((Tr28.of (x5.1.un.1, Tr25.of (x5.1.un.2.1.un.1, x5.1.un.2.1.un.2.1, x5.1.un.2.1.un.2.2.1, x5.1.un.2.1.un.2.2.2), x5.1.un.2.2.1, x5.1.un.2.2.2.1, x5.1.un.2.2.2.2)).un.2.1.un.1), .int .i64 ((Tr28.of (x5.1.un.1, Tr25.of (x5.1.un.2.1.un.1, x5.1.un.2.1.un.2.1, x5.1.un.2.1.un.2.2.1, x5.1.un.2.1.un.2.2.2), x5.1.un.2.2.1, x5.1.un.2.2.2.1, x5.1.un.2.2.2.2)).un.2.1.un.2.1), .int .i64 ((Tr28.of (x5.1.un.1, Tr25.of (x5.1.un.2.1.un.1, x5.1.un.2.1.un.2.1, x5.1.un.2.1.un.2.2.1, x5.1.un.2.1.un.2.2.2), x5.1.un.2.2.1, x5.1.un.2.2.2.1, x5.1.un.2.2.2.2)).un.2.1.un.2.2.1), (v2), .int .i64 ((Tr28.of (x5.1.un.1, Tr25.of (x5.1.un.2.1.un.1, x5.1.un.2.1.un.2.1, x5.1.un.2.1.un.2.2.1, x5.1.un.2.1.un.2.2.2), x5.1.un.2.2.1, x5.1.un.2.2.2.1, x5.1.un.2.2.2.2)).un.2.2.1), .int .i64 ((Tr28.of (x5.1.un.1, Tr25.of (x5.1.un.2.1.un.1, x5.1.un.2.1.un.2.1, x5.1.un.2.1.un.2.2.1, x5.1.un.2.1.un.2.2.2), x5.1.un.2.2.1, x5.1.un.2.2.2.1, x5.1.un.2.2.2.2)).un.2.2.2.1), (v3)]), (b2, [.int .i64 0]), (b3, [.int .i64 0])]) (ZZ := fun x => [Av (v2) AY ((Tr28.of (x5.1.un.1, Tr25.of (x5.1.un.2.1.un.1, x5.1.un.2.1.un.2.1, x5.1.un.2.1.un.2.2.1, x5.1.un.2.1.un.2.2.2), x5.1.un.2.2.1, x5.1.un.2.2.2.1, x5.1.un.2.2.2.2)).un.2.1.un.2.2.2), Av (v3) BJ ((Tr28.of (x5.1.un.1, Tr25.of (x5.1.un.2.1.un.1, x5.1.un.2.1.un.2.1, x5.1.un.2.1.un.2.2.1, x5.1.un.2.1.un.2.2.2), x5.1.un.2.2.1, x5.1.un.2.2.2.1, x5.1.un.2.2.2.2)).un.2.2.2.2)]) W SA (by simp) (fun hL => Ir _ _ w b1 (v2) (v3) b2 b3 (Tr28.of (x5.1.un.1, Tr25.of (x5.1.un.2.1.un.1, x5.1.un.2.1.un.2.1, x5.1.un.2.1.un.2.2.1, x5.1.un.2.1.un.2.2.2), x5.1.un.2.2.1, x5.1.un.2.2.2.1, x5.1.un.2.2.2.2)) 0 0 _ Aa hL) fun _ w W => ?_
    have W : Stw ⟨Y, [], w0⟩ [(b1, [.int .i64 ((Tr28.of (x5.1.un.1, Tr25.of (x5.1.un.2.1.un.1, x5.1.un.2.1.un.2.1, x5.1.un.2.1.un.2.2.1, x5.1.un.2.1.un.2.2.2), x5.1.un.2.2.1, x5.1.un.2.2.2.1, x5.1.un.2.2.2.2)).un.1), .int .i64 ((Tr28.of (x5.1.un.1, Tr25.of (x5.1.un.2.1.un.1, x5.1.un.2.1.un.2.1, x5.1.un.2.1.un.2.2.1, x5.1.un.2.1.un.2.2.2), x5.1.un.2.2.1, x5.1.un.2.2.2.1, x5.1.un.2.2.2.2)).un.2.1.un.1), .int .i64 ((Tr28.of (x5.1.un.1, Tr25.of (x5.1.un.2.1.un.1, x5.1.un.2.1.un.2.1, x5.1.un.2.1.un.2.2.1, x5.1.un.2.1.un.2.2.2), x5.1.un.2.2.1, x5.1.un.2.2.2.1, x5.1.un.2.2.2.2)).un.2.1.un.2.1), .int .i64 ((Tr28.of (x5.1.un.1, Tr25.of (x5.1.un.2.1.un.1, x5.1.un.2.1.un.2.1, x5.1.un.2.1.un.2.2.1, x5.1.un.2.1.un.2.2.2), x5.1.un.2.2.1, x5.1.un.2.2.2.1, x5.1.un.2.2.2.2)).un.2.1.un.2.2.1), (v2), .int .i64 ((Tr28.of (x5.1.un.1, Tr25.of (x5.1.un.2.1.un.1, x5.1.un.2.1.un.2.1, x5.1.un.2.1.un.2.2.1, x5.1.un.2.1.un.2.2.2), x5.1.un.2.2.1, x5.1.un.2.2.2.1, x5.1.un.2.2.2.2)).un.2.2.1), .int .i64 ((Tr28.of (x5.1.un.1, Tr25.of (x5.1.un.2.1.un.1, x5.1.un.2.1.un.2.1, x5.1.un.2.1.un.2.2.1, x5.1.un.2.1.un.2.2.2), x5.1.un.2.2.1, x5.1.un.2.2.2.1, x5.1.un.2.2.2.2)).un.2.2.2.1), (v3)]), (b2, [.int .i64 0]), (b3, [.int .i64 0]), (b4, [v4, .int .i64 x5.2.2])] [Av (v2) AY ((Tr28.of (x5.1.un.1, Tr25.of (x5.1.un.2.1.un.1, x5.1.un.2.1.un.2.1, x5.1.un.2.1.un.2.2.1, x5.1.un.2.1.un.2.2.2), x5.1.un.2.2.1, x5.1.un.2.2.2.1, x5.1.un.2.2.2.2)).un.2.1.un.2.2.2), Av (v3) BJ ((Tr28.of (x5.1.un.1, Tr25.of (x5.1.un.2.1.un.1, x5.1.un.2.1.un.2.1, x5.1.un.2.1.un.2.2.1, x5.1.un.2.1.un.2.2.2), x5.1.un.2.2.1, x5.1.un.2.2.2.1, x5.1.un.2.2.2.2)).un.2.2.2.2), row v4 98 Az x5.2.1] w := W
    have H := AH H
    subst H
    refine G9 W Aa (AB 0 F Aa Aa FG Aa) (AB 1 F Aa Aa T3 Aa) (AB 2 F Aa Aa OY Aa) ?_
    have W := W.frontZ (i := 1) Aa Aa
    have W := W.frontZ (i := 1) Aa Aa
    have W := W.sub (M' := []) (Z' := [Av (v2) AY ((Tr28.of (x5.1.un.1, Tr25.of (x5.1.un.2.1.un.1, x5.1.un.2.1.un.2.1, x5.1.un.2.1.un.2.2.1, x5.1.un.2.1.un.2.2.2), x5.1.un.2.2.1, x5.1.un.2.2.2.1, x5.1.un.2.2.2.2)).un.2.1.un.2.2.2), Av (v3) BJ ((Tr28.of (x5.1.un.1, Tr25.of (x5.1.un.2.1.un.1, x5.1.un.2.1.un.2.1, x5.1.un.2.1.un.2.2.1, x5.1.un.2.1.un.2.2.2), x5.1.un.2.2.1, x5.1.un.2.2.2.1, x5.1.un.2.2.2.2)).un.2.2.2.2)]) (List.nil_sublist _) (List.Sublist.cons_cons _ (List.Sublist.cons_cons _ (List.nil_sublist _)))
    exact ⟨(((v2)), ((v3))), Aa, W⟩
   have H := Ey H
   refine B0 (Ml := []) (Zl := []) (M := (Km b4 v4 x5 b3 b2 b1 v2 v3)) (Z := [row v4 98 Az x5.2.1, Av v2 AY x5.1.un.2.1.un.2.2.2, Av v3 BJ x5.1.un.2.2.2.2]) (β := Unit) (pv := fun x => .iface 89 (.agg #[.int .i64 x9.1, .int .i64 x9.2])) (MM := fun x => []) (ZZ := fun x => []) F W Sy Aa (fun hL => D1 _ w b4 (v4) x5.2 _ h3 ((Bq 0 Aa) w W).nx (LW W 0 Aa)) fun x w W => ?_
   have W : Stw ⟨Y, [], w0⟩ (Km b4 v4 x5 b3 b2 b1 v2 v3) [row v4 98 Az x5.2.1, Av v2 AY x5.1.un.2.1.un.2.2.2, Av v3 BJ x5.1.un.2.2.2.2] w := W
   refine BF ?_
   refine Fb F ?_
   have W := W.frontZ (i := 2) Aa Aa
   have W := W.frontZ (i := 2) Aa Aa
   have W := W.frontM (i := 1) Aa Aa
   have W := W.frontM (i := 2) Aa Aa
   have W := W.frontM (i := 3) Aa Aa
   refine Hd (Ml := (Rx b1 x5 v2 v3 b2 b3)) (Zl := [Av v2 AY x5.1.un.2.1.un.2.2.2, Av v3 BJ x5.1.un.2.2.2.2]) (M := [(b4, [v4, .int .i64 x5.2.2])]) (Z := [row v4 98 Az x5.2.1]) (β := Value × Value) (u' := (.panicking ({ v := .iface 89 (.agg #[.int .i64 x9.1, .int .i64 x9.2]), recovered := true } :: []))) (MM := fun x => [(b1, [.int .i64 ((Af (Tr28.of (x5.1.un.1, Tr25.of (x5.1.un.2.1.un.1, x5.1.un.2.1.un.2.1, x5.1.un.2.1.un.2.2.1, x5.1.un.2.1.un.2.2.2), x5.1.un.2.2.1, x5.1.un.2.2.2.1, x5.1.un.2.2.2.2)) 0 0 x9).1.un.1), .int .i64 ((Af (Tr28.of (x5.1.un.1, Tr25.of (x5.1.un.2.1.un.1, x5.1.un.2.1.un.2.1, x5.1.un.2.1.un.2.2.1, x5.1.un.2.1.un.2.2.2), x5.1.un.2.2.1, x5.1.un.2.2.2.1, x5.1.un.2.2.2.2)) 0 0 x9).1.un.2.1.un.1), .int .i64 ((Af (Tr28.of (x5.1.un.1, Tr25.of (x5.1.un.2.1.un.1, x5.1.un.2.1.un.2.1, x5.1.un.2.1.un.2.2.1, x5.1.un.2.1.un.2.2.2), x5.1.un.2.2.1, x5.1.un.2.2.2.1, x5.1.un.2.2.2.2)) 0 0 x9).1.un.2.1.un.2.1), .int .i64 ((Af (Tr28.of (x5.1.un.1, Tr25.of (x5.1.un.2.1.un.1, x5.1.un.2.1.un.2.1, x5.1.un.2.1.un.2.2.1, x5.1.un.2.1.un.2.2.2), x5.1.un.2.2.1, x5.1.un.2.2.2.1, x5.1.un.2.2.2.2)) 0 0 x9).1.un.2.1.un.2.2.1), x.1, .int .i64 ((Af (Tr28.of (x5.1.un.1, Tr25.of (x5.1.un.2.1.un.1, x5.1.un.2.1.un.2.1, x5.1.un.2.1.un.2.2.1, x5.1.un.2.1.un.2.2.2), x5.1.un.2.2.1, x5.1.un.2.2.2.1, x5.1.un.2.2.2.2)) 0 0 x9).1.un.2.2.1), .int .i64 ((Af (Tr28.of (x5.1.un.1, Tr25.of (x5.1.un.2.1.un.1, x5.1.un.2.1.un.2.1, x5.1.un.2.1.un.2.2.1, x5.1.un.2.1.un.2.2.2), x5.1.un.2.2.1, x5.1.un.2.2.2.1, x5.1.un.2.2.2.2)) 0 0 x9).1.un.2.2.2.1), x.2]), (b2, [.int .i64 ((Af (Tr28.of (x5.1.un.1, Tr25.of (x5.1.un.2.1.un.1, x5.1.un.2.1.un.2.1, x5.1.un.2.1.un.2.2.1, x5.1.un.2.1.un.2.2.2), x5.1.un.2.2.1, x5.1.un.2.2.2.1, x5.1.un.2.2.2.2)) 0 0 x9).2.1)]), (b3, [.int .i64 ((Af (Tr28.of (x5.1.un.1, Tr25.of (x5.1.un.2.1.un.1, x5.1.un.2.1.un.2.1, x5.1.un.2.1.un.2.2.1, x5.1.un.2.1.un.2.2.2), x5.1.un.2.2.1, x5.1.un.2.2.2.1, x5.1.un.2.2.2.2)) 0 0 x9).2.2)])]) (ZZ := fun x => [Av x.1 AY ((Af (Tr28.of (x5.1.un.1, Tr25.of (x5.1.un.2.1.un.1, x5.1.un.2.1.un.2.1, x5.1.un.2.1.un.2.2.1, x5.1.un.2.1.un.2.2.2), x5.1.un.2.2.1, x5.1.un.2.2.2.1, x5.1.un.2.2.2.2)) 0 0 x9).1.un.2.1.un.2.2.2), Av x.2 BJ ((Af (Tr28.of (x5.1.un.1, Tr25.of (x5.1.un.2.1.un.1, x5.1.un.2.1.un.2.1, x5.1.un.2.1.un.2.2.1, x5.1.un.2.1.un.2.2.2), x5.1.un.2.2.1, x5.1.un.2.2.2.1, x5.1.un.2.2.2.2)) 0 0 x9).1.un.2.2.2.2)]) W SA (by simp) (fun hL => Eu _ _ w b1 (v2) (v3) b2 b3 (Tr28.of (x5.1.un.1, Tr25.of (x5.1.un.2.1.un.1, x5.1.un.2.1.un.2.1, x5.1.un.2.1.un.2.2.1, x5.1.un.2.1.un.2.2.2), x5.1.un.2.2.1, x5.1.un.2.2.2.1, x5.1.un.2.2.2.2)) 0 0 x9 _ Aa hL) fun x w W => ?_
   obtain ⟨v5, v6⟩ := x
   have W : Stw ⟨Y, [], w0⟩ [(b1, [.int .i64 ((Af (Tr28.of (x5.1.un.1, Tr25.of (x5.1.un.2.1.un.1, x5.1.un.2.1.un.2.1, x5.1.un.2.1.un.2.2.1, x5.1.un.2.1.un.2.2.2), x5.1.un.2.2.1, x5.1.un.2.2.2.1, x5.1.un.2.2.2.2)) 0 0 x9).1.un.1), .int .i64 ((Af (Tr28.of (x5.1.un.1, Tr25.of (x5.1.un.2.1.un.1, x5.1.un.2.1.un.2.1, x5.1.un.2.1.un.2.2.1, x5.1.un.2.1.un.2.2.2), x5.1.un.2.2.1, x5.1.un.2.2.2.1, x5.1.un.2.2.2.2)) 0 0 x9).1.un.2.1.un.1), .int .i64 ((Af (Tr28.of (x5.1.un.1, Tr25.of (x5.1.un.2.1.un.1, x5.1.un.2.1.un.2.1, x5.1.un.2.1.un.2.2.1, x5.1.un.2.1.un.2.2.2), x5.1.un.2.2.1, x5.1.un.2.2.2.1, x5.1.un.2.2.2.2)) 0 0 x9).1.un.2.1.un.2.1), .int .i64 ((Af (Tr28.of (x5.1.un.1, Tr25.of (x5.1.un.2.1.un.1, x5.1.un.2.1.un.2.1, x5.1.un.2.1.un.2.2.1, x5.1.un.2.1.un.2.2.2), x5.1.un.2.2.1, x5.1.un.2.2.2.1, x5.1.un.2.2.2.2)) 0 0 x9).1.un.2.1.un.2.2.1), v5, .int .i64 ((Af (Tr28.of (x5.1.un.1, Tr25.of (x5.1.un.2.1.un.1, x5.1.un.2.1.un.2.1, x5.1.un.2.1.un.2.2.1, x5.1.un.2.1.un.2.2.2), x5.1.un.2.2.1, x5.1.un.2.2.2.1, x5.1.un.2.2.2.2)) 0 0 x9).1.un.2.2.1), .int .i64 ((Af (Tr28.of (x5.1.un.1, Tr25.of (x5.1.un.2.1.un.1, x5.1.un.2.1.un.2.1, x5.1.un.2.1.un.2.2.1, x5.1.un.2.1.un.2.2.2), x5.1.un.2.2.1, x5.1.un.2.2.2.1, x5.1.un.2.2.2.2)) 0 0 x9).1.un.2.2.2.1), v6]), (b2, [.int .i64 ((Af (Tr28.of (x5.1.un.1, Tr25.of (x5.1.un.2.1.un.1, x5.1.un.2.1.un.2.1, x5.1.un.2.1.un.2.2.1, x5.1.un.2.1.un.2.2.2), x5.1.un.2.2.1, x5.1.un.2.2.2.1, x5.1.un.2.2.2.2)) 0 0 x9).2.1)]), (b3, [.int .i64 ((Af (Tr28.of (x5.1.un.1, Tr25.of (x5.1.un.2.1.un.1, x5.1.un.2.1.un.2.1, x5.1.un.2.1.un.2.2.1, x5.1.un.2.1.un.2.2.2), x5.1.un.2.2.1, x5.1.un.2.2.2.1, x5.1.un.2.2.2.2)) 0 0 x9).2.2)]), (b4, [v4, .int .i64 x5.2.2])] [Av v5 AY ((Af (Tr28.of (x5.1.un.1, Tr25.of (x5.1.un.2.1.un.1, x5.1.un.2.1.un.2.1, x5.1.un.2.1.un.2.2.1, x5.1.un.2.1.un.2.2.2), x5.1.un.2.2.1, x5.1.un.2.2.2.1, x5.1.un.2.2.2.2)) 0 0 x9).1.un.2.1.un.2.2.2), Av v6 BJ ((Af (Tr28.of (x5.1.un.1, Tr25.of (x5.1.un.2.1.un.1, x5.1.un.2.1.un.2.1, x5.1.un.2.1.un.2.2.1, x5.1.un.2.1.un.2.2.2), x5.1.un.2.2.1, x5.1.un.2.2.2.1, x5.1.un.2.2.2.2)) 0 0 x9).1.un.2.2.2.2), row v4 98 Az x5.2.1] w := W
   have H := AH H
   subst H
   refine G9 W Aa (AB 0 F Aa Aa FG Aa) (AB 1 F Aa Aa T3 Aa) (AB 2 F Aa Aa OY Aa) ?_
   have W := W.frontZ (i := 1) Aa Aa
   have W := W.frontZ (i := 1) Aa Aa
   have W := W.sub (M' := []) (Z' := [Av v5 AY ((Af (Tr28.of (x5.1.un.1, Tr25.of (x5.1.un.2.1.un.1, x5.1.un.2.1.un.2.1, x5.1.un.2.1.un.2.2.1, x5.1.un.2.1.un.2.2.2), x5.1.un.2.2.1, x5.1.un.2.2.2.1, x5.1.un.2.2.2.2)) 0 0 x9).1.un.2.1.un.2.2.2), Av v6 BJ ((Af (Tr28.of (x5.1.un.1, Tr25.of (x5.1.un.2.1.un.1, x5.1.un.2.1.un.2.1, x5.1.un.2.1.un.2.2.1, x5.1.un.2.1.un.2.2.2), x5.1.un.2.2.1, x5.1.un.2.2.2.1, x5.1.un.2.2.2.2)) 0 0 x9).1.un.2.2.2.2)]) (List.nil_sublist _) (List.Sublist.cons_cons _ (List.Sublist.cons_cons _ (List.nil_sublist _)))
   exact ⟨((v5), (v6)), Aa, W⟩
  have H := Ey H
  refine B0 (Ml := [(b4, [v1, .int .i64 x2.2])]) (Zl := [row v1 98 Az x2.1]) (M := (Nl b3 b2 b1)) (Z := []) (β := Value) (pv := fun x => .iface 89 (.agg #[.int .i64 x6.1.1, .int .i64 x6.1.2])) (MM := fun x => [(b4, [x, .int .i64 x6.2.2])]) (ZZ := fun x => [row x 98 Az x6.2.1]) F W Su Aa (fun hL => FE _ _ w b4 (v1) x2 _ h2 hL) fun x w W => ?_
  obtain ⟨v7, rfl⟩ : ∃ y, y = x := ⟨x, rfl⟩
  have W : Stw ⟨Y, [], w0⟩ [(b4, [v7, .int .i64 x6.2.2]), (b3, [.int .i64 0]), (b2, [.int .i64 0]), (b1, [.int .i64 0, .int .i64 0, .int .i64 0, .int .i64 0, .slice none 0 0, .int .i64 0, .int .i64 0, .slice none 0 0])] [row v7 98 Az x6.2.1] w := W
  refine BF ?_
  refine Fb F ?_
  have W := W.note (Sl.nil (r := AY))
  have W := W.note (Sl.nil (r := BJ))
  have W := W.frontZ (i := 1) Aa Aa
  have W := W.frontM (i := 1) Aa Aa
  have W := W.frontM (i := 2) Aa Aa
  have W := W.frontM (i := 3) Aa Aa
  refine Hd (Ml := (Rf b1 b2 b3)) (Zl := [Av (Value.slice none 0 0) AY ([]), Av (Value.slice none 0 0) BJ ([])]) (M := [(b4, [v7, .int .i64 x6.2.2])]) (Z := [row v7 98 Az x6.2.1]) (β := Value × Value) (u' := (.panicking ({ v := .iface 89 (.agg #[.int .i64 x6.1.1, .int .i64 x6.1.2]), recovered := true } :: []))) (MM := fun x => [(b1, [.int .i64 ((Af (Tr28.of (0, Tr25.of (0, 0, 0, ([] : List Tr25)), 0, 0, ([] : List Tr28))) 0 0 x6.1).1.un.1), .int .i64 ((Af (Tr28.of (0, Tr25.of (0, 0, 0, ([] : List Tr25)), 0, 0, ([] : List Tr28))) 0 0 x6.1).1.un.2.1.un.1), .int .i64 ((Af (Tr28.of (0, Tr25.of (0, 0, 0, ([] : List Tr25)), 0, 0, ([] : List Tr28))) 0 0 x6.1).1.un.2.1.un.2.1), .int .i64 ((Af (Tr28.of (0, Tr25.of (0, 0, 0, ([] : List Tr25)), 0, 0, ([] : List Tr28))) 0 0 x6.1).1.un.2.1.un.2.2.1), x.1, .int .i64 ((Af (Tr28.of (0, Tr25.of (0, 0, 0, ([] : List Tr25)), 0, 0, ([] : List Tr28))) 0 0 x6.1).1.un.2.2.1), .int .i64 ((Af (Tr28.of (0, Tr25.of (0, 0, 0, ([] : List Tr25)), 0, 0, ([] : List Tr28))) 0 0 x6.1).1.un.2.2.2.1), x.2]), (b2, [.int .i64 ((Af (Tr28.of (0, Tr25.of (0, 0, 0, ([] : List Tr25)), 0, 0, ([] : List Tr28))) 0 0 x6.1).2.1)]), (b3, [.int .i64 ((Af (Tr28.of (0, Tr25.of (0, 0, 0, ([] : List Tr25)), 0, 0, ([] : List Tr28))) 0 0 x6.1).2.2)])]) (ZZ := fun x => [Av x.1 AY ((Af (Tr28.of (0, Tr25.of (0, 0, 0, ([] : List Tr25)), 0, 0, ([] : List Tr28))) 0 0 x6.1).1.un.2.1.un.2.2.2), Av x.2 BJ ((Af (Tr28.of (0, Tr25.of (0, 0, 0, ([] : List Tr25)), 0, 0, ([] : List Tr28))) 0 0 x6.1).1.un.2.2.2.2)]) W SA (by simp) (fun hL => Eu _ _ w b1 (Value.slice none 0 0) (Value.slice none 0 0) b2 b3 (Tr28.of (0, Tr25.of (0, 0, 0, ([] : List Tr25)), 0, 0, ([] : List Tr28))) 0 0 x6.1 _ Aa hL) fun x w W => ?_
  obtain ⟨v8, v9⟩ := x
  have W : Stw ⟨Y, [], w0⟩ [(b1, [.int .i64 ((Af (Tr28.of (0, Tr25.of (0, 0, 0, ([] : List Tr25)), 0, 0, ([] : List Tr28))) 0 0 x6.1).1.un.1), .int .i64 ((Af (Tr28.of (0, Tr25.of (0, 0, 0, ([] : List Tr25)), 0, 0, ([] : List Tr28))) 0 0 x6.1).1.un.2.1.un.1), .int .i64 ((Af (Tr28.of (0, Tr25.of (0, 0, 0, ([] : List Tr25)), 0, 0, ([] : List Tr28))) 0 0 x6.1).1.un.2.1.un.2.1), .int .i64 ((Af (Tr28.of (0, Tr25.of (0, 0, 0, ([] : List Tr25)), 0, 0, ([] : List Tr28))) 0 0 x6.1).1.un.2.1.un.2.2.1), v8, .int .i64 ((Af (Tr28.of (0, Tr25.of (0, 0, 0, ([] : List Tr25)), 0, 0, ([] : List Tr28))) 0 0 x6.1).1.un.2.2.1), .int .i64 ((Af (Tr28.of (0, Tr25.of (0, 0, 0, ([] : List Tr25)), 0, 0, ([] : List Tr28))) 0 0 x6.1).1.un.2.2.2.1), v9]), (b2, [.int .i64 ((Af (Tr28.of (0, Tr25.of (0, 0, 0, ([] : List Tr25)), 0, 0, ([] : List Tr28))) 0 0 x6.1).2.1)]), (b3, [.int .i64 ((Af (Tr28.of (0, Tr25.of (0, 0, 0, ([] : List Tr25)), 0, 0, ([] : List Tr28))) 0 0 x6.1).2.2)]), (b4, [v7, .int .i64 x6.2.2])] [Av v8 AY ((Af (Tr28.of (0, Tr25.of (0, 0, 0, ([] : List Tr25)), 0, 0, ([] : List Tr28))) 0 0 x6.1).1.un.2.1.un.2.2.2), Av v9 BJ ((Af (Tr28.of (0, Tr25.of (0, 0, 0, ([] : List Tr25)), 0, 0, ([] : List Tr28))) 0 0 x6.1).1.un.2.2.2.2), row v7 98 Az x6.2.1] w := W
  have H := AH H
  subst H
  refine G9 W Aa (AB 0 F Aa Aa FG Aa) (AB 1 F Aa Aa T3 Aa) (AB 2 F Aa Aa OY Aa) ?_
  have W := W.frontZ (i := 1) Aa Aa
  have W := W.frontZ (i := 1) Aa Aa
  have W := W.sub (M' := []) (Z' := [Av v8 AY ((Af (Tr28.of (0, Tr25.of (0, 0, 0, ([] : List Tr25)), 0, 0, ([] : List Tr28))) 0 0 x6.1).1.un.2.1.un.2.2.2), Av v9 BJ ((Af (Tr28.of (0, Tr25.of (0, 0, 0, ([] : List Tr25)), 0, 0, ([] : List Tr28))) 0 0 x6.1).1.un.2.2.2.2)]) (List.nil_sublist _) (List.Sublist.cons_cons _ (List.Sublist.cons_cons _ (List.nil_sublist _)))
  exact ⟨((v8), (v9)), Aa, W⟩
 have H := Ey H
 refine B0 (Ml := []) (Zl := []) (M := (Nl b3 b2 b1)) (Z := []) (β := Unit) (pv := fun x => .iface 89 (.agg #[.int .i64 x3.1, .int .i64 x3.2])) (MM := fun x => []) (ZZ := fun x => []) F W Sm Aa (fun hL => Gr _ w p0 _ h1) fun x w W => ?_
 have W : Stw ⟨Y, [], w0⟩ (Nl b3 b2 b1) [] w := W
 refine BF ?_
 refine Fb F ?_
 have W := W.note (Sl.nil (r := AY))
 have W := W.note (Sl.nil (r := BJ))
 have W := W.frontZ (i := 1) Aa Aa
 have W := W.frontM (i := 1) Aa Aa
 have W := W.frontM (i := 2) Aa Aa
 refine Hd (Ml := (Rf b1 b2 b3)) (Zl := [Av (Value.slice none 0 0) AY ([]), Av (Value.slice none 0 0) BJ ([])]) (M := []) (Z := []) (β := Value × Value) (u' := (.panicking ({ v := .iface 89 (.agg #[.int .i64 x3.1, .int .i64 x3.2]), recovered := true } :: []))) (MM := fun x => [(b1, [.int .i64 ((Af (Tr28.of (0, Tr25.of (0, 0, 0, ([] : List Tr25)), 0, 0, ([] : List Tr28))) 0 0 x3).1.un.1), .int .i64 ((Af (Tr28.of (0, Tr25.of (0, 0, 0, ([] : List Tr25)), 0, 0, ([] : List Tr28))) 0 0 x3).1.un.2.1.un.1), .int .i64 ((Af (Tr28.of (0, Tr25.of (0, 0, 0, ([] : List Tr25)), 0, 0, ([] : List Tr28))) 0 0 x3).1.un.2.1.un.2.1), .int .i64 ((Af (Tr28.of (0, Tr25.of (0, 0, 0, ([] : List Tr25)), 0, 0, ([] : List Tr28))) 0 0 x3).1.un.2.1.un.2.2.1), x.1, .int .i64 ((Af (Tr28.of (0, Tr25.of (0, 0, 0, ([] : List Tr25)), 0, 0, ([] : List Tr28))) 0 0 x3).1.un.2.2.1), .int .i64 ((Af (Tr28.of (0, Tr25.of (0, 0, 0, ([] : List Tr25)), 0, 0, ([] : List Tr28))) 0 0 x3).1.un.2.2.2.1), x.2]), (b2, [.int .i64 ((Af (Tr28.of (0, Tr25.of (0, 0, 0, ([] : List Tr25)), 0, 0, ([] : List Tr28))) 0 0 x3).2.1)]), (b3, [.int .i64 ((Af (Tr28.of (0, Tr25.of (0, 0, 0, ([] : List Tr25)), 0, 0, ([] : List Tr28))) 0 0 x3).2.2)])]) (ZZ := fun x => [Av x.1 AY ((Af (Tr28.of (0, Tr25.of (0, 0, 0, ([] : List Tr25)), 0, 0, ([] : List Tr28))) 0 0 x3).1.un.2.1.un.2.2.2), Av x.2 BJ ((Af (Tr28.of (0, Tr25.of (0, 0, 0, ([] : List Tr25)), 0, 0, ([] : List Tr28))) 0 0 x3).1.un.2.2.2.2)]) W SA (by simp) (fun hL => Eu _ _ w b1 (Value.slice none 0 0) (Value.slice none 0 0) b2 b3 (Tr28.of (0, Tr25.of (0, 0, 0, ([] : List Tr25)), 0, 0, ([] : List Tr28))) 0 0 x3 _ Aa hL) fun x w W => ?_
 obtain ⟨v10, v11⟩ := x
 have W : Stw ⟨Y, [], w0⟩ [(b1, [.int .i64 ((Af (Tr28.of (0, Tr25.of (0, 0, 0, ([] : List Tr25)), 0, 0, ([] : List Tr28))) 0 0 x3).1.un.1), .int .i64 ((Af (Tr28.of (0, Tr25.of (0, 0, 0, ([] : List Tr25)), 0, 0, ([] : List Tr28))) 0 0 x3).1.un.2.1.un.1), .int .i64 ((Af (Tr28.of (0, Tr25.of (0, 0, 0, ([] : List Tr25)), 0, 0, ([] : List Tr28))) 0 0 x3).1.un.2.1.un.2.1), .int .i64 ((Af (Tr28.of (0, Tr25.of (0, 0, 0, ([] : List Tr25)), 0, 0, ([] : List Tr28))) 0 0 x3).1.un.2.1.un.2.2.1), v10, .int .i64 ((Af (Tr28.of (0, Tr25.of (0, 0, 0, ([] : List Tr25)), 0, 0, ([] : List Tr28))) 0 0 x3).1.un.2.2.1), .int .i64 ((Af (Tr28.of (0, Tr25.of (0, 0, 0, ([] : List Tr25)), 0, 0, ([] : List Tr28))) 0 0 x3).1.un.2.2.2.1), v11]), (b2, [.int .i64 ((Af (Tr28.of (0, Tr25.of (0, 0, 0, ([] : List Tr25)), 0, 0, ([] : List Tr28))) 0 0 x3).2.1)]), (b3, [.int .i64 ((Af (Tr28.of (0, Tr25.of (0, 0, 0, ([] : List Tr25)), 0, 0, ([] : List Tr28))) 0 0 x3).2.2)])] [Av v10 AY ((Af (Tr28.of (0, Tr25.of (0, 0, 0, ([] : List Tr25)), 0, 0, ([] : List Tr28))) 0 0 x3).1.un.2.1.un.2.2.2), Av v11 BJ ((Af (Tr28.of (0, Tr25.of (0, 0, 0, ([] : List Tr25)), 0, 0, ([] : List Tr28))) 0 0 x3).1.un.2.2.2.2)] w := W
 have H := AH H
 subst H
 refine G9 W Aa (AB 0 F Aa Aa FG Aa) (AB 1 F Aa Aa T3 Aa) (AB 2 F Aa Aa OY Aa) ?_
 have W := W.frontZ (i := 1) Aa Aa
 have W := W.frontZ (i := 1) Aa Aa
 have W := W.sub (M' := []) (Z' := [Av v10 AY ((Af (Tr28.of (0, Tr25.of (0, 0, 0, ([] : List Tr25)), 0, 0, ([] : List Tr28))) 0 0 x3).1.un.2.1.un.2.2.2), Av v11 BJ ((Af (Tr28.of (0, Tr25.of (0, 0, 0, ([] : List Tr25)), 0, 0, ([] : List Tr28))) 0 0 x3).1.un.2.2.2.2)]) (List.nil_sublist _) (List.Sublist.refl _)
 exact ⟨((v10), (v11)), Aa, W⟩
theorem H7 : Has Tryd.prog 7 := ⟨fun args w => Al Tryd.func7 rfl (by decide) args w⟩
def DI (p0 : Int) : List UInt8 := (if p0 = 0 then ([115, 114, 99] : List UInt8) else (if p0 = 1 then ([100, 115, 116] : List UInt8) else (if p0 = 2 then ([107, 105, 110, 100] : List UInt8) else (if p0 = 3 then ([116, 97, 103] : List UInt8) else (if p0 = 4 then ([112, 111, 114, 116] : List UInt8) else (if p0 = 5 then ([115, 119, 105, 116, 99, 104] : List UInt8) else ([63] : List UInt8)))))))
theorem J5 (Y : Nat → Prop) (w0 : World)  (p0 : Int) (r : List UInt8) (H : DI p0 = r)  :
    Calls Tryd.prog 49 #[.int .i64 p0] w0 fun e w' => e = .returned (.string (bs r)) ∧ Below w0.heap.size w0 w' := by
 refine enter Tryd.func49 Aa Tryd.ntmps49 Aa fun a F => ?_
 have W := Stw.start Y w0
 unfold DI at H
 refine Ai (Ab ?_)
 refine ls F W Aa (Ag (v := Value.string (bs ([] : List UInt8))) F Aa).q fun a w F W => ?_
 refine Ae (Ad (Ai (Ai (Ab ?_))))
 refine ls F W Aa (Ah F Aa).q fun a w F W => ?_
 refine Ae (Ad (AV (Ai (Ab ?_))))
 refine ls F W Aa (Bn F Aa Aa).q fun a w F W => ?_
 refine ls F W Aa (Ag F Aa).q fun a w F W => ?_
 refine Ae (Ad ?_)
 refine Aw F Aa (fun hb => ?_) fun hb => ?_
 ·
  have H := AQ (BB hb) H
  rw [hb] at F
  clear hb
  refine Ai (Ab ?_)
  refine ls F W Aa (Ag (v := Value.string (bs ([115, 114, 99] : List UInt8))) F Aa).q fun a w F W => ?_
  refine Ae (Ad (Aq (A5 (AD ?_))))
  subst H
  refine AP (.inl Aa) F W Aa (Ap F Aa) ?_
  exact ⟨rfl, W.done⟩
 have H := AR (Bz hb) H
 rw [hb] at F
 clear hb
 refine Ai (Ab ?_)
 refine ls F W Aa (Bn F Aa Aa).q fun a w F W => ?_
 refine ls F W Aa (Ag F Aa).q fun a w F W => ?_
 refine Ae (Ad ?_)
 refine Aw F Aa (fun hb => ?_) fun hb => ?_
 ·
  have H := AQ (BB hb) H
  rw [hb] at F
  clear hb
  refine Ai (Ab ?_)
  refine ls F W Aa (Ag (v := Value.string (bs ([100, 115, 116] : List UInt8))) F Aa).q fun a w F W => ?_
  refine Ae (Ad (Aq (A5 (AD ?_))))
  subst H
  refine AP (.inl Aa) F W Aa (Ap F Aa) ?_
  exact ⟨rfl, W.done⟩
 have H := AR (Bz hb) H
 rw [hb] at F
 clear hb
 refine Ai (Ab ?_)
 refine ls F W Aa (Bn F Aa Aa).q fun a w F W => ?_
 refine ls F W Aa (Ag F Aa).q fun a w F W => ?_
 refine Ae (Ad ?_)
 refine Aw F Aa (fun hb => ?_) fun hb => ?_
 ·
  have H := AQ (BB hb) H
  rw [hb] at F
  clear hb
  refine Ai (Ab ?_)
  refine ls F W Aa (Ag (v := Value.string (bs ([107, 105, 110, 100] : List UInt8))) F Aa).q fun a w F W => ?_
  refine Ae (Ad (Aq (A5 (AD ?_))))
  subst H
  refine AP (.inl Aa) F W Aa (Ap F Aa) ?_
  exact ⟨rfl, W.done⟩
 have H := AR (Bz hb) H
 rw [hb] at F
 clear hb
 refine Ai (Ab ?_)
 refine ls F W Aa (Bn F Aa Aa).q fun a w F W => ?_
 refine ls F W Aa (Ag F Aa).q fun a w F W => ?_
 refine Ae (Ad ?_)
 refine Aw F Aa (fun hb => ?_) fun hb => ?_
 ·
  have H := AQ (BB hb) H
  rw [hb] at F
  clear hb
  refine Ai (Ab ?_)
  refine ls F W Aa (Ag (v := Value.string (bs ([116, 97, 103] : List UInt8))) F Aa).q fun a w F W => ?_
  refine Ae (Ad (Aq (A5 (AD ?_))))
  subst H
  refine AP (.inl Aa) F W Aa (Ap F Aa) ?_
  exact ⟨rfl, W.done⟩
 have H := AR (Bz hb) H
 rw [hb] at F
 clear hb
 refine Ai (Ab ?_)
 refine ls F W Aa (Bn F Aa Aa).q fun a w F W => ?_
 refine ls F W Aa (Ag F Aa).q fun a w F W => ?_
 refine Ae (Ad ?_)
 refine Aw F Aa (fun hb => ?_) fun hb => ?_
 ·
  have H := AQ (BB hb) H
  rw [hb] at F
  clear hb
  refine Ai (Ab ?_)
  refine ls F W Aa (Ag (v := Value.string (bs ([112, 111, 114, 116] : List UInt8))) F Aa).q fun a w F W => ?_
  refine Ae (Ad (Aq (A5 (AD ?_))))
  subst H
  refine AP (.inl Aa) F W Aa (Ap F Aa) ?_
  exact ⟨rfl, W.done⟩
 have H := AR (Bz hb) H
 rw [hb] at F
 clear hb
 refine Ai (Ab ?_)
 refine ls F W Aa (Bn F Aa Aa).q fun a w F W => ?_
 refine ls F W Aa (Ag F Aa).q fun a w F W => ?_
 refine Ae (Ad ?_)
 refine Aw F Aa (fun hb => ?_) fun hb => ?_
 ·
  have H := AQ (BB hb) H
  rw [hb] at F
  clear hb
  refine Ai (Ab ?_)
  refine ls F W Aa (Ag (v := Value.string (bs ([115, 119, 105, 116, 99, 104] : List UInt8))) F Aa).q fun a w F W => ?_
  refine Ae (Ad (Aq (A5 (AD ?_))))
  subst H
  refine AP (.inl Aa) F W Aa (Ap F Aa) ?_
  exact ⟨rfl, W.done⟩
 have H := AR (Bz hb) H
 rw [hb] at F
 clear hb
 refine Ax (Bw (Ad (Ai (Ab ?_))))
 refine ls F W Aa (Ag (v := Value.string (bs ([63] : List UInt8))) F Aa).q fun a w F W => ?_
 refine Ae (Ad (Aq ?_))
 subst H
 refine AP (.inl Aa) F W Aa (Ap F Aa) ?_
 exact ⟨rfl, W.done⟩
theorem SV : type_of% Tryd.underlying78 := Tryd.underlying78
theorem Tw : Has Tryd.prog 49 := ⟨fun args w => Al Tryd.func49 rfl (by decide) args w⟩
theorem S5 : Has Tryd.prog 43 := ⟨fun args w => Al Tryd.func43 rfl (by decide) args w⟩
theorem QJ : Ty Tryd.prog 23 false 1 := ⟨by kernel_rfl, by kernel_rfl⟩
theorem S0 : Has Tryd.prog 21 := ⟨fun args w => Al Tryd.func21 rfl (by decide) args w⟩
theorem Z9 : (Tryd.prog.info? 9).bind (·.zero) = some (.string (bs ([] : List UInt8))) := by kernel_rfl
theorem R1 : Et Tryd.prog 78 9 1 16 := Et.of SV (by kernel_rfl) (by kernel_rfl) (by kernel_rfl) (by decide)
theorem St : Has Tryd.prog 44 := ⟨fun args w => Al Tryd.func44 rfl (by decide) args w⟩
noncomputable def CY (fRec_pred_Text : Tr25 → Option (List UInt8)) (p0 : List Tr25) : (List (List UInt8) × Int) → Option ((List (List UInt8) × Int) ⊕ (List (List UInt8)))
  | (x2, x3) => (if x3 < (p0.length : Int) then (ix p0 x3).bind fun x4 => (fRec_pred_Text x4).bind fun x5 => (if (decide (x4.un.1 = 5) || decide (x4.un.1 = 6)) = true then (Eo ([40] : List UInt8) x5).bind fun x7 => (Eo x7 ([41] : List UInt8)).bind fun x8 => some x8 else some x5).bind fun x6 => (Eo x2 ([x6] : List (List UInt8))).bind fun x9 => some (.inl (x9, Co (x3 + 1))) else some (.inr x2))
noncomputable def El (fRec_pred_Text : Tr25 → Option (List UInt8)) (p0 : List Tr25) (p1 : List UInt8) : Option (List UInt8) := (Bx (CY fRec_pred_Text p0) ([], 0)).bind fun x1 => (I6 x1 p1).bind fun x10 => some x10
theorem Ie (fRec_pred_Text : Tr25 → Option (List UInt8)) (ih_pred_Text : ∀ (Y : Nat → Prop) (w0 : World) (v1 : Value) (p0 : Tr25) (r : List UInt8) (H : fRec_pred_Text p0 = some r) (h_v1 : Sl w0 (NX []) AY v1 p0.un.2.2.2) (hG : Gk [] w0), Calls Tryd.prog 21 #[.agg #[.int .i64 p0.un.1, .int .i64 p0.un.2.1, .int .i64 p0.un.2.2.1, v1]] w0 fun e w' => e = .returned (.string (bs r)) ∧ Below w0.heap.size w0 w') (Y : Nat → Prop) (w0 : World) (v1 : Value) (p0 : List Tr25) (p1 : List UInt8) (r : List UInt8) (H : El fRec_pred_Text p0 p1 = some r) (h_v1 : Sl w0 (NX []) AY v1 p0) (hG : Gk [] w0) :
    Calls Tryd.prog 50 #[v1, .string (bs p1)] w0 fun e w' => e = .returned (.string (bs r)) ∧ Below w0.heap.size w0 w' := by
 refine enter Tryd.func50 Aa Tryd.ntmps50 Aa fun a F => ?_
 have W := Stw.start Y w0
 obtain ⟨v2, h1, h_v1⟩ := h_v1.ex Gq
 unfold El at H
 refine Ai (Ab ?_)
 refine ls F W Aa (Ag (v := Value.string (bs ([] : List UInt8))) F Aa).q fun a w F W => ?_
 refine Ae (Ad (Ai (Ab ?_)))
 refine ls F W Aa (Ag F Aa).q fun a w F W => ?_
 refine Ae (Ad ?_)
 obtain ⟨o1, G1, K1⟩ := An H
 refine Bd (fun a w => ∃ x1 : List (List UInt8), ∃ v3 : Value, some (x1) = some o1 ∧ Fr 36 [] [(1, .string (bs p1)), (4, .string (bs ([] : List UInt8))), (5, v3)] a ∧ Stw ⟨Y, [], w0⟩ [] [row v3 9 Rp.str x1] w) ?_ ?_
 ·
  have H := G1
  clear G1 K1
  refine Ai (Ab ?_)
  refine ls F W Aa (Ah F Aa).q fun a w F W => ?_
  refine ls F W Aa (E4 (r := AY) (l := p0) Qb Aa F Aa (Cd Gq h1 (AG h_v1))).q fun a w F W => ?_
  refine ls F W Aa (Ah F Aa).q fun a w F W => ?_
  refine Ae (Ad (AV ?_))
  have W := W.nilRow 9 Rp.str
  refine Cr H (fun s a w => ∃ v4 : Value, Fr 36 [] [(1, .string (bs p1)), (4, .string (bs ([] : List UInt8))), (5, v4), (9, v1), (10, .int .i64 (p0.length : Int)), (11, .int .i64 s.2)] a ∧ Stw ⟨Y, [], w0⟩ [] [row v4 9 Rp.str s.1] w) ⟨(Value.slice none 0 0), F.re ⟨rfl, Aa, Aa, Aa, Aa, Aa, trivial⟩, W⟩ fun s o a w H L2 hR => ?_
  obtain ⟨x2, x3⟩ := s
  obtain ⟨v4, F, W⟩ := hR
  have F : Fr 36 [] [(1, .string (bs p1)), (4, .string (bs ([] : List UInt8))), (5, v4), (9, v1), (10, .int .i64 (p0.length : Int)), (11, .int .i64 x3)] a := F
  have W : Stw ⟨Y, [], w0⟩ [] [row v4 9 Rp.str x2] w := W
  rw [CY] at H
  refine Ai (Ab ?_)
  refine ls F W Aa (Fd F Aa Aa).q fun a w F W => ?_
  refine Ae (Ad (Ai ?_))
  refine Aw F Aa (fun hb => ?_) fun hb => ?_
  ·
   have H := AQ (BB hb) H
   rw [hb] at F
   clear hb
   refine Ax (Ad (Ai (AV (Ai (Ab ?_)))))
   obtain ⟨x4, h2, H⟩ := An H
   obtain ⟨v5, h3, h4⟩ := H1 h1 h2
   have h5 : MR v5 = [.int .i64 x4.un.1, .int .i64 x4.un.2.1, .int .i64 x4.un.2.2.1, (v5.2.2.2.1)] := congrArg (fun q : Tr25 => ([.int .i64 q.un.1, .int .i64 q.un.2.1, .int .i64 q.un.2.2.1, (v5.2.2.2.1)] : List Value)) h4
   refine ls F W Aa (CE (r := N5) PN F Aa Aa (AG h_v1) h3).q fun a w F W => ?_
   refine ls F W Aa (BV (y := Value.agg #[.int .i64 x4.un.1, .int .i64 x4.un.2.1, .int .i64 x4.un.2.2.1, (v5.2.2.2.1)]) (j := 0) (i := x3) (enc := MR) F Aa Aa (AG h_v1) h3 QN FV (by rw [h5]; rfl)).q fun a w F W => ?_
   refine AU (cs := (B2)) F W Aa NG Aa fun b1 a w F W => ?_
   refine Au (vs := [.int .i64 x4.un.1, .int .i64 x4.un.2.1, .int .i64 x4.un.2.2.1, (v5.2.2.2.1)]) (M' := [(b1, [.int .i64 x4.un.1, .int .i64 x4.un.2.1, .int .i64 x4.un.2.2.1, (v5.2.2.2.1)])]) 0 F W Aa Aa Aa FV Aa Aa Aa (Ac Aa (Ac Aa (Ac Aa (Ac ((E8 (AG h_v1) h3 (Bp.snd (Bp.snd (Bp.snd Bp.here))) (congrArg (fun q : Tr25 => q.un.2.2.2) h4)) _ W).one AM)))) Aa fun w W => ?_
   refine Ae (Ad (Ai (Ab ?_)))
   refine ls F W Aa (AJ (v := Value.agg #[.int .i64 x4.un.1, .int .i64 x4.un.2.1, .int .i64 x4.un.2.2.1, (v5.2.2.2.1)]) 0 F Aa Aa FV Aa).q fun a w F W => ?_
   obtain ⟨x5, h6, H⟩ := An H
   refine ls F W Aa (A1 (v := Value.string (bs x5)) F S0 Aa (fun w W => ih_pred_Text any w ((v5.2.2.2.1)) x4 _ h6 (((E8 (AG h_v1) h3 (Bp.snd (Bp.snd (Bp.snd Bp.here))) (congrArg (fun q : Tr25 => q.un.2.2.2) h4)) : EN _ _ _ _ _ _) w W).nx (hG.go0 W))) fun a w F W => ?_
   refine ls F W Aa (Ag F Aa).q fun a w F W => ?_
   refine Ae (Ad ?_)
   obtain ⟨o3, G3, K3⟩ := An H
   refine Bd (fun a w => ∃ x6 : List UInt8, some (x6) = some o3 ∧ Fr 36 [] [(1, .string (bs p1)), (4, .string (bs ([] : List UInt8))), (5, v4), (8, .string (bs x6)), (9, v1), (10, .int .i64 (p0.length : Int)), (11, .int .i64 x3)] a ∧ Stw ⟨Y, [], w0⟩ [(b1, [.int .i64 x4.un.1, .int .i64 x4.un.2.1, .int .i64 x4.un.2.2.1, (v5.2.2.2.1)])] [row v4 9 Rp.str x2] w) ?_ ?_
   ·
    have H := G3
    clear G3 K3
    refine Bd (fun a w => Fr 36 [] [(1, .string (bs p1)), (4, .string (bs ([] : List UInt8))), (5, v4), (8, .string (bs x5)), (9, v1), (10, .int .i64 (p0.length : Int)), (11, .int .i64 x3), (24, .bool (decide (x4.un.1 = 5) || decide (x4.un.1 = 6)))] a ∧ Stw ⟨Y, [], w0⟩ [(b1, [.int .i64 x4.un.1, .int .i64 x4.un.2.1, .int .i64 x4.un.2.2.1, (v5.2.2.2.1)])] [row v4 9 Rp.str x2] w) ?_ ?_
    ·
     refine Ab ?_
     refine ls F W Aa (Ao Jm Aa Aa Aa T3 F Aa 0 Aa).q fun a w F W => ?_
     refine ls F W Aa (AJ (v := Value.int .i64 x4.un.1) 0 F Aa Aa T3 Aa).q fun a w F W => ?_
     refine ls F W Aa (Bn F Aa Aa).q fun a w F W => ?_
     refine ls F W Aa (Ah F Aa).q fun a w F W => ?_
     rcases Bool.eq_false_or_eq_true (decide (x4.un.1 = 5)) with hb0 | hb0
     ·
      rw [hb0] at F
      iterate 3 refine Ec F Aa Aa Aa Aa Aa Aa Aa fun a F => ?_
      refine ls F W Aa (AE F Aa Aa Aa).q fun a w F W => ?_
      refine Ae (Ad ?_)
      exact ⟨F.re ⟨rfl, Aa, Aa, Aa, Aa, Aa, Aa, (I2 (by try rw [hb0]; all_goals simp only [IZ])), trivial⟩, W⟩
     rw [hb0] at F
     refine AX F W (Ak F Aa Aa Aa Aa) Aa (Ay Aa) (Ao Jm Aa Aa Aa T3 F Aa 0 Aa).q fun a w F W => ?_
     refine AX F W (Ak F Aa Aa Aa Aa) Aa (Ay Aa) (AJ (v := Value.int .i64 x4.un.1) 0 F Aa Aa T3 Aa).q fun a w F W => ?_
     refine AX F W (Ak F Aa Aa Aa Aa) Aa (Ay Aa) (Bn F Aa Aa).q fun a w F W => ?_
     refine ls F W Aa (AN F Aa Aa Aa).q fun a w F W => ?_
     refine Ae (Ad ?_)
     exact ⟨F.re ⟨rfl, Aa, Aa, Aa, Aa, Aa, Aa, (I2 (by try rw [hb0]; all_goals simp only [IZ])), trivial⟩, W⟩
    rintro a w ⟨F, W⟩
    refine Aw F Aa (fun hb => ?_) fun hb => ?_
    ·
     have H := AQ hb H
     rw [hb] at F
     clear hb
     refine Ab ?_
     refine ls F W Aa (Ah F Aa).q fun a w F W => ?_
     obtain ⟨x7, h7, H⟩ := An H
     refine ls F W Aa (EG (l := ([40] : List UInt8)) (m := x5) F Aa Aa h7).q fun a w F W => ?_
     obtain ⟨x8, h8, H⟩ := An H
     refine ls F W Aa (EG (l := x7) (m := ([41] : List UInt8)) F Aa Aa h8).q fun a w F W => ?_
     refine ls F W Aa (Ag F Aa).q fun a w F W => ?_
     refine Ae (Ad ?_)
     exact ⟨_, H, F.re ⟨rfl, Aa, Aa, Aa, Aa, Aa, Aa, trivial⟩, W⟩
    have H := AR (by rw [hb]; decide) H
    rw [hb] at F
    clear hb
    refine Ax (Ad ?_)
    exact ⟨_, H, F.re ⟨rfl, Aa, Aa, Aa, Aa, Aa, Aa, trivial⟩, W⟩
   rintro a w ⟨x6, hj, F, W⟩
   have hj := AH hj
   subst hj
   have H := K3
   clear G3 K3
   refine Ab ?_
   iterate 2 refine ls F W Aa (Ah F Aa).q fun a w F W => ?_
   refine Dj (z := Value.string (bs ([] : List UInt8))) (cs := [.string (bs x6)]) Rp.str ([x6] : List (List UInt8)) F W Aa R1 Z9 Aa Aa Aa Aa Aa Aa (Fl.str.repL _ _ ([x6] : List (List UInt8))) fun v6 a w F W => ?_
   obtain ⟨x9, h9, H⟩ := An H
   refine CU (r := Rp.str) (i := 1) F W Aa R1 Aa Aa Aa Aa (DD W 0 Aa) h9 Aa fun v7 a w F W => ?_
   have W : Stw ⟨Y, [], w0⟩ [(b1, [.int .i64 x4.un.1, .int .i64 x4.un.2.1, .int .i64 x4.un.2.2.1, (v5.2.2.2.1)])] [row v7 9 Rp.str x9, row v6 9 Rp.str ([x6] : List (List UInt8))] w := W
   refine ls F W Aa (Ag F Aa).q fun a w F W => ?_
   refine Ae (Bw (Ad (Ab ?_)))
   refine ls F W Aa (BT F Aa Aa Aa).q fun a w F W => ?_
   refine ls F W Aa (Ah F Aa).q fun a w F W => ?_
   refine Ae (Ad ?_)
   have W := W.sub (M' := []) (Z' := [row v7 9 Rp.str x9]) (List.nil_sublist _) (List.Sublist.cons_cons _ (List.nil_sublist _))
   exact ⟨_, H, (v7), F.re ⟨rfl, Aa, Aa, Aa, Aa, Aa, trivial⟩, W⟩
  have H := AR (Bz hb) H
  rw [hb] at F
  clear hb
  refine Cl ?_
  iterate 2 refine CO ?_
  refine Ck (Ad ?_)
  have H := L2 _ H
  exact ⟨_, (v4), H, F.re ⟨rfl, Aa, Aa, trivial⟩, W⟩
 rintro a w ⟨x1, v3, hj, F, W⟩
 have hj := AH hj
 subst hj
 have H := K1
 clear G1 K1
 refine Ai (Ab ?_)
 iterate 2 refine ls F W Aa (Ah F Aa).q fun a w F W => ?_
 obtain ⟨x10, h10, H⟩ := An H
 refine ls F W Aa (A1 (v := Value.string (bs x10)) F St Aa (fun w W => M7 any w (v3) x1 p1 _ h10 (((Bq 0 Aa) : EN _ _ _ _ _ _) w W).nx)) fun a w F W => ?_
 refine ls F W Aa (Ag F Aa).q fun a w F W => ?_
 refine Ae (Ad (Aq ?_))
 have H := AH H
 subst H
 refine AP (.inl Aa) F W Aa (Ap F Aa) ?_
 exact ⟨rfl, W.done⟩
theorem SH : Has Tryd.prog 50 := ⟨fun args w => Al Tryd.func50 rfl (by decide) args w⟩
noncomputable def Dl (fRec : Tr25 → Option (List UInt8)) (p0 : Tr25) : Option (List UInt8) := (if p0.un.1 = 1 then some ([116, 114, 117, 101] : List UInt8) else (if p0.un.1 = 2 then some ([102, 97, 108, 115, 101] : List UInt8) else (if p0.un.1 = 3 then (Eo (DI p0.un.2.1) ([32, 61, 32] : List UInt8)).bind fun x1 => (L9 p0.un.2.2.1).bind fun x2 => (Eo x1 x2).bind fun x3 => some x3 else (if p0.un.1 = 4 then ((El fRec) p0.un.2.2.2 ([] : List UInt8)).bind fun x4 => (Eo ([110, 111, 116, 32] : List UInt8) x4).bind fun x5 => some x5 else (if p0.un.1 = 5 then ((El fRec) p0.un.2.2.2 ([32, 97, 110, 100, 32] : List UInt8)).bind fun x6 => some x6 else (if p0.un.1 = 6 then ((El fRec) p0.un.2.2.2 ([32, 111, 114, 32] : List UInt8)).bind fun x7 => some x7 else some ([63] : List UInt8)))))))
noncomputable def DY : Nat → Tr25 → Option (List UInt8)
  | 0 => fun _ => none
  | n + 1 => Dl (DY n)
noncomputable def IU (p0 : Tr25) : Option (List UInt8) := Gx fun n => DY n p0
theorem LQ (fRec : Tr25 → Option (List UInt8)) (ih : ∀ (Y : Nat → Prop) (w0 : World) (v1 : Value) (p0 : Tr25) (r : List UInt8) (H : fRec p0 = some r) (h_v1 : Sl w0 (NX []) AY v1 p0.un.2.2.2) (hG : Gk [] w0), Calls Tryd.prog 21 #[.agg #[.int .i64 p0.un.1, .int .i64 p0.un.2.1, .int .i64 p0.un.2.2.1, v1]] w0 fun e w' => e = .returned (.string (bs r)) ∧ Below w0.heap.size w0 w') (Y : Nat → Prop) (w0 : World) (v1 : Value) (p0 : Tr25) (r : List UInt8) (H : Dl fRec p0 = some r) (h_v1 : Sl w0 (NX []) AY v1 p0.un.2.2.2) (hG : Gk [] w0) :
    Calls Tryd.prog 21 #[.agg #[.int .i64 p0.un.1, .int .i64 p0.un.2.1, .int .i64 p0.un.2.2.1, v1]] w0 fun e w' => e = .returned (.string (bs r)) ∧ Below w0.heap.size w0 w' := by
 refine enter Tryd.func21 Aa Tryd.ntmps21 Aa fun a F => ?_
 have W := Stw.start Y w0
 obtain ⟨v2, h1, h_v1⟩ := h_v1.ex Gq
 unfold Dl at H
 refine Ai (Ab ?_)
 refine H2 (cs := (MI p0 v1)) F W Aa Aa Aa fun b1 a w F W => ?_
 refine ls F W Aa (Ag (v := Value.string (bs ([] : List UInt8))) F Aa).q fun a w F W => ?_
 refine Ae (Ad (Ai (Ai (Ab ?_))))
 refine ls F W Aa (Ao Jm Aa Aa Aa T3 F Aa 0 Aa).q fun a w F W => ?_
 refine ls F W Aa (AJ (v := Value.int .i64 p0.un.1) 0 F Aa Aa T3 Aa).q fun a w F W => ?_
 refine Ae (Ad (AV (Ai (Ab ?_))))
 refine ls F W Aa (Bn F Aa Aa).q fun a w F W => ?_
 refine ls F W Aa (Ag F Aa).q fun a w F W => ?_
 refine Ae (Ad ?_)
 refine Aw F Aa (fun hb => ?_) fun hb => ?_
 ·
  have H := AQ (BB hb) H
  rw [hb] at F
  clear hb
  refine Ai (Ab ?_)
  refine ls F W Aa (Ag (v := Value.string (bs ([116, 114, 117, 101] : List UInt8))) F Aa).q fun a w F W => ?_
  refine Ae (Ad (Aq (A5 (AD ?_))))
  have H := AH H
  subst H
  refine AP (.inl Aa) F W Aa (Ap F Aa) ?_
  exact ⟨rfl, W.done⟩
 have H := AR (Bz hb) H
 rw [hb] at F
 clear hb
 refine Ai (Ab ?_)
 refine ls F W Aa (Bn F Aa Aa).q fun a w F W => ?_
 refine ls F W Aa (Ag F Aa).q fun a w F W => ?_
 refine Ae (Ad ?_)
 refine Aw F Aa (fun hb => ?_) fun hb => ?_
 ·
  have H := AQ (BB hb) H
  rw [hb] at F
  clear hb
  refine Ai (Ab ?_)
  refine ls F W Aa (Ag (v := Value.string (bs ([102, 97, 108, 115, 101] : List UInt8))) F Aa).q fun a w F W => ?_
  refine Ae (Ad (Aq (A5 (AD ?_))))
  have H := AH H
  subst H
  refine AP (.inl Aa) F W Aa (Ap F Aa) ?_
  exact ⟨rfl, W.done⟩
 have H := AR (Bz hb) H
 rw [hb] at F
 clear hb
 refine Ai (Ab ?_)
 refine ls F W Aa (Bn F Aa Aa).q fun a w F W => ?_
 refine ls F W Aa (Ag F Aa).q fun a w F W => ?_
 refine Ae (Ad ?_)
 refine Aw F Aa (fun hb => ?_) fun hb => ?_
 ·
  have H := AQ (BB hb) H
  rw [hb] at F
  clear hb
  refine Ai ?_
  refine Fc W MO (by kernel_rfl) ?_
  refine qs F Aa (Ao Jm Aa Aa Aa T3 F Aa 1 Aa).q fun a F => ?_
  refine qs F Aa (AJ (v := Value.int .i64 p0.un.2.1) 0 F Aa Aa T3 Aa).q fun a F => ?_
  refine qs F Aa (A1 (v := Value.string (bs (DI p0.un.2.1))) F Tw Aa (fun w W => J5 any w p0.un.2.1 _ Aa)) fun a F => ?_
  obtain ⟨x1, h2, H⟩ := An H
  refine qs F Aa (EG (l := (DI p0.un.2.1)) (m := ([32, 61, 32] : List UInt8)) F Aa Aa h2).q fun a F => ?_
  refine qs F Aa (Ao Jm Aa Aa Aa T3 F Aa 2 Aa).q fun a F => ?_
  refine qs F Aa (AJ (v := Value.int .i64 p0.un.2.2.1) 0 F Aa Aa T3 Aa).q fun a F => ?_
  obtain ⟨x2, h3, H⟩ := An H
  refine qs F Aa (A1 (v := Value.string (bs x2)) F S5 Aa (fun w W => Qy any w p0.un.2.2.1 _ h3 (hG.go0 W))) fun a F => ?_
  obtain ⟨x3, h4, H⟩ := An H
  refine qs F Aa (EG (l := x1) (m := x2) F Aa Aa h4).q fun a F => ?_
  refine qs F Aa (Ag F Aa).q fun a F => ?_
  refine Ek fun w W => ?_
  refine Ad (Aq (A5 (AD ?_)))
  have H := AH H
  subst H
  refine AP (.inl Aa) F W Aa (Ap F Aa) ?_
  exact ⟨rfl, W.done⟩
 have H := AR (Bz hb) H
 rw [hb] at F
 clear hb
 refine Ai (Ab ?_)
 refine ls F W Aa (Bn F Aa Aa).q fun a w F W => ?_
 refine ls F W Aa (Ag F Aa).q fun a w F W => ?_
 refine Ae (Ad ?_)
 refine Aw F Aa (fun hb => ?_) fun hb => ?_
 ·
  have H := AQ (BB hb) H
  rw [hb] at F
  clear hb
  refine Ai (Ab ?_)
  refine ls F W Aa (Ao Jm Aa Aa Aa QJ F Aa 3 Aa).q fun a w F W => ?_
  refine ls F W Aa (AJ (v := v1) 0 F Aa Aa QJ Aa).q fun a w F W => ?_
  obtain ⟨x4, h5, H⟩ := An H
  refine ls F W Aa (A1 (v := Value.string (bs x4)) F SH Aa (fun w W => (Ie fRec ih) any w (v1) p0.un.2.2.2 ([] : List UInt8) _ h5 (((Cd Gq h1 (AG h_v1)) : EN _ _ _ _ _ _) w W).nx (hG.go0 W))) fun a w F W => ?_
  obtain ⟨x5, h6, H⟩ := An H
  refine ls F W Aa (EG (l := ([110, 111, 116, 32] : List UInt8)) (m := x4) F Aa Aa h6).q fun a w F W => ?_
  refine ls F W Aa (Ag F Aa).q fun a w F W => ?_
  refine Ae (Ad (Aq (A5 (AD ?_))))
  have H := AH H
  subst H
  refine AP (.inl Aa) F W Aa (Ap F Aa) ?_
  exact ⟨rfl, W.done⟩
 have H := AR (Bz hb) H
 rw [hb] at F
 clear hb
 refine Ai (Ab ?_)
 refine ls F W Aa (Bn F Aa Aa).q fun a w F W => ?_
 refine ls F W Aa (Ag F Aa).q fun a w F W => ?_
 refine Ae (Ad ?_)
 refine Aw F Aa (fun hb => ?_) fun hb => ?_
 ·
  have H := AQ (BB hb) H
  rw [hb] at F
  clear hb
  refine Ai (Ab ?_)
  refine ls F W Aa (Ao Jm Aa Aa Aa QJ F Aa 3 Aa).q fun a w F W => ?_
  refine ls F W Aa (AJ (v := v1) 0 F Aa Aa QJ Aa).q fun a w F W => ?_
  obtain ⟨x6, h7, H⟩ := An H
  refine ls F W Aa (A1 (v := Value.string (bs x6)) F SH Aa (fun w W => (Ie fRec ih) any w (v1) p0.un.2.2.2 ([32, 97, 110, 100, 32] : List UInt8) _ h7 (((Cd Gq h1 (AG h_v1)) : EN _ _ _ _ _ _) w W).nx (hG.go0 W))) fun a w F W => ?_
  refine ls F W Aa (Ag F Aa).q fun a w F W => ?_
  refine Ae (Ad (Aq (A5 (AD ?_))))
  have H := AH H
  subst H
  refine AP (.inl Aa) F W Aa (Ap F Aa) ?_
  exact ⟨rfl, W.done⟩
 have H := AR (Bz hb) H
 rw [hb] at F
 clear hb
 refine Ai (Ab ?_)
 refine ls F W Aa (Bn F Aa Aa).q fun a w F W => ?_
 refine ls F W Aa (Ag F Aa).q fun a w F W => ?_
 refine Ae (Ad ?_)
 refine Aw F Aa (fun hb => ?_) fun hb => ?_
 ·
  have H := AQ (BB hb) H
  rw [hb] at F
  clear hb
  refine Ai (Ab ?_)
  refine ls F W Aa (Ao Jm Aa Aa Aa QJ F Aa 3 Aa).q fun a w F W => ?_
  refine ls F W Aa (AJ (v := v1) 0 F Aa Aa QJ Aa).q fun a w F W => ?_
  obtain ⟨x7, h8, H⟩ := An H
  refine ls F W Aa (A1 (v := Value.string (bs x7)) F SH Aa (fun w W => (Ie fRec ih) any w (v1) p0.un.2.2.2 ([32, 111, 114, 32] : List UInt8) _ h8 (((Cd Gq h1 (AG h_v1)) : EN _ _ _ _ _ _) w W).nx (hG.go0 W))) fun a w F W => ?_
  refine ls F W Aa (Ag F Aa).q fun a w F W => ?_
  refine Ae (Ad (Aq (A5 (AD ?_))))
  have H := AH H
  subst H
  refine AP (.inl Aa) F W Aa (Ap F Aa) ?_
  exact ⟨rfl, W.done⟩
 have H := AR (Bz hb) H
 rw [hb] at F
 clear hb
 refine Ax (Bw (Ad (Ai (Ab ?_))))
 refine ls F W Aa (Ag (v := Value.string (bs ([63] : List UInt8))) F Aa).q fun a w F W => ?_
 refine Ae (Ad (Aq ?_))
 have H := AH H
 subst H
 refine AP (.inl Aa) F W Aa (Ap F Aa) ?_
 exact ⟨rfl, W.done⟩
theorem MJ : ∀ (n : Nat) (Y : Nat → Prop) (w0 : World) (v1 : Value) (p0 : Tr25) (r : List UInt8) (H : DY n p0 = some r) (h_v1 : Sl w0 (NX []) AY v1 p0.un.2.2.2) (hG : Gk [] w0), Calls Tryd.prog 21 #[.agg #[.int .i64 p0.un.1, .int .i64 p0.un.2.1, .int .i64 p0.un.2.2.1, v1]] w0 fun e w' => e = .returned (.string (bs r)) ∧ Below w0.heap.size w0 w' := by
  intro n
  induction n with
  | zero => intro Y w0 v1 p0 r H; exact nomatch H
  | succ n ih => intro Y w0 v1 p0 r H h_v1 hG; exact LQ (DY n) ih Y w0 v1 p0 r H h_v1 hG
theorem Kb (Y : Nat → Prop) (w0 : World) (v1 : Value) (p0 : Tr25) (r : List UInt8) (H : IU p0 = some r) (h_v1 : Sl w0 (NX []) AY v1 p0.un.2.2.2) (hG : Gk [] w0) :
    Calls Tryd.prog 21 #[.agg #[.int .i64 p0.un.1, .int .i64 p0.un.2.1, .int .i64 p0.un.2.2.1, v1]] w0 fun e w' => e = .returned (.string (bs r)) ∧ Below w0.heap.size w0 w' := by
  obtain ⟨n, H⟩ := Ch H
  exact MJ n Y w0 v1 p0 r H h_v1 hG
noncomputable def Dn (p0 : Tr25) : Option (List UInt8) := (if p0.un.1 = 1 then some ([105, 100] : List UInt8) else (if p0.un.1 = 2 then some ([100, 114, 111, 112] : List UInt8) else (IU p0).bind fun x1 => (Eo ([119, 104, 101, 110, 32] : List UInt8) x1).bind fun x2 => some x2))
theorem IY (Y : Nat → Prop) (w0 : World) (v1 : Value) (p0 : Tr25) (r : List UInt8) (H : Dn p0 = some r) (h_v1 : Sl w0 (NX []) AY v1 p0.un.2.2.2) (hG : Gk [] w0) :
    Calls Tryd.prog 41 #[.agg #[.int .i64 p0.un.1, .int .i64 p0.un.2.1, .int .i64 p0.un.2.2.1, v1]] w0 fun e w' => e = .returned (.string (bs r)) ∧ Below w0.heap.size w0 w' := by
 refine enter Tryd.func41 Aa Tryd.ntmps41 Aa fun a F => ?_
 have W := Stw.start Y w0
 obtain ⟨v2, h1, h_v1⟩ := h_v1.ex Gq
 unfold Dn at H
 refine Ai (Ab ?_)
 refine H2 (cs := (MI p0 v1)) F W Aa Aa Aa fun b1 a w F W => ?_
 refine ls F W Aa (Ag (v := Value.string (bs ([] : List UInt8))) F Aa).q fun a w F W => ?_
 refine Ae (Ad (Ai (Ai (Ab ?_))))
 refine ls F W Aa (Ao Jm Aa Aa Aa T3 F Aa 0 Aa).q fun a w F W => ?_
 refine ls F W Aa (AJ (v := Value.int .i64 p0.un.1) 0 F Aa Aa T3 Aa).q fun a w F W => ?_
 refine Ae (Ad (AV (Ai (Ab ?_))))
 refine ls F W Aa (Bn F Aa Aa).q fun a w F W => ?_
 refine ls F W Aa (Ag F Aa).q fun a w F W => ?_
 refine Ae (Ad ?_)
 refine Aw F Aa (fun hb => ?_) fun hb => ?_
 ·
  have H := AQ (BB hb) H
  rw [hb] at F
  clear hb
  refine Ai (Ab ?_)
  refine ls F W Aa (Ag (v := Value.string (bs ([105, 100] : List UInt8))) F Aa).q fun a w F W => ?_
  refine Ae (Ad (Aq (A5 (AD ?_))))
  have H := AH H
  subst H
  refine AP (.inl Aa) F W Aa (Ap F Aa) ?_
  exact ⟨rfl, W.done⟩
 have H := AR (Bz hb) H
 rw [hb] at F
 clear hb
 refine Ai (Ab ?_)
 refine ls F W Aa (Bn F Aa Aa).q fun a w F W => ?_
 refine ls F W Aa (Ag F Aa).q fun a w F W => ?_
 refine Ae (Ad ?_)
 refine Aw F Aa (fun hb => ?_) fun hb => ?_
 ·
  have H := AQ (BB hb) H
  rw [hb] at F
  clear hb
  refine Ai (Ab ?_)
  refine ls F W Aa (Ag (v := Value.string (bs ([100, 114, 111, 112] : List UInt8))) F Aa).q fun a w F W => ?_
  refine Ae (Ad (Aq (A5 (AD ?_))))
  have H := AH H
  subst H
  refine AP (.inl Aa) F W Aa (Ap F Aa) ?_
  exact ⟨rfl, W.done⟩
 have H := AR (Bz hb) H
 rw [hb] at F
 clear hb
 refine Ax (Bw (Ad (Ai (Ab ?_))))
 refine ls F W Aa (AJ (v := Value.agg #[.int .i64 p0.un.1, .int .i64 p0.un.2.1, .int .i64 p0.un.2.2.1, v1]) 0 F Aa Aa FV Aa).q fun a w F W => ?_
 obtain ⟨x1, h2, H⟩ := An H
 refine ls F W Aa (A1 (v := Value.string (bs x1)) F S0 Aa (fun w W => Kb any w (v1) p0 _ h2 (((Cd Gq h1 (AG h_v1)) : EN _ _ _ _ _ _) w W).nx (hG.go0 W))) fun a w F W => ?_
 obtain ⟨x2, h3, H⟩ := An H
 refine ls F W Aa (EG (l := ([119, 104, 101, 110, 32] : List UInt8)) (m := x1) F Aa Aa h3).q fun a w F W => ?_
 refine ls F W Aa (Ag F Aa).q fun a w F W => ?_
 refine Ae (Ad (Aq ?_))
 have H := AH H
 subst H
 refine AP (.inl Aa) F W Aa (Ap F Aa) ?_
 exact ⟨rfl, W.done⟩
theorem Tn : Has Tryd.prog 41 := ⟨fun args w => Al Tryd.func41 rfl (by decide) args w⟩
def C3 (p0 : Int) : List UInt8 := (if p0 = 0 then ([115, 114, 99] : List UInt8) else (if p0 = 1 then ([100, 115, 116] : List UInt8) else (if p0 = 2 then ([107, 105, 110, 100] : List UInt8) else (if p0 = 3 then ([116, 97, 103] : List UInt8) else (if p0 = 4 then ([112, 111, 114, 116] : List UInt8) else ([63] : List UInt8))))))
theorem Js (Y : Nat → Prop) (w0 : World)  (p0 : Int) (r : List UInt8) (H : C3 p0 = r)  :
    Calls Tryd.prog 42 #[.int .i64 p0] w0 fun e w' => e = .returned (.string (bs r)) ∧ Below w0.heap.size w0 w' := by
 refine enter Tryd.func42 Aa Tryd.ntmps42 Aa fun a F => ?_
 have W := Stw.start Y w0
 unfold C3 at H
 refine Ai (Ab ?_)
 refine ls F W Aa (Ag (v := Value.string (bs ([] : List UInt8))) F Aa).q fun a w F W => ?_
 refine Ae (Ad (Ai (Ai (Ab ?_))))
 refine ls F W Aa (Ah F Aa).q fun a w F W => ?_
 refine Ae (Ad (AV (Ai (Ab ?_))))
 refine ls F W Aa (Bn F Aa Aa).q fun a w F W => ?_
 refine ls F W Aa (Ag F Aa).q fun a w F W => ?_
 refine Ae (Ad ?_)
 refine Aw F Aa (fun hb => ?_) fun hb => ?_
 ·
  have H := AQ (BB hb) H
  rw [hb] at F
  clear hb
  refine Ai (Ab ?_)
  refine ls F W Aa (Ag (v := Value.string (bs ([115, 114, 99] : List UInt8))) F Aa).q fun a w F W => ?_
  refine Ae (Ad (Aq (A5 (AD ?_))))
  subst H
  refine AP (.inl Aa) F W Aa (Ap F Aa) ?_
  exact ⟨rfl, W.done⟩
 have H := AR (Bz hb) H
 rw [hb] at F
 clear hb
 refine Ai (Ab ?_)
 refine ls F W Aa (Bn F Aa Aa).q fun a w F W => ?_
 refine ls F W Aa (Ag F Aa).q fun a w F W => ?_
 refine Ae (Ad ?_)
 refine Aw F Aa (fun hb => ?_) fun hb => ?_
 ·
  have H := AQ (BB hb) H
  rw [hb] at F
  clear hb
  refine Ai (Ab ?_)
  refine ls F W Aa (Ag (v := Value.string (bs ([100, 115, 116] : List UInt8))) F Aa).q fun a w F W => ?_
  refine Ae (Ad (Aq (A5 (AD ?_))))
  subst H
  refine AP (.inl Aa) F W Aa (Ap F Aa) ?_
  exact ⟨rfl, W.done⟩
 have H := AR (Bz hb) H
 rw [hb] at F
 clear hb
 refine Ai (Ab ?_)
 refine ls F W Aa (Bn F Aa Aa).q fun a w F W => ?_
 refine ls F W Aa (Ag F Aa).q fun a w F W => ?_
 refine Ae (Ad ?_)
 refine Aw F Aa (fun hb => ?_) fun hb => ?_
 ·
  have H := AQ (BB hb) H
  rw [hb] at F
  clear hb
  refine Ai (Ab ?_)
  refine ls F W Aa (Ag (v := Value.string (bs ([107, 105, 110, 100] : List UInt8))) F Aa).q fun a w F W => ?_
  refine Ae (Ad (Aq (A5 (AD ?_))))
  subst H
  refine AP (.inl Aa) F W Aa (Ap F Aa) ?_
  exact ⟨rfl, W.done⟩
 have H := AR (Bz hb) H
 rw [hb] at F
 clear hb
 refine Ai (Ab ?_)
 refine ls F W Aa (Bn F Aa Aa).q fun a w F W => ?_
 refine ls F W Aa (Ag F Aa).q fun a w F W => ?_
 refine Ae (Ad ?_)
 refine Aw F Aa (fun hb => ?_) fun hb => ?_
 ·
  have H := AQ (BB hb) H
  rw [hb] at F
  clear hb
  refine Ai (Ab ?_)
  refine ls F W Aa (Ag (v := Value.string (bs ([116, 97, 103] : List UInt8))) F Aa).q fun a w F W => ?_
  refine Ae (Ad (Aq (A5 (AD ?_))))
  subst H
  refine AP (.inl Aa) F W Aa (Ap F Aa) ?_
  exact ⟨rfl, W.done⟩
 have H := AR (Bz hb) H
 rw [hb] at F
 clear hb
 refine Ai (Ab ?_)
 refine ls F W Aa (Bn F Aa Aa).q fun a w F W => ?_
 refine ls F W Aa (Ag F Aa).q fun a w F W => ?_
 refine Ae (Ad ?_)
 refine Aw F Aa (fun hb => ?_) fun hb => ?_
 ·
  have H := AQ (BB hb) H
  rw [hb] at F
  clear hb
  refine Ai (Ab ?_)
  refine ls F W Aa (Ag (v := Value.string (bs ([112, 111, 114, 116] : List UInt8))) F Aa).q fun a w F W => ?_
  refine Ae (Ad (Aq (A5 (AD ?_))))
  subst H
  refine AP (.inl Aa) F W Aa (Ap F Aa) ?_
  exact ⟨rfl, W.done⟩
 have H := AR (Bz hb) H
 rw [hb] at F
 clear hb
 refine Ax (Bw (Ad (Ai (Ab ?_))))
 refine ls F W Aa (Ag (v := Value.string (bs ([63] : List UInt8))) F Aa).q fun a w F W => ?_
 refine Ae (Ad (Aq ?_))
 subst H
 refine AP (.inl Aa) F W Aa (Ap F Aa) ?_
 exact ⟨rfl, W.done⟩
theorem Tr : Has Tryd.prog 42 := ⟨fun args w => Al Tryd.func42 rfl (by decide) args w⟩
theorem PE : Ty Tryd.prog 26 false 1 := ⟨by kernel_rfl, by kernel_rfl⟩
theorem Td : Has Tryd.prog 17 := ⟨fun args w => Al Tryd.func17 rfl (by decide) args w⟩
noncomputable def BP (fRec_policy_Text : Tr28 → Option (List UInt8)) (p0 : List Tr28) : (List (List UInt8) × Int) → Option ((List (List UInt8) × Int) ⊕ (List (List UInt8)))
  | (x2, x3) => (if x3 < (p0.length : Int) then (ix p0 x3).bind fun x4 => (fRec_policy_Text (Tr28.of (x4.un.1, Tr25.of (x4.un.2.1.un.1, x4.un.2.1.un.2.1, x4.un.2.1.un.2.2.1, x4.un.2.1.un.2.2.2), x4.un.2.2.1, x4.un.2.2.2.1, x4.un.2.2.2.2))).bind fun x5 => (if (decide (x4.un.1 = 3) || (decide (x4.un.1 = 4) || decide (x4.un.1 = 5))) = true then (Eo ([40] : List UInt8) x5).bind fun x7 => (Eo x7 ([41] : List UInt8)).bind fun x8 => some x8 else some x5).bind fun x6 => (Eo x2 ([x6] : List (List UInt8))).bind fun x9 => some (.inl (x9, Co (x3 + 1))) else some (.inr x2))
noncomputable def B1 (fRec_policy_Text : Tr28 → Option (List UInt8)) (p0 : List Tr28) : Option (List (List UInt8)) := (Bx (BP fRec_policy_Text p0) ([], 0)).bind fun x1 => some x1
theorem EP (fRec_policy_Text : Tr28 → Option (List UInt8)) (ih_policy_Text : ∀ (Y : Nat → Prop) (w0 : World) (v1 : Value) (v2 : Value) (p0 : Tr28) (r : List UInt8) (H : fRec_policy_Text p0 = some r) (h_v1 : Sl w0 (NX []) AY v1 p0.un.2.1.un.2.2.2) (h_v2 : Sl w0 (NX []) BJ v2 p0.un.2.2.2.2) (hG : Gk [] w0), Calls Tryd.prog 17 #[.agg #[.int .i64 p0.un.1, .int .i64 p0.un.2.1.un.1, .int .i64 p0.un.2.1.un.2.1, .int .i64 p0.un.2.1.un.2.2.1, v1, .int .i64 p0.un.2.2.1, .int .i64 p0.un.2.2.2.1, v2]] w0 fun e w' => e = .returned (.string (bs r)) ∧ Below w0.heap.size w0 w') (Y : Nat → Prop) (w0 : World) (v1 : Value) (p0 : List Tr28) (r : List (List UInt8)) (H : B1 fRec_policy_Text p0 = some r) (h_v1 : Sl w0 (NX []) BJ v1 p0) (hG : Gk [] w0) :
    Calls Tryd.prog 45 #[v1] w0 fun e w' => ∃ x : Value, e = .returned (x) ∧ Stw ⟨Y, [], w0⟩ [] [row (x) 9 Rp.str r] w' := by
 refine enter Tryd.func45 Aa Tryd.ntmps45 Aa fun a F => ?_
 have W := Stw.start Y w0
 obtain ⟨v2, h1, h_v1⟩ := h_v1.ex JB
 unfold B1 at H
 refine Ai (Ab ?_)
 refine ls F W Aa (Ag F Aa).q fun a w F W => ?_
 refine Ae (Ad (Ai (Ab ?_)))
 refine ls F W Aa (Ag F Aa).q fun a w F W => ?_
 refine Ae (Ad ?_)
 obtain ⟨o1, G1, K1⟩ := An H
 refine Bd (fun a w => ∃ x1 : List (List UInt8), ∃ v3 : Value, some (x1) = some o1 ∧ Fr 37 [] [(2, .slice none 0 0), (3, v3)] a ∧ Stw ⟨Y, [], w0⟩ [] [row v3 9 Rp.str x1] w) ?_ ?_
 ·
  have H := G1
  clear G1 K1
  refine Ai (Ab ?_)
  refine ls F W Aa (Ah F Aa).q fun a w F W => ?_
  refine ls F W Aa (E4 (r := BJ) (l := p0) Pj Aa F Aa (Cd JB h1 (AG h_v1))).q fun a w F W => ?_
  refine ls F W Aa (Ah F Aa).q fun a w F W => ?_
  refine Ae (Ad (AV ?_))
  have W := W.nilRow 9 Rp.str
  refine Cr H (fun s a w => ∃ v4 : Value, Fr 37 [] [(2, .slice none 0 0), (3, v4), (7, v1), (8, .int .i64 (p0.length : Int)), (9, .int .i64 s.2)] a ∧ Stw ⟨Y, [], w0⟩ [] [row v4 9 Rp.str s.1] w) ⟨(Value.slice none 0 0), F.re ⟨rfl, Aa, Aa, Aa, Aa, trivial⟩, W⟩ fun s o a w H L2 hR => ?_
  obtain ⟨x2, x3⟩ := s
  obtain ⟨v4, F, W⟩ := hR
  have F : Fr 37 [] [(2, .slice none 0 0), (3, v4), (7, v1), (8, .int .i64 (p0.length : Int)), (9, .int .i64 x3)] a := F
  have W : Stw ⟨Y, [], w0⟩ [] [row v4 9 Rp.str x2] w := W
  rw [BP] at H
  refine Ai (Ab ?_)
  refine ls F W Aa (Fd F Aa Aa).q fun a w F W => ?_
  refine Ae (Ad (Ai ?_))
  refine Aw F Aa (fun hb => ?_) fun hb => ?_
  ·
   have H := AQ (BB hb) H
   rw [hb] at F
   clear hb
   refine Ax (Ad (Ai (AV (Ai (Ab ?_)))))
   obtain ⟨x4, h2, H⟩ := An H
   obtain ⟨v5, h3, h4⟩ := H1 h1 h2
   have h5 : MZ v5 = [.int .i64 x4.un.1, .int .i64 x4.un.2.1.un.1, .int .i64 x4.un.2.1.un.2.1, .int .i64 x4.un.2.1.un.2.2.1, (v5.2.1.2.2.2.1), .int .i64 x4.un.2.2.1, .int .i64 x4.un.2.2.2.1, (v5.2.2.2.2.1)] := congrArg (fun q : Tr28 => ([.int .i64 q.un.1, .int .i64 q.un.2.1.un.1, .int .i64 q.un.2.1.un.2.1, .int .i64 q.un.2.1.un.2.2.1, (v5.2.1.2.2.2.1), .int .i64 q.un.2.2.1, .int .i64 q.un.2.2.2.1, (v5.2.2.2.2.1)] : List Value)) h4
   refine ls F W Aa (CE (r := Pw) Qn F Aa Aa (AG h_v1) h3).q fun a w F W => ?_
   refine ls F W Aa (BV (y := Value.agg #[.int .i64 x4.un.1, .int .i64 x4.un.2.1.un.1, .int .i64 x4.un.2.1.un.2.1, .int .i64 x4.un.2.1.un.2.2.1, (v5.2.1.2.2.2.1), .int .i64 x4.un.2.2.1, .int .i64 x4.un.2.2.2.1, (v5.2.2.2.2.1)]) (j := 0) (i := x3) (enc := MZ) F Aa Aa (AG h_v1) h3 Q4 FG (by rw [h5]; rfl)).q fun a w F W => ?_
   refine AU (cs := (Bl)) F W Aa L4 Aa fun b1 a w F W => ?_
   refine Au (vs := [.int .i64 x4.un.1, .int .i64 x4.un.2.1.un.1, .int .i64 x4.un.2.1.un.2.1, .int .i64 x4.un.2.1.un.2.2.1, (v5.2.1.2.2.2.1), .int .i64 x4.un.2.2.1, .int .i64 x4.un.2.2.2.1, (v5.2.2.2.2.1)]) (M' := [(b1, [.int .i64 x4.un.1, .int .i64 x4.un.2.1.un.1, .int .i64 x4.un.2.1.un.2.1, .int .i64 x4.un.2.1.un.2.2.1, (v5.2.1.2.2.2.1), .int .i64 x4.un.2.2.1, .int .i64 x4.un.2.2.2.1, (v5.2.2.2.2.1)])]) 0 F W Aa Aa Aa FG Aa Aa Aa (Ac Aa (Ac Aa (Ac Aa (Ac Aa (Ac ((E8 (AG h_v1) h3 (Bp.snd (Bp.fst (Bp.snd (Bp.snd (Bp.snd Bp.here))))) (congrArg (fun q : Tr28 => q.un.2.1.un.2.2.2) h4)) _ W).one (Ac Aa (Ac Aa (Ac ((E8 (AG h_v1) h3 (Bp.snd (Bp.snd (Bp.snd (Bp.snd Bp.here)))) (congrArg (fun q : Tr28 => q.un.2.2.2.2) h4)) _ W).one AM)))))))) Aa fun w W => ?_
   refine Ae (Ad (Ai (Ab ?_)))
   refine ls F W Aa (AJ (v := Value.agg #[.int .i64 x4.un.1, .int .i64 x4.un.2.1.un.1, .int .i64 x4.un.2.1.un.2.1, .int .i64 x4.un.2.1.un.2.2.1, (v5.2.1.2.2.2.1), .int .i64 x4.un.2.2.1, .int .i64 x4.un.2.2.2.1, (v5.2.2.2.2.1)]) 0 F Aa Aa FG Aa).q fun a w F W => ?_
   obtain ⟨x5, h6, H⟩ := An H
   refine ls F W Aa (A1 (v := Value.string (bs x5)) F Td Aa (fun w W => ih_policy_Text any w ((v5.2.1.2.2.2.1)) ((v5.2.2.2.2.1)) (Tr28.of (x4.un.1, Tr25.of (x4.un.2.1.un.1, x4.un.2.1.un.2.1, x4.un.2.1.un.2.2.1, x4.un.2.1.un.2.2.2), x4.un.2.2.1, x4.un.2.2.2.1, x4.un.2.2.2.2)) _ h6 (((E8 (AG h_v1) h3 (Bp.snd (Bp.fst (Bp.snd (Bp.snd (Bp.snd Bp.here))))) (congrArg (fun q : Tr28 => q.un.2.1.un.2.2.2) h4)) : EN _ _ _ _ _ _) w W).nx (((E8 (AG h_v1) h3 (Bp.snd (Bp.snd (Bp.snd (Bp.snd Bp.here)))) (congrArg (fun q : Tr28 => q.un.2.2.2.2) h4)) : EN _ _ _ _ _ _) w W).nx (hG.go0 W))) fun a w F W => ?_
   refine ls F W Aa (Ag F Aa).q fun a w F W => ?_
   refine Ae (Ad ?_)
   obtain ⟨o3, G3, K3⟩ := An H
   refine Bd (fun a w => ∃ x6 : List UInt8, some (x6) = some o3 ∧ Fr 37 [] [(2, .slice none 0 0), (3, v4), (6, .string (bs x6)), (7, v1), (8, .int .i64 (p0.length : Int)), (9, .int .i64 x3)] a ∧ Stw ⟨Y, [], w0⟩ [(b1, [.int .i64 x4.un.1, .int .i64 x4.un.2.1.un.1, .int .i64 x4.un.2.1.un.2.1, .int .i64 x4.un.2.1.un.2.2.1, (v5.2.1.2.2.2.1), .int .i64 x4.un.2.2.1, .int .i64 x4.un.2.2.2.1, (v5.2.2.2.2.1)])] [row v4 9 Rp.str x2] w) ?_ ?_
   ·
    have H := G3
    clear G3 K3
    refine Bd (fun a w => Fr 37 [] [(2, .slice none 0 0), (3, v4), (6, .string (bs x5)), (7, v1), (8, .int .i64 (p0.length : Int)), (9, .int .i64 x3), (27, .bool (decide (x4.un.1 = 3) || (decide (x4.un.1 = 4) || decide (x4.un.1 = 5))))] a ∧ Stw ⟨Y, [], w0⟩ [(b1, [.int .i64 x4.un.1, .int .i64 x4.un.2.1.un.1, .int .i64 x4.un.2.1.un.2.1, .int .i64 x4.un.2.1.un.2.2.1, (v5.2.1.2.2.2.1), .int .i64 x4.un.2.2.1, .int .i64 x4.un.2.2.2.1, (v5.2.2.2.2.1)])] [row v4 9 Rp.str x2] w) ?_ ?_
    ·
     refine Ab ?_
     refine ls F W Aa (Ao Hv Aa Aa Aa T3 F Aa 0 Aa).q fun a w F W => ?_
     refine ls F W Aa (AJ (v := Value.int .i64 x4.un.1) 0 F Aa Aa T3 Aa).q fun a w F W => ?_
     refine ls F W Aa (Bn F Aa Aa).q fun a w F W => ?_
     refine ls F W Aa (Ah F Aa).q fun a w F W => ?_
     rcases Bool.eq_false_or_eq_true (decide (x4.un.1 = 3)) with hb0 | hb0
     ·
      rw [hb0] at F
      iterate 3 refine Ec F Aa Aa Aa Aa Aa Aa Aa fun a F => ?_
      refine ls F W Aa (AE F Aa Aa Aa).q fun a w F W => ?_
      refine ls F W Aa (Ah F Aa).q fun a w F W => ?_
      iterate 3 refine Ec F Aa Aa Aa Aa Aa Aa Aa fun a F => ?_
      refine ls F W Aa (AE F Aa Aa Aa).q fun a w F W => ?_
      refine Ae (Ad ?_)
      exact ⟨F.re ⟨rfl, Aa, Aa, Aa, Aa, Aa, (I2 (by try rw [hb0]; all_goals simp only [IZ])), trivial⟩, W⟩
     rw [hb0] at F
     refine AX F W (Ak F Aa Aa Aa Aa) Aa (Ay Aa) (Ao Hv Aa Aa Aa T3 F Aa 0 Aa).q fun a w F W => ?_
     refine AX F W (Ak F Aa Aa Aa Aa) Aa (Ay Aa) (AJ (v := Value.int .i64 x4.un.1) 0 F Aa Aa T3 Aa).q fun a w F W => ?_
     refine AX F W (Ak F Aa Aa Aa Aa) Aa (Ay Aa) (Bn F Aa Aa).q fun a w F W => ?_
     refine ls F W Aa (AN F Aa Aa Aa).q fun a w F W => ?_
     refine ls F W Aa (Ah F Aa).q fun a w F W => ?_
     rcases Bool.eq_false_or_eq_true (decide (x4.un.1 = 4)) with hb1 | hb1
     ·
      rw [hb1] at F
      iterate 3 refine Ec F Aa Aa Aa Aa Aa Aa Aa fun a F => ?_
      refine ls F W Aa (AE F Aa Aa Aa).q fun a w F W => ?_
      refine Ae (Ad ?_)
      exact ⟨F.re ⟨rfl, Aa, Aa, Aa, Aa, Aa, (I2 (by try rw [hb0]; try rw [hb1]; all_goals simp only [IZ])), trivial⟩, W⟩
     rw [hb1] at F
     refine AX F W (Ak F Aa Aa Aa Aa) Aa (Ay Aa) (Ao Hv Aa Aa Aa T3 F Aa 0 Aa).q fun a w F W => ?_
     refine AX F W (Ak F Aa Aa Aa Aa) Aa (Ay Aa) (AJ (v := Value.int .i64 x4.un.1) 0 F Aa Aa T3 Aa).q fun a w F W => ?_
     refine AX F W (Ak F Aa Aa Aa Aa) Aa (Ay Aa) (Bn F Aa Aa).q fun a w F W => ?_
     refine ls F W Aa (AN F Aa Aa Aa).q fun a w F W => ?_
     refine Ae (Ad ?_)
     exact ⟨F.re ⟨rfl, Aa, Aa, Aa, Aa, Aa, (I2 (by try rw [hb0]; try rw [hb1]; all_goals simp only [IZ])), trivial⟩, W⟩
    rintro a w ⟨F, W⟩
    refine Aw F Aa (fun hb => ?_) fun hb => ?_
    ·
     have H := AQ hb H
     rw [hb] at F
     clear hb
     refine Ab ?_
     refine ls F W Aa (Ah F Aa).q fun a w F W => ?_
     obtain ⟨x7, h7, H⟩ := An H
     refine ls F W Aa (EG (l := ([40] : List UInt8)) (m := x5) F Aa Aa h7).q fun a w F W => ?_
     obtain ⟨x8, h8, H⟩ := An H
     refine ls F W Aa (EG (l := x7) (m := ([41] : List UInt8)) F Aa Aa h8).q fun a w F W => ?_
     refine ls F W Aa (Ag F Aa).q fun a w F W => ?_
     refine Ae (Ad ?_)
     exact ⟨_, H, F.re ⟨rfl, Aa, Aa, Aa, Aa, Aa, trivial⟩, W⟩
    have H := AR (by rw [hb]; decide) H
    rw [hb] at F
    clear hb
    refine Ax (Ad ?_)
    exact ⟨_, H, F.re ⟨rfl, Aa, Aa, Aa, Aa, Aa, trivial⟩, W⟩
   rintro a w ⟨x6, hj, F, W⟩
   have hj := AH hj
   subst hj
   have H := K3
   clear G3 K3
   refine Ab ?_
   iterate 2 refine ls F W Aa (Ah F Aa).q fun a w F W => ?_
   refine Dj (z := Value.string (bs ([] : List UInt8))) (cs := [.string (bs x6)]) Rp.str ([x6] : List (List UInt8)) F W Aa R1 Z9 Aa Aa Aa Aa Aa Aa (Fl.str.repL _ _ ([x6] : List (List UInt8))) fun v6 a w F W => ?_
   obtain ⟨x9, h9, H⟩ := An H
   refine CU (r := Rp.str) (i := 1) F W Aa R1 Aa Aa Aa Aa (DD W 0 Aa) h9 Aa fun v7 a w F W => ?_
   have W : Stw ⟨Y, [], w0⟩ [(b1, [.int .i64 x4.un.1, .int .i64 x4.un.2.1.un.1, .int .i64 x4.un.2.1.un.2.1, .int .i64 x4.un.2.1.un.2.2.1, (v5.2.1.2.2.2.1), .int .i64 x4.un.2.2.1, .int .i64 x4.un.2.2.2.1, (v5.2.2.2.2.1)])] [row v7 9 Rp.str x9, row v6 9 Rp.str ([x6] : List (List UInt8))] w := W
   refine ls F W Aa (Ag F Aa).q fun a w F W => ?_
   refine Ae (Bw (Ad (Ab ?_)))
   refine ls F W Aa (BT F Aa Aa Aa).q fun a w F W => ?_
   refine ls F W Aa (Ah F Aa).q fun a w F W => ?_
   refine Ae (Ad ?_)
   have W := W.sub (M' := []) (Z' := [row v7 9 Rp.str x9]) (List.nil_sublist _) (List.Sublist.cons_cons _ (List.nil_sublist _))
   exact ⟨_, H, (v7), F.re ⟨rfl, Aa, Aa, Aa, Aa, trivial⟩, W⟩
  have H := AR (Bz hb) H
  rw [hb] at F
  clear hb
  refine Cl ?_
  iterate 2 refine CO ?_
  refine Ck (Ad ?_)
  have H := L2 _ H
  exact ⟨_, (v4), H, F.re ⟨rfl, Aa, trivial⟩, W⟩
 rintro a w ⟨x1, v3, hj, F, W⟩
 have hj := AH hj
 subst hj
 have H := K1
 clear G1 K1
 refine Ai (Ab ?_)
 refine ls F W Aa (Ah F Aa).q fun a w F W => ?_
 refine ls F W Aa (Ag F Aa).q fun a w F W => ?_
 refine Ae (Ad (Aq ?_))
 have H := AH H
 subst H
 refine AP (.inl Aa) F W Aa (Ap F Aa) ?_
 exact ⟨(v3), Aa, W⟩
theorem SE : Has Tryd.prog 45 := ⟨fun args w => Al Tryd.func45 rfl (by decide) args w⟩
abbrev Gp (a0 : Tr28) (a1 : Value) (a2 : Value) : List Value := [.int .i64 a0.un.1, .int .i64 a0.un.2.1.un.1, .int .i64 a0.un.2.1.un.2.1, .int .i64 a0.un.2.1.un.2.2.1, a1, .int .i64 a0.un.2.2.1, .int .i64 a0.un.2.2.2.1, a2]
abbrev Me (a0 : Nat) (a1 : Tr28) (a2 : Value) (a3 : Value) : List (Nat × List Value) := [(a0, [.int .i64 a1.un.1, .int .i64 a1.un.2.1.un.1, .int .i64 a1.un.2.1.un.2.1, .int .i64 a1.un.2.1.un.2.2.1, a2, .int .i64 a1.un.2.2.1, .int .i64 a1.un.2.2.2.1, a3])]
noncomputable def CP (fRec : Tr28 → Option (List UInt8)) (p0 : Tr28) : Option (List UInt8) := (if p0.un.1 = 1 then (Dn (Tr25.of (p0.un.2.1.un.1, p0.un.2.1.un.2.1, p0.un.2.1.un.2.2.1, p0.un.2.1.un.2.2.2))).bind fun x1 => some x1 else (if p0.un.1 = 2 then (Eo (C3 p0.un.2.2.1) ([32, 58, 61, 32] : List UInt8)).bind fun x2 => (L9 p0.un.2.2.2.1).bind fun x3 => (Eo x2 x3).bind fun x4 => some x4 else (if p0.un.1 = 3 then ((B1 fRec) p0.un.2.2.2.2).bind fun x5 => (I6 x5 ([59, 32] : List UInt8)).bind fun x6 => some x6 else (if p0.un.1 = 4 then ((B1 fRec) p0.un.2.2.2.2).bind fun x7 => (I6 x7 ([32, 124, 32] : List UInt8)).bind fun x8 => some x8 else (if p0.un.1 = 5 then (IU (Tr25.of (p0.un.2.1.un.1, p0.un.2.1.un.2.1, p0.un.2.1.un.2.2.1, p0.un.2.1.un.2.2.2))).bind fun x9 => (Eo ([105, 102, 32] : List UInt8) x9).bind fun x10 => (Eo x10 ([32, 116, 104, 101, 110, 32] : List UInt8)).bind fun x11 => ((B1 fRec) p0.un.2.2.2.2).bind fun x12 => (I6 x12 ([32, 101, 108, 115, 101, 32] : List UInt8)).bind fun x13 => (Eo x11 x13).bind fun x14 => some x14 else some ([63] : List UInt8))))))
noncomputable def C1 : Nat → Tr28 → Option (List UInt8)
  | 0 => fun _ => none
  | n + 1 => CP (C1 n)
noncomputable def II (p0 : Tr28) : Option (List UInt8) := Gx fun n => C1 n p0
theorem Kw (fRec : Tr28 → Option (List UInt8)) (ih : ∀ (Y : Nat → Prop) (w0 : World) (v1 : Value) (v2 : Value) (p0 : Tr28) (r : List UInt8) (H : fRec p0 = some r) (h_v1 : Sl w0 (NX []) AY v1 p0.un.2.1.un.2.2.2) (h_v2 : Sl w0 (NX []) BJ v2 p0.un.2.2.2.2) (hG : Gk [] w0), Calls Tryd.prog 17 #[.agg #[.int .i64 p0.un.1, .int .i64 p0.un.2.1.un.1, .int .i64 p0.un.2.1.un.2.1, .int .i64 p0.un.2.1.un.2.2.1, v1, .int .i64 p0.un.2.2.1, .int .i64 p0.un.2.2.2.1, v2]] w0 fun e w' => e = .returned (.string (bs r)) ∧ Below w0.heap.size w0 w') (Y : Nat → Prop) (w0 : World) (v1 : Value) (v2 : Value) (p0 : Tr28) (r : List UInt8) (H : CP fRec p0 = some r) (h_v1 : Sl w0 (NX []) AY v1 p0.un.2.1.un.2.2.2) (h_v2 : Sl w0 (NX []) BJ v2 p0.un.2.2.2.2) (hG : Gk [] w0) :
    Calls Tryd.prog 17 #[.agg #[.int .i64 p0.un.1, .int .i64 p0.un.2.1.un.1, .int .i64 p0.un.2.1.un.2.1, .int .i64 p0.un.2.1.un.2.2.1, v1, .int .i64 p0.un.2.2.1, .int .i64 p0.un.2.2.2.1, v2]] w0 fun e w' => e = .returned (.string (bs r)) ∧ Below w0.heap.size w0 w' := by
 refine enter Tryd.func17 Aa Tryd.ntmps17 Aa fun a F => ?_
 have W := Stw.start Y w0
 obtain ⟨v3, h1, h_v1⟩ := h_v1.ex Gq
 obtain ⟨v4, h2, h_v2⟩ := h_v2.ex JB
 unfold CP at H
 refine Ai (Ab ?_)
 refine H2 (cs := (Gp p0 v1 v2)) F W Aa Aa Aa fun b1 a w F W => ?_
 refine ls F W Aa (Ag (v := Value.string (bs ([] : List UInt8))) F Aa).q fun a w F W => ?_
 refine Ae (Ad (Ai (Ai (Ab ?_))))
 refine ls F W Aa (Ao Hv Aa Aa Aa T3 F Aa 0 Aa).q fun a w F W => ?_
 refine ls F W Aa (AJ (v := Value.int .i64 p0.un.1) 0 F Aa Aa T3 Aa).q fun a w F W => ?_
 refine Ae (Ad (AV (Ai (Ab ?_))))
 refine ls F W Aa (Bn F Aa Aa).q fun a w F W => ?_
 refine ls F W Aa (Ag F Aa).q fun a w F W => ?_
 refine Ae (Ad ?_)
 refine Aw F Aa (fun hb => ?_) fun hb => ?_
 ·
  have H := AQ (BB hb) H
  rw [hb] at F
  clear hb
  refine Ai (Ab ?_)
  refine ls F W Aa (Ao Hv Aa Aa Aa FV F Aa 1 Aa).q fun a w F W => ?_
  refine ls F W Aa (AJ (v := Value.agg #[.int .i64 p0.un.2.1.un.1, .int .i64 p0.un.2.1.un.2.1, .int .i64 p0.un.2.1.un.2.2.1, v1]) 0 F Aa Aa FV Aa).q fun a w F W => ?_
  obtain ⟨x1, h3, H⟩ := An H
  refine ls F W Aa (A1 (v := Value.string (bs x1)) F Tn Aa (fun w W => IY any w (v1) (Tr25.of (p0.un.2.1.un.1, p0.un.2.1.un.2.1, p0.un.2.1.un.2.2.1, p0.un.2.1.un.2.2.2)) _ h3 (((Cd Gq h1 (AG h_v1)) : EN _ _ _ _ _ _) w W).nx (hG.go0 W))) fun a w F W => ?_
  refine ls F W Aa (Ag F Aa).q fun a w F W => ?_
  refine Ae (Ad (Aq (A5 (AD ?_))))
  have H := AH H
  subst H
  refine AP (.inl Aa) F W Aa (Ap F Aa) ?_
  exact ⟨rfl, W.done⟩
 have H := AR (Bz hb) H
 rw [hb] at F
 clear hb
 refine Ai (Ab ?_)
 refine ls F W Aa (Bn F Aa Aa).q fun a w F W => ?_
 refine ls F W Aa (Ag F Aa).q fun a w F W => ?_
 refine Ae (Ad ?_)
 refine Aw F Aa (fun hb => ?_) fun hb => ?_
 ·
  have H := AQ (BB hb) H
  rw [hb] at F
  clear hb
  refine Ai ?_
  refine Fc W MO (by kernel_rfl) ?_
  refine qs F Aa (Ao Hv Aa Aa Aa T3 F Aa 5 Aa).q fun a F => ?_
  refine qs F Aa (AJ (v := Value.int .i64 p0.un.2.2.1) 0 F Aa Aa T3 Aa).q fun a F => ?_
  refine qs F Aa (A1 (v := Value.string (bs (C3 p0.un.2.2.1))) F Tr Aa (fun w W => Js any w p0.un.2.2.1 _ Aa)) fun a F => ?_
  obtain ⟨x2, h4, H⟩ := An H
  refine qs F Aa (EG (l := (C3 p0.un.2.2.1)) (m := ([32, 58, 61, 32] : List UInt8)) F Aa Aa h4).q fun a F => ?_
  refine qs F Aa (Ao Hv Aa Aa Aa T3 F Aa 6 Aa).q fun a F => ?_
  refine qs F Aa (AJ (v := Value.int .i64 p0.un.2.2.2.1) 0 F Aa Aa T3 Aa).q fun a F => ?_
  obtain ⟨x3, h5, H⟩ := An H
  refine qs F Aa (A1 (v := Value.string (bs x3)) F S5 Aa (fun w W => Qy any w p0.un.2.2.2.1 _ h5 (hG.go0 W))) fun a F => ?_
  obtain ⟨x4, h6, H⟩ := An H
  refine qs F Aa (EG (l := x2) (m := x3) F Aa Aa h6).q fun a F => ?_
  refine qs F Aa (Ag F Aa).q fun a F => ?_
  refine Ek fun w W => ?_
  refine Ad (Aq (A5 (AD ?_)))
  have H := AH H
  subst H
  refine AP (.inl Aa) F W Aa (Ap F Aa) ?_
  exact ⟨rfl, W.done⟩
 have H := AR (Bz hb) H
 rw [hb] at F
 clear hb
 refine Ai (Ab ?_)
 refine ls F W Aa (Bn F Aa Aa).q fun a w F W => ?_
 refine ls F W Aa (Ag F Aa).q fun a w F W => ?_
 refine Ae (Ad ?_)
 refine Aw F Aa (fun hb => ?_) fun hb => ?_
 ·
  have H := AQ (BB hb) H
  rw [hb] at F
  clear hb
  refine Ai (Ab ?_)
  refine ls F W Aa (Ao Hv Aa Aa Aa PE F Aa 7 Aa).q fun a w F W => ?_
  refine ls F W Aa (AJ (v := v2) 0 F Aa Aa PE Aa).q fun a w F W => ?_
  obtain ⟨x5, h7, H⟩ := An H
  refine AO (Ml := []) (Zl := []) (M := (Me b1 p0 v1 v2)) (Z := []) (β := Value) (rv := fun x => x) (MM := fun x => []) (ZZ := fun x => [row x 9 Rp.str x5]) F W SE Aa Aa (fun hL => (EP fRec ih) _ w (v2) p0.un.2.2.2.2 _ h7 ((Cd JB h2 (AG h_v2)) w W).nx (hG.go0 W)) fun x a w F W => ?_
  obtain ⟨v5, rfl⟩ : ∃ y, y = x := ⟨x, rfl⟩
  have W : Stw ⟨Y, [], w0⟩ (Me b1 p0 v1 v2) [row v5 9 Rp.str x5] w := W
  obtain ⟨x6, h8, H⟩ := An H
  refine ls F W Aa (A1 (v := Value.string (bs x6)) F St Aa (fun w W => M7 any w (v5) x5 ([59, 32] : List UInt8) _ h8 (((Bq 0 Aa) : EN _ _ _ _ _ _) w W).nx)) fun a w F W => ?_
  refine ls F W Aa (Ag F Aa).q fun a w F W => ?_
  refine Ae (Ad (Aq (A5 (AD ?_))))
  have H := AH H
  subst H
  refine AP (.inl Aa) F W Aa (Ap F Aa) ?_
  exact ⟨rfl, W.done⟩
 have H := AR (Bz hb) H
 rw [hb] at F
 clear hb
 refine Ai (Ab ?_)
 refine ls F W Aa (Bn F Aa Aa).q fun a w F W => ?_
 refine ls F W Aa (Ag F Aa).q fun a w F W => ?_
 refine Ae (Ad ?_)
 refine Aw F Aa (fun hb => ?_) fun hb => ?_
 ·
  have H := AQ (BB hb) H
  rw [hb] at F
  clear hb
  refine Ai (Ab ?_)
  refine ls F W Aa (Ao Hv Aa Aa Aa PE F Aa 7 Aa).q fun a w F W => ?_
  refine ls F W Aa (AJ (v := v2) 0 F Aa Aa PE Aa).q fun a w F W => ?_
  obtain ⟨x7, h9, H⟩ := An H
  refine AO (Ml := []) (Zl := []) (M := (Me b1 p0 v1 v2)) (Z := []) (β := Value) (rv := fun x => x) (MM := fun x => []) (ZZ := fun x => [row x 9 Rp.str x7]) F W SE Aa Aa (fun hL => (EP fRec ih) _ w (v2) p0.un.2.2.2.2 _ h9 ((Cd JB h2 (AG h_v2)) w W).nx (hG.go0 W)) fun x a w F W => ?_
  obtain ⟨v6, rfl⟩ : ∃ y, y = x := ⟨x, rfl⟩
  have W : Stw ⟨Y, [], w0⟩ (Me b1 p0 v1 v2) [row v6 9 Rp.str x7] w := W
  obtain ⟨x8, h10, H⟩ := An H
  refine ls F W Aa (A1 (v := Value.string (bs x8)) F St Aa (fun w W => M7 any w (v6) x7 ([32, 124, 32] : List UInt8) _ h10 (((Bq 0 Aa) : EN _ _ _ _ _ _) w W).nx)) fun a w F W => ?_
  refine ls F W Aa (Ag F Aa).q fun a w F W => ?_
  refine Ae (Ad (Aq (A5 (AD ?_))))
  have H := AH H
  subst H
  refine AP (.inl Aa) F W Aa (Ap F Aa) ?_
  exact ⟨rfl, W.done⟩
 have H := AR (Bz hb) H
 rw [hb] at F
 clear hb
 refine Ai (Ab ?_)
 refine ls F W Aa (Bn F Aa Aa).q fun a w F W => ?_
 refine ls F W Aa (Ag F Aa).q fun a w F W => ?_
 refine Ae (Ad ?_)
 refine Aw F Aa (fun hb => ?_) fun hb => ?_
 ·
  have H := AQ (BB hb) H
  rw [hb] at F
  clear hb
  refine Ai ?_
  refine GN [(true, 0), (true, 1), (true, 5), (true, 6), (false, 2), (true, 3), (true, 4), (false, 7), (false, 8), (true, 9), (false, 10)] (CN ⟨Y, [], w0⟩ [(some 2, b1, [.int .i64 p0.un.1, .int .i64 p0.un.2.1.un.1, .int .i64 p0.un.2.1.un.2.1, .int .i64 p0.un.2.1.un.2.2.1, v1, .int .i64 p0.un.2.2.1, .int .i64 p0.un.2.2.2.1, v2]), (some 7, b1, [.int .i64 p0.un.1, .int .i64 p0.un.2.1.un.1, .int .i64 p0.un.2.1.un.2.1, .int .i64 p0.un.2.1.un.2.2.1, v1, .int .i64 p0.un.2.2.1, .int .i64 p0.un.2.2.2.1, v2])] []) (fun ch a d v w h => by cases d <;> exact h) MO (by kernel_rfl) W (fun w W => ⟨_, _, W, (AC (fun _ => (.head _)) (AC (fun _ => (.head _)) AF)), AF⟩) fun w W => ?_
  refine Cs (R := []) F Aa Aa (yC fun M Z hN hZ => Ao Hv Aa Aa Aa FV F Aa 1 Aa) Aa Aa fun a F => ?_
  refine Cs (R := [2]) F Aa Aa (yC fun M Z hN hZ => Dh (cs := (Gp p0 v1 v2)) (v := Value.agg #[.int .i64 p0.un.2.1.un.1, .int .i64 p0.un.2.1.un.2.1, .int .i64 p0.un.2.1.un.2.2.1, v1]) F Aa (hN ((some 2), b1, (Gp p0 v1 v2)) (.head _) Aa) FV Aa) (by kernel_rfl) Aa fun a F => ?_
  refine Cs (R := []) F Aa Aa (yC fun M Z hN hZ => Ao Hv Aa Aa Aa PE F Aa 7 Aa) Aa Aa fun a F => ?_
  refine Cs (R := [7]) F Aa Aa (yC fun M Z hN hZ => Dh (cs := (Gp p0 v1 v2)) (v := v2) F Aa (hN ((some 7), b1, (Gp p0 v1 v2)) (.tail _ (.head _)) Aa) PE Aa) (by kernel_rfl) Aa fun a F => ?_
  refine Fg Aa ?_
  obtain ⟨x9, h11, H⟩ := An H
  refine ls F W Aa (A1 (v := Value.string (bs x9)) F S0 Aa (fun w W => Kb any w (v1) (Tr25.of (p0.un.2.1.un.1, p0.un.2.1.un.2.1, p0.un.2.1.un.2.2.1, p0.un.2.1.un.2.2.2)) _ h11 (((Cd Gq h1 (AG h_v1)) : EN _ _ _ _ _ _) w W).nx (hG.go0 W))) fun a w F W => ?_
  refine B8 (N2 := []) (NZ2 := []) (N3 := [(some 2, b1, [.int .i64 p0.un.1, .int .i64 p0.un.2.1.un.1, .int .i64 p0.un.2.1.un.2.1, .int .i64 p0.un.2.1.un.2.2.1, v1, .int .i64 p0.un.2.2.1, .int .i64 p0.un.2.2.2.1, v2]), (some 7, b1, [.int .i64 p0.un.1, .int .i64 p0.un.2.1.un.1, .int .i64 p0.un.2.1.un.2.1, .int .i64 p0.un.2.1.un.2.2.1, v1, .int .i64 p0.un.2.2.1, .int .i64 p0.un.2.2.2.1, v2])]) (NZ3 := []) W Aa Aa (AC (fun h => A2 (by kernel_rfl) h) (AC (fun _ => (.head _)) AF)) AF ?_
  obtain ⟨x10, h12, H⟩ := An H
  refine Cs (R := []) F Aa Aa (yC fun M Z hN hZ => EG (l := ([105, 102, 32] : List UInt8)) (m := x9) F Aa Aa h12) Aa Aa fun a F => ?_
  obtain ⟨x11, h13, H⟩ := An H
  refine Cs (R := []) F Aa Aa (yC fun M Z hN hZ => EG (l := x10) (m := ([32, 116, 104, 101, 110, 32] : List UInt8)) F Aa Aa h13) Aa Aa fun a F => ?_
  refine Fg Aa ?_
  obtain ⟨x12, h14, H⟩ := An H
  refine AO (Ml := []) (Zl := []) (M := (Me b1 p0 v1 v2)) (Z := []) (β := Value) (rv := fun x => x) (MM := fun x => []) (ZZ := fun x => [row x 9 Rp.str x12]) F W SE Aa Aa (fun hL => (EP fRec ih) _ w (v2) p0.un.2.2.2.2 _ h14 ((Cd JB h2 (AG h_v2)) w W).nx (hG.go0 W)) fun x a w F W => ?_
  obtain ⟨v7, rfl⟩ : ∃ y, y = x := ⟨x, rfl⟩
  have W : Stw ⟨Y, [], w0⟩ (Me b1 p0 v1 v2) [row v7 9 Rp.str x12] w := W
  refine B8 (N2 := []) (NZ2 := []) (N3 := [(some 2, b1, [.int .i64 p0.un.1, .int .i64 p0.un.2.1.un.1, .int .i64 p0.un.2.1.un.2.1, .int .i64 p0.un.2.1.un.2.2.1, v1, .int .i64 p0.un.2.2.1, .int .i64 p0.un.2.2.2.1, v2]), (some 7, b1, [.int .i64 p0.un.1, .int .i64 p0.un.2.1.un.1, .int .i64 p0.un.2.1.un.2.1, .int .i64 p0.un.2.1.un.2.2.1, v1, .int .i64 p0.un.2.2.1, .int .i64 p0.un.2.2.2.1, v2])]) (NZ3 := []) W Aa Aa (AC (fun h => A2 (by kernel_rfl) h) (AC (fun h => A2 (by kernel_rfl) h) AF)) AF ?_
  refine Fg Aa ?_
  obtain ⟨x13, h15, H⟩ := An H
  refine ls F W Aa (A1 (v := Value.string (bs x13)) F St Aa (fun w W => M7 any w (v7) x12 ([32, 101, 108, 115, 101, 32] : List UInt8) _ h15 (((Bq 0 Aa) : EN _ _ _ _ _ _) w W).nx)) fun a w F W => ?_
  refine B8 (N2 := []) (NZ2 := []) (N3 := [(some 2, b1, [.int .i64 p0.un.1, .int .i64 p0.un.2.1.un.1, .int .i64 p0.un.2.1.un.2.1, .int .i64 p0.un.2.1.un.2.2.1, v1, .int .i64 p0.un.2.2.1, .int .i64 p0.un.2.2.2.1, v2]), (some 7, b1, [.int .i64 p0.un.1, .int .i64 p0.un.2.1.un.1, .int .i64 p0.un.2.1.un.2.1, .int .i64 p0.un.2.1.un.2.2.1, v1, .int .i64 p0.un.2.2.1, .int .i64 p0.un.2.2.2.1, v2])]) (NZ3 := []) W Aa Aa (AC (fun h => A2 (by kernel_rfl) h) (AC (fun h => A2 (by kernel_rfl) h) AF)) AF ?_
  obtain ⟨x14, h16, H⟩ := An H
  refine Cs (R := []) F Aa Aa (yC fun M Z hN hZ => EG (l := x11) (m := x13) F Aa Aa h16) Aa Aa fun a F => ?_
  refine Fg Aa ?_
  refine ls F W Aa (Ag F Aa).q fun a w F W => ?_
  refine B8 (N2 := []) (NZ2 := []) (N3 := [(some 2, b1, [.int .i64 p0.un.1, .int .i64 p0.un.2.1.un.1, .int .i64 p0.un.2.1.un.2.1, .int .i64 p0.un.2.1.un.2.2.1, v1, .int .i64 p0.un.2.2.1, .int .i64 p0.un.2.2.2.1, v2]), (some 7, b1, [.int .i64 p0.un.1, .int .i64 p0.un.2.1.un.1, .int .i64 p0.un.2.1.un.2.1, .int .i64 p0.un.2.1.un.2.2.1, v1, .int .i64 p0.un.2.2.1, .int .i64 p0.un.2.2.2.1, v2])]) (NZ3 := []) W Aa Aa (AC (fun h => A2 (by kernel_rfl) h) (AC (fun h => A2 (by kernel_rfl) h) AF)) AF ?_
  refine Gi (Ad (Aq (A5 (AD ?_))))
  have H := AH H
  subst H
  refine AP (.inl Aa) F W Aa (Ap F Aa) ?_
  exact ⟨rfl, W.done⟩
 have H := AR (Bz hb) H
 rw [hb] at F
 clear hb
 refine Ax (Bw (Ad (Ai (Ab ?_))))
 refine ls F W Aa (Ag (v := Value.string (bs ([63] : List UInt8))) F Aa).q fun a w F W => ?_
 refine Ae (Ad (Aq ?_))
 have H := AH H
 subst H
 refine AP (.inl Aa) F W Aa (Ap F Aa) ?_
 exact ⟨rfl, W.done⟩
theorem KV : ∀ (n : Nat) (Y : Nat → Prop) (w0 : World) (v1 : Value) (v2 : Value) (p0 : Tr28) (r : List UInt8) (H : C1 n p0 = some r) (h_v1 : Sl w0 (NX []) AY v1 p0.un.2.1.un.2.2.2) (h_v2 : Sl w0 (NX []) BJ v2 p0.un.2.2.2.2) (hG : Gk [] w0), Calls Tryd.prog 17 #[.agg #[.int .i64 p0.un.1, .int .i64 p0.un.2.1.un.1, .int .i64 p0.un.2.1.un.2.1, .int .i64 p0.un.2.1.un.2.2.1, v1, .int .i64 p0.un.2.2.1, .int .i64 p0.un.2.2.2.1, v2]] w0 fun e w' => e = .returned (.string (bs r)) ∧ Below w0.heap.size w0 w' := by
  intro n
  induction n with
  | zero => intro Y w0 v1 v2 p0 r H; exact nomatch H
  | succ n ih => intro Y w0 v1 v2 p0 r H h_v1 h_v2 hG; exact Kw (C1 n) ih Y w0 v1 v2 p0 r H h_v1 h_v2 hG
theorem LS (Y : Nat → Prop) (w0 : World) (v1 : Value) (v2 : Value) (p0 : Tr28) (r : List UInt8) (H : II p0 = some r) (h_v1 : Sl w0 (NX []) AY v1 p0.un.2.1.un.2.2.2) (h_v2 : Sl w0 (NX []) BJ v2 p0.un.2.2.2.2) (hG : Gk [] w0) :
    Calls Tryd.prog 17 #[.agg #[.int .i64 p0.un.1, .int .i64 p0.un.2.1.un.1, .int .i64 p0.un.2.1.un.2.1, .int .i64 p0.un.2.1.un.2.2.1, v1, .int .i64 p0.un.2.2.1, .int .i64 p0.un.2.2.2.1, v2]] w0 fun e w' => e = .returned (.string (bs r)) ∧ Below w0.heap.size w0 w' := by
  obtain ⟨n, H⟩ := Ch H
  exact KV n Y w0 v1 v2 p0 r H h_v1 h_v2 hG
end Go.Proofs.YtlgjpoapclifbaaDoor
