/- The functions of layer 12, FK. Conditions: none. -/
import Derived.Test.YtfnmlmglmegamaabA3
namespace Go.Proofs.Ytfnmlmglmegamaa
open Go Go.RowKit
set_option linter.unusedVariables false
set_option linter.unusedSimpArgs false
set_option maxRecDepth 20000
noncomputable def Bv (p0 : List (Int × (Int × (Int × Int × Int × Int) × (Int × Int × Int × Int)) × (List (Int × Int × Int)))) (p1 : Int) (p2 : List (Int × (Int × (Int × Int × Int × Int) × (Int × Int × Int × Int)) × (List (Int × Int × Int)))) : Option (List (Int × (Int × (Int × Int × Int × Int) × (Int × Int × Int × Int)) × (List (Int × Int × Int)))) := (Em p0 p1 (p0.length : Int)).bind fun x1 => (if (p2.length : Int) = 0 then some p0 else (if p1 = (p0.length : Int) then (Q2 p0.length (p0.length + p2.length)).bind fun x2 => (JQ p0 p2).bind fun x3 => some x3 else (if ((p0.length : Nat) : Int) < (Cc ((p0.length : Int) + (p2.length : Int))) then (Em p0 0 p1).bind fun x4 => (mk (Cc ((Cc ((p0.length : Int) + (p2.length : Int))) - p1)) ((0, (0, (0, 0, 0, 0), (0, 0, 0, 0)), []) : Int × (Int × (Int × Int × Int × Int) × (Int × Int × Int × Int)) × (List (Int × Int × Int)))).bind fun x5 => (Q2 p0.length (x4.length + (Cc ((Cc ((p0.length : Int) + (p2.length : Int))) - p1)).toNat)).bind fun x6 => (JQ x4 x5).bind fun x7 => (Em x7 p1 (x7.length : Int)).bind fun x8 => (Em (IE x7 p1 (min p2.length x8.length) p2) (Cc (p1 + (p2.length : Int))) ((IE x7 p1 (min p2.length x8.length) p2).length : Int)).bind fun x9 => (Em p0 p1 (p0.length : Int)).bind fun x10 => some (IE (IE x7 p1 (min p2.length x8.length) p2) (Cc (p1 + (p2.length : Int))) (min x10.length x9.length) x10) else none)))
theorem Ej (Y : Nat → Prop) (w0 : World) (v1 : Value) (v2 : Value) (p0 : List (Int × (Int × (Int × Int × Int × Int) × (Int × Int × Int × Int)) × (List (Int × Int × Int)))) (p1 : Int) (p2 : List (Int × (Int × (Int × Int × Int × Int) × (Int × Int × Int × Int)) × (List (Int × Int × Int)))) (r : (List (Int × (Int × (Int × Int × Int × Int) × (Int × Int × Int × Int)) × (List (Int × Int × Int))))) (H : Bv p0 p1 p2 = some r) (s_v1 : Sl w0 Y AK v1 p0) (c_v1 : IK v1 p0.length) (s_v2 : Sl w0 Y AK v2 p2) :
    Calls Try.prog 70 #[v1, .int .i64 p1, v2] w0 fun e w' => ∃ x : Value, e = .returned (x) ∧ Stw ⟨Y, [], w0⟩ [] [Bo (x) AK r] w' := by
 refine enter Try.func70 Aa Try.ntmps70 Aa fun a W => ?_
 have F := Stw.start Y w0
 obtain ⟨v3, h1, s_v1⟩ := s_v1.ex A4
 obtain ⟨v4, h2, s_v2⟩ := s_v2.ex A4
 have h_v1 := F.nx s_v1
 have h_v2 := F.nx s_v2
 unfold Bv at H
 refine vc tk 9 W F fun a w W F => ?_
 obtain ⟨x1, h3, H⟩ := Af H
 obtain ⟨v5, h4, h5⟩ := HB h1 h3
 refine ls W F Aa (Fi (r := AK) EL W Aa Aa Aa (Bq A4 h1 (An h_v1)) h3).q fun a w W F => ?_
 refine BJ tk 5 W F fun a w W F => ?_
 refine ls W F Aa (B7 (r := AK) (l := p2) E7 Aa W Aa (Bq A4 h2 (An h_v2))).q fun a w W F => ?_
 refine BJ tk 10 W F fun a w W F => ?_
 refine Bi W Aa H (fun W H => ?_) fun W H => ?_
 ·
  refine vc tk 6 W F fun a w W F => ?_
  refine Al (Aq ?_)
  have H := Av H
  subst H
  refine Aw (.inl Aa) W F Aa (Ai W Aa) ?_
  have F := F.note (Sl.hide A4 h1 (F.old s_v1))
  exact ⟨(v1), Aa, F⟩
 refine D6 tk 5 W F fun a w W F => ?_
 refine ls W F Aa (B7 (r := AK) (l := p0) E7 Aa W Aa (Bq A4 h1 (An h_v1))).q fun a w W F => ?_
 refine BJ tk 11 W F fun a w W F => ?_
 refine Bi W Aa H (fun W H => ?_) fun W H => ?_
 ·
  refine vc tk 4 W F fun a w W F => ?_
  obtain ⟨x2, h6, H⟩ := Af H
  obtain ⟨x3, h7, H⟩ := Af H
  refine Nx (r := AK) W F Aa EL Aa Aa (Hw.hide A4 h1 (Gr F s_v1)) (OB c_v1 (Oc h6)) (Hw.hide A4 h2 (Gr F s_v2)) h7 Aa fun v6 a w W F => ?_
  have F : Stw ⟨Y, [], w0⟩ [] [row v6 37 AK x3] w := F
  refine BJ tk 3 W F fun a w W F => ?_
  refine Al (Aq ?_)
  have H := Av H
  subst H
  refine Aw (.inl Aa) W F Aa (Ai W Aa) ?_
  have F := F.freeze
  exact ⟨(v6), Aa, F⟩
 refine D6 tk 9 W F fun a w W F => ?_
 refine ls W F Aa (RG E7 Aa W Aa c_v1).q fun a w W F => ?_
 refine BJ tk 3 W F fun a w W F => ?_
 refine Bi W Aa H (fun W H => ?_) fun W H => ?_
 ·
  refine vc tk 4 W F fun a w W F => ?_
  obtain ⟨x4, h8, H⟩ := Af H
  obtain ⟨v7, h9, h10⟩ := HB h1 h8
  refine ls W F Aa (Fi (r := AK) EL W Aa Aa Aa (Bq A4 h1 (An h_v1)) h8).q fun a w W F => ?_
  refine vl tk 5 W F fun a w W F => ?_
  obtain ⟨x5, h11, H⟩ := Af H
  obtain ⟨x6, h12, H⟩ := Af H
  obtain ⟨x7, h13, H⟩ := Af H
  refine NC (r := AK) ((0, (0, (0, 0, 0, 0), (0, 0, 0, 0)), []) : Int × (Int × (Int × Int × Int × Int) × (Int × Int × Int × Int)) × (List (Int × Int × Int))) W F Aa EL Kz Q3 Aa Aa (Hw.sub (Hw.hide A4 h1 (Gr F s_v1)) h8) (Ou c_v1 (Oc h12)) (fun w A => ⟨[Value.int .i64 0], [Value.int .i64 0, Value.int .i64 0, Value.int .i64 0, Value.int .i64 0, Value.int .i64 0, Value.int .i64 0, Value.int .i64 0, Value.int .i64 0, Value.int .i64 0, Value.slice none 0 0], Aa, Aa, ⟨[Value.int .i64 0, Value.int .i64 0, Value.int .i64 0, Value.int .i64 0, Value.int .i64 0, Value.int .i64 0, Value.int .i64 0, Value.int .i64 0, Value.int .i64 0], [Value.slice none 0 0], Aa, ⟨[Value.int .i64 0], [Value.int .i64 0, Value.int .i64 0, Value.int .i64 0, Value.int .i64 0, Value.int .i64 0, Value.int .i64 0, Value.int .i64 0, Value.int .i64 0], Aa, Aa, ⟨[Value.int .i64 0, Value.int .i64 0, Value.int .i64 0, Value.int .i64 0], [Value.int .i64 0, Value.int .i64 0, Value.int .i64 0, Value.int .i64 0], Aa, ⟨[Value.int .i64 0], [Value.int .i64 0, Value.int .i64 0, Value.int .i64 0], Aa, Aa, ⟨[Value.int .i64 0], [Value.int .i64 0, Value.int .i64 0], Aa, Aa, ⟨[Value.int .i64 0], [Value.int .i64 0], Aa, Aa, Aa⟩⟩⟩, ⟨[Value.int .i64 0], [Value.int .i64 0, Value.int .i64 0, Value.int .i64 0], Aa, Aa, ⟨[Value.int .i64 0], [Value.int .i64 0, Value.int .i64 0], Aa, Aa, ⟨[Value.int .i64 0], [Value.int .i64 0], Aa, Aa, Aa⟩⟩⟩⟩⟩, ⟨_, Aa, Sl.nil⟩⟩⟩) h11 h13 Aa fun v8 a w W F => ?_
  have F : Stw ⟨Y, [], w0⟩ [] [row v8 37 AK x7] w := F
  refine BJ tk 7 W F fun a w W F => ?_
  obtain ⟨x8, h14, H⟩ := Af H
  refine ls W F Aa (Fi (r := AK) EL W Aa Aa Aa (AU 0 Aa) h14).q fun a w W F => ?_
  refine ls W F Aa (Am W Aa).q fun a w W F => ?_
  refine MP (r := AK) (v := v8) (k := 0) W F Aa EL Aa Aa Aa Aa h14 (Hw.hide A4 h2 (Gr F s_v2)) fun a w W F => ?_
  have F : Stw ⟨Y, [], w0⟩ [] [row v8 37 AK (IE x7 p1 (min p2.length x8.length) p2)] w := F
  refine BJ tk 3 W F fun a w W F => ?_
  refine GK 8 F MO (by kernel_rfl) ?_
  iterate 3 refine qs W Aa (Am W Aa).q fun a W => ?_
  refine qs W Aa (NP W Aa Aa Aa).q fun a W => ?_
  obtain ⟨x9, h15, H⟩ := Af H
  refine qs W Aa (Fi (r := AK) EL W Aa Aa Aa (AU 0 Aa) h15).q fun a W => ?_
  iterate 2 refine qs W Aa (Am W Aa).q fun a W => ?_
  obtain ⟨x10, h16, H⟩ := Af H
  obtain ⟨v9, h17, h18⟩ := HB h1 h16
  refine qs W Aa (Fi (r := AK) EL W Aa Aa Aa (Bq A4 h1 (An h_v1)) h16).q fun a W => ?_
  refine AJ fun w F => ?_
  refine MP (r := AK) (v := v8) (k := 0) W F Aa EL Aa Aa Aa Aa h15 (Hw.sub (Hw.hide A4 h1 (Gr F s_v1)) h16) fun a w W F => ?_
  have F : Stw ⟨Y, [], w0⟩ [] [row v8 37 AK (IE (IE x7 p1 (min p2.length x8.length) p2) (Cc (p1 + (p2.length : Int))) (min x10.length x9.length) x10)] w := F
  refine BJ tk 8 W F fun a w W F => ?_
  refine Al (Aq ?_)
  have H := Av H
  subst H
  refine Aw (.inl Aa) W F Aa (Ai W Aa) ?_
  have F := F.freeze
  exact ⟨(v8), Aa, F⟩
 exact nomatch H
theorem Tq : Has Try.prog 70 := BV Try.func70
abbrev Rq (a0 : Nat) (a1 : Int × (Int × (Int × (Int × Int × Int × Int) × (Int × Int × Int × Int)) × (List (Int × Int × Int))) × Bool) (a2 : Value) (a3 : Bool) : List (Nat × List Value) := [(a0, [.int .i64 a1.1, .int .i64 a1.2.1.1, .int .i64 a1.2.1.2.1.1, .int .i64 a1.2.1.2.1.2.1.1, .int .i64 a1.2.1.2.1.2.1.2.1, .int .i64 a1.2.1.2.1.2.1.2.2.1, .int .i64 a1.2.1.2.1.2.1.2.2.2, .int .i64 a1.2.1.2.1.2.2.1, .int .i64 a1.2.1.2.1.2.2.2.1, .int .i64 a1.2.1.2.1.2.2.2.2.1, .int .i64 a1.2.1.2.1.2.2.2.2.2, a2, .bool a3])]
abbrev MA (a0 : Nat) (a1 : Int × (Int × (Int × (Int × Int × Int × Int) × (Int × Int × Int × Int)) × (List (Int × Int × Int))) × Bool) (a2 : Value) (a3 : Nat) (a4 : Value) (a5 : Bool) : List (Nat × List Value) := [(a0, [.int .i64 ((Ab a1.2.1).1), .int .i64 ((Ab a1.2.1).2.1.1), .int .i64 ((Ab a1.2.1).2.1.2.1.1), .int .i64 ((Ab a1.2.1).2.1.2.1.2.1), .int .i64 ((Ab a1.2.1).2.1.2.1.2.2.1), .int .i64 ((Ab a1.2.1).2.1.2.1.2.2.2), .int .i64 ((Ab a1.2.1).2.1.2.2.1), .int .i64 ((Ab a1.2.1).2.1.2.2.2.1), .int .i64 ((Ab a1.2.1).2.1.2.2.2.2.1), .int .i64 ((Ab a1.2.1).2.1.2.2.2.2.2), a2]), (a3, [.int .i64 a1.1, .int .i64 a1.2.1.1, .int .i64 a1.2.1.2.1.1, .int .i64 a1.2.1.2.1.2.1.1, .int .i64 a1.2.1.2.1.2.1.2.1, .int .i64 a1.2.1.2.1.2.1.2.2.1, .int .i64 a1.2.1.2.1.2.1.2.2.2, .int .i64 a1.2.1.2.1.2.2.1, .int .i64 a1.2.1.2.1.2.2.2.1, .int .i64 a1.2.1.2.1.2.2.2.2.1, .int .i64 a1.2.1.2.1.2.2.2.2.2, a4, .bool a5])]
abbrev MN (a0 : Int × (Int × (Int × (Int × Int × Int × Int) × (Int × Int × Int × Int)) × (List (Int × Int × Int))) × Bool) (a1 : Value) (a2 : Bool) : List Value := [.int .i64 a0.1, .int .i64 a0.2.1.1, .int .i64 a0.2.1.2.1.1, .int .i64 a0.2.1.2.1.2.1.1, .int .i64 a0.2.1.2.1.2.1.2.1, .int .i64 a0.2.1.2.1.2.1.2.2.1, .int .i64 a0.2.1.2.1.2.1.2.2.2, .int .i64 a0.2.1.2.1.2.2.1, .int .i64 a0.2.1.2.1.2.2.2.1, .int .i64 a0.2.1.2.1.2.2.2.2.1, .int .i64 a0.2.1.2.1.2.2.2.2.2, a1, .bool a2]
abbrev PZ (a0 : Nat) (a1 : Int × (Int × (Int × (Int × Int × Int × Int) × (Int × Int × Int × Int)) × (List (Int × Int × Int))) × Bool) (a2 : Value) (a3 : Nat) (a4 : Value) (a5 : Nat) (a6 : Value) (a7 : Bool) : List (Nat × List Value) := [(a0, [.int .i64 ((Ab a1.2.1).1), .int .i64 ((Ab a1.2.1).2.1.1), .int .i64 ((Ab a1.2.1).2.1.2.1.1), .int .i64 ((Ab a1.2.1).2.1.2.1.2.1), .int .i64 ((Ab a1.2.1).2.1.2.1.2.2.1), .int .i64 ((Ab a1.2.1).2.1.2.1.2.2.2), .int .i64 ((Ab a1.2.1).2.1.2.2.1), .int .i64 ((Ab a1.2.1).2.1.2.2.2.1), .int .i64 ((Ab a1.2.1).2.1.2.2.2.2.1), .int .i64 ((Ab a1.2.1).2.1.2.2.2.2.2), a2]), (a3, [.int .i64 ((Ab a1.2.1).1), .int .i64 ((Ab a1.2.1).2.1.1), .int .i64 ((Ab a1.2.1).2.1.2.1.1), .int .i64 ((Ab a1.2.1).2.1.2.1.2.1), .int .i64 ((Ab a1.2.1).2.1.2.1.2.2.1), .int .i64 ((Ab a1.2.1).2.1.2.1.2.2.2), .int .i64 ((Ab a1.2.1).2.1.2.2.1), .int .i64 ((Ab a1.2.1).2.1.2.2.2.1), .int .i64 ((Ab a1.2.1).2.1.2.2.2.2.1), .int .i64 ((Ab a1.2.1).2.1.2.2.2.2.2), a4]), (a5, [.int .i64 a1.1, .int .i64 a1.2.1.1, .int .i64 a1.2.1.2.1.1, .int .i64 a1.2.1.2.1.2.1.1, .int .i64 a1.2.1.2.1.2.1.2.1, .int .i64 a1.2.1.2.1.2.1.2.2.1, .int .i64 a1.2.1.2.1.2.1.2.2.2, .int .i64 a1.2.1.2.1.2.2.1, .int .i64 a1.2.1.2.1.2.2.2.1, .int .i64 a1.2.1.2.1.2.2.2.2.1, .int .i64 a1.2.1.2.1.2.2.2.2.2, a6, .bool a7])]
noncomputable def Gb (p0 : List (Int × (Int × (Int × Int × Int × Int) × (Int × Int × Int × Int)) × (List (Int × Int × Int)))) (p1 : Int × (Int × (Int × (Int × Int × Int × Int) × (Int × Int × Int × Int)) × (List (Int × Int × Int))) × Bool) (p2 : Int) : Option ((List (Int × (Int × (Int × Int × Int × Int) × (Int × Int × Int × Int)) × (List (Int × Int × Int)))) × Int) := (if p1.2.2 = true then (AZ p0 (p1.1, p1.2.1, true)).bind fun x3 => some (x3, true) else some (false, false)).bind fun (x1, x2) => (if x1 = true then some (p0, 14) else (Ax p0 ((Ab p1.2.1).1, ((Ab p1.2.1).2.1.1, ((Ab p1.2.1).2.1.2.1.1, (Ab p1.2.1).2.1.2.1.2.1, (Ab p1.2.1).2.1.2.1.2.2.1, (Ab p1.2.1).2.1.2.1.2.2.2), ((Ab p1.2.1).2.1.2.2.1, (Ab p1.2.1).2.1.2.2.2.1, (Ab p1.2.1).2.1.2.2.2.2.1, (Ab p1.2.1).2.1.2.2.2.2.2)), (Ab p1.2.1).2.2)).bind fun x4 => (if x4 = true then (CR p0 p1.2.1 ((Ab p1.2.1).1, ((Ab p1.2.1).2.1.1, ((Ab p1.2.1).2.1.2.1.1, (Ab p1.2.1).2.1.2.1.2.1, (Ab p1.2.1).2.1.2.1.2.2.1, (Ab p1.2.1).2.1.2.1.2.2.2), ((Ab p1.2.1).2.1.2.2.1, (Ab p1.2.1).2.1.2.2.2.1, (Ab p1.2.1).2.1.2.2.2.2.1, (Ab p1.2.1).2.1.2.2.2.2.2)), (Ab p1.2.1).2.2)).bind fun x5 => some (x5, 0) else (if p2 ≤ (p0.length : Int) then some (p0, 6) else (A5 p0 (p1.1, p1.2.1, x2)).bind fun x6 => (if x6 < 0 then some (p0.length : Int) else some x6).bind fun x7 => (Cb p1.2.1).bind fun x8 => (Bv p0 x7 ([x8] : List (Int × (Int × (Int × Int × Int × Int) × (Int × Int × Int × Int)) × (List (Int × Int × Int))))).bind fun x9 => some (x9, 0))))
theorem KT (Y : Nat → Prop) (X : List Nat) (w0 : World) (v1 : Value) (v2 : Value) (p0 : List (Int × (Int × (Int × Int × Int × Int) × (Int × Int × Int × Int)) × (List (Int × Int × Int)))) (p1 : Int × (Int × (Int × (Int × Int × Int × Int) × (Int × Int × Int × Int)) × (List (Int × Int × Int))) × Bool) (p2 : Int) (r : (List (Int × (Int × (Int × Int × Int × Int) × (Int × Int × Int × Int)) × (List (Int × Int × Int)))) × Int) (H : Gb p0 p1 p2 = some r) (c_v1 : IK v1 p0.length) (s_v2 : Sl w0 Y Bk v2 p1.2.1.2.2) (hL : Stw ⟨Y, X, w0⟩ [] [row v1 37 AK p0] w0) :
    Calls Try.prog 48 #[v1, .agg #[.int .i64 p1.1, .int .i64 p1.2.1.1, .int .i64 p1.2.1.2.1.1, .int .i64 p1.2.1.2.1.2.1.1, .int .i64 p1.2.1.2.1.2.1.2.1, .int .i64 p1.2.1.2.1.2.1.2.2.1, .int .i64 p1.2.1.2.1.2.1.2.2.2, .int .i64 p1.2.1.2.1.2.2.1, .int .i64 p1.2.1.2.1.2.2.2.1, .int .i64 p1.2.1.2.1.2.2.2.2.1, .int .i64 p1.2.1.2.1.2.2.2.2.2, v2, .bool p1.2.2], .int .i64 p2] w0 fun e w' => ∃ x : Value, e = .returned (.tuple #[x, .int .i64 r.2]) ∧ Stw ⟨Y, X, w0⟩ [] [Bo (x) AK r.1] w' := by
 refine enter Try.func48 Aa Try.ntmps48 Aa fun a W => ?_
 have F := hL
 have h_v2 := F.nx s_v2
 unfold Gb at H
 refine vc tk 2 W F fun a w W F => ?_
 refine BR (cs := [.int .i64 p1.1, .int .i64 p1.2.1.1, .int .i64 p1.2.1.2.1.1, .int .i64 p1.2.1.2.1.2.1.1, .int .i64 p1.2.1.2.1.2.1.2.1, .int .i64 p1.2.1.2.1.2.1.2.2.1, .int .i64 p1.2.1.2.1.2.1.2.2.2, .int .i64 p1.2.1.2.1.2.2.1, .int .i64 p1.2.1.2.1.2.2.2.1, .int .i64 p1.2.1.2.1.2.2.2.2.1, .int .i64 p1.2.1.2.1.2.2.2.2.2, v2, .bool p1.2.2]) W F Aa Aa Aa fun b1 a w W F => ?_
 refine BJ tk 5 W F fun a w W F => ?_
 obtain ⟨o1, G1, K1⟩ := Af H
 refine Au (fun a w => ∃ x1 : Bool, ∃ x2 : Bool, some ((x1, x2)) = some o1 ∧ Fr 48 [] [(0, v1), (2, .int .i64 p2), (4, .pointer (some ⟨b1, 0, none⟩)), (6, .slice none 0 0), (7, .int .i64 0), (15, .bool x1)] a ∧ Stw ⟨Y, X, w0⟩ (Rq b1 p1 v2 x2) [row v1 37 AK p0] w) ?_ ?_
 ·
  have H := G1
  clear G1 K1
  refine Fq tk 4 [0] W F (ai fun a w W F => ?_)
  rcases Bool.eq_false_or_eq_true p1.2.2 with hb | hb
  ·
   have H := B4 hb H
   rw [hb] at W
   rw [hb] at F
   clear hb
   refine FE W F (Ae W Aa Aa Aa Aa) Aa (As Aa) (Am W Aa).q fun a w W F => ?_
   refine FE W F (Ae W Aa Aa Aa Aa) Aa (As Aa) (Gs (us := []) (vs := [.pointer (some ⟨b1, 0, none⟩)]) W Aa Aa).q fun a w W F => ?_
   refine F2 (Ae W Aa Aa Aa Aa) ?_
   obtain ⟨x3, h1, H⟩ := Af H
   refine ls W F Aa (AM (v := Value.bool x3) W RQ Aa (fun w F => DE any w (v1) b1 (v2) p0 (p1.1, p1.2.1, true) _ h1 (Dc (AU 0 Aa) F) (Dc (An h_v2) F) (NJ F 0 Aa))) fun a w W F => ?_
   refine vl tk 2 W F fun a w W F => ?_
   refine Ad ?_
   exact ⟨_, _, H, W.ra Aa, F⟩
  have H := B5 (by rw [hb]; decide) H
  rw [hb] at W
  rw [hb] at F
  clear hb
  refine vl tk 5 W F fun a w W F => ?_
  refine Ad ?_
  exact ⟨_, _, H, W.ra Aa, F⟩
 rintro a w ⟨x1, x2, hj, W, F⟩
 have hj := Av hj
 subst hj
 have H := K1
 clear G1 K1
 refine BE W Aa H (fun W H => ?_) fun W H => ?_
 ·
  refine vc tk 7 W F fun a w W F => ?_
  refine Al (Aq ?_)
  have H := Av H
  subst H
  refine CI (.inl Aa) W F Aa (Ai W Aa) (Ai W Aa) ?_
  have F := F.freeze
  have F := F.sub (M' := []) (Z' := [Bo v1 AK p0]) (List.nil_sublist _) (List.Sublist.refl _)
  exact ⟨(v1), Aa, F⟩
 refine KR tk 8 [0] W F (ai fun a w W F => ?_)
 refine AA (Ml := []) (Zl := []) (β := Nat × Value) (rv := fun x => .func (.func 73) #[] #[.pointer (some ⟨x.1, 0, none⟩)]) (MM := fun x => [(x.1, [.int .i64 ((Ab p1.2.1).1), .int .i64 ((Ab p1.2.1).2.1.1), .int .i64 ((Ab p1.2.1).2.1.2.1.1), .int .i64 ((Ab p1.2.1).2.1.2.1.2.1), .int .i64 ((Ab p1.2.1).2.1.2.1.2.2.1), .int .i64 ((Ab p1.2.1).2.1.2.1.2.2.2), .int .i64 ((Ab p1.2.1).2.1.2.2.1), .int .i64 ((Ab p1.2.1).2.1.2.2.2.1), .int .i64 ((Ab p1.2.1).2.1.2.2.2.2.1), .int .i64 ((Ab p1.2.1).2.1.2.2.2.2.2), x.2])]) (ZZ := fun x => [Bo x.2 Bk ((Ab p1.2.1).2.2)]) W F Q0 Aa Aa (fun hL => Dw _ w (v2) p1.2.1 _ Aa (F.old s_v2)) fun x a w W F => ?_
 obtain ⟨b2, v3⟩ := x
 have F : Stw ⟨Y, X, w0⟩ (MA b2 p1 v3 b1 v2 x2) [Bo v3 Bk ((Ab p1.2.1).2.2), row v1 37 AK p0] w := F
 obtain ⟨x4, h2, H⟩ := Af H
 refine ls W F Aa (AM (v := Value.bool x4) W RQ Aa (fun w F => BZ any w (v1) b2 (v3) p0 ((Ab p1.2.1).1, ((Ab p1.2.1).2.1.1, ((Ab p1.2.1).2.1.2.1.1, (Ab p1.2.1).2.1.2.1.2.1, (Ab p1.2.1).2.1.2.1.2.2.1, (Ab p1.2.1).2.1.2.1.2.2.2), ((Ab p1.2.1).2.1.2.2.1, (Ab p1.2.1).2.1.2.2.2.1, (Ab p1.2.1).2.1.2.2.2.2.1, (Ab p1.2.1).2.1.2.2.2.2.2)), (Ab p1.2.1).2.2) _ h2 (Dc (AU 1 Aa) F) (Dc (D4 0 Aa) F) (NJ F 0 Aa))) fun a w W F => ?_
 refine BJ tk 2 W F fun a w W F => ?_
 refine BE W Aa H (fun W H => ?_) fun W H => ?_
 ·
  refine GB ?_
  refine DN [(true, 0), (true, 1), (true, 2), (true, 3), (true, 4), (false, 5), (false, 6), (false, 7), (false, 8)] (CN ⟨Y, X, w0⟩ [(some 6, b1, [.int .i64 p1.1, .int .i64 p1.2.1.1, .int .i64 p1.2.1.2.1.1, .int .i64 p1.2.1.2.1.2.1.1, .int .i64 p1.2.1.2.1.2.1.2.1, .int .i64 p1.2.1.2.1.2.1.2.2.1, .int .i64 p1.2.1.2.1.2.1.2.2.2, .int .i64 p1.2.1.2.1.2.2.1, .int .i64 p1.2.1.2.1.2.2.2.1, .int .i64 p1.2.1.2.1.2.2.2.2.1, .int .i64 p1.2.1.2.1.2.2.2.2.2, v2, .bool x2]), (some 5, b1, [.int .i64 p1.1, .int .i64 p1.2.1.1, .int .i64 p1.2.1.2.1.1, .int .i64 p1.2.1.2.1.2.1.1, .int .i64 p1.2.1.2.1.2.1.2.1, .int .i64 p1.2.1.2.1.2.1.2.2.1, .int .i64 p1.2.1.2.1.2.1.2.2.2, .int .i64 p1.2.1.2.1.2.2.1, .int .i64 p1.2.1.2.1.2.2.2.1, .int .i64 p1.2.1.2.1.2.2.2.2.1, .int .i64 p1.2.1.2.1.2.2.2.2.2, v2, .bool x2])] []) (fun ch a d v w h => by cases d <;> exact h) MO (by kernel_rfl) F (fun w F => ⟨_, _, F, (all_cons (fun _ => (.tail _ (.head _))) (all_cons (fun _ => (.tail _ (.head _))) Ap)), Ap⟩) fun w F => ?_
  refine BQ (R := []) W Aa Aa (yC fun M Z hN hZ => Am W Aa) Aa Aa fun a W => ?_
  refine BQ (R := []) W Aa Aa (yC fun M Z hN hZ => Aj Jp Aa Aa Aa EM W Aa 1 Aa) Aa Aa fun a W => ?_
  refine BQ (R := [6]) W Aa Aa (yC fun M Z hN hZ => De (cs := (MN p1 v2 x2)) (v := Value.agg #[.int .i64 p1.2.1.1, .int .i64 p1.2.1.2.1.1, .int .i64 p1.2.1.2.1.2.1.1, .int .i64 p1.2.1.2.1.2.1.2.1, .int .i64 p1.2.1.2.1.2.1.2.2.1, .int .i64 p1.2.1.2.1.2.1.2.2.2, .int .i64 p1.2.1.2.1.2.2.1, .int .i64 p1.2.1.2.1.2.2.2.1, .int .i64 p1.2.1.2.1.2.2.2.2.1, .int .i64 p1.2.1.2.1.2.2.2.2.2, v2]) W Aa (hN ((some 6), b1, (MN p1 v2 x2)) (.head _) Aa) EM Aa) (by kernel_rfl) Aa fun a W => ?_
  refine BQ (R := []) W Aa Aa (yC fun M Z hN hZ => Aj Jp Aa Aa Aa EM W Aa 1 Aa) Aa Aa fun a W => ?_
  refine BQ (R := [5]) W Aa Aa (yC fun M Z hN hZ => De (cs := (MN p1 v2 x2)) (v := Value.agg #[.int .i64 p1.2.1.1, .int .i64 p1.2.1.2.1.1, .int .i64 p1.2.1.2.1.2.1.1, .int .i64 p1.2.1.2.1.2.1.2.1, .int .i64 p1.2.1.2.1.2.1.2.2.1, .int .i64 p1.2.1.2.1.2.1.2.2.2, .int .i64 p1.2.1.2.1.2.2.1, .int .i64 p1.2.1.2.1.2.2.2.1, .int .i64 p1.2.1.2.1.2.2.2.2.1, .int .i64 p1.2.1.2.1.2.2.2.2.2, v2]) W Aa (hN ((some 5), b1, (MN p1 v2 x2)) (.tail _ (.head _)) Aa) EM Aa) (by kernel_rfl) Aa fun a W => ?_
  refine CT Aa ?_
  refine AA (Ml := []) (Zl := []) (β := Nat × Value) (rv := fun x => .func (.func 73) #[] #[.pointer (some ⟨x.1, 0, none⟩)]) (MM := fun x => [(x.1, [.int .i64 ((Ab p1.2.1).1), .int .i64 ((Ab p1.2.1).2.1.1), .int .i64 ((Ab p1.2.1).2.1.2.1.1), .int .i64 ((Ab p1.2.1).2.1.2.1.2.1), .int .i64 ((Ab p1.2.1).2.1.2.1.2.2.1), .int .i64 ((Ab p1.2.1).2.1.2.1.2.2.2), .int .i64 ((Ab p1.2.1).2.1.2.2.1), .int .i64 ((Ab p1.2.1).2.1.2.2.2.1), .int .i64 ((Ab p1.2.1).2.1.2.2.2.2.1), .int .i64 ((Ab p1.2.1).2.1.2.2.2.2.2), x.2])]) (ZZ := fun x => [Bo x.2 Bk ((Ab p1.2.1).2.2)]) W F Q0 Aa Aa (fun hL => Dw _ w (v2) p1.2.1 _ Aa (F.old s_v2)) fun x a w W F => ?_
  obtain ⟨b3, v4⟩ := x
  have F : Stw ⟨Y, X, w0⟩ (PZ b3 p1 v4 b2 v3 b1 v2 x2) [Bo v4 Bk ((Ab p1.2.1).2.2), Bo v3 Bk ((Ab p1.2.1).2.2), row v1 37 AK p0] w := F
  refine A0 (N2 := []) (NZ2 := []) (N3 := [(some 6, b1, [.int .i64 p1.1, .int .i64 p1.2.1.1, .int .i64 p1.2.1.2.1.1, .int .i64 p1.2.1.2.1.2.1.1, .int .i64 p1.2.1.2.1.2.1.2.1, .int .i64 p1.2.1.2.1.2.1.2.2.1, .int .i64 p1.2.1.2.1.2.1.2.2.2, .int .i64 p1.2.1.2.1.2.2.1, .int .i64 p1.2.1.2.1.2.2.2.1, .int .i64 p1.2.1.2.1.2.2.2.2.1, .int .i64 p1.2.1.2.1.2.2.2.2.2, v2, .bool x2]), (some 5, b1, [.int .i64 p1.1, .int .i64 p1.2.1.1, .int .i64 p1.2.1.2.1.1, .int .i64 p1.2.1.2.1.2.1.1, .int .i64 p1.2.1.2.1.2.1.2.1, .int .i64 p1.2.1.2.1.2.1.2.2.1, .int .i64 p1.2.1.2.1.2.1.2.2.2, .int .i64 p1.2.1.2.1.2.2.1, .int .i64 p1.2.1.2.1.2.2.2.1, .int .i64 p1.2.1.2.1.2.2.2.2.1, .int .i64 p1.2.1.2.1.2.2.2.2.2, v2, .bool x2])]) (NZ3 := []) F Aa Aa (all_cons (fun _ => (.tail _ (.tail _ (.head _)))) (all_cons (fun h => AE (by kernel_rfl) h) Ap)) Ap ?_
  refine CT Aa ?_
  obtain ⟨x5, h3, H⟩ := Af H
  have F := F.frontZ (i := 2) Aa Aa
  refine AA (Ml := []) (Zl := [row v1 37 AK p0]) (β := Value) (rv := fun x => x) (MM := fun x => []) (ZZ := fun x => [row x 37 AK x5]) W F Se Aa Aa (fun hL => Gz _ _ w (v1) (v2) b3 (v4) p0 p1.2.1 ((Ab p1.2.1).1, ((Ab p1.2.1).2.1.1, ((Ab p1.2.1).2.1.2.1.1, (Ab p1.2.1).2.1.2.1.2.1, (Ab p1.2.1).2.1.2.1.2.2.1, (Ab p1.2.1).2.1.2.1.2.2.2), ((Ab p1.2.1).2.1.2.2.1, (Ab p1.2.1).2.1.2.2.2.1, (Ab p1.2.1).2.1.2.2.2.2.1, (Ab p1.2.1).2.1.2.2.2.2.2)), (Ab p1.2.1).2.2) _ h3 (F.old s_v2) (Sl.nxF (F.item (i := 1) Aa) (fun g hg => H0 hg)) (Lh (Ml := []) (Zl := [row v1 37 AK p0]) F 0 Aa) hL) fun x a w W F => ?_
  obtain ⟨v5, rfl⟩ : ∃ y, y = x := ⟨x, rfl⟩
  have F : Stw ⟨Y, X, w0⟩ (PZ b3 p1 v4 b2 v3 b1 v2 x2) [row v5 37 AK x5, Bo v4 Bk ((Ab p1.2.1).2.2), Bo v3 Bk ((Ab p1.2.1).2.2)] w := F
  refine A0 (N2 := []) (NZ2 := []) (N3 := [(some 6, b1, [.int .i64 p1.1, .int .i64 p1.2.1.1, .int .i64 p1.2.1.2.1.1, .int .i64 p1.2.1.2.1.2.1.1, .int .i64 p1.2.1.2.1.2.1.2.1, .int .i64 p1.2.1.2.1.2.1.2.2.1, .int .i64 p1.2.1.2.1.2.1.2.2.2, .int .i64 p1.2.1.2.1.2.2.1, .int .i64 p1.2.1.2.1.2.2.2.1, .int .i64 p1.2.1.2.1.2.2.2.2.1, .int .i64 p1.2.1.2.1.2.2.2.2.2, v2, .bool x2]), (some 5, b1, [.int .i64 p1.1, .int .i64 p1.2.1.1, .int .i64 p1.2.1.2.1.1, .int .i64 p1.2.1.2.1.2.1.1, .int .i64 p1.2.1.2.1.2.1.2.1, .int .i64 p1.2.1.2.1.2.1.2.2.1, .int .i64 p1.2.1.2.1.2.1.2.2.2, .int .i64 p1.2.1.2.1.2.2.1, .int .i64 p1.2.1.2.1.2.2.2.1, .int .i64 p1.2.1.2.1.2.2.2.2.1, .int .i64 p1.2.1.2.1.2.2.2.2.2, v2, .bool x2])]) (NZ3 := []) F Aa Aa (all_cons (fun h => AE (by kernel_rfl) h) (all_cons (fun h => AE (by kernel_rfl) h) Ap)) Ap ?_
  refine CT Aa ?_
  refine ls W F Aa (BI W Aa).q fun a w W F => ?_
  refine A0 (N2 := []) (NZ2 := []) (N3 := [(some 6, b1, [.int .i64 p1.1, .int .i64 p1.2.1.1, .int .i64 p1.2.1.2.1.1, .int .i64 p1.2.1.2.1.2.1.1, .int .i64 p1.2.1.2.1.2.1.2.1, .int .i64 p1.2.1.2.1.2.1.2.2.1, .int .i64 p1.2.1.2.1.2.1.2.2.2, .int .i64 p1.2.1.2.1.2.2.1, .int .i64 p1.2.1.2.1.2.2.2.1, .int .i64 p1.2.1.2.1.2.2.2.2.1, .int .i64 p1.2.1.2.1.2.2.2.2.2, v2, .bool x2]), (some 5, b1, [.int .i64 p1.1, .int .i64 p1.2.1.1, .int .i64 p1.2.1.2.1.1, .int .i64 p1.2.1.2.1.2.1.1, .int .i64 p1.2.1.2.1.2.1.2.1, .int .i64 p1.2.1.2.1.2.1.2.2.1, .int .i64 p1.2.1.2.1.2.1.2.2.2, .int .i64 p1.2.1.2.1.2.2.1, .int .i64 p1.2.1.2.1.2.2.2.1, .int .i64 p1.2.1.2.1.2.2.2.2.1, .int .i64 p1.2.1.2.1.2.2.2.2.2, v2, .bool x2])]) (NZ3 := []) F Aa Aa (all_cons (fun h => AE (by kernel_rfl) h) (all_cons (fun h => AE (by kernel_rfl) h) Ap)) Ap ?_
  refine CT Aa ?_
  refine ls W F Aa (BI W Aa).q fun a w W F => ?_
  refine A0 (N2 := []) (NZ2 := []) (N3 := [(some 6, b1, [.int .i64 p1.1, .int .i64 p1.2.1.1, .int .i64 p1.2.1.2.1.1, .int .i64 p1.2.1.2.1.2.1.1, .int .i64 p1.2.1.2.1.2.1.2.1, .int .i64 p1.2.1.2.1.2.1.2.2.1, .int .i64 p1.2.1.2.1.2.1.2.2.2, .int .i64 p1.2.1.2.1.2.2.1, .int .i64 p1.2.1.2.1.2.2.2.1, .int .i64 p1.2.1.2.1.2.2.2.2.1, .int .i64 p1.2.1.2.1.2.2.2.2.2, v2, .bool x2]), (some 5, b1, [.int .i64 p1.1, .int .i64 p1.2.1.1, .int .i64 p1.2.1.2.1.1, .int .i64 p1.2.1.2.1.2.1.1, .int .i64 p1.2.1.2.1.2.1.2.1, .int .i64 p1.2.1.2.1.2.1.2.2.1, .int .i64 p1.2.1.2.1.2.1.2.2.2, .int .i64 p1.2.1.2.1.2.2.1, .int .i64 p1.2.1.2.1.2.2.2.1, .int .i64 p1.2.1.2.1.2.2.2.2.1, .int .i64 p1.2.1.2.1.2.2.2.2.2, v2, .bool x2])]) (NZ3 := []) F Aa Aa (all_cons (fun h => AE (by kernel_rfl) h) (all_cons (fun h => AE (by kernel_rfl) h) Ap)) Ap ?_
  refine ET (Ad (Al (Aq ?_)))
  have H := Av H
  subst H
  refine CI (.inl Aa) W F Aa (Ai W Aa) (Ai W Aa) ?_
  have F := F.freeze
  have F := F.sub (M' := []) (Z' := [Bo v5 AK x5]) (List.nil_sublist _) (List.Sublist.cons_cons _ (List.nil_sublist _))
  exact ⟨(v5), Aa, F⟩
 refine D6 tk 6 W F fun a w W F => ?_
 refine ls W F Aa (B7 (r := AK) (l := p0) E7 Aa W Aa (AU 1 Aa)).q fun a w W F => ?_
 refine BJ tk 4 W F fun a w W F => ?_
 refine Bi W Aa H (fun W H => ?_) fun W H => ?_
 ·
  refine vc tk 7 W F fun a w W F => ?_
  refine Al (Aq ?_)
  have H := Av H
  subst H
  refine CI (.inl Aa) W F Aa (Ai W Aa) (Ai W Aa) ?_
  have F := F.frontZ (i := 1) Aa Aa
  have F := F.freeze
  have F := F.sub (M' := []) (Z' := [Bo v1 AK p0]) (List.nil_sublist _) (List.Sublist.cons_cons _ (List.nil_sublist _))
  exact ⟨(v1), Aa, F⟩
 refine D6 tk 5 W F fun a w W F => ?_
 refine ls W F Aa (Gs (us := []) (vs := [.pointer (some ⟨b1, 0, none⟩)]) W Aa Aa).q fun a w W F => ?_
 obtain ⟨x6, h4, H⟩ := Af H
 refine ls W F Aa (AM (v := Value.int .i64 x6) W Rw Aa (fun w F => DP any w (v1) b1 (v2) p0 (p1.1, p1.2.1, x2) _ h4 (Dc (AU 1 Aa) F) (Dc (An h_v2) F) (NJ F 1 Aa))) fun a w W F => ?_
 refine vl tk 2 W F fun a w W F => ?_
 refine Ad ?_
 obtain ⟨o2, G2, K2⟩ := Af H
 refine Au (fun a w => ∃ x7 : Int, some (x7) = some o2 ∧ Fr 48 [] [(0, v1), (4, .pointer (some ⟨b1, 0, none⟩)), (6, .slice none 0 0), (7, .int .i64 0), (8, .int .i64 x7)] a ∧ Stw ⟨Y, X, w0⟩ (MA b2 p1 v3 b1 v2 x2) [row v1 37 AK p0, Bo v3 Bk ((Ab p1.2.1).2.2)] w) ?_ ?_
 ·
  have H := G2
  clear G2 K2
  refine vc tk 6 W F fun a w W F => ?_
  refine Bi W Aa H (fun W H => ?_) fun W H => ?_
  ·
   refine vc tk 2 W F fun a w W F => ?_
   refine ls W F Aa (B7 (r := AK) (l := p0) E7 Aa W Aa (AU 1 Aa)).q fun a w W F => ?_
   refine vl tk 2 W F fun a w W F => ?_
   refine Ad ?_
   have F := F.frontZ (i := 1) Aa Aa
   have F := F.frontM (i := 1) Aa Aa
   have F := F.frontM (i := 1) Aa Aa
   exact ⟨_, H, W.ra Aa, F⟩
  refine AC (Ad ?_)
  have F := F.frontZ (i := 1) Aa Aa
  have F := F.frontM (i := 1) Aa Aa
  have F := F.frontM (i := 1) Aa Aa
  exact ⟨_, H, W.ra Aa, F⟩
 rintro a w ⟨x7, hj, W, F⟩
 have hj := Av hj
 subst hj
 have H := K2
 clear G2 K2
 refine Fq tk 6 [1] W F (ai fun a w W F => ?_)
 obtain ⟨x8, h5, H⟩ := Af H
 refine AA (Ml := []) (Zl := []) (β := Value) (rv := fun x => .agg #[.int .i64 x8.1, .int .i64 x8.2.1.1, .int .i64 x8.2.1.2.1.1, .int .i64 x8.2.1.2.1.2.1, .int .i64 x8.2.1.2.1.2.2.1, .int .i64 x8.2.1.2.1.2.2.2, .int .i64 x8.2.1.2.2.1, .int .i64 x8.2.1.2.2.2.1, .int .i64 x8.2.1.2.2.2.2.1, .int .i64 x8.2.1.2.2.2.2.2, x]) (MM := fun x => []) (ZZ := fun x => [row x 88 Bk x8.2.2]) W F RP Aa Aa (fun hL => Dl _ w (v2) p1.2.1 _ h5 (F.old s_v2)) fun x a w W F => ?_
 obtain ⟨v6, rfl⟩ : ∃ y, y = x := ⟨x, rfl⟩
 have F : Stw ⟨Y, X, w0⟩ (MA b2 p1 v3 b1 v2 x2) [row v6 88 Bk x8.2.2, row v1 37 AK p0, Bo v3 Bk ((Ab p1.2.1).2.2)] w := F
 have F := F.freeze
 refine GJ (z := Value.agg #[.int .i64 0, .int .i64 0, .int .i64 0, .int .i64 0, .int .i64 0, .int .i64 0, .int .i64 0, .int .i64 0, .int .i64 0, .int .i64 0, .slice none 0 0]) (cs := (P8 x8 v6)) AK ([x8] : List (Int × (Int × (Int × Int × Int × Int) × (Int × Int × Int × Int)) × (List (Int × Int × Int)))) W F Aa EL Kz Aa Aa Aa (B2 Aa Aa Aa C1) Aa Aa ⟨[Value.int .i64 x8.1, Value.int .i64 x8.2.1.1, Value.int .i64 x8.2.1.2.1.1, Value.int .i64 x8.2.1.2.1.2.1, Value.int .i64 x8.2.1.2.1.2.2.1, Value.int .i64 x8.2.1.2.1.2.2.2, Value.int .i64 x8.2.1.2.2.1, Value.int .i64 x8.2.1.2.2.2.1, Value.int .i64 x8.2.1.2.2.2.2.1, Value.int .i64 x8.2.1.2.2.2.2.2, v6], _, Aa, ⟨[Value.int .i64 x8.1], [Value.int .i64 x8.2.1.1, Value.int .i64 x8.2.1.2.1.1, Value.int .i64 x8.2.1.2.1.2.1, Value.int .i64 x8.2.1.2.1.2.2.1, Value.int .i64 x8.2.1.2.1.2.2.2, Value.int .i64 x8.2.1.2.2.1, Value.int .i64 x8.2.1.2.2.2.1, Value.int .i64 x8.2.1.2.2.2.2.1, Value.int .i64 x8.2.1.2.2.2.2.2, v6], Aa, Aa, ⟨[Value.int .i64 x8.2.1.1, Value.int .i64 x8.2.1.2.1.1, Value.int .i64 x8.2.1.2.1.2.1, Value.int .i64 x8.2.1.2.1.2.2.1, Value.int .i64 x8.2.1.2.1.2.2.2, Value.int .i64 x8.2.1.2.2.1, Value.int .i64 x8.2.1.2.2.2.1, Value.int .i64 x8.2.1.2.2.2.2.1, Value.int .i64 x8.2.1.2.2.2.2.2], [v6], Aa, ⟨[Value.int .i64 x8.2.1.1], [Value.int .i64 x8.2.1.2.1.1, Value.int .i64 x8.2.1.2.1.2.1, Value.int .i64 x8.2.1.2.1.2.2.1, Value.int .i64 x8.2.1.2.1.2.2.2, Value.int .i64 x8.2.1.2.2.1, Value.int .i64 x8.2.1.2.2.2.1, Value.int .i64 x8.2.1.2.2.2.2.1, Value.int .i64 x8.2.1.2.2.2.2.2], Aa, Aa, ⟨[Value.int .i64 x8.2.1.2.1.1, Value.int .i64 x8.2.1.2.1.2.1, Value.int .i64 x8.2.1.2.1.2.2.1, Value.int .i64 x8.2.1.2.1.2.2.2], [Value.int .i64 x8.2.1.2.2.1, Value.int .i64 x8.2.1.2.2.2.1, Value.int .i64 x8.2.1.2.2.2.2.1, Value.int .i64 x8.2.1.2.2.2.2.2], Aa, ⟨[Value.int .i64 x8.2.1.2.1.1], [Value.int .i64 x8.2.1.2.1.2.1, Value.int .i64 x8.2.1.2.1.2.2.1, Value.int .i64 x8.2.1.2.1.2.2.2], Aa, Aa, ⟨[Value.int .i64 x8.2.1.2.1.2.1], [Value.int .i64 x8.2.1.2.1.2.2.1, Value.int .i64 x8.2.1.2.1.2.2.2], Aa, Aa, ⟨[Value.int .i64 x8.2.1.2.1.2.2.1], [Value.int .i64 x8.2.1.2.1.2.2.2], Aa, Aa, Aa⟩⟩⟩, ⟨[Value.int .i64 x8.2.1.2.2.1], [Value.int .i64 x8.2.1.2.2.2.1, Value.int .i64 x8.2.1.2.2.2.2.1, Value.int .i64 x8.2.1.2.2.2.2.2], Aa, Aa, ⟨[Value.int .i64 x8.2.1.2.2.2.1], [Value.int .i64 x8.2.1.2.2.2.2.1, Value.int .i64 x8.2.1.2.2.2.2.2], Aa, Aa, ⟨[Value.int .i64 x8.2.1.2.2.2.2.1], [Value.int .i64 x8.2.1.2.2.2.2.2], Aa, Aa, Aa⟩⟩⟩⟩⟩, ⟨_, Aa, (F.item (i := 0) Aa)⟩⟩⟩, Aa⟩ fun v7 a w W F => ?_
 obtain ⟨x9, h6, H⟩ := Af H
 have F := F.frontZ (i := 2) Aa Aa
 have F := F.freeze
 have F := F.frontZ (i := 1) Aa Aa
 have F := F.freeze
 refine AA (Ml := []) (Zl := []) (β := Value) (rv := fun x => x) (MM := fun x => []) (ZZ := fun x => [Bo x AK x9]) W F Tq Aa Aa (fun hL => Ej _ w (v1) (v7) p0 x7 ([x8] : List (Int × (Int × (Int × Int × Int × Int) × (Int × Int × Int × Int)) × (List (Int × Int × Int)))) _ h6 (F.item (i := 1) Aa) c_v1 (F.item (i := 0) Aa)) fun x a w W F => ?_
 obtain ⟨v8, rfl⟩ : ∃ y, y = x := ⟨x, rfl⟩
 have F : Stw ⟨Y, X, w0⟩ (MA b2 p1 v3 b1 v2 x2) [Bo v8 AK x9, Bo v7 AK ([x8] : List (Int × (Int × (Int × Int × Int × Int) × (Int × Int × Int × Int)) × (List (Int × Int × Int)))), Bo v1 AK p0, Bo v6 Bk x8.2.2, Bo v3 Bk ((Ab p1.2.1).2.2)] w := F
 refine BJ tk 4 W F fun a w W F => ?_
 refine Al ?_
 have H := Av H
 subst H
 refine CI (.inl Aa) W F Aa (Ai W Aa) (Ai W Aa) ?_
 have F := F.sub (M' := []) (Z' := [Bo v8 AK x9]) (List.nil_sublist _) (List.Sublist.cons_cons _ (List.nil_sublist _))
 exact ⟨(v8), Aa, F⟩
theorem TA : Has Try.prog 48 := BV Try.func48
def Ag (p0 : Int × (Int × (Int × Int × Int × Int) × (Int × Int × Int × Int)) × (List (Int × Int × Int))) : (Int × (Int × (Int × Int × Int × Int) × (Int × Int × Int × Int)) × (List (Int × Int × Int))) := p0
theorem GL (Y : Nat → Prop) (w0 : World) (v1 : Value) (p0 : Int × (Int × (Int × Int × Int × Int) × (Int × Int × Int × Int)) × (List (Int × Int × Int))) (r : (Int × (Int × (Int × Int × Int × Int) × (Int × Int × Int × Int)) × (List (Int × Int × Int)))) (H : Ag p0 = r) (s_v1 : Sl w0 Y Bk v1 p0.2.2) :
    Calls Try.prog 50 #[.agg #[.int .i64 p0.1, .int .i64 p0.2.1.1, .int .i64 p0.2.1.2.1.1, .int .i64 p0.2.1.2.1.2.1, .int .i64 p0.2.1.2.1.2.2.1, .int .i64 p0.2.1.2.1.2.2.2, .int .i64 p0.2.1.2.2.1, .int .i64 p0.2.1.2.2.2.1, .int .i64 p0.2.1.2.2.2.2.1, .int .i64 p0.2.1.2.2.2.2.2, v1]] w0 fun e w' => ∃ x : Nat × Value, e = .returned (.func (.func 71) #[] #[.pointer (some ⟨x.1, 0, none⟩)]) ∧ Stw ⟨Y, [], w0⟩ [(x.1, [.int .i64 r.1, .int .i64 r.2.1.1, .int .i64 r.2.1.2.1.1, .int .i64 r.2.1.2.1.2.1, .int .i64 r.2.1.2.1.2.2.1, .int .i64 r.2.1.2.1.2.2.2, .int .i64 r.2.1.2.2.1, .int .i64 r.2.1.2.2.2.1, .int .i64 r.2.1.2.2.2.2.1, .int .i64 r.2.1.2.2.2.2.2, x.2])] [Bo (x.2) Bk r.2.2] w' := by
 refine enter Try.func50 Aa Try.ntmps50 Aa fun a W => ?_
 have F := Stw.start Y w0
 have h_v1 := F.nx s_v1
 unfold Ag at H
 refine vc tk 2 W F fun a w W F => ?_
 refine BR (cs := (DZ p0 v1)) W F Aa Aa Aa fun b1 a w W F => ?_
 refine BJ tk 5 W F fun a w W F => ?_
 refine ls W F Aa (Gs (us := []) (vs := [.pointer (some ⟨b1, 0, none⟩)]) W Aa Aa).q fun a w W F => ?_
 refine BJ tk 3 W F fun a w W F => ?_
 refine Al ?_
 subst H
 refine Aw (.inl Aa) W F Aa (Ai W Aa) ?_
 have F := F.note (F.old s_v1)
 exact ⟨(b1, (v1)), Aa, F⟩
theorem SQ : Has Try.prog 50 := BV Try.func50
noncomputable def Ey (p0 : Int × (Int × Int × Int × Int) × (Int × Int × Int × Int)) (p1 : Int × (Int × Int × Int × Int) × (Int × Int × Int × Int)) : Option Bool := (EX p0 p1).bind fun x1 => some (x1.2 && decide (x1.1.1 = p0.1 ∧ x1.1.2.1.1 = p0.2.1.1 ∧ x1.1.2.1.2.1 = p0.2.1.2.1 ∧ x1.1.2.1.2.2.1 = p0.2.1.2.2.1 ∧ x1.1.2.1.2.2.2 = p0.2.1.2.2.2 ∧ x1.1.2.2.1 = p0.2.2.1 ∧ x1.1.2.2.2.1 = p0.2.2.2.1 ∧ x1.1.2.2.2.2.1 = p0.2.2.2.2.1 ∧ x1.1.2.2.2.2.2 = p0.2.2.2.2.2))
theorem IZ (Y : Nat → Prop) (w0 : World)  (p0 : Int × (Int × Int × Int × Int) × (Int × Int × Int × Int)) (p1 : Int × (Int × Int × Int × Int) × (Int × Int × Int × Int)) (r : Bool) (H : Ey p0 p1 = some r)  :
    Calls Try.prog 72 #[.agg #[.int .i64 p0.1, .int .i64 p0.2.1.1, .int .i64 p0.2.1.2.1, .int .i64 p0.2.1.2.2.1, .int .i64 p0.2.1.2.2.2, .int .i64 p0.2.2.1, .int .i64 p0.2.2.2.1, .int .i64 p0.2.2.2.2.1, .int .i64 p0.2.2.2.2.2], .agg #[.int .i64 p1.1, .int .i64 p1.2.1.1, .int .i64 p1.2.1.2.1, .int .i64 p1.2.1.2.2.1, .int .i64 p1.2.1.2.2.2, .int .i64 p1.2.2.1, .int .i64 p1.2.2.2.1, .int .i64 p1.2.2.2.2.1, .int .i64 p1.2.2.2.2.2]] w0 fun e w' => e = .returned (.bool r) ∧ Below w0.heap.size w0 w' := by
 refine enter Try.func72 Aa Try.ntmps72 Aa fun a W => ?_
 have F := Stw.start Y w0
 unfold Ey at H
 refine vc tk 2 W F fun a w W F => ?_
 refine BR (cs := (EH p0)) W F Aa Aa Aa fun b1 a w W F => ?_
 refine BR (cs := [.int .i64 p1.1, .int .i64 p1.2.1.1, .int .i64 p1.2.1.2.1, .int .i64 p1.2.1.2.2.1, .int .i64 p1.2.1.2.2.2, .int .i64 p1.2.2.1, .int .i64 p1.2.2.2.1, .int .i64 p1.2.2.2.2.1, .int .i64 p1.2.2.2.2.2]) W F Aa Aa Aa fun b2 a w W F => ?_
 refine Eo tk 7 [1, 0] W F (ai (ai fun a w W F => ?_))
 obtain ⟨x1, h1, H⟩ := Af H
 refine ls W F Aa (AM (v := Value.tuple #[.agg #[.int .i64 x1.1.1, .int .i64 x1.1.2.1.1, .int .i64 x1.1.2.1.2.1, .int .i64 x1.1.2.1.2.2.1, .int .i64 x1.1.2.1.2.2.2, .int .i64 x1.1.2.2.1, .int .i64 x1.1.2.2.2.1, .int .i64 x1.1.2.2.2.2.1, .int .i64 x1.1.2.2.2.2.2], .bool x1.2]) W SL Aa (fun w F => HN any w p0 p1 _ h1)) fun a w W F => ?_
 refine ls W F Aa (Am W Aa).q fun a w W F => ?_
 refine ls W F Aa (AN (v := Value.agg #[.int .i64 x1.1.1, .int .i64 x1.1.2.1.1, .int .i64 x1.1.2.1.2.1, .int .i64 x1.1.2.1.2.2.1, .int .i64 x1.1.2.1.2.2.2, .int .i64 x1.1.2.2.1, .int .i64 x1.1.2.2.2.1, .int .i64 x1.1.2.2.2.2.1, .int .i64 x1.1.2.2.2.2.2]) W Aa Aa).q fun a w W F => ?_
 refine ls W F Aa (AN (v := Value.bool x1.2) W Aa Aa).q fun a w W F => ?_
 refine Ca (cs := (D7)) W F Aa Py Aa fun b3 a w W F => ?_
 refine Dh 0 W F Aa Aa Aa H2 Aa Aa Aa fun w F => ?_
 refine BJ tk 3 W F fun a w W F => ?_
 refine Au (fun a w => Fr 19 [] [(4, .bool (x1.2 && decide (x1.1.1 = p0.1 ∧ x1.1.2.1.1 = p0.2.1.1 ∧ x1.1.2.1.2.1 = p0.2.1.2.1 ∧ x1.1.2.1.2.2.1 = p0.2.1.2.2.1 ∧ x1.1.2.1.2.2.2 = p0.2.1.2.2.2 ∧ x1.1.2.2.1 = p0.2.2.1 ∧ x1.1.2.2.2.1 = p0.2.2.2.1 ∧ x1.1.2.2.2.2.1 = p0.2.2.2.2.1 ∧ x1.1.2.2.2.2.2 = p0.2.2.2.2.2)))] a ∧ Stw ⟨Y, [], w0⟩ [(b3, [.int .i64 x1.1.1, .int .i64 x1.1.2.1.1, .int .i64 x1.1.2.1.2.1, .int .i64 x1.1.2.1.2.2.1, .int .i64 x1.1.2.1.2.2.2, .int .i64 x1.1.2.2.1, .int .i64 x1.1.2.2.2.1, .int .i64 x1.1.2.2.2.2.1, .int .i64 x1.1.2.2.2.2.2]), (b2, [.int .i64 p1.1, .int .i64 p1.2.1.1, .int .i64 p1.2.1.2.1, .int .i64 p1.2.1.2.2.1, .int .i64 p1.2.1.2.2.2, .int .i64 p1.2.2.1, .int .i64 p1.2.2.2.1, .int .i64 p1.2.2.2.2.1, .int .i64 p1.2.2.2.2.2]), (b1, (EH p0))] [] w) ?_ ?_
 ·
  refine vc tk 3 W F fun a w W F => ?_
  rcases Bool.eq_false_or_eq_true x1.2 with hb0 | hb0
  ·
   rw [hb0] at W
   refine Fu tk 2 [0, 2] W F (ai (ai fun a w W F => ?_))
   refine FE W F (Ae W Aa Aa Aa Aa) Aa (As Aa) (KU (t := decide (x1.1.1 = p0.1 ∧ x1.1.2.1.1 = p0.2.1.1 ∧ x1.1.2.1.2.1 = p0.2.1.2.1 ∧ x1.1.2.1.2.2.1 = p0.2.1.2.2.1 ∧ x1.1.2.1.2.2.2 = p0.2.1.2.2.2 ∧ x1.1.2.2.1 = p0.2.2.1 ∧ x1.1.2.2.2.1 = p0.2.2.2.1 ∧ x1.1.2.2.2.2.1 = p0.2.2.2.2.1 ∧ x1.1.2.2.2.2.2 = p0.2.2.2.2.2)) Q4 (QX _ _ _ _ _ _ _ _ _ _ _ _ _ _ _ _ _ _) W Aa Aa).q fun a w W F => ?_
   refine vl tk 3 W F fun a w W F => ?_
   refine Ad ?_
   exact ⟨W.re ⟨(Ev (by try rw [hb0]; all_goals simp only [Es])), trivial⟩, F⟩
  rw [hb0] at W
  refine vl tk 6 W F fun a w W F => ?_
  refine Ad ?_
  exact ⟨W.re ⟨(Ev (by try rw [hb0]; all_goals simp only [Es])), trivial⟩, F⟩
 rintro a w ⟨W, F⟩
 refine Al ?_
 have H := Av H
 subst H
 refine Aw (.inl Aa) W F Aa (Ai W Aa) ?_
 exact ⟨rfl, F.done⟩
theorem SY : Has Try.prog 72 := BV Try.func72
noncomputable def CW (p0 : Int × (Int × (Int × Int × Int × Int) × (Int × Int × Int × Int)) × (List (Int × Int × Int))) (p1 : Int × (Int × (Int × Int × Int × Int) × (Int × Int × Int × Int)) × (List (Int × Int × Int))) : Option Bool := (Ey p0.2.1 p1.2.1).bind fun x1 => some x1
theorem EW (Y : Nat → Prop) (w0 : World) (v1 : Value) (q_p1 : Nat) (v2 : Value) (p0 : Int × (Int × (Int × Int × Int × Int) × (Int × Int × Int × Int)) × (List (Int × Int × Int))) (p1 : Int × (Int × (Int × Int × Int × Int) × (Int × Int × Int × Int)) × (List (Int × Int × Int))) (r : Bool) (H : CW p0 p1 = some r) (h_v1 : Sl w0 (NX []) Bk v1 p0.2.2) (h_v2 : Sl w0 (NX []) Bk v2 p1.2.2) (a_q_p1 : At ⟨Y, [], w0⟩ q_p1 0 [.int .i64 p1.1, .int .i64 p1.2.1.1, .int .i64 p1.2.1.2.1.1, .int .i64 p1.2.1.2.1.2.1, .int .i64 p1.2.1.2.1.2.2.1, .int .i64 p1.2.1.2.1.2.2.2, .int .i64 p1.2.1.2.2.1, .int .i64 p1.2.1.2.2.2.1, .int .i64 p1.2.1.2.2.2.2.1, .int .i64 p1.2.1.2.2.2.2.2, v2]) :
    Calls Try.prog 71 #[.agg #[.int .i64 p0.1, .int .i64 p0.2.1.1, .int .i64 p0.2.1.2.1.1, .int .i64 p0.2.1.2.1.2.1, .int .i64 p0.2.1.2.1.2.2.1, .int .i64 p0.2.1.2.1.2.2.2, .int .i64 p0.2.1.2.2.1, .int .i64 p0.2.1.2.2.2.1, .int .i64 p0.2.1.2.2.2.2.1, .int .i64 p0.2.1.2.2.2.2.2, v1], .pointer (some ⟨q_p1, 0, none⟩)] w0 fun e w' => e = .returned (.bool r) ∧ Below w0.heap.size w0 w' := by
 refine enter Try.func71 Aa Try.ntmps71 Aa fun a W => ?_
 have F := Stw.start Y w0
 unfold CW at H
 refine vc tk 2 W F fun a w W F => ?_
 refine BR (cs := (DZ p0 v1)) W F Aa Aa Aa fun b1 a w W F => ?_
 refine Eo tk 8 [0] W F (ai fun a w W F => ?_)
 refine ls W F Aa (GZ (y := Value.agg #[.int .i64 p1.2.1.1, .int .i64 p1.2.1.2.1.1, .int .i64 p1.2.1.2.1.2.1, .int .i64 p1.2.1.2.1.2.2.1, .int .i64 p1.2.1.2.1.2.2.2, .int .i64 p1.2.1.2.2.1, .int .i64 p1.2.1.2.2.2.1, .int .i64 p1.2.1.2.2.2.2.1, .int .i64 p1.2.1.2.2.2.2.2]) (j := 1) W Aa (Nat.zero_add _).symm a_q_p1 H2 Aa).q fun a w W F => ?_
 obtain ⟨x1, h1, H⟩ := Af H
 refine ls W F Aa (AM (v := Value.bool x1) W SY Aa (fun w F => IZ any w p0.2.1 p1.2.1 _ h1)) fun a w W F => ?_
 refine BJ tk 3 W F fun a w W F => ?_
 refine Al ?_
 have H := Av H
 subst H
 refine Aw (.inl Aa) W F Aa (Ai W Aa) ?_
 exact ⟨rfl, F.done⟩
theorem Sc : Has Try.prog 71 := BV Try.func71
noncomputable def Do (p0 : List (Int × (Int × (Int × Int × Int × Int) × (Int × Int × Int × Int)) × (List (Int × Int × Int)))) (p1 : Int × (Int × (Int × Int × Int × Int) × (Int × Int × Int × Int)) × (List (Int × Int × Int))) (p2c0 : Int × (Int × (Int × Int × Int × Int) × (Int × Int × Int × Int)) × (List (Int × Int × Int))) : ((List (Int × (Int × (Int × Int × Int × Int) × (Int × Int × Int × Int)) × (List (Int × Int × Int)))) × Int) → Option (((List (Int × (Int × (Int × Int × Int × Int) × (Int × Int × Int × Int)) × (List (Int × Int × Int)))) × Int) ⊕ (List (Int × (Int × (Int × Int × Int × Int) × (Int × Int × Int × Int)) × (List (Int × Int × Int)))))
  | (x2, x3) => (if x3 < (p0.length : Int) then ((ix x2 x3).bind fun x5 => (CW x5 p2c0).bind fun x6 => (if x6 = true then (Cb p1).bind fun x7 => (ix x2 x3).bind fun x8 => some (Dv x2 x3 (x8.1, x8.2.1, x7.2.2)) else some x2)).bind fun x4 => some (.inl (x4, Cc (x3 + 1))) else some (.inr x2))
noncomputable def CY (p0 : List (Int × (Int × (Int × Int × Int × Int) × (Int × Int × Int × Int)) × (List (Int × Int × Int)))) (p1 : Int × (Int × (Int × Int × Int × Int) × (Int × Int × Int × Int)) × (List (Int × Int × Int))) (p2c0 : Int × (Int × (Int × Int × Int × Int) × (Int × Int × Int × Int)) × (List (Int × Int × Int))) : Option (List (Int × (Int × (Int × Int × Int × Int) × (Int × Int × Int × Int)) × (List (Int × Int × Int)))) := (AX (Do p0 p1 p2c0) (p0, 0)).bind fun x1 => some x1
theorem HW (Y : Nat → Prop) (X : List Nat) (w0 : World) (v1 : Value) (v2 : Value) (q_p2c0 : Nat) (v3 : Value) (p0 : List (Int × (Int × (Int × Int × Int × Int) × (Int × Int × Int × Int)) × (List (Int × Int × Int)))) (p1 : Int × (Int × (Int × Int × Int × Int) × (Int × Int × Int × Int)) × (List (Int × Int × Int))) (p2c0 : Int × (Int × (Int × Int × Int × Int) × (Int × Int × Int × Int)) × (List (Int × Int × Int))) (r : (List (Int × (Int × (Int × Int × Int × Int) × (Int × Int × Int × Int)) × (List (Int × Int × Int))))) (H : CY p0 p1 p2c0 = some r) (s_v2 : Sl w0 Y Bk v2 p1.2.2) (h_v3 : Sl w0 (NX X) Bk v3 p2c0.2.2) (a_q_p2c0 : At ⟨Y, X, w0⟩ q_p2c0 0 [.int .i64 p2c0.1, .int .i64 p2c0.2.1.1, .int .i64 p2c0.2.1.2.1.1, .int .i64 p2c0.2.1.2.1.2.1, .int .i64 p2c0.2.1.2.1.2.2.1, .int .i64 p2c0.2.1.2.1.2.2.2, .int .i64 p2c0.2.1.2.2.1, .int .i64 p2c0.2.1.2.2.2.1, .int .i64 p2c0.2.1.2.2.2.2.1, .int .i64 p2c0.2.1.2.2.2.2.2, v3]) (hL : Stw ⟨Y, X, w0⟩ [] [row v1 37 AK p0] w0) :
    Calls Try.prog 49 #[v1, .agg #[.int .i64 p1.1, .int .i64 p1.2.1.1, .int .i64 p1.2.1.2.1.1, .int .i64 p1.2.1.2.1.2.1, .int .i64 p1.2.1.2.1.2.2.1, .int .i64 p1.2.1.2.1.2.2.2, .int .i64 p1.2.1.2.2.1, .int .i64 p1.2.1.2.2.2.1, .int .i64 p1.2.1.2.2.2.2.1, .int .i64 p1.2.1.2.2.2.2.2, v2], .func (.func 71) #[] #[.pointer (some ⟨q_p2c0, 0, none⟩)]] w0 fun e w' => ∃ x : Value, e = .returned (x) ∧ Stw ⟨Y, X, w0⟩ [] [row (x) 37 AK r] w' := by
 refine enter Try.func49 Aa Try.ntmps49 Aa fun a W => ?_
 have F := hL
 have h_v2 := F.nx s_v2
 unfold CY at H
 refine vc tk 2 W F fun a w W F => ?_
 refine BR (cs := (DZ p1 v2)) W F Aa Aa Aa fun b1 a w W F => ?_
 refine vl tk 2 W F fun a w W F => ?_
 refine Ad ?_
 obtain ⟨o1, G1, K1⟩ := Af H
 refine Au (fun a w => ∃ x1 : List (Int × (Int × (Int × Int × Int × Int) × (Int × Int × Int × Int)) × (List (Int × Int × Int))), some (x1) = some o1 ∧ Fr 28 [] [(0, v1), (6, .slice none 0 0)] a ∧ Stw ⟨Y, X, w0⟩ (Fd b1 p1 v2) [row v1 37 AK x1] w) ?_ ?_
 ·
  have H := G1
  clear G1 K1
  refine vc tk 3 W F fun a w W F => ?_
  refine ls W F Aa (B7 (r := AK) (l := p0) E7 Aa W Aa (AU 0 Aa)).q fun a w W F => ?_
  refine BJ tk 4 W F fun a w W F => ?_
  refine BA H (fun s a w => Fr 28 [] [(0, v1), (2, .func (.func 71) #[] #[.pointer (some ⟨q_p2c0, 0, none⟩)]), (4, .pointer (some ⟨b1, 0, none⟩)), (6, .slice none 0 0), (9, v1), (10, .int .i64 (p0.length : Int)), (11, .int .i64 s.2)] a ∧ Stw ⟨Y, X, w0⟩ (Fd b1 p1 v2) [row v1 37 AK s.1] w) ⟨W.ra Aa, F⟩ fun s o a w H L2 hR => ?_
  obtain ⟨x2, x3⟩ := s
  obtain ⟨W, F⟩ := hR
  have W : Fr 28 [] [(0, v1), (2, .func (.func 71) #[] #[.pointer (some ⟨q_p2c0, 0, none⟩)]), (4, .pointer (some ⟨b1, 0, none⟩)), (6, .slice none 0 0), (9, v1), (10, .int .i64 (p0.length : Int)), (11, .int .i64 x3)] a := W
  have F : Stw ⟨Y, X, w0⟩ (Fd b1 p1 v2) [row v1 37 AK x2] w := F
  rw [Do] at H
  refine vc tk 6 W F fun a w W F => ?_
  refine Bi W Aa H (fun W H => ?_) fun W H => ?_
  ·
   refine AC (Ad ?_)
   obtain ⟨o3, G3, K3⟩ := Af H
   refine Au (fun a w => ∃ x4 : List (Int × (Int × (Int × Int × Int × Int) × (Int × Int × Int × Int)) × (List (Int × Int × Int))), some (x4) = some o3 ∧ Fr 28 [] [(0, v1), (2, .func (.func 71) #[] #[.pointer (some ⟨q_p2c0, 0, none⟩)]), (4, .pointer (some ⟨b1, 0, none⟩)), (6, .slice none 0 0), (9, v1), (10, .int .i64 (p0.length : Int)), (11, .int .i64 x3)] a ∧ Stw ⟨Y, X, w0⟩ (Fd b1 p1 v2) [row v1 37 AK x4] w) ?_ ?_
   ·
    have H := G3
    clear G3 K3
    refine vc tk 2 W F fun a w W F => ?_
    obtain ⟨v4, h1, F⟩ := F.exR A4
    refine vc tk 2 W F fun a w W F => ?_
    obtain ⟨x5, h2, H⟩ := Af H
    obtain ⟨v5, h3, h4⟩ := BX h1 h2
    have h5 : Cy v5 = [.int .i64 x5.1, .int .i64 x5.2.1.1, .int .i64 x5.2.1.2.1.1, .int .i64 x5.2.1.2.1.2.1, .int .i64 x5.2.1.2.1.2.2.1, .int .i64 x5.2.1.2.1.2.2.2, .int .i64 x5.2.1.2.2.1, .int .i64 x5.2.1.2.2.2.1, .int .i64 x5.2.1.2.2.2.2.1, .int .i64 x5.2.1.2.2.2.2.2, (v5.2.2.1)] := congrArg (fun q : Int × (Int × (Int × Int × Int × Int) × (Int × Int × Int × Int)) × (List (Int × Int × Int)) => ([.int .i64 q.1, .int .i64 q.2.1.1, .int .i64 q.2.1.2.1.1, .int .i64 q.2.1.2.1.2.1, .int .i64 q.2.1.2.1.2.2.1, .int .i64 q.2.1.2.1.2.2.2, .int .i64 q.2.1.2.2.1, .int .i64 q.2.1.2.2.2.1, .int .i64 q.2.1.2.2.2.2.1, .int .i64 q.2.1.2.2.2.2.2, (v5.2.2.1)] : List Value)) h4
    refine ls W F Aa (AR (r := C4) EL W Aa Aa (AU 0 Aa) h3).q fun a w W F => ?_
    refine ls W F Aa (AD (y := Value.agg #[.int .i64 x5.1, .int .i64 x5.2.1.1, .int .i64 x5.2.1.2.1.1, .int .i64 x5.2.1.2.1.2.1, .int .i64 x5.2.1.2.1.2.2.1, .int .i64 x5.2.1.2.1.2.2.2, .int .i64 x5.2.1.2.2.1, .int .i64 x5.2.1.2.2.2.1, .int .i64 x5.2.1.2.2.2.2.1, .int .i64 x5.2.1.2.2.2.2.2, (v5.2.2.1)]) (j := 0) (i := x3) (enc := Cy) W Aa Aa (AU 0 Aa) h3 EG EM (by rw [h5]; rfl)).q fun a w W F => ?_
    have F := F.note (F.rowAt (k := 0) Aa h3 (Ay.snd (Ay.snd Ay.here)) (congrArg (fun q : Int × (Int × (Int × Int × Int × Int) × (Int × Int × Int × Int)) × (List (Int × Int × Int)) => q.2.2) h4))
    refine Ca (cs := (Iu)) W F Aa Kz Aa fun b2 a w W F => ?_
    refine ls W F Aa (BI W Aa).q fun a w W F => ?_
    refine Dh 0 W F Aa Aa Aa EM Aa Aa (Ac Aa (Ac Aa (Ac Aa (Ac Aa (Ac Aa (Ac Aa (Ac Aa (Ac Aa (Ac Aa (Ac Aa (Ac (F.oneF (k := 0) Aa) Cr))))))))))) fun w F => ?_
    refine Eo tk 6 [0] W F (ai fun a w W F => ?_)
    obtain ⟨x6, h6, H⟩ := Af H
    refine ls W F Aa (Fh (ws := [.agg #[.int .i64 x5.1, .int .i64 x5.2.1.1, .int .i64 x5.2.1.2.1.1, .int .i64 x5.2.1.2.1.2.1, .int .i64 x5.2.1.2.1.2.2.1, .int .i64 x5.2.1.2.1.2.2.2, .int .i64 x5.2.1.2.2.1, .int .i64 x5.2.1.2.2.2.1, .int .i64 x5.2.1.2.2.2.2.1, .int .i64 x5.2.1.2.2.2.2.2, (v5.2.2.1)], .pointer (some ⟨q_p2c0, 0, none⟩)]) (v := Value.bool x6) W Sc Aa (fun w F => EW any w ((v5.2.2.1)) q_p2c0 (v3) x5 p2c0 _ h6 (Dc (D4 0 Aa) F) (Dc (An h_v3) F) (At.re a_q_p2c0 F))) fun a w W F => ?_
    refine BJ tk 2 W F fun a w W F => ?_
    refine BE W Aa H (fun W H => ?_) fun W H => ?_
    ·
     refine Fq tk 4 [1] W F (ai fun a w W F => ?_)
     obtain ⟨x7, h7, H⟩ := Af H
     refine AA (Ml := []) (Zl := []) (β := Value) (rv := fun x => .agg #[.int .i64 x7.1, .int .i64 x7.2.1.1, .int .i64 x7.2.1.2.1.1, .int .i64 x7.2.1.2.1.2.1, .int .i64 x7.2.1.2.1.2.2.1, .int .i64 x7.2.1.2.1.2.2.2, .int .i64 x7.2.1.2.2.1, .int .i64 x7.2.1.2.2.2.1, .int .i64 x7.2.1.2.2.2.2.1, .int .i64 x7.2.1.2.2.2.2.2, x]) (MM := fun x => []) (ZZ := fun x => [row x 88 Bk x7.2.2]) W F RP Aa Aa (fun hL => Dl _ w (v2) p1 _ h7 (F.old s_v2)) fun x a w W F => ?_
     obtain ⟨v6, rfl⟩ : ∃ y, y = x := ⟨x, rfl⟩
     have F : Stw ⟨Y, X, w0⟩ [(b2, [.int .i64 x5.1, .int .i64 x5.2.1.1, .int .i64 x5.2.1.2.1.1, .int .i64 x5.2.1.2.1.2.1, .int .i64 x5.2.1.2.1.2.2.1, .int .i64 x5.2.1.2.1.2.2.2, .int .i64 x5.2.1.2.2.1, .int .i64 x5.2.1.2.2.2.1, .int .i64 x5.2.1.2.2.2.2.1, .int .i64 x5.2.1.2.2.2.2.2, (v5.2.2.1)]), (b1, (DZ p1 v2))] [row v6 88 Bk x7.2.2, Bo (v5.2.2.1) Bk x5.2.2, row v1 37 C4 v4] w := F
     refine ls W F Aa (Kj (v := v6) Ij Aa Aa Aa Nt W Aa Aa).q fun a w W F => ?_
     obtain ⟨x8, h8, H⟩ := Af H
     obtain ⟨v7, h9, h10⟩ := BX h1 h8
     have h11 : Cy v7 = [.int .i64 x8.1, .int .i64 x8.2.1.1, .int .i64 x8.2.1.2.1.1, .int .i64 x8.2.1.2.1.2.1, .int .i64 x8.2.1.2.1.2.2.1, .int .i64 x8.2.1.2.1.2.2.2, .int .i64 x8.2.1.2.2.1, .int .i64 x8.2.1.2.2.2.1, .int .i64 x8.2.1.2.2.2.2.1, .int .i64 x8.2.1.2.2.2.2.2, (v7.2.2.1)] := congrArg (fun q : Int × (Int × (Int × Int × Int × Int) × (Int × Int × Int × Int)) × (List (Int × Int × Int)) => ([.int .i64 q.1, .int .i64 q.2.1.1, .int .i64 q.2.1.2.1.1, .int .i64 q.2.1.2.1.2.1, .int .i64 q.2.1.2.1.2.2.1, .int .i64 q.2.1.2.1.2.2.2, .int .i64 q.2.1.2.2.1, .int .i64 q.2.1.2.2.2.1, .int .i64 q.2.1.2.2.2.2.1, .int .i64 q.2.1.2.2.2.2.2, (v7.2.2.1)] : List Value)) h10
     refine ls W F Aa (AR (r := C4) EL W Aa Aa (AU 2 Aa) h9).q fun a w W F => ?_
     refine ls W F Aa (Aj Ij Aa Aa Aa Nt W Aa (Ei v1 + (x3).toNat * 11 + 10) Aa).q fun a w W F => ?_
     have F := F.freeze
     have F := F.frontZ (i := 2) Aa Aa
     have F := F.hideR A4 h1
     refine Fw (r := AK) (i := x3) (j := 10) (vs := [v6]) (x' := (x8.1, x8.2.1, x7.2.2)) W F rfl rfl rfl (k := 0) rfl rfl h8 Nt (Hc (F.oneF (k := 1) rfl)) rfl rfl (Ac (F.oneF (k := 1) rfl) Cr) (fun A cs hA hc => by obtain ⟨z, hz, hc⟩ := A4.to hc; have e1 := EG hc; have e2 : Cy z = [.int .i64 x8.1, .int .i64 x8.2.1.1, .int .i64 x8.2.1.2.1.1, .int .i64 x8.2.1.2.1.2.1, .int .i64 x8.2.1.2.1.2.2.1, .int .i64 x8.2.1.2.1.2.2.2, .int .i64 x8.2.1.2.2.1, .int .i64 x8.2.1.2.2.2.1, .int .i64 x8.2.1.2.2.2.2.1, .int .i64 x8.2.1.2.2.2.2.2, (z.2.2.1)] := (congrArg (fun q : Int × (Int × (Int × Int × Int × Int) × (Int × Int × Int × Int)) × (List (Int × Int × Int)) => ([.int .i64 q.1, .int .i64 q.2.1.1, .int .i64 q.2.1.2.1.1, .int .i64 q.2.1.2.1.2.1, .int .i64 q.2.1.2.1.2.2.1, .int .i64 q.2.1.2.1.2.2.2, .int .i64 q.2.1.2.2.1, .int .i64 q.2.1.2.2.2.1, .int .i64 q.2.1.2.2.2.2.1, .int .i64 q.2.1.2.2.2.2.2, (z.2.2.1)] : List Value)) hz); rw [e1, e2]; exact ⟨[Value.int .i64 x8.1], [Value.int .i64 x8.2.1.1, Value.int .i64 x8.2.1.2.1.1, Value.int .i64 x8.2.1.2.1.2.1, Value.int .i64 x8.2.1.2.1.2.2.1, Value.int .i64 x8.2.1.2.1.2.2.2, Value.int .i64 x8.2.1.2.2.1, Value.int .i64 x8.2.1.2.2.2.1, Value.int .i64 x8.2.1.2.2.2.2.1, Value.int .i64 x8.2.1.2.2.2.2.2, v6], rfl, rfl, ⟨[Value.int .i64 x8.2.1.1, Value.int .i64 x8.2.1.2.1.1, Value.int .i64 x8.2.1.2.1.2.1, Value.int .i64 x8.2.1.2.1.2.2.1, Value.int .i64 x8.2.1.2.1.2.2.2, Value.int .i64 x8.2.1.2.2.1, Value.int .i64 x8.2.1.2.2.2.1, Value.int .i64 x8.2.1.2.2.2.2.1, Value.int .i64 x8.2.1.2.2.2.2.2], [v6], rfl, ⟨[Value.int .i64 x8.2.1.1], [Value.int .i64 x8.2.1.2.1.1, Value.int .i64 x8.2.1.2.1.2.1, Value.int .i64 x8.2.1.2.1.2.2.1, Value.int .i64 x8.2.1.2.1.2.2.2, Value.int .i64 x8.2.1.2.2.1, Value.int .i64 x8.2.1.2.2.2.1, Value.int .i64 x8.2.1.2.2.2.2.1, Value.int .i64 x8.2.1.2.2.2.2.2], rfl, rfl, ⟨[Value.int .i64 x8.2.1.2.1.1, Value.int .i64 x8.2.1.2.1.2.1, Value.int .i64 x8.2.1.2.1.2.2.1, Value.int .i64 x8.2.1.2.1.2.2.2], [Value.int .i64 x8.2.1.2.2.1, Value.int .i64 x8.2.1.2.2.2.1, Value.int .i64 x8.2.1.2.2.2.2.1, Value.int .i64 x8.2.1.2.2.2.2.2], rfl, ⟨[Value.int .i64 x8.2.1.2.1.1], [Value.int .i64 x8.2.1.2.1.2.1, Value.int .i64 x8.2.1.2.1.2.2.1, Value.int .i64 x8.2.1.2.1.2.2.2], rfl, rfl, ⟨[Value.int .i64 x8.2.1.2.1.2.1], [Value.int .i64 x8.2.1.2.1.2.2.1, Value.int .i64 x8.2.1.2.1.2.2.2], rfl, rfl, ⟨[Value.int .i64 x8.2.1.2.1.2.2.1], [Value.int .i64 x8.2.1.2.1.2.2.2], rfl, rfl, rfl⟩⟩⟩, ⟨[Value.int .i64 x8.2.1.2.2.1], [Value.int .i64 x8.2.1.2.2.2.1, Value.int .i64 x8.2.1.2.2.2.2.1, Value.int .i64 x8.2.1.2.2.2.2.2], rfl, rfl, ⟨[Value.int .i64 x8.2.1.2.2.2.1], [Value.int .i64 x8.2.1.2.2.2.2.1, Value.int .i64 x8.2.1.2.2.2.2.2], rfl, rfl, ⟨[Value.int .i64 x8.2.1.2.2.2.2.1], [Value.int .i64 x8.2.1.2.2.2.2.2], rfl, rfl, rfl⟩⟩⟩⟩⟩, ⟨_, rfl, (Sl.stab (F.item (i := 1) rfl) (fun b hb _ => ⟨hA b hb, rfl⟩))⟩⟩⟩) fun w F => ?_
     refine Er (AF (Ad ?_))
     have F := F.frontM (i := 1) Aa Aa
     have F := F.sub (M' := (Fd b1 p1 v2)) (Z' := [row v1 37 AK (Dv x2 x3 (x8.1, x8.2.1, x7.2.2))]) (List.Sublist.cons_cons _ (List.nil_sublist _)) (List.Sublist.cons_cons _ (List.nil_sublist _))
     exact ⟨_, H, W.ra Aa, F⟩
    refine AC (AF (Ad ?_))
    have F := F.frontZ (i := 1) Aa Aa
    have F := F.hideR A4 h1
    have F := F.frontM (i := 1) Aa Aa
    have F := F.sub (M' := (Fd b1 p1 v2)) (Z' := [row v1 37 AK x2]) (List.Sublist.cons_cons _ (List.nil_sublist _)) (List.Sublist.cons_cons _ (List.nil_sublist _))
    exact ⟨_, H, W.ra Aa, F⟩
   rintro a w ⟨x4, hj, W, F⟩
   have hj := Av hj
   subst hj
   have H := K3
   clear G3 K3
   refine vc tk 4 W F fun a w W F => ?_
   refine Ad ?_
   exact ⟨_, H, W.ra Aa, F⟩
  refine Bm ?_
  iterate 2 refine BU ?_
  refine Bp (Ad ?_)
  have H := L2 _ H
  exact ⟨_, H, W.ra Aa, F⟩
 rintro a w ⟨x1, hj, W, F⟩
 have hj := Av hj
 subst hj
 have H := K1
 clear G1 K1
 refine vc tk 6 W F fun a w W F => ?_
 refine Al ?_
 have H := Av H
 subst H
 refine Aw (.inl Aa) W F Aa (Ai W Aa) ?_
 have F := F.sub (M' := []) (Z' := [row v1 37 AK x1]) (List.nil_sublist _) (List.Sublist.refl _)
 exact ⟨(v1), Aa, F⟩
noncomputable def Bc (p0 : List (Int × (Int × (Int × Int × Int × Int) × (Int × Int × Int × Int)) × (List (Int × Int × Int)))) (p1c0 : Int × (Int × (Int × Int × Int × Int) × (Int × Int × Int × Int)) × (List (Int × Int × Int))) : Int → Option (Int ⊕ (Unit ⊕ Int))
  | x1 => (if x1 < (p0.length : Int) then (ix p0 x1).bind fun x2 => (CW x2 p1c0).bind fun x3 => (if x3 = true then some (.inr (.inr x1)) else some (.inl (Cc (x1 + 1)))) else some (.inr (.inl ())))
noncomputable def Br (p0 : List (Int × (Int × (Int × Int × Int × Int) × (Int × Int × Int × Int)) × (List (Int × Int × Int)))) (p1c0 : Int × (Int × (Int × Int × Int × Int) × (Int × Int × Int × Int)) × (List (Int × Int × Int))) : Option Int := FR (AX (Bc p0 p1c0) 0) fun _ => some (-1)
theorem DQ (Y : Nat → Prop) (w0 : World) (v1 : Value) (q_p1c0 : Nat) (v2 : Value) (p0 : List (Int × (Int × (Int × Int × Int × Int) × (Int × Int × Int × Int)) × (List (Int × Int × Int)))) (p1c0 : Int × (Int × (Int × Int × Int × Int) × (Int × Int × Int × Int)) × (List (Int × Int × Int))) (r : Int) (H : Br p0 p1c0 = some r) (h_v1 : Sl w0 (NX []) AK v1 p0) (h_v2 : Sl w0 (NX []) Bk v2 p1c0.2.2) (a_q_p1c0 : At ⟨Y, [], w0⟩ q_p1c0 0 [.int .i64 p1c0.1, .int .i64 p1c0.2.1.1, .int .i64 p1c0.2.1.2.1.1, .int .i64 p1c0.2.1.2.1.2.1, .int .i64 p1c0.2.1.2.1.2.2.1, .int .i64 p1c0.2.1.2.1.2.2.2, .int .i64 p1c0.2.1.2.2.1, .int .i64 p1c0.2.1.2.2.2.1, .int .i64 p1c0.2.1.2.2.2.2.1, .int .i64 p1c0.2.1.2.2.2.2.2, v2]) :
    Calls Try.prog 67 #[v1, .func (.func 71) #[] #[.pointer (some ⟨q_p1c0, 0, none⟩)]] w0 fun e w' => e = .returned (.int .i64 r) ∧ Below w0.heap.size w0 w' := by
 refine enter Try.func67 Aa Try.ntmps67 Aa fun a W => ?_
 have F := Stw.start Y w0
 obtain ⟨v3, h1, h_v1⟩ := h_v1.ex A4
 unfold Br at H
 refine vc tk 5 W F fun a w W F => ?_
 obtain ⟨o1, G1, K1, L1⟩ := H1 H
 refine Au (fun a w => some (Sum.inl ()) = some o1 ∧ Fr 19 [] [(4, .int .i64 0)] a ∧ Stw ⟨Y, [], w0⟩ [] [] w) ?_ ?_
 ·
  have H := G1
  clear G1 K1
  refine vc tk 3 W F fun a w W F => ?_
  refine ls W F Aa (B7 (r := AK) (l := p0) E7 Aa W Aa (Bq A4 h1 (An h_v1))).q fun a w W F => ?_
  refine BJ tk 4 W F fun a w W F => ?_
  refine BA H (fun s a w => Fr 19 [] [(0, v1), (1, .func (.func 71) #[] #[.pointer (some ⟨q_p1c0, 0, none⟩)]), (4, .int .i64 0), (7, .int .i64 (p0.length : Int)), (8, .int .i64 s)] a ∧ Stw ⟨Y, [], w0⟩ [] [] w) ⟨W.ra Aa, F⟩ fun s o a w H L2 hR => ?_
  obtain ⟨x1, rfl⟩ : ∃ x, x = s := ⟨s, rfl⟩
  obtain ⟨W, F⟩ := hR
  have W : Fr 19 [] [(0, v1), (1, .func (.func 71) #[] #[.pointer (some ⟨q_p1c0, 0, none⟩)]), (4, .int .i64 0), (7, .int .i64 (p0.length : Int)), (8, .int .i64 x1)] a := W
  have F : Stw ⟨Y, [], w0⟩ [] [] w := F
  rw [Bc] at H
  refine vc tk 6 W F fun a w W F => ?_
  refine Bi W Aa H (fun W H => ?_) fun W H => ?_
  ·
   refine D6 tk 15 W F fun a w W F => ?_
   obtain ⟨x2, h2, H⟩ := Af H
   obtain ⟨v4, h3, h4⟩ := BX h1 h2
   have h5 : Cy v4 = [.int .i64 x2.1, .int .i64 x2.2.1.1, .int .i64 x2.2.1.2.1.1, .int .i64 x2.2.1.2.1.2.1, .int .i64 x2.2.1.2.1.2.2.1, .int .i64 x2.2.1.2.1.2.2.2, .int .i64 x2.2.1.2.2.1, .int .i64 x2.2.1.2.2.2.1, .int .i64 x2.2.1.2.2.2.2.1, .int .i64 x2.2.1.2.2.2.2.2, (v4.2.2.1)] := congrArg (fun q : Int × (Int × (Int × Int × Int × Int) × (Int × Int × Int × Int)) × (List (Int × Int × Int)) => ([.int .i64 q.1, .int .i64 q.2.1.1, .int .i64 q.2.1.2.1.1, .int .i64 q.2.1.2.1.2.1, .int .i64 q.2.1.2.1.2.2.1, .int .i64 q.2.1.2.1.2.2.2, .int .i64 q.2.1.2.2.1, .int .i64 q.2.1.2.2.2.1, .int .i64 q.2.1.2.2.2.2.1, .int .i64 q.2.1.2.2.2.2.2, (v4.2.2.1)] : List Value)) h4
   refine ls W F Aa (AR (r := C4) EL W Aa Aa (An h_v1) h3).q fun a w W F => ?_
   refine ls W F Aa (AD (y := Value.agg #[.int .i64 x2.1, .int .i64 x2.2.1.1, .int .i64 x2.2.1.2.1.1, .int .i64 x2.2.1.2.1.2.1, .int .i64 x2.2.1.2.1.2.2.1, .int .i64 x2.2.1.2.1.2.2.2, .int .i64 x2.2.1.2.2.1, .int .i64 x2.2.1.2.2.2.1, .int .i64 x2.2.1.2.2.2.2.1, .int .i64 x2.2.1.2.2.2.2.2, (v4.2.2.1)]) (j := 0) (i := x1) (enc := Cy) W Aa Aa (An h_v1) h3 EG EM (by rw [h5]; rfl)).q fun a w W F => ?_
   obtain ⟨x3, h6, H⟩ := Af H
   refine ls W F Aa (Fh (ws := [.agg #[.int .i64 x2.1, .int .i64 x2.2.1.1, .int .i64 x2.2.1.2.1.1, .int .i64 x2.2.1.2.1.2.1, .int .i64 x2.2.1.2.1.2.2.1, .int .i64 x2.2.1.2.1.2.2.2, .int .i64 x2.2.1.2.2.1, .int .i64 x2.2.1.2.2.2.1, .int .i64 x2.2.1.2.2.2.2.1, .int .i64 x2.2.1.2.2.2.2.2, (v4.2.2.1)], .pointer (some ⟨q_p1c0, 0, none⟩)]) (v := Value.bool x3) W Sc Aa (fun w F => EW any w ((v4.2.2.1)) q_p1c0 (v2) x2 p1c0 _ h6 (Dc (Db (An h_v1) h3 (Ay.snd (Ay.snd Ay.here)) (congrArg (fun q : Int × (Int × (Int × Int × Int × Int) × (Int × Int × Int × Int)) × (List (Int × Int × Int)) => q.2.2) h4)) F) (Dc (An h_v2) F) (At.re a_q_p1c0 F))) fun a w W F => ?_
   refine BJ tk 2 W F fun a w W F => ?_
   refine BE W Aa H (fun W H => ?_) fun W H => ?_
   ·
    refine vc tk 6 W F fun a w W F => ?_
    refine Al (Az ?_)
    iterate 2 refine Aq ?_
    refine Az (Aq ?_)
    have H := L2 _ H
    have H := L1 _ H
    have H := Av H
    subst H
    refine Aw (.inl Aa) W F Aa (Ai W Aa) ?_
    exact ⟨rfl, F.done⟩
   refine AC (AF ?_)
   refine vn tk 4 W F fun a w W F => ?_
   refine Ad ?_
   exact ⟨_, H, W.ra Aa, F⟩
  refine Bm ?_
  iterate 2 refine BU ?_
  refine Bp (Ad ?_)
  have H := L2 _ H
  exact ⟨H, W.ra Aa, F⟩
 rintro a w ⟨hj, W, F⟩
 have H := K1 _ hj
 clear hj G1 K1 L1
 refine vc tk 5 W F fun a w W F => ?_
 refine Al ?_
 have H := Av H
 subst H
 refine Aw (.inl Aa) W F Aa (Ai W Aa) ?_
 exact ⟨rfl, F.done⟩
noncomputable def Bj (p1c0 : Int × (Int × (Int × Int × Int × Int) × (Int × Int × Int × Int)) × (List (Int × Int × Int))) : ((List (Int × (Int × (Int × Int × Int × Int) × (Int × Int × Int × Int)) × (List (Int × Int × Int)))) × Int × Int) → Option (((List (Int × (Int × (Int × Int × Int × Int) × (Int × Int × Int × Int)) × (List (Int × Int × Int)))) × Int × Int) ⊕ ((List (Int × (Int × (Int × Int × Int × Int) × (Int × Int × Int × Int)) × (List (Int × Int × Int)))) × Int))
  | (x4, x5, x6) => (if x6 < (x4.length : Int) then ((ix x4 x6).bind fun x9 => (CW x9 p1c0).bind fun x10 => (if (!x10) = true then (ix x4 x5).bind fun x11 => some ((Dv x4 x5 x9), Cc (x5 + 1)) else some (x4, x5))).bind fun (x7, x8) => some (.inl (x7, x8, Cc (x6 + 1))) else some (.inr (x4, x5)))
noncomputable def A9 (p0 : List (Int × (Int × (Int × Int × Int × Int) × (Int × Int × Int × Int)) × (List (Int × Int × Int)))) (p1c0 : Int × (Int × (Int × Int × Int × Int) × (Int × Int × Int × Int)) × (List (Int × Int × Int))) : Option (List (Int × (Int × (Int × Int × Int × Int) × (Int × Int × Int × Int)) × (List (Int × Int × Int)))) := (Br p0 p1c0).bind fun x1 => (if x1 = (-1) then some p0 else (AX (Bj p1c0) (p0, x1, Cc (x1 + 1))).bind fun (x2, x3) => (Em x2 x3 (x2.length : Int)).bind fun x12 => (PV x2 x3 (List.replicate (x12.length) ((0, (0, (0, 0, 0, 0), (0, 0, 0, 0)), []) : Int × (Int × (Int × Int × Int × Int) × (Int × Int × Int × Int)) × (List (Int × Int × Int))))).bind fun x13 => (Em x13 0 x3).bind fun x14 => some x14)
theorem DT (Y : Nat → Prop) (X : List Nat) (w0 : World) (v1 : Value) (q_p1c0 : Nat) (v2 : Value) (p0 : List (Int × (Int × (Int × Int × Int × Int) × (Int × Int × Int × Int)) × (List (Int × Int × Int)))) (p1c0 : Int × (Int × (Int × Int × Int × Int) × (Int × Int × Int × Int)) × (List (Int × Int × Int))) (r : (List (Int × (Int × (Int × Int × Int × Int) × (Int × Int × Int × Int)) × (List (Int × Int × Int))))) (H : A9 p0 p1c0 = some r) (h_v2 : Sl w0 (NX X) Bk v2 p1c0.2.2) (a_q_p1c0 : At ⟨Y, X, w0⟩ q_p1c0 0 [.int .i64 p1c0.1, .int .i64 p1c0.2.1.1, .int .i64 p1c0.2.1.2.1.1, .int .i64 p1c0.2.1.2.1.2.1, .int .i64 p1c0.2.1.2.1.2.2.1, .int .i64 p1c0.2.1.2.1.2.2.2, .int .i64 p1c0.2.1.2.2.1, .int .i64 p1c0.2.1.2.2.2.1, .int .i64 p1c0.2.1.2.2.2.2.1, .int .i64 p1c0.2.1.2.2.2.2.2, v2]) (hL : Stw ⟨Y, X, w0⟩ [] [row v1 37 AK p0] w0) :
    Calls Try.prog 53 #[v1, .func (.func 71) #[] #[.pointer (some ⟨q_p1c0, 0, none⟩)]] w0 fun e w' => ∃ x : Value, e = .returned (x) ∧ Stw ⟨Y, X, w0⟩ [] [row (x) 37 AK r] w' := by
 refine enter Try.func53 Aa Try.ntmps53 Aa fun a W => ?_
 have F := hL
 unfold A9 at H
 refine vc tk 9 W F fun a w W F => ?_
 obtain ⟨x1, h1, H⟩ := Af H
 refine ls W F Aa (AM (v := Value.int .i64 x1) W Rw Aa (fun w F => DQ any w (v1) q_p1c0 (v2) p0 p1c0 _ h1 (Dc (AU 0 Aa) F) (Dc (An h_v2) F) (At.re a_q_p1c0 F))) fun a w W F => ?_
 refine BJ tk 10 W F fun a w W F => ?_
 refine Bi W Aa H (fun W H => ?_) fun W H => ?_
 ·
  refine vc tk 6 W F fun a w W F => ?_
  refine Al (Aq ?_)
  have H := Av H
  subst H
  refine Aw (.inl Aa) W F Aa (Ai W Aa) ?_
  exact ⟨(v1), Aa, F⟩
 refine AC (Ad ?_)
 obtain ⟨o1, G1, K1⟩ := Af H
 refine Au (fun a w => ∃ x2 : List (Int × (Int × (Int × Int × Int × Int) × (Int × Int × Int × Int)) × (List (Int × Int × Int))), ∃ x3 : Int, some ((x2, x3)) = some o1 ∧ Fr 42 [] [(0, v1), (4, .slice none 0 0), (5, .int .i64 x3)] a ∧ Stw ⟨Y, X, w0⟩ [] [row v1 37 AK x2] w) ?_ ?_
 ·
  have H := G1
  clear G1 K1
  refine vc tk 8 W F fun a w W F => ?_
  refine BA H (fun s a w => Fr 42 [] [(0, v1), (1, .func (.func 71) #[] #[.pointer (some ⟨q_p1c0, 0, none⟩)]), (4, .slice none 0 0), (5, .int .i64 s.2.1), (6, .int .i64 s.2.2)] a ∧ Stw ⟨Y, X, w0⟩ [] [row v1 37 AK s.1] w) ⟨W.ra Aa, F⟩ fun s o a w H L2 hR => ?_
  obtain ⟨x4, x5, x6⟩ := s
  obtain ⟨W, F⟩ := hR
  have W : Fr 42 [] [(0, v1), (1, .func (.func 71) #[] #[.pointer (some ⟨q_p1c0, 0, none⟩)]), (4, .slice none 0 0), (5, .int .i64 x5), (6, .int .i64 x6)] a := W
  have F : Stw ⟨Y, X, w0⟩ [] [row v1 37 AK x4] w := F
  rw [Bj] at H
  refine vc tk 5 W F fun a w W F => ?_
  refine ls W F Aa (B7 (r := AK) (l := x4) E7 Aa W Aa (AU 0 Aa)).q fun a w W F => ?_
  refine BJ tk 3 W F fun a w W F => ?_
  refine Bi W Aa H (fun W H => ?_) fun W H => ?_
  ·
   refine AC (Ad ?_)
   obtain ⟨o3, G3, K3⟩ := Af H
   refine Au (fun a w => ∃ x7 : List (Int × (Int × (Int × Int × Int × Int) × (Int × Int × Int × Int)) × (List (Int × Int × Int))), ∃ x8 : Int, some ((x7, x8)) = some o3 ∧ Fr 42 [] [(0, v1), (1, .func (.func 71) #[] #[.pointer (some ⟨q_p1c0, 0, none⟩)]), (4, .slice none 0 0), (5, .int .i64 x8), (6, .int .i64 x6)] a ∧ Stw ⟨Y, X, w0⟩ [] [row v1 37 AK x7] w) ?_ ?_
   ·
    have H := G3
    clear G3 K3
    refine vc tk 2 W F fun a w W F => ?_
    obtain ⟨v3, h2, F⟩ := F.exR A4
    refine vc tk 3 W F fun a w W F => ?_
    obtain ⟨x9, h3, H⟩ := Af H
    obtain ⟨v4, h4, h5⟩ := BX h2 h3
    have h6 : Cy v4 = [.int .i64 x9.1, .int .i64 x9.2.1.1, .int .i64 x9.2.1.2.1.1, .int .i64 x9.2.1.2.1.2.1, .int .i64 x9.2.1.2.1.2.2.1, .int .i64 x9.2.1.2.1.2.2.2, .int .i64 x9.2.1.2.2.1, .int .i64 x9.2.1.2.2.2.1, .int .i64 x9.2.1.2.2.2.2.1, .int .i64 x9.2.1.2.2.2.2.2, (v4.2.2.1)] := congrArg (fun q : Int × (Int × (Int × Int × Int × Int) × (Int × Int × Int × Int)) × (List (Int × Int × Int)) => ([.int .i64 q.1, .int .i64 q.2.1.1, .int .i64 q.2.1.2.1.1, .int .i64 q.2.1.2.1.2.1, .int .i64 q.2.1.2.1.2.2.1, .int .i64 q.2.1.2.1.2.2.2, .int .i64 q.2.1.2.2.1, .int .i64 q.2.1.2.2.2.1, .int .i64 q.2.1.2.2.2.2.1, .int .i64 q.2.1.2.2.2.2.2, (v4.2.2.1)] : List Value)) h5
    refine ls W F Aa (AR (r := C4) EL W Aa Aa (AU 0 Aa) h4).q fun a w W F => ?_
    refine ls W F Aa (AD (y := Value.agg #[.int .i64 x9.1, .int .i64 x9.2.1.1, .int .i64 x9.2.1.2.1.1, .int .i64 x9.2.1.2.1.2.1, .int .i64 x9.2.1.2.1.2.2.1, .int .i64 x9.2.1.2.1.2.2.2, .int .i64 x9.2.1.2.2.1, .int .i64 x9.2.1.2.2.2.1, .int .i64 x9.2.1.2.2.2.2.1, .int .i64 x9.2.1.2.2.2.2.2, (v4.2.2.1)]) (j := 0) (i := x6) (enc := Cy) W Aa Aa (AU 0 Aa) h4 EG EM (by rw [h6]; rfl)).q fun a w W F => ?_
    have F := F.note (F.rowAt (k := 0) Aa h4 (Ay.snd (Ay.snd Ay.here)) (congrArg (fun q : Int × (Int × (Int × Int × Int × Int) × (Int × Int × Int × Int)) × (List (Int × Int × Int)) => q.2.2) h5))
    refine Ca (cs := (Iu)) W F Aa Kz Aa fun b1 a w W F => ?_
    refine Dh 0 W F Aa Aa Aa EM Aa Aa (Ac Aa (Ac Aa (Ac Aa (Ac Aa (Ac Aa (Ac Aa (Ac Aa (Ac Aa (Ac Aa (Ac Aa (Ac (F.oneF (k := 0) Aa) Cr))))))))))) fun w F => ?_
    refine Eo tk 6 [0] W F (ai fun a w W F => ?_)
    obtain ⟨x10, h7, H⟩ := Af H
    refine ls W F Aa (Fh (ws := [.agg #[.int .i64 x9.1, .int .i64 x9.2.1.1, .int .i64 x9.2.1.2.1.1, .int .i64 x9.2.1.2.1.2.1, .int .i64 x9.2.1.2.1.2.2.1, .int .i64 x9.2.1.2.1.2.2.2, .int .i64 x9.2.1.2.2.1, .int .i64 x9.2.1.2.2.2.1, .int .i64 x9.2.1.2.2.2.2.1, .int .i64 x9.2.1.2.2.2.2.2, (v4.2.2.1)], .pointer (some ⟨q_p1c0, 0, none⟩)]) (v := Value.bool x10) W Sc Aa (fun w F => EW any w ((v4.2.2.1)) q_p1c0 (v2) x9 p1c0 _ h7 (Dc (D4 0 Aa) F) (Dc (An h_v2) F) (At.re a_q_p1c0 F))) fun a w W F => ?_
    refine BJ tk 3 W F fun a w W F => ?_
    refine BE W Aa H (fun W H => ?_) fun W H => ?_
    ·
     refine Fq tk 5 [0] W F (ai fun a w W F => ?_)
     obtain ⟨x11, h8, H⟩ := Af H
     obtain ⟨v5, h9, h10⟩ := BX h2 h8
     have h11 : Cy v5 = [.int .i64 x11.1, .int .i64 x11.2.1.1, .int .i64 x11.2.1.2.1.1, .int .i64 x11.2.1.2.1.2.1, .int .i64 x11.2.1.2.1.2.2.1, .int .i64 x11.2.1.2.1.2.2.2, .int .i64 x11.2.1.2.2.1, .int .i64 x11.2.1.2.2.2.1, .int .i64 x11.2.1.2.2.2.2.1, .int .i64 x11.2.1.2.2.2.2.2, (v5.2.2.1)] := congrArg (fun q : Int × (Int × (Int × Int × Int × Int) × (Int × Int × Int × Int)) × (List (Int × Int × Int)) => ([.int .i64 q.1, .int .i64 q.2.1.1, .int .i64 q.2.1.2.1.1, .int .i64 q.2.1.2.1.2.1, .int .i64 q.2.1.2.1.2.2.1, .int .i64 q.2.1.2.1.2.2.2, .int .i64 q.2.1.2.2.1, .int .i64 q.2.1.2.2.2.1, .int .i64 q.2.1.2.2.2.2.1, .int .i64 q.2.1.2.2.2.2.2, (v5.2.2.1)] : List Value)) h10
     refine ls W F Aa (AR (r := C4) EL W Aa Aa (AU 1 Aa) h9).q fun a w W F => ?_
     have F := F.frontZ (i := 1) Aa Aa
     have F := F.hideR A4 h2
     refine Fw (r := AK) (i := x5) (j := 0) (vs := [.int .i64 x9.1, .int .i64 x9.2.1.1, .int .i64 x9.2.1.2.1.1, .int .i64 x9.2.1.2.1.2.1, .int .i64 x9.2.1.2.1.2.2.1, .int .i64 x9.2.1.2.1.2.2.2, .int .i64 x9.2.1.2.2.1, .int .i64 x9.2.1.2.2.2.1, .int .i64 x9.2.1.2.2.2.2.1, .int .i64 x9.2.1.2.2.2.2.2, (v4.2.2.1)]) (x' := x9) W F rfl rfl rfl (k := 0) rfl rfl h8 EM rfl rfl rfl (Ac rfl (Ac rfl (Ac rfl (Ac rfl (Ac rfl (Ac rfl (Ac rfl (Ac rfl (Ac rfl (Ac rfl (Ac (F.oneF (k := 1) rfl) Cr))))))))))) (fun A cs hA hc => by obtain ⟨z, hz, hc⟩ := A4.to hc; have e1 := EG hc; have e2 : Cy z = [.int .i64 x11.1, .int .i64 x11.2.1.1, .int .i64 x11.2.1.2.1.1, .int .i64 x11.2.1.2.1.2.1, .int .i64 x11.2.1.2.1.2.2.1, .int .i64 x11.2.1.2.1.2.2.2, .int .i64 x11.2.1.2.2.1, .int .i64 x11.2.1.2.2.2.1, .int .i64 x11.2.1.2.2.2.2.1, .int .i64 x11.2.1.2.2.2.2.2, (z.2.2.1)] := (congrArg (fun q : Int × (Int × (Int × Int × Int × Int) × (Int × Int × Int × Int)) × (List (Int × Int × Int)) => ([.int .i64 q.1, .int .i64 q.2.1.1, .int .i64 q.2.1.2.1.1, .int .i64 q.2.1.2.1.2.1, .int .i64 q.2.1.2.1.2.2.1, .int .i64 q.2.1.2.1.2.2.2, .int .i64 q.2.1.2.2.1, .int .i64 q.2.1.2.2.2.1, .int .i64 q.2.1.2.2.2.2.1, .int .i64 q.2.1.2.2.2.2.2, (z.2.2.1)] : List Value)) hz); rw [e1, e2]; exact ⟨[Value.int .i64 x9.1], [Value.int .i64 x9.2.1.1, Value.int .i64 x9.2.1.2.1.1, Value.int .i64 x9.2.1.2.1.2.1, Value.int .i64 x9.2.1.2.1.2.2.1, Value.int .i64 x9.2.1.2.1.2.2.2, Value.int .i64 x9.2.1.2.2.1, Value.int .i64 x9.2.1.2.2.2.1, Value.int .i64 x9.2.1.2.2.2.2.1, Value.int .i64 x9.2.1.2.2.2.2.2, (v4.2.2.1)], rfl, rfl, ⟨[Value.int .i64 x9.2.1.1, Value.int .i64 x9.2.1.2.1.1, Value.int .i64 x9.2.1.2.1.2.1, Value.int .i64 x9.2.1.2.1.2.2.1, Value.int .i64 x9.2.1.2.1.2.2.2, Value.int .i64 x9.2.1.2.2.1, Value.int .i64 x9.2.1.2.2.2.1, Value.int .i64 x9.2.1.2.2.2.2.1, Value.int .i64 x9.2.1.2.2.2.2.2], [(v4.2.2.1)], rfl, ⟨[Value.int .i64 x9.2.1.1], [Value.int .i64 x9.2.1.2.1.1, Value.int .i64 x9.2.1.2.1.2.1, Value.int .i64 x9.2.1.2.1.2.2.1, Value.int .i64 x9.2.1.2.1.2.2.2, Value.int .i64 x9.2.1.2.2.1, Value.int .i64 x9.2.1.2.2.2.1, Value.int .i64 x9.2.1.2.2.2.2.1, Value.int .i64 x9.2.1.2.2.2.2.2], rfl, rfl, ⟨[Value.int .i64 x9.2.1.2.1.1, Value.int .i64 x9.2.1.2.1.2.1, Value.int .i64 x9.2.1.2.1.2.2.1, Value.int .i64 x9.2.1.2.1.2.2.2], [Value.int .i64 x9.2.1.2.2.1, Value.int .i64 x9.2.1.2.2.2.1, Value.int .i64 x9.2.1.2.2.2.2.1, Value.int .i64 x9.2.1.2.2.2.2.2], rfl, ⟨[Value.int .i64 x9.2.1.2.1.1], [Value.int .i64 x9.2.1.2.1.2.1, Value.int .i64 x9.2.1.2.1.2.2.1, Value.int .i64 x9.2.1.2.1.2.2.2], rfl, rfl, ⟨[Value.int .i64 x9.2.1.2.1.2.1], [Value.int .i64 x9.2.1.2.1.2.2.1, Value.int .i64 x9.2.1.2.1.2.2.2], rfl, rfl, ⟨[Value.int .i64 x9.2.1.2.1.2.2.1], [Value.int .i64 x9.2.1.2.1.2.2.2], rfl, rfl, rfl⟩⟩⟩, ⟨[Value.int .i64 x9.2.1.2.2.1], [Value.int .i64 x9.2.1.2.2.2.1, Value.int .i64 x9.2.1.2.2.2.2.1, Value.int .i64 x9.2.1.2.2.2.2.2], rfl, rfl, ⟨[Value.int .i64 x9.2.1.2.2.2.1], [Value.int .i64 x9.2.1.2.2.2.2.1, Value.int .i64 x9.2.1.2.2.2.2.2], rfl, rfl, ⟨[Value.int .i64 x9.2.1.2.2.2.2.1], [Value.int .i64 x9.2.1.2.2.2.2.2], rfl, rfl, rfl⟩⟩⟩⟩⟩, ⟨_, rfl, (Sl.stab (F.item (i := 1) rfl) (fun b hb _ => ⟨hA b hb, rfl⟩))⟩⟩⟩) fun w F => ?_
     refine BJ tk 7 W F fun a w W F => ?_
     refine AF (Ad ?_)
     have F := F.sub (M' := []) (Z' := [row v1 37 AK (Dv x4 x5 x9)]) (List.nil_sublist _) (List.Sublist.cons_cons _ (List.nil_sublist _))
     exact ⟨_, _, H, W.ra Aa, F⟩
    refine AC (AF (Ad ?_))
    have F := F.frontZ (i := 1) Aa Aa
    have F := F.hideR A4 h2
    have F := F.sub (M' := []) (Z' := [row v1 37 AK x4]) (List.nil_sublist _) (List.Sublist.cons_cons _ (List.nil_sublist _))
    exact ⟨_, _, H, W.ra Aa, F⟩
   rintro a w ⟨x7, x8, hj, W, F⟩
   have hj := Av hj
   subst hj
   have H := K3
   clear G3 K3
   refine vc tk 5 W F fun a w W F => ?_
   refine Ad ?_
   exact ⟨_, H, W.ra Aa, F⟩
  refine Bm ?_
  iterate 2 refine BU ?_
  refine Bp (Ad ?_)
  have H := L2 _ H
  exact ⟨_, _, H, W.ra Aa, F⟩
 rintro a w ⟨x2, x3, hj, W, F⟩
 have hj := Av hj
 subst hj
 have H := K1
 clear G1 K1
 refine vc tk 4 W F fun a w W F => ?_
 obtain ⟨x12, h12, H⟩ := Af H
 refine ls W F Aa (Fi (r := AK) EL W Aa Aa Aa (AU 0 Aa) h12).q fun a w W F => ?_
 obtain ⟨x13, h13, H⟩ := Af H
 refine MI (r := AK) (v := v1) (k := 0) ((0, (0, (0, 0, 0, 0), (0, 0, 0, 0)), []) : Int × (Int × (Int × Int × Int × Int) × (Int × Int × Int × Int)) × (List (Int × Int × Int))) W F EL Kz Aa Aa Aa h12 (fun w A => ⟨[Value.int .i64 0], [Value.int .i64 0, Value.int .i64 0, Value.int .i64 0, Value.int .i64 0, Value.int .i64 0, Value.int .i64 0, Value.int .i64 0, Value.int .i64 0, Value.int .i64 0, Value.slice none 0 0], Aa, Aa, ⟨[Value.int .i64 0, Value.int .i64 0, Value.int .i64 0, Value.int .i64 0, Value.int .i64 0, Value.int .i64 0, Value.int .i64 0, Value.int .i64 0, Value.int .i64 0], [Value.slice none 0 0], Aa, ⟨[Value.int .i64 0], [Value.int .i64 0, Value.int .i64 0, Value.int .i64 0, Value.int .i64 0, Value.int .i64 0, Value.int .i64 0, Value.int .i64 0, Value.int .i64 0], Aa, Aa, ⟨[Value.int .i64 0, Value.int .i64 0, Value.int .i64 0, Value.int .i64 0], [Value.int .i64 0, Value.int .i64 0, Value.int .i64 0, Value.int .i64 0], Aa, ⟨[Value.int .i64 0], [Value.int .i64 0, Value.int .i64 0, Value.int .i64 0], Aa, Aa, ⟨[Value.int .i64 0], [Value.int .i64 0, Value.int .i64 0], Aa, Aa, ⟨[Value.int .i64 0], [Value.int .i64 0], Aa, Aa, Aa⟩⟩⟩, ⟨[Value.int .i64 0], [Value.int .i64 0, Value.int .i64 0, Value.int .i64 0], Aa, Aa, ⟨[Value.int .i64 0], [Value.int .i64 0, Value.int .i64 0], Aa, Aa, ⟨[Value.int .i64 0], [Value.int .i64 0], Aa, Aa, Aa⟩⟩⟩⟩⟩, ⟨_, Aa, Sl.nil⟩⟩⟩) h13 fun w F => ?_
 have F : Stw ⟨Y, X, w0⟩ [] [row v1 37 AK x13] w := F
 refine BJ tk 6 W F fun a w W F => ?_
 obtain ⟨x14, h14, H⟩ := Af H
 refine ls W F Aa (Fi (r := AK) EL W Aa Aa Aa (AU 0 Aa) h14).q fun a w W F => ?_
 refine BJ tk 3 W F fun a w W F => ?_
 refine Al ?_
 have H := Av H
 subst H
 refine Aw (.inl Aa) W F Aa (Ai W Aa) ?_
 have F := F.subRow (k := 0) Aa Aa h14
 exact ⟨((Cu v1 (0 : Int) x3 11)), Aa, F⟩
theorem SK : Has Try.prog 53 := BV Try.func53
noncomputable def Ba (p1c0 : Int × (Int × (Int × Int × Int × Int) × (Int × Int × Int × Int)) × (List (Int × Int × Int))) : ((List (Int × (Int × (Int × Int × Int × Int) × (Int × Int × Int × Int)) × (List (Int × Int × Int)))) × Int × Int) → Option (((List (Int × (Int × (Int × Int × Int × Int) × (Int × Int × Int × Int)) × (List (Int × Int × Int)))) × Int × Int) ⊕ ((List (Int × (Int × (Int × Int × Int × Int) × (Int × Int × Int × Int)) × (List (Int × Int × Int)))) × Int))
  | (x4, x5, x6) => (if x6 < (x4.length : Int) then ((ix x4 x6).bind fun x9 => (if (!(Cq x9 p1c0)) = true then (ix x4 x5).bind fun x10 => some ((Dv x4 x5 x9), Cc (x5 + 1)) else some (x4, x5))).bind fun (x7, x8) => some (.inl (x7, x8, Cc (x6 + 1))) else some (.inr (x4, x5)))
noncomputable def A1 (p0 : List (Int × (Int × (Int × Int × Int × Int) × (Int × Int × Int × Int)) × (List (Int × Int × Int)))) (p1c0 : Int × (Int × (Int × Int × Int × Int) × (Int × Int × Int × Int)) × (List (Int × Int × Int))) : Option (List (Int × (Int × (Int × Int × Int × Int) × (Int × Int × Int × Int)) × (List (Int × Int × Int)))) := (A6 p0 p1c0).bind fun x1 => (if x1 = (-1) then some p0 else (AX (Ba p1c0) (p0, x1, Cc (x1 + 1))).bind fun (x2, x3) => (Em x2 x3 (x2.length : Int)).bind fun x11 => (PV x2 x3 (List.replicate (x11.length) ((0, (0, (0, 0, 0, 0), (0, 0, 0, 0)), []) : Int × (Int × (Int × Int × Int × Int) × (Int × Int × Int × Int)) × (List (Int × Int × Int))))).bind fun x12 => (Em x12 0 x3).bind fun x13 => some x13)
theorem DF (Y : Nat → Prop) (X : List Nat) (w0 : World) (v1 : Value) (q_p1c0 : Nat) (v2 : Value) (p0 : List (Int × (Int × (Int × Int × Int × Int) × (Int × Int × Int × Int)) × (List (Int × Int × Int)))) (p1c0 : Int × (Int × (Int × Int × Int × Int) × (Int × Int × Int × Int)) × (List (Int × Int × Int))) (r : (List (Int × (Int × (Int × Int × Int × Int) × (Int × Int × Int × Int)) × (List (Int × Int × Int))))) (H : A1 p0 p1c0 = some r) (h_v2 : Sl w0 (NX X) Bk v2 p1c0.2.2) (a_q_p1c0 : At ⟨Y, X, w0⟩ q_p1c0 0 [.int .i64 p1c0.1, .int .i64 p1c0.2.1.1, .int .i64 p1c0.2.1.2.1.1, .int .i64 p1c0.2.1.2.1.2.1, .int .i64 p1c0.2.1.2.1.2.2.1, .int .i64 p1c0.2.1.2.1.2.2.2, .int .i64 p1c0.2.1.2.2.1, .int .i64 p1c0.2.1.2.2.2.1, .int .i64 p1c0.2.1.2.2.2.2.1, .int .i64 p1c0.2.1.2.2.2.2.2, v2]) (hL : Stw ⟨Y, X, w0⟩ [] [row v1 37 AK p0] w0) :
    Calls Try.prog 53 #[v1, .func (.func 73) #[] #[.pointer (some ⟨q_p1c0, 0, none⟩)]] w0 fun e w' => ∃ x : Value, e = .returned (x) ∧ Stw ⟨Y, X, w0⟩ [] [row (x) 37 AK r] w' := by
 refine enter Try.func53 Aa Try.ntmps53 Aa fun a W => ?_
 have F := hL
 unfold A1 at H
 refine vc tk 9 W F fun a w W F => ?_
 obtain ⟨x1, h1, H⟩ := Af H
 refine ls W F Aa (AM (v := Value.int .i64 x1) W Rw Aa (fun w F => CJ any w (v1) q_p1c0 (v2) p0 p1c0 _ h1 (Dc (AU 0 Aa) F) (Dc (An h_v2) F) (At.re a_q_p1c0 F))) fun a w W F => ?_
 refine BJ tk 10 W F fun a w W F => ?_
 refine Bi W Aa H (fun W H => ?_) fun W H => ?_
 ·
  refine vc tk 6 W F fun a w W F => ?_
  refine Al (Aq ?_)
  have H := Av H
  subst H
  refine Aw (.inl Aa) W F Aa (Ai W Aa) ?_
  exact ⟨(v1), Aa, F⟩
 refine AC (Ad ?_)
 obtain ⟨o1, G1, K1⟩ := Af H
 refine Au (fun a w => ∃ x2 : List (Int × (Int × (Int × Int × Int × Int) × (Int × Int × Int × Int)) × (List (Int × Int × Int))), ∃ x3 : Int, some ((x2, x3)) = some o1 ∧ Fr 42 [] [(0, v1), (4, .slice none 0 0), (5, .int .i64 x3)] a ∧ Stw ⟨Y, X, w0⟩ [] [row v1 37 AK x2] w) ?_ ?_
 ·
  have H := G1
  clear G1 K1
  refine vc tk 8 W F fun a w W F => ?_
  refine BA H (fun s a w => Fr 42 [] [(0, v1), (1, .func (.func 73) #[] #[.pointer (some ⟨q_p1c0, 0, none⟩)]), (4, .slice none 0 0), (5, .int .i64 s.2.1), (6, .int .i64 s.2.2)] a ∧ Stw ⟨Y, X, w0⟩ [] [row v1 37 AK s.1] w) ⟨W.ra Aa, F⟩ fun s o a w H L2 hR => ?_
  obtain ⟨x4, x5, x6⟩ := s
  obtain ⟨W, F⟩ := hR
  have W : Fr 42 [] [(0, v1), (1, .func (.func 73) #[] #[.pointer (some ⟨q_p1c0, 0, none⟩)]), (4, .slice none 0 0), (5, .int .i64 x5), (6, .int .i64 x6)] a := W
  have F : Stw ⟨Y, X, w0⟩ [] [row v1 37 AK x4] w := F
  rw [Ba] at H
  refine vc tk 5 W F fun a w W F => ?_
  refine ls W F Aa (B7 (r := AK) (l := x4) E7 Aa W Aa (AU 0 Aa)).q fun a w W F => ?_
  refine BJ tk 3 W F fun a w W F => ?_
  refine Bi W Aa H (fun W H => ?_) fun W H => ?_
  ·
   refine AC (Ad ?_)
   obtain ⟨o3, G3, K3⟩ := Af H
   refine Au (fun a w => ∃ x7 : List (Int × (Int × (Int × Int × Int × Int) × (Int × Int × Int × Int)) × (List (Int × Int × Int))), ∃ x8 : Int, some ((x7, x8)) = some o3 ∧ Fr 42 [] [(0, v1), (1, .func (.func 73) #[] #[.pointer (some ⟨q_p1c0, 0, none⟩)]), (4, .slice none 0 0), (5, .int .i64 x8), (6, .int .i64 x6)] a ∧ Stw ⟨Y, X, w0⟩ [] [row v1 37 AK x7] w) ?_ ?_
   ·
    have H := G3
    clear G3 K3
    refine vc tk 2 W F fun a w W F => ?_
    obtain ⟨v3, h2, F⟩ := F.exR A4
    refine vc tk 3 W F fun a w W F => ?_
    obtain ⟨x9, h3, H⟩ := Af H
    obtain ⟨v4, h4, h5⟩ := BX h2 h3
    have h6 : Cy v4 = [.int .i64 x9.1, .int .i64 x9.2.1.1, .int .i64 x9.2.1.2.1.1, .int .i64 x9.2.1.2.1.2.1, .int .i64 x9.2.1.2.1.2.2.1, .int .i64 x9.2.1.2.1.2.2.2, .int .i64 x9.2.1.2.2.1, .int .i64 x9.2.1.2.2.2.1, .int .i64 x9.2.1.2.2.2.2.1, .int .i64 x9.2.1.2.2.2.2.2, (v4.2.2.1)] := congrArg (fun q : Int × (Int × (Int × Int × Int × Int) × (Int × Int × Int × Int)) × (List (Int × Int × Int)) => ([.int .i64 q.1, .int .i64 q.2.1.1, .int .i64 q.2.1.2.1.1, .int .i64 q.2.1.2.1.2.1, .int .i64 q.2.1.2.1.2.2.1, .int .i64 q.2.1.2.1.2.2.2, .int .i64 q.2.1.2.2.1, .int .i64 q.2.1.2.2.2.1, .int .i64 q.2.1.2.2.2.2.1, .int .i64 q.2.1.2.2.2.2.2, (v4.2.2.1)] : List Value)) h5
    refine ls W F Aa (AR (r := C4) EL W Aa Aa (AU 0 Aa) h4).q fun a w W F => ?_
    refine ls W F Aa (AD (y := Value.agg #[.int .i64 x9.1, .int .i64 x9.2.1.1, .int .i64 x9.2.1.2.1.1, .int .i64 x9.2.1.2.1.2.1, .int .i64 x9.2.1.2.1.2.2.1, .int .i64 x9.2.1.2.1.2.2.2, .int .i64 x9.2.1.2.2.1, .int .i64 x9.2.1.2.2.2.1, .int .i64 x9.2.1.2.2.2.2.1, .int .i64 x9.2.1.2.2.2.2.2, (v4.2.2.1)]) (j := 0) (i := x6) (enc := Cy) W Aa Aa (AU 0 Aa) h4 EG EM (by rw [h6]; rfl)).q fun a w W F => ?_
    have F := F.note (F.rowAt (k := 0) Aa h4 (Ay.snd (Ay.snd Ay.here)) (congrArg (fun q : Int × (Int × (Int × Int × Int × Int) × (Int × Int × Int × Int)) × (List (Int × Int × Int)) => q.2.2) h5))
    refine Ca (cs := (Iu)) W F Aa Kz Aa fun b1 a w W F => ?_
    refine Dh 0 W F Aa Aa Aa EM Aa Aa (Ac Aa (Ac Aa (Ac Aa (Ac Aa (Ac Aa (Ac Aa (Ac Aa (Ac Aa (Ac Aa (Ac Aa (Ac (F.oneF (k := 0) Aa) Cr))))))))))) fun w F => ?_
    refine Eo tk 6 [0] W F (ai fun a w W F => ?_)
    refine ls W F Aa (Fh (ws := [.agg #[.int .i64 x9.1, .int .i64 x9.2.1.1, .int .i64 x9.2.1.2.1.1, .int .i64 x9.2.1.2.1.2.1, .int .i64 x9.2.1.2.1.2.2.1, .int .i64 x9.2.1.2.1.2.2.2, .int .i64 x9.2.1.2.2.1, .int .i64 x9.2.1.2.2.2.1, .int .i64 x9.2.1.2.2.2.2.1, .int .i64 x9.2.1.2.2.2.2.2, (v4.2.2.1)], .pointer (some ⟨q_p1c0, 0, none⟩)]) (v := Value.bool (Cq x9 p1c0)) W RX Aa (fun w F => Fe any w ((v4.2.2.1)) q_p1c0 (v2) x9 p1c0 _ Aa (Dc (D4 0 Aa) F) (Dc (An h_v2) F) (At.re a_q_p1c0 F))) fun a w W F => ?_
    refine BJ tk 3 W F fun a w W F => ?_
    refine BE W Aa H (fun W H => ?_) fun W H => ?_
    ·
     refine Fq tk 5 [0] W F (ai fun a w W F => ?_)
     obtain ⟨x10, h7, H⟩ := Af H
     obtain ⟨v5, h8, h9⟩ := BX h2 h7
     have h10 : Cy v5 = [.int .i64 x10.1, .int .i64 x10.2.1.1, .int .i64 x10.2.1.2.1.1, .int .i64 x10.2.1.2.1.2.1, .int .i64 x10.2.1.2.1.2.2.1, .int .i64 x10.2.1.2.1.2.2.2, .int .i64 x10.2.1.2.2.1, .int .i64 x10.2.1.2.2.2.1, .int .i64 x10.2.1.2.2.2.2.1, .int .i64 x10.2.1.2.2.2.2.2, (v5.2.2.1)] := congrArg (fun q : Int × (Int × (Int × Int × Int × Int) × (Int × Int × Int × Int)) × (List (Int × Int × Int)) => ([.int .i64 q.1, .int .i64 q.2.1.1, .int .i64 q.2.1.2.1.1, .int .i64 q.2.1.2.1.2.1, .int .i64 q.2.1.2.1.2.2.1, .int .i64 q.2.1.2.1.2.2.2, .int .i64 q.2.1.2.2.1, .int .i64 q.2.1.2.2.2.1, .int .i64 q.2.1.2.2.2.2.1, .int .i64 q.2.1.2.2.2.2.2, (v5.2.2.1)] : List Value)) h9
     refine ls W F Aa (AR (r := C4) EL W Aa Aa (AU 1 Aa) h8).q fun a w W F => ?_
     have F := F.frontZ (i := 1) Aa Aa
     have F := F.hideR A4 h2
     refine Fw (r := AK) (i := x5) (j := 0) (vs := [.int .i64 x9.1, .int .i64 x9.2.1.1, .int .i64 x9.2.1.2.1.1, .int .i64 x9.2.1.2.1.2.1, .int .i64 x9.2.1.2.1.2.2.1, .int .i64 x9.2.1.2.1.2.2.2, .int .i64 x9.2.1.2.2.1, .int .i64 x9.2.1.2.2.2.1, .int .i64 x9.2.1.2.2.2.2.1, .int .i64 x9.2.1.2.2.2.2.2, (v4.2.2.1)]) (x' := x9) W F rfl rfl rfl (k := 0) rfl rfl h7 EM rfl rfl rfl (Ac rfl (Ac rfl (Ac rfl (Ac rfl (Ac rfl (Ac rfl (Ac rfl (Ac rfl (Ac rfl (Ac rfl (Ac (F.oneF (k := 1) rfl) Cr))))))))))) (fun A cs hA hc => by obtain ⟨z, hz, hc⟩ := A4.to hc; have e1 := EG hc; have e2 : Cy z = [.int .i64 x10.1, .int .i64 x10.2.1.1, .int .i64 x10.2.1.2.1.1, .int .i64 x10.2.1.2.1.2.1, .int .i64 x10.2.1.2.1.2.2.1, .int .i64 x10.2.1.2.1.2.2.2, .int .i64 x10.2.1.2.2.1, .int .i64 x10.2.1.2.2.2.1, .int .i64 x10.2.1.2.2.2.2.1, .int .i64 x10.2.1.2.2.2.2.2, (z.2.2.1)] := (congrArg (fun q : Int × (Int × (Int × Int × Int × Int) × (Int × Int × Int × Int)) × (List (Int × Int × Int)) => ([.int .i64 q.1, .int .i64 q.2.1.1, .int .i64 q.2.1.2.1.1, .int .i64 q.2.1.2.1.2.1, .int .i64 q.2.1.2.1.2.2.1, .int .i64 q.2.1.2.1.2.2.2, .int .i64 q.2.1.2.2.1, .int .i64 q.2.1.2.2.2.1, .int .i64 q.2.1.2.2.2.2.1, .int .i64 q.2.1.2.2.2.2.2, (z.2.2.1)] : List Value)) hz); rw [e1, e2]; exact ⟨[Value.int .i64 x9.1], [Value.int .i64 x9.2.1.1, Value.int .i64 x9.2.1.2.1.1, Value.int .i64 x9.2.1.2.1.2.1, Value.int .i64 x9.2.1.2.1.2.2.1, Value.int .i64 x9.2.1.2.1.2.2.2, Value.int .i64 x9.2.1.2.2.1, Value.int .i64 x9.2.1.2.2.2.1, Value.int .i64 x9.2.1.2.2.2.2.1, Value.int .i64 x9.2.1.2.2.2.2.2, (v4.2.2.1)], rfl, rfl, ⟨[Value.int .i64 x9.2.1.1, Value.int .i64 x9.2.1.2.1.1, Value.int .i64 x9.2.1.2.1.2.1, Value.int .i64 x9.2.1.2.1.2.2.1, Value.int .i64 x9.2.1.2.1.2.2.2, Value.int .i64 x9.2.1.2.2.1, Value.int .i64 x9.2.1.2.2.2.1, Value.int .i64 x9.2.1.2.2.2.2.1, Value.int .i64 x9.2.1.2.2.2.2.2], [(v4.2.2.1)], rfl, ⟨[Value.int .i64 x9.2.1.1], [Value.int .i64 x9.2.1.2.1.1, Value.int .i64 x9.2.1.2.1.2.1, Value.int .i64 x9.2.1.2.1.2.2.1, Value.int .i64 x9.2.1.2.1.2.2.2, Value.int .i64 x9.2.1.2.2.1, Value.int .i64 x9.2.1.2.2.2.1, Value.int .i64 x9.2.1.2.2.2.2.1, Value.int .i64 x9.2.1.2.2.2.2.2], rfl, rfl, ⟨[Value.int .i64 x9.2.1.2.1.1, Value.int .i64 x9.2.1.2.1.2.1, Value.int .i64 x9.2.1.2.1.2.2.1, Value.int .i64 x9.2.1.2.1.2.2.2], [Value.int .i64 x9.2.1.2.2.1, Value.int .i64 x9.2.1.2.2.2.1, Value.int .i64 x9.2.1.2.2.2.2.1, Value.int .i64 x9.2.1.2.2.2.2.2], rfl, ⟨[Value.int .i64 x9.2.1.2.1.1], [Value.int .i64 x9.2.1.2.1.2.1, Value.int .i64 x9.2.1.2.1.2.2.1, Value.int .i64 x9.2.1.2.1.2.2.2], rfl, rfl, ⟨[Value.int .i64 x9.2.1.2.1.2.1], [Value.int .i64 x9.2.1.2.1.2.2.1, Value.int .i64 x9.2.1.2.1.2.2.2], rfl, rfl, ⟨[Value.int .i64 x9.2.1.2.1.2.2.1], [Value.int .i64 x9.2.1.2.1.2.2.2], rfl, rfl, rfl⟩⟩⟩, ⟨[Value.int .i64 x9.2.1.2.2.1], [Value.int .i64 x9.2.1.2.2.2.1, Value.int .i64 x9.2.1.2.2.2.2.1, Value.int .i64 x9.2.1.2.2.2.2.2], rfl, rfl, ⟨[Value.int .i64 x9.2.1.2.2.2.1], [Value.int .i64 x9.2.1.2.2.2.2.1, Value.int .i64 x9.2.1.2.2.2.2.2], rfl, rfl, ⟨[Value.int .i64 x9.2.1.2.2.2.2.1], [Value.int .i64 x9.2.1.2.2.2.2.2], rfl, rfl, rfl⟩⟩⟩⟩⟩, ⟨_, rfl, (Sl.stab (F.item (i := 1) rfl) (fun b hb _ => ⟨hA b hb, rfl⟩))⟩⟩⟩) fun w F => ?_
     refine BJ tk 7 W F fun a w W F => ?_
     refine AF (Ad ?_)
     have F := F.sub (M' := []) (Z' := [row v1 37 AK (Dv x4 x5 x9)]) (List.nil_sublist _) (List.Sublist.cons_cons _ (List.nil_sublist _))
     exact ⟨_, _, H, W.ra Aa, F⟩
    refine AC (AF (Ad ?_))
    have F := F.frontZ (i := 1) Aa Aa
    have F := F.hideR A4 h2
    have F := F.sub (M' := []) (Z' := [row v1 37 AK x4]) (List.nil_sublist _) (List.Sublist.cons_cons _ (List.nil_sublist _))
    exact ⟨_, _, H, W.ra Aa, F⟩
   rintro a w ⟨x7, x8, hj, W, F⟩
   have hj := Av hj
   subst hj
   have H := K3
   clear G3 K3
   refine vc tk 5 W F fun a w W F => ?_
   refine Ad ?_
   exact ⟨_, H, W.ra Aa, F⟩
  refine Bm ?_
  iterate 2 refine BU ?_
  refine Bp (Ad ?_)
  have H := L2 _ H
  exact ⟨_, _, H, W.ra Aa, F⟩
 rintro a w ⟨x2, x3, hj, W, F⟩
 have hj := Av hj
 subst hj
 have H := K1
 clear G1 K1
 refine vc tk 4 W F fun a w W F => ?_
 obtain ⟨x11, h11, H⟩ := Af H
 refine ls W F Aa (Fi (r := AK) EL W Aa Aa Aa (AU 0 Aa) h11).q fun a w W F => ?_
 obtain ⟨x12, h12, H⟩ := Af H
 refine MI (r := AK) (v := v1) (k := 0) ((0, (0, (0, 0, 0, 0), (0, 0, 0, 0)), []) : Int × (Int × (Int × Int × Int × Int) × (Int × Int × Int × Int)) × (List (Int × Int × Int))) W F EL Kz Aa Aa Aa h11 (fun w A => ⟨[Value.int .i64 0], [Value.int .i64 0, Value.int .i64 0, Value.int .i64 0, Value.int .i64 0, Value.int .i64 0, Value.int .i64 0, Value.int .i64 0, Value.int .i64 0, Value.int .i64 0, Value.slice none 0 0], Aa, Aa, ⟨[Value.int .i64 0, Value.int .i64 0, Value.int .i64 0, Value.int .i64 0, Value.int .i64 0, Value.int .i64 0, Value.int .i64 0, Value.int .i64 0, Value.int .i64 0], [Value.slice none 0 0], Aa, ⟨[Value.int .i64 0], [Value.int .i64 0, Value.int .i64 0, Value.int .i64 0, Value.int .i64 0, Value.int .i64 0, Value.int .i64 0, Value.int .i64 0, Value.int .i64 0], Aa, Aa, ⟨[Value.int .i64 0, Value.int .i64 0, Value.int .i64 0, Value.int .i64 0], [Value.int .i64 0, Value.int .i64 0, Value.int .i64 0, Value.int .i64 0], Aa, ⟨[Value.int .i64 0], [Value.int .i64 0, Value.int .i64 0, Value.int .i64 0], Aa, Aa, ⟨[Value.int .i64 0], [Value.int .i64 0, Value.int .i64 0], Aa, Aa, ⟨[Value.int .i64 0], [Value.int .i64 0], Aa, Aa, Aa⟩⟩⟩, ⟨[Value.int .i64 0], [Value.int .i64 0, Value.int .i64 0, Value.int .i64 0], Aa, Aa, ⟨[Value.int .i64 0], [Value.int .i64 0, Value.int .i64 0], Aa, Aa, ⟨[Value.int .i64 0], [Value.int .i64 0], Aa, Aa, Aa⟩⟩⟩⟩⟩, ⟨_, Aa, Sl.nil⟩⟩⟩) h12 fun w F => ?_
 have F : Stw ⟨Y, X, w0⟩ [] [row v1 37 AK x12] w := F
 refine BJ tk 6 W F fun a w W F => ?_
 obtain ⟨x13, h13, H⟩ := Af H
 refine ls W F Aa (Fi (r := AK) EL W Aa Aa Aa (AU 0 Aa) h13).q fun a w W F => ?_
 refine BJ tk 3 W F fun a w W F => ?_
 refine Al ?_
 have H := Av H
 subst H
 refine Aw (.inl Aa) W F Aa (Ai W Aa) ?_
 have F := F.subRow (k := 0) Aa Aa h13
 exact ⟨((Cu v1 (0 : Int) x3 11)), Aa, F⟩
end Go.Proofs.Ytfnmlmglmegamaa
