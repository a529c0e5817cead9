/- The functions of layer 12, EV. Conditions: none. -/
import Derived.Test.YtfnmlmglmegamaacA3
namespace Go.Proofs.Ytfnmlmglmegamaa
open Go Go.RowKit
set_option linter.unusedVariables false
set_option linter.unusedSimpArgs false
set_option maxRecDepth 20000
noncomputable def Bc (p0 : List (Int × (Int × (Int × Int × Int × Int) × (Int × Int × Int × Int)) × (List (Int × Int × Int)))) (p1 : Int) (p2 : List (Int × (Int × (Int × Int × Int × Int) × (Int × Int × Int × Int)) × (List (Int × Int × Int)))) : Option (List (Int × (Int × (Int × Int × Int × Int) × (Int × Int × Int × Int)) × (List (Int × Int × Int)))) := (DP p0 p1 (p0.length : Int)).bind fun x1 => (if (p2.length : Int) = 0 then some p0 else (if p1 = (p0.length : Int) then (PP p0.length (p0.length + p2.length)).bind fun x2 => (Jb p0 p2).bind fun x3 => some x3 else (if ((p0.length : Nat) : Int) < (Cs ((p0.length : Int) + (p2.length : Int))) then (DP p0 0 p1).bind fun x4 => (mk (Cs ((Cs ((p0.length : Int) + (p2.length : Int))) - p1)) ((0, (0, (0, 0, 0, 0), (0, 0, 0, 0)), []) : Int × (Int × (Int × Int × Int × Int) × (Int × Int × Int × Int)) × (List (Int × Int × Int)))).bind fun x5 => (PP p0.length (x4.length + (Cs ((Cs ((p0.length : Int) + (p2.length : Int))) - p1)).toNat)).bind fun x6 => (Jb x4 x5).bind fun x7 => (DP x7 p1 (x7.length : Int)).bind fun x8 => (DP (HT x7 p1 (min p2.length x8.length) p2) (Cs (p1 + (p2.length : Int))) ((HT x7 p1 (min p2.length x8.length) p2).length : Int)).bind fun x9 => (DP p0 p1 (p0.length : Int)).bind fun x10 => some (HT (HT x7 p1 (min p2.length x8.length) p2) (Cs (p1 + (p2.length : Int))) (min x10.length x9.length) x10) else none)))
theorem DL (Y : Nat → Prop) (w0 : World) (v1 : Value) (v2 : Value) (p0 : List (Int × (Int × (Int × Int × Int × Int) × (Int × Int × Int × Int)) × (List (Int × Int × Int)))) (p1 : Int) (p2 : List (Int × (Int × (Int × Int × Int × Int) × (Int × Int × Int × Int)) × (List (Int × Int × Int)))) (r : (List (Int × (Int × (Int × Int × Int × Int) × (Int × Int × Int × Int)) × (List (Int × Int × Int))))) (H : Bc p0 p1 p2 = some r) (s_v1 : Sl w0 Y A5 v1 p0) (c_v1 : HP v1 p0.length) (s_v2 : Sl w0 Y A5 v2 p2) :
    Calls Try.prog 70 #[v1, .int .i64 p1, v2] w0 fun e w' => ∃ x : Value, e = .returned (x) ∧ Stw ⟨Y, [], w0⟩ [] [BD (x) A5 r] w' := by
 refine enter Try.func70 Aa Try.ntmps70 Aa fun a W => ?_
 have F := Stw.start Y w0
 obtain ⟨v3, h1, s_v1⟩ := s_v1.ex BH
 obtain ⟨v4, h2, s_v2⟩ := s_v2.ex BH
 have h_v1 := F.nx s_v1
 have h_v2 := F.nx s_v2
 unfold Bc at H
 refine vc tk 9 W F fun a w W F => ?_
 obtain ⟨x1, h3, H⟩ := Ah H
 obtain ⟨v5, h4, h5⟩ := GS h1 h3
 refine ls W F Aa (ED (r := A5) FQ W Aa Aa Aa (A6 BH h1 (Aj h_v1)) h3).q fun a w W F => ?_
 refine BV tk 5 W F fun a w W F => ?_
 refine ls W F Aa (BQ (r := A5) (l := p2) E2 Aa W Aa (A6 BH h2 (Aj h_v2))).q fun a w W F => ?_
 refine BV tk 10 W F fun a w W F => ?_
 refine Br W Aa H (fun W H => ?_) fun W H => ?_
 ·
  refine vc tk 6 W F fun a w W F => ?_
  refine Al (Ap ?_)
  have H := Aw H
  subst H
  refine Aq (.inl Aa) W F Aa (Ak W Aa) ?_
  have F := F.note (Sl.hide BH h1 (F.old s_v1))
  exact ⟨(v1), Aa, F⟩
 refine E8 tk 5 W F fun a w W F => ?_
 refine ls W F Aa (BQ (r := A5) (l := p0) E2 Aa W Aa (A6 BH h1 (Aj h_v1))).q fun a w W F => ?_
 refine BV tk 11 W F fun a w W F => ?_
 refine Br W Aa H (fun W H => ?_) fun W H => ?_
 ·
  refine vc tk 4 W F fun a w W F => ?_
  obtain ⟨x2, h6, H⟩ := Ah H
  obtain ⟨x3, h7, H⟩ := Ah H
  refine L9 (r := A5) W F Aa FQ Aa Aa (GP.hide BH h1 (FX F s_v1)) (MH c_v1 (MN h6)) (GP.hide BH h2 (FX F s_v2)) h7 Aa fun v6 a w W F => ?_
  have F : Stw ⟨Y, [], w0⟩ [] [row v6 37 A5 x3] w := F
  refine BV tk 3 W F fun a w W F => ?_
  refine Al (Ap ?_)
  have H := Aw H
  subst H
  refine Aq (.inl Aa) W F Aa (Ak W Aa) ?_
  have F := F.freeze
  exact ⟨(v6), Aa, F⟩
 refine E8 tk 9 W F fun a w W F => ?_
 refine ls W F Aa (PR E2 Aa W Aa c_v1).q fun a w W F => ?_
 refine BV tk 3 W F fun a w W F => ?_
 refine Br W Aa H (fun W H => ?_) fun W H => ?_
 ·
  refine vc tk 4 W F fun a w W F => ?_
  obtain ⟨x4, h8, H⟩ := Ah H
  obtain ⟨v7, h9, h10⟩ := GS h1 h8
  refine ls W F Aa (ED (r := A5) FQ W Aa Aa Aa (A6 BH h1 (Aj h_v1)) h8).q fun a w W F => ?_
  refine vl tk 5 W F fun a w W F => ?_
  obtain ⟨x5, h11, H⟩ := Ah H
  obtain ⟨x6, h12, H⟩ := Ah H
  obtain ⟨x7, h13, H⟩ := Ah H
  refine LU (r := A5) ((0, (0, (0, 0, 0, 0), (0, 0, 0, 0)), []) : Int × (Int × (Int × Int × Int × Int) × (Int × Int × Int × Int)) × (List (Int × Int × Int))) W F Aa FQ Mx PM Aa Aa (GP.sub (GP.hide BH h1 (FX F s_v1)) h8) (MJ c_v1 (MN h12)) (fun w A => ⟨[Value.int .i64 0], [Value.int .i64 0, Value.int .i64 0, Value.int .i64 0, Value.int .i64 0, Value.int .i64 0, Value.int .i64 0, Value.int .i64 0, Value.int .i64 0, Value.int .i64 0, Value.slice none 0 0], Aa, Aa, ⟨[Value.int .i64 0, Value.int .i64 0, Value.int .i64 0, Value.int .i64 0, Value.int .i64 0, Value.int .i64 0, Value.int .i64 0, Value.int .i64 0, Value.int .i64 0], [Value.slice none 0 0], Aa, ⟨[Value.int .i64 0], [Value.int .i64 0, Value.int .i64 0, Value.int .i64 0, Value.int .i64 0, Value.int .i64 0, Value.int .i64 0, Value.int .i64 0, Value.int .i64 0], Aa, Aa, ⟨[Value.int .i64 0, Value.int .i64 0, Value.int .i64 0, Value.int .i64 0], [Value.int .i64 0, Value.int .i64 0, Value.int .i64 0, Value.int .i64 0], Aa, ⟨[Value.int .i64 0], [Value.int .i64 0, Value.int .i64 0, Value.int .i64 0], Aa, Aa, ⟨[Value.int .i64 0], [Value.int .i64 0, Value.int .i64 0], Aa, Aa, ⟨[Value.int .i64 0], [Value.int .i64 0], Aa, Aa, Aa⟩⟩⟩, ⟨[Value.int .i64 0], [Value.int .i64 0, Value.int .i64 0, Value.int .i64 0], Aa, Aa, ⟨[Value.int .i64 0], [Value.int .i64 0, Value.int .i64 0], Aa, Aa, ⟨[Value.int .i64 0], [Value.int .i64 0], Aa, Aa, Aa⟩⟩⟩⟩⟩, ⟨_, Aa, Sl.nil⟩⟩⟩) h11 h13 Aa fun v8 a w W F => ?_
  have F : Stw ⟨Y, [], w0⟩ [] [row v8 37 A5 x7] w := F
  refine BV tk 7 W F fun a w W F => ?_
  obtain ⟨x8, h14, H⟩ := Ah H
  refine ls W F Aa (ED (r := A5) FQ W Aa Aa Aa (A4 0 Aa) h14).q fun a w W F => ?_
  refine ls W F Aa (Am W Aa).q fun a w W F => ?_
  refine Ll (r := A5) (v := v8) (k := 0) W F Aa FQ Aa Aa Aa Aa h14 (GP.hide BH h2 (FX F s_v2)) fun a w W F => ?_
  have F : Stw ⟨Y, [], w0⟩ [] [row v8 37 A5 (HT x7 p1 (min p2.length x8.length) p2)] w := F
  refine BV tk 3 W F fun a w W F => ?_
  refine Gn 8 F MO (by kernel_rfl) ?_
  iterate 3 refine qs W Aa (Am W Aa).q fun a W => ?_
  refine qs W Aa (ON W Aa Aa Aa).q fun a W => ?_
  obtain ⟨x9, h15, H⟩ := Ah H
  refine qs W Aa (ED (r := A5) FQ W Aa Aa Aa (A4 0 Aa) h15).q fun a W => ?_
  iterate 2 refine qs W Aa (Am W Aa).q fun a W => ?_
  obtain ⟨x10, h16, H⟩ := Ah H
  obtain ⟨v9, h17, h18⟩ := GS h1 h16
  refine qs W Aa (ED (r := A5) FQ W Aa Aa Aa (A6 BH h1 (Aj h_v1)) h16).q fun a W => ?_
  refine AM fun w F => ?_
  refine Ll (r := A5) (v := v8) (k := 0) W F Aa FQ Aa Aa Aa Aa h15 (GP.sub (GP.hide BH h1 (FX F s_v1)) h16) fun a w W F => ?_
  have F : Stw ⟨Y, [], w0⟩ [] [row v8 37 A5 (HT (HT x7 p1 (min p2.length x8.length) p2) (Cs (p1 + (p2.length : Int))) (min x10.length x9.length) x10)] w := F
  refine BV tk 8 W F fun a w W F => ?_
  refine Al (Ap ?_)
  have H := Aw H
  subst H
  refine Aq (.inl Aa) W F Aa (Ak W Aa) ?_
  have F := F.freeze
  exact ⟨(v8), Aa, F⟩
 exact nomatch H
theorem RN : Has Try.prog 70 := B3 Try.func70
abbrev Qm (a0 : Nat) (a1 : Int × (Int × (Int × (Int × Int × Int × Int) × (Int × Int × Int × Int)) × (List (Int × Int × Int))) × Bool) (a2 : Value) (a3 : Bool) : List (Nat × List Value) := [(a0, [.int .i64 a1.1, .int .i64 a1.2.1.1, .int .i64 a1.2.1.2.1.1, .int .i64 a1.2.1.2.1.2.1.1, .int .i64 a1.2.1.2.1.2.1.2.1, .int .i64 a1.2.1.2.1.2.1.2.2.1, .int .i64 a1.2.1.2.1.2.1.2.2.2, .int .i64 a1.2.1.2.1.2.2.1, .int .i64 a1.2.1.2.1.2.2.2.1, .int .i64 a1.2.1.2.1.2.2.2.2.1, .int .i64 a1.2.1.2.1.2.2.2.2.2, a2, .bool a3])]
abbrev LK (a0 : Nat) (a1 : Int × (Int × (Int × (Int × Int × Int × Int) × (Int × Int × Int × Int)) × (List (Int × Int × Int))) × Bool) (a2 : Value) (a3 : Nat) (a4 : Value) (a5 : Bool) : List (Nat × List Value) := [(a0, [.int .i64 ((Ab a1.2.1).1), .int .i64 ((Ab a1.2.1).2.1.1), .int .i64 ((Ab a1.2.1).2.1.2.1.1), .int .i64 ((Ab a1.2.1).2.1.2.1.2.1), .int .i64 ((Ab a1.2.1).2.1.2.1.2.2.1), .int .i64 ((Ab a1.2.1).2.1.2.1.2.2.2), .int .i64 ((Ab a1.2.1).2.1.2.2.1), .int .i64 ((Ab a1.2.1).2.1.2.2.2.1), .int .i64 ((Ab a1.2.1).2.1.2.2.2.2.1), .int .i64 ((Ab a1.2.1).2.1.2.2.2.2.2), a2]), (a3, [.int .i64 a1.1, .int .i64 a1.2.1.1, .int .i64 a1.2.1.2.1.1, .int .i64 a1.2.1.2.1.2.1.1, .int .i64 a1.2.1.2.1.2.1.2.1, .int .i64 a1.2.1.2.1.2.1.2.2.1, .int .i64 a1.2.1.2.1.2.1.2.2.2, .int .i64 a1.2.1.2.1.2.2.1, .int .i64 a1.2.1.2.1.2.2.2.1, .int .i64 a1.2.1.2.1.2.2.2.2.1, .int .i64 a1.2.1.2.1.2.2.2.2.2, a4, .bool a5])]
abbrev Lv (a0 : Int × (Int × (Int × (Int × Int × Int × Int) × (Int × Int × Int × Int)) × (List (Int × Int × Int))) × Bool) (a1 : Value) (a2 : Bool) : List Value := [.int .i64 a0.1, .int .i64 a0.2.1.1, .int .i64 a0.2.1.2.1.1, .int .i64 a0.2.1.2.1.2.1.1, .int .i64 a0.2.1.2.1.2.1.2.1, .int .i64 a0.2.1.2.1.2.1.2.2.1, .int .i64 a0.2.1.2.1.2.1.2.2.2, .int .i64 a0.2.1.2.1.2.2.1, .int .i64 a0.2.1.2.1.2.2.2.1, .int .i64 a0.2.1.2.1.2.2.2.2.1, .int .i64 a0.2.1.2.1.2.2.2.2.2, a1, .bool a2]
abbrev OT (a0 : Nat) (a1 : Int × (Int × (Int × (Int × Int × Int × Int) × (Int × Int × Int × Int)) × (List (Int × Int × Int))) × Bool) (a2 : Value) (a3 : Nat) (a4 : Value) (a5 : Nat) (a6 : Value) (a7 : Bool) : List (Nat × List Value) := [(a0, [.int .i64 ((Ab a1.2.1).1), .int .i64 ((Ab a1.2.1).2.1.1), .int .i64 ((Ab a1.2.1).2.1.2.1.1), .int .i64 ((Ab a1.2.1).2.1.2.1.2.1), .int .i64 ((Ab a1.2.1).2.1.2.1.2.2.1), .int .i64 ((Ab a1.2.1).2.1.2.1.2.2.2), .int .i64 ((Ab a1.2.1).2.1.2.2.1), .int .i64 ((Ab a1.2.1).2.1.2.2.2.1), .int .i64 ((Ab a1.2.1).2.1.2.2.2.2.1), .int .i64 ((Ab a1.2.1).2.1.2.2.2.2.2), a2]), (a3, [.int .i64 ((Ab a1.2.1).1), .int .i64 ((Ab a1.2.1).2.1.1), .int .i64 ((Ab a1.2.1).2.1.2.1.1), .int .i64 ((Ab a1.2.1).2.1.2.1.2.1), .int .i64 ((Ab a1.2.1).2.1.2.1.2.2.1), .int .i64 ((Ab a1.2.1).2.1.2.1.2.2.2), .int .i64 ((Ab a1.2.1).2.1.2.2.1), .int .i64 ((Ab a1.2.1).2.1.2.2.2.1), .int .i64 ((Ab a1.2.1).2.1.2.2.2.2.1), .int .i64 ((Ab a1.2.1).2.1.2.2.2.2.2), a4]), (a5, [.int .i64 a1.1, .int .i64 a1.2.1.1, .int .i64 a1.2.1.2.1.1, .int .i64 a1.2.1.2.1.2.1.1, .int .i64 a1.2.1.2.1.2.1.2.1, .int .i64 a1.2.1.2.1.2.1.2.2.1, .int .i64 a1.2.1.2.1.2.1.2.2.2, .int .i64 a1.2.1.2.1.2.2.1, .int .i64 a1.2.1.2.1.2.2.2.1, .int .i64 a1.2.1.2.1.2.2.2.2.1, .int .i64 a1.2.1.2.1.2.2.2.2.2, a6, .bool a7])]
noncomputable def Fw (p0 : List (Int × (Int × (Int × Int × Int × Int) × (Int × Int × Int × Int)) × (List (Int × Int × Int)))) (p1 : Int × (Int × (Int × (Int × Int × Int × Int) × (Int × Int × Int × Int)) × (List (Int × Int × Int))) × Bool) (p2 : Int) : Option ((List (Int × (Int × (Int × Int × Int × Int) × (Int × Int × Int × Int)) × (List (Int × Int × Int)))) × Int) := (if p1.2.2 = true then (AO p0 (p1.1, p1.2.1, true)).bind fun x3 => some (x3, true) else some (false, false)).bind fun (x1, x2) => (if x1 = true then some (p0, 14) else (Ao p0 ((Ab p1.2.1).1, ((Ab p1.2.1).2.1.1, ((Ab p1.2.1).2.1.2.1.1, (Ab p1.2.1).2.1.2.1.2.1, (Ab p1.2.1).2.1.2.1.2.2.1, (Ab p1.2.1).2.1.2.1.2.2.2), ((Ab p1.2.1).2.1.2.2.1, (Ab p1.2.1).2.1.2.2.2.1, (Ab p1.2.1).2.1.2.2.2.2.1, (Ab p1.2.1).2.1.2.2.2.2.2)), (Ab p1.2.1).2.2)).bind fun x4 => (if x4 = true then (Cu p0 p1.2.1 ((Ab p1.2.1).1, ((Ab p1.2.1).2.1.1, ((Ab p1.2.1).2.1.2.1.1, (Ab p1.2.1).2.1.2.1.2.1, (Ab p1.2.1).2.1.2.1.2.2.1, (Ab p1.2.1).2.1.2.1.2.2.2), ((Ab p1.2.1).2.1.2.2.1, (Ab p1.2.1).2.1.2.2.2.1, (Ab p1.2.1).2.1.2.2.2.2.1, (Ab p1.2.1).2.1.2.2.2.2.2)), (Ab p1.2.1).2.2)).bind fun x5 => some (x5, 0) else (if p2 ≤ (p0.length : Int) then some (p0, 6) else (AS p0 (p1.1, p1.2.1, x2)).bind fun x6 => (if x6 < 0 then some (p0.length : Int) else some x6).bind fun x7 => (BP p1.2.1).bind fun x8 => (Bc p0 x7 ([x8] : List (Int × (Int × (Int × Int × Int × Int) × (Int × Int × Int × Int)) × (List (Int × Int × Int))))).bind fun x9 => some (x9, 0))))
theorem KB (Y : Nat → Prop) (X : List Nat) (w0 : World) (v1 : Value) (v2 : Value) (p0 : List (Int × (Int × (Int × Int × Int × Int) × (Int × Int × Int × Int)) × (List (Int × Int × Int)))) (p1 : Int × (Int × (Int × (Int × Int × Int × Int) × (Int × Int × Int × Int)) × (List (Int × Int × Int))) × Bool) (p2 : Int) (r : (List (Int × (Int × (Int × Int × Int × Int) × (Int × Int × Int × Int)) × (List (Int × Int × Int)))) × Int) (H : Fw p0 p1 p2 = some r) (c_v1 : HP v1 p0.length) (s_v2 : Sl w0 Y Bl v2 p1.2.1.2.2) (hL : Stw ⟨Y, X, w0⟩ [] [row v1 37 A5 p0] w0) :
    Calls Try.prog 48 #[v1, .agg #[.int .i64 p1.1, .int .i64 p1.2.1.1, .int .i64 p1.2.1.2.1.1, .int .i64 p1.2.1.2.1.2.1.1, .int .i64 p1.2.1.2.1.2.1.2.1, .int .i64 p1.2.1.2.1.2.1.2.2.1, .int .i64 p1.2.1.2.1.2.1.2.2.2, .int .i64 p1.2.1.2.1.2.2.1, .int .i64 p1.2.1.2.1.2.2.2.1, .int .i64 p1.2.1.2.1.2.2.2.2.1, .int .i64 p1.2.1.2.1.2.2.2.2.2, v2, .bool p1.2.2], .int .i64 p2] w0 fun e w' => ∃ x : Value, e = .returned (.tuple #[x, .int .i64 r.2]) ∧ Stw ⟨Y, X, w0⟩ [] [BD (x) A5 r.1] w' := by
 refine enter Try.func48 Aa Try.ntmps48 Aa fun a W => ?_
 have F := hL
 have h_v2 := F.nx s_v2
 unfold Fw at H
 refine vc tk 2 W F fun a w W F => ?_
 refine B1 (cs := [.int .i64 p1.1, .int .i64 p1.2.1.1, .int .i64 p1.2.1.2.1.1, .int .i64 p1.2.1.2.1.2.1.1, .int .i64 p1.2.1.2.1.2.1.2.1, .int .i64 p1.2.1.2.1.2.1.2.2.1, .int .i64 p1.2.1.2.1.2.1.2.2.2, .int .i64 p1.2.1.2.1.2.2.1, .int .i64 p1.2.1.2.1.2.2.2.1, .int .i64 p1.2.1.2.1.2.2.2.2.1, .int .i64 p1.2.1.2.1.2.2.2.2.2, v2, .bool p1.2.2]) W F Aa Aa Aa fun b1 a w W F => ?_
 refine BV tk 5 W F fun a w W F => ?_
 obtain ⟨o1, G1, K1⟩ := Ah H
 refine AC (fun a w => ∃ x1 : Bool, ∃ x2 : Bool, some ((x1, x2)) = some o1 ∧ Fr 48 [] [(0, v1), (2, .int .i64 p2), (4, .pointer (some ⟨b1, 0, none⟩)), (6, .slice none 0 0), (7, .int .i64 0), (15, .bool x1)] a ∧ Stw ⟨Y, X, w0⟩ (Qm b1 p1 v2 x2) [row v1 37 A5 p0] w) ?_ ?_
 ·
  have H := G1
  clear G1 K1
  refine Gh tk 4 [0] W F (ai fun a w W F => ?_)
  rcases Bool.eq_false_or_eq_true p1.2.2 with hb | hb
  ·
   have H := BW hb H
   rw [hb] at W
   rw [hb] at F
   clear hb
   refine EC W F (Ag W Aa Aa Aa Aa) Aa (Ax Aa) (Am W Aa).q fun a w W F => ?_
   refine EC W F (Ag W Aa Aa Aa Aa) Aa (Ax Aa) (FN (us := []) (vs := [.pointer (some ⟨b1, 0, none⟩)]) W Aa Aa).q fun a w W F => ?_
   refine Fg (Ag W Aa Aa Aa Aa) ?_
   obtain ⟨x3, h1, H⟩ := Ah H
   refine ls W F Aa (AU (v := Value.bool x3) W Qs Aa (fun w F => Di any w (v1) b1 (v2) p0 (p1.1, p1.2.1, true) _ h1 (CY (A4 0 Aa) F) (CY (Aj h_v2) F) (NH F 0 Aa))) fun a w W F => ?_
   refine vl tk 2 W F fun a w W F => ?_
   refine Ad ?_
   exact ⟨_, _, H, W.ra Aa, F⟩
  have H := BX (by rw [hb]; decide) H
  rw [hb] at W
  rw [hb] at F
  clear hb
  refine vl tk 5 W F fun a w W F => ?_
  refine Ad ?_
  exact ⟨_, _, H, W.ra Aa, F⟩
 rintro a w ⟨x1, x2, hj, W, F⟩
 have hj := Aw hj
 subst hj
 have H := K1
 clear G1 K1
 refine B8 W Aa H (fun W H => ?_) fun W H => ?_
 ·
  refine vc tk 7 W F fun a w W F => ?_
  refine Al (Ap ?_)
  have H := Aw H
  subst H
  refine DN (.inl Aa) W F Aa (Ak W Aa) (Ak W Aa) ?_
  have F := F.freeze
  have F := F.sub (M' := []) (Z' := [BD v1 A5 p0]) (List.nil_sublist _) (List.Sublist.refl _)
  exact ⟨(v1), Aa, F⟩
 refine NF tk 8 [0] W F (ai fun a w W F => ?_)
 refine AB (Ml := []) (Zl := []) (β := Nat × Value) (rv := fun x => .func (.func 73) #[] #[.pointer (some ⟨x.1, 0, none⟩)]) (MM := fun x => [(x.1, [.int .i64 ((Ab p1.2.1).1), .int .i64 ((Ab p1.2.1).2.1.1), .int .i64 ((Ab p1.2.1).2.1.2.1.1), .int .i64 ((Ab p1.2.1).2.1.2.1.2.1), .int .i64 ((Ab p1.2.1).2.1.2.1.2.2.1), .int .i64 ((Ab p1.2.1).2.1.2.1.2.2.2), .int .i64 ((Ab p1.2.1).2.1.2.2.1), .int .i64 ((Ab p1.2.1).2.1.2.2.2.1), .int .i64 ((Ab p1.2.1).2.1.2.2.2.2.1), .int .i64 ((Ab p1.2.1).2.1.2.2.2.2.2), x.2])]) (ZZ := fun x => [BD x.2 Bl ((Ab p1.2.1).2.2)]) W F PI Aa Aa (fun hL => Dd _ w (v2) p1.2.1 _ Aa (F.old s_v2)) fun x a w W F => ?_
 obtain ⟨b2, v3⟩ := x
 have F : Stw ⟨Y, X, w0⟩ (LK b2 p1 v3 b1 v2 x2) [BD v3 Bl ((Ab p1.2.1).2.2), row v1 37 A5 p0] w := F
 obtain ⟨x4, h2, H⟩ := Ah H
 refine ls W F Aa (AU (v := Value.bool x4) W Qs Aa (fun w F => BB any w (v1) b2 (v3) p0 ((Ab p1.2.1).1, ((Ab p1.2.1).2.1.1, ((Ab p1.2.1).2.1.2.1.1, (Ab p1.2.1).2.1.2.1.2.1, (Ab p1.2.1).2.1.2.1.2.2.1, (Ab p1.2.1).2.1.2.1.2.2.2), ((Ab p1.2.1).2.1.2.2.1, (Ab p1.2.1).2.1.2.2.2.1, (Ab p1.2.1).2.1.2.2.2.2.1, (Ab p1.2.1).2.1.2.2.2.2.2)), (Ab p1.2.1).2.2) _ h2 (CY (A4 1 Aa) F) (CY (Ds 0 Aa) F) (NH F 0 Aa))) fun a w W F => ?_
 refine BV tk 2 W F fun a w W F => ?_
 refine B8 W Aa H (fun W H => ?_) fun W H => ?_
 ·
  refine HJ ?_
  refine ER [(true, 0), (true, 1), (true, 2), (true, 3), (true, 4), (false, 5), (false, 6), (false, 7), (false, 8)] (CN ⟨Y, X, w0⟩ [(some 6, b1, [.int .i64 p1.1, .int .i64 p1.2.1.1, .int .i64 p1.2.1.2.1.1, .int .i64 p1.2.1.2.1.2.1.1, .int .i64 p1.2.1.2.1.2.1.2.1, .int .i64 p1.2.1.2.1.2.1.2.2.1, .int .i64 p1.2.1.2.1.2.1.2.2.2, .int .i64 p1.2.1.2.1.2.2.1, .int .i64 p1.2.1.2.1.2.2.2.1, .int .i64 p1.2.1.2.1.2.2.2.2.1, .int .i64 p1.2.1.2.1.2.2.2.2.2, v2, .bool x2]), (some 5, b1, [.int .i64 p1.1, .int .i64 p1.2.1.1, .int .i64 p1.2.1.2.1.1, .int .i64 p1.2.1.2.1.2.1.1, .int .i64 p1.2.1.2.1.2.1.2.1, .int .i64 p1.2.1.2.1.2.1.2.2.1, .int .i64 p1.2.1.2.1.2.1.2.2.2, .int .i64 p1.2.1.2.1.2.2.1, .int .i64 p1.2.1.2.1.2.2.2.1, .int .i64 p1.2.1.2.1.2.2.2.2.1, .int .i64 p1.2.1.2.1.2.2.2.2.2, v2, .bool x2])] []) (fun ch a d v w h => by cases d <;> exact h) MO (by kernel_rfl) F (fun w F => ⟨_, _, F, (all_cons (fun _ => (.tail _ (.head _))) (all_cons (fun _ => (.tail _ (.head _))) As)), As⟩) fun w F => ?_
  refine CZ (R := []) W Aa Aa (yC fun M Z hN hZ => Am W Aa) Aa Aa fun a W => ?_
  refine CZ (R := []) W Aa Aa (yC fun M Z hN hZ => An KQ Aa Aa Aa Fk W Aa 1 Aa) Aa Aa fun a W => ?_
  refine CZ (R := [6]) W Aa Aa (yC fun M Z hN hZ => DC (cs := (Lv p1 v2 x2)) (v := Value.agg #[.int .i64 p1.2.1.1, .int .i64 p1.2.1.2.1.1, .int .i64 p1.2.1.2.1.2.1.1, .int .i64 p1.2.1.2.1.2.1.2.1, .int .i64 p1.2.1.2.1.2.1.2.2.1, .int .i64 p1.2.1.2.1.2.1.2.2.2, .int .i64 p1.2.1.2.1.2.2.1, .int .i64 p1.2.1.2.1.2.2.2.1, .int .i64 p1.2.1.2.1.2.2.2.2.1, .int .i64 p1.2.1.2.1.2.2.2.2.2, v2]) W Aa (hN ((some 6), b1, (Lv p1 v2 x2)) (.head _) Aa) Fk Aa) (by kernel_rfl) Aa fun a W => ?_
  refine CZ (R := []) W Aa Aa (yC fun M Z hN hZ => An KQ Aa Aa Aa Fk W Aa 1 Aa) Aa Aa fun a W => ?_
  refine CZ (R := [5]) W Aa Aa (yC fun M Z hN hZ => DC (cs := (Lv p1 v2 x2)) (v := Value.agg #[.int .i64 p1.2.1.1, .int .i64 p1.2.1.2.1.1, .int .i64 p1.2.1.2.1.2.1.1, .int .i64 p1.2.1.2.1.2.1.2.1, .int .i64 p1.2.1.2.1.2.1.2.2.1, .int .i64 p1.2.1.2.1.2.1.2.2.2, .int .i64 p1.2.1.2.1.2.2.1, .int .i64 p1.2.1.2.1.2.2.2.1, .int .i64 p1.2.1.2.1.2.2.2.2.1, .int .i64 p1.2.1.2.1.2.2.2.2.2, v2]) W Aa (hN ((some 5), b1, (Lv p1 v2 x2)) (.tail _ (.head _)) Aa) Fk Aa) (by kernel_rfl) Aa fun a W => ?_
  refine En Aa ?_
  refine AB (Ml := []) (Zl := []) (β := Nat × Value) (rv := fun x => .func (.func 73) #[] #[.pointer (some ⟨x.1, 0, none⟩)]) (MM := fun x => [(x.1, [.int .i64 ((Ab p1.2.1).1), .int .i64 ((Ab p1.2.1).2.1.1), .int .i64 ((Ab p1.2.1).2.1.2.1.1), .int .i64 ((Ab p1.2.1).2.1.2.1.2.1), .int .i64 ((Ab p1.2.1).2.1.2.1.2.2.1), .int .i64 ((Ab p1.2.1).2.1.2.1.2.2.2), .int .i64 ((Ab p1.2.1).2.1.2.2.1), .int .i64 ((Ab p1.2.1).2.1.2.2.2.1), .int .i64 ((Ab p1.2.1).2.1.2.2.2.2.1), .int .i64 ((Ab p1.2.1).2.1.2.2.2.2.2), x.2])]) (ZZ := fun x => [BD x.2 Bl ((Ab p1.2.1).2.2)]) W F PI Aa Aa (fun hL => Dd _ w (v2) p1.2.1 _ Aa (F.old s_v2)) fun x a w W F => ?_
  obtain ⟨b3, v4⟩ := x
  have F : Stw ⟨Y, X, w0⟩ (OT b3 p1 v4 b2 v3 b1 v2 x2) [BD v4 Bl ((Ab p1.2.1).2.2), BD v3 Bl ((Ab p1.2.1).2.2), row v1 37 A5 p0] w := F
  refine BS (N2 := []) (NZ2 := []) (N3 := [(some 6, b1, [.int .i64 p1.1, .int .i64 p1.2.1.1, .int .i64 p1.2.1.2.1.1, .int .i64 p1.2.1.2.1.2.1.1, .int .i64 p1.2.1.2.1.2.1.2.1, .int .i64 p1.2.1.2.1.2.1.2.2.1, .int .i64 p1.2.1.2.1.2.1.2.2.2, .int .i64 p1.2.1.2.1.2.2.1, .int .i64 p1.2.1.2.1.2.2.2.1, .int .i64 p1.2.1.2.1.2.2.2.2.1, .int .i64 p1.2.1.2.1.2.2.2.2.2, v2, .bool x2]), (some 5, b1, [.int .i64 p1.1, .int .i64 p1.2.1.1, .int .i64 p1.2.1.2.1.1, .int .i64 p1.2.1.2.1.2.1.1, .int .i64 p1.2.1.2.1.2.1.2.1, .int .i64 p1.2.1.2.1.2.1.2.2.1, .int .i64 p1.2.1.2.1.2.1.2.2.2, .int .i64 p1.2.1.2.1.2.2.1, .int .i64 p1.2.1.2.1.2.2.2.1, .int .i64 p1.2.1.2.1.2.2.2.2.1, .int .i64 p1.2.1.2.1.2.2.2.2.2, v2, .bool x2])]) (NZ3 := []) F Aa Aa (all_cons (fun _ => (.tail _ (.tail _ (.head _)))) (all_cons (fun h => AG (by kernel_rfl) h) As)) As ?_
  refine En Aa ?_
  obtain ⟨x5, h3, H⟩ := Ah H
  have F := F.frontZ (i := 2) Aa Aa
  refine AB (Ml := []) (Zl := [row v1 37 A5 p0]) (β := Value) (rv := fun x => x) (MM := fun x => []) (ZZ := fun x => [row x 37 A5 x5]) W F Q3 Aa Aa (fun hL => F0 _ _ w (v1) (v2) b3 (v4) p0 p1.2.1 ((Ab p1.2.1).1, ((Ab p1.2.1).2.1.1, ((Ab p1.2.1).2.1.2.1.1, (Ab p1.2.1).2.1.2.1.2.1, (Ab p1.2.1).2.1.2.1.2.2.1, (Ab p1.2.1).2.1.2.1.2.2.2), ((Ab p1.2.1).2.1.2.2.1, (Ab p1.2.1).2.1.2.2.2.1, (Ab p1.2.1).2.1.2.2.2.2.1, (Ab p1.2.1).2.1.2.2.2.2.2)), (Ab p1.2.1).2.2) _ h3 (F.old s_v2) (Sl.nxF (F.item (i := 1) Aa) (fun g hg => GR hg)) (J0 (Ml := []) (Zl := [row v1 37 A5 p0]) F 0 Aa) hL) fun x a w W F => ?_
  obtain ⟨v5, rfl⟩ : ∃ y, y = x := ⟨x, rfl⟩
  have F : Stw ⟨Y, X, w0⟩ (OT b3 p1 v4 b2 v3 b1 v2 x2) [row v5 37 A5 x5, BD v4 Bl ((Ab p1.2.1).2.2), BD v3 Bl ((Ab p1.2.1).2.2)] w := F
  refine BS (N2 := []) (NZ2 := []) (N3 := [(some 6, b1, [.int .i64 p1.1, .int .i64 p1.2.1.1, .int .i64 p1.2.1.2.1.1, .int .i64 p1.2.1.2.1.2.1.1, .int .i64 p1.2.1.2.1.2.1.2.1, .int .i64 p1.2.1.2.1.2.1.2.2.1, .int .i64 p1.2.1.2.1.2.1.2.2.2, .int .i64 p1.2.1.2.1.2.2.1, .int .i64 p1.2.1.2.1.2.2.2.1, .int .i64 p1.2.1.2.1.2.2.2.2.1, .int .i64 p1.2.1.2.1.2.2.2.2.2, v2, .bool x2]), (some 5, b1, [.int .i64 p1.1, .int .i64 p1.2.1.1, .int .i64 p1.2.1.2.1.1, .int .i64 p1.2.1.2.1.2.1.1, .int .i64 p1.2.1.2.1.2.1.2.1, .int .i64 p1.2.1.2.1.2.1.2.2.1, .int .i64 p1.2.1.2.1.2.1.2.2.2, .int .i64 p1.2.1.2.1.2.2.1, .int .i64 p1.2.1.2.1.2.2.2.1, .int .i64 p1.2.1.2.1.2.2.2.2.1, .int .i64 p1.2.1.2.1.2.2.2.2.2, v2, .bool x2])]) (NZ3 := []) F Aa Aa (all_cons (fun h => AG (by kernel_rfl) h) (all_cons (fun h => AG (by kernel_rfl) h) As)) As ?_
  refine En Aa ?_
  refine ls W F Aa (BK W Aa).q fun a w W F => ?_
  refine BS (N2 := []) (NZ2 := []) (N3 := [(some 6, b1, [.int .i64 p1.1, .int .i64 p1.2.1.1, .int .i64 p1.2.1.2.1.1, .int .i64 p1.2.1.2.1.2.1.1, .int .i64 p1.2.1.2.1.2.1.2.1, .int .i64 p1.2.1.2.1.2.1.2.2.1, .int .i64 p1.2.1.2.1.2.1.2.2.2, .int .i64 p1.2.1.2.1.2.2.1, .int .i64 p1.2.1.2.1.2.2.2.1, .int .i64 p1.2.1.2.1.2.2.2.2.1, .int .i64 p1.2.1.2.1.2.2.2.2.2, v2, .bool x2]), (some 5, b1, [.int .i64 p1.1, .int .i64 p1.2.1.1, .int .i64 p1.2.1.2.1.1, .int .i64 p1.2.1.2.1.2.1.1, .int .i64 p1.2.1.2.1.2.1.2.1, .int .i64 p1.2.1.2.1.2.1.2.2.1, .int .i64 p1.2.1.2.1.2.1.2.2.2, .int .i64 p1.2.1.2.1.2.2.1, .int .i64 p1.2.1.2.1.2.2.2.1, .int .i64 p1.2.1.2.1.2.2.2.2.1, .int .i64 p1.2.1.2.1.2.2.2.2.2, v2, .bool x2])]) (NZ3 := []) F Aa Aa (all_cons (fun h => AG (by kernel_rfl) h) (all_cons (fun h => AG (by kernel_rfl) h) As)) As ?_
  refine En Aa ?_
  refine ls W F Aa (BK W Aa).q fun a w W F => ?_
  refine BS (N2 := []) (NZ2 := []) (N3 := [(some 6, b1, [.int .i64 p1.1, .int .i64 p1.2.1.1, .int .i64 p1.2.1.2.1.1, .int .i64 p1.2.1.2.1.2.1.1, .int .i64 p1.2.1.2.1.2.1.2.1, .int .i64 p1.2.1.2.1.2.1.2.2.1, .int .i64 p1.2.1.2.1.2.1.2.2.2, .int .i64 p1.2.1.2.1.2.2.1, .int .i64 p1.2.1.2.1.2.2.2.1, .int .i64 p1.2.1.2.1.2.2.2.2.1, .int .i64 p1.2.1.2.1.2.2.2.2.2, v2, .bool x2]), (some 5, b1, [.int .i64 p1.1, .int .i64 p1.2.1.1, .int .i64 p1.2.1.2.1.1, .int .i64 p1.2.1.2.1.2.1.1, .int .i64 p1.2.1.2.1.2.1.2.1, .int .i64 p1.2.1.2.1.2.1.2.2.1, .int .i64 p1.2.1.2.1.2.1.2.2.2, .int .i64 p1.2.1.2.1.2.2.1, .int .i64 p1.2.1.2.1.2.2.2.1, .int .i64 p1.2.1.2.1.2.2.2.2.1, .int .i64 p1.2.1.2.1.2.2.2.2.2, v2, .bool x2])]) (NZ3 := []) F Aa Aa (all_cons (fun h => AG (by kernel_rfl) h) (all_cons (fun h => AG (by kernel_rfl) h) As)) As ?_
  refine GI (Ad (Al (Ap ?_)))
  have H := Aw H
  subst H
  refine DN (.inl Aa) W F Aa (Ak W Aa) (Ak W Aa) ?_
  have F := F.freeze
  have F := F.sub (M' := []) (Z' := [BD v5 A5 x5]) (List.nil_sublist _) (List.Sublist.cons_cons _ (List.nil_sublist _))
  exact ⟨(v5), Aa, F⟩
 refine E8 tk 6 W F fun a w W F => ?_
 refine ls W F Aa (BQ (r := A5) (l := p0) E2 Aa W Aa (A4 1 Aa)).q fun a w W F => ?_
 refine BV tk 4 W F fun a w W F => ?_
 refine Br W Aa H (fun W H => ?_) fun W H => ?_
 ·
  refine vc tk 7 W F fun a w W F => ?_
  refine Al (Ap ?_)
  have H := Aw H
  subst H
  refine DN (.inl Aa) W F Aa (Ak W Aa) (Ak W Aa) ?_
  have F := F.frontZ (i := 1) Aa Aa
  have F := F.freeze
  have F := F.sub (M' := []) (Z' := [BD v1 A5 p0]) (List.nil_sublist _) (List.Sublist.cons_cons _ (List.nil_sublist _))
  exact ⟨(v1), Aa, F⟩
 refine E8 tk 5 W F fun a w W F => ?_
 refine ls W F Aa (FN (us := []) (vs := [.pointer (some ⟨b1, 0, none⟩)]) W Aa Aa).q fun a w W F => ?_
 obtain ⟨x6, h4, H⟩ := Ah H
 refine ls W F Aa (AU (v := Value.int .i64 x6) W P7 Aa (fun w F => Do any w (v1) b1 (v2) p0 (p1.1, p1.2.1, x2) _ h4 (CY (A4 1 Aa) F) (CY (Aj h_v2) F) (NH F 1 Aa))) fun a w W F => ?_
 refine vl tk 2 W F fun a w W F => ?_
 refine Ad ?_
 obtain ⟨o2, G2, K2⟩ := Ah H
 refine AC (fun a w => ∃ x7 : Int, some (x7) = some o2 ∧ Fr 48 [] [(0, v1), (4, .pointer (some ⟨b1, 0, none⟩)), (6, .slice none 0 0), (7, .int .i64 0), (8, .int .i64 x7)] a ∧ Stw ⟨Y, X, w0⟩ (LK b2 p1 v3 b1 v2 x2) [row v1 37 A5 p0, BD v3 Bl ((Ab p1.2.1).2.2)] w) ?_ ?_
 ·
  have H := G2
  clear G2 K2
  refine vc tk 6 W F fun a w W F => ?_
  refine Br W Aa H (fun W H => ?_) fun W H => ?_
  ·
   refine vc tk 2 W F fun a w W F => ?_
   refine ls W F Aa (BQ (r := A5) (l := p0) E2 Aa W Aa (A4 1 Aa)).q fun a w W F => ?_
   refine vl tk 2 W F fun a w W F => ?_
   refine Ad ?_
   have F := F.frontZ (i := 1) Aa Aa
   have F := F.frontM (i := 1) Aa Aa
   have F := F.frontM (i := 1) Aa Aa
   exact ⟨_, H, W.ra Aa, F⟩
  refine AH (Ad ?_)
  have F := F.frontZ (i := 1) Aa Aa
  have F := F.frontM (i := 1) Aa Aa
  have F := F.frontM (i := 1) Aa Aa
  exact ⟨_, H, W.ra Aa, F⟩
 rintro a w ⟨x7, hj, W, F⟩
 have hj := Aw hj
 subst hj
 have H := K2
 clear G2 K2
 refine Gh tk 6 [1] W F (ai fun a w W F => ?_)
 obtain ⟨x8, h5, H⟩ := Ah H
 refine AB (Ml := []) (Zl := []) (β := Value) (rv := fun x => .agg #[.int .i64 x8.1, .int .i64 x8.2.1.1, .int .i64 x8.2.1.2.1.1, .int .i64 x8.2.1.2.1.2.1, .int .i64 x8.2.1.2.1.2.2.1, .int .i64 x8.2.1.2.1.2.2.2, .int .i64 x8.2.1.2.2.1, .int .i64 x8.2.1.2.2.2.1, .int .i64 x8.2.1.2.2.2.2.1, .int .i64 x8.2.1.2.2.2.2.2, x]) (MM := fun x => []) (ZZ := fun x => [row x 88 Bl x8.2.2]) W F Qq Aa Aa (fun hL => C3 _ w (v2) p1.2.1 _ h5 (F.old s_v2)) fun x a w W F => ?_
 obtain ⟨v6, rfl⟩ : ∃ y, y = x := ⟨x, rfl⟩
 have F : Stw ⟨Y, X, w0⟩ (LK b2 p1 v3 b1 v2 x2) [row v6 88 Bl x8.2.2, row v1 37 A5 p0, BD v3 Bl ((Ab p1.2.1).2.2)] w := F
 have F := F.freeze
 refine LP (z := Value.agg #[.int .i64 0, .int .i64 0, .int .i64 0, .int .i64 0, .int .i64 0, .int .i64 0, .int .i64 0, .int .i64 0, .int .i64 0, .int .i64 0, .slice none 0 0]) (cs := (OL x8 v6)) A5 ([x8] : List (Int × (Int × (Int × Int × Int × Int) × (Int × Int × Int × Int)) × (List (Int × Int × Int)))) W F Aa FQ Mx Aa Aa Aa (CU Aa Aa Aa FH) Aa Aa ⟨[Value.int .i64 x8.1, Value.int .i64 x8.2.1.1, Value.int .i64 x8.2.1.2.1.1, Value.int .i64 x8.2.1.2.1.2.1, Value.int .i64 x8.2.1.2.1.2.2.1, Value.int .i64 x8.2.1.2.1.2.2.2, Value.int .i64 x8.2.1.2.2.1, Value.int .i64 x8.2.1.2.2.2.1, Value.int .i64 x8.2.1.2.2.2.2.1, Value.int .i64 x8.2.1.2.2.2.2.2, v6], _, Aa, ⟨[Value.int .i64 x8.1], [Value.int .i64 x8.2.1.1, Value.int .i64 x8.2.1.2.1.1, Value.int .i64 x8.2.1.2.1.2.1, Value.int .i64 x8.2.1.2.1.2.2.1, Value.int .i64 x8.2.1.2.1.2.2.2, Value.int .i64 x8.2.1.2.2.1, Value.int .i64 x8.2.1.2.2.2.1, Value.int .i64 x8.2.1.2.2.2.2.1, Value.int .i64 x8.2.1.2.2.2.2.2, v6], Aa, Aa, ⟨[Value.int .i64 x8.2.1.1, Value.int .i64 x8.2.1.2.1.1, Value.int .i64 x8.2.1.2.1.2.1, Value.int .i64 x8.2.1.2.1.2.2.1, Value.int .i64 x8.2.1.2.1.2.2.2, Value.int .i64 x8.2.1.2.2.1, Value.int .i64 x8.2.1.2.2.2.1, Value.int .i64 x8.2.1.2.2.2.2.1, Value.int .i64 x8.2.1.2.2.2.2.2], [v6], Aa, ⟨[Value.int .i64 x8.2.1.1], [Value.int .i64 x8.2.1.2.1.1, Value.int .i64 x8.2.1.2.1.2.1, Value.int .i64 x8.2.1.2.1.2.2.1, Value.int .i64 x8.2.1.2.1.2.2.2, Value.int .i64 x8.2.1.2.2.1, Value.int .i64 x8.2.1.2.2.2.1, Value.int .i64 x8.2.1.2.2.2.2.1, Value.int .i64 x8.2.1.2.2.2.2.2], Aa, Aa, ⟨[Value.int .i64 x8.2.1.2.1.1, Value.int .i64 x8.2.1.2.1.2.1, Value.int .i64 x8.2.1.2.1.2.2.1, Value.int .i64 x8.2.1.2.1.2.2.2], [Value.int .i64 x8.2.1.2.2.1, Value.int .i64 x8.2.1.2.2.2.1, Value.int .i64 x8.2.1.2.2.2.2.1, Value.int .i64 x8.2.1.2.2.2.2.2], Aa, ⟨[Value.int .i64 x8.2.1.2.1.1], [Value.int .i64 x8.2.1.2.1.2.1, Value.int .i64 x8.2.1.2.1.2.2.1, Value.int .i64 x8.2.1.2.1.2.2.2], Aa, Aa, ⟨[Value.int .i64 x8.2.1.2.1.2.1], [Value.int .i64 x8.2.1.2.1.2.2.1, Value.int .i64 x8.2.1.2.1.2.2.2], Aa, Aa, ⟨[Value.int .i64 x8.2.1.2.1.2.2.1], [Value.int .i64 x8.2.1.2.1.2.2.2], Aa, Aa, Aa⟩⟩⟩, ⟨[Value.int .i64 x8.2.1.2.2.1], [Value.int .i64 x8.2.1.2.2.2.1, Value.int .i64 x8.2.1.2.2.2.2.1, Value.int .i64 x8.2.1.2.2.2.2.2], Aa, Aa, ⟨[Value.int .i64 x8.2.1.2.2.2.1], [Value.int .i64 x8.2.1.2.2.2.2.1, Value.int .i64 x8.2.1.2.2.2.2.2], Aa, Aa, ⟨[Value.int .i64 x8.2.1.2.2.2.2.1], [Value.int .i64 x8.2.1.2.2.2.2.2], Aa, Aa, Aa⟩⟩⟩⟩⟩, ⟨_, Aa, (F.item (i := 0) Aa)⟩⟩⟩, Aa⟩ fun v7 a w W F => ?_
 obtain ⟨x9, h6, H⟩ := Ah H
 have F := F.frontZ (i := 2) Aa Aa
 have F := F.freeze
 have F := F.frontZ (i := 1) Aa Aa
 have F := F.freeze
 refine AB (Ml := []) (Zl := []) (β := Value) (rv := fun x => x) (MM := fun x => []) (ZZ := fun x => [BD x A5 x9]) W F RN Aa Aa (fun hL => DL _ w (v1) (v7) p0 x7 ([x8] : List (Int × (Int × (Int × Int × Int × Int) × (Int × Int × Int × Int)) × (List (Int × Int × Int)))) _ h6 (F.item (i := 1) Aa) c_v1 (F.item (i := 0) Aa)) fun x a w W F => ?_
 obtain ⟨v8, rfl⟩ : ∃ y, y = x := ⟨x, rfl⟩
 have F : Stw ⟨Y, X, w0⟩ (LK b2 p1 v3 b1 v2 x2) [BD v8 A5 x9, BD v7 A5 ([x8] : List (Int × (Int × (Int × Int × Int × Int) × (Int × Int × Int × Int)) × (List (Int × Int × Int)))), BD v1 A5 p0, BD v6 Bl x8.2.2, BD v3 Bl ((Ab p1.2.1).2.2)] w := F
 refine BV tk 4 W F fun a w W F => ?_
 refine Al ?_
 have H := Aw H
 subst H
 refine DN (.inl Aa) W F Aa (Ak W Aa) (Ak W Aa) ?_
 have F := F.sub (M' := []) (Z' := [BD v8 A5 x9]) (List.nil_sublist _) (List.Sublist.cons_cons _ (List.nil_sublist _))
 exact ⟨(v8), Aa, F⟩
theorem RE : Has Try.prog 48 := B3 Try.func48
def Ae (p0 : Int × (Int × (Int × Int × Int × Int) × (Int × Int × Int × Int)) × (List (Int × Int × Int))) : (Int × (Int × (Int × Int × Int × Int) × (Int × Int × Int × Int)) × (List (Int × Int × Int))) := p0
theorem Gk (Y : Nat → Prop) (w0 : World) (v1 : Value) (p0 : Int × (Int × (Int × Int × Int × Int) × (Int × Int × Int × Int)) × (List (Int × Int × Int))) (r : (Int × (Int × (Int × Int × Int × Int) × (Int × Int × Int × Int)) × (List (Int × Int × Int)))) (H : Ae p0 = r) (s_v1 : Sl w0 Y Bl v1 p0.2.2) :
    Calls Try.prog 50 #[.agg #[.int .i64 p0.1, .int .i64 p0.2.1.1, .int .i64 p0.2.1.2.1.1, .int .i64 p0.2.1.2.1.2.1, .int .i64 p0.2.1.2.1.2.2.1, .int .i64 p0.2.1.2.1.2.2.2, .int .i64 p0.2.1.2.2.1, .int .i64 p0.2.1.2.2.2.1, .int .i64 p0.2.1.2.2.2.2.1, .int .i64 p0.2.1.2.2.2.2.2, v1]] w0 fun e w' => ∃ x : Nat × Value, e = .returned (.func (.func 71) #[] #[.pointer (some ⟨x.1, 0, none⟩)]) ∧ Stw ⟨Y, [], w0⟩ [(x.1, [.int .i64 r.1, .int .i64 r.2.1.1, .int .i64 r.2.1.2.1.1, .int .i64 r.2.1.2.1.2.1, .int .i64 r.2.1.2.1.2.2.1, .int .i64 r.2.1.2.1.2.2.2, .int .i64 r.2.1.2.2.1, .int .i64 r.2.1.2.2.2.1, .int .i64 r.2.1.2.2.2.2.1, .int .i64 r.2.1.2.2.2.2.2, x.2])] [BD (x.2) Bl r.2.2] w' := by
 refine enter Try.func50 Aa Try.ntmps50 Aa fun a W => ?_
 have F := Stw.start Y w0
 have h_v1 := F.nx s_v1
 unfold Ae at H
 refine vc tk 2 W F fun a w W F => ?_
 refine B1 (cs := (Ed p0 v1)) W F Aa Aa Aa fun b1 a w W F => ?_
 refine BV tk 5 W F fun a w W F => ?_
 refine ls W F Aa (FN (us := []) (vs := [.pointer (some ⟨b1, 0, none⟩)]) W Aa Aa).q fun a w W F => ?_
 refine BV tk 3 W F fun a w W F => ?_
 refine Al ?_
 subst H
 refine Aq (.inl Aa) W F Aa (Ak W Aa) ?_
 have F := F.note (F.old s_v1)
 exact ⟨(b1, (v1)), Aa, F⟩
theorem Rw : Has Try.prog 50 := B3 Try.func50
noncomputable def DX (p0 : Int × (Int × Int × Int × Int) × (Int × Int × Int × Int)) (p1 : Int × (Int × Int × Int × Int) × (Int × Int × Int × Int)) : Option Bool := (D8 p0 p1).bind fun x1 => some (x1.2 && decide (x1.1.1 = p0.1 ∧ x1.1.2.1.1 = p0.2.1.1 ∧ x1.1.2.1.2.1 = p0.2.1.2.1 ∧ x1.1.2.1.2.2.1 = p0.2.1.2.2.1 ∧ x1.1.2.1.2.2.2 = p0.2.1.2.2.2 ∧ x1.1.2.2.1 = p0.2.2.1 ∧ x1.1.2.2.2.1 = p0.2.2.2.1 ∧ x1.1.2.2.2.2.1 = p0.2.2.2.2.1 ∧ x1.1.2.2.2.2.2 = p0.2.2.2.2.2))
theorem Il (Y : Nat → Prop) (w0 : World)  (p0 : Int × (Int × Int × Int × Int) × (Int × Int × Int × Int)) (p1 : Int × (Int × Int × Int × Int) × (Int × Int × Int × Int)) (r : Bool) (H : DX p0 p1 = some r)  :
    Calls Try.prog 72 #[.agg #[.int .i64 p0.1, .int .i64 p0.2.1.1, .int .i64 p0.2.1.2.1, .int .i64 p0.2.1.2.2.1, .int .i64 p0.2.1.2.2.2, .int .i64 p0.2.2.1, .int .i64 p0.2.2.2.1, .int .i64 p0.2.2.2.2.1, .int .i64 p0.2.2.2.2.2], .agg #[.int .i64 p1.1, .int .i64 p1.2.1.1, .int .i64 p1.2.1.2.1, .int .i64 p1.2.1.2.2.1, .int .i64 p1.2.1.2.2.2, .int .i64 p1.2.2.1, .int .i64 p1.2.2.2.1, .int .i64 p1.2.2.2.2.1, .int .i64 p1.2.2.2.2.2]] w0 fun e w' => e = .returned (.bool r) ∧ Below w0.heap.size w0 w' := by
 refine enter Try.func72 Aa Try.ntmps72 Aa fun a W => ?_
 have F := Stw.start Y w0
 unfold DX at H
 refine vc tk 2 W F fun a w W F => ?_
 refine B1 (cs := (NB p0)) W F Aa Aa Aa fun b1 a w W F => ?_
 refine B1 (cs := [.int .i64 p1.1, .int .i64 p1.2.1.1, .int .i64 p1.2.1.2.1, .int .i64 p1.2.1.2.2.1, .int .i64 p1.2.1.2.2.2, .int .i64 p1.2.2.1, .int .i64 p1.2.2.2.1, .int .i64 p1.2.2.2.2.1, .int .i64 p1.2.2.2.2.2]) W F Aa Aa Aa fun b2 a w W F => ?_
 refine EY tk 7 [1, 0] W F (ai (ai fun a w W F => ?_))
 obtain ⟨x1, h1, H⟩ := Ah H
 refine ls W F Aa (AU (v := Value.tuple #[.agg #[.int .i64 x1.1.1, .int .i64 x1.1.2.1.1, .int .i64 x1.1.2.1.2.1, .int .i64 x1.1.2.1.2.2.1, .int .i64 x1.1.2.1.2.2.2, .int .i64 x1.1.2.2.1, .int .i64 x1.1.2.2.2.1, .int .i64 x1.1.2.2.2.2.1, .int .i64 x1.1.2.2.2.2.2], .bool x1.2]) W Re Aa (fun w F => Hf any w p0 p1 _ h1)) fun a w W F => ?_
 refine ls W F Aa (Am W Aa).q fun a w W F => ?_
 refine ls W F Aa (BE (v := Value.agg #[.int .i64 x1.1.1, .int .i64 x1.1.2.1.1, .int .i64 x1.1.2.1.2.1, .int .i64 x1.1.2.1.2.2.1, .int .i64 x1.1.2.1.2.2.2, .int .i64 x1.1.2.2.1, .int .i64 x1.1.2.2.2.1, .int .i64 x1.1.2.2.2.2.1, .int .i64 x1.1.2.2.2.2.2]) W Aa Aa).q fun a w W F => ?_
 refine ls W F Aa (BE (v := Value.bool x1.2) W Aa Aa).q fun a w W F => ?_
 refine Cn (cs := (GM)) W F Aa PH Aa fun b3 a w W F => ?_
 refine EJ 0 W F Aa Aa Aa KD Aa Aa Aa fun w F => ?_
 refine BV tk 3 W F fun a w W F => ?_
 refine AC (fun a w => Fr 19 [] [(4, .bool (x1.2 && decide (x1.1.1 = p0.1 ∧ x1.1.2.1.1 = p0.2.1.1 ∧ x1.1.2.1.2.1 = p0.2.1.2.1 ∧ x1.1.2.1.2.2.1 = p0.2.1.2.2.1 ∧ x1.1.2.1.2.2.2 = p0.2.1.2.2.2 ∧ x1.1.2.2.1 = p0.2.2.1 ∧ x1.1.2.2.2.1 = p0.2.2.2.1 ∧ x1.1.2.2.2.2.1 = p0.2.2.2.2.1 ∧ x1.1.2.2.2.2.2 = p0.2.2.2.2.2)))] a ∧ Stw ⟨Y, [], w0⟩ [(b3, [.int .i64 x1.1.1, .int .i64 x1.1.2.1.1, .int .i64 x1.1.2.1.2.1, .int .i64 x1.1.2.1.2.2.1, .int .i64 x1.1.2.1.2.2.2, .int .i64 x1.1.2.2.1, .int .i64 x1.1.2.2.2.1, .int .i64 x1.1.2.2.2.2.1, .int .i64 x1.1.2.2.2.2.2]), (b2, [.int .i64 p1.1, .int .i64 p1.2.1.1, .int .i64 p1.2.1.2.1, .int .i64 p1.2.1.2.2.1, .int .i64 p1.2.1.2.2.2, .int .i64 p1.2.2.1, .int .i64 p1.2.2.2.1, .int .i64 p1.2.2.2.2.1, .int .i64 p1.2.2.2.2.2]), (b1, (NB p0))] [] w) ?_ ?_
 ·
  refine vc tk 3 W F fun a w W F => ?_
  rcases Bool.eq_false_or_eq_true x1.2 with hb0 | hb0
  ·
   rw [hb0] at W
   refine GY tk 2 [0, 2] W F (ai (ai fun a w W F => ?_))
   refine EC W F (Ag W Aa Aa Aa Aa) Aa (Ax Aa) (Lg (t := decide (x1.1.1 = p0.1 ∧ x1.1.2.1.1 = p0.2.1.1 ∧ x1.1.2.1.2.1 = p0.2.1.2.1 ∧ x1.1.2.1.2.2.1 = p0.2.1.2.2.1 ∧ x1.1.2.1.2.2.2 = p0.2.1.2.2.2 ∧ x1.1.2.2.1 = p0.2.2.1 ∧ x1.1.2.2.2.1 = p0.2.2.2.1 ∧ x1.1.2.2.2.2.1 = p0.2.2.2.2.1 ∧ x1.1.2.2.2.2.2 = p0.2.2.2.2.2)) Qf (Ql _ _ _ _ _ _ _ _ _ _ _ _ _ _ _ _ _ _) W Aa Aa).q fun a w W F => ?_
   refine vl tk 3 W F fun a w W F => ?_
   refine Ad ?_
   exact ⟨W.re ⟨(F6 (by try rw [hb0]; all_goals simp only [F7])), trivial⟩, F⟩
  rw [hb0] at W
  refine vl tk 6 W F fun a w W F => ?_
  refine Ad ?_
  exact ⟨W.re ⟨(F6 (by try rw [hb0]; all_goals simp only [F7])), trivial⟩, F⟩
 rintro a w ⟨W, F⟩
 refine Al ?_
 have H := Aw H
 subst H
 refine Aq (.inl Aa) W F Aa (Ak W Aa) ?_
 exact ⟨rfl, F.done⟩
theorem R1 : Has Try.prog 72 := B3 Try.func72
noncomputable def Cz (p0 : Int × (Int × (Int × Int × Int × Int) × (Int × Int × Int × Int)) × (List (Int × Int × Int))) (p1 : Int × (Int × (Int × Int × Int × Int) × (Int × Int × Int × Int)) × (List (Int × Int × Int))) : Option Bool := (DX p0.2.1 p1.2.1).bind fun x1 => some x1
theorem Eb (Y : Nat → Prop) (w0 : World) (v1 : Value) (q_p1 : Nat) (v2 : Value) (p0 : Int × (Int × (Int × Int × Int × Int) × (Int × Int × Int × Int)) × (List (Int × Int × Int))) (p1 : Int × (Int × (Int × Int × Int × Int) × (Int × Int × Int × Int)) × (List (Int × Int × Int))) (r : Bool) (H : Cz p0 p1 = some r) (h_v1 : Sl w0 (NX []) Bl v1 p0.2.2) (h_v2 : Sl w0 (NX []) Bl v2 p1.2.2) (a_q_p1 : At ⟨Y, [], w0⟩ q_p1 0 [.int .i64 p1.1, .int .i64 p1.2.1.1, .int .i64 p1.2.1.2.1.1, .int .i64 p1.2.1.2.1.2.1, .int .i64 p1.2.1.2.1.2.2.1, .int .i64 p1.2.1.2.1.2.2.2, .int .i64 p1.2.1.2.2.1, .int .i64 p1.2.1.2.2.2.1, .int .i64 p1.2.1.2.2.2.2.1, .int .i64 p1.2.1.2.2.2.2.2, v2]) :
    Calls Try.prog 71 #[.agg #[.int .i64 p0.1, .int .i64 p0.2.1.1, .int .i64 p0.2.1.2.1.1, .int .i64 p0.2.1.2.1.2.1, .int .i64 p0.2.1.2.1.2.2.1, .int .i64 p0.2.1.2.1.2.2.2, .int .i64 p0.2.1.2.2.1, .int .i64 p0.2.1.2.2.2.1, .int .i64 p0.2.1.2.2.2.2.1, .int .i64 p0.2.1.2.2.2.2.2, v1], .pointer (some ⟨q_p1, 0, none⟩)] w0 fun e w' => e = .returned (.bool r) ∧ Below w0.heap.size w0 w' := by
 refine enter Try.func71 Aa Try.ntmps71 Aa fun a W => ?_
 have F := Stw.start Y w0
 unfold Cz at H
 refine vc tk 2 W F fun a w W F => ?_
 refine B1 (cs := (Ed p0 v1)) W F Aa Aa Aa fun b1 a w W F => ?_
 refine EY tk 8 [0] W F (ai fun a w W F => ?_)
 refine ls W F Aa (GA (y := Value.agg #[.int .i64 p1.2.1.1, .int .i64 p1.2.1.2.1.1, .int .i64 p1.2.1.2.1.2.1, .int .i64 p1.2.1.2.1.2.2.1, .int .i64 p1.2.1.2.1.2.2.2, .int .i64 p1.2.1.2.2.1, .int .i64 p1.2.1.2.2.2.1, .int .i64 p1.2.1.2.2.2.2.1, .int .i64 p1.2.1.2.2.2.2.2]) (j := 1) W Aa (Nat.zero_add _).symm a_q_p1 KD Aa).q fun a w W F => ?_
 obtain ⟨x1, h1, H⟩ := Ah H
 refine ls W F Aa (AU (v := Value.bool x1) W R1 Aa (fun w F => Il any w p0.2.1 p1.2.1 _ h1)) fun a w W F => ?_
 refine BV tk 3 W F fun a w W F => ?_
 refine Al ?_
 have H := Aw H
 subst H
 refine Aq (.inl Aa) W F Aa (Ak W Aa) ?_
 exact ⟨rfl, F.done⟩
theorem QA : Has Try.prog 71 := B3 Try.func71
noncomputable def C1 (p0 : List (Int × (Int × (Int × Int × Int × Int) × (Int × Int × Int × Int)) × (List (Int × Int × Int)))) (p1 : Int × (Int × (Int × Int × Int × Int) × (Int × Int × Int × Int)) × (List (Int × Int × Int))) (p2c0 : Int × (Int × (Int × Int × Int × Int) × (Int × Int × Int × Int)) × (List (Int × Int × Int))) : ((List (Int × (Int × (Int × Int × Int × Int) × (Int × Int × Int × Int)) × (List (Int × Int × Int)))) × Int) → Option (((List (Int × (Int × (Int × Int × Int × Int) × (Int × Int × Int × Int)) × (List (Int × Int × Int)))) × Int) ⊕ (List (Int × (Int × (Int × Int × Int × Int) × (Int × Int × Int × Int)) × (List (Int × Int × Int)))))
  | (x2, x3) => (if x3 < (p0.length : Int) then ((ix x2 x3).bind fun x5 => (Cz x5 p2c0).bind fun x6 => (if x6 = true then (BP p1).bind fun x7 => (ix x2 x3).bind fun x8 => some (C9 x2 x3 (x8.1, x8.2.1, x7.2.2)) else some x2)).bind fun x4 => some (.inl (x4, Cs (x3 + 1))) else some (.inr x2))
noncomputable def CE (p0 : List (Int × (Int × (Int × Int × Int × Int) × (Int × Int × Int × Int)) × (List (Int × Int × Int)))) (p1 : Int × (Int × (Int × Int × Int × Int) × (Int × Int × Int × Int)) × (List (Int × Int × Int))) (p2c0 : Int × (Int × (Int × Int × Int × Int) × (Int × Int × Int × Int)) × (List (Int × Int × Int))) : Option (List (Int × (Int × (Int × Int × Int × Int) × (Int × Int × Int × Int)) × (List (Int × Int × Int)))) := (AJ (C1 p0 p1 p2c0) (p0, 0)).bind fun x1 => some x1
theorem Hl (Y : Nat → Prop) (X : List Nat) (w0 : World) (v1 : Value) (v2 : Value) (q_p2c0 : Nat) (v3 : Value) (p0 : List (Int × (Int × (Int × Int × Int × Int) × (Int × Int × Int × Int)) × (List (Int × Int × Int)))) (p1 : Int × (Int × (Int × Int × Int × Int) × (Int × Int × Int × Int)) × (List (Int × Int × Int))) (p2c0 : Int × (Int × (Int × Int × Int × Int) × (Int × Int × Int × Int)) × (List (Int × Int × Int))) (r : (List (Int × (Int × (Int × Int × Int × Int) × (Int × Int × Int × Int)) × (List (Int × Int × Int))))) (H : CE p0 p1 p2c0 = some r) (s_v2 : Sl w0 Y Bl v2 p1.2.2) (h_v3 : Sl w0 (NX X) Bl v3 p2c0.2.2) (a_q_p2c0 : At ⟨Y, X, w0⟩ q_p2c0 0 [.int .i64 p2c0.1, .int .i64 p2c0.2.1.1, .int .i64 p2c0.2.1.2.1.1, .int .i64 p2c0.2.1.2.1.2.1, .int .i64 p2c0.2.1.2.1.2.2.1, .int .i64 p2c0.2.1.2.1.2.2.2, .int .i64 p2c0.2.1.2.2.1, .int .i64 p2c0.2.1.2.2.2.1, .int .i64 p2c0.2.1.2.2.2.2.1, .int .i64 p2c0.2.1.2.2.2.2.2, v3]) (hL : Stw ⟨Y, X, w0⟩ [] [row v1 37 A5 p0] w0) :
    Calls Try.prog 49 #[v1, .agg #[.int .i64 p1.1, .int .i64 p1.2.1.1, .int .i64 p1.2.1.2.1.1, .int .i64 p1.2.1.2.1.2.1, .int .i64 p1.2.1.2.1.2.2.1, .int .i64 p1.2.1.2.1.2.2.2, .int .i64 p1.2.1.2.2.1, .int .i64 p1.2.1.2.2.2.1, .int .i64 p1.2.1.2.2.2.2.1, .int .i64 p1.2.1.2.2.2.2.2, v2], .func (.func 71) #[] #[.pointer (some ⟨q_p2c0, 0, none⟩)]] w0 fun e w' => ∃ x : Value, e = .returned (x) ∧ Stw ⟨Y, X, w0⟩ [] [row (x) 37 A5 r] w' := by
 refine enter Try.func49 Aa Try.ntmps49 Aa fun a W => ?_
 have F := hL
 have h_v2 := F.nx s_v2
 unfold CE at H
 refine vc tk 2 W F fun a w W F => ?_
 refine B1 (cs := (Ed p1 v2)) W F Aa Aa Aa fun b1 a w W F => ?_
 refine vl tk 2 W F fun a w W F => ?_
 refine Ad ?_
 obtain ⟨o1, G1, K1⟩ := Ah H
 refine AC (fun a w => ∃ x1 : List (Int × (Int × (Int × Int × Int × Int) × (Int × Int × Int × Int)) × (List (Int × Int × Int))), some (x1) = some o1 ∧ Fr 28 [] [(0, v1), (6, .slice none 0 0)] a ∧ Stw ⟨Y, X, w0⟩ (He b1 p1 v2) [row v1 37 A5 x1] w) ?_ ?_
 ·
  have H := G1
  clear G1 K1
  refine vc tk 3 W F fun a w W F => ?_
  refine ls W F Aa (BQ (r := A5) (l := p0) E2 Aa W Aa (A4 0 Aa)).q fun a w W F => ?_
  refine BV tk 4 W F fun a w W F => ?_
  refine BI H (fun s a w => Fr 28 [] [(0, v1), (2, .func (.func 71) #[] #[.pointer (some ⟨q_p2c0, 0, none⟩)]), (4, .pointer (some ⟨b1, 0, none⟩)), (6, .slice none 0 0), (9, v1), (10, .int .i64 (p0.length : Int)), (11, .int .i64 s.2)] a ∧ Stw ⟨Y, X, w0⟩ (He b1 p1 v2) [row v1 37 A5 s.1] w) ⟨W.ra Aa, F⟩ fun s o a w H L2 hR => ?_
  obtain ⟨x2, x3⟩ := s
  obtain ⟨W, F⟩ := hR
  have W : Fr 28 [] [(0, v1), (2, .func (.func 71) #[] #[.pointer (some ⟨q_p2c0, 0, none⟩)]), (4, .pointer (some ⟨b1, 0, none⟩)), (6, .slice none 0 0), (9, v1), (10, .int .i64 (p0.length : Int)), (11, .int .i64 x3)] a := W
  have F : Stw ⟨Y, X, w0⟩ (He b1 p1 v2) [row v1 37 A5 x2] w := F
  rw [C1] at H
  refine vc tk 6 W F fun a w W F => ?_
  refine Br W Aa H (fun W H => ?_) fun W H => ?_
  ·
   refine AH (Ad ?_)
   obtain ⟨o3, G3, K3⟩ := Ah H
   refine AC (fun a w => ∃ x4 : List (Int × (Int × (Int × Int × Int × Int) × (Int × Int × Int × Int)) × (List (Int × Int × Int))), some (x4) = some o3 ∧ Fr 28 [] [(0, v1), (2, .func (.func 71) #[] #[.pointer (some ⟨q_p2c0, 0, none⟩)]), (4, .pointer (some ⟨b1, 0, none⟩)), (6, .slice none 0 0), (9, v1), (10, .int .i64 (p0.length : Int)), (11, .int .i64 x3)] a ∧ Stw ⟨Y, X, w0⟩ (He b1 p1 v2) [row v1 37 A5 x4] w) ?_ ?_
   ·
    have H := G3
    clear G3 K3
    refine vc tk 2 W F fun a w W F => ?_
    obtain ⟨v4, h1, F⟩ := F.exR BH
    refine vc tk 2 W F fun a w W F => ?_
    obtain ⟨x5, h2, H⟩ := Ah H
    obtain ⟨v5, h3, h4⟩ := Ck h1 h2
    have h5 : CK v5 = [.int .i64 x5.1, .int .i64 x5.2.1.1, .int .i64 x5.2.1.2.1.1, .int .i64 x5.2.1.2.1.2.1, .int .i64 x5.2.1.2.1.2.2.1, .int .i64 x5.2.1.2.1.2.2.2, .int .i64 x5.2.1.2.2.1, .int .i64 x5.2.1.2.2.2.1, .int .i64 x5.2.1.2.2.2.2.1, .int .i64 x5.2.1.2.2.2.2.2, (v5.2.2.1)] := congrArg (fun q : Int × (Int × (Int × Int × Int × Int) × (Int × Int × Int × Int)) × (List (Int × Int × Int)) => ([.int .i64 q.1, .int .i64 q.2.1.1, .int .i64 q.2.1.2.1.1, .int .i64 q.2.1.2.1.2.1, .int .i64 q.2.1.2.1.2.2.1, .int .i64 q.2.1.2.1.2.2.2, .int .i64 q.2.1.2.2.1, .int .i64 q.2.1.2.2.2.1, .int .i64 q.2.1.2.2.2.2.1, .int .i64 q.2.1.2.2.2.2.2, (v5.2.2.1)] : List Value)) h4
    refine ls W F Aa (A8 (r := DU) FQ W Aa Aa (A4 0 Aa) h3).q fun a w W F => ?_
    refine ls W F Aa (AE (y := Value.agg #[.int .i64 x5.1, .int .i64 x5.2.1.1, .int .i64 x5.2.1.2.1.1, .int .i64 x5.2.1.2.1.2.1, .int .i64 x5.2.1.2.1.2.2.1, .int .i64 x5.2.1.2.1.2.2.2, .int .i64 x5.2.1.2.2.1, .int .i64 x5.2.1.2.2.2.1, .int .i64 x5.2.1.2.2.2.2.1, .int .i64 x5.2.1.2.2.2.2.2, (v5.2.2.1)]) (j := 0) (i := x3) (enc := CK) W Aa Aa (A4 0 Aa) h3 Fo Fk (by rw [h5]; rfl)).q fun a w W F => ?_
    have F := F.note (F.rowAt (k := 0) Aa h3 (Ay.snd (Ay.snd Ay.here)) (congrArg (fun q : Int × (Int × (Int × Int × Int × Int) × (Int × Int × Int × Int)) × (List (Int × Int × Int)) => q.2.2) h4))
    refine Cn (cs := (Ig)) W F Aa Mx Aa fun b2 a w W F => ?_
    refine ls W F Aa (BK W Aa).q fun a w W F => ?_
    refine EJ 0 W F Aa Aa Aa Fk Aa Aa (Ac Aa (Ac Aa (Ac Aa (Ac Aa (Ac Aa (Ac Aa (Ac Aa (Ac Aa (Ac Aa (Ac Aa (Ac (F.oneF (k := 0) Aa) Ct))))))))))) fun w F => ?_
    refine EY tk 6 [0] W F (ai fun a w W F => ?_)
    obtain ⟨x6, h6, H⟩ := Ah H
    refine ls W F Aa (EH (ws := [.agg #[.int .i64 x5.1, .int .i64 x5.2.1.1, .int .i64 x5.2.1.2.1.1, .int .i64 x5.2.1.2.1.2.1, .int .i64 x5.2.1.2.1.2.2.1, .int .i64 x5.2.1.2.1.2.2.2, .int .i64 x5.2.1.2.2.1, .int .i64 x5.2.1.2.2.2.1, .int .i64 x5.2.1.2.2.2.2.1, .int .i64 x5.2.1.2.2.2.2.2, (v5.2.2.1)], .pointer (some ⟨q_p2c0, 0, none⟩)]) (v := Value.bool x6) W QA Aa (fun w F => Eb any w ((v5.2.2.1)) q_p2c0 (v3) x5 p2c0 _ h6 (CY (Ds 0 Aa) F) (CY (Aj h_v3) F) (At.re a_q_p2c0 F))) fun a w W F => ?_
    refine BV tk 2 W F fun a w W F => ?_
    refine B8 W Aa H (fun W H => ?_) fun W H => ?_
    ·
     refine Gh tk 4 [1] W F (ai fun a w W F => ?_)
     obtain ⟨x7, h7, H⟩ := Ah H
     refine AB (Ml := []) (Zl := []) (β := Value) (rv := fun x => .agg #[.int .i64 x7.1, .int .i64 x7.2.1.1, .int .i64 x7.2.1.2.1.1, .int .i64 x7.2.1.2.1.2.1, .int .i64 x7.2.1.2.1.2.2.1, .int .i64 x7.2.1.2.1.2.2.2, .int .i64 x7.2.1.2.2.1, .int .i64 x7.2.1.2.2.2.1, .int .i64 x7.2.1.2.2.2.2.1, .int .i64 x7.2.1.2.2.2.2.2, x]) (MM := fun x => []) (ZZ := fun x => [row x 88 Bl x7.2.2]) W F Qq Aa Aa (fun hL => C3 _ w (v2) p1 _ h7 (F.old s_v2)) fun x a w W F => ?_
     obtain ⟨v6, rfl⟩ : ∃ y, y = x := ⟨x, rfl⟩
     have F : Stw ⟨Y, X, w0⟩ [(b2, [.int .i64 x5.1, .int .i64 x5.2.1.1, .int .i64 x5.2.1.2.1.1, .int .i64 x5.2.1.2.1.2.1, .int .i64 x5.2.1.2.1.2.2.1, .int .i64 x5.2.1.2.1.2.2.2, .int .i64 x5.2.1.2.2.1, .int .i64 x5.2.1.2.2.2.1, .int .i64 x5.2.1.2.2.2.2.1, .int .i64 x5.2.1.2.2.2.2.2, (v5.2.2.1)]), (b1, (Ed p1 v2))] [row v6 88 Bl x7.2.2, BD (v5.2.2.1) Bl x5.2.2, row v1 37 DU v4] w := F
     refine ls W F Aa (Jx (v := v6) J4 Aa Aa Aa NM W Aa Aa).q fun a w W F => ?_
     obtain ⟨x8, h8, H⟩ := Ah H
     obtain ⟨v7, h9, h10⟩ := Ck h1 h8
     have h11 : CK v7 = [.int .i64 x8.1, .int .i64 x8.2.1.1, .int .i64 x8.2.1.2.1.1, .int .i64 x8.2.1.2.1.2.1, .int .i64 x8.2.1.2.1.2.2.1, .int .i64 x8.2.1.2.1.2.2.2, .int .i64 x8.2.1.2.2.1, .int .i64 x8.2.1.2.2.2.1, .int .i64 x8.2.1.2.2.2.2.1, .int .i64 x8.2.1.2.2.2.2.2, (v7.2.2.1)] := congrArg (fun q : Int × (Int × (Int × Int × Int × Int) × (Int × Int × Int × Int)) × (List (Int × Int × Int)) => ([.int .i64 q.1, .int .i64 q.2.1.1, .int .i64 q.2.1.2.1.1, .int .i64 q.2.1.2.1.2.1, .int .i64 q.2.1.2.1.2.2.1, .int .i64 q.2.1.2.1.2.2.2, .int .i64 q.2.1.2.2.1, .int .i64 q.2.1.2.2.2.1, .int .i64 q.2.1.2.2.2.2.1, .int .i64 q.2.1.2.2.2.2.2, (v7.2.2.1)] : List Value)) h10
     refine ls W F Aa (A8 (r := DU) FQ W Aa Aa (A4 2 Aa) h9).q fun a w W F => ?_
     refine ls W F Aa (An J4 Aa Aa Aa NM W Aa (F5 v1 + (x3).toNat * 11 + 10) Aa).q fun a w W F => ?_
     have F := F.freeze
     have F := F.frontZ (i := 2) Aa Aa
     have F := F.hideR BH h1
     refine EO (r := A5) (i := x3) (j := 10) (vs := [v6]) (x' := (x8.1, x8.2.1, x7.2.2)) W F rfl rfl rfl (k := 0) rfl rfl h8 NM (Gu (F.oneF (k := 1) rfl)) rfl rfl (Ac (F.oneF (k := 1) rfl) Ct) (fun A cs hA hc => by obtain ⟨z, hz, hc⟩ := BH.to hc; have e1 := Fo hc; have e2 : CK z = [.int .i64 x8.1, .int .i64 x8.2.1.1, .int .i64 x8.2.1.2.1.1, .int .i64 x8.2.1.2.1.2.1, .int .i64 x8.2.1.2.1.2.2.1, .int .i64 x8.2.1.2.1.2.2.2, .int .i64 x8.2.1.2.2.1, .int .i64 x8.2.1.2.2.2.1, .int .i64 x8.2.1.2.2.2.2.1, .int .i64 x8.2.1.2.2.2.2.2, (z.2.2.1)] := (congrArg (fun q : Int × (Int × (Int × Int × Int × Int) × (Int × Int × Int × Int)) × (List (Int × Int × Int)) => ([.int .i64 q.1, .int .i64 q.2.1.1, .int .i64 q.2.1.2.1.1, .int .i64 q.2.1.2.1.2.1, .int .i64 q.2.1.2.1.2.2.1, .int .i64 q.2.1.2.1.2.2.2, .int .i64 q.2.1.2.2.1, .int .i64 q.2.1.2.2.2.1, .int .i64 q.2.1.2.2.2.2.1, .int .i64 q.2.1.2.2.2.2.2, (z.2.2.1)] : List Value)) hz); rw [e1, e2]; exact ⟨[Value.int .i64 x8.1], [Value.int .i64 x8.2.1.1, Value.int .i64 x8.2.1.2.1.1, Value.int .i64 x8.2.1.2.1.2.1, Value.int .i64 x8.2.1.2.1.2.2.1, Value.int .i64 x8.2.1.2.1.2.2.2, Value.int .i64 x8.2.1.2.2.1, Value.int .i64 x8.2.1.2.2.2.1, Value.int .i64 x8.2.1.2.2.2.2.1, Value.int .i64 x8.2.1.2.2.2.2.2, v6], rfl, rfl, ⟨[Value.int .i64 x8.2.1.1, Value.int .i64 x8.2.1.2.1.1, Value.int .i64 x8.2.1.2.1.2.1, Value.int .i64 x8.2.1.2.1.2.2.1, Value.int .i64 x8.2.1.2.1.2.2.2, Value.int .i64 x8.2.1.2.2.1, Value.int .i64 x8.2.1.2.2.2.1, Value.int .i64 x8.2.1.2.2.2.2.1, Value.int .i64 x8.2.1.2.2.2.2.2], [v6], rfl, ⟨[Value.int .i64 x8.2.1.1], [Value.int .i64 x8.2.1.2.1.1, Value.int .i64 x8.2.1.2.1.2.1, Value.int .i64 x8.2.1.2.1.2.2.1, Value.int .i64 x8.2.1.2.1.2.2.2, Value.int .i64 x8.2.1.2.2.1, Value.int .i64 x8.2.1.2.2.2.1, Value.int .i64 x8.2.1.2.2.2.2.1, Value.int .i64 x8.2.1.2.2.2.2.2], rfl, rfl, ⟨[Value.int .i64 x8.2.1.2.1.1, Value.int .i64 x8.2.1.2.1.2.1, Value.int .i64 x8.2.1.2.1.2.2.1, Value.int .i64 x8.2.1.2.1.2.2.2], [Value.int .i64 x8.2.1.2.2.1, Value.int .i64 x8.2.1.2.2.2.1, Value.int .i64 x8.2.1.2.2.2.2.1, Value.int .i64 x8.2.1.2.2.2.2.2], rfl, ⟨[Value.int .i64 x8.2.1.2.1.1], [Value.int .i64 x8.2.1.2.1.2.1, Value.int .i64 x8.2.1.2.1.2.2.1, Value.int .i64 x8.2.1.2.1.2.2.2], rfl, rfl, ⟨[Value.int .i64 x8.2.1.2.1.2.1], [Value.int .i64 x8.2.1.2.1.2.2.1, Value.int .i64 x8.2.1.2.1.2.2.2], rfl, rfl, ⟨[Value.int .i64 x8.2.1.2.1.2.2.1], [Value.int .i64 x8.2.1.2.1.2.2.2], rfl, rfl, rfl⟩⟩⟩, ⟨[Value.int .i64 x8.2.1.2.2.1], [Value.int .i64 x8.2.1.2.2.2.1, Value.int .i64 x8.2.1.2.2.2.2.1, Value.int .i64 x8.2.1.2.2.2.2.2], rfl, rfl, ⟨[Value.int .i64 x8.2.1.2.2.2.1], [Value.int .i64 x8.2.1.2.2.2.2.1, Value.int .i64 x8.2.1.2.2.2.2.2], rfl, rfl, ⟨[Value.int .i64 x8.2.1.2.2.2.2.1], [Value.int .i64 x8.2.1.2.2.2.2.2], rfl, rfl, rfl⟩⟩⟩⟩⟩, ⟨_, rfl, (Sl.stab (F.item (i := 1) rfl) (fun b hb _ => ⟨hA b hb, rfl⟩))⟩⟩⟩) fun w F => ?_
     refine Ft (AV (Ad ?_))
     have F := F.frontM (i := 1) Aa Aa
     have F := F.sub (M' := (He b1 p1 v2)) (Z' := [row v1 37 A5 (C9 x2 x3 (x8.1, x8.2.1, x7.2.2))]) (List.Sublist.cons_cons _ (List.nil_sublist _)) (List.Sublist.cons_cons _ (List.nil_sublist _))
     exact ⟨_, H, W.ra Aa, F⟩
    refine AH (AV (Ad ?_))
    have F := F.frontZ (i := 1) Aa Aa
    have F := F.hideR BH h1
    have F := F.frontM (i := 1) Aa Aa
    have F := F.sub (M' := (He b1 p1 v2)) (Z' := [row v1 37 A5 x2]) (List.Sublist.cons_cons _ (List.nil_sublist _)) (List.Sublist.cons_cons _ (List.nil_sublist _))
    exact ⟨_, H, W.ra Aa, F⟩
   rintro a w ⟨x4, hj, W, F⟩
   have hj := Aw hj
   subst hj
   have H := K3
   clear G3 K3
   refine vc tk 4 W F fun a w W F => ?_
   refine Ad ?_
   exact ⟨_, H, W.ra Aa, F⟩
  refine Bz ?_
  iterate 2 refine B7 ?_
  refine BC (Ad ?_)
  have H := L2 _ H
  exact ⟨_, H, W.ra Aa, F⟩
 rintro a w ⟨x1, hj, W, F⟩
 have hj := Aw hj
 subst hj
 have H := K1
 clear G1 K1
 refine vc tk 6 W F fun a w W F => ?_
 refine Al ?_
 have H := Aw H
 subst H
 refine Aq (.inl Aa) W F Aa (Ak W Aa) ?_
 have F := F.sub (M' := []) (Z' := [row v1 37 A5 x1]) (List.nil_sublist _) (List.Sublist.refl _)
 exact ⟨(v1), Aa, F⟩
noncomputable def A0 (p0 : List (Int × (Int × (Int × Int × Int × Int) × (Int × Int × Int × Int)) × (List (Int × Int × Int)))) (p1c0 : Int × (Int × (Int × Int × Int × Int) × (Int × Int × Int × Int)) × (List (Int × Int × Int))) : Int → Option (Int ⊕ (Unit ⊕ Int))
  | x1 => (if x1 < (p0.length : Int) then (ix p0 x1).bind fun x2 => (Cz x2 p1c0).bind fun x3 => (if x3 = true then some (.inr (.inr x1)) else some (.inl (Cs (x1 + 1)))) else some (.inr (.inl ())))
noncomputable def Ba (p0 : List (Int × (Int × (Int × Int × Int × Int) × (Int × Int × Int × Int)) × (List (Int × Int × Int)))) (p1c0 : Int × (Int × (Int × Int × Int × Int) × (Int × Int × Int × Int)) × (List (Int × Int × Int))) : Option Int := Fu (AJ (A0 p0 p1c0) 0) fun _ => some (-1)
theorem Dj (Y : Nat → Prop) (w0 : World) (v1 : Value) (q_p1c0 : Nat) (v2 : Value) (p0 : List (Int × (Int × (Int × Int × Int × Int) × (Int × Int × Int × Int)) × (List (Int × Int × Int)))) (p1c0 : Int × (Int × (Int × Int × Int × Int) × (Int × Int × Int × Int)) × (List (Int × Int × Int))) (r : Int) (H : Ba p0 p1c0 = some r) (h_v1 : Sl w0 (NX []) A5 v1 p0) (h_v2 : Sl w0 (NX []) Bl v2 p1c0.2.2) (a_q_p1c0 : At ⟨Y, [], w0⟩ q_p1c0 0 [.int .i64 p1c0.1, .int .i64 p1c0.2.1.1, .int .i64 p1c0.2.1.2.1.1, .int .i64 p1c0.2.1.2.1.2.1, .int .i64 p1c0.2.1.2.1.2.2.1, .int .i64 p1c0.2.1.2.1.2.2.2, .int .i64 p1c0.2.1.2.2.1, .int .i64 p1c0.2.1.2.2.2.1, .int .i64 p1c0.2.1.2.2.2.2.1, .int .i64 p1c0.2.1.2.2.2.2.2, v2]) :
    Calls Try.prog 67 #[v1, .func (.func 71) #[] #[.pointer (some ⟨q_p1c0, 0, none⟩)]] w0 fun e w' => e = .returned (.int .i64 r) ∧ Below w0.heap.size w0 w' := by
 refine enter Try.func67 Aa Try.ntmps67 Aa fun a W => ?_
 have F := Stw.start Y w0
 obtain ⟨v3, h1, h_v1⟩ := h_v1.ex BH
 unfold Ba at H
 refine vc tk 5 W F fun a w W F => ?_
 obtain ⟨o1, G1, K1, L1⟩ := IZ H
 refine AC (fun a w => some (Sum.inl ()) = some o1 ∧ Fr 19 [] [(4, .int .i64 0)] a ∧ Stw ⟨Y, [], w0⟩ [] [] w) ?_ ?_
 ·
  have H := G1
  clear G1 K1
  refine vc tk 3 W F fun a w W F => ?_
  refine ls W F Aa (BQ (r := A5) (l := p0) E2 Aa W Aa (A6 BH h1 (Aj h_v1))).q fun a w W F => ?_
  refine BV tk 4 W F fun a w W F => ?_
  refine BI H (fun s a w => Fr 19 [] [(0, v1), (1, .func (.func 71) #[] #[.pointer (some ⟨q_p1c0, 0, none⟩)]), (4, .int .i64 0), (7, .int .i64 (p0.length : Int)), (8, .int .i64 s)] a ∧ Stw ⟨Y, [], w0⟩ [] [] w) ⟨W.ra Aa, F⟩ fun s o a w H L2 hR => ?_
  obtain ⟨x1, rfl⟩ : ∃ x, x = s := ⟨s, rfl⟩
  obtain ⟨W, F⟩ := hR
  have W : Fr 19 [] [(0, v1), (1, .func (.func 71) #[] #[.pointer (some ⟨q_p1c0, 0, none⟩)]), (4, .int .i64 0), (7, .int .i64 (p0.length : Int)), (8, .int .i64 x1)] a := W
  have F : Stw ⟨Y, [], w0⟩ [] [] w := F
  rw [A0] at H
  refine vc tk 6 W F fun a w W F => ?_
  refine Br W Aa H (fun W H => ?_) fun W H => ?_
  ·
   refine E8 tk 15 W F fun a w W F => ?_
   obtain ⟨x2, h2, H⟩ := Ah H
   obtain ⟨v4, h3, h4⟩ := Ck h1 h2
   have h5 : CK v4 = [.int .i64 x2.1, .int .i64 x2.2.1.1, .int .i64 x2.2.1.2.1.1, .int .i64 x2.2.1.2.1.2.1, .int .i64 x2.2.1.2.1.2.2.1, .int .i64 x2.2.1.2.1.2.2.2, .int .i64 x2.2.1.2.2.1, .int .i64 x2.2.1.2.2.2.1, .int .i64 x2.2.1.2.2.2.2.1, .int .i64 x2.2.1.2.2.2.2.2, (v4.2.2.1)] := congrArg (fun q : Int × (Int × (Int × Int × Int × Int) × (Int × Int × Int × Int)) × (List (Int × Int × Int)) => ([.int .i64 q.1, .int .i64 q.2.1.1, .int .i64 q.2.1.2.1.1, .int .i64 q.2.1.2.1.2.1, .int .i64 q.2.1.2.1.2.2.1, .int .i64 q.2.1.2.1.2.2.2, .int .i64 q.2.1.2.2.1, .int .i64 q.2.1.2.2.2.1, .int .i64 q.2.1.2.2.2.2.1, .int .i64 q.2.1.2.2.2.2.2, (v4.2.2.1)] : List Value)) h4
   refine ls W F Aa (A8 (r := DU) FQ W Aa Aa (Aj h_v1) h3).q fun a w W F => ?_
   refine ls W F Aa (AE (y := Value.agg #[.int .i64 x2.1, .int .i64 x2.2.1.1, .int .i64 x2.2.1.2.1.1, .int .i64 x2.2.1.2.1.2.1, .int .i64 x2.2.1.2.1.2.2.1, .int .i64 x2.2.1.2.1.2.2.2, .int .i64 x2.2.1.2.2.1, .int .i64 x2.2.1.2.2.2.1, .int .i64 x2.2.1.2.2.2.2.1, .int .i64 x2.2.1.2.2.2.2.2, (v4.2.2.1)]) (j := 0) (i := x1) (enc := CK) W Aa Aa (Aj h_v1) h3 Fo Fk (by rw [h5]; rfl)).q fun a w W F => ?_
   obtain ⟨x3, h6, H⟩ := Ah H
   refine ls W F Aa (EH (ws := [.agg #[.int .i64 x2.1, .int .i64 x2.2.1.1, .int .i64 x2.2.1.2.1.1, .int .i64 x2.2.1.2.1.2.1, .int .i64 x2.2.1.2.1.2.2.1, .int .i64 x2.2.1.2.1.2.2.2, .int .i64 x2.2.1.2.2.1, .int .i64 x2.2.1.2.2.2.1, .int .i64 x2.2.1.2.2.2.2.1, .int .i64 x2.2.1.2.2.2.2.2, (v4.2.2.1)], .pointer (some ⟨q_p1c0, 0, none⟩)]) (v := Value.bool x3) W QA Aa (fun w F => Eb any w ((v4.2.2.1)) q_p1c0 (v2) x2 p1c0 _ h6 (CY (Dr (Aj h_v1) h3 (Ay.snd (Ay.snd Ay.here)) (congrArg (fun q : Int × (Int × (Int × Int × Int × Int) × (Int × Int × Int × Int)) × (List (Int × Int × Int)) => q.2.2) h4)) F) (CY (Aj h_v2) F) (At.re a_q_p1c0 F))) fun a w W F => ?_
   refine BV tk 2 W F fun a w W F => ?_
   refine B8 W Aa H (fun W H => ?_) fun W H => ?_
   ·
    refine vc tk 6 W F fun a w W F => ?_
    refine Al (Az ?_)
    iterate 2 refine Ap ?_
    refine Az (Ap ?_)
    have H := L2 _ H
    have H := L1 _ H
    have H := Aw H
    subst H
    refine Aq (.inl Aa) W F Aa (Ak W Aa) ?_
    exact ⟨rfl, F.done⟩
   refine AH (AV ?_)
   refine vn tk 4 W F fun a w W F => ?_
   refine Ad ?_
   exact ⟨_, H, W.ra Aa, F⟩
  refine Bz ?_
  iterate 2 refine B7 ?_
  refine BC (Ad ?_)
  have H := L2 _ H
  exact ⟨H, W.ra Aa, F⟩
 rintro a w ⟨hj, W, F⟩
 have H := K1 _ hj
 clear hj G1 K1 L1
 refine vc tk 5 W F fun a w W F => ?_
 refine Al ?_
 have H := Aw H
 subst H
 refine Aq (.inl Aa) W F Aa (Ak W Aa) ?_
 exact ⟨rfl, F.done⟩
noncomputable def A7 (p1c0 : Int × (Int × (Int × Int × Int × Int) × (Int × Int × Int × Int)) × (List (Int × Int × Int))) : ((List (Int × (Int × (Int × Int × Int × Int) × (Int × Int × Int × Int)) × (List (Int × Int × Int)))) × Int × Int) → Option (((List (Int × (Int × (Int × Int × Int × Int) × (Int × Int × Int × Int)) × (List (Int × Int × Int)))) × Int × Int) ⊕ ((List (Int × (Int × (Int × Int × Int × Int) × (Int × Int × Int × Int)) × (List (Int × Int × Int)))) × Int))
  | (x4, x5, x6) => (if x6 < (x4.length : Int) then ((ix x4 x6).bind fun x9 => (Cz x9 p1c0).bind fun x10 => (if (!x10) = true then (ix x4 x5).bind fun x11 => some ((C9 x4 x5 x9), Cs (x5 + 1)) else some (x4, x5))).bind fun (x7, x8) => some (.inl (x7, x8, Cs (x6 + 1))) else some (.inr (x4, x5)))
noncomputable def AX (p0 : List (Int × (Int × (Int × Int × Int × Int) × (Int × Int × Int × Int)) × (List (Int × Int × Int)))) (p1c0 : Int × (Int × (Int × Int × Int × Int) × (Int × Int × Int × Int)) × (List (Int × Int × Int))) : Option (List (Int × (Int × (Int × Int × Int × Int) × (Int × Int × Int × Int)) × (List (Int × Int × Int)))) := (Ba p0 p1c0).bind fun x1 => (if x1 = (-1) then some p0 else (AJ (A7 p1c0) (p0, x1, Cs (x1 + 1))).bind fun (x2, x3) => (DP x2 x3 (x2.length : Int)).bind fun x12 => (OQ x2 x3 (List.replicate (x12.length) ((0, (0, (0, 0, 0, 0), (0, 0, 0, 0)), []) : Int × (Int × (Int × Int × Int × Int) × (Int × Int × Int × Int)) × (List (Int × Int × Int))))).bind fun x13 => (DP x13 0 x3).bind fun x14 => some x14)
theorem Du (Y : Nat → Prop) (X : List Nat) (w0 : World) (v1 : Value) (q_p1c0 : Nat) (v2 : Value) (p0 : List (Int × (Int × (Int × Int × Int × Int) × (Int × Int × Int × Int)) × (List (Int × Int × Int)))) (p1c0 : Int × (Int × (Int × Int × Int × Int) × (Int × Int × Int × Int)) × (List (Int × Int × Int))) (r : (List (Int × (Int × (Int × Int × Int × Int) × (Int × Int × Int × Int)) × (List (Int × Int × Int))))) (H : AX p0 p1c0 = some r) (h_v2 : Sl w0 (NX X) Bl v2 p1c0.2.2) (a_q_p1c0 : At ⟨Y, X, w0⟩ q_p1c0 0 [.int .i64 p1c0.1, .int .i64 p1c0.2.1.1, .int .i64 p1c0.2.1.2.1.1, .int .i64 p1c0.2.1.2.1.2.1, .int .i64 p1c0.2.1.2.1.2.2.1, .int .i64 p1c0.2.1.2.1.2.2.2, .int .i64 p1c0.2.1.2.2.1, .int .i64 p1c0.2.1.2.2.2.1, .int .i64 p1c0.2.1.2.2.2.2.1, .int .i64 p1c0.2.1.2.2.2.2.2, v2]) (hL : Stw ⟨Y, X, w0⟩ [] [row v1 37 A5 p0] w0) :
    Calls Try.prog 53 #[v1, .func (.func 71) #[] #[.pointer (some ⟨q_p1c0, 0, none⟩)]] w0 fun e w' => ∃ x : Value, e = .returned (x) ∧ Stw ⟨Y, X, w0⟩ [] [row (x) 37 A5 r] w' := by
 refine enter Try.func53 Aa Try.ntmps53 Aa fun a W => ?_
 have F := hL
 unfold AX at H
 refine vc tk 9 W F fun a w W F => ?_
 obtain ⟨x1, h1, H⟩ := Ah H
 refine ls W F Aa (AU (v := Value.int .i64 x1) W P7 Aa (fun w F => Dj any w (v1) q_p1c0 (v2) p0 p1c0 _ h1 (CY (A4 0 Aa) F) (CY (Aj h_v2) F) (At.re a_q_p1c0 F))) fun a w W F => ?_
 refine BV tk 10 W F fun a w W F => ?_
 refine Br W Aa H (fun W H => ?_) fun W H => ?_
 ·
  refine vc tk 6 W F fun a w W F => ?_
  refine Al (Ap ?_)
  have H := Aw H
  subst H
  refine Aq (.inl Aa) W F Aa (Ak W Aa) ?_
  exact ⟨(v1), Aa, F⟩
 refine AH (Ad ?_)
 obtain ⟨o1, G1, K1⟩ := Ah H
 refine AC (fun a w => ∃ x2 : List (Int × (Int × (Int × Int × Int × Int) × (Int × Int × Int × Int)) × (List (Int × Int × Int))), ∃ x3 : Int, some ((x2, x3)) = some o1 ∧ Fr 42 [] [(0, v1), (4, .slice none 0 0), (5, .int .i64 x3)] a ∧ Stw ⟨Y, X, w0⟩ [] [row v1 37 A5 x2] w) ?_ ?_
 ·
  have H := G1
  clear G1 K1
  refine vc tk 8 W F fun a w W F => ?_
  refine BI H (fun s a w => Fr 42 [] [(0, v1), (1, .func (.func 71) #[] #[.pointer (some ⟨q_p1c0, 0, none⟩)]), (4, .slice none 0 0), (5, .int .i64 s.2.1), (6, .int .i64 s.2.2)] a ∧ Stw ⟨Y, X, w0⟩ [] [row v1 37 A5 s.1] w) ⟨W.ra Aa, F⟩ fun s o a w H L2 hR => ?_
  obtain ⟨x4, x5, x6⟩ := s
  obtain ⟨W, F⟩ := hR
  have W : Fr 42 [] [(0, v1), (1, .func (.func 71) #[] #[.pointer (some ⟨q_p1c0, 0, none⟩)]), (4, .slice none 0 0), (5, .int .i64 x5), (6, .int .i64 x6)] a := W
  have F : Stw ⟨Y, X, w0⟩ [] [row v1 37 A5 x4] w := F
  rw [A7] at H
  refine vc tk 5 W F fun a w W F => ?_
  refine ls W F Aa (BQ (r := A5) (l := x4) E2 Aa W Aa (A4 0 Aa)).q fun a w W F => ?_
  refine BV tk 3 W F fun a w W F => ?_
  refine Br W Aa H (fun W H => ?_) fun W H => ?_
  ·
   refine AH (Ad ?_)
   obtain ⟨o3, G3, K3⟩ := Ah H
   refine AC (fun a w => ∃ x7 : List (Int × (Int × (Int × Int × Int × Int) × (Int × Int × Int × Int)) × (List (Int × Int × Int))), ∃ x8 : Int, some ((x7, x8)) = some o3 ∧ Fr 42 [] [(0, v1), (1, .func (.func 71) #[] #[.pointer (some ⟨q_p1c0, 0, none⟩)]), (4, .slice none 0 0), (5, .int .i64 x8), (6, .int .i64 x6)] a ∧ Stw ⟨Y, X, w0⟩ [] [row v1 37 A5 x7] w) ?_ ?_
   ·
    have H := G3
    clear G3 K3
    refine vc tk 2 W F fun a w W F => ?_
    obtain ⟨v3, h2, F⟩ := F.exR BH
    refine vc tk 3 W F fun a w W F => ?_
    obtain ⟨x9, h3, H⟩ := Ah H
    obtain ⟨v4, h4, h5⟩ := Ck h2 h3
    have h6 : CK v4 = [.int .i64 x9.1, .int .i64 x9.2.1.1, .int .i64 x9.2.1.2.1.1, .int .i64 x9.2.1.2.1.2.1, .int .i64 x9.2.1.2.1.2.2.1, .int .i64 x9.2.1.2.1.2.2.2, .int .i64 x9.2.1.2.2.1, .int .i64 x9.2.1.2.2.2.1, .int .i64 x9.2.1.2.2.2.2.1, .int .i64 x9.2.1.2.2.2.2.2, (v4.2.2.1)] := congrArg (fun q : Int × (Int × (Int × Int × Int × Int) × (Int × Int × Int × Int)) × (List (Int × Int × Int)) => ([.int .i64 q.1, .int .i64 q.2.1.1, .int .i64 q.2.1.2.1.1, .int .i64 q.2.1.2.1.2.1, .int .i64 q.2.1.2.1.2.2.1, .int .i64 q.2.1.2.1.2.2.2, .int .i64 q.2.1.2.2.1, .int .i64 q.2.1.2.2.2.1, .int .i64 q.2.1.2.2.2.2.1, .int .i64 q.2.1.2.2.2.2.2, (v4.2.2.1)] : List Value)) h5
    refine ls W F Aa (A8 (r := DU) FQ W Aa Aa (A4 0 Aa) h4).q fun a w W F => ?_
    refine ls W F Aa (AE (y := Value.agg #[.int .i64 x9.1, .int .i64 x9.2.1.1, .int .i64 x9.2.1.2.1.1, .int .i64 x9.2.1.2.1.2.1, .int .i64 x9.2.1.2.1.2.2.1, .int .i64 x9.2.1.2.1.2.2.2, .int .i64 x9.2.1.2.2.1, .int .i64 x9.2.1.2.2.2.1, .int .i64 x9.2.1.2.2.2.2.1, .int .i64 x9.2.1.2.2.2.2.2, (v4.2.2.1)]) (j := 0) (i := x6) (enc := CK) W Aa Aa (A4 0 Aa) h4 Fo Fk (by rw [h6]; rfl)).q fun a w W F => ?_
    have F := F.note (F.rowAt (k := 0) Aa h4 (Ay.snd (Ay.snd Ay.here)) (congrArg (fun q : Int × (Int × (Int × Int × Int × Int) × (Int × Int × Int × Int)) × (List (Int × Int × Int)) => q.2.2) h5))
    refine Cn (cs := (Ig)) W F Aa Mx Aa fun b1 a w W F => ?_
    refine EJ 0 W F Aa Aa Aa Fk Aa Aa (Ac Aa (Ac Aa (Ac Aa (Ac Aa (Ac Aa (Ac Aa (Ac Aa (Ac Aa (Ac Aa (Ac Aa (Ac (F.oneF (k := 0) Aa) Ct))))))))))) fun w F => ?_
    refine EY tk 6 [0] W F (ai fun a w W F => ?_)
    obtain ⟨x10, h7, H⟩ := Ah H
    refine ls W F Aa (EH (ws := [.agg #[.int .i64 x9.1, .int .i64 x9.2.1.1, .int .i64 x9.2.1.2.1.1, .int .i64 x9.2.1.2.1.2.1, .int .i64 x9.2.1.2.1.2.2.1, .int .i64 x9.2.1.2.1.2.2.2, .int .i64 x9.2.1.2.2.1, .int .i64 x9.2.1.2.2.2.1, .int .i64 x9.2.1.2.2.2.2.1, .int .i64 x9.2.1.2.2.2.2.2, (v4.2.2.1)], .pointer (some ⟨q_p1c0, 0, none⟩)]) (v := Value.bool x10) W QA Aa (fun w F => Eb any w ((v4.2.2.1)) q_p1c0 (v2) x9 p1c0 _ h7 (CY (Ds 0 Aa) F) (CY (Aj h_v2) F) (At.re a_q_p1c0 F))) fun a w W F => ?_
    refine BV tk 3 W F fun a w W F => ?_
    refine B8 W Aa H (fun W H => ?_) fun W H => ?_
    ·
     refine Gh tk 5 [0] W F (ai fun a w W F => ?_)
     obtain ⟨x11, h8, H⟩ := Ah H
     obtain ⟨v5, h9, h10⟩ := Ck h2 h8
     have h11 : CK v5 = [.int .i64 x11.1, .int .i64 x11.2.1.1, .int .i64 x11.2.1.2.1.1, .int .i64 x11.2.1.2.1.2.1, .int .i64 x11.2.1.2.1.2.2.1, .int .i64 x11.2.1.2.1.2.2.2, .int .i64 x11.2.1.2.2.1, .int .i64 x11.2.1.2.2.2.1, .int .i64 x11.2.1.2.2.2.2.1, .int .i64 x11.2.1.2.2.2.2.2, (v5.2.2.1)] := congrArg (fun q : Int × (Int × (Int × Int × Int × Int) × (Int × Int × Int × Int)) × (List (Int × Int × Int)) => ([.int .i64 q.1, .int .i64 q.2.1.1, .int .i64 q.2.1.2.1.1, .int .i64 q.2.1.2.1.2.1, .int .i64 q.2.1.2.1.2.2.1, .int .i64 q.2.1.2.1.2.2.2, .int .i64 q.2.1.2.2.1, .int .i64 q.2.1.2.2.2.1, .int .i64 q.2.1.2.2.2.2.1, .int .i64 q.2.1.2.2.2.2.2, (v5.2.2.1)] : List Value)) h10
     refine ls W F Aa (A8 (r := DU) FQ W Aa Aa (A4 1 Aa) h9).q fun a w W F => ?_
     have F := F.frontZ (i := 1) Aa Aa
     have F := F.hideR BH h2
     refine EO (r := A5) (i := x5) (j := 0) (vs := [.int .i64 x9.1, .int .i64 x9.2.1.1, .int .i64 x9.2.1.2.1.1, .int .i64 x9.2.1.2.1.2.1, .int .i64 x9.2.1.2.1.2.2.1, .int .i64 x9.2.1.2.1.2.2.2, .int .i64 x9.2.1.2.2.1, .int .i64 x9.2.1.2.2.2.1, .int .i64 x9.2.1.2.2.2.2.1, .int .i64 x9.2.1.2.2.2.2.2, (v4.2.2.1)]) (x' := x9) W F rfl rfl rfl (k := 0) rfl rfl h8 Fk rfl rfl rfl (Ac rfl (Ac rfl (Ac rfl (Ac rfl (Ac rfl (Ac rfl (Ac rfl (Ac rfl (Ac rfl (Ac rfl (Ac (F.oneF (k := 1) rfl) Ct))))))))))) (fun A cs hA hc => by obtain ⟨z, hz, hc⟩ := BH.to hc; have e1 := Fo hc; have e2 : CK z = [.int .i64 x11.1, .int .i64 x11.2.1.1, .int .i64 x11.2.1.2.1.1, .int .i64 x11.2.1.2.1.2.1, .int .i64 x11.2.1.2.1.2.2.1, .int .i64 x11.2.1.2.1.2.2.2, .int .i64 x11.2.1.2.2.1, .int .i64 x11.2.1.2.2.2.1, .int .i64 x11.2.1.2.2.2.2.1, .int .i64 x11.2.1.2.2.2.2.2, (z.2.2.1)] := (congrArg (fun q : Int × (Int × (Int × Int × Int × Int) × (Int × Int × Int × Int)) × (List (Int × Int × Int)) => ([.int .i64 q.1, .int .i64 q.2.1.1, .int .i64 q.2.1.2.1.1, .int .i64 q.2.1.2.1.2.1, .int .i64 q.2.1.2.1.2.2.1, .int .i64 q.2.1.2.1.2.2.2, .int .i64 q.2.1.2.2.1, .int .i64 q.2.1.2.2.2.1, .int .i64 q.2.1.2.2.2.2.1, .int .i64 q.2.1.2.2.2.2.2, (z.2.2.1)] : List Value)) hz); rw [e1, e2]; exact ⟨[Value.int .i64 x9.1], [Value.int .i64 x9.2.1.1, Value.int .i64 x9.2.1.2.1.1, Value.int .i64 x9.2.1.2.1.2.1, Value.int .i64 x9.2.1.2.1.2.2.1, Value.int .i64 x9.2.1.2.1.2.2.2, Value.int .i64 x9.2.1.2.2.1, Value.int .i64 x9.2.1.2.2.2.1, Value.int .i64 x9.2.1.2.2.2.2.1, Value.int .i64 x9.2.1.2.2.2.2.2, (v4.2.2.1)], rfl, rfl, ⟨[Value.int .i64 x9.2.1.1, Value.int .i64 x9.2.1.2.1.1, Value.int .i64 x9.2.1.2.1.2.1, Value.int .i64 x9.2.1.2.1.2.2.1, Value.int .i64 x9.2.1.2.1.2.2.2, Value.int .i64 x9.2.1.2.2.1, Value.int .i64 x9.2.1.2.2.2.1, Value.int .i64 x9.2.1.2.2.2.2.1, Value.int .i64 x9.2.1.2.2.2.2.2], [(v4.2.2.1)], rfl, ⟨[Value.int .i64 x9.2.1.1], [Value.int .i64 x9.2.1.2.1.1, Value.int .i64 x9.2.1.2.1.2.1, Value.int .i64 x9.2.1.2.1.2.2.1, Value.int .i64 x9.2.1.2.1.2.2.2, Value.int .i64 x9.2.1.2.2.1, Value.int .i64 x9.2.1.2.2.2.1, Value.int .i64 x9.2.1.2.2.2.2.1, Value.int .i64 x9.2.1.2.2.2.2.2], rfl, rfl, ⟨[Value.int .i64 x9.2.1.2.1.1, Value.int .i64 x9.2.1.2.1.2.1, Value.int .i64 x9.2.1.2.1.2.2.1, Value.int .i64 x9.2.1.2.1.2.2.2], [Value.int .i64 x9.2.1.2.2.1, Value.int .i64 x9.2.1.2.2.2.1, Value.int .i64 x9.2.1.2.2.2.2.1, Value.int .i64 x9.2.1.2.2.2.2.2], rfl, ⟨[Value.int .i64 x9.2.1.2.1.1], [Value.int .i64 x9.2.1.2.1.2.1, Value.int .i64 x9.2.1.2.1.2.2.1, Value.int .i64 x9.2.1.2.1.2.2.2], rfl, rfl, ⟨[Value.int .i64 x9.2.1.2.1.2.1], [Value.int .i64 x9.2.1.2.1.2.2.1, Value.int .i64 x9.2.1.2.1.2.2.2], rfl, rfl, ⟨[Value.int .i64 x9.2.1.2.1.2.2.1], [Value.int .i64 x9.2.1.2.1.2.2.2], rfl, rfl, rfl⟩⟩⟩, ⟨[Value.int .i64 x9.2.1.2.2.1], [Value.int .i64 x9.2.1.2.2.2.1, Value.int .i64 x9.2.1.2.2.2.2.1, Value.int .i64 x9.2.1.2.2.2.2.2], rfl, rfl, ⟨[Value.int .i64 x9.2.1.2.2.2.1], [Value.int .i64 x9.2.1.2.2.2.2.1, Value.int .i64 x9.2.1.2.2.2.2.2], rfl, rfl, ⟨[Value.int .i64 x9.2.1.2.2.2.2.1], [Value.int .i64 x9.2.1.2.2.2.2.2], rfl, rfl, rfl⟩⟩⟩⟩⟩, ⟨_, rfl, (Sl.stab (F.item (i := 1) rfl) (fun b hb _ => ⟨hA b hb, rfl⟩))⟩⟩⟩) fun w F => ?_
     refine BV tk 7 W F fun a w W F => ?_
     refine AV (Ad ?_)
     have F := F.sub (M' := []) (Z' := [row v1 37 A5 (C9 x4 x5 x9)]) (List.nil_sublist _) (List.Sublist.cons_cons _ (List.nil_sublist _))
     exact ⟨_, _, H, W.ra Aa, F⟩
    refine AH (AV (Ad ?_))
    have F := F.frontZ (i := 1) Aa Aa
    have F := F.hideR BH h2
    have F := F.sub (M' := []) (Z' := [row v1 37 A5 x4]) (List.nil_sublist _) (List.Sublist.cons_cons _ (List.nil_sublist _))
    exact ⟨_, _, H, W.ra Aa, F⟩
   rintro a w ⟨x7, x8, hj, W, F⟩
   have hj := Aw hj
   subst hj
   have H := K3
   clear G3 K3
   refine vc tk 5 W F fun a w W F => ?_
   refine Ad ?_
   exact ⟨_, H, W.ra Aa, F⟩
  refine Bz ?_
  iterate 2 refine B7 ?_
  refine BC (Ad ?_)
  have H := L2 _ H
  exact ⟨_, _, H, W.ra Aa, F⟩
 rintro a w ⟨x2, x3, hj, W, F⟩
 have hj := Aw hj
 subst hj
 have H := K1
 clear G1 K1
 refine vc tk 4 W F fun a w W F => ?_
 obtain ⟨x12, h12, H⟩ := Ah H
 refine ls W F Aa (ED (r := A5) FQ W Aa Aa Aa (A4 0 Aa) h12).q fun a w W F => ?_
 obtain ⟨x13, h13, H⟩ := Ah H
 refine K0 (r := A5) (v := v1) (k := 0) ((0, (0, (0, 0, 0, 0), (0, 0, 0, 0)), []) : Int × (Int × (Int × Int × Int × Int) × (Int × Int × Int × Int)) × (List (Int × Int × Int))) W F FQ Mx Aa Aa Aa h12 (fun w A => ⟨[Value.int .i64 0], [Value.int .i64 0, Value.int .i64 0, Value.int .i64 0, Value.int .i64 0, Value.int .i64 0, Value.int .i64 0, Value.int .i64 0, Value.int .i64 0, Value.int .i64 0, Value.slice none 0 0], Aa, Aa, ⟨[Value.int .i64 0, Value.int .i64 0, Value.int .i64 0, Value.int .i64 0, Value.int .i64 0, Value.int .i64 0, Value.int .i64 0, Value.int .i64 0, Value.int .i64 0], [Value.slice none 0 0], Aa, ⟨[Value.int .i64 0], [Value.int .i64 0, Value.int .i64 0, Value.int .i64 0, Value.int .i64 0, Value.int .i64 0, Value.int .i64 0, Value.int .i64 0, Value.int .i64 0], Aa, Aa, ⟨[Value.int .i64 0, Value.int .i64 0, Value.int .i64 0, Value.int .i64 0], [Value.int .i64 0, Value.int .i64 0, Value.int .i64 0, Value.int .i64 0], Aa, ⟨[Value.int .i64 0], [Value.int .i64 0, Value.int .i64 0, Value.int .i64 0], Aa, Aa, ⟨[Value.int .i64 0], [Value.int .i64 0, Value.int .i64 0], Aa, Aa, ⟨[Value.int .i64 0], [Value.int .i64 0], Aa, Aa, Aa⟩⟩⟩, ⟨[Value.int .i64 0], [Value.int .i64 0, Value.int .i64 0, Value.int .i64 0], Aa, Aa, ⟨[Value.int .i64 0], [Value.int .i64 0, Value.int .i64 0], Aa, Aa, ⟨[Value.int .i64 0], [Value.int .i64 0], Aa, Aa, Aa⟩⟩⟩⟩⟩, ⟨_, Aa, Sl.nil⟩⟩⟩) h13 fun w F => ?_
 have F : Stw ⟨Y, X, w0⟩ [] [row v1 37 A5 x13] w := F
 refine BV tk 6 W F fun a w W F => ?_
 obtain ⟨x14, h14, H⟩ := Ah H
 refine ls W F Aa (ED (r := A5) FQ W Aa Aa Aa (A4 0 Aa) h14).q fun a w W F => ?_
 refine BV tk 3 W F fun a w W F => ?_
 refine Al ?_
 have H := Aw H
 subst H
 refine Aq (.inl Aa) W F Aa (Ak W Aa) ?_
 have F := F.subRow (k := 0) Aa Aa h14
 exact ⟨((B6 v1 (0 : Int) x3 11)), Aa, F⟩
theorem Q8 : Has Try.prog 53 := B3 Try.func53
noncomputable def AY (p1c0 : Int × (Int × (Int × Int × Int × Int) × (Int × Int × Int × Int)) × (List (Int × Int × Int))) : ((List (Int × (Int × (Int × Int × Int × Int) × (Int × Int × Int × Int)) × (List (Int × Int × Int)))) × Int × Int) → Option (((List (Int × (Int × (Int × Int × Int × Int) × (Int × Int × Int × Int)) × (List (Int × Int × Int)))) × Int × Int) ⊕ ((List (Int × (Int × (Int × Int × Int × Int) × (Int × Int × Int × Int)) × (List (Int × Int × Int)))) × Int))
  | (x4, x5, x6) => (if x6 < (x4.length : Int) then ((ix x4 x6).bind fun x9 => (if (!(B5 x9 p1c0)) = true then (ix x4 x5).bind fun x10 => some ((C9 x4 x5 x9), Cs (x5 + 1)) else some (x4, x5))).bind fun (x7, x8) => some (.inl (x7, x8, Cs (x6 + 1))) else some (.inr (x4, x5)))
noncomputable def AN (p0 : List (Int × (Int × (Int × Int × Int × Int) × (Int × Int × Int × Int)) × (List (Int × Int × Int)))) (p1c0 : Int × (Int × (Int × Int × Int × Int) × (Int × Int × Int × Int)) × (List (Int × Int × Int))) : Option (List (Int × (Int × (Int × Int × Int × Int) × (Int × Int × Int × Int)) × (List (Int × Int × Int)))) := (AR p0 p1c0).bind fun x1 => (if x1 = (-1) then some p0 else (AJ (AY p1c0) (p0, x1, Cs (x1 + 1))).bind fun (x2, x3) => (DP x2 x3 (x2.length : Int)).bind fun x11 => (OQ x2 x3 (List.replicate (x11.length) ((0, (0, (0, 0, 0, 0), (0, 0, 0, 0)), []) : Int × (Int × (Int × Int × Int × Int) × (Int × Int × Int × Int)) × (List (Int × Int × Int))))).bind fun x12 => (DP x12 0 x3).bind fun x13 => some x13)
theorem Dh (Y : Nat → Prop) (X : List Nat) (w0 : World) (v1 : Value) (q_p1c0 : Nat) (v2 : Value) (p0 : List (Int × (Int × (Int × Int × Int × Int) × (Int × Int × Int × Int)) × (List (Int × Int × Int)))) (p1c0 : Int × (Int × (Int × Int × Int × Int) × (Int × Int × Int × Int)) × (List (Int × Int × Int))) (r : (List (Int × (Int × (Int × Int × Int × Int) × (Int × Int × Int × Int)) × (List (Int × Int × Int))))) (H : AN p0 p1c0 = some r) (h_v2 : Sl w0 (NX X) Bl v2 p1c0.2.2) (a_q_p1c0 : At ⟨Y, X, w0⟩ q_p1c0 0 [.int .i64 p1c0.1, .int .i64 p1c0.2.1.1, .int .i64 p1c0.2.1.2.1.1, .int .i64 p1c0.2.1.2.1.2.1, .int .i64 p1c0.2.1.2.1.2.2.1, .int .i64 p1c0.2.1.2.1.2.2.2, .int .i64 p1c0.2.1.2.2.1, .int .i64 p1c0.2.1.2.2.2.1, .int .i64 p1c0.2.1.2.2.2.2.1, .int .i64 p1c0.2.1.2.2.2.2.2, v2]) (hL : Stw ⟨Y, X, w0⟩ [] [row v1 37 A5 p0] w0) :
    Calls Try.prog 53 #[v1, .func (.func 73) #[] #[.pointer (some ⟨q_p1c0, 0, none⟩)]] w0 fun e w' => ∃ x : Value, e = .returned (x) ∧ Stw ⟨Y, X, w0⟩ [] [row (x) 37 A5 r] w' := by
 refine enter Try.func53 Aa Try.ntmps53 Aa fun a W => ?_
 have F := hL
 unfold AN at H
 refine vc tk 9 W F fun a w W F => ?_
 obtain ⟨x1, h1, H⟩ := Ah H
 refine ls W F Aa (AU (v := Value.int .i64 x1) W P7 Aa (fun w F => Cm any w (v1) q_p1c0 (v2) p0 p1c0 _ h1 (CY (A4 0 Aa) F) (CY (Aj h_v2) F) (At.re a_q_p1c0 F))) fun a w W F => ?_
 refine BV tk 10 W F fun a w W F => ?_
 refine Br W Aa H (fun W H => ?_) fun W H => ?_
 ·
  refine vc tk 6 W F fun a w W F => ?_
  refine Al (Ap ?_)
  have H := Aw H
  subst H
  refine Aq (.inl Aa) W F Aa (Ak W Aa) ?_
  exact ⟨(v1), Aa, F⟩
 refine AH (Ad ?_)
 obtain ⟨o1, G1, K1⟩ := Ah H
 refine AC (fun a w => ∃ x2 : List (Int × (Int × (Int × Int × Int × Int) × (Int × Int × Int × Int)) × (List (Int × Int × Int))), ∃ x3 : Int, some ((x2, x3)) = some o1 ∧ Fr 42 [] [(0, v1), (4, .slice none 0 0), (5, .int .i64 x3)] a ∧ Stw ⟨Y, X, w0⟩ [] [row v1 37 A5 x2] w) ?_ ?_
 ·
  have H := G1
  clear G1 K1
  refine vc tk 8 W F fun a w W F => ?_
  refine BI H (fun s a w => Fr 42 [] [(0, v1), (1, .func (.func 73) #[] #[.pointer (some ⟨q_p1c0, 0, none⟩)]), (4, .slice none 0 0), (5, .int .i64 s.2.1), (6, .int .i64 s.2.2)] a ∧ Stw ⟨Y, X, w0⟩ [] [row v1 37 A5 s.1] w) ⟨W.ra Aa, F⟩ fun s o a w H L2 hR => ?_
  obtain ⟨x4, x5, x6⟩ := s
  obtain ⟨W, F⟩ := hR
  have W : Fr 42 [] [(0, v1), (1, .func (.func 73) #[] #[.pointer (some ⟨q_p1c0, 0, none⟩)]), (4, .slice none 0 0), (5, .int .i64 x5), (6, .int .i64 x6)] a := W
  have F : Stw ⟨Y, X, w0⟩ [] [row v1 37 A5 x4] w := F
  rw [AY] at H
  refine vc tk 5 W F fun a w W F => ?_
  refine ls W F Aa (BQ (r := A5) (l := x4) E2 Aa W Aa (A4 0 Aa)).q fun a w W F => ?_
  refine BV tk 3 W F fun a w W F => ?_
  refine Br W Aa H (fun W H => ?_) fun W H => ?_
  ·
   refine AH (Ad ?_)
   obtain ⟨o3, G3, K3⟩ := Ah H
   refine AC (fun a w => ∃ x7 : List (Int × (Int × (Int × Int × Int × Int) × (Int × Int × Int × Int)) × (List (Int × Int × Int))), ∃ x8 : Int, some ((x7, x8)) = some o3 ∧ Fr 42 [] [(0, v1), (1, .func (.func 73) #[] #[.pointer (some ⟨q_p1c0, 0, none⟩)]), (4, .slice none 0 0), (5, .int .i64 x8), (6, .int .i64 x6)] a ∧ Stw ⟨Y, X, w0⟩ [] [row v1 37 A5 x7] w) ?_ ?_
   ·
    have H := G3
    clear G3 K3
    refine vc tk 2 W F fun a w W F => ?_
    obtain ⟨v3, h2, F⟩ := F.exR BH
    refine vc tk 3 W F fun a w W F => ?_
    obtain ⟨x9, h3, H⟩ := Ah H
    obtain ⟨v4, h4, h5⟩ := Ck h2 h3
    have h6 : CK v4 = [.int .i64 x9.1, .int .i64 x9.2.1.1, .int .i64 x9.2.1.2.1.1, .int .i64 x9.2.1.2.1.2.1, .int .i64 x9.2.1.2.1.2.2.1, .int .i64 x9.2.1.2.1.2.2.2, .int .i64 x9.2.1.2.2.1, .int .i64 x9.2.1.2.2.2.1, .int .i64 x9.2.1.2.2.2.2.1, .int .i64 x9.2.1.2.2.2.2.2, (v4.2.2.1)] := congrArg (fun q : Int × (Int × (Int × Int × Int × Int) × (Int × Int × Int × Int)) × (List (Int × Int × Int)) => ([.int .i64 q.1, .int .i64 q.2.1.1, .int .i64 q.2.1.2.1.1, .int .i64 q.2.1.2.1.2.1, .int .i64 q.2.1.2.1.2.2.1, .int .i64 q.2.1.2.1.2.2.2, .int .i64 q.2.1.2.2.1, .int .i64 q.2.1.2.2.2.1, .int .i64 q.2.1.2.2.2.2.1, .int .i64 q.2.1.2.2.2.2.2, (v4.2.2.1)] : List Value)) h5
    refine ls W F Aa (A8 (r := DU) FQ W Aa Aa (A4 0 Aa) h4).q fun a w W F => ?_
    refine ls W F Aa (AE (y := Value.agg #[.int .i64 x9.1, .int .i64 x9.2.1.1, .int .i64 x9.2.1.2.1.1, .int .i64 x9.2.1.2.1.2.1, .int .i64 x9.2.1.2.1.2.2.1, .int .i64 x9.2.1.2.1.2.2.2, .int .i64 x9.2.1.2.2.1, .int .i64 x9.2.1.2.2.2.1, .int .i64 x9.2.1.2.2.2.2.1, .int .i64 x9.2.1.2.2.2.2.2, (v4.2.2.1)]) (j := 0) (i := x6) (enc := CK) W Aa Aa (A4 0 Aa) h4 Fo Fk (by rw [h6]; rfl)).q fun a w W F => ?_
    have F := F.note (F.rowAt (k := 0) Aa h4 (Ay.snd (Ay.snd Ay.here)) (congrArg (fun q : Int × (Int × (Int × Int × Int × Int) × (Int × Int × Int × Int)) × (List (Int × Int × Int)) => q.2.2) h5))
    refine Cn (cs := (Ig)) W F Aa Mx Aa fun b1 a w W F => ?_
    refine EJ 0 W F Aa Aa Aa Fk Aa Aa (Ac Aa (Ac Aa (Ac Aa (Ac Aa (Ac Aa (Ac Aa (Ac Aa (Ac Aa (Ac Aa (Ac Aa (Ac (F.oneF (k := 0) Aa) Ct))))))))))) fun w F => ?_
    refine EY tk 6 [0] W F (ai fun a w W F => ?_)
    refine ls W F Aa (EH (ws := [.agg #[.int .i64 x9.1, .int .i64 x9.2.1.1, .int .i64 x9.2.1.2.1.1, .int .i64 x9.2.1.2.1.2.1, .int .i64 x9.2.1.2.1.2.2.1, .int .i64 x9.2.1.2.1.2.2.2, .int .i64 x9.2.1.2.2.1, .int .i64 x9.2.1.2.2.2.1, .int .i64 x9.2.1.2.2.2.2.1, .int .i64 x9.2.1.2.2.2.2.2, (v4.2.2.1)], .pointer (some ⟨q_p1c0, 0, none⟩)]) (v := Value.bool (B5 x9 p1c0)) W QL Aa (fun w F => Ev any w ((v4.2.2.1)) q_p1c0 (v2) x9 p1c0 _ Aa (CY (Ds 0 Aa) F) (CY (Aj h_v2) F) (At.re a_q_p1c0 F))) fun a w W F => ?_
    refine BV tk 3 W F fun a w W F => ?_
    refine B8 W Aa H (fun W H => ?_) fun W H => ?_
    ·
     refine Gh tk 5 [0] W F (ai fun a w W F => ?_)
     obtain ⟨x10, h7, H⟩ := Ah H
     obtain ⟨v5, h8, h9⟩ := Ck h2 h7
     have h10 : CK v5 = [.int .i64 x10.1, .int .i64 x10.2.1.1, .int .i64 x10.2.1.2.1.1, .int .i64 x10.2.1.2.1.2.1, .int .i64 x10.2.1.2.1.2.2.1, .int .i64 x10.2.1.2.1.2.2.2, .int .i64 x10.2.1.2.2.1, .int .i64 x10.2.1.2.2.2.1, .int .i64 x10.2.1.2.2.2.2.1, .int .i64 x10.2.1.2.2.2.2.2, (v5.2.2.1)] := congrArg (fun q : Int × (Int × (Int × Int × Int × Int) × (Int × Int × Int × Int)) × (List (Int × Int × Int)) => ([.int .i64 q.1, .int .i64 q.2.1.1, .int .i64 q.2.1.2.1.1, .int .i64 q.2.1.2.1.2.1, .int .i64 q.2.1.2.1.2.2.1, .int .i64 q.2.1.2.1.2.2.2, .int .i64 q.2.1.2.2.1, .int .i64 q.2.1.2.2.2.1, .int .i64 q.2.1.2.2.2.2.1, .int .i64 q.2.1.2.2.2.2.2, (v5.2.2.1)] : List Value)) h9
     refine ls W F Aa (A8 (r := DU) FQ W Aa Aa (A4 1 Aa) h8).q fun a w W F => ?_
     have F := F.frontZ (i := 1) Aa Aa
     have F := F.hideR BH h2
     refine EO (r := A5) (i := x5) (j := 0) (vs := [.int .i64 x9.1, .int .i64 x9.2.1.1, .int .i64 x9.2.1.2.1.1, .int .i64 x9.2.1.2.1.2.1, .int .i64 x9.2.1.2.1.2.2.1, .int .i64 x9.2.1.2.1.2.2.2, .int .i64 x9.2.1.2.2.1, .int .i64 x9.2.1.2.2.2.1, .int .i64 x9.2.1.2.2.2.2.1, .int .i64 x9.2.1.2.2.2.2.2, (v4.2.2.1)]) (x' := x9) W F rfl rfl rfl (k := 0) rfl rfl h7 Fk rfl rfl rfl (Ac rfl (Ac rfl (Ac rfl (Ac rfl (Ac rfl (Ac rfl (Ac rfl (Ac rfl (Ac rfl (Ac rfl (Ac (F.oneF (k := 1) rfl) Ct))))))))))) (fun A cs hA hc => by obtain ⟨z, hz, hc⟩ := BH.to hc; have e1 := Fo hc; have e2 : CK z = [.int .i64 x10.1, .int .i64 x10.2.1.1, .int .i64 x10.2.1.2.1.1, .int .i64 x10.2.1.2.1.2.1, .int .i64 x10.2.1.2.1.2.2.1, .int .i64 x10.2.1.2.1.2.2.2, .int .i64 x10.2.1.2.2.1, .int .i64 x10.2.1.2.2.2.1, .int .i64 x10.2.1.2.2.2.2.1, .int .i64 x10.2.1.2.2.2.2.2, (z.2.2.1)] := (congrArg (fun q : Int × (Int × (Int × Int × Int × Int) × (Int × Int × Int × Int)) × (List (Int × Int × Int)) => ([.int .i64 q.1, .int .i64 q.2.1.1, .int .i64 q.2.1.2.1.1, .int .i64 q.2.1.2.1.2.1, .int .i64 q.2.1.2.1.2.2.1, .int .i64 q.2.1.2.1.2.2.2, .int .i64 q.2.1.2.2.1, .int .i64 q.2.1.2.2.2.1, .int .i64 q.2.1.2.2.2.2.1, .int .i64 q.2.1.2.2.2.2.2, (z.2.2.1)] : List Value)) hz); rw [e1, e2]; exact ⟨[Value.int .i64 x9.1], [Value.int .i64 x9.2.1.1, Value.int .i64 x9.2.1.2.1.1, Value.int .i64 x9.2.1.2.1.2.1, Value.int .i64 x9.2.1.2.1.2.2.1, Value.int .i64 x9.2.1.2.1.2.2.2, Value.int .i64 x9.2.1.2.2.1, Value.int .i64 x9.2.1.2.2.2.1, Value.int .i64 x9.2.1.2.2.2.2.1, Value.int .i64 x9.2.1.2.2.2.2.2, (v4.2.2.1)], rfl, rfl, ⟨[Value.int .i64 x9.2.1.1, Value.int .i64 x9.2.1.2.1.1, Value.int .i64 x9.2.1.2.1.2.1, Value.int .i64 x9.2.1.2.1.2.2.1, Value.int .i64 x9.2.1.2.1.2.2.2, Value.int .i64 x9.2.1.2.2.1, Value.int .i64 x9.2.1.2.2.2.1, Value.int .i64 x9.2.1.2.2.2.2.1, Value.int .i64 x9.2.1.2.2.2.2.2], [(v4.2.2.1)], rfl, ⟨[Value.int .i64 x9.2.1.1], [Value.int .i64 x9.2.1.2.1.1, Value.int .i64 x9.2.1.2.1.2.1, Value.int .i64 x9.2.1.2.1.2.2.1, Value.int .i64 x9.2.1.2.1.2.2.2, Value.int .i64 x9.2.1.2.2.1, Value.int .i64 x9.2.1.2.2.2.1, Value.int .i64 x9.2.1.2.2.2.2.1, Value.int .i64 x9.2.1.2.2.2.2.2], rfl, rfl, ⟨[Value.int .i64 x9.2.1.2.1.1, Value.int .i64 x9.2.1.2.1.2.1, Value.int .i64 x9.2.1.2.1.2.2.1, Value.int .i64 x9.2.1.2.1.2.2.2], [Value.int .i64 x9.2.1.2.2.1, Value.int .i64 x9.2.1.2.2.2.1, Value.int .i64 x9.2.1.2.2.2.2.1, Value.int .i64 x9.2.1.2.2.2.2.2], rfl, ⟨[Value.int .i64 x9.2.1.2.1.1], [Value.int .i64 x9.2.1.2.1.2.1, Value.int .i64 x9.2.1.2.1.2.2.1, Value.int .i64 x9.2.1.2.1.2.2.2], rfl, rfl, ⟨[Value.int .i64 x9.2.1.2.1.2.1], [Value.int .i64 x9.2.1.2.1.2.2.1, Value.int .i64 x9.2.1.2.1.2.2.2], rfl, rfl, ⟨[Value.int .i64 x9.2.1.2.1.2.2.1], [Value.int .i64 x9.2.1.2.1.2.2.2], rfl, rfl, rfl⟩⟩⟩, ⟨[Value.int .i64 x9.2.1.2.2.1], [Value.int .i64 x9.2.1.2.2.2.1, Value.int .i64 x9.2.1.2.2.2.2.1, Value.int .i64 x9.2.1.2.2.2.2.2], rfl, rfl, ⟨[Value.int .i64 x9.2.1.2.2.2.1], [Value.int .i64 x9.2.1.2.2.2.2.1, Value.int .i64 x9.2.1.2.2.2.2.2], rfl, rfl, ⟨[Value.int .i64 x9.2.1.2.2.2.2.1], [Value.int .i64 x9.2.1.2.2.2.2.2], rfl, rfl, rfl⟩⟩⟩⟩⟩, ⟨_, rfl, (Sl.stab (F.item (i := 1) rfl) (fun b hb _ => ⟨hA b hb, rfl⟩))⟩⟩⟩) fun w F => ?_
     refine BV tk 7 W F fun a w W F => ?_
     refine AV (Ad ?_)
     have F := F.sub (M' := []) (Z' := [row v1 37 A5 (C9 x4 x5 x9)]) (List.nil_sublist _) (List.Sublist.cons_cons _ (List.nil_sublist _))
     exact ⟨_, _, H, W.ra Aa, F⟩
    refine AH (AV (Ad ?_))
    have F := F.frontZ (i := 1) Aa Aa
    have F := F.hideR BH h2
    have F := F.sub (M' := []) (Z' := [row v1 37 A5 x4]) (List.nil_sublist _) (List.Sublist.cons_cons _ (List.nil_sublist _))
    exact ⟨_, _, H, W.ra Aa, F⟩
   rintro a w ⟨x7, x8, hj, W, F⟩
   have hj := Aw hj
   subst hj
   have H := K3
   clear G3 K3
   refine vc tk 5 W F fun a w W F => ?_
   refine Ad ?_
   exact ⟨_, H, W.ra Aa, F⟩
  refine Bz ?_
  iterate 2 refine B7 ?_
  refine BC (Ad ?_)
  have H := L2 _ H
  exact ⟨_, _, H, W.ra Aa, F⟩
 rintro a w ⟨x2, x3, hj, W, F⟩
 have hj := Aw hj
 subst hj
 have H := K1
 clear G1 K1
 refine vc tk 4 W F fun a w W F => ?_
 obtain ⟨x11, h11, H⟩ := Ah H
 refine ls W F Aa (ED (r := A5) FQ W Aa Aa Aa (A4 0 Aa) h11).q fun a w W F => ?_
 obtain ⟨x12, h12, H⟩ := Ah H
 refine K0 (r := A5) (v := v1) (k := 0) ((0, (0, (0, 0, 0, 0), (0, 0, 0, 0)), []) : Int × (Int × (Int × Int × Int × Int) × (Int × Int × Int × Int)) × (List (Int × Int × Int))) W F FQ Mx Aa Aa Aa h11 (fun w A => ⟨[Value.int .i64 0], [Value.int .i64 0, Value.int .i64 0, Value.int .i64 0, Value.int .i64 0, Value.int .i64 0, Value.int .i64 0, Value.int .i64 0, Value.int .i64 0, Value.int .i64 0, Value.slice none 0 0], Aa, Aa, ⟨[Value.int .i64 0, Value.int .i64 0, Value.int .i64 0, Value.int .i64 0, Value.int .i64 0, Value.int .i64 0, Value.int .i64 0, Value.int .i64 0, Value.int .i64 0], [Value.slice none 0 0], Aa, ⟨[Value.int .i64 0], [Value.int .i64 0, Value.int .i64 0, Value.int .i64 0, Value.int .i64 0, Value.int .i64 0, Value.int .i64 0, Value.int .i64 0, Value.int .i64 0], Aa, Aa, ⟨[Value.int .i64 0, Value.int .i64 0, Value.int .i64 0, Value.int .i64 0], [Value.int .i64 0, Value.int .i64 0, Value.int .i64 0, Value.int .i64 0], Aa, ⟨[Value.int .i64 0], [Value.int .i64 0, Value.int .i64 0, Value.int .i64 0], Aa, Aa, ⟨[Value.int .i64 0], [Value.int .i64 0, Value.int .i64 0], Aa, Aa, ⟨[Value.int .i64 0], [Value.int .i64 0], Aa, Aa, Aa⟩⟩⟩, ⟨[Value.int .i64 0], [Value.int .i64 0, Value.int .i64 0, Value.int .i64 0], Aa, Aa, ⟨[Value.int .i64 0], [Value.int .i64 0, Value.int .i64 0], Aa, Aa, ⟨[Value.int .i64 0], [Value.int .i64 0], Aa, Aa, Aa⟩⟩⟩⟩⟩, ⟨_, Aa, Sl.nil⟩⟩⟩) h12 fun w F => ?_
 have F : Stw ⟨Y, X, w0⟩ [] [row v1 37 A5 x12] w := F
 refine BV tk 6 W F fun a w W F => ?_
 obtain ⟨x13, h13, H⟩ := Ah H
 refine ls W F Aa (ED (r := A5) FQ W Aa Aa Aa (A4 0 Aa) h13).q fun a w W F => ?_
 refine BV tk 3 W F fun a w W F => ?_
 refine Al ?_
 have H := Aw H
 subst H
 refine Aq (.inl Aa) W F Aa (Ak W Aa) ?_
 have F := F.subRow (k := 0) Aa Aa h13
 exact ⟨((B6 v1 (0 : Int) x3 11)), Aa, F⟩
end Go.Proofs.Ytfnmlmglmegamaa
