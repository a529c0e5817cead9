/- The functions of layer 12, FK. Conditions: none. -/
import Derived.Test.YtfnmlmglmegamaabA1
namespace Go.Proofs.Ytfnmlmglmegamaa
open Go Go.RowKit
set_option linter.unusedVariables false
set_option linter.unusedSimpArgs false
set_option maxRecDepth 20000
theorem RU : Has Try.prog 26 := BV Try.func26
noncomputable def DV  : Option Bool := (ER 1 1 5 0).bind fun x1 => (ER 1 2 5 1).bind fun x2 => (AS Ci 1 (1, x2, false)).bind fun x3 => (AS x3.2 0 (1, x1, false)).bind fun x4 => (AS x4.2 1 (1, x2, false)).bind fun x5 => (AQ x5.2 2).bind fun x6 => (AY x6.2).bind fun x7 => (if x3.1 = 0 then (if x4.1 = x3.1 then (if x5.1 = x3.1 then (if x6.1 = x3.1 then (if (x7.length : Int) = 2 then (ix x7 0).bind fun x9 => (DH x9 (1, x1, false)).bind fun x10 => (if x10 = true then (ix x7 1).bind fun x11 => (DH x11 (1, x2, false)).bind fun x12 => (if x12 = true then some (decide ((Ao x6.2) = 1)) else some false) else some false) else some false) else some false) else some false) else some false) else some false).bind fun x8 => some x8
theorem GT (Y : Nat → Prop) (w0 : World)   (r : Bool) (H : DV  = some r)  :
    Calls Try.prog 6 #[] w0 fun e w' => e = .returned (.bool r) ∧ Below w0.heap.size w0 w' := by
 refine enter Try.func6 Aa Try.ntmps6 Aa fun a F => ?_
 have W := Stw.start Y w0
 unfold DV at H
 refine vc tk 7 F W fun a w F W => ?_
 refine AA (Ml := []) (Zl := []) (β := Nat) (rv := fun x => .pointer (some ⟨x, 0, none⟩)) (MM := fun x => []) (ZZ := fun x => [Bw x BO 16 Ci]) F W H7 Aa Aa (fun hL => HT _ w _ Aa) fun x a w F W => ?_
 obtain ⟨b1, rfl⟩ : ∃ y, y = x := ⟨x, rfl⟩
 have W : Stw ⟨Y, [], w0⟩ [] [Bw b1 BO 16 Ci] w := W
 refine BJ tk 5 F W fun a w F W => ?_
 obtain ⟨x1, h1, H⟩ := Af H
 refine AA (Ml := []) (Zl := []) (β := Value) (rv := fun x => .agg #[.int .i64 x1.1, .int .i64 x1.2.1.1, .int .i64 x1.2.1.2.1.1, .int .i64 x1.2.1.2.1.2.1, .int .i64 x1.2.1.2.1.2.2.1, .int .i64 x1.2.1.2.1.2.2.2, .int .i64 x1.2.1.2.2.1, .int .i64 x1.2.1.2.2.2.1, .int .i64 x1.2.1.2.2.2.2.1, .int .i64 x1.2.1.2.2.2.2.2, x]) (MM := fun x => []) (ZZ := fun x => [row x 88 Bk x1.2.2]) F W SH Aa Aa (fun hL => HC _ w 1 1 5 0 _ h1) fun x a w F W => ?_
 obtain ⟨v1, rfl⟩ : ∃ y, y = x := ⟨x, rfl⟩
 have W : Stw ⟨Y, [], w0⟩ [] [row v1 88 Bk x1.2.2, Bw b1 BO 16 Ci] w := W
 refine ls F W Aa (Dr (v := Value.agg #[.int .i64 1, .int .i64 x1.1, .int .i64 x1.2.1.1, .int .i64 x1.2.1.2.1.1, .int .i64 x1.2.1.2.1.2.1, .int .i64 x1.2.1.2.1.2.2.1, .int .i64 x1.2.1.2.1.2.2.2, .int .i64 x1.2.1.2.2.1, .int .i64 x1.2.1.2.2.2.1, .int .i64 x1.2.1.2.2.2.2.1, .int .i64 x1.2.1.2.2.2.2.2, v1, .bool false]) So F Aa (B2 Aa Aa Aa (B2 Aa Aa Aa C1)) Aa).q fun a w F W => ?_
 obtain ⟨x2, h2, H⟩ := Af H
 refine AA (Ml := []) (Zl := []) (β := Value) (rv := fun x => .agg #[.int .i64 x2.1, .int .i64 x2.2.1.1, .int .i64 x2.2.1.2.1.1, .int .i64 x2.2.1.2.1.2.1, .int .i64 x2.2.1.2.1.2.2.1, .int .i64 x2.2.1.2.1.2.2.2, .int .i64 x2.2.1.2.2.1, .int .i64 x2.2.1.2.2.2.1, .int .i64 x2.2.1.2.2.2.2.1, .int .i64 x2.2.1.2.2.2.2.2, x]) (MM := fun x => []) (ZZ := fun x => [row x 88 Bk x2.2.2]) F W SH Aa Aa (fun hL => HC _ w 1 2 5 1 _ h2) fun x a w F W => ?_
 obtain ⟨v2, rfl⟩ : ∃ y, y = x := ⟨x, rfl⟩
 have W : Stw ⟨Y, [], w0⟩ [] [row v2 88 Bk x2.2.2, row v1 88 Bk x1.2.2, Bw b1 BO 16 Ci] w := W
 refine ls F W Aa (Dr (v := Value.agg #[.int .i64 1, .int .i64 x2.1, .int .i64 x2.2.1.1, .int .i64 x2.2.1.2.1.1, .int .i64 x2.2.1.2.1.2.1, .int .i64 x2.2.1.2.1.2.2.1, .int .i64 x2.2.1.2.1.2.2.2, .int .i64 x2.2.1.2.2.1, .int .i64 x2.2.1.2.2.2.1, .int .i64 x2.2.1.2.2.2.2.1, .int .i64 x2.2.1.2.2.2.2.2, v2, .bool false]) So F Aa (B2 Aa Aa Aa (B2 Aa Aa Aa C1)) Aa).q fun a w F W => ?_
 refine Ca (cs := (I8)) F W Aa Pn Aa fun b2 a w F W => ?_
 refine Ca (cs := (I8)) F W Aa Pn Aa fun b3 a w F W => ?_
 refine Dh 1 F W Aa Aa Aa Hd Aa Aa (Ac Aa (Ac Aa (Ac Aa (Ac Aa (Ac Aa (Ac Aa (Ac Aa (Ac Aa (Ac Aa (Ac Aa (Ac Aa (Ac (W.one (k := 1) Aa) (Ac Aa Cr))))))))))))) fun w W => ?_
 refine Dh 0 F W Aa Aa Aa Hd Aa Aa (Ac Aa (Ac Aa (Ac Aa (Ac Aa (Ac Aa (Ac Aa (Ac Aa (Ac Aa (Ac Aa (Ac Aa (Ac Aa (Ac (W.one (k := 0) Aa) (Ac Aa Cr))))))))))))) fun w W => ?_
 refine BJ tk 3 F W fun a w F W => ?_
 refine DN [(true, 0), (true, 1), (true, 3), (true, 4), (true, 6), (true, 7), (true, 9), (false, 2), (false, 5), (false, 8), (false, 10), (false, 11), (false, 12), (false, 13), (false, 14)] (CN ⟨Y, [], w0⟩ [(some 2, b3, [.int .i64 1, .int .i64 x2.1, .int .i64 x2.2.1.1, .int .i64 x2.2.1.2.1.1, .int .i64 x2.2.1.2.1.2.1, .int .i64 x2.2.1.2.1.2.2.1, .int .i64 x2.2.1.2.1.2.2.2, .int .i64 x2.2.1.2.2.1, .int .i64 x2.2.1.2.2.2.1, .int .i64 x2.2.1.2.2.2.2.1, .int .i64 x2.2.1.2.2.2.2.2, v2, .bool false]), (some 5, b2, [.int .i64 1, .int .i64 x1.1, .int .i64 x1.2.1.1, .int .i64 x1.2.1.2.1.1, .int .i64 x1.2.1.2.1.2.1, .int .i64 x1.2.1.2.1.2.2.1, .int .i64 x1.2.1.2.1.2.2.2, .int .i64 x1.2.1.2.2.1, .int .i64 x1.2.1.2.2.2.1, .int .i64 x1.2.1.2.2.2.2.1, .int .i64 x1.2.1.2.2.2.2.2, v1, .bool false]), (some 8, b3, [.int .i64 1, .int .i64 x2.1, .int .i64 x2.2.1.1, .int .i64 x2.2.1.2.1.1, .int .i64 x2.2.1.2.1.2.1, .int .i64 x2.2.1.2.1.2.2.1, .int .i64 x2.2.1.2.1.2.2.2, .int .i64 x2.2.1.2.2.1, .int .i64 x2.2.1.2.2.2.1, .int .i64 x2.2.1.2.2.2.2.1, .int .i64 x2.2.1.2.2.2.2.2, v2, .bool false])] []) (fun ch a d v w h => by cases d <;> exact h) MO (by kernel_rfl) W (fun w W => ⟨_, _, W, (all_cons (fun _ => (.head _)) (all_cons (fun _ => (.tail _ (.head _))) (all_cons (fun _ => (.head _)) Ap))), Ap⟩) fun w W => ?_
 refine BQ (R := []) F Aa Aa (yC fun M Z hN hZ => Am F Aa) Aa Aa fun a F => ?_
 refine BQ (R := [2]) F Aa Aa (yC fun M Z hN hZ => De (cs := [.int .i64 1, .int .i64 x2.1, .int .i64 x2.2.1.1, .int .i64 x2.2.1.2.1.1, .int .i64 x2.2.1.2.1.2.1, .int .i64 x2.2.1.2.1.2.2.1, .int .i64 x2.2.1.2.1.2.2.2, .int .i64 x2.2.1.2.2.1, .int .i64 x2.2.1.2.2.2.1, .int .i64 x2.2.1.2.2.2.2.1, .int .i64 x2.2.1.2.2.2.2.2, v2, .bool false]) (v := Value.agg #[.int .i64 1, .int .i64 x2.1, .int .i64 x2.2.1.1, .int .i64 x2.2.1.2.1.1, .int .i64 x2.2.1.2.1.2.1, .int .i64 x2.2.1.2.1.2.2.1, .int .i64 x2.2.1.2.1.2.2.2, .int .i64 x2.2.1.2.2.1, .int .i64 x2.2.1.2.2.2.1, .int .i64 x2.2.1.2.2.2.2.1, .int .i64 x2.2.1.2.2.2.2.2, v2, .bool false]) F Aa (hN ((some 2), b3, [.int .i64 1, .int .i64 x2.1, .int .i64 x2.2.1.1, .int .i64 x2.2.1.2.1.1, .int .i64 x2.2.1.2.1.2.1, .int .i64 x2.2.1.2.1.2.2.1, .int .i64 x2.2.1.2.1.2.2.2, .int .i64 x2.2.1.2.2.1, .int .i64 x2.2.1.2.2.2.1, .int .i64 x2.2.1.2.2.2.2.1, .int .i64 x2.2.1.2.2.2.2.2, v2, .bool false]) (.head _) Aa) Hd Aa) (by kernel_rfl) Aa fun a F => ?_
 refine BQ (R := []) F Aa Aa (yC fun M Z hN hZ => Am F Aa) Aa Aa fun a F => ?_
 refine BQ (R := [5]) F Aa Aa (yC fun M Z hN hZ => De (cs := [.int .i64 1, .int .i64 x1.1, .int .i64 x1.2.1.1, .int .i64 x1.2.1.2.1.1, .int .i64 x1.2.1.2.1.2.1, .int .i64 x1.2.1.2.1.2.2.1, .int .i64 x1.2.1.2.1.2.2.2, .int .i64 x1.2.1.2.2.1, .int .i64 x1.2.1.2.2.2.1, .int .i64 x1.2.1.2.2.2.2.1, .int .i64 x1.2.1.2.2.2.2.2, v1, .bool false]) (v := Value.agg #[.int .i64 1, .int .i64 x1.1, .int .i64 x1.2.1.1, .int .i64 x1.2.1.2.1.1, .int .i64 x1.2.1.2.1.2.1, .int .i64 x1.2.1.2.1.2.2.1, .int .i64 x1.2.1.2.1.2.2.2, .int .i64 x1.2.1.2.2.1, .int .i64 x1.2.1.2.2.2.1, .int .i64 x1.2.1.2.2.2.2.1, .int .i64 x1.2.1.2.2.2.2.2, v1, .bool false]) F Aa (hN ((some 5), b2, [.int .i64 1, .int .i64 x1.1, .int .i64 x1.2.1.1, .int .i64 x1.2.1.2.1.1, .int .i64 x1.2.1.2.1.2.1, .int .i64 x1.2.1.2.1.2.2.1, .int .i64 x1.2.1.2.1.2.2.2, .int .i64 x1.2.1.2.2.1, .int .i64 x1.2.1.2.2.2.1, .int .i64 x1.2.1.2.2.2.2.1, .int .i64 x1.2.1.2.2.2.2.2, v1, .bool false]) (.tail _ (.head _)) Aa) Hd Aa) (by kernel_rfl) Aa fun a F => ?_
 refine BQ (R := []) F Aa Aa (yC fun M Z hN hZ => Am F Aa) Aa Aa fun a F => ?_
 refine BQ (R := [8]) F Aa Aa (yC fun M Z hN hZ => De (cs := [.int .i64 1, .int .i64 x2.1, .int .i64 x2.2.1.1, .int .i64 x2.2.1.2.1.1, .int .i64 x2.2.1.2.1.2.1, .int .i64 x2.2.1.2.1.2.2.1, .int .i64 x2.2.1.2.1.2.2.2, .int .i64 x2.2.1.2.2.1, .int .i64 x2.2.1.2.2.2.1, .int .i64 x2.2.1.2.2.2.2.1, .int .i64 x2.2.1.2.2.2.2.2, v2, .bool false]) (v := Value.agg #[.int .i64 1, .int .i64 x2.1, .int .i64 x2.2.1.1, .int .i64 x2.2.1.2.1.1, .int .i64 x2.2.1.2.1.2.1, .int .i64 x2.2.1.2.1.2.2.1, .int .i64 x2.2.1.2.1.2.2.2, .int .i64 x2.2.1.2.2.1, .int .i64 x2.2.1.2.2.2.1, .int .i64 x2.2.1.2.2.2.2.1, .int .i64 x2.2.1.2.2.2.2.2, v2, .bool false]) F Aa (hN ((some 8), b3, [.int .i64 1, .int .i64 x2.1, .int .i64 x2.2.1.1, .int .i64 x2.2.1.2.1.1, .int .i64 x2.2.1.2.1.2.1, .int .i64 x2.2.1.2.1.2.2.1, .int .i64 x2.2.1.2.1.2.2.2, .int .i64 x2.2.1.2.2.1, .int .i64 x2.2.1.2.2.2.1, .int .i64 x2.2.1.2.2.2.2.1, .int .i64 x2.2.1.2.2.2.2.2, v2, .bool false]) (.tail _ (.tail _ (.head _))) Aa) Hd Aa) (by kernel_rfl) Aa fun a F => ?_
 refine BQ (R := []) F Aa Aa (yC fun M Z hN hZ => Am F Aa) Aa Aa fun a F => ?_
 refine CT Aa ?_
 obtain ⟨x3, h3, H⟩ := Af H
 have W := W.freeze
 have W := W.frontZ (i := 2) Aa Aa
 refine AA (Ml := []) (Zl := [Bw b1 BO 16 Ci]) (β := Unit) (rv := fun x => .int .i64 x3.1) (MM := fun x => []) (ZZ := fun x => [Bw b1 BO 16 x3.2]) F W H8 Aa Aa (fun hL => Da _ _ w b1 (v2) Ci 1 (1, x2, false) _ h3 (W.item (i := 1) Aa) hL) fun x a w F W => ?_
 have W : Stw ⟨Y, [], w0⟩ [(b3, [.int .i64 1, .int .i64 x2.1, .int .i64 x2.2.1.1, .int .i64 x2.2.1.2.1.1, .int .i64 x2.2.1.2.1.2.1, .int .i64 x2.2.1.2.1.2.2.1, .int .i64 x2.2.1.2.1.2.2.2, .int .i64 x2.2.1.2.2.1, .int .i64 x2.2.1.2.2.2.1, .int .i64 x2.2.1.2.2.2.2.1, .int .i64 x2.2.1.2.2.2.2.2, v2, .bool false]), (b2, [.int .i64 1, .int .i64 x1.1, .int .i64 x1.2.1.1, .int .i64 x1.2.1.2.1.1, .int .i64 x1.2.1.2.1.2.1, .int .i64 x1.2.1.2.1.2.2.1, .int .i64 x1.2.1.2.1.2.2.2, .int .i64 x1.2.1.2.2.1, .int .i64 x1.2.1.2.2.2.1, .int .i64 x1.2.1.2.2.2.2.1, .int .i64 x1.2.1.2.2.2.2.2, v1, .bool false])] [Bw b1 BO 16 x3.2, Bo v2 Bk x2.2.2, row v1 88 Bk x1.2.2] w := W
 refine A0 (N2 := []) (NZ2 := []) (N3 := [(some 2, b3, [.int .i64 1, .int .i64 x2.1, .int .i64 x2.2.1.1, .int .i64 x2.2.1.2.1.1, .int .i64 x2.2.1.2.1.2.1, .int .i64 x2.2.1.2.1.2.2.1, .int .i64 x2.2.1.2.1.2.2.2, .int .i64 x2.2.1.2.2.1, .int .i64 x2.2.1.2.2.2.1, .int .i64 x2.2.1.2.2.2.2.1, .int .i64 x2.2.1.2.2.2.2.2, v2, .bool false]), (some 5, b2, [.int .i64 1, .int .i64 x1.1, .int .i64 x1.2.1.1, .int .i64 x1.2.1.2.1.1, .int .i64 x1.2.1.2.1.2.1, .int .i64 x1.2.1.2.1.2.2.1, .int .i64 x1.2.1.2.1.2.2.2, .int .i64 x1.2.1.2.2.1, .int .i64 x1.2.1.2.2.2.1, .int .i64 x1.2.1.2.2.2.2.1, .int .i64 x1.2.1.2.2.2.2.2, v1, .bool false]), (some 8, b3, [.int .i64 1, .int .i64 x2.1, .int .i64 x2.2.1.1, .int .i64 x2.2.1.2.1.1, .int .i64 x2.2.1.2.1.2.1, .int .i64 x2.2.1.2.1.2.2.1, .int .i64 x2.2.1.2.1.2.2.2, .int .i64 x2.2.1.2.2.1, .int .i64 x2.2.1.2.2.2.1, .int .i64 x2.2.1.2.2.2.2.1, .int .i64 x2.2.1.2.2.2.2.2, v2, .bool false])]) (NZ3 := []) W Aa Aa (all_cons (fun h => AE (by kernel_rfl) h) (all_cons (fun _ => (.tail _ (.head _))) (all_cons (fun _ => (.head _)) Ap))) Ap ?_
 refine CT Aa ?_
 obtain ⟨x4, h4, H⟩ := Af H
 have W := W.frontZ (i := 2) Aa Aa
 have W := W.freeze
 have W := W.frontZ (i := 1) Aa Aa
 refine AA (Ml := []) (Zl := [Bw b1 BO 16 x3.2]) (β := Unit) (rv := fun x => .int .i64 x4.1) (MM := fun x => []) (ZZ := fun x => [Bw b1 BO 16 x4.2]) F W H8 Aa Aa (fun hL => Da _ _ w b1 (v1) x3.2 0 (1, x1, false) _ h4 (W.item (i := 1) Aa) hL) fun x a w F W => ?_
 have W : Stw ⟨Y, [], w0⟩ [(b3, [.int .i64 1, .int .i64 x2.1, .int .i64 x2.2.1.1, .int .i64 x2.2.1.2.1.1, .int .i64 x2.2.1.2.1.2.1, .int .i64 x2.2.1.2.1.2.2.1, .int .i64 x2.2.1.2.1.2.2.2, .int .i64 x2.2.1.2.2.1, .int .i64 x2.2.1.2.2.2.1, .int .i64 x2.2.1.2.2.2.2.1, .int .i64 x2.2.1.2.2.2.2.2, v2, .bool false]), (b2, [.int .i64 1, .int .i64 x1.1, .int .i64 x1.2.1.1, .int .i64 x1.2.1.2.1.1, .int .i64 x1.2.1.2.1.2.1, .int .i64 x1.2.1.2.1.2.2.1, .int .i64 x1.2.1.2.1.2.2.2, .int .i64 x1.2.1.2.2.1, .int .i64 x1.2.1.2.2.2.1, .int .i64 x1.2.1.2.2.2.2.1, .int .i64 x1.2.1.2.2.2.2.2, v1, .bool false])] [Bw b1 BO 16 x4.2, Bo v1 Bk x1.2.2, Bo v2 Bk x2.2.2] w := W
 refine A0 (N2 := []) (NZ2 := []) (N3 := [(some 2, b3, [.int .i64 1, .int .i64 x2.1, .int .i64 x2.2.1.1, .int .i64 x2.2.1.2.1.1, .int .i64 x2.2.1.2.1.2.1, .int .i64 x2.2.1.2.1.2.2.1, .int .i64 x2.2.1.2.1.2.2.2, .int .i64 x2.2.1.2.2.1, .int .i64 x2.2.1.2.2.2.1, .int .i64 x2.2.1.2.2.2.2.1, .int .i64 x2.2.1.2.2.2.2.2, v2, .bool false]), (some 5, b2, [.int .i64 1, .int .i64 x1.1, .int .i64 x1.2.1.1, .int .i64 x1.2.1.2.1.1, .int .i64 x1.2.1.2.1.2.1, .int .i64 x1.2.1.2.1.2.2.1, .int .i64 x1.2.1.2.1.2.2.2, .int .i64 x1.2.1.2.2.1, .int .i64 x1.2.1.2.2.2.1, .int .i64 x1.2.1.2.2.2.2.1, .int .i64 x1.2.1.2.2.2.2.2, v1, .bool false]), (some 8, b3, [.int .i64 1, .int .i64 x2.1, .int .i64 x2.2.1.1, .int .i64 x2.2.1.2.1.1, .int .i64 x2.2.1.2.1.2.1, .int .i64 x2.2.1.2.1.2.2.1, .int .i64 x2.2.1.2.1.2.2.2, .int .i64 x2.2.1.2.2.1, .int .i64 x2.2.1.2.2.2.1, .int .i64 x2.2.1.2.2.2.2.1, .int .i64 x2.2.1.2.2.2.2.2, v2, .bool false])]) (NZ3 := []) W Aa Aa (all_cons (fun h => AE (by kernel_rfl) h) (all_cons (fun h => AE (by kernel_rfl) h) (all_cons (fun _ => (.head _)) Ap))) Ap ?_
 refine CT Aa ?_
 obtain ⟨x5, h5, H⟩ := Af H
 refine AA (Ml := []) (Zl := [Bw b1 BO 16 x4.2]) (β := Unit) (rv := fun x => .int .i64 x5.1) (MM := fun x => []) (ZZ := fun x => [Bw b1 BO 16 x5.2]) F W H8 Aa Aa (fun hL => Da _ _ w b1 (v2) x4.2 1 (1, x2, false) _ h5 (W.item (i := 2) Aa) hL) fun x a w F W => ?_
 have W : Stw ⟨Y, [], w0⟩ [(b3, [.int .i64 1, .int .i64 x2.1, .int .i64 x2.2.1.1, .int .i64 x2.2.1.2.1.1, .int .i64 x2.2.1.2.1.2.1, .int .i64 x2.2.1.2.1.2.2.1, .int .i64 x2.2.1.2.1.2.2.2, .int .i64 x2.2.1.2.2.1, .int .i64 x2.2.1.2.2.2.1, .int .i64 x2.2.1.2.2.2.2.1, .int .i64 x2.2.1.2.2.2.2.2, v2, .bool false]), (b2, [.int .i64 1, .int .i64 x1.1, .int .i64 x1.2.1.1, .int .i64 x1.2.1.2.1.1, .int .i64 x1.2.1.2.1.2.1, .int .i64 x1.2.1.2.1.2.2.1, .int .i64 x1.2.1.2.1.2.2.2, .int .i64 x1.2.1.2.2.1, .int .i64 x1.2.1.2.2.2.1, .int .i64 x1.2.1.2.2.2.2.1, .int .i64 x1.2.1.2.2.2.2.2, v1, .bool false])] [Bw b1 BO 16 x5.2, Bo v1 Bk x1.2.2, Bo v2 Bk x2.2.2] w := W
 refine A0 (N2 := []) (NZ2 := []) (N3 := [(some 2, b3, [.int .i64 1, .int .i64 x2.1, .int .i64 x2.2.1.1, .int .i64 x2.2.1.2.1.1, .int .i64 x2.2.1.2.1.2.1, .int .i64 x2.2.1.2.1.2.2.1, .int .i64 x2.2.1.2.1.2.2.2, .int .i64 x2.2.1.2.2.1, .int .i64 x2.2.1.2.2.2.1, .int .i64 x2.2.1.2.2.2.2.1, .int .i64 x2.2.1.2.2.2.2.2, v2, .bool false]), (some 5, b2, [.int .i64 1, .int .i64 x1.1, .int .i64 x1.2.1.1, .int .i64 x1.2.1.2.1.1, .int .i64 x1.2.1.2.1.2.1, .int .i64 x1.2.1.2.1.2.2.1, .int .i64 x1.2.1.2.1.2.2.2, .int .i64 x1.2.1.2.2.1, .int .i64 x1.2.1.2.2.2.1, .int .i64 x1.2.1.2.2.2.2.1, .int .i64 x1.2.1.2.2.2.2.2, v1, .bool false]), (some 8, b3, [.int .i64 1, .int .i64 x2.1, .int .i64 x2.2.1.1, .int .i64 x2.2.1.2.1.1, .int .i64 x2.2.1.2.1.2.1, .int .i64 x2.2.1.2.1.2.2.1, .int .i64 x2.2.1.2.1.2.2.2, .int .i64 x2.2.1.2.2.1, .int .i64 x2.2.1.2.2.2.1, .int .i64 x2.2.1.2.2.2.2.1, .int .i64 x2.2.1.2.2.2.2.2, v2, .bool false])]) (NZ3 := []) W Aa Aa (all_cons (fun h => AE (by kernel_rfl) h) (all_cons (fun h => AE (by kernel_rfl) h) (all_cons (fun h => AE (by kernel_rfl) h) Ap))) Ap ?_
 refine CT Aa ?_
 obtain ⟨x6, h6, H⟩ := Af H
 refine AA (Ml := []) (Zl := [Bw b1 BO 16 x5.2]) (β := Unit) (rv := fun x => .int .i64 x6.1) (MM := fun x => []) (ZZ := fun x => [Bw b1 BO 16 x6.2]) F W Sw Aa Aa (fun hL => EK _ _ w b1 x5.2 2 _ h6 hL) fun x a w F W => ?_
 have W : Stw ⟨Y, [], w0⟩ [(b3, [.int .i64 1, .int .i64 x2.1, .int .i64 x2.2.1.1, .int .i64 x2.2.1.2.1.1, .int .i64 x2.2.1.2.1.2.1, .int .i64 x2.2.1.2.1.2.2.1, .int .i64 x2.2.1.2.1.2.2.2, .int .i64 x2.2.1.2.2.1, .int .i64 x2.2.1.2.2.2.1, .int .i64 x2.2.1.2.2.2.2.1, .int .i64 x2.2.1.2.2.2.2.2, v2, .bool false]), (b2, [.int .i64 1, .int .i64 x1.1, .int .i64 x1.2.1.1, .int .i64 x1.2.1.2.1.1, .int .i64 x1.2.1.2.1.2.1, .int .i64 x1.2.1.2.1.2.2.1, .int .i64 x1.2.1.2.1.2.2.2, .int .i64 x1.2.1.2.2.1, .int .i64 x1.2.1.2.2.2.1, .int .i64 x1.2.1.2.2.2.2.1, .int .i64 x1.2.1.2.2.2.2.2, v1, .bool false])] [Bw b1 BO 16 x6.2, Bo v1 Bk x1.2.2, Bo v2 Bk x2.2.2] w := W
 refine A0 (N2 := []) (NZ2 := []) (N3 := [(some 2, b3, [.int .i64 1, .int .i64 x2.1, .int .i64 x2.2.1.1, .int .i64 x2.2.1.2.1.1, .int .i64 x2.2.1.2.1.2.1, .int .i64 x2.2.1.2.1.2.2.1, .int .i64 x2.2.1.2.1.2.2.2, .int .i64 x2.2.1.2.2.1, .int .i64 x2.2.1.2.2.2.1, .int .i64 x2.2.1.2.2.2.2.1, .int .i64 x2.2.1.2.2.2.2.2, v2, .bool false]), (some 5, b2, [.int .i64 1, .int .i64 x1.1, .int .i64 x1.2.1.1, .int .i64 x1.2.1.2.1.1, .int .i64 x1.2.1.2.1.2.1, .int .i64 x1.2.1.2.1.2.2.1, .int .i64 x1.2.1.2.1.2.2.2, .int .i64 x1.2.1.2.2.1, .int .i64 x1.2.1.2.2.2.1, .int .i64 x1.2.1.2.2.2.2.1, .int .i64 x1.2.1.2.2.2.2.2, v1, .bool false]), (some 8, b3, [.int .i64 1, .int .i64 x2.1, .int .i64 x2.2.1.1, .int .i64 x2.2.1.2.1.1, .int .i64 x2.2.1.2.1.2.1, .int .i64 x2.2.1.2.1.2.2.1, .int .i64 x2.2.1.2.1.2.2.2, .int .i64 x2.2.1.2.2.1, .int .i64 x2.2.1.2.2.2.1, .int .i64 x2.2.1.2.2.2.2.1, .int .i64 x2.2.1.2.2.2.2.2, v2, .bool false])]) (NZ3 := []) W Aa Aa (all_cons (fun h => AE (by kernel_rfl) h) (all_cons (fun h => AE (by kernel_rfl) h) (all_cons (fun h => AE (by kernel_rfl) h) Ap))) Ap ?_
 refine CT Aa ?_
 refine ls F W Aa (BI F Aa).q fun a w F W => ?_
 refine A0 (N2 := []) (NZ2 := []) (N3 := [(some 2, b3, [.int .i64 1, .int .i64 x2.1, .int .i64 x2.2.1.1, .int .i64 x2.2.1.2.1.1, .int .i64 x2.2.1.2.1.2.1, .int .i64 x2.2.1.2.1.2.2.1, .int .i64 x2.2.1.2.1.2.2.2, .int .i64 x2.2.1.2.2.1, .int .i64 x2.2.1.2.2.2.1, .int .i64 x2.2.1.2.2.2.2.1, .int .i64 x2.2.1.2.2.2.2.2, v2, .bool false]), (some 5, b2, [.int .i64 1, .int .i64 x1.1, .int .i64 x1.2.1.1, .int .i64 x1.2.1.2.1.1, .int .i64 x1.2.1.2.1.2.1, .int .i64 x1.2.1.2.1.2.2.1, .int .i64 x1.2.1.2.1.2.2.2, .int .i64 x1.2.1.2.2.1, .int .i64 x1.2.1.2.2.2.1, .int .i64 x1.2.1.2.2.2.2.1, .int .i64 x1.2.1.2.2.2.2.2, v1, .bool false]), (some 8, b3, [.int .i64 1, .int .i64 x2.1, .int .i64 x2.2.1.1, .int .i64 x2.2.1.2.1.1, .int .i64 x2.2.1.2.1.2.1, .int .i64 x2.2.1.2.1.2.2.1, .int .i64 x2.2.1.2.1.2.2.2, .int .i64 x2.2.1.2.2.1, .int .i64 x2.2.1.2.2.2.1, .int .i64 x2.2.1.2.2.2.2.1, .int .i64 x2.2.1.2.2.2.2.2, v2, .bool false])]) (NZ3 := []) W Aa Aa (all_cons (fun h => AE (by kernel_rfl) h) (all_cons (fun h => AE (by kernel_rfl) h) (all_cons (fun h => AE (by kernel_rfl) h) Ap))) Ap ?_
 refine CT Aa ?_
 refine ls F W Aa (BI F Aa).q fun a w F W => ?_
 refine A0 (N2 := []) (NZ2 := []) (N3 := [(some 2, b3, [.int .i64 1, .int .i64 x2.1, .int .i64 x2.2.1.1, .int .i64 x2.2.1.2.1.1, .int .i64 x2.2.1.2.1.2.1, .int .i64 x2.2.1.2.1.2.2.1, .int .i64 x2.2.1.2.1.2.2.2, .int .i64 x2.2.1.2.2.1, .int .i64 x2.2.1.2.2.2.1, .int .i64 x2.2.1.2.2.2.2.1, .int .i64 x2.2.1.2.2.2.2.2, v2, .bool false]), (some 5, b2, [.int .i64 1, .int .i64 x1.1, .int .i64 x1.2.1.1, .int .i64 x1.2.1.2.1.1, .int .i64 x1.2.1.2.1.2.1, .int .i64 x1.2.1.2.1.2.2.1, .int .i64 x1.2.1.2.1.2.2.2, .int .i64 x1.2.1.2.2.1, .int .i64 x1.2.1.2.2.2.1, .int .i64 x1.2.1.2.2.2.2.1, .int .i64 x1.2.1.2.2.2.2.2, v1, .bool false]), (some 8, b3, [.int .i64 1, .int .i64 x2.1, .int .i64 x2.2.1.1, .int .i64 x2.2.1.2.1.1, .int .i64 x2.2.1.2.1.2.1, .int .i64 x2.2.1.2.1.2.2.1, .int .i64 x2.2.1.2.1.2.2.2, .int .i64 x2.2.1.2.2.1, .int .i64 x2.2.1.2.2.2.1, .int .i64 x2.2.1.2.2.2.2.1, .int .i64 x2.2.1.2.2.2.2.2, v2, .bool false])]) (NZ3 := []) W Aa Aa (all_cons (fun h => AE (by kernel_rfl) h) (all_cons (fun h => AE (by kernel_rfl) h) (all_cons (fun h => AE (by kernel_rfl) h) Ap))) Ap ?_
 refine CT Aa ?_
 refine ls F W Aa (BI F Aa).q fun a w F W => ?_
 refine A0 (N2 := []) (NZ2 := []) (N3 := [(some 2, b3, [.int .i64 1, .int .i64 x2.1, .int .i64 x2.2.1.1, .int .i64 x2.2.1.2.1.1, .int .i64 x2.2.1.2.1.2.1, .int .i64 x2.2.1.2.1.2.2.1, .int .i64 x2.2.1.2.1.2.2.2, .int .i64 x2.2.1.2.2.1, .int .i64 x2.2.1.2.2.2.1, .int .i64 x2.2.1.2.2.2.2.1, .int .i64 x2.2.1.2.2.2.2.2, v2, .bool false]), (some 5, b2, [.int .i64 1, .int .i64 x1.1, .int .i64 x1.2.1.1, .int .i64 x1.2.1.2.1.1, .int .i64 x1.2.1.2.1.2.1, .int .i64 x1.2.1.2.1.2.2.1, .int .i64 x1.2.1.2.1.2.2.2, .int .i64 x1.2.1.2.2.1, .int .i64 x1.2.1.2.2.2.1, .int .i64 x1.2.1.2.2.2.2.1, .int .i64 x1.2.1.2.2.2.2.2, v1, .bool false]), (some 8, b3, [.int .i64 1, .int .i64 x2.1, .int .i64 x2.2.1.1, .int .i64 x2.2.1.2.1.1, .int .i64 x2.2.1.2.1.2.1, .int .i64 x2.2.1.2.1.2.2.1, .int .i64 x2.2.1.2.1.2.2.2, .int .i64 x2.2.1.2.2.1, .int .i64 x2.2.1.2.2.2.1, .int .i64 x2.2.1.2.2.2.2.1, .int .i64 x2.2.1.2.2.2.2.2, v2, .bool false])]) (NZ3 := []) W Aa Aa (all_cons (fun h => AE (by kernel_rfl) h) (all_cons (fun h => AE (by kernel_rfl) h) (all_cons (fun h => AE (by kernel_rfl) h) Ap))) Ap ?_
 refine CT Aa ?_
 refine ls F W Aa (BI F Aa).q fun a w F W => ?_
 refine A0 (N2 := []) (NZ2 := []) (N3 := [(some 2, b3, [.int .i64 1, .int .i64 x2.1, .int .i64 x2.2.1.1, .int .i64 x2.2.1.2.1.1, .int .i64 x2.2.1.2.1.2.1, .int .i64 x2.2.1.2.1.2.2.1, .int .i64 x2.2.1.2.1.2.2.2, .int .i64 x2.2.1.2.2.1, .int .i64 x2.2.1.2.2.2.1, .int .i64 x2.2.1.2.2.2.2.1, .int .i64 x2.2.1.2.2.2.2.2, v2, .bool false]), (some 5, b2, [.int .i64 1, .int .i64 x1.1, .int .i64 x1.2.1.1, .int .i64 x1.2.1.2.1.1, .int .i64 x1.2.1.2.1.2.1, .int .i64 x1.2.1.2.1.2.2.1, .int .i64 x1.2.1.2.1.2.2.2, .int .i64 x1.2.1.2.2.1, .int .i64 x1.2.1.2.2.2.1, .int .i64 x1.2.1.2.2.2.2.1, .int .i64 x1.2.1.2.2.2.2.2, v1, .bool false]), (some 8, b3, [.int .i64 1, .int .i64 x2.1, .int .i64 x2.2.1.1, .int .i64 x2.2.1.2.1.1, .int .i64 x2.2.1.2.1.2.1, .int .i64 x2.2.1.2.1.2.2.1, .int .i64 x2.2.1.2.1.2.2.2, .int .i64 x2.2.1.2.2.1, .int .i64 x2.2.1.2.2.2.1, .int .i64 x2.2.1.2.2.2.2.1, .int .i64 x2.2.1.2.2.2.2.2, v2, .bool false])]) (NZ3 := []) W Aa Aa (all_cons (fun h => AE (by kernel_rfl) h) (all_cons (fun h => AE (by kernel_rfl) h) (all_cons (fun h => AE (by kernel_rfl) h) Ap))) Ap ?_
 refine ET ?_
 refine vn tk 3 F W fun a w F W => ?_
 obtain ⟨x7, h7, H⟩ := Af H
 refine AA (Ml := []) (Zl := [Bw b1 BO 16 x6.2]) (β := Value) (rv := fun x => x) (MM := fun x => []) (ZZ := fun x => [Bw b1 BO 16 x6.2, row x 39 EQ x7]) F W Si Aa Aa (fun hL => DK _ _ w b1 x6.2 _ h7 hL) fun x a w F W => ?_
 obtain ⟨v3, rfl⟩ : ∃ y, y = x := ⟨x, rfl⟩
 have W : Stw ⟨Y, [], w0⟩ [(b3, [.int .i64 1, .int .i64 x2.1, .int .i64 x2.2.1.1, .int .i64 x2.2.1.2.1.1, .int .i64 x2.2.1.2.1.2.1, .int .i64 x2.2.1.2.1.2.2.1, .int .i64 x2.2.1.2.1.2.2.2, .int .i64 x2.2.1.2.2.1, .int .i64 x2.2.1.2.2.2.1, .int .i64 x2.2.1.2.2.2.2.1, .int .i64 x2.2.1.2.2.2.2.2, v2, .bool false]), (b2, [.int .i64 1, .int .i64 x1.1, .int .i64 x1.2.1.1, .int .i64 x1.2.1.2.1.1, .int .i64 x1.2.1.2.1.2.1, .int .i64 x1.2.1.2.1.2.2.1, .int .i64 x1.2.1.2.1.2.2.2, .int .i64 x1.2.1.2.2.1, .int .i64 x1.2.1.2.2.2.1, .int .i64 x1.2.1.2.2.2.2.1, .int .i64 x1.2.1.2.2.2.2.2, v1, .bool false])] [Bw b1 BO 16 x6.2, row v3 39 EQ x7, Bo v1 Bk x1.2.2, Bo v2 Bk x2.2.2] w := W
 refine vl tk 2 F W fun a w F W => ?_
 refine Ad ?_
 obtain ⟨o1, G1, K1⟩ := Af H
 refine Au (fun a w => ∃ x8 : Bool, some (x8) = some o1 ∧ Fr 68 [] [(0, .bool x8)] a ∧ Stw ⟨Y, [], w0⟩ [(b3, [.int .i64 1, .int .i64 x2.1, .int .i64 x2.2.1.1, .int .i64 x2.2.1.2.1.1, .int .i64 x2.2.1.2.1.2.1, .int .i64 x2.2.1.2.1.2.2.1, .int .i64 x2.2.1.2.1.2.2.2, .int .i64 x2.2.1.2.2.1, .int .i64 x2.2.1.2.2.2.1, .int .i64 x2.2.1.2.2.2.2.1, .int .i64 x2.2.1.2.2.2.2.2, v2, .bool false]), (b2, [.int .i64 1, .int .i64 x1.1, .int .i64 x1.2.1.1, .int .i64 x1.2.1.2.1.1, .int .i64 x1.2.1.2.1.2.1, .int .i64 x1.2.1.2.1.2.2.1, .int .i64 x1.2.1.2.1.2.2.2, .int .i64 x1.2.1.2.2.1, .int .i64 x1.2.1.2.2.2.1, .int .i64 x1.2.1.2.2.2.2.1, .int .i64 x1.2.1.2.2.2.2.2, v1, .bool false])] [Bo v2 Bk x2.2.2, Bo v1 Bk x1.2.2, Bw b1 BO 16 x6.2] w) ?_ ?_
 ·
  have H := G1
  clear G1 K1
  obtain ⟨v4, h8, W⟩ := W.exP Dz
  have W := W.frontZ (i := 1) Aa Aa
  obtain ⟨v5, h9, W⟩ := W.exR Ib
  refine GK 38 W MO (by kernel_rfl) ?_
  refine qs F Aa (Am F Aa).q fun a F => ?_
  refine qs F Aa (Hg F Aa Aa).q fun a F => ?_
  refine qs F Aa (Am F Aa).q fun a F => ?_
  rcases Bool.eq_false_or_eq_true (decide (x3.1 = 0)) with hb | hb
  ·
   have H := B4 (Cn hb) H
   rw [hb] at F
   clear hb
   iterate 2 refine A2 F (Ae F Aa Aa Aa Aa) Aa (As Aa) (Am F Aa).q fun a F => ?_
   refine A2 F (Ae F Aa Aa Aa Aa) Aa (As Aa) (Hg F Aa Aa).q fun a F => ?_
   refine qs F Aa (BH F Aa Aa Aa).q fun a F => ?_
   refine qs F Aa (Am F Aa).q fun a F => ?_
   rcases Bool.eq_false_or_eq_true (decide (x4.1 = x3.1)) with hb | hb
   ·
    have H := B4 (Cn hb) H
    rw [hb] at F
    clear hb
    iterate 2 refine A2 F (Ae F Aa Aa Aa Aa) Aa (As Aa) (Am F Aa).q fun a F => ?_
    refine A2 F (Ae F Aa Aa Aa Aa) Aa (As Aa) (Hg F Aa Aa).q fun a F => ?_
    refine qs F Aa (BH F Aa Aa Aa).q fun a F => ?_
    refine qs F Aa (Am F Aa).q fun a F => ?_
    rcases Bool.eq_false_or_eq_true (decide (x5.1 = x3.1)) with hb | hb
    ·
     have H := B4 (Cn hb) H
     rw [hb] at F
     clear hb
     iterate 2 refine A2 F (Ae F Aa Aa Aa Aa) Aa (As Aa) (Am F Aa).q fun a F => ?_
     refine A2 F (Ae F Aa Aa Aa Aa) Aa (As Aa) (Hg F Aa Aa).q fun a F => ?_
     refine qs F Aa (BH F Aa Aa Aa).q fun a F => ?_
     refine qs F Aa (Am F Aa).q fun a F => ?_
     rcases Bool.eq_false_or_eq_true (decide (x6.1 = x3.1)) with hb | hb
     ·
      have H := B4 (Cn hb) H
      rw [hb] at F
      clear hb
      refine A2 F (Ae F Aa Aa Aa Aa) Aa (As Aa) (Am F Aa).q fun a F => ?_
      refine A2 F (Ae F Aa Aa Aa Aa) Aa (As Aa) (B7 (r := EQ) (l := x7) LI Aa F Aa (Bq Ib h9 (AU 0 Aa))).q fun a F => ?_
      refine A2 F (Ae F Aa Aa Aa Aa) Aa (As Aa) (Hg F Aa Aa).q fun a F => ?_
      refine qs F Aa (BH F Aa Aa Aa).q fun a F => ?_
      refine qs F Aa (Am F Aa).q fun a F => ?_
      rcases Bool.eq_false_or_eq_true (decide ((x7.length : Int) = 2)) with hb | hb
      ·
       have H := B4 (Cn hb) H
       rw [hb] at F
       clear hb
       refine A2 F (Ae F Aa Aa Aa Aa) Aa (As Aa) (Am F Aa).q fun a F => ?_
       obtain ⟨x9, h10, H⟩ := Af H
       obtain ⟨v6, h11, h12⟩ := BX h9 h10
       have h13 : Ia v6 = [.int .i64 x9.1, .int .i64 x9.2.1.1, .int .i64 x9.2.1.2.1.1, .int .i64 x9.2.1.2.1.2.1.1, .int .i64 x9.2.1.2.1.2.1.2.1, .int .i64 x9.2.1.2.1.2.1.2.2.1, .int .i64 x9.2.1.2.1.2.1.2.2.2, .int .i64 x9.2.1.2.1.2.2.1, .int .i64 x9.2.1.2.1.2.2.2.1, .int .i64 x9.2.1.2.1.2.2.2.2.1, .int .i64 x9.2.1.2.1.2.2.2.2.2, (v6.2.1.2.2.1), .bool x9.2.2] := congrArg (fun q : Int × (Int × (Int × (Int × Int × Int × Int) × (Int × Int × Int × Int)) × (List (Int × Int × Int))) × Bool => ([.int .i64 q.1, .int .i64 q.2.1.1, .int .i64 q.2.1.2.1.1, .int .i64 q.2.1.2.1.2.1.1, .int .i64 q.2.1.2.1.2.1.2.1, .int .i64 q.2.1.2.1.2.1.2.2.1, .int .i64 q.2.1.2.1.2.1.2.2.2, .int .i64 q.2.1.2.1.2.2.1, .int .i64 q.2.1.2.1.2.2.2.1, .int .i64 q.2.1.2.1.2.2.2.2.1, .int .i64 q.2.1.2.1.2.2.2.2.2, (v6.2.1.2.2.1), .bool q.2.2] : List Value)) h12
       refine A2 F (Ae F Aa Aa Aa Aa) Aa (As Aa) (AR (r := Ic) O3 F Aa Aa (AU 0 Aa) h11).q fun a F => ?_
       refine A2 F (Ae F Aa Aa Aa Aa) Aa (As Aa) (AD (y := Value.agg #[.int .i64 x9.1, .int .i64 x9.2.1.1, .int .i64 x9.2.1.2.1.1, .int .i64 x9.2.1.2.1.2.1.1, .int .i64 x9.2.1.2.1.2.1.2.1, .int .i64 x9.2.1.2.1.2.1.2.2.1, .int .i64 x9.2.1.2.1.2.1.2.2.2, .int .i64 x9.2.1.2.1.2.2.1, .int .i64 x9.2.1.2.1.2.2.2.1, .int .i64 x9.2.1.2.1.2.2.2.2.1, .int .i64 x9.2.1.2.1.2.2.2.2.2, (v6.2.1.2.2.1), .bool x9.2.2]) (j := 0) (i := 0) (enc := Ia) F Aa Aa (AU 0 Aa) h11 NE Hd (by rw [h13]; rfl)).q fun a F => ?_
       refine A2 F (Ae F Aa Aa Aa Aa) Aa (As Aa) (Bn (v := Value.agg #[.int .i64 1, .int .i64 x1.1, .int .i64 x1.2.1.1, .int .i64 x1.2.1.2.1.1, .int .i64 x1.2.1.2.1.2.1, .int .i64 x1.2.1.2.1.2.2.1, .int .i64 x1.2.1.2.1.2.2.2, .int .i64 x1.2.1.2.2.1, .int .i64 x1.2.1.2.2.2.1, .int .i64 x1.2.1.2.2.2.2.1, .int .i64 x1.2.1.2.2.2.2.2, v1, .bool false]) 1 F Aa Aa Hd Aa).q fun a F => ?_
       obtain ⟨x10, h14, H⟩ := Af H
       refine A2 F (Ae F Aa Aa Aa Aa) Aa (As Aa) (AM (v := Value.bool x10) F RU Aa (fun w W => Gt any w ((v6.2.1.2.2.1)) (v1) x9 (1, x1, false) _ h14 (Dc (Db (AU 0 Aa) h11 (Ay.snd (Ay.fst (Ay.snd (Ay.snd Ay.here)))) (congrArg (fun q : Int × (Int × (Int × (Int × Int × Int × Int) × (Int × Int × Int × Int)) × (List (Int × Int × Int))) × Bool => q.2.1.2.2) h12)) W) (Dc (D4 2 Aa) W))) fun a F => ?_
       refine qs F Aa (BH F Aa Aa Aa).q fun a F => ?_
       refine qs F Aa (Am F Aa).q fun a F => ?_
       rcases Bool.eq_false_or_eq_true x10 with hb | hb
       ·
        have H := B4 hb H
        rw [hb] at F
        clear hb
        refine A2 F (Ae F Aa Aa Aa Aa) Aa (As Aa) (Am F Aa).q fun a F => ?_
        obtain ⟨x11, h15, H⟩ := Af H
        obtain ⟨v7, h16, h17⟩ := BX h9 h15
        have h18 : Ia v7 = [.int .i64 x11.1, .int .i64 x11.2.1.1, .int .i64 x11.2.1.2.1.1, .int .i64 x11.2.1.2.1.2.1.1, .int .i64 x11.2.1.2.1.2.1.2.1, .int .i64 x11.2.1.2.1.2.1.2.2.1, .int .i64 x11.2.1.2.1.2.1.2.2.2, .int .i64 x11.2.1.2.1.2.2.1, .int .i64 x11.2.1.2.1.2.2.2.1, .int .i64 x11.2.1.2.1.2.2.2.2.1, .int .i64 x11.2.1.2.1.2.2.2.2.2, (v7.2.1.2.2.1), .bool x11.2.2] := congrArg (fun q : Int × (Int × (Int × (Int × Int × Int × Int) × (Int × Int × Int × Int)) × (List (Int × Int × Int))) × Bool => ([.int .i64 q.1, .int .i64 q.2.1.1, .int .i64 q.2.1.2.1.1, .int .i64 q.2.1.2.1.2.1.1, .int .i64 q.2.1.2.1.2.1.2.1, .int .i64 q.2.1.2.1.2.1.2.2.1, .int .i64 q.2.1.2.1.2.1.2.2.2, .int .i64 q.2.1.2.1.2.2.1, .int .i64 q.2.1.2.1.2.2.2.1, .int .i64 q.2.1.2.1.2.2.2.2.1, .int .i64 q.2.1.2.1.2.2.2.2.2, (v7.2.1.2.2.1), .bool q.2.2] : List Value)) h17
        refine A2 F (Ae F Aa Aa Aa Aa) Aa (As Aa) (AR (r := Ic) O3 F Aa Aa (AU 0 Aa) h16).q fun a F => ?_
        refine A2 F (Ae F Aa Aa Aa Aa) Aa (As Aa) (AD (y := Value.agg #[.int .i64 x11.1, .int .i64 x11.2.1.1, .int .i64 x11.2.1.2.1.1, .int .i64 x11.2.1.2.1.2.1.1, .int .i64 x11.2.1.2.1.2.1.2.1, .int .i64 x11.2.1.2.1.2.1.2.2.1, .int .i64 x11.2.1.2.1.2.1.2.2.2, .int .i64 x11.2.1.2.1.2.2.1, .int .i64 x11.2.1.2.1.2.2.2.1, .int .i64 x11.2.1.2.1.2.2.2.2.1, .int .i64 x11.2.1.2.1.2.2.2.2.2, (v7.2.1.2.2.1), .bool x11.2.2]) (j := 0) (i := 1) (enc := Ia) F Aa Aa (AU 0 Aa) h16 NE Hd (by rw [h18]; rfl)).q fun a F => ?_
        refine A2 F (Ae F Aa Aa Aa Aa) Aa (As Aa) (Bn (v := Value.agg #[.int .i64 1, .int .i64 x2.1, .int .i64 x2.2.1.1, .int .i64 x2.2.1.2.1.1, .int .i64 x2.2.1.2.1.2.1, .int .i64 x2.2.1.2.1.2.2.1, .int .i64 x2.2.1.2.1.2.2.2, .int .i64 x2.2.1.2.2.1, .int .i64 x2.2.1.2.2.2.1, .int .i64 x2.2.1.2.2.2.2.1, .int .i64 x2.2.1.2.2.2.2.2, v2, .bool false]) 0 F Aa Aa Hd Aa).q fun a F => ?_
        obtain ⟨x12, h19, H⟩ := Af H
        refine A2 F (Ae F Aa Aa Aa Aa) Aa (As Aa) (AM (v := Value.bool x12) F RU Aa (fun w W => Gt any w ((v7.2.1.2.2.1)) (v2) x11 (1, x2, false) _ h19 (Dc (Db (AU 0 Aa) h16 (Ay.snd (Ay.fst (Ay.snd (Ay.snd Ay.here)))) (congrArg (fun q : Int × (Int × (Int × (Int × Int × Int × Int) × (Int × Int × Int × Int)) × (List (Int × Int × Int))) × Bool => q.2.1.2.2) h17)) W) (Dc (D4 3 Aa) W))) fun a F => ?_
        refine qs F Aa (BH F Aa Aa Aa).q fun a F => ?_
        refine qs F Aa (Am F Aa).q fun a F => ?_
        rcases Bool.eq_false_or_eq_true x12 with hb | hb
        ·
         have H := B4 hb H
         rw [hb] at F
         clear hb
         refine A2 F (Ae F Aa Aa Aa Aa) Aa (As Aa) (Am F Aa).q fun a F => ?_
         refine AJ fun w W => ?_
         have W := W.note (W.rowAt (k := 0) Aa h11 (Ay.snd (Ay.fst (Ay.snd (Ay.snd Ay.here)))) (congrArg (fun q : Int × (Int × (Int × (Int × Int × Int × Int) × (Int × Int × Int × Int)) × (List (Int × Int × Int))) × Bool => q.2.1.2.2) h12))
         have W := W.note (W.rowAt (k := 1) Aa h16 (Ay.snd (Ay.fst (Ay.snd (Ay.snd Ay.here)))) (congrArg (fun q : Int × (Int × (Int × (Int × Int × Int × Int) × (Int × Int × Int × Int)) × (List (Int × Int × Int))) × Bool => q.2.1.2.2) h17))
         refine F2 (Ae F Aa Aa Aa Aa) ?_
         have W := W.frontZ (i := 3) Aa Aa
         have W := W.hideP Dz h8
         refine AA (Ml := []) (Zl := [Bw b1 BO 16 x6.2]) (β := Unit) (rv := fun x => .int .i64 (Ao x6.2)) (MM := fun x => []) (ZZ := fun x => [Bw b1 BO 16 x6.2]) F W P9 Aa Aa (fun hL => BM _ _ w b1 x6.2 _ Aa hL) fun x a w F W => ?_
         have W : Stw ⟨Y, [], w0⟩ [(b3, [.int .i64 1, .int .i64 x2.1, .int .i64 x2.2.1.1, .int .i64 x2.2.1.2.1.1, .int .i64 x2.2.1.2.1.2.1, .int .i64 x2.2.1.2.1.2.2.1, .int .i64 x2.2.1.2.1.2.2.2, .int .i64 x2.2.1.2.2.1, .int .i64 x2.2.1.2.2.2.1, .int .i64 x2.2.1.2.2.2.2.1, .int .i64 x2.2.1.2.2.2.2.2, v2, .bool false]), (b2, [.int .i64 1, .int .i64 x1.1, .int .i64 x1.2.1.1, .int .i64 x1.2.1.2.1.1, .int .i64 x1.2.1.2.1.2.1, .int .i64 x1.2.1.2.1.2.2.1, .int .i64 x1.2.1.2.1.2.2.2, .int .i64 x1.2.1.2.2.1, .int .i64 x1.2.1.2.2.2.1, .int .i64 x1.2.1.2.2.2.2.1, .int .i64 x1.2.1.2.2.2.2.2, v1, .bool false])] [Bw b1 BO 16 x6.2, Bo (v7.2.1.2.2.1) Bk x11.2.1.2.2, Bo (v6.2.1.2.2.1) Bk x9.2.1.2.2, row v3 39 Ic v5, Bo v1 Bk x1.2.2, Bo v2 Bk x2.2.2] w := W
         refine vl tk 4 F W fun a w F W => ?_
         refine Ad ?_
         have W := W.frontZ (i := 4) Aa Aa
         have W := W.frontZ (i := 5) Aa Aa
         have W := W.frontM (i := 1) Aa Aa
         have W := W.frontM (i := 1) Aa Aa
         have W := W.sub (M' := [(b3, [.int .i64 1, .int .i64 x2.1, .int .i64 x2.2.1.1, .int .i64 x2.2.1.2.1.1, .int .i64 x2.2.1.2.1.2.1, .int .i64 x2.2.1.2.1.2.2.1, .int .i64 x2.2.1.2.1.2.2.2, .int .i64 x2.2.1.2.2.1, .int .i64 x2.2.1.2.2.2.1, .int .i64 x2.2.1.2.2.2.2.1, .int .i64 x2.2.1.2.2.2.2.2, v2, .bool false]), (b2, [.int .i64 1, .int .i64 x1.1, .int .i64 x1.2.1.1, .int .i64 x1.2.1.2.1.1, .int .i64 x1.2.1.2.1.2.1, .int .i64 x1.2.1.2.1.2.2.1, .int .i64 x1.2.1.2.1.2.2.2, .int .i64 x1.2.1.2.2.1, .int .i64 x1.2.1.2.2.2.1, .int .i64 x1.2.1.2.2.2.2.1, .int .i64 x1.2.1.2.2.2.2.2, v1, .bool false])]) (Z' := [Bo v2 Bk x2.2.2, Bo v1 Bk x1.2.2, Bw b1 BO 16 x6.2]) (List.Sublist.refl _) (List.Sublist.cons_cons _ (List.Sublist.cons_cons _ (List.Sublist.cons_cons _ (List.nil_sublist _))))
         exact ⟨_, H, F.ra Aa, W⟩
        have H := B5 (by rw [hb]; decide) H
        rw [hb] at F
        clear hb
        refine AP F (AB F Aa Aa Aa Aa Aa) Aa Aa fun a F => ?_
        refine AJ fun w W => ?_
        have W := W.note (W.rowAt (k := 0) Aa h11 (Ay.snd (Ay.fst (Ay.snd (Ay.snd Ay.here)))) (congrArg (fun q : Int × (Int × (Int × (Int × Int × Int × Int) × (Int × Int × Int × Int)) × (List (Int × Int × Int))) × Bool => q.2.1.2.2) h12))
        have W := W.note (W.rowAt (k := 1) Aa h16 (Ay.snd (Ay.fst (Ay.snd (Ay.snd Ay.here)))) (congrArg (fun q : Int × (Int × (Int × (Int × Int × Int × Int) × (Int × Int × Int × Int)) × (List (Int × Int × Int))) × Bool => q.2.1.2.2) h17))
        refine vl tk 5 F W fun a w F W => ?_
        refine Ad ?_
        have W := W.frontZ (i := 3) Aa Aa
        have W := W.hideP Dz h8
        have W := W.frontZ (i := 4) Aa Aa
        have W := W.frontZ (i := 5) Aa Aa
        have W := W.frontM (i := 1) Aa Aa
        have W := W.frontM (i := 1) Aa Aa
        have W := W.sub (M' := [(b3, [.int .i64 1, .int .i64 x2.1, .int .i64 x2.2.1.1, .int .i64 x2.2.1.2.1.1, .int .i64 x2.2.1.2.1.2.1, .int .i64 x2.2.1.2.1.2.2.1, .int .i64 x2.2.1.2.1.2.2.2, .int .i64 x2.2.1.2.2.1, .int .i64 x2.2.1.2.2.2.1, .int .i64 x2.2.1.2.2.2.2.1, .int .i64 x2.2.1.2.2.2.2.2, v2, .bool false]), (b2, [.int .i64 1, .int .i64 x1.1, .int .i64 x1.2.1.1, .int .i64 x1.2.1.2.1.1, .int .i64 x1.2.1.2.1.2.1, .int .i64 x1.2.1.2.1.2.2.1, .int .i64 x1.2.1.2.1.2.2.2, .int .i64 x1.2.1.2.2.1, .int .i64 x1.2.1.2.2.2.1, .int .i64 x1.2.1.2.2.2.2.1, .int .i64 x1.2.1.2.2.2.2.2, v1, .bool false])]) (Z' := [Bo v2 Bk x2.2.2, Bo v1 Bk x1.2.2, Bw b1 BO 16 x6.2]) (List.Sublist.refl _) (List.Sublist.cons_cons _ (List.Sublist.cons_cons _ (List.Sublist.cons_cons _ (List.nil_sublist _))))
        exact ⟨_, H, F.ra Aa, W⟩
       have H := B5 (by rw [hb]; decide) H
       rw [hb] at F
       clear hb
       iterate 5 refine AP F (AB F Aa Aa Aa Aa Aa) Aa Aa fun a F => ?_
       refine qs F Aa (AO F Aa Aa Aa).q fun a F => ?_
       refine qs F Aa (Am F Aa).q fun a F => ?_
       refine AP F (AB F Aa Aa Aa Aa Aa) Aa Aa fun a F => ?_
       refine AJ fun w W => ?_
       have W := W.note (W.rowAt (k := 0) Aa h11 (Ay.snd (Ay.fst (Ay.snd (Ay.snd Ay.here)))) (congrArg (fun q : Int × (Int × (Int × (Int × Int × Int × Int) × (Int × Int × Int × Int)) × (List (Int × Int × Int))) × Bool => q.2.1.2.2) h12))
       refine vl tk 5 F W fun a w F W => ?_
       refine Ad ?_
       have W := W.frontZ (i := 2) Aa Aa
       have W := W.hideP Dz h8
       have W := W.frontZ (i := 3) Aa Aa
       have W := W.frontZ (i := 4) Aa Aa
       have W := W.frontM (i := 1) Aa Aa
       have W := W.frontM (i := 1) Aa Aa
       have W := W.sub (M' := [(b3, [.int .i64 1, .int .i64 x2.1, .int .i64 x2.2.1.1, .int .i64 x2.2.1.2.1.1, .int .i64 x2.2.1.2.1.2.1, .int .i64 x2.2.1.2.1.2.2.1, .int .i64 x2.2.1.2.1.2.2.2, .int .i64 x2.2.1.2.2.1, .int .i64 x2.2.1.2.2.2.1, .int .i64 x2.2.1.2.2.2.2.1, .int .i64 x2.2.1.2.2.2.2.2, v2, .bool false]), (b2, [.int .i64 1, .int .i64 x1.1, .int .i64 x1.2.1.1, .int .i64 x1.2.1.2.1.1, .int .i64 x1.2.1.2.1.2.1, .int .i64 x1.2.1.2.1.2.2.1, .int .i64 x1.2.1.2.1.2.2.2, .int .i64 x1.2.1.2.2.1, .int .i64 x1.2.1.2.2.2.1, .int .i64 x1.2.1.2.2.2.2.1, .int .i64 x1.2.1.2.2.2.2.2, v1, .bool false])]) (Z' := [Bo v2 Bk x2.2.2, Bo v1 Bk x1.2.2, Bw b1 BO 16 x6.2]) (List.Sublist.refl _) (List.Sublist.cons_cons _ (List.Sublist.cons_cons _ (List.Sublist.cons_cons _ (List.nil_sublist _))))
       exact ⟨_, H, F.ra Aa, W⟩
      have H := B5 (Cp hb) H
      rw [hb] at F
      clear hb
      iterate 5 refine AP F (AB F Aa Aa Aa Aa Aa) Aa Aa fun a F => ?_
      refine qs F Aa (AO F Aa Aa Aa).q fun a F => ?_
      refine qs F Aa (Am F Aa).q fun a F => ?_
      iterate 5 refine AP F (AB F Aa Aa Aa Aa Aa) Aa Aa fun a F => ?_
      refine qs F Aa (AO F Aa Aa Aa).q fun a F => ?_
      refine qs F Aa (Am F Aa).q fun a F => ?_
      refine AP F (AB F Aa Aa Aa Aa Aa) Aa Aa fun a F => ?_
      refine AJ fun w W => ?_
      refine vl tk 5 F W fun a w F W => ?_
      refine Ad ?_
      have W := W.frontZ (i := 1) Aa Aa
      have W := W.hideP Dz h8
      have W := W.frontZ (i := 2) Aa Aa
      have W := W.frontZ (i := 3) Aa Aa
      have W := W.frontM (i := 1) Aa Aa
      have W := W.frontM (i := 1) Aa Aa
      have W := W.sub (M' := [(b3, [.int .i64 1, .int .i64 x2.1, .int .i64 x2.2.1.1, .int .i64 x2.2.1.2.1.1, .int .i64 x2.2.1.2.1.2.1, .int .i64 x2.2.1.2.1.2.2.1, .int .i64 x2.2.1.2.1.2.2.2, .int .i64 x2.2.1.2.2.1, .int .i64 x2.2.1.2.2.2.1, .int .i64 x2.2.1.2.2.2.2.1, .int .i64 x2.2.1.2.2.2.2.2, v2, .bool false]), (b2, [.int .i64 1, .int .i64 x1.1, .int .i64 x1.2.1.1, .int .i64 x1.2.1.2.1.1, .int .i64 x1.2.1.2.1.2.1, .int .i64 x1.2.1.2.1.2.2.1, .int .i64 x1.2.1.2.1.2.2.2, .int .i64 x1.2.1.2.2.1, .int .i64 x1.2.1.2.2.2.1, .int .i64 x1.2.1.2.2.2.2.1, .int .i64 x1.2.1.2.2.2.2.2, v1, .bool false])]) (Z' := [Bo v2 Bk x2.2.2, Bo v1 Bk x1.2.2, Bw b1 BO 16 x6.2]) (List.Sublist.refl _) (List.Sublist.cons_cons _ (List.Sublist.cons_cons _ (List.Sublist.cons_cons _ (List.nil_sublist _))))
      exact ⟨_, H, F.ra Aa, W⟩
     have H := B5 (Cp hb) H
     rw [hb] at F
     clear hb
     iterate 3 refine AP F (AB F Aa Aa Aa Aa Aa) Aa Aa fun a F => ?_
     refine qs F Aa (AO F Aa Aa Aa).q fun a F => ?_
     refine qs F Aa (Am F Aa).q fun a F => ?_
     iterate 5 refine AP F (AB F Aa Aa Aa Aa Aa) Aa Aa fun a F => ?_
     refine qs F Aa (AO F Aa Aa Aa).q fun a F => ?_
     refine qs F Aa (Am F Aa).q fun a F => ?_
     iterate 5 refine AP F (AB F Aa Aa Aa Aa Aa) Aa Aa fun a F => ?_
     refine qs F Aa (AO F Aa Aa Aa).q fun a F => ?_
     refine qs F Aa (Am F Aa).q fun a F => ?_
     refine AP F (AB F Aa Aa Aa Aa Aa) Aa Aa fun a F => ?_
     refine AJ fun w W => ?_
     refine vl tk 5 F W fun a w F W => ?_
     refine Ad ?_
     have W := W.frontZ (i := 1) Aa Aa
     have W := W.hideP Dz h8
     have W := W.frontZ (i := 2) Aa Aa
     have W := W.frontZ (i := 3) Aa Aa
     have W := W.frontM (i := 1) Aa Aa
     have W := W.frontM (i := 1) Aa Aa
     have W := W.sub (M' := [(b3, [.int .i64 1, .int .i64 x2.1, .int .i64 x2.2.1.1, .int .i64 x2.2.1.2.1.1, .int .i64 x2.2.1.2.1.2.1, .int .i64 x2.2.1.2.1.2.2.1, .int .i64 x2.2.1.2.1.2.2.2, .int .i64 x2.2.1.2.2.1, .int .i64 x2.2.1.2.2.2.1, .int .i64 x2.2.1.2.2.2.2.1, .int .i64 x2.2.1.2.2.2.2.2, v2, .bool false]), (b2, [.int .i64 1, .int .i64 x1.1, .int .i64 x1.2.1.1, .int .i64 x1.2.1.2.1.1, .int .i64 x1.2.1.2.1.2.1, .int .i64 x1.2.1.2.1.2.2.1, .int .i64 x1.2.1.2.1.2.2.2, .int .i64 x1.2.1.2.2.1, .int .i64 x1.2.1.2.2.2.1, .int .i64 x1.2.1.2.2.2.2.1, .int .i64 x1.2.1.2.2.2.2.2, v1, .bool false])]) (Z' := [Bo v2 Bk x2.2.2, Bo v1 Bk x1.2.2, Bw b1 BO 16 x6.2]) (List.Sublist.refl _) (List.Sublist.cons_cons _ (List.Sublist.cons_cons _ (List.Sublist.cons_cons _ (List.nil_sublist _))))
     exact ⟨_, H, F.ra Aa, W⟩
    have H := B5 (Cp hb) H
    rw [hb] at F
    clear hb
    iterate 3 refine AP F (AB F Aa Aa Aa Aa Aa) Aa Aa fun a F => ?_
    refine qs F Aa (AO F Aa Aa Aa).q fun a F => ?_
    refine qs F Aa (Am F Aa).q fun a F => ?_
    iterate 3 refine AP F (AB F Aa Aa Aa Aa Aa) Aa Aa fun a F => ?_
    refine qs F Aa (AO F Aa Aa Aa).q fun a F => ?_
    refine qs F Aa (Am F Aa).q fun a F => ?_
    iterate 5 refine AP F (AB F Aa Aa Aa Aa Aa) Aa Aa fun a F => ?_
    refine qs F Aa (AO F Aa Aa Aa).q fun a F => ?_
    refine qs F Aa (Am F Aa).q fun a F => ?_
    iterate 5 refine AP F (AB F Aa Aa Aa Aa Aa) Aa Aa fun a F => ?_
    refine qs F Aa (AO F Aa Aa Aa).q fun a F => ?_
    refine qs F Aa (Am F Aa).q fun a F => ?_
    refine AP F (AB F Aa Aa Aa Aa Aa) Aa Aa fun a F => ?_
    refine AJ fun w W => ?_
    refine vl tk 5 F W fun a w F W => ?_
    refine Ad ?_
    have W := W.frontZ (i := 1) Aa Aa
    have W := W.hideP Dz h8
    have W := W.frontZ (i := 2) Aa Aa
    have W := W.frontZ (i := 3) Aa Aa
    have W := W.frontM (i := 1) Aa Aa
    have W := W.frontM (i := 1) Aa Aa
    have W := W.sub (M' := [(b3, [.int .i64 1, .int .i64 x2.1, .int .i64 x2.2.1.1, .int .i64 x2.2.1.2.1.1, .int .i64 x2.2.1.2.1.2.1, .int .i64 x2.2.1.2.1.2.2.1, .int .i64 x2.2.1.2.1.2.2.2, .int .i64 x2.2.1.2.2.1, .int .i64 x2.2.1.2.2.2.1, .int .i64 x2.2.1.2.2.2.2.1, .int .i64 x2.2.1.2.2.2.2.2, v2, .bool false]), (b2, [.int .i64 1, .int .i64 x1.1, .int .i64 x1.2.1.1, .int .i64 x1.2.1.2.1.1, .int .i64 x1.2.1.2.1.2.1, .int .i64 x1.2.1.2.1.2.2.1, .int .i64 x1.2.1.2.1.2.2.2, .int .i64 x1.2.1.2.2.1, .int .i64 x1.2.1.2.2.2.1, .int .i64 x1.2.1.2.2.2.2.1, .int .i64 x1.2.1.2.2.2.2.2, v1, .bool false])]) (Z' := [Bo v2 Bk x2.2.2, Bo v1 Bk x1.2.2, Bw b1 BO 16 x6.2]) (List.Sublist.refl _) (List.Sublist.cons_cons _ (List.Sublist.cons_cons _ (List.Sublist.cons_cons _ (List.nil_sublist _))))
    exact ⟨_, H, F.ra Aa, W⟩
   have H := B5 (Cp hb) H
   rw [hb] at F
   clear hb
   iterate 3 refine AP F (AB F Aa Aa Aa Aa Aa) Aa Aa fun a F => ?_
   refine qs F Aa (AO F Aa Aa Aa).q fun a F => ?_
   refine qs F Aa (Am F Aa).q fun a F => ?_
   iterate 3 refine AP F (AB F Aa Aa Aa Aa Aa) Aa Aa fun a F => ?_
   refine qs F Aa (AO F Aa Aa Aa).q fun a F => ?_
   refine qs F Aa (Am F Aa).q fun a F => ?_
   iterate 3 refine AP F (AB F Aa Aa Aa Aa Aa) Aa Aa fun a F => ?_
   refine qs F Aa (AO F Aa Aa Aa).q fun a F => ?_
   refine qs F Aa (Am F Aa).q fun a F => ?_
   iterate 5 refine AP F (AB F Aa Aa Aa Aa Aa) Aa Aa fun a F => ?_
   refine qs F Aa (AO F Aa Aa Aa).q fun a F => ?_
   refine qs F Aa (Am F Aa).q fun a F => ?_
   iterate 5 refine AP F (AB F Aa Aa Aa Aa Aa) Aa Aa fun a F => ?_
   refine qs F Aa (AO F Aa Aa Aa).q fun a F => ?_
   refine qs F Aa (Am F Aa).q fun a F => ?_
   refine AP F (AB F Aa Aa Aa Aa Aa) Aa Aa fun a F => ?_
   refine AJ fun w W => ?_
   refine vl tk 5 F W fun a w F W => ?_
   refine Ad ?_
   have W := W.frontZ (i := 1) Aa Aa
   have W := W.hideP Dz h8
   have W := W.frontZ (i := 2) Aa Aa
   have W := W.frontZ (i := 3) Aa Aa
   have W := W.frontM (i := 1) Aa Aa
   have W := W.frontM (i := 1) Aa Aa
   have W := W.sub (M' := [(b3, [.int .i64 1, .int .i64 x2.1, .int .i64 x2.2.1.1, .int .i64 x2.2.1.2.1.1, .int .i64 x2.2.1.2.1.2.1, .int .i64 x2.2.1.2.1.2.2.1, .int .i64 x2.2.1.2.1.2.2.2, .int .i64 x2.2.1.2.2.1, .int .i64 x2.2.1.2.2.2.1, .int .i64 x2.2.1.2.2.2.2.1, .int .i64 x2.2.1.2.2.2.2.2, v2, .bool false]), (b2, [.int .i64 1, .int .i64 x1.1, .int .i64 x1.2.1.1, .int .i64 x1.2.1.2.1.1, .int .i64 x1.2.1.2.1.2.1, .int .i64 x1.2.1.2.1.2.2.1, .int .i64 x1.2.1.2.1.2.2.2, .int .i64 x1.2.1.2.2.1, .int .i64 x1.2.1.2.2.2.1, .int .i64 x1.2.1.2.2.2.2.1, .int .i64 x1.2.1.2.2.2.2.2, v1, .bool false])]) (Z' := [Bo v2 Bk x2.2.2, Bo v1 Bk x1.2.2, Bw b1 BO 16 x6.2]) (List.Sublist.refl _) (List.Sublist.cons_cons _ (List.Sublist.cons_cons _ (List.Sublist.cons_cons _ (List.nil_sublist _))))
   exact ⟨_, H, F.ra Aa, W⟩
  have H := B5 (Cp hb) H
  rw [hb] at F
  clear hb
  iterate 3 refine AP F (AB F Aa Aa Aa Aa Aa) Aa Aa fun a F => ?_
  refine qs F Aa (AO F Aa Aa Aa).q fun a F => ?_
  refine qs F Aa (Am F Aa).q fun a F => ?_
  iterate 3 refine AP F (AB F Aa Aa Aa Aa Aa) Aa Aa fun a F => ?_
  refine qs F Aa (AO F Aa Aa Aa).q fun a F => ?_
  refine qs F Aa (Am F Aa).q fun a F => ?_
  iterate 3 refine AP F (AB F Aa Aa Aa Aa Aa) Aa Aa fun a F => ?_
  refine qs F Aa (AO F Aa Aa Aa).q fun a F => ?_
  refine qs F Aa (Am F Aa).q fun a F => ?_
  iterate 3 refine AP F (AB F Aa Aa Aa Aa Aa) Aa Aa fun a F => ?_
  refine qs F Aa (AO F Aa Aa Aa).q fun a F => ?_
  refine qs F Aa (Am F Aa).q fun a F => ?_
  iterate 5 refine AP F (AB F Aa Aa Aa Aa Aa) Aa Aa fun a F => ?_
  refine qs F Aa (AO F Aa Aa Aa).q fun a F => ?_
  refine qs F Aa (Am F Aa).q fun a F => ?_
  iterate 5 refine AP F (AB F Aa Aa Aa Aa Aa) Aa Aa fun a F => ?_
  refine qs F Aa (AO F Aa Aa Aa).q fun a F => ?_
  refine qs F Aa (Am F Aa).q fun a F => ?_
  refine AP F (AB F Aa Aa Aa Aa Aa) Aa Aa fun a F => ?_
  refine AJ fun w W => ?_
  refine vl tk 5 F W fun a w F W => ?_
  refine Ad ?_
  have W := W.frontZ (i := 1) Aa Aa
  have W := W.hideP Dz h8
  have W := W.frontZ (i := 2) Aa Aa
  have W := W.frontZ (i := 3) Aa Aa
  have W := W.frontM (i := 1) Aa Aa
  have W := W.frontM (i := 1) Aa Aa
  have W := W.sub (M' := [(b3, [.int .i64 1, .int .i64 x2.1, .int .i64 x2.2.1.1, .int .i64 x2.2.1.2.1.1, .int .i64 x2.2.1.2.1.2.1, .int .i64 x2.2.1.2.1.2.2.1, .int .i64 x2.2.1.2.1.2.2.2, .int .i64 x2.2.1.2.2.1, .int .i64 x2.2.1.2.2.2.1, .int .i64 x2.2.1.2.2.2.2.1, .int .i64 x2.2.1.2.2.2.2.2, v2, .bool false]), (b2, [.int .i64 1, .int .i64 x1.1, .int .i64 x1.2.1.1, .int .i64 x1.2.1.2.1.1, .int .i64 x1.2.1.2.1.2.1, .int .i64 x1.2.1.2.1.2.2.1, .int .i64 x1.2.1.2.1.2.2.2, .int .i64 x1.2.1.2.2.1, .int .i64 x1.2.1.2.2.2.1, .int .i64 x1.2.1.2.2.2.2.1, .int .i64 x1.2.1.2.2.2.2.2, v1, .bool false])]) (Z' := [Bo v2 Bk x2.2.2, Bo v1 Bk x1.2.2, Bw b1 BO 16 x6.2]) (List.Sublist.refl _) (List.Sublist.cons_cons _ (List.Sublist.cons_cons _ (List.Sublist.cons_cons _ (List.nil_sublist _))))
  exact ⟨_, H, F.ra Aa, W⟩
 rintro a w ⟨x8, hj, F, W⟩
 have hj := Av hj
 subst hj
 have H := K1
 clear G1 K1
 refine Al ?_
 have H := Av H
 subst H
 refine Aw (.inl Aa) F W Aa (Ai F Aa) ?_
 exact ⟨rfl, W.done⟩
theorem Rb : type_of% Try.underlying22 := Try.underlying22
theorem PD : type_of% Try.underlying29 := Try.underlying29
theorem JB : type_of% Try.underlying31 := Try.underlying31
theorem PG : type_of% Try.underlying76 := Try.underlying76
theorem H6 : Has Try.prog 6 := BV Try.func6
theorem TS : Bt Try.prog 31 [.int .i64 0, .int .i64 0, .slice none 0 0] [(0, 1), (1, 1), (2, 1)] := ⟨⟨.agg #[.int .i64 0, .int .i64 0, .slice none 0 0], by kernel_rfl, rfl⟩, ⟨_, JB, fun w => by kernel_rfl⟩⟩
abbrev GQ (a : Int × Int × (Int × (Int × (Int × (Int × Int × Int × Int) × (Int × Int × Int × Int)) × (Value × List (Int × Int × Int))) × Bool)) : List Value := [.int .i64 a.1, .int .i64 a.2.1, .int .i64 a.2.2.1, .int .i64 a.2.2.2.1.1, .int .i64 a.2.2.2.1.2.1.1, .int .i64 a.2.2.2.1.2.1.2.1.1, .int .i64 a.2.2.2.1.2.1.2.1.2.1, .int .i64 a.2.2.2.1.2.1.2.1.2.2.1, .int .i64 a.2.2.2.1.2.1.2.1.2.2.2, .int .i64 a.2.2.2.1.2.1.2.2.1, .int .i64 a.2.2.2.1.2.1.2.2.2.1, .int .i64 a.2.2.2.1.2.1.2.2.2.2.1, .int .i64 a.2.2.2.1.2.1.2.2.2.2.2, a.2.2.2.1.2.2.1, .bool a.2.2.2.2]
theorem Ll : C3 JL GQ := (C3.pair Fl.int.to (C3.pair Fl.int.to (C3.pair Fl.int.to (C3.pair (C3.pair Fl.int.to (C3.pair RC.to C3.vsl)) Fl.bool.to))))
theorem Qc : Et Try.prog 22 41 15 136 := Et.of Rb (by kernel_rfl) (by kernel_rfl) (by kernel_rfl) (by decide)
abbrev CQ : Rp (Int × (Int × (Int × (Int × (Int × Int × Int × Int) × (Int × Int × Int × Int)) × (List (Int × Int × Int))) × Bool)) := (Rp.pair (Rp.int .i64) EQ)
abbrev LZ : Rp (Int × (Int × (Int × (Int × (Int × Int × Int × Int) × (Int × Int × Int × Int)) × (Value × List (Int × Int × Int))) × Bool)) := (Rp.pair (Rp.int .i64) Ic)
abbrev R1 (p : Int × (Int × (Int × (Int × (Int × Int × Int × Int) × (Int × Int × Int × Int)) × (Value × List (Int × Int × Int))) × Bool)) : Int × (Int × (Int × (Int × (Int × Int × Int × Int) × (Int × Int × Int × Int)) × (List (Int × Int × Int))) × Bool) := (p.1, (p.2.1, (p.2.2.1.1, p.2.2.1.2.1, p.2.2.1.2.2.2), p.2.2.2))
theorem Hu : Ex CQ LZ R1 := (Ex.pair Ex.rfl' (Ex.pair Ex.rfl' (Ex.pair (Ex.pair Ex.rfl' (Ex.pair Ex.rfl' Ex.sliceF)) Ex.rfl')))
theorem PX : Ty Try.prog 29 false 1 := ⟨by kernel_rfl, by kernel_rfl⟩
abbrev LQ (a : Int × (Int × (Int × (Int × (Int × Int × Int × Int) × (Int × Int × Int × Int)) × (Value × List (Int × Int × Int))) × Bool)) : List Value := [.int .i64 a.1, .int .i64 a.2.1, .int .i64 a.2.2.1.1, .int .i64 a.2.2.1.2.1.1, .int .i64 a.2.2.1.2.1.2.1.1, .int .i64 a.2.2.1.2.1.2.1.2.1, .int .i64 a.2.2.1.2.1.2.1.2.2.1, .int .i64 a.2.2.1.2.1.2.1.2.2.2, .int .i64 a.2.2.1.2.1.2.2.1, .int .i64 a.2.2.1.2.1.2.2.2.1, .int .i64 a.2.2.1.2.1.2.2.2.2.1, .int .i64 a.2.2.1.2.1.2.2.2.2.2, a.2.2.1.2.2.1, .bool a.2.2.2]
theorem Ql : C3 LZ LQ := (C3.pair Fl.int.to (C3.pair Fl.int.to (C3.pair (C3.pair Fl.int.to (C3.pair RC.to C3.vsl)) Fl.bool.to)))
theorem Q7 : Et Try.prog 29 76 14 128 := Et.of PD (by kernel_rfl) (by kernel_rfl) (by kernel_rfl) (by decide)
abbrev MZ (a0 : Nat) (a1 : Nat) (a2 : Int × Int × (List (Int × (Int × (Int × (Int × (Int × Int × Int × Int) × (Int × Int × Int × Int)) × (List (Int × Int × Int))) × Bool)))) (a3 : Value) : List (Nat × List Value) := [(a0, [.int .i64 0, .int .i64 0, .int .i64 0, .int .i64 0, .int .i64 0, .int .i64 0, .int .i64 0, .int .i64 0, .int .i64 0, .int .i64 0, .int .i64 0, .slice none 0 0, .bool false]), (a1, [.int .i64 a2.1, .int .i64 a2.2.1, a3])]
abbrev Ce (a0 : Int × Int × (List (Int × (Int × (Int × (Int × (Int × Int × Int × Int) × (Int × Int × Int × Int)) × (List (Int × Int × Int))) × Bool)))) (a1 : Value) : List Value := [.int .i64 a0.1, .int .i64 a0.2.1, a1]
noncomputable def CK (p0 : Int × Int × (List (Int × (Int × (Int × (Int × (Int × Int × Int × Int) × (Int × Int × Int × Int)) × (List (Int × Int × Int))) × Bool)))) (p1 : Int) : Int → Option (Int ⊕ (Unit ⊕ ((Int × (Int × (Int × (Int × Int × Int × Int) × (Int × Int × Int × Int)) × (List (Int × Int × Int))) × Bool) × Bool)))
  | x1 => (if x1 < (p0.2.2.length : Int) then (ix p0.2.2 x1).bind fun x2 => (if x2.1 = p1 then (ix p0.2.2 x1).bind fun x3 => some (.inr (.inr (x3.2, true))) else some (.inl (Cc (x1 + 1)))) else some (.inr (.inl ())))
noncomputable def CG (p0 : Int × Int × (List (Int × (Int × (Int × (Int × (Int × Int × Int × Int) × (Int × Int × Int × Int)) × (List (Int × Int × Int))) × Bool)))) (p1 : Int) : Option ((Int × (Int × (Int × (Int × Int × Int × Int) × (Int × Int × Int × Int)) × (List (Int × Int × Int))) × Bool) × Bool) := FR (AX (CK p0 p1) 0) fun _ => some ((0, (0, (0, (0, 0, 0, 0), (0, 0, 0, 0)), ([] : List (Int × Int × Int))), false), false)
theorem Gf (Y : Nat → Prop) (X : List Nat) (w0 : World) (q_p0 : Nat) (v1 : Value) (p0 : Int × Int × (List (Int × (Int × (Int × (Int × (Int × Int × Int × Int) × (Int × Int × Int × Int)) × (List (Int × Int × Int))) × Bool)))) (p1 : Int) (r : (Int × (Int × (Int × (Int × Int × Int × Int) × (Int × Int × Int × Int)) × (List (Int × Int × Int))) × Bool) × Bool) (H : CG p0 p1 = some r) (hL : Stw ⟨Y, X, w0⟩ [(q_p0, [.int .i64 p0.1, .int .i64 p0.2.1, v1])] [row v1 76 CQ p0.2.2] w0) :
    Calls Try.prog 29 #[.pointer (some ⟨q_p0, 0, none⟩), .int .i64 p1] w0 fun e w' => ∃ x : Value, e = .returned (.tuple #[.agg #[.int .i64 r.1.1, .int .i64 r.1.2.1.1, .int .i64 r.1.2.1.2.1.1, .int .i64 r.1.2.1.2.1.2.1.1, .int .i64 r.1.2.1.2.1.2.1.2.1, .int .i64 r.1.2.1.2.1.2.1.2.2.1, .int .i64 r.1.2.1.2.1.2.1.2.2.2, .int .i64 r.1.2.1.2.1.2.2.1, .int .i64 r.1.2.1.2.1.2.2.2.1, .int .i64 r.1.2.1.2.1.2.2.2.2.1, .int .i64 r.1.2.1.2.1.2.2.2.2.2, x, .bool r.1.2.2], .bool r.2]) ∧ Stw ⟨Y, X, w0⟩ [(q_p0, [.int .i64 p0.1, .int .i64 p0.2.1, v1])] [row v1 76 CQ p0.2.2, Bo (x) Bk r.1.2.1.2.2] w' := by
 refine enter Try.func29 Aa Try.ntmps29 Aa fun a F => ?_
 have W := hL
 unfold CG at H
 refine vc tk 2 F W fun a w F W => ?_
 refine Ca (cs := (I8)) F W Aa Pn Aa fun b1 a w F W => ?_
 refine vl tk 2 F W fun a w F W => ?_
 refine Ad ?_
 obtain ⟨o1, G1, K1, L1⟩ := H1 H
 refine Au (fun a w => some (Sum.inl ()) = some o1 ∧ Fr 35 [] [(4, .pointer (some ⟨b1, 0, none⟩)), (5, .bool false)] a ∧ Stw ⟨Y, X, w0⟩ (MZ b1 q_p0 p0 v1) [row v1 76 CQ p0.2.2] w) ?_ ?_
 ·
  have H := G1
  clear G1 K1
  refine vc tk 6 F W fun a w F W => ?_
  have W := W.frontM (i := 1) Aa Aa
  have W := W.frontM (i := 1) Aa Aa
  refine BA H (fun s a w => Fr 35 [] [(0, .pointer (some ⟨q_p0, 0, none⟩)), (1, .int .i64 p1), (4, .pointer (some ⟨b1, 0, none⟩)), (5, .bool false), (6, .int .i64 s)] a ∧ Stw ⟨Y, X, w0⟩ (MZ b1 q_p0 p0 v1) [row v1 76 CQ p0.2.2] w) ⟨F.ra Aa, W⟩ fun s o a w H L2 hR => ?_
  obtain ⟨x1, rfl⟩ : ∃ x, x = s := ⟨s, rfl⟩
  obtain ⟨F, W⟩ := hR
  have F : Fr 35 [] [(0, .pointer (some ⟨q_p0, 0, none⟩)), (1, .int .i64 p1), (4, .pointer (some ⟨b1, 0, none⟩)), (5, .bool false), (6, .int .i64 x1)] a := F
  have W : Stw ⟨Y, X, w0⟩ (MZ b1 q_p0 p0 v1) [row v1 76 CQ p0.2.2] w := W
  rw [CK] at H
  refine vc tk 5 F W fun a w F W => ?_
  refine ls F W Aa (AW F Aa).q fun a w F W => ?_
  refine Fu tk 2 [1] F W (ai fun a w F W => ?_)
  refine ls F W Aa (B7 (r := CQ) (l := p0.2.2) PD Aa F Aa (AU 0 Aa)).q fun a w F W => ?_
  refine BJ tk 3 F W fun a w F W => ?_
  refine Bi F Aa H (fun F H => ?_) fun F H => ?_
  ·
   refine D6 tk 5 F W fun a w F W => ?_
   obtain ⟨v2, h1, W⟩ := W.exR Hu
   refine vc tk 2 F W fun a w F W => ?_
   refine ls F W Aa (AW F Aa).q fun a w F W => ?_
   refine Fu tk 3 [1] F W (ai fun a w F W => ?_)
   obtain ⟨x2, h2, H⟩ := Af H
   obtain ⟨v3, h3, h4⟩ := BX h1 h2
   have h5 : LQ v3 = [.int .i64 x2.1, .int .i64 x2.2.1, .int .i64 x2.2.2.1.1, .int .i64 x2.2.2.1.2.1.1, .int .i64 x2.2.2.1.2.1.2.1.1, .int .i64 x2.2.2.1.2.1.2.1.2.1, .int .i64 x2.2.2.1.2.1.2.1.2.2.1, .int .i64 x2.2.2.1.2.1.2.1.2.2.2, .int .i64 x2.2.2.1.2.1.2.2.1, .int .i64 x2.2.2.1.2.1.2.2.2.1, .int .i64 x2.2.2.1.2.1.2.2.2.2.1, .int .i64 x2.2.2.1.2.1.2.2.2.2.2, (v3.2.2.1.2.2.1), .bool x2.2.2.2] := congrArg (fun q : Int × (Int × (Int × (Int × (Int × Int × Int × Int) × (Int × Int × Int × Int)) × (List (Int × Int × Int))) × Bool) => ([.int .i64 q.1, .int .i64 q.2.1, .int .i64 q.2.2.1.1, .int .i64 q.2.2.1.2.1.1, .int .i64 q.2.2.1.2.1.2.1.1, .int .i64 q.2.2.1.2.1.2.1.2.1, .int .i64 q.2.2.1.2.1.2.1.2.2.1, .int .i64 q.2.2.1.2.1.2.1.2.2.2, .int .i64 q.2.2.1.2.1.2.2.1, .int .i64 q.2.2.1.2.1.2.2.2.1, .int .i64 q.2.2.1.2.1.2.2.2.2.1, .int .i64 q.2.2.1.2.1.2.2.2.2.2, (v3.2.2.1.2.2.1), .bool q.2.2.2] : List Value)) h4
   refine ls F W Aa (AR (r := LZ) Q7 F Aa Aa (AU 0 Aa) h3).q fun a w F W => ?_
   refine ls F W Aa (Aj PG Aa Aa Aa T3 F Aa (Ei v1 + (x1).toNat * 14) Aa).q fun a w F W => ?_
   refine ls F W Aa (AD (y := Value.int .i64 x2.1) (j := 0) (i := x1) (enc := LQ) F Aa Aa (AU 0 Aa) h3 Ql T3 (by rw [h5]; rfl)).q fun a w F W => ?_
   have W := W.note (W.rowAt (k := 0) Aa h3 (Ay.snd (Ay.snd (Ay.fst (Ay.snd (Ay.snd Ay.here))))) (congrArg (fun q : Int × (Int × (Int × (Int × (Int × Int × Int × Int) × (Int × Int × Int × Int)) × (List (Int × Int × Int))) × Bool) => q.2.2.1.2.2) h4))
   refine BJ tk 4 F W fun a w F W => ?_
   refine Bi F Aa H (fun F H => ?_) fun F H => ?_
   ·
    refine vc tk 3 F W fun a w F W => ?_
    refine ls F W Aa (AW F Aa).q fun a w F W => ?_
    refine Fu tk 3 [1] F W (ai fun a w F W => ?_)
    obtain ⟨x3, h6, H⟩ := Af H
    obtain ⟨v4, h7, h8⟩ := BX h1 h6
    have h9 : LQ v4 = [.int .i64 x3.1, .int .i64 x3.2.1, .int .i64 x3.2.2.1.1, .int .i64 x3.2.2.1.2.1.1, .int .i64 x3.2.2.1.2.1.2.1.1, .int .i64 x3.2.2.1.2.1.2.1.2.1, .int .i64 x3.2.2.1.2.1.2.1.2.2.1, .int .i64 x3.2.2.1.2.1.2.1.2.2.2, .int .i64 x3.2.2.1.2.1.2.2.1, .int .i64 x3.2.2.1.2.1.2.2.2.1, .int .i64 x3.2.2.1.2.1.2.2.2.2.1, .int .i64 x3.2.2.1.2.1.2.2.2.2.2, (v4.2.2.1.2.2.1), .bool x3.2.2.2] := congrArg (fun q : Int × (Int × (Int × (Int × (Int × Int × Int × Int) × (Int × Int × Int × Int)) × (List (Int × Int × Int))) × Bool) => ([.int .i64 q.1, .int .i64 q.2.1, .int .i64 q.2.2.1.1, .int .i64 q.2.2.1.2.1.1, .int .i64 q.2.2.1.2.1.2.1.1, .int .i64 q.2.2.1.2.1.2.1.2.1, .int .i64 q.2.2.1.2.1.2.1.2.2.1, .int .i64 q.2.2.1.2.1.2.1.2.2.2, .int .i64 q.2.2.1.2.1.2.2.1, .int .i64 q.2.2.1.2.1.2.2.2.1, .int .i64 q.2.2.1.2.1.2.2.2.2.1, .int .i64 q.2.2.1.2.1.2.2.2.2.2, (v4.2.2.1.2.2.1), .bool q.2.2.2] : List Value)) h8
    refine ls F W Aa (AR (r := LZ) Q7 F Aa Aa (AU 1 Aa) h7).q fun a w F W => ?_
    refine ls F W Aa (Aj PG Aa Aa Aa Hd F Aa (Ei v1 + (x1).toNat * 14 + 1) Aa).q fun a w F W => ?_
    refine ls F W Aa (AD (y := Value.agg #[.int .i64 x3.2.1, .int .i64 x3.2.2.1.1, .int .i64 x3.2.2.1.2.1.1, .int .i64 x3.2.2.1.2.1.2.1.1, .int .i64 x3.2.2.1.2.1.2.1.2.1, .int .i64 x3.2.2.1.2.1.2.1.2.2.1, .int .i64 x3.2.2.1.2.1.2.1.2.2.2, .int .i64 x3.2.2.1.2.1.2.2.1, .int .i64 x3.2.2.1.2.1.2.2.2.1, .int .i64 x3.2.2.1.2.1.2.2.2.2.1, .int .i64 x3.2.2.1.2.1.2.2.2.2.2, (v4.2.2.1.2.2.1), .bool x3.2.2.2]) (j := 1) (i := x1) (enc := LQ) F Aa Aa (AU 1 Aa) h7 Ql Hd (by rw [h9]; rfl)).q fun a w F W => ?_
    have W := W.note (W.rowAt (k := 1) Aa h7 (Ay.snd (Ay.snd (Ay.fst (Ay.snd (Ay.snd Ay.here))))) (congrArg (fun q : Int × (Int × (Int × (Int × (Int × Int × Int × Int) × (Int × Int × Int × Int)) × (List (Int × Int × Int))) × Bool) => q.2.2.1.2.2) h8))
    refine Dh 0 F W Aa Aa Aa Hd Aa Aa (Ac Aa (Ac Aa (Ac Aa (Ac Aa (Ac Aa (Ac Aa (Ac Aa (Ac Aa (Ac Aa (Ac Aa (Ac Aa (Ac (W.oneF (k := 0) Aa) (Ac Aa Cr))))))))))))) fun w W => ?_
    refine BJ tk 3 F W fun a w F W => ?_
    refine Al (Az ?_)
    iterate 2 refine Aq ?_
    refine Az (Aq ?_)
    have H := L2 _ H
    have H := L1 _ H
    have H := Av H
    subst H
    refine CI (.inl Aa) F W Aa (Dp 0 F Aa Aa Hd Aa) (Ai F Aa) ?_
    have W := W.frontZ (i := 2) Aa Aa
    have W := W.hideR Hu h1
    have W := W.frontZ (i := 1) Aa Aa
    have W := W.frontZ (i := 1) Aa Aa
    have W := W.frontM (i := 1) Aa Aa
    have W := W.sub (M' := [(q_p0, (Ce p0 v1))]) (Z' := [row v1 76 CQ p0.2.2, Bo (v4.2.2.1.2.2.1) Bk x3.2.2.1.2.2]) (List.Sublist.cons_cons _ (List.nil_sublist _)) (List.Sublist.cons_cons _ (List.Sublist.cons_cons _ (List.nil_sublist _)))
    exact ⟨((v4.2.2.1.2.2.1)), Aa, W⟩
   refine AC (AF ?_)
   refine vn tk 5 F W fun a w F W => ?_
   refine Ad ?_
   have W := W.frontZ (i := 1) Aa Aa
   have W := W.hideR Hu h1
   have W := W.frontM (i := 1) Aa Aa
   have W := W.frontM (i := 1) Aa Aa
   have W := W.sub (M' := (MZ b1 q_p0 p0 v1)) (Z' := [row v1 76 CQ p0.2.2]) (List.Sublist.refl _) (List.Sublist.cons_cons _ (List.nil_sublist _))
   exact ⟨_, H, F.ra Aa, W⟩
  refine Bm ?_
  iterate 2 refine BU ?_
  refine Bp (Ad ?_)
  have W := W.frontM (i := 1) Aa Aa
  have W := W.frontM (i := 1) Aa Aa
  have H := L2 _ H
  exact ⟨H, F.ra Aa, W⟩
 rintro a w ⟨hj, F, W⟩
 have H := K1 _ hj
 clear hj G1 K1 L1
 refine vc tk 2 F W fun a w F W => ?_
 refine ls F W Aa (Dr (v := Value.agg #[.int .i64 0, .int .i64 0, .int .i64 0, .int .i64 0, .int .i64 0, .int .i64 0, .int .i64 0, .int .i64 0, .int .i64 0, .int .i64 0, .int .i64 0, .slice none 0 0, .bool false]) So F Aa Aa Aa).q fun a w F W => ?_
 refine Dh 0 F W Aa Aa Aa Hd Aa Aa Aa fun w W => ?_
 refine BJ tk 3 F W fun a w F W => ?_
 refine Al ?_
 have H := Av H
 subst H
 refine CI (.inl Aa) F W Aa (Dp 0 F Aa Aa Hd Aa) (Ai F Aa) ?_
 have W := W.note (Sl.nil (r := Bk))
 have W := W.frontZ (i := 1) Aa Aa
 have W := W.frontM (i := 1) Aa Aa
 have W := W.sub (M' := [(q_p0, (Ce p0 v1))]) (Z' := [row v1 76 CQ p0.2.2, Bo (Value.slice none 0 0) Bk ([])]) (List.Sublist.cons_cons _ (List.nil_sublist _)) (List.Sublist.refl _)
 exact ⟨(Value.slice none 0 0), Aa, W⟩
theorem SS : Has Try.prog 29 := BV Try.func29
theorem Tk : Bt Try.prog 76 [.int .i64 0, .int .i64 0, .int .i64 0, .int .i64 0, .int .i64 0, .int .i64 0, .int .i64 0, .int .i64 0, .int .i64 0, .int .i64 0, .int .i64 0, .int .i64 0, .slice none 0 0, .bool false] [(0, 1), (1, 13)] := ⟨⟨.agg #[.int .i64 0, .int .i64 0, .int .i64 0, .int .i64 0, .int .i64 0, .int .i64 0, .int .i64 0, .int .i64 0, .int .i64 0, .int .i64 0, .int .i64 0, .int .i64 0, .slice none 0 0, .bool false], by kernel_rfl, rfl⟩, ⟨_, PG, fun w => by kernel_rfl⟩⟩
theorem TG : (Try.prog.info? 76).bind (·.zero) = some (.agg #[.int .i64 0, .int .i64 0, .int .i64 0, .int .i64 0, .int .i64 0, .int .i64 0, .int .i64 0, .int .i64 0, .int .i64 0, .int .i64 0, .int .i64 0, .int .i64 0, .slice none 0 0, .bool false]) := by kernel_rfl
noncomputable def BW (p0 : Int × Int × (List (Int × (Int × (Int × (Int × (Int × Int × Int × Int) × (Int × Int × Int × Int)) × (List (Int × Int × Int))) × Bool)))) (p1 : Int) (p2 : Int × (Int × (Int × (Int × Int × Int × Int) × (Int × Int × Int × Int)) × (List (Int × Int × Int))) × Bool) : Option (Int × (Int × Int × (List (Int × (Int × (Int × (Int × (Int × Int × Int × Int) × (Int × Int × Int × Int)) × (List (Int × Int × Int))) × Bool))))) := (if p0.1 ≠ 0 then some (16, p0) else (if (decide (p1 < 0) || decide (15 < p1)) = true then some (2, p0) else (CG p0 p1).bind fun x1 => (if x1.2 = true then (DH x1.1 p2).bind fun x4 => some (true, !x4) else some (false, false)).bind fun (x2, x3) => (if x3 = true then some (8, p0) else (if (!x2) = true then (JQ p0.2.2 ([(p1, p2)] : List (Int × (Int × (Int × (Int × (Int × Int × Int × Int) × (Int × Int × Int × Int)) × (List (Int × Int × Int))) × Bool)))).bind fun x6 => some x6 else some p0.2.2).bind fun x5 => some (0, (p0.1, p0.2.1, x5)))))
theorem Ik (Y : Nat → Prop) (X : List Nat) (w0 : World) (q_p0 : Nat) (v1 : Value) (v2 : Value) (p0 : Int × Int × (List (Int × (Int × (Int × (Int × (Int × Int × Int × Int) × (Int × Int × Int × Int)) × (List (Int × Int × Int))) × Bool)))) (p1 : Int) (p2 : Int × (Int × (Int × (Int × Int × Int × Int) × (Int × Int × Int × Int)) × (List (Int × Int × Int))) × Bool) (r : Int × (Int × Int × (List (Int × (Int × (Int × (Int × (Int × Int × Int × Int) × (Int × Int × Int × Int)) × (List (Int × Int × Int))) × Bool))))) (H : BW p0 p1 p2 = some r) (s_v2 : Sl w0 Y Bk v2 p2.2.1.2.2) (hL : Stw ⟨Y, X, w0⟩ [(q_p0, [.int .i64 p0.1, .int .i64 p0.2.1, v1])] [row v1 76 CQ p0.2.2] w0) :
    Calls Try.prog 9 #[.pointer (some ⟨q_p0, 0, none⟩), .int .i64 p1, .agg #[.int .i64 p2.1, .int .i64 p2.2.1.1, .int .i64 p2.2.1.2.1.1, .int .i64 p2.2.1.2.1.2.1.1, .int .i64 p2.2.1.2.1.2.1.2.1, .int .i64 p2.2.1.2.1.2.1.2.2.1, .int .i64 p2.2.1.2.1.2.1.2.2.2, .int .i64 p2.2.1.2.1.2.2.1, .int .i64 p2.2.1.2.1.2.2.2.1, .int .i64 p2.2.1.2.1.2.2.2.2.1, .int .i64 p2.2.1.2.1.2.2.2.2.2, v2, .bool p2.2.2]] w0 fun e w' => ∃ x : Value, e = .returned (.int .i64 r.1) ∧ Stw ⟨Y, X, w0⟩ [(q_p0, [.int .i64 r.2.1, .int .i64 r.2.2.1, x])] [row (x) 76 CQ r.2.2.2] w' := by
 refine enter Try.func9 Aa Try.ntmps9 Aa fun a F => ?_
 have W := hL
 have h_v2 := W.nx s_v2
 unfold BW at H
 refine vc tk 2 F W fun a w F W => ?_
 refine BR (cs := (Fa p2 v2)) F W Aa Aa Aa fun b1 a w F W => ?_
 refine BJ tk 7 F W fun a w F W => ?_
 refine ls F W Aa (AW F Aa).q fun a w F W => ?_
 refine Eo tk 5 [1] F W (ai fun a w F W => ?_)
 refine Bi F Aa H (fun F H => ?_) fun F H => ?_
 ·
  refine vc tk 5 F W fun a w F W => ?_
  refine Al (Aq ?_)
  have H := Av H
  subst H
  refine Aw (.inl Aa) F W Aa (Ai F Aa) ?_
  have W := W.frontM (i := 1) Aa Aa
  have W := W.sub (M' := [(q_p0, (Ce p0 v1))]) (Z' := [row v1 76 CQ p0.2.2]) (List.Sublist.cons_cons _ (List.nil_sublist _)) (List.Sublist.refl _)
  exact ⟨(v1), Aa, W⟩
 refine D6 tk 3 F W fun a w F W => ?_
 refine Au (fun a w => Fr 47 [] [(0, .pointer (some ⟨q_p0, 0, none⟩)), (1, .int .i64 p1), (5, .pointer (some ⟨b1, 0, none⟩)), (6, .int .i64 0), (19, .bool (decide (p1 < 0) || decide (15 < p1)))] a ∧ Stw ⟨Y, X, w0⟩ [(b1, [.int .i64 p2.1, .int .i64 p2.2.1.1, .int .i64 p2.2.1.2.1.1, .int .i64 p2.2.1.2.1.2.1.1, .int .i64 p2.2.1.2.1.2.1.2.1, .int .i64 p2.2.1.2.1.2.1.2.2.1, .int .i64 p2.2.1.2.1.2.1.2.2.2, .int .i64 p2.2.1.2.1.2.2.1, .int .i64 p2.2.1.2.1.2.2.2.1, .int .i64 p2.2.1.2.1.2.2.2.2.1, .int .i64 p2.2.1.2.1.2.2.2.2.2, v2, .bool p2.2.2]), (q_p0, [.int .i64 p0.1, .int .i64 p0.2.1, v1])] [row v1 76 CQ p0.2.2] w) ?_ ?_
 ·
  refine vc tk 4 F W fun a w F W => ?_
  rcases Bool.eq_false_or_eq_true (decide (p1 < 0)) with hb0 | hb0
  ·
   rw [hb0] at F
   refine vl tk 4 F W fun a w F W => ?_
   refine Ad ?_
   exact ⟨F.re ⟨rfl, Aa, Aa, Aa, (Ev (by try rw [hb0]; all_goals simp only [Es])), trivial⟩, W⟩
  rw [hb0] at F
  refine vl tk 4 F W fun a w F W => ?_
  refine Ad ?_
  exact ⟨F.re ⟨rfl, Aa, Aa, Aa, (Ev (by try rw [hb0]; all_goals simp only [Es])), trivial⟩, W⟩
 rintro a w ⟨F, W⟩
 refine BE F Aa H (fun F H => ?_) fun F H => ?_
 ·
  refine vc tk 5 F W fun a w F W => ?_
  refine Al (Aq ?_)
  have H := Av H
  subst H
  refine Aw (.inl Aa) F W Aa (Ai F Aa) ?_
  have W := W.frontM (i := 1) Aa Aa
  have W := W.sub (M' := [(q_p0, (Ce p0 v1))]) (Z' := [row v1 76 CQ p0.2.2]) (List.Sublist.cons_cons _ (List.nil_sublist _)) (List.Sublist.refl _)
  exact ⟨(v1), Aa, W⟩
 refine D6 tk 6 F W fun a w F W => ?_
 obtain ⟨x1, h1, H⟩ := Af H
 have W := W.frontM (i := 1) Aa Aa
 refine AA (Ml := [(q_p0, (Ce p0 v1))]) (Zl := [row v1 76 CQ p0.2.2]) (β := Value) (rv := fun x => .tuple #[.agg #[.int .i64 x1.1.1, .int .i64 x1.1.2.1.1, .int .i64 x1.1.2.1.2.1.1, .int .i64 x1.1.2.1.2.1.2.1.1, .int .i64 x1.1.2.1.2.1.2.1.2.1, .int .i64 x1.1.2.1.2.1.2.1.2.2.1, .int .i64 x1.1.2.1.2.1.2.1.2.2.2, .int .i64 x1.1.2.1.2.1.2.2.1, .int .i64 x1.1.2.1.2.1.2.2.2.1, .int .i64 x1.1.2.1.2.1.2.2.2.2.1, .int .i64 x1.1.2.1.2.1.2.2.2.2.2, x, .bool x1.1.2.2], .bool x1.2]) (MM := fun x => [(q_p0, (Ce p0 v1))]) (ZZ := fun x => [row v1 76 CQ p0.2.2, Bo x Bk x1.1.2.1.2.2]) F W SS Aa Aa (fun hL => Gf _ _ w q_p0 (v1) p0 p1 _ h1 hL) fun x a w F W => ?_
 obtain ⟨v3, rfl⟩ : ∃ y, y = x := ⟨x, rfl⟩
 have W : Stw ⟨Y, X, w0⟩ [(q_p0, (Ce p0 v1)), (b1, (Fa p2 v2))] [row v1 76 CQ p0.2.2, Bo v3 Bk x1.1.2.1.2.2] w := W
 refine ls F W Aa (Am F Aa).q fun a w F W => ?_
 refine ls F W Aa (AN (v := Value.agg #[.int .i64 x1.1.1, .int .i64 x1.1.2.1.1, .int .i64 x1.1.2.1.2.1.1, .int .i64 x1.1.2.1.2.1.2.1.1, .int .i64 x1.1.2.1.2.1.2.1.2.1, .int .i64 x1.1.2.1.2.1.2.1.2.2.1, .int .i64 x1.1.2.1.2.1.2.1.2.2.2, .int .i64 x1.1.2.1.2.1.2.2.1, .int .i64 x1.1.2.1.2.1.2.2.2.1, .int .i64 x1.1.2.1.2.1.2.2.2.2.1, .int .i64 x1.1.2.1.2.1.2.2.2.2.2, v3, .bool x1.1.2.2]) F Aa Aa).q fun a w F W => ?_
 refine ls F W Aa (AN (v := Value.bool x1.2) F Aa Aa).q fun a w F W => ?_
 refine Ca (cs := (I8)) F W Aa Pn Aa fun b2 a w F W => ?_
 refine Dh 0 F W Aa Aa Aa Hd Aa Aa (Ac Aa (Ac Aa (Ac Aa (Ac Aa (Ac Aa (Ac Aa (Ac Aa (Ac Aa (Ac Aa (Ac Aa (Ac Aa (Ac (W.oneF (k := 1) Aa) (Ac Aa Cr))))))))))))) fun w W => ?_
 refine BJ tk 4 F W fun a w F W => ?_
 obtain ⟨o1, G1, K1⟩ := Af H
 refine Au (fun a w => ∃ x2 : Bool, ∃ x3 : Bool, some ((x2, x3)) = some o1 ∧ Fr 47 [] [(0, .pointer (some ⟨q_p0, 0, none⟩)), (1, .int .i64 p1), (5, .pointer (some ⟨b1, 0, none⟩)), (6, .int .i64 0), (8, .bool x2), (32, .bool x3)] a ∧ Stw ⟨Y, X, w0⟩ [(b2, [.int .i64 x1.1.1, .int .i64 x1.1.2.1.1, .int .i64 x1.1.2.1.2.1.1, .int .i64 x1.1.2.1.2.1.2.1.1, .int .i64 x1.1.2.1.2.1.2.1.2.1, .int .i64 x1.1.2.1.2.1.2.1.2.2.1, .int .i64 x1.1.2.1.2.1.2.1.2.2.2, .int .i64 x1.1.2.1.2.1.2.2.1, .int .i64 x1.1.2.1.2.1.2.2.2.1, .int .i64 x1.1.2.1.2.1.2.2.2.2.1, .int .i64 x1.1.2.1.2.1.2.2.2.2.2, v3, .bool x1.1.2.2]), (q_p0, (Ce p0 v1)), (b1, (Fa p2 v2))] [Bo v3 Bk x1.1.2.1.2.2, row v1 76 CQ p0.2.2] w) ?_ ?_
 ·
  have H := G1
  clear G1 K1
  refine vc tk 3 F W fun a w F W => ?_
  rcases Bool.eq_false_or_eq_true x1.2 with hb | hb
  ·
   have H := B4 hb H
   rw [hb] at F
   clear hb
   refine Fu tk 2 [0, 2] F W (ai (ai fun a w F W => ?_))
   refine F2 (Ae F Aa Aa Aa Aa) ?_
   obtain ⟨x4, h2, H⟩ := Af H
   refine ls F W Aa (AM (v := Value.bool x4) F RU Aa (fun w W => Gt any w (v3) (v2) x1.1 p2 _ h2 (Dc (D4 1 Aa) W) (Dc (An h_v2) W))) fun a w F W => ?_
   refine vl tk 3 F W fun a w F W => ?_
   refine Ad ?_
   have W := W.frontZ (i := 1) Aa Aa
   have W := W.frontM (i := 2) Aa Aa
   have W := W.frontM (i := 2) Aa Aa
   have W := W.frontM (i := 2) Aa Aa
   exact ⟨_, _, H, F.ra Aa, W⟩
  have H := B5 (by rw [hb]; decide) H
  rw [hb] at F
  clear hb
  refine vl tk 6 F W fun a w F W => ?_
  refine Ad ?_
  have W := W.frontZ (i := 1) Aa Aa
  have W := W.frontM (i := 2) Aa Aa
  have W := W.frontM (i := 2) Aa Aa
  have W := W.frontM (i := 2) Aa Aa
  exact ⟨_, _, H, F.ra Aa, W⟩
 rintro a w ⟨x2, x3, hj, F, W⟩
 have hj := Av hj
 subst hj
 have H := K1
 clear G1 K1
 refine BE F Aa H (fun F H => ?_) fun F H => ?_
 ·
  refine vc tk 5 F W fun a w F W => ?_
  refine Al (Aq ?_)
  have H := Av H
  subst H
  refine Aw (.inl Aa) F W Aa (Ai F Aa) ?_
  have W := W.frontZ (i := 1) Aa Aa
  have W := W.frontM (i := 1) Aa Aa
  have W := W.sub (M' := [(q_p0, (Ce p0 v1))]) (Z' := [row v1 76 CQ p0.2.2]) (List.Sublist.cons_cons _ (List.nil_sublist _)) (List.Sublist.cons_cons _ (List.nil_sublist _))
  exact ⟨(v1), Aa, W⟩
 refine AC (Ad ?_)
 obtain ⟨o2, G2, K2⟩ := Af H
 refine Au (fun a w => ∃ x5 : List (Int × (Int × (Int × (Int × (Int × Int × Int × Int) × (Int × Int × Int × Int)) × (List (Int × Int × Int))) × Bool)), ∃ v4 : Value, some (x5) = some o2 ∧ Fr 47 [] [(6, .int .i64 0)] a ∧ Stw ⟨Y, X, w0⟩ [(b2, [.int .i64 x1.1.1, .int .i64 x1.1.2.1.1, .int .i64 x1.1.2.1.2.1.1, .int .i64 x1.1.2.1.2.1.2.1.1, .int .i64 x1.1.2.1.2.1.2.1.2.1, .int .i64 x1.1.2.1.2.1.2.1.2.2.1, .int .i64 x1.1.2.1.2.1.2.1.2.2.2, .int .i64 x1.1.2.1.2.1.2.2.1, .int .i64 x1.1.2.1.2.1.2.2.2.1, .int .i64 x1.1.2.1.2.1.2.2.2.2.1, .int .i64 x1.1.2.1.2.1.2.2.2.2.2, v3, .bool x1.1.2.2]), (q_p0, (Ce p0 v4)), (b1, (Fa p2 v2))] [Bo v3 Bk x1.1.2.1.2.2, row v4 76 CQ x5] w) ?_ ?_
 ·
  have H := G2
  clear G2 K2
  refine vc tk 6 F W fun a w F W => ?_
  refine BE F Aa H (fun F H => ?_) fun F H => ?_
  ·
   refine DN [(true, 0), (true, 1), (true, 2), (true, 3), (true, 4), (true, 5), (true, 6), (true, 7), (false, 8), (false, 9), (true, 10), (true, 11), (false, 12)] (CN ⟨Y, X, w0⟩ [(some 9, q_p0, [.int .i64 p0.1, .int .i64 p0.2.1, v1]), (some 8, b1, [.int .i64 p2.1, .int .i64 p2.2.1.1, .int .i64 p2.2.1.2.1.1, .int .i64 p2.2.1.2.1.2.1.1, .int .i64 p2.2.1.2.1.2.1.2.1, .int .i64 p2.2.1.2.1.2.1.2.2.1, .int .i64 p2.2.1.2.1.2.1.2.2.2, .int .i64 p2.2.1.2.1.2.2.1, .int .i64 p2.2.1.2.1.2.2.2.1, .int .i64 p2.2.1.2.1.2.2.2.2.1, .int .i64 p2.2.1.2.1.2.2.2.2.2, v2, .bool p2.2.2])] []) (fun ch a d v w h => by cases d <;> exact h) MO (by kernel_rfl) W (fun w W => ⟨_, _, W, (all_cons (fun _ => (.tail _ (.head _))) (all_cons (fun _ => (.tail _ (.tail _ (.head _)))) Ap)), Ap⟩) fun w W => ?_
   iterate 2 refine BQ (R := []) F Aa Aa (yC fun M Z hN hZ => Am F Aa) Aa Aa fun a F => ?_
   refine BQ (R := []) F Aa Aa (yC fun M Z hN hZ => AW F Aa) Aa Aa fun a F => ?_
   refine BQ (R := []) F Aa Aa (yC fun M Z hN hZ => Aj JB Aa Aa Aa PX F Aa 2 Aa) Aa Aa fun a F => ?_
   refine BQ (R := [9]) F Aa Aa (yC fun M Z hN hZ => De (cs := (Ce p0 v1)) (v := v1) F Aa (hN ((some 9), q_p0, (Ce p0 v1)) (.head _) Aa) PX Aa) (by kernel_rfl) Aa fun a F => ?_
   refine BQ (R := []) F Aa Aa (yC fun M Z hN hZ => Am F Aa) Aa Aa fun a F => ?_
   refine BQ (R := [8, 7]) F Aa Aa (yC fun M Z hN hZ => De (cs := (Fa p2 v2)) (v := Value.agg #[.int .i64 p2.1, .int .i64 p2.2.1.1, .int .i64 p2.2.1.2.1.1, .int .i64 p2.2.1.2.1.2.1.1, .int .i64 p2.2.1.2.1.2.1.2.1, .int .i64 p2.2.1.2.1.2.1.2.2.1, .int .i64 p2.2.1.2.1.2.1.2.2.2, .int .i64 p2.2.1.2.1.2.2.1, .int .i64 p2.2.1.2.1.2.2.2.1, .int .i64 p2.2.1.2.1.2.2.2.2.1, .int .i64 p2.2.1.2.1.2.2.2.2.2, v2, .bool p2.2.2]) F Aa (hN ((some 8), b1, (Fa p2 v2)) (.tail _ (.head _)) Aa) Hd Aa) (by kernel_rfl) Aa fun a F => ?_
   refine BQ (R := []) F Aa Aa (yC fun M Z hN hZ => Dr (v := Value.agg #[.int .i64 p1, .int .i64 p2.1, .int .i64 p2.2.1.1, .int .i64 p2.2.1.2.1.1, .int .i64 p2.2.1.2.1.2.1.1, .int .i64 p2.2.1.2.1.2.1.2.1, .int .i64 p2.2.1.2.1.2.1.2.2.1, .int .i64 p2.2.1.2.1.2.1.2.2.2, .int .i64 p2.2.1.2.1.2.2.1, .int .i64 p2.2.1.2.1.2.2.2.1, .int .i64 p2.2.1.2.1.2.2.2.2.1, .int .i64 p2.2.1.2.1.2.2.2.2.2, v2, .bool p2.2.2]) Tk F Aa (B2 Aa Aa Aa (B2 Aa Aa Aa C1)) Aa) Aa Aa fun a F => ?_
   refine CT Aa ?_
   refine GJ (z := Value.agg #[.int .i64 0, .int .i64 0, .int .i64 0, .int .i64 0, .int .i64 0, .int .i64 0, .int .i64 0, .int .i64 0, .int .i64 0, .int .i64 0, .int .i64 0, .int .i64 0, .slice none 0 0, .bool false]) (cs := [.int .i64 p1, .int .i64 p2.1, .int .i64 p2.2.1.1, .int .i64 p2.2.1.2.1.1, .int .i64 p2.2.1.2.1.2.1.1, .int .i64 p2.2.1.2.1.2.1.2.1, .int .i64 p2.2.1.2.1.2.1.2.2.1, .int .i64 p2.2.1.2.1.2.1.2.2.2, .int .i64 p2.2.1.2.1.2.2.1, .int .i64 p2.2.1.2.1.2.2.2.1, .int .i64 p2.2.1.2.1.2.2.2.2.1, .int .i64 p2.2.1.2.1.2.2.2.2.2, v2, .bool p2.2.2]) CQ ([(p1, p2)] : List (Int × (Int × (Int × (Int × (Int × Int × Int × Int) × (Int × Int × Int × Int)) × (List (Int × Int × Int))) × Bool))) F W Aa Q7 TG Aa Aa Aa (B2 Aa Aa Aa C1) Aa Aa ⟨[Value.int .i64 p1, Value.int .i64 p2.1, Value.int .i64 p2.2.1.1, Value.int .i64 p2.2.1.2.1.1, Value.int .i64 p2.2.1.2.1.2.1.1, Value.int .i64 p2.2.1.2.1.2.1.2.1, Value.int .i64 p2.2.1.2.1.2.1.2.2.1, Value.int .i64 p2.2.1.2.1.2.1.2.2.2, Value.int .i64 p2.2.1.2.1.2.2.1, Value.int .i64 p2.2.1.2.1.2.2.2.1, Value.int .i64 p2.2.1.2.1.2.2.2.2.1, Value.int .i64 p2.2.1.2.1.2.2.2.2.2, v2, Value.bool p2.2.2], _, Aa, ⟨[Value.int .i64 p1], [Value.int .i64 p2.1, Value.int .i64 p2.2.1.1, Value.int .i64 p2.2.1.2.1.1, Value.int .i64 p2.2.1.2.1.2.1.1, Value.int .i64 p2.2.1.2.1.2.1.2.1, Value.int .i64 p2.2.1.2.1.2.1.2.2.1, Value.int .i64 p2.2.1.2.1.2.1.2.2.2, Value.int .i64 p2.2.1.2.1.2.2.1, Value.int .i64 p2.2.1.2.1.2.2.2.1, Value.int .i64 p2.2.1.2.1.2.2.2.2.1, Value.int .i64 p2.2.1.2.1.2.2.2.2.2, v2, Value.bool p2.2.2], Aa, Aa, ⟨[Value.int .i64 p2.1], [Value.int .i64 p2.2.1.1, Value.int .i64 p2.2.1.2.1.1, Value.int .i64 p2.2.1.2.1.2.1.1, Value.int .i64 p2.2.1.2.1.2.1.2.1, Value.int .i64 p2.2.1.2.1.2.1.2.2.1, Value.int .i64 p2.2.1.2.1.2.1.2.2.2, Value.int .i64 p2.2.1.2.1.2.2.1, Value.int .i64 p2.2.1.2.1.2.2.2.1, Value.int .i64 p2.2.1.2.1.2.2.2.2.1, Value.int .i64 p2.2.1.2.1.2.2.2.2.2, v2, Value.bool p2.2.2], Aa, Aa, ⟨[Value.int .i64 p2.2.1.1, Value.int .i64 p2.2.1.2.1.1, Value.int .i64 p2.2.1.2.1.2.1.1, Value.int .i64 p2.2.1.2.1.2.1.2.1, Value.int .i64 p2.2.1.2.1.2.1.2.2.1, Value.int .i64 p2.2.1.2.1.2.1.2.2.2, Value.int .i64 p2.2.1.2.1.2.2.1, Value.int .i64 p2.2.1.2.1.2.2.2.1, Value.int .i64 p2.2.1.2.1.2.2.2.2.1, Value.int .i64 p2.2.1.2.1.2.2.2.2.2, v2], [Value.bool p2.2.2], Aa, ⟨[Value.int .i64 p2.2.1.1], [Value.int .i64 p2.2.1.2.1.1, Value.int .i64 p2.2.1.2.1.2.1.1, Value.int .i64 p2.2.1.2.1.2.1.2.1, Value.int .i64 p2.2.1.2.1.2.1.2.2.1, Value.int .i64 p2.2.1.2.1.2.1.2.2.2, Value.int .i64 p2.2.1.2.1.2.2.1, Value.int .i64 p2.2.1.2.1.2.2.2.1, Value.int .i64 p2.2.1.2.1.2.2.2.2.1, Value.int .i64 p2.2.1.2.1.2.2.2.2.2, v2], Aa, Aa, ⟨[Value.int .i64 p2.2.1.2.1.1, Value.int .i64 p2.2.1.2.1.2.1.1, Value.int .i64 p2.2.1.2.1.2.1.2.1, Value.int .i64 p2.2.1.2.1.2.1.2.2.1, Value.int .i64 p2.2.1.2.1.2.1.2.2.2, Value.int .i64 p2.2.1.2.1.2.2.1, Value.int .i64 p2.2.1.2.1.2.2.2.1, Value.int .i64 p2.2.1.2.1.2.2.2.2.1, Value.int .i64 p2.2.1.2.1.2.2.2.2.2], [v2], Aa, ⟨[Value.int .i64 p2.2.1.2.1.1], [Value.int .i64 p2.2.1.2.1.2.1.1, Value.int .i64 p2.2.1.2.1.2.1.2.1, Value.int .i64 p2.2.1.2.1.2.1.2.2.1, Value.int .i64 p2.2.1.2.1.2.1.2.2.2, Value.int .i64 p2.2.1.2.1.2.2.1, Value.int .i64 p2.2.1.2.1.2.2.2.1, Value.int .i64 p2.2.1.2.1.2.2.2.2.1, Value.int .i64 p2.2.1.2.1.2.2.2.2.2], Aa, Aa, ⟨[Value.int .i64 p2.2.1.2.1.2.1.1, Value.int .i64 p2.2.1.2.1.2.1.2.1, Value.int .i64 p2.2.1.2.1.2.1.2.2.1, Value.int .i64 p2.2.1.2.1.2.1.2.2.2], [Value.int .i64 p2.2.1.2.1.2.2.1, Value.int .i64 p2.2.1.2.1.2.2.2.1, Value.int .i64 p2.2.1.2.1.2.2.2.2.1, Value.int .i64 p2.2.1.2.1.2.2.2.2.2], Aa, ⟨[Value.int .i64 p2.2.1.2.1.2.1.1], [Value.int .i64 p2.2.1.2.1.2.1.2.1, Value.int .i64 p2.2.1.2.1.2.1.2.2.1, Value.int .i64 p2.2.1.2.1.2.1.2.2.2], Aa, Aa, ⟨[Value.int .i64 p2.2.1.2.1.2.1.2.1], [Value.int .i64 p2.2.1.2.1.2.1.2.2.1, Value.int .i64 p2.2.1.2.1.2.1.2.2.2], Aa, Aa, ⟨[Value.int .i64 p2.2.1.2.1.2.1.2.2.1], [Value.int .i64 p2.2.1.2.1.2.1.2.2.2], Aa, Aa, Aa⟩⟩⟩, ⟨[Value.int .i64 p2.2.1.2.1.2.2.1], [Value.int .i64 p2.2.1.2.1.2.2.2.1, Value.int .i64 p2.2.1.2.1.2.2.2.2.1, Value.int .i64 p2.2.1.2.1.2.2.2.2.2], Aa, Aa, ⟨[Value.int .i64 p2.2.1.2.1.2.2.2.1], [Value.int .i64 p2.2.1.2.1.2.2.2.2.1, Value.int .i64 p2.2.1.2.1.2.2.2.2.2], Aa, Aa, ⟨[Value.int .i64 p2.2.1.2.1.2.2.2.2.1], [Value.int .i64 p2.2.1.2.1.2.2.2.2.2], Aa, Aa, Aa⟩⟩⟩⟩⟩, ⟨_, Aa, (W.old s_v2)⟩⟩⟩, Aa⟩⟩⟩, Aa⟩ fun v5 a w F W => ?_
   refine A0 (N2 := []) (NZ2 := []) (N3 := [(some 9, q_p0, [.int .i64 p0.1, .int .i64 p0.2.1, v1]), (some 8, b1, [.int .i64 p2.1, .int .i64 p2.2.1.1, .int .i64 p2.2.1.2.1.1, .int .i64 p2.2.1.2.1.2.1.1, .int .i64 p2.2.1.2.1.2.1.2.1, .int .i64 p2.2.1.2.1.2.1.2.2.1, .int .i64 p2.2.1.2.1.2.1.2.2.2, .int .i64 p2.2.1.2.1.2.2.1, .int .i64 p2.2.1.2.1.2.2.2.1, .int .i64 p2.2.1.2.1.2.2.2.2.1, .int .i64 p2.2.1.2.1.2.2.2.2.2, v2, .bool p2.2.2])]) (NZ3 := []) W Aa Aa (all_cons (fun _ => (.tail _ (.head _))) (all_cons (fun h => AE (by kernel_rfl) h) Ap)) Ap ?_
   refine CT Aa ?_
   obtain ⟨x6, h3, H⟩ := Af H
   refine Ez (r := CQ) (i := 2) F W Aa Q7 Aa Aa Aa Aa (FU W 0 Aa) h3 Aa fun v6 a w F W => ?_
   have W : Stw ⟨Y, X, w0⟩ [(b2, [.int .i64 x1.1.1, .int .i64 x1.1.2.1.1, .int .i64 x1.1.2.1.2.1.1, .int .i64 x1.1.2.1.2.1.2.1.1, .int .i64 x1.1.2.1.2.1.2.1.2.1, .int .i64 x1.1.2.1.2.1.2.1.2.2.1, .int .i64 x1.1.2.1.2.1.2.1.2.2.2, .int .i64 x1.1.2.1.2.1.2.2.1, .int .i64 x1.1.2.1.2.1.2.2.2.1, .int .i64 x1.1.2.1.2.1.2.2.2.2.1, .int .i64 x1.1.2.1.2.1.2.2.2.2.2, v3, .bool x1.1.2.2]), (q_p0, (Ce p0 v1)), (b1, (Fa p2 v2))] [row v6 76 CQ x6, row v5 76 CQ ([(p1, p2)] : List (Int × (Int × (Int × (Int × (Int × Int × Int × Int) × (Int × Int × Int × Int)) × (List (Int × Int × Int))) × Bool))), Bo v3 Bk x1.1.2.1.2.2] w := W
   refine A0 (N2 := []) (NZ2 := []) (N3 := [(some 9, q_p0, [.int .i64 p0.1, .int .i64 p0.2.1, v1]), (some 8, b1, [.int .i64 p2.1, .int .i64 p2.2.1.1, .int .i64 p2.2.1.2.1.1, .int .i64 p2.2.1.2.1.2.1.1, .int .i64 p2.2.1.2.1.2.1.2.1, .int .i64 p2.2.1.2.1.2.1.2.2.1, .int .i64 p2.2.1.2.1.2.1.2.2.2, .int .i64 p2.2.1.2.1.2.2.1, .int .i64 p2.2.1.2.1.2.2.2.1, .int .i64 p2.2.1.2.1.2.2.2.2.1, .int .i64 p2.2.1.2.1.2.2.2.2.2, v2, .bool p2.2.2])]) (NZ3 := []) W Aa Aa (all_cons (fun h => AE (by kernel_rfl) h) (all_cons (fun h => AE (by kernel_rfl) h) Ap)) Ap ?_
   refine BQ (R := []) F Aa Aa (yC fun M Z hN hZ => AW F Aa) Aa Aa fun a F => ?_
   refine BQ (R := []) F Aa Aa (yC fun M Z hN hZ => Aj JB Aa Aa Aa PX F Aa 2 Aa) Aa Aa fun a F => ?_
   refine CT Aa ?_
   refine HU (M' := [(b2, [.int .i64 x1.1.1, .int .i64 x1.1.2.1.1, .int .i64 x1.1.2.1.2.1.1, .int .i64 x1.1.2.1.2.1.2.1.1, .int .i64 x1.1.2.1.2.1.2.1.2.1, .int .i64 x1.1.2.1.2.1.2.1.2.2.1, .int .i64 x1.1.2.1.2.1.2.1.2.2.2, .int .i64 x1.1.2.1.2.1.2.2.1, .int .i64 x1.1.2.1.2.1.2.2.2.1, .int .i64 x1.1.2.1.2.1.2.2.2.2.1, .int .i64 x1.1.2.1.2.1.2.2.2.2.2, v3, .bool x1.1.2.2]), (q_p0, (Ce p0 v6)), (b1, (Fa p2 v2))]) 1 F W Aa Aa Aa PX (W.one (k := 0) Aa) Aa Aa fun w W => ?_
   refine A0 (N2 := []) (NZ2 := []) (N3 := [(some 9, q_p0, [.int .i64 p0.1, .int .i64 p0.2.1, v1]), (some 8, b1, [.int .i64 p2.1, .int .i64 p2.2.1.1, .int .i64 p2.2.1.2.1.1, .int .i64 p2.2.1.2.1.2.1.1, .int .i64 p2.2.1.2.1.2.1.2.1, .int .i64 p2.2.1.2.1.2.1.2.2.1, .int .i64 p2.2.1.2.1.2.1.2.2.2, .int .i64 p2.2.1.2.1.2.2.1, .int .i64 p2.2.1.2.1.2.2.2.1, .int .i64 p2.2.1.2.1.2.2.2.2.1, .int .i64 p2.2.1.2.1.2.2.2.2.2, v2, .bool p2.2.2])]) (NZ3 := []) W Aa Aa (all_cons (fun h => AE (by kernel_rfl) h) (all_cons (fun h => AE (by kernel_rfl) h) Ap)) Ap ?_
   refine ET (Ad ?_)
   have W := W.frontZ (i := 2) Aa Aa
   have W := W.frontM (i := 2) Aa Aa
   have W := W.frontM (i := 2) Aa Aa
   have W := W.frontM (i := 2) Aa Aa
   have W := W.sub (M' := [(b2, [.int .i64 x1.1.1, .int .i64 x1.1.2.1.1, .int .i64 x1.1.2.1.2.1.1, .int .i64 x1.1.2.1.2.1.2.1.1, .int .i64 x1.1.2.1.2.1.2.1.2.1, .int .i64 x1.1.2.1.2.1.2.1.2.2.1, .int .i64 x1.1.2.1.2.1.2.1.2.2.2, .int .i64 x1.1.2.1.2.1.2.2.1, .int .i64 x1.1.2.1.2.1.2.2.2.1, .int .i64 x1.1.2.1.2.1.2.2.2.2.1, .int .i64 x1.1.2.1.2.1.2.2.2.2.2, v3, .bool x1.1.2.2]), (q_p0, (Ce p0 v6)), (b1, (Fa p2 v2))]) (Z' := [Bo v3 Bk x1.1.2.1.2.2, row v6 76 CQ x6]) (List.Sublist.refl _) (List.Sublist.cons_cons _ (List.Sublist.cons_cons _ (List.nil_sublist _)))
   exact ⟨_, (v6), H, F.ra Aa, W⟩
  refine AC (Ad ?_)
  have W := W.frontZ (i := 1) Aa Aa
  have W := W.frontZ (i := 1) Aa Aa
  have W := W.frontM (i := 2) Aa Aa
  have W := W.frontM (i := 2) Aa Aa
  have W := W.frontM (i := 2) Aa Aa
  exact ⟨_, (v1), H, F.ra Aa, W⟩
 rintro a w ⟨x5, v4, hj, F, W⟩
 have hj := Av hj
 subst hj
 have H := K2
 clear G2 K2
 refine vc tk 5 F W fun a w F W => ?_
 refine Al ?_
 have H := Av H
 subst H
 refine Aw (.inl Aa) F W Aa (Ai F Aa) ?_
 have W := W.frontZ (i := 1) Aa Aa
 have W := W.frontM (i := 1) Aa Aa
 have W := W.sub (M' := [(q_p0, (Ce p0 v4))]) (Z' := [row v4 76 CQ x5]) (List.Sublist.cons_cons _ (List.nil_sublist _)) (List.Sublist.cons_cons _ (List.nil_sublist _))
 exact ⟨(v4), Aa, W⟩
theorem H9 : Has Try.prog 9 := BV Try.func9
noncomputable def Cv (p0 : Int × Int × (List (Int × (Int × (Int × (Int × (Int × Int × Int × Int) × (Int × Int × Int × Int)) × (List (Int × Int × Int))) × Bool)))) (p1 : Int) : Int → Option (Int ⊕ (Unit ⊕ (Int × (Int × Int × (List (Int × (Int × (Int × (Int × (Int × Int × Int × Int) × (Int × Int × Int × Int)) × (List (Int × Int × Int))) × Bool)))))))
  | x1 => (if x1 < (p0.2.2.length : Int) then (ix p0.2.2 x1).bind fun x2 => (if p1 ≤ x2.1 then some (.inr (.inr (8, p0))) else some (.inl (Cc (x1 + 1)))) else some (.inr (.inl ())))
noncomputable def BG (p0 : Int × Int × (List (Int × (Int × (Int × (Int × (Int × Int × Int × Int) × (Int × Int × Int × Int)) × (List (Int × Int × Int))) × Bool)))) (p1 : Int) : Option (Int × (Int × Int × (List (Int × (Int × (Int × (Int × (Int × Int × Int × Int) × (Int × Int × Int × Int)) × (List (Int × Int × Int))) × Bool))))) := (if p0.1 = 2 then some (16, p0) else (if (decide (p0.1 = 1) && decide (p1 = p0.2.1)) = true then some (0, p0) else (if (decide (p0.1 = 1) || (decide (p1 < 0) || decide (16 < p1))) = true then some (2, p0) else FR (AX (Cv p0 p1) 0) fun _ => (if (p0.2.2.length : Int) < p1 then some (7, p0) else some (0, (1, p1, p0.2.2))))))
theorem Hs (Y : Nat → Prop) (X : List Nat) (w0 : World) (q_p0 : Nat) (v1 : Value) (p0 : Int × Int × (List (Int × (Int × (Int × (Int × (Int × Int × Int × Int) × (Int × Int × Int × Int)) × (List (Int × Int × Int))) × Bool)))) (p1 : Int) (r : Int × (Int × Int × (List (Int × (Int × (Int × (Int × (Int × Int × Int × Int) × (Int × Int × Int × Int)) × (List (Int × Int × Int))) × Bool))))) (H : BG p0 p1 = some r) (hL : Stw ⟨Y, X, w0⟩ [(q_p0, [.int .i64 p0.1, .int .i64 p0.2.1, v1])] [row v1 76 CQ p0.2.2] w0) :
    Calls Try.prog 11 #[.pointer (some ⟨q_p0, 0, none⟩), .int .i64 p1] w0 fun e w' => ∃ x : Value, e = .returned (.int .i64 r.1) ∧ Stw ⟨Y, X, w0⟩ [(q_p0, [.int .i64 r.2.1, .int .i64 r.2.2.1, x])] [row (x) 76 CQ r.2.2.2] w' := by
 refine enter Try.func11 Aa Try.ntmps11 Aa fun a F => ?_
 have W := hL
 unfold BG at H
 refine vc tk 9 F W fun a w F W => ?_
 refine ls F W Aa (AW F Aa).q fun a w F W => ?_
 refine Eo tk 5 [0] F W (ai fun a w F W => ?_)
 refine Bi F Aa H (fun F H => ?_) fun F H => ?_
 ·
  refine vc tk 5 F W fun a w F W => ?_
  refine Al (Aq ?_)
  have H := Av H
  subst H
  refine Aw (.inl Aa) F W Aa (Ai F Aa) ?_
  exact ⟨(v1), Aa, W⟩
 refine D6 tk 3 F W fun a w F W => ?_
 refine Au (fun a w => Fr 70 [] [(0, .pointer (some ⟨q_p0, 0, none⟩)), (1, .int .i64 p1), (4, .int .i64 0), (23, .bool (decide (p0.1 = 1) && decide (p1 = p0.2.1)))] a ∧ Stw ⟨Y, X, w0⟩ [(q_p0, (Ce p0 v1))] [row v1 76 CQ p0.2.2] w) ?_ ?_
 ·
  refine vc tk 2 F W fun a w F W => ?_
  refine ls F W Aa (AW F Aa).q fun a w F W => ?_
  refine Fu tk 4 [0] F W (ai fun a w F W => ?_)
  rcases Bool.eq_false_or_eq_true (decide (p0.1 = 1)) with hb0 | hb0
  ·
   rw [hb0] at F
   refine vl tk 2 F W fun a w F W => ?_
   refine FE F W (Ae F Aa Aa Aa Aa) Aa (As Aa) (AW F Aa).q fun a w F W => ?_
   refine Fu tk 5 [0] F W (ai fun a w F W => ?_)
   refine Ad ?_
   exact ⟨F.re ⟨rfl, Aa, Aa, (Ev (by try rw [hb0]; all_goals simp only [Es])), trivial⟩, W⟩
  rw [hb0] at F
  refine vl tk 8 F W fun a w F W => ?_
  refine Ad ?_
  exact ⟨F.re ⟨rfl, Aa, Aa, (Ev (by try rw [hb0]; all_goals simp only [Es])), trivial⟩, W⟩
 rintro a w ⟨F, W⟩
 refine BE F Aa H (fun F H => ?_) fun F H => ?_
 ·
  refine vc tk 5 F W fun a w F W => ?_
  refine Al (Aq ?_)
  have H := Av H
  subst H
  refine Aw (.inl Aa) F W Aa (Ai F Aa) ?_
  exact ⟨(v1), Aa, W⟩
 refine D6 tk 3 F W fun a w F W => ?_
 refine Au (fun a w => Fr 70 [] [(0, .pointer (some ⟨q_p0, 0, none⟩)), (1, .int .i64 p1), (4, .int .i64 0), (36, .bool (decide (p0.1 = 1) || (decide (p1 < 0) || decide (16 < p1))))] a ∧ Stw ⟨Y, X, w0⟩ [(q_p0, (Ce p0 v1))] [row v1 76 CQ p0.2.2] w) ?_ ?_
 ·
  refine vc tk 2 F W fun a w F W => ?_
  refine ls F W Aa (AW F Aa).q fun a w F W => ?_
  refine Fu tk 4 [0] F W (ai fun a w F W => ?_)
  rcases Bool.eq_false_or_eq_true (decide (p0.1 = 1)) with hb0 | hb0
  ·
   rw [hb0] at F
   refine vl tk 8 F W fun a w F W => ?_
   refine Ad ?_
   exact ⟨F.re ⟨rfl, Aa, Aa, (Ev (by try rw [hb0]; all_goals simp only [Es])), trivial⟩, W⟩
  rw [hb0] at F
  refine vl tk 4 F W fun a w F W => ?_
  rcases Bool.eq_false_or_eq_true (decide (p1 < 0)) with hb1 | hb1
  ·
   rw [hb1] at F
   refine vl tk 4 F W fun a w F W => ?_
   refine Ad ?_
   exact ⟨F.re ⟨rfl, Aa, Aa, (Ev (by try rw [hb0]; try rw [hb1]; all_goals simp only [Es])), trivial⟩, W⟩
  rw [hb1] at F
  refine vl tk 4 F W fun a w F W => ?_
  refine Ad ?_
  exact ⟨F.re ⟨rfl, Aa, Aa, (Ev (by try rw [hb0]; try rw [hb1]; all_goals simp only [Es])), trivial⟩, W⟩
 rintro a w ⟨F, W⟩
 refine BE F Aa H (fun F H => ?_) fun F H => ?_
 ·
  refine vc tk 5 F W fun a w F W => ?_
  refine Al (Aq ?_)
  have H := Av H
  subst H
  refine Aw (.inl Aa) F W Aa (Ai F Aa) ?_
  exact ⟨(v1), Aa, W⟩
 refine AC (Ad ?_)
 obtain ⟨o1, G1, K1, L1⟩ := H1 H
 refine Au (fun a w => some (Sum.inl ()) = some o1 ∧ Fr 70 [] [(0, .pointer (some ⟨q_p0, 0, none⟩)), (1, .int .i64 p1), (4, .int .i64 0)] a ∧ Stw ⟨Y, X, w0⟩ [(q_p0, (Ce p0 v1))] [row v1 76 CQ p0.2.2] w) ?_ ?_
 ·
  have H := G1
  clear G1 K1
  refine vc tk 6 F W fun a w F W => ?_
  refine BA H (fun s a w => Fr 70 [] [(0, .pointer (some ⟨q_p0, 0, none⟩)), (1, .int .i64 p1), (4, .int .i64 0), (5, .int .i64 s)] a ∧ Stw ⟨Y, X, w0⟩ [(q_p0, (Ce p0 v1))] [row v1 76 CQ p0.2.2] w) ⟨F.ra Aa, W⟩ fun s o a w H L2 hR => ?_
  obtain ⟨x1, rfl⟩ : ∃ x, x = s := ⟨s, rfl⟩
  obtain ⟨F, W⟩ := hR
  have F : Fr 70 [] [(0, .pointer (some ⟨q_p0, 0, none⟩)), (1, .int .i64 p1), (4, .int .i64 0), (5, .int .i64 x1)] a := F
  have W : Stw ⟨Y, X, w0⟩ [(q_p0, (Ce p0 v1))] [row v1 76 CQ p0.2.2] w := W
  rw [Cv] at H
  refine vc tk 5 F W fun a w F W => ?_
  refine ls F W Aa (AW F Aa).q fun a w F W => ?_
  refine Fu tk 2 [0] F W (ai fun a w F W => ?_)
  refine ls F W Aa (B7 (r := CQ) (l := p0.2.2) PD Aa F Aa (AU 0 Aa)).q fun a w F W => ?_
  refine BJ tk 3 F W fun a w F W => ?_
  refine Bi F Aa H (fun F H => ?_) fun F H => ?_
  ·
   refine D6 tk 5 F W fun a w F W => ?_
   obtain ⟨v2, h1, W⟩ := W.exR Hu
   refine vc tk 2 F W fun a w F W => ?_
   refine ls F W Aa (AW F Aa).q fun a w F W => ?_
   refine Fu tk 3 [0] F W (ai fun a w F W => ?_)
   obtain ⟨x2, h2, H⟩ := Af H
   obtain ⟨v3, h3, h4⟩ := BX h1 h2
   have h5 : LQ v3 = [.int .i64 x2.1, .int .i64 x2.2.1, .int .i64 x2.2.2.1.1, .int .i64 x2.2.2.1.2.1.1, .int .i64 x2.2.2.1.2.1.2.1.1, .int .i64 x2.2.2.1.2.1.2.1.2.1, .int .i64 x2.2.2.1.2.1.2.1.2.2.1, .int .i64 x2.2.2.1.2.1.2.1.2.2.2, .int .i64 x2.2.2.1.2.1.2.2.1, .int .i64 x2.2.2.1.2.1.2.2.2.1, .int .i64 x2.2.2.1.2.1.2.2.2.2.1, .int .i64 x2.2.2.1.2.1.2.2.2.2.2, (v3.2.2.1.2.2.1), .bool x2.2.2.2] := congrArg (fun q : Int × (Int × (Int × (Int × (Int × Int × Int × Int) × (Int × Int × Int × Int)) × (List (Int × Int × Int))) × Bool) => ([.int .i64 q.1, .int .i64 q.2.1, .int .i64 q.2.2.1.1, .int .i64 q.2.2.1.2.1.1, .int .i64 q.2.2.1.2.1.2.1.1, .int .i64 q.2.2.1.2.1.2.1.2.1, .int .i64 q.2.2.1.2.1.2.1.2.2.1, .int .i64 q.2.2.1.2.1.2.1.2.2.2, .int .i64 q.2.2.1.2.1.2.2.1, .int .i64 q.2.2.1.2.1.2.2.2.1, .int .i64 q.2.2.1.2.1.2.2.2.2.1, .int .i64 q.2.2.1.2.1.2.2.2.2.2, (v3.2.2.1.2.2.1), .bool q.2.2.2] : List Value)) h4
   refine ls F W Aa (AR (r := LZ) Q7 F Aa Aa (AU 0 Aa) h3).q fun a w F W => ?_
   refine ls F W Aa (Aj PG Aa Aa Aa T3 F Aa (Ei v1 + (x1).toNat * 14) Aa).q fun a w F W => ?_
   refine ls F W Aa (AD (y := Value.int .i64 x2.1) (j := 0) (i := x1) (enc := LQ) F Aa Aa (AU 0 Aa) h3 Ql T3 (by rw [h5]; rfl)).q fun a w F W => ?_
   have W := W.note (W.rowAt (k := 0) Aa h3 (Ay.snd (Ay.snd (Ay.fst (Ay.snd (Ay.snd Ay.here))))) (congrArg (fun q : Int × (Int × (Int × (Int × (Int × Int × Int × Int) × (Int × Int × Int × Int)) × (List (Int × Int × Int))) × Bool) => q.2.2.1.2.2) h4))
   refine BJ tk 4 F W fun a w F W => ?_
   refine Bi F Aa H (fun F H => ?_) fun F H => ?_
   ·
    refine vc tk 5 F W fun a w F W => ?_
    refine Al (Az ?_)
    iterate 2 refine Aq ?_
    refine Az (Aq ?_)
    have H := L2 _ H
    have H := L1 _ H
    have H := Av H
    subst H
    refine Aw (.inl Aa) F W Aa (Ai F Aa) ?_
    have W := W.frontZ (i := 1) Aa Aa
    have W := W.hideR Hu h1
    have W := W.sub (M' := [(q_p0, (Ce p0 v1))]) (Z' := [row v1 76 CQ p0.2.2]) (List.Sublist.refl _) (List.Sublist.cons_cons _ (List.nil_sublist _))
    exact ⟨(v1), Aa, W⟩
   refine AC (AF ?_)
   refine vn tk 5 F W fun a w F W => ?_
   refine Ad ?_
   have W := W.frontZ (i := 1) Aa Aa
   have W := W.hideR Hu h1
   have W := W.sub (M' := [(q_p0, (Ce p0 v1))]) (Z' := [row v1 76 CQ p0.2.2]) (List.Sublist.refl _) (List.Sublist.cons_cons _ (List.nil_sublist _))
   exact ⟨_, H, F.ra Aa, W⟩
  refine Bm ?_
  iterate 2 refine BU ?_
  refine Bp (Ad ?_)
  have H := L2 _ H
  exact ⟨H, F.ra Aa, W⟩
 rintro a w ⟨hj, F, W⟩
 have H := K1 _ hj
 clear hj G1 K1 L1
 refine vc tk 4 F W fun a w F W => ?_
 refine ls F W Aa (AW F Aa).q fun a w F W => ?_
 refine Fu tk 2 [0] F W (ai fun a w F W => ?_)
 refine ls F W Aa (B7 (r := CQ) (l := p0.2.2) PD Aa F Aa (AU 0 Aa)).q fun a w F W => ?_
 refine BJ tk 4 F W fun a w F W => ?_
 refine Bi F Aa H (fun F H => ?_) fun F H => ?_
 ·
  refine vc tk 5 F W fun a w F W => ?_
  refine Al (Aq ?_)
  have H := Av H
  subst H
  refine Aw (.inl Aa) F W Aa (Ai F Aa) ?_
  exact ⟨(v1), Aa, W⟩
 refine D6 tk 5 F W fun a w F W => ?_
 refine ls F W Aa (AW F Aa).q fun a w F W => ?_
 refine ls F W Aa (Aj JB Aa Aa Aa T3 F Aa 0 Aa).q fun a w F W => ?_
 refine Dh 0 F W Aa Aa Aa T3 Aa Aa Aa fun w W => ?_
 refine BJ tk 6 F W fun a w F W => ?_
 refine ls F W Aa (AW F Aa).q fun a w F W => ?_
 refine ls F W Aa (Aj JB Aa Aa Aa T3 F Aa 1 Aa).q fun a w F W => ?_
 refine Dh 0 F W Aa Aa Aa T3 Aa Aa Aa fun w W => ?_
 refine BJ tk 7 F W fun a w F W => ?_
 refine Al ?_
 have H := Av H
 subst H
 refine Aw (.inl Aa) F W Aa (Ai F Aa) ?_
 exact ⟨(v1), Aa, W⟩
theorem Tg : Has Try.prog 11 := BV Try.func11
abbrev N1 (a0 : Nat) (a1 : Nat) (a2 : Int × (Int × (Int × Int × Int × Int) × (Int × Int × Int × Int)) × (List (Int × Int × Int))) (a3 : Value) : List (Nat × List Value) := [(a0, [.int .i64 0, .int .i64 0, .int .i64 0, .int .i64 0, .int .i64 0, .int .i64 0, .int .i64 0, .int .i64 0, .int .i64 0, .int .i64 0, .slice none 0 0]), (a1, [.int .i64 a2.1, .int .i64 a2.2.1.1, .int .i64 a2.2.1.2.1.1, .int .i64 a2.2.1.2.1.2.1, .int .i64 a2.2.1.2.1.2.2.1, .int .i64 a2.2.1.2.1.2.2.2, .int .i64 a2.2.1.2.2.1, .int .i64 a2.2.1.2.2.2.1, .int .i64 a2.2.1.2.2.2.2.1, .int .i64 a2.2.1.2.2.2.2.2, a3])]
noncomputable def Cb (p0 : Int × (Int × (Int × Int × Int × Int) × (Int × Int × Int × Int)) × (List (Int × Int × Int))) : Option (Int × (Int × (Int × Int × Int × Int) × (Int × Int × Int × Int)) × (List (Int × Int × Int))) := (A8 p0.2.2).bind fun x1 => some (p0.1, p0.2.1, x1)
theorem Dl (Y : Nat → Prop) (w0 : World) (v1 : Value) (p0 : Int × (Int × (Int × Int × Int × Int) × (Int × Int × Int × Int)) × (List (Int × Int × Int))) (r : (Int × (Int × (Int × Int × Int × Int) × (Int × Int × Int × Int)) × (List (Int × Int × Int)))) (H : Cb p0 = some r) (s_v1 : Sl w0 Y Bk v1 p0.2.2) :
    Calls Try.prog 46 #[.agg #[.int .i64 p0.1, .int .i64 p0.2.1.1, .int .i64 p0.2.1.2.1.1, .int .i64 p0.2.1.2.1.2.1, .int .i64 p0.2.1.2.1.2.2.1, .int .i64 p0.2.1.2.1.2.2.2, .int .i64 p0.2.1.2.2.1, .int .i64 p0.2.1.2.2.2.1, .int .i64 p0.2.1.2.2.2.2.1, .int .i64 p0.2.1.2.2.2.2.2, v1]] w0 fun e w' => ∃ x : Value, e = .returned (.agg #[.int .i64 r.1, .int .i64 r.2.1.1, .int .i64 r.2.1.2.1.1, .int .i64 r.2.1.2.1.2.1, .int .i64 r.2.1.2.1.2.2.1, .int .i64 r.2.1.2.1.2.2.2, .int .i64 r.2.1.2.2.1, .int .i64 r.2.1.2.2.2.1, .int .i64 r.2.1.2.2.2.2.1, .int .i64 r.2.1.2.2.2.2.2, x]) ∧ Stw ⟨Y, [], w0⟩ [] [row (x) 88 Bk r.2.2] w' := by
 refine enter Try.func46 Aa Try.ntmps46 Aa fun a F => ?_
 have W := Stw.start Y w0
 have h_v1 := W.nx s_v1
 unfold Cb at H
 refine vc tk 2 F W fun a w F W => ?_
 refine BR (cs := (DZ p0 v1)) F W Aa Aa Aa fun b1 a w F W => ?_
 refine Ca (cs := (Iu)) F W Aa Kz Aa fun b2 a w F W => ?_
 refine Eo tk 6 [1] F W (ai fun a w F W => ?_)
 obtain ⟨x1, h1, H⟩ := Af H
 refine AA (Ml := []) (Zl := []) (β := Value) (rv := fun x => x) (MM := fun x => []) (ZZ := fun x => [row x 88 Bk x1]) F W Sr Aa Aa (fun hL => Di _ w (v1) p0.2.2 _ h1 (W.old s_v1)) fun x a w F W => ?_
 obtain ⟨v2, rfl⟩ : ∃ y, y = x := ⟨x, rfl⟩
 have W : Stw ⟨Y, [], w0⟩ (N1 b2 b1 p0 v1) [row v2 88 Bk x1] w := W
 refine ls F W Aa (Aj Ij Aa Aa Aa Nt F Aa 10 Aa).q fun a w F W => ?_
 refine HU (M' := (N1 b2 b1 p0 v2)) 1 F W Aa Aa Aa Nt (W.one (k := 0) Aa) Aa Aa fun w W => ?_
 refine Eo tk 5 [1] F W (ai fun a w F W => ?_)
 refine Dh 0 F W Aa Aa Aa EM Aa Aa (Ac Aa (Ac Aa (Ac Aa (Ac Aa (Ac Aa (Ac Aa (Ac Aa (Ac Aa (Ac Aa (Ac Aa (Ac (W.one (k := 0) Aa) Cr))))))))))) fun w W => ?_
 refine BJ tk 2 F W fun a w F W => ?_
 refine Al ?_
 have H := Av H
 subst H
 refine Aw (.inl Aa) F W Aa (Dp 0 F Aa Aa EM Aa) ?_
 have W := W.sub (M' := []) (Z' := [row v2 88 Bk x1]) (List.nil_sublist _) (List.Sublist.refl _)
 exact ⟨(v2), Aa, W⟩
end Go.Proofs.Ytfnmlmglmegamaa
