/- The functions of layer 12, EV. Conditions: none. -/
import Derived.Test.YtfnmlmglmegamaacA1
namespace Go.Proofs.Ytfnmlmglmegamaa
open Go Go.RowKit
set_option linter.unusedVariables false
set_option linter.unusedSimpArgs false
set_option maxRecDepth 20000
theorem Qz : Has Try.prog 26 := B3 Try.func26
noncomputable def Db  : Option Bool := (D9 1 1 5 0).bind fun x1 => (D9 1 2 5 1).bind fun x2 => (AP BJ 1 (1, x2, false)).bind fun x3 => (AP x3.2 0 (1, x1, false)).bind fun x4 => (AP x4.2 1 (1, x2, false)).bind fun x5 => (Bv x5.2 2).bind fun x6 => (AF x6.2).bind fun x7 => (if x3.1 = 0 then (if x4.1 = x3.1 then (if x5.1 = x3.1 then (if x6.1 = x3.1 then (if (x7.length : Int) = 2 then (ix x7 0).bind fun x9 => (DS x9 (1, x1, false)).bind fun x10 => (if x10 = true then (ix x7 1).bind fun x11 => (DS x11 (1, x2, false)).bind fun x12 => (if x12 = true then some (decide ((Ai x6.2) = 1)) else some false) else some false) else some false) else some false) else some false) else some false) else some false).bind fun x8 => some x8
theorem E6 (Y : Nat → Prop) (w0 : World)   (r : Bool) (H : Db  = some r)  :
    Calls Try.prog 6 #[] w0 fun e w' => e = .returned (.bool r) ∧ Below w0.heap.size w0 w' := by
 refine enter Try.func6 Aa Try.ntmps6 Aa fun a F => ?_
 have W := Stw.start Y w0
 unfold Db at H
 refine vc tk 7 F W fun a w F W => ?_
 refine AB (Ml := []) (Zl := []) (β := Nat) (rv := fun x => .pointer (some ⟨x, 0, none⟩)) (MM := fun x => []) (ZZ := fun x => [Be x Bn 16 BJ]) F W H7 Aa Aa (fun hL => GZ _ w _ Aa) fun x a w F W => ?_
 obtain ⟨b1, rfl⟩ : ∃ y, y = x := ⟨x, rfl⟩
 have W : Stw ⟨Y, [], w0⟩ [] [Be b1 Bn 16 BJ] w := W
 refine BV tk 5 F W fun a w F W => ?_
 obtain ⟨x1, h1, H⟩ := Ah H
 refine AB (Ml := []) (Zl := []) (β := Value) (rv := fun x => .agg #[.int .i64 x1.1, .int .i64 x1.2.1.1, .int .i64 x1.2.1.2.1.1, .int .i64 x1.2.1.2.1.2.1, .int .i64 x1.2.1.2.1.2.2.1, .int .i64 x1.2.1.2.1.2.2.2, .int .i64 x1.2.1.2.2.1, .int .i64 x1.2.1.2.2.2.1, .int .i64 x1.2.1.2.2.2.2.1, .int .i64 x1.2.1.2.2.2.2.2, x]) (MM := fun x => []) (ZZ := fun x => [row x 88 Bl x1.2.2]) F W Rm Aa Aa (fun hL => GX _ w 1 1 5 0 _ h1) fun x a w F W => ?_
 obtain ⟨v1, rfl⟩ : ∃ y, y = x := ⟨x, rfl⟩
 have W : Stw ⟨Y, [], w0⟩ [] [row v1 88 Bl x1.2.2, Be b1 Bn 16 BJ] w := W
 refine ls F W Aa (Eg (v := Value.agg #[.int .i64 1, .int .i64 x1.1, .int .i64 x1.2.1.1, .int .i64 x1.2.1.2.1.1, .int .i64 x1.2.1.2.1.2.1, .int .i64 x1.2.1.2.1.2.2.1, .int .i64 x1.2.1.2.1.2.2.2, .int .i64 x1.2.1.2.2.1, .int .i64 x1.2.1.2.2.2.1, .int .i64 x1.2.1.2.2.2.2.1, .int .i64 x1.2.1.2.2.2.2.2, v1, .bool false]) Rs F Aa (CU Aa Aa Aa (CU Aa Aa Aa FH)) Aa).q fun a w F W => ?_
 obtain ⟨x2, h2, H⟩ := Ah H
 refine AB (Ml := []) (Zl := []) (β := Value) (rv := fun x => .agg #[.int .i64 x2.1, .int .i64 x2.2.1.1, .int .i64 x2.2.1.2.1.1, .int .i64 x2.2.1.2.1.2.1, .int .i64 x2.2.1.2.1.2.2.1, .int .i64 x2.2.1.2.1.2.2.2, .int .i64 x2.2.1.2.2.1, .int .i64 x2.2.1.2.2.2.1, .int .i64 x2.2.1.2.2.2.2.1, .int .i64 x2.2.1.2.2.2.2.2, x]) (MM := fun x => []) (ZZ := fun x => [row x 88 Bl x2.2.2]) F W Rm Aa Aa (fun hL => GX _ w 1 2 5 1 _ h2) fun x a w F W => ?_
 obtain ⟨v2, rfl⟩ : ∃ y, y = x := ⟨x, rfl⟩
 have W : Stw ⟨Y, [], w0⟩ [] [row v2 88 Bl x2.2.2, row v1 88 Bl x1.2.2, Be b1 Bn 16 BJ] w := W
 refine ls F W Aa (Eg (v := Value.agg #[.int .i64 1, .int .i64 x2.1, .int .i64 x2.2.1.1, .int .i64 x2.2.1.2.1.1, .int .i64 x2.2.1.2.1.2.1, .int .i64 x2.2.1.2.1.2.2.1, .int .i64 x2.2.1.2.1.2.2.2, .int .i64 x2.2.1.2.2.1, .int .i64 x2.2.1.2.2.2.1, .int .i64 x2.2.1.2.2.2.2.1, .int .i64 x2.2.1.2.2.2.2.2, v2, .bool false]) Rs F Aa (CU Aa Aa Aa (CU Aa Aa Aa FH)) Aa).q fun a w F W => ?_
 refine Cn (cs := (Lz)) F W Aa Qg Aa fun b2 a w F W => ?_
 refine Cn (cs := (Lz)) F W Aa Qg Aa fun b3 a w F W => ?_
 refine EJ 1 F W Aa Aa Aa I3 Aa Aa (Ac Aa (Ac Aa (Ac Aa (Ac Aa (Ac Aa (Ac Aa (Ac Aa (Ac Aa (Ac Aa (Ac Aa (Ac Aa (Ac (W.one (k := 1) Aa) (Ac Aa Ct))))))))))))) fun w W => ?_
 refine EJ 0 F W Aa Aa Aa I3 Aa Aa (Ac Aa (Ac Aa (Ac Aa (Ac Aa (Ac Aa (Ac Aa (Ac Aa (Ac Aa (Ac Aa (Ac Aa (Ac Aa (Ac (W.one (k := 0) Aa) (Ac Aa Ct))))))))))))) fun w W => ?_
 refine BV tk 3 F W fun a w F W => ?_
 refine ER [(true, 0), (true, 1), (true, 3), (true, 4), (true, 6), (true, 7), (true, 9), (false, 2), (false, 5), (false, 8), (false, 10), (false, 11), (false, 12), (false, 13), (false, 14)] (CN ⟨Y, [], w0⟩ [(some 2, b3, [.int .i64 1, .int .i64 x2.1, .int .i64 x2.2.1.1, .int .i64 x2.2.1.2.1.1, .int .i64 x2.2.1.2.1.2.1, .int .i64 x2.2.1.2.1.2.2.1, .int .i64 x2.2.1.2.1.2.2.2, .int .i64 x2.2.1.2.2.1, .int .i64 x2.2.1.2.2.2.1, .int .i64 x2.2.1.2.2.2.2.1, .int .i64 x2.2.1.2.2.2.2.2, v2, .bool false]), (some 5, b2, [.int .i64 1, .int .i64 x1.1, .int .i64 x1.2.1.1, .int .i64 x1.2.1.2.1.1, .int .i64 x1.2.1.2.1.2.1, .int .i64 x1.2.1.2.1.2.2.1, .int .i64 x1.2.1.2.1.2.2.2, .int .i64 x1.2.1.2.2.1, .int .i64 x1.2.1.2.2.2.1, .int .i64 x1.2.1.2.2.2.2.1, .int .i64 x1.2.1.2.2.2.2.2, v1, .bool false]), (some 8, b3, [.int .i64 1, .int .i64 x2.1, .int .i64 x2.2.1.1, .int .i64 x2.2.1.2.1.1, .int .i64 x2.2.1.2.1.2.1, .int .i64 x2.2.1.2.1.2.2.1, .int .i64 x2.2.1.2.1.2.2.2, .int .i64 x2.2.1.2.2.1, .int .i64 x2.2.1.2.2.2.1, .int .i64 x2.2.1.2.2.2.2.1, .int .i64 x2.2.1.2.2.2.2.2, v2, .bool false])] []) (fun ch a d v w h => by cases d <;> exact h) MO (by kernel_rfl) W (fun w W => ⟨_, _, W, (all_cons (fun _ => (.head _)) (all_cons (fun _ => (.tail _ (.head _))) (all_cons (fun _ => (.head _)) As))), As⟩) fun w W => ?_
 refine CZ (R := []) F Aa Aa (yC fun M Z hN hZ => Am F Aa) Aa Aa fun a F => ?_
 refine CZ (R := [2]) F Aa Aa (yC fun M Z hN hZ => DC (cs := [.int .i64 1, .int .i64 x2.1, .int .i64 x2.2.1.1, .int .i64 x2.2.1.2.1.1, .int .i64 x2.2.1.2.1.2.1, .int .i64 x2.2.1.2.1.2.2.1, .int .i64 x2.2.1.2.1.2.2.2, .int .i64 x2.2.1.2.2.1, .int .i64 x2.2.1.2.2.2.1, .int .i64 x2.2.1.2.2.2.2.1, .int .i64 x2.2.1.2.2.2.2.2, v2, .bool false]) (v := Value.agg #[.int .i64 1, .int .i64 x2.1, .int .i64 x2.2.1.1, .int .i64 x2.2.1.2.1.1, .int .i64 x2.2.1.2.1.2.1, .int .i64 x2.2.1.2.1.2.2.1, .int .i64 x2.2.1.2.1.2.2.2, .int .i64 x2.2.1.2.2.1, .int .i64 x2.2.1.2.2.2.1, .int .i64 x2.2.1.2.2.2.2.1, .int .i64 x2.2.1.2.2.2.2.2, v2, .bool false]) F Aa (hN ((some 2), b3, [.int .i64 1, .int .i64 x2.1, .int .i64 x2.2.1.1, .int .i64 x2.2.1.2.1.1, .int .i64 x2.2.1.2.1.2.1, .int .i64 x2.2.1.2.1.2.2.1, .int .i64 x2.2.1.2.1.2.2.2, .int .i64 x2.2.1.2.2.1, .int .i64 x2.2.1.2.2.2.1, .int .i64 x2.2.1.2.2.2.2.1, .int .i64 x2.2.1.2.2.2.2.2, v2, .bool false]) (.head _) Aa) I3 Aa) (by kernel_rfl) Aa fun a F => ?_
 refine CZ (R := []) F Aa Aa (yC fun M Z hN hZ => Am F Aa) Aa Aa fun a F => ?_
 refine CZ (R := [5]) F Aa Aa (yC fun M Z hN hZ => DC (cs := [.int .i64 1, .int .i64 x1.1, .int .i64 x1.2.1.1, .int .i64 x1.2.1.2.1.1, .int .i64 x1.2.1.2.1.2.1, .int .i64 x1.2.1.2.1.2.2.1, .int .i64 x1.2.1.2.1.2.2.2, .int .i64 x1.2.1.2.2.1, .int .i64 x1.2.1.2.2.2.1, .int .i64 x1.2.1.2.2.2.2.1, .int .i64 x1.2.1.2.2.2.2.2, v1, .bool false]) (v := Value.agg #[.int .i64 1, .int .i64 x1.1, .int .i64 x1.2.1.1, .int .i64 x1.2.1.2.1.1, .int .i64 x1.2.1.2.1.2.1, .int .i64 x1.2.1.2.1.2.2.1, .int .i64 x1.2.1.2.1.2.2.2, .int .i64 x1.2.1.2.2.1, .int .i64 x1.2.1.2.2.2.1, .int .i64 x1.2.1.2.2.2.2.1, .int .i64 x1.2.1.2.2.2.2.2, v1, .bool false]) F Aa (hN ((some 5), b2, [.int .i64 1, .int .i64 x1.1, .int .i64 x1.2.1.1, .int .i64 x1.2.1.2.1.1, .int .i64 x1.2.1.2.1.2.1, .int .i64 x1.2.1.2.1.2.2.1, .int .i64 x1.2.1.2.1.2.2.2, .int .i64 x1.2.1.2.2.1, .int .i64 x1.2.1.2.2.2.1, .int .i64 x1.2.1.2.2.2.2.1, .int .i64 x1.2.1.2.2.2.2.2, v1, .bool false]) (.tail _ (.head _)) Aa) I3 Aa) (by kernel_rfl) Aa fun a F => ?_
 refine CZ (R := []) F Aa Aa (yC fun M Z hN hZ => Am F Aa) Aa Aa fun a F => ?_
 refine CZ (R := [8]) F Aa Aa (yC fun M Z hN hZ => DC (cs := [.int .i64 1, .int .i64 x2.1, .int .i64 x2.2.1.1, .int .i64 x2.2.1.2.1.1, .int .i64 x2.2.1.2.1.2.1, .int .i64 x2.2.1.2.1.2.2.1, .int .i64 x2.2.1.2.1.2.2.2, .int .i64 x2.2.1.2.2.1, .int .i64 x2.2.1.2.2.2.1, .int .i64 x2.2.1.2.2.2.2.1, .int .i64 x2.2.1.2.2.2.2.2, v2, .bool false]) (v := Value.agg #[.int .i64 1, .int .i64 x2.1, .int .i64 x2.2.1.1, .int .i64 x2.2.1.2.1.1, .int .i64 x2.2.1.2.1.2.1, .int .i64 x2.2.1.2.1.2.2.1, .int .i64 x2.2.1.2.1.2.2.2, .int .i64 x2.2.1.2.2.1, .int .i64 x2.2.1.2.2.2.1, .int .i64 x2.2.1.2.2.2.2.1, .int .i64 x2.2.1.2.2.2.2.2, v2, .bool false]) F Aa (hN ((some 8), b3, [.int .i64 1, .int .i64 x2.1, .int .i64 x2.2.1.1, .int .i64 x2.2.1.2.1.1, .int .i64 x2.2.1.2.1.2.1, .int .i64 x2.2.1.2.1.2.2.1, .int .i64 x2.2.1.2.1.2.2.2, .int .i64 x2.2.1.2.2.1, .int .i64 x2.2.1.2.2.2.1, .int .i64 x2.2.1.2.2.2.2.1, .int .i64 x2.2.1.2.2.2.2.2, v2, .bool false]) (.tail _ (.tail _ (.head _))) Aa) I3 Aa) (by kernel_rfl) Aa fun a F => ?_
 refine CZ (R := []) F Aa Aa (yC fun M Z hN hZ => Am F Aa) Aa Aa fun a F => ?_
 refine En Aa ?_
 obtain ⟨x3, h3, H⟩ := Ah H
 have W := W.freeze
 have W := W.frontZ (i := 2) Aa Aa
 refine AB (Ml := []) (Zl := [Be b1 Bn 16 BJ]) (β := Unit) (rv := fun x => .int .i64 x3.1) (MM := fun x => []) (ZZ := fun x => [Be b1 Bn 16 x3.2]) F W H8 Aa Aa (fun hL => Cr _ _ w b1 (v2) BJ 1 (1, x2, false) _ h3 (W.item (i := 1) Aa) hL) fun x a w F W => ?_
 have W : Stw ⟨Y, [], w0⟩ [(b3, [.int .i64 1, .int .i64 x2.1, .int .i64 x2.2.1.1, .int .i64 x2.2.1.2.1.1, .int .i64 x2.2.1.2.1.2.1, .int .i64 x2.2.1.2.1.2.2.1, .int .i64 x2.2.1.2.1.2.2.2, .int .i64 x2.2.1.2.2.1, .int .i64 x2.2.1.2.2.2.1, .int .i64 x2.2.1.2.2.2.2.1, .int .i64 x2.2.1.2.2.2.2.2, v2, .bool false]), (b2, [.int .i64 1, .int .i64 x1.1, .int .i64 x1.2.1.1, .int .i64 x1.2.1.2.1.1, .int .i64 x1.2.1.2.1.2.1, .int .i64 x1.2.1.2.1.2.2.1, .int .i64 x1.2.1.2.1.2.2.2, .int .i64 x1.2.1.2.2.1, .int .i64 x1.2.1.2.2.2.1, .int .i64 x1.2.1.2.2.2.2.1, .int .i64 x1.2.1.2.2.2.2.2, v1, .bool false])] [Be b1 Bn 16 x3.2, BD v2 Bl x2.2.2, row v1 88 Bl x1.2.2] w := W
 refine BS (N2 := []) (NZ2 := []) (N3 := [(some 2, b3, [.int .i64 1, .int .i64 x2.1, .int .i64 x2.2.1.1, .int .i64 x2.2.1.2.1.1, .int .i64 x2.2.1.2.1.2.1, .int .i64 x2.2.1.2.1.2.2.1, .int .i64 x2.2.1.2.1.2.2.2, .int .i64 x2.2.1.2.2.1, .int .i64 x2.2.1.2.2.2.1, .int .i64 x2.2.1.2.2.2.2.1, .int .i64 x2.2.1.2.2.2.2.2, v2, .bool false]), (some 5, b2, [.int .i64 1, .int .i64 x1.1, .int .i64 x1.2.1.1, .int .i64 x1.2.1.2.1.1, .int .i64 x1.2.1.2.1.2.1, .int .i64 x1.2.1.2.1.2.2.1, .int .i64 x1.2.1.2.1.2.2.2, .int .i64 x1.2.1.2.2.1, .int .i64 x1.2.1.2.2.2.1, .int .i64 x1.2.1.2.2.2.2.1, .int .i64 x1.2.1.2.2.2.2.2, v1, .bool false]), (some 8, b3, [.int .i64 1, .int .i64 x2.1, .int .i64 x2.2.1.1, .int .i64 x2.2.1.2.1.1, .int .i64 x2.2.1.2.1.2.1, .int .i64 x2.2.1.2.1.2.2.1, .int .i64 x2.2.1.2.1.2.2.2, .int .i64 x2.2.1.2.2.1, .int .i64 x2.2.1.2.2.2.1, .int .i64 x2.2.1.2.2.2.2.1, .int .i64 x2.2.1.2.2.2.2.2, v2, .bool false])]) (NZ3 := []) W Aa Aa (all_cons (fun h => AG (by kernel_rfl) h) (all_cons (fun _ => (.tail _ (.head _))) (all_cons (fun _ => (.head _)) As))) As ?_
 refine En Aa ?_
 obtain ⟨x4, h4, H⟩ := Ah H
 have W := W.frontZ (i := 2) Aa Aa
 have W := W.freeze
 have W := W.frontZ (i := 1) Aa Aa
 refine AB (Ml := []) (Zl := [Be b1 Bn 16 x3.2]) (β := Unit) (rv := fun x => .int .i64 x4.1) (MM := fun x => []) (ZZ := fun x => [Be b1 Bn 16 x4.2]) F W H8 Aa Aa (fun hL => Cr _ _ w b1 (v1) x3.2 0 (1, x1, false) _ h4 (W.item (i := 1) Aa) hL) fun x a w F W => ?_
 have W : Stw ⟨Y, [], w0⟩ [(b3, [.int .i64 1, .int .i64 x2.1, .int .i64 x2.2.1.1, .int .i64 x2.2.1.2.1.1, .int .i64 x2.2.1.2.1.2.1, .int .i64 x2.2.1.2.1.2.2.1, .int .i64 x2.2.1.2.1.2.2.2, .int .i64 x2.2.1.2.2.1, .int .i64 x2.2.1.2.2.2.1, .int .i64 x2.2.1.2.2.2.2.1, .int .i64 x2.2.1.2.2.2.2.2, v2, .bool false]), (b2, [.int .i64 1, .int .i64 x1.1, .int .i64 x1.2.1.1, .int .i64 x1.2.1.2.1.1, .int .i64 x1.2.1.2.1.2.1, .int .i64 x1.2.1.2.1.2.2.1, .int .i64 x1.2.1.2.1.2.2.2, .int .i64 x1.2.1.2.2.1, .int .i64 x1.2.1.2.2.2.1, .int .i64 x1.2.1.2.2.2.2.1, .int .i64 x1.2.1.2.2.2.2.2, v1, .bool false])] [Be b1 Bn 16 x4.2, BD v1 Bl x1.2.2, BD v2 Bl x2.2.2] w := W
 refine BS (N2 := []) (NZ2 := []) (N3 := [(some 2, b3, [.int .i64 1, .int .i64 x2.1, .int .i64 x2.2.1.1, .int .i64 x2.2.1.2.1.1, .int .i64 x2.2.1.2.1.2.1, .int .i64 x2.2.1.2.1.2.2.1, .int .i64 x2.2.1.2.1.2.2.2, .int .i64 x2.2.1.2.2.1, .int .i64 x2.2.1.2.2.2.1, .int .i64 x2.2.1.2.2.2.2.1, .int .i64 x2.2.1.2.2.2.2.2, v2, .bool false]), (some 5, b2, [.int .i64 1, .int .i64 x1.1, .int .i64 x1.2.1.1, .int .i64 x1.2.1.2.1.1, .int .i64 x1.2.1.2.1.2.1, .int .i64 x1.2.1.2.1.2.2.1, .int .i64 x1.2.1.2.1.2.2.2, .int .i64 x1.2.1.2.2.1, .int .i64 x1.2.1.2.2.2.1, .int .i64 x1.2.1.2.2.2.2.1, .int .i64 x1.2.1.2.2.2.2.2, v1, .bool false]), (some 8, b3, [.int .i64 1, .int .i64 x2.1, .int .i64 x2.2.1.1, .int .i64 x2.2.1.2.1.1, .int .i64 x2.2.1.2.1.2.1, .int .i64 x2.2.1.2.1.2.2.1, .int .i64 x2.2.1.2.1.2.2.2, .int .i64 x2.2.1.2.2.1, .int .i64 x2.2.1.2.2.2.1, .int .i64 x2.2.1.2.2.2.2.1, .int .i64 x2.2.1.2.2.2.2.2, v2, .bool false])]) (NZ3 := []) W Aa Aa (all_cons (fun h => AG (by kernel_rfl) h) (all_cons (fun h => AG (by kernel_rfl) h) (all_cons (fun _ => (.head _)) As))) As ?_
 refine En Aa ?_
 obtain ⟨x5, h5, H⟩ := Ah H
 refine AB (Ml := []) (Zl := [Be b1 Bn 16 x4.2]) (β := Unit) (rv := fun x => .int .i64 x5.1) (MM := fun x => []) (ZZ := fun x => [Be b1 Bn 16 x5.2]) F W H8 Aa Aa (fun hL => Cr _ _ w b1 (v2) x4.2 1 (1, x2, false) _ h5 (W.item (i := 2) Aa) hL) fun x a w F W => ?_
 have W : Stw ⟨Y, [], w0⟩ [(b3, [.int .i64 1, .int .i64 x2.1, .int .i64 x2.2.1.1, .int .i64 x2.2.1.2.1.1, .int .i64 x2.2.1.2.1.2.1, .int .i64 x2.2.1.2.1.2.2.1, .int .i64 x2.2.1.2.1.2.2.2, .int .i64 x2.2.1.2.2.1, .int .i64 x2.2.1.2.2.2.1, .int .i64 x2.2.1.2.2.2.2.1, .int .i64 x2.2.1.2.2.2.2.2, v2, .bool false]), (b2, [.int .i64 1, .int .i64 x1.1, .int .i64 x1.2.1.1, .int .i64 x1.2.1.2.1.1, .int .i64 x1.2.1.2.1.2.1, .int .i64 x1.2.1.2.1.2.2.1, .int .i64 x1.2.1.2.1.2.2.2, .int .i64 x1.2.1.2.2.1, .int .i64 x1.2.1.2.2.2.1, .int .i64 x1.2.1.2.2.2.2.1, .int .i64 x1.2.1.2.2.2.2.2, v1, .bool false])] [Be b1 Bn 16 x5.2, BD v1 Bl x1.2.2, BD v2 Bl x2.2.2] w := W
 refine BS (N2 := []) (NZ2 := []) (N3 := [(some 2, b3, [.int .i64 1, .int .i64 x2.1, .int .i64 x2.2.1.1, .int .i64 x2.2.1.2.1.1, .int .i64 x2.2.1.2.1.2.1, .int .i64 x2.2.1.2.1.2.2.1, .int .i64 x2.2.1.2.1.2.2.2, .int .i64 x2.2.1.2.2.1, .int .i64 x2.2.1.2.2.2.1, .int .i64 x2.2.1.2.2.2.2.1, .int .i64 x2.2.1.2.2.2.2.2, v2, .bool false]), (some 5, b2, [.int .i64 1, .int .i64 x1.1, .int .i64 x1.2.1.1, .int .i64 x1.2.1.2.1.1, .int .i64 x1.2.1.2.1.2.1, .int .i64 x1.2.1.2.1.2.2.1, .int .i64 x1.2.1.2.1.2.2.2, .int .i64 x1.2.1.2.2.1, .int .i64 x1.2.1.2.2.2.1, .int .i64 x1.2.1.2.2.2.2.1, .int .i64 x1.2.1.2.2.2.2.2, v1, .bool false]), (some 8, b3, [.int .i64 1, .int .i64 x2.1, .int .i64 x2.2.1.1, .int .i64 x2.2.1.2.1.1, .int .i64 x2.2.1.2.1.2.1, .int .i64 x2.2.1.2.1.2.2.1, .int .i64 x2.2.1.2.1.2.2.2, .int .i64 x2.2.1.2.2.1, .int .i64 x2.2.1.2.2.2.1, .int .i64 x2.2.1.2.2.2.2.1, .int .i64 x2.2.1.2.2.2.2.2, v2, .bool false])]) (NZ3 := []) W Aa Aa (all_cons (fun h => AG (by kernel_rfl) h) (all_cons (fun h => AG (by kernel_rfl) h) (all_cons (fun h => AG (by kernel_rfl) h) As))) As ?_
 refine En Aa ?_
 obtain ⟨x6, h6, H⟩ := Ah H
 refine AB (Ml := []) (Zl := [Be b1 Bn 16 x5.2]) (β := Unit) (rv := fun x => .int .i64 x6.1) (MM := fun x => []) (ZZ := fun x => [Be b1 Bn 16 x6.2]) F W Rk Aa Aa (fun hL => D4 _ _ w b1 x5.2 2 _ h6 hL) fun x a w F W => ?_
 have W : Stw ⟨Y, [], w0⟩ [(b3, [.int .i64 1, .int .i64 x2.1, .int .i64 x2.2.1.1, .int .i64 x2.2.1.2.1.1, .int .i64 x2.2.1.2.1.2.1, .int .i64 x2.2.1.2.1.2.2.1, .int .i64 x2.2.1.2.1.2.2.2, .int .i64 x2.2.1.2.2.1, .int .i64 x2.2.1.2.2.2.1, .int .i64 x2.2.1.2.2.2.2.1, .int .i64 x2.2.1.2.2.2.2.2, v2, .bool false]), (b2, [.int .i64 1, .int .i64 x1.1, .int .i64 x1.2.1.1, .int .i64 x1.2.1.2.1.1, .int .i64 x1.2.1.2.1.2.1, .int .i64 x1.2.1.2.1.2.2.1, .int .i64 x1.2.1.2.1.2.2.2, .int .i64 x1.2.1.2.2.1, .int .i64 x1.2.1.2.2.2.1, .int .i64 x1.2.1.2.2.2.2.1, .int .i64 x1.2.1.2.2.2.2.2, v1, .bool false])] [Be b1 Bn 16 x6.2, BD v1 Bl x1.2.2, BD v2 Bl x2.2.2] w := W
 refine BS (N2 := []) (NZ2 := []) (N3 := [(some 2, b3, [.int .i64 1, .int .i64 x2.1, .int .i64 x2.2.1.1, .int .i64 x2.2.1.2.1.1, .int .i64 x2.2.1.2.1.2.1, .int .i64 x2.2.1.2.1.2.2.1, .int .i64 x2.2.1.2.1.2.2.2, .int .i64 x2.2.1.2.2.1, .int .i64 x2.2.1.2.2.2.1, .int .i64 x2.2.1.2.2.2.2.1, .int .i64 x2.2.1.2.2.2.2.2, v2, .bool false]), (some 5, b2, [.int .i64 1, .int .i64 x1.1, .int .i64 x1.2.1.1, .int .i64 x1.2.1.2.1.1, .int .i64 x1.2.1.2.1.2.1, .int .i64 x1.2.1.2.1.2.2.1, .int .i64 x1.2.1.2.1.2.2.2, .int .i64 x1.2.1.2.2.1, .int .i64 x1.2.1.2.2.2.1, .int .i64 x1.2.1.2.2.2.2.1, .int .i64 x1.2.1.2.2.2.2.2, v1, .bool false]), (some 8, b3, [.int .i64 1, .int .i64 x2.1, .int .i64 x2.2.1.1, .int .i64 x2.2.1.2.1.1, .int .i64 x2.2.1.2.1.2.1, .int .i64 x2.2.1.2.1.2.2.1, .int .i64 x2.2.1.2.1.2.2.2, .int .i64 x2.2.1.2.2.1, .int .i64 x2.2.1.2.2.2.1, .int .i64 x2.2.1.2.2.2.2.1, .int .i64 x2.2.1.2.2.2.2.2, v2, .bool false])]) (NZ3 := []) W Aa Aa (all_cons (fun h => AG (by kernel_rfl) h) (all_cons (fun h => AG (by kernel_rfl) h) (all_cons (fun h => AG (by kernel_rfl) h) As))) As ?_
 refine En Aa ?_
 refine ls F W Aa (BK F Aa).q fun a w F W => ?_
 refine BS (N2 := []) (NZ2 := []) (N3 := [(some 2, b3, [.int .i64 1, .int .i64 x2.1, .int .i64 x2.2.1.1, .int .i64 x2.2.1.2.1.1, .int .i64 x2.2.1.2.1.2.1, .int .i64 x2.2.1.2.1.2.2.1, .int .i64 x2.2.1.2.1.2.2.2, .int .i64 x2.2.1.2.2.1, .int .i64 x2.2.1.2.2.2.1, .int .i64 x2.2.1.2.2.2.2.1, .int .i64 x2.2.1.2.2.2.2.2, v2, .bool false]), (some 5, b2, [.int .i64 1, .int .i64 x1.1, .int .i64 x1.2.1.1, .int .i64 x1.2.1.2.1.1, .int .i64 x1.2.1.2.1.2.1, .int .i64 x1.2.1.2.1.2.2.1, .int .i64 x1.2.1.2.1.2.2.2, .int .i64 x1.2.1.2.2.1, .int .i64 x1.2.1.2.2.2.1, .int .i64 x1.2.1.2.2.2.2.1, .int .i64 x1.2.1.2.2.2.2.2, v1, .bool false]), (some 8, b3, [.int .i64 1, .int .i64 x2.1, .int .i64 x2.2.1.1, .int .i64 x2.2.1.2.1.1, .int .i64 x2.2.1.2.1.2.1, .int .i64 x2.2.1.2.1.2.2.1, .int .i64 x2.2.1.2.1.2.2.2, .int .i64 x2.2.1.2.2.1, .int .i64 x2.2.1.2.2.2.1, .int .i64 x2.2.1.2.2.2.2.1, .int .i64 x2.2.1.2.2.2.2.2, v2, .bool false])]) (NZ3 := []) W Aa Aa (all_cons (fun h => AG (by kernel_rfl) h) (all_cons (fun h => AG (by kernel_rfl) h) (all_cons (fun h => AG (by kernel_rfl) h) As))) As ?_
 refine En Aa ?_
 refine ls F W Aa (BK F Aa).q fun a w F W => ?_
 refine BS (N2 := []) (NZ2 := []) (N3 := [(some 2, b3, [.int .i64 1, .int .i64 x2.1, .int .i64 x2.2.1.1, .int .i64 x2.2.1.2.1.1, .int .i64 x2.2.1.2.1.2.1, .int .i64 x2.2.1.2.1.2.2.1, .int .i64 x2.2.1.2.1.2.2.2, .int .i64 x2.2.1.2.2.1, .int .i64 x2.2.1.2.2.2.1, .int .i64 x2.2.1.2.2.2.2.1, .int .i64 x2.2.1.2.2.2.2.2, v2, .bool false]), (some 5, b2, [.int .i64 1, .int .i64 x1.1, .int .i64 x1.2.1.1, .int .i64 x1.2.1.2.1.1, .int .i64 x1.2.1.2.1.2.1, .int .i64 x1.2.1.2.1.2.2.1, .int .i64 x1.2.1.2.1.2.2.2, .int .i64 x1.2.1.2.2.1, .int .i64 x1.2.1.2.2.2.1, .int .i64 x1.2.1.2.2.2.2.1, .int .i64 x1.2.1.2.2.2.2.2, v1, .bool false]), (some 8, b3, [.int .i64 1, .int .i64 x2.1, .int .i64 x2.2.1.1, .int .i64 x2.2.1.2.1.1, .int .i64 x2.2.1.2.1.2.1, .int .i64 x2.2.1.2.1.2.2.1, .int .i64 x2.2.1.2.1.2.2.2, .int .i64 x2.2.1.2.2.1, .int .i64 x2.2.1.2.2.2.1, .int .i64 x2.2.1.2.2.2.2.1, .int .i64 x2.2.1.2.2.2.2.2, v2, .bool false])]) (NZ3 := []) W Aa Aa (all_cons (fun h => AG (by kernel_rfl) h) (all_cons (fun h => AG (by kernel_rfl) h) (all_cons (fun h => AG (by kernel_rfl) h) As))) As ?_
 refine En Aa ?_
 refine ls F W Aa (BK F Aa).q fun a w F W => ?_
 refine BS (N2 := []) (NZ2 := []) (N3 := [(some 2, b3, [.int .i64 1, .int .i64 x2.1, .int .i64 x2.2.1.1, .int .i64 x2.2.1.2.1.1, .int .i64 x2.2.1.2.1.2.1, .int .i64 x2.2.1.2.1.2.2.1, .int .i64 x2.2.1.2.1.2.2.2, .int .i64 x2.2.1.2.2.1, .int .i64 x2.2.1.2.2.2.1, .int .i64 x2.2.1.2.2.2.2.1, .int .i64 x2.2.1.2.2.2.2.2, v2, .bool false]), (some 5, b2, [.int .i64 1, .int .i64 x1.1, .int .i64 x1.2.1.1, .int .i64 x1.2.1.2.1.1, .int .i64 x1.2.1.2.1.2.1, .int .i64 x1.2.1.2.1.2.2.1, .int .i64 x1.2.1.2.1.2.2.2, .int .i64 x1.2.1.2.2.1, .int .i64 x1.2.1.2.2.2.1, .int .i64 x1.2.1.2.2.2.2.1, .int .i64 x1.2.1.2.2.2.2.2, v1, .bool false]), (some 8, b3, [.int .i64 1, .int .i64 x2.1, .int .i64 x2.2.1.1, .int .i64 x2.2.1.2.1.1, .int .i64 x2.2.1.2.1.2.1, .int .i64 x2.2.1.2.1.2.2.1, .int .i64 x2.2.1.2.1.2.2.2, .int .i64 x2.2.1.2.2.1, .int .i64 x2.2.1.2.2.2.1, .int .i64 x2.2.1.2.2.2.2.1, .int .i64 x2.2.1.2.2.2.2.2, v2, .bool false])]) (NZ3 := []) W Aa Aa (all_cons (fun h => AG (by kernel_rfl) h) (all_cons (fun h => AG (by kernel_rfl) h) (all_cons (fun h => AG (by kernel_rfl) h) As))) As ?_
 refine En Aa ?_
 refine ls F W Aa (BK F Aa).q fun a w F W => ?_
 refine BS (N2 := []) (NZ2 := []) (N3 := [(some 2, b3, [.int .i64 1, .int .i64 x2.1, .int .i64 x2.2.1.1, .int .i64 x2.2.1.2.1.1, .int .i64 x2.2.1.2.1.2.1, .int .i64 x2.2.1.2.1.2.2.1, .int .i64 x2.2.1.2.1.2.2.2, .int .i64 x2.2.1.2.2.1, .int .i64 x2.2.1.2.2.2.1, .int .i64 x2.2.1.2.2.2.2.1, .int .i64 x2.2.1.2.2.2.2.2, v2, .bool false]), (some 5, b2, [.int .i64 1, .int .i64 x1.1, .int .i64 x1.2.1.1, .int .i64 x1.2.1.2.1.1, .int .i64 x1.2.1.2.1.2.1, .int .i64 x1.2.1.2.1.2.2.1, .int .i64 x1.2.1.2.1.2.2.2, .int .i64 x1.2.1.2.2.1, .int .i64 x1.2.1.2.2.2.1, .int .i64 x1.2.1.2.2.2.2.1, .int .i64 x1.2.1.2.2.2.2.2, v1, .bool false]), (some 8, b3, [.int .i64 1, .int .i64 x2.1, .int .i64 x2.2.1.1, .int .i64 x2.2.1.2.1.1, .int .i64 x2.2.1.2.1.2.1, .int .i64 x2.2.1.2.1.2.2.1, .int .i64 x2.2.1.2.1.2.2.2, .int .i64 x2.2.1.2.2.1, .int .i64 x2.2.1.2.2.2.1, .int .i64 x2.2.1.2.2.2.2.1, .int .i64 x2.2.1.2.2.2.2.2, v2, .bool false])]) (NZ3 := []) W Aa Aa (all_cons (fun h => AG (by kernel_rfl) h) (all_cons (fun h => AG (by kernel_rfl) h) (all_cons (fun h => AG (by kernel_rfl) h) As))) As ?_
 refine GI ?_
 refine vn tk 3 F W fun a w F W => ?_
 obtain ⟨x7, h7, H⟩ := Ah H
 refine AB (Ml := []) (Zl := [Be b1 Bn 16 x6.2]) (β := Value) (rv := fun x => x) (MM := fun x => []) (ZZ := fun x => [Be b1 Bn 16 x6.2, row x 39 F2 x7]) F W QP Aa Aa (fun hL => Dp _ _ w b1 x6.2 _ h7 hL) fun x a w F W => ?_
 obtain ⟨v3, rfl⟩ : ∃ y, y = x := ⟨x, rfl⟩
 have W : Stw ⟨Y, [], w0⟩ [(b3, [.int .i64 1, .int .i64 x2.1, .int .i64 x2.2.1.1, .int .i64 x2.2.1.2.1.1, .int .i64 x2.2.1.2.1.2.1, .int .i64 x2.2.1.2.1.2.2.1, .int .i64 x2.2.1.2.1.2.2.2, .int .i64 x2.2.1.2.2.1, .int .i64 x2.2.1.2.2.2.1, .int .i64 x2.2.1.2.2.2.2.1, .int .i64 x2.2.1.2.2.2.2.2, v2, .bool false]), (b2, [.int .i64 1, .int .i64 x1.1, .int .i64 x1.2.1.1, .int .i64 x1.2.1.2.1.1, .int .i64 x1.2.1.2.1.2.1, .int .i64 x1.2.1.2.1.2.2.1, .int .i64 x1.2.1.2.1.2.2.2, .int .i64 x1.2.1.2.2.1, .int .i64 x1.2.1.2.2.2.1, .int .i64 x1.2.1.2.2.2.2.1, .int .i64 x1.2.1.2.2.2.2.2, v1, .bool false])] [Be b1 Bn 16 x6.2, row v3 39 F2 x7, BD v1 Bl x1.2.2, BD v2 Bl x2.2.2] w := W
 refine vl tk 2 F W fun a w F W => ?_
 refine Ad ?_
 obtain ⟨o1, G1, K1⟩ := Ah H
 refine AC (fun a w => ∃ x8 : Bool, some (x8) = some o1 ∧ Fr 68 [] [(0, .bool x8)] a ∧ Stw ⟨Y, [], w0⟩ [(b3, [.int .i64 1, .int .i64 x2.1, .int .i64 x2.2.1.1, .int .i64 x2.2.1.2.1.1, .int .i64 x2.2.1.2.1.2.1, .int .i64 x2.2.1.2.1.2.2.1, .int .i64 x2.2.1.2.1.2.2.2, .int .i64 x2.2.1.2.2.1, .int .i64 x2.2.1.2.2.2.1, .int .i64 x2.2.1.2.2.2.2.1, .int .i64 x2.2.1.2.2.2.2.2, v2, .bool false]), (b2, [.int .i64 1, .int .i64 x1.1, .int .i64 x1.2.1.1, .int .i64 x1.2.1.2.1.1, .int .i64 x1.2.1.2.1.2.1, .int .i64 x1.2.1.2.1.2.2.1, .int .i64 x1.2.1.2.1.2.2.2, .int .i64 x1.2.1.2.2.1, .int .i64 x1.2.1.2.2.2.1, .int .i64 x1.2.1.2.2.2.2.1, .int .i64 x1.2.1.2.2.2.2.2, v1, .bool false])] [BD v2 Bl x2.2.2, BD v1 Bl x1.2.2, Be b1 Bn 16 x6.2] w) ?_ ?_
 ·
  have H := G1
  clear G1 K1
  obtain ⟨v4, h8, W⟩ := W.exP Dx
  have W := W.frontZ (i := 1) Aa Aa
  obtain ⟨v5, h9, W⟩ := W.exR FW
  refine Gn 38 W MO (by kernel_rfl) ?_
  refine qs F Aa (Am F Aa).q fun a F => ?_
  refine qs F Aa (Jg F Aa Aa).q fun a F => ?_
  refine qs F Aa (Am F Aa).q fun a F => ?_
  rcases Bool.eq_false_or_eq_true (decide (x3.1 = 0)) with hb | hb
  ·
   have H := BW (Ci hb) H
   rw [hb] at F
   clear hb
   iterate 2 refine Bp F (Ag F Aa Aa Aa Aa) Aa (Ax Aa) (Am F Aa).q fun a F => ?_
   refine Bp F (Ag F Aa Aa Aa Aa) Aa (Ax Aa) (Jg F Aa Aa).q fun a F => ?_
   refine qs F Aa (B0 F Aa Aa Aa).q fun a F => ?_
   refine qs F Aa (Am F Aa).q fun a F => ?_
   rcases Bool.eq_false_or_eq_true (decide (x4.1 = x3.1)) with hb | hb
   ·
    have H := BW (Ci hb) H
    rw [hb] at F
    clear hb
    iterate 2 refine Bp F (Ag F Aa Aa Aa Aa) Aa (Ax Aa) (Am F Aa).q fun a F => ?_
    refine Bp F (Ag F Aa Aa Aa Aa) Aa (Ax Aa) (Jg F Aa Aa).q fun a F => ?_
    refine qs F Aa (B0 F Aa Aa Aa).q fun a F => ?_
    refine qs F Aa (Am F Aa).q fun a F => ?_
    rcases Bool.eq_false_or_eq_true (decide (x5.1 = x3.1)) with hb | hb
    ·
     have H := BW (Ci hb) H
     rw [hb] at F
     clear hb
     iterate 2 refine Bp F (Ag F Aa Aa Aa Aa) Aa (Ax Aa) (Am F Aa).q fun a F => ?_
     refine Bp F (Ag F Aa Aa Aa Aa) Aa (Ax Aa) (Jg F Aa Aa).q fun a F => ?_
     refine qs F Aa (B0 F Aa Aa Aa).q fun a F => ?_
     refine qs F Aa (Am F Aa).q fun a F => ?_
     rcases Bool.eq_false_or_eq_true (decide (x6.1 = x3.1)) with hb | hb
     ·
      have H := BW (Ci hb) H
      rw [hb] at F
      clear hb
      refine Bp F (Ag F Aa Aa Aa Aa) Aa (Ax Aa) (Am F Aa).q fun a F => ?_
      refine Bp F (Ag F Aa Aa Aa Aa) Aa (Ax Aa) (BQ (r := F2) (l := x7) IB Aa F Aa (A6 FW h9 (A4 0 Aa))).q fun a F => ?_
      refine Bp F (Ag F Aa Aa Aa Aa) Aa (Ax Aa) (Jg F Aa Aa).q fun a F => ?_
      refine qs F Aa (B0 F Aa Aa Aa).q fun a F => ?_
      refine qs F Aa (Am F Aa).q fun a F => ?_
      rcases Bool.eq_false_or_eq_true (decide ((x7.length : Int) = 2)) with hb | hb
      ·
       have H := BW (Ci hb) H
       rw [hb] at F
       clear hb
       refine Bp F (Ag F Aa Aa Aa Aa) Aa (Ax Aa) (Am F Aa).q fun a F => ?_
       obtain ⟨x9, h10, H⟩ := Ah H
       obtain ⟨v6, h11, h12⟩ := Ck h9 h10
       have h13 : Gj v6 = [.int .i64 x9.1, .int .i64 x9.2.1.1, .int .i64 x9.2.1.2.1.1, .int .i64 x9.2.1.2.1.2.1.1, .int .i64 x9.2.1.2.1.2.1.2.1, .int .i64 x9.2.1.2.1.2.1.2.2.1, .int .i64 x9.2.1.2.1.2.1.2.2.2, .int .i64 x9.2.1.2.1.2.2.1, .int .i64 x9.2.1.2.1.2.2.2.1, .int .i64 x9.2.1.2.1.2.2.2.2.1, .int .i64 x9.2.1.2.1.2.2.2.2.2, (v6.2.1.2.2.1), .bool x9.2.2] := congrArg (fun q : Int × (Int × (Int × (Int × Int × Int × Int) × (Int × Int × Int × Int)) × (List (Int × Int × Int))) × Bool => ([.int .i64 q.1, .int .i64 q.2.1.1, .int .i64 q.2.1.2.1.1, .int .i64 q.2.1.2.1.2.1.1, .int .i64 q.2.1.2.1.2.1.2.1, .int .i64 q.2.1.2.1.2.1.2.2.1, .int .i64 q.2.1.2.1.2.1.2.2.2, .int .i64 q.2.1.2.1.2.2.1, .int .i64 q.2.1.2.1.2.2.2.1, .int .i64 q.2.1.2.1.2.2.2.2.1, .int .i64 q.2.1.2.1.2.2.2.2.2, (v6.2.1.2.2.1), .bool q.2.2] : List Value)) h12
       refine Bp F (Ag F Aa Aa Aa Aa) Aa (Ax Aa) (A8 (r := Hp) NN F Aa Aa (A4 0 Aa) h11).q fun a F => ?_
       refine Bp F (Ag F Aa Aa Aa Aa) Aa (Ax Aa) (AE (y := Value.agg #[.int .i64 x9.1, .int .i64 x9.2.1.1, .int .i64 x9.2.1.2.1.1, .int .i64 x9.2.1.2.1.2.1.1, .int .i64 x9.2.1.2.1.2.1.2.1, .int .i64 x9.2.1.2.1.2.1.2.2.1, .int .i64 x9.2.1.2.1.2.1.2.2.2, .int .i64 x9.2.1.2.1.2.2.1, .int .i64 x9.2.1.2.1.2.2.2.1, .int .i64 x9.2.1.2.1.2.2.2.2.1, .int .i64 x9.2.1.2.1.2.2.2.2.2, (v6.2.1.2.2.1), .bool x9.2.2]) (j := 0) (i := 0) (enc := Gj) F Aa Aa (A4 0 Aa) h11 Kg I3 (by rw [h13]; rfl)).q fun a F => ?_
       refine Bp F (Ag F Aa Aa Aa Aa) Aa (Ax Aa) (BR (v := Value.agg #[.int .i64 1, .int .i64 x1.1, .int .i64 x1.2.1.1, .int .i64 x1.2.1.2.1.1, .int .i64 x1.2.1.2.1.2.1, .int .i64 x1.2.1.2.1.2.2.1, .int .i64 x1.2.1.2.1.2.2.2, .int .i64 x1.2.1.2.2.1, .int .i64 x1.2.1.2.2.2.1, .int .i64 x1.2.1.2.2.2.2.1, .int .i64 x1.2.1.2.2.2.2.2, v1, .bool false]) 1 F Aa Aa I3 Aa).q fun a F => ?_
       obtain ⟨x10, h14, H⟩ := Ah H
       refine Bp F (Ag F Aa Aa Aa Aa) Aa (Ax Aa) (AU (v := Value.bool x10) F Qz Aa (fun w W => GK any w ((v6.2.1.2.2.1)) (v1) x9 (1, x1, false) _ h14 (CY (Dr (A4 0 Aa) h11 (Ay.snd (Ay.fst (Ay.snd (Ay.snd Ay.here)))) (congrArg (fun q : Int × (Int × (Int × (Int × Int × Int × Int) × (Int × Int × Int × Int)) × (List (Int × Int × Int))) × Bool => q.2.1.2.2) h12)) W) (CY (Ds 2 Aa) W))) fun a F => ?_
       refine qs F Aa (B0 F Aa Aa Aa).q fun a F => ?_
       refine qs F Aa (Am F Aa).q fun a F => ?_
       rcases Bool.eq_false_or_eq_true x10 with hb | hb
       ·
        have H := BW hb H
        rw [hb] at F
        clear hb
        refine Bp F (Ag F Aa Aa Aa Aa) Aa (Ax Aa) (Am F Aa).q fun a F => ?_
        obtain ⟨x11, h15, H⟩ := Ah H
        obtain ⟨v7, h16, h17⟩ := Ck h9 h15
        have h18 : Gj v7 = [.int .i64 x11.1, .int .i64 x11.2.1.1, .int .i64 x11.2.1.2.1.1, .int .i64 x11.2.1.2.1.2.1.1, .int .i64 x11.2.1.2.1.2.1.2.1, .int .i64 x11.2.1.2.1.2.1.2.2.1, .int .i64 x11.2.1.2.1.2.1.2.2.2, .int .i64 x11.2.1.2.1.2.2.1, .int .i64 x11.2.1.2.1.2.2.2.1, .int .i64 x11.2.1.2.1.2.2.2.2.1, .int .i64 x11.2.1.2.1.2.2.2.2.2, (v7.2.1.2.2.1), .bool x11.2.2] := congrArg (fun q : Int × (Int × (Int × (Int × Int × Int × Int) × (Int × Int × Int × Int)) × (List (Int × Int × Int))) × Bool => ([.int .i64 q.1, .int .i64 q.2.1.1, .int .i64 q.2.1.2.1.1, .int .i64 q.2.1.2.1.2.1.1, .int .i64 q.2.1.2.1.2.1.2.1, .int .i64 q.2.1.2.1.2.1.2.2.1, .int .i64 q.2.1.2.1.2.1.2.2.2, .int .i64 q.2.1.2.1.2.2.1, .int .i64 q.2.1.2.1.2.2.2.1, .int .i64 q.2.1.2.1.2.2.2.2.1, .int .i64 q.2.1.2.1.2.2.2.2.2, (v7.2.1.2.2.1), .bool q.2.2] : List Value)) h17
        refine Bp F (Ag F Aa Aa Aa Aa) Aa (Ax Aa) (A8 (r := Hp) NN F Aa Aa (A4 0 Aa) h16).q fun a F => ?_
        refine Bp F (Ag F Aa Aa Aa Aa) Aa (Ax Aa) (AE (y := Value.agg #[.int .i64 x11.1, .int .i64 x11.2.1.1, .int .i64 x11.2.1.2.1.1, .int .i64 x11.2.1.2.1.2.1.1, .int .i64 x11.2.1.2.1.2.1.2.1, .int .i64 x11.2.1.2.1.2.1.2.2.1, .int .i64 x11.2.1.2.1.2.1.2.2.2, .int .i64 x11.2.1.2.1.2.2.1, .int .i64 x11.2.1.2.1.2.2.2.1, .int .i64 x11.2.1.2.1.2.2.2.2.1, .int .i64 x11.2.1.2.1.2.2.2.2.2, (v7.2.1.2.2.1), .bool x11.2.2]) (j := 0) (i := 1) (enc := Gj) F Aa Aa (A4 0 Aa) h16 Kg I3 (by rw [h18]; rfl)).q fun a F => ?_
        refine Bp F (Ag F Aa Aa Aa Aa) Aa (Ax Aa) (BR (v := Value.agg #[.int .i64 1, .int .i64 x2.1, .int .i64 x2.2.1.1, .int .i64 x2.2.1.2.1.1, .int .i64 x2.2.1.2.1.2.1, .int .i64 x2.2.1.2.1.2.2.1, .int .i64 x2.2.1.2.1.2.2.2, .int .i64 x2.2.1.2.2.1, .int .i64 x2.2.1.2.2.2.1, .int .i64 x2.2.1.2.2.2.2.1, .int .i64 x2.2.1.2.2.2.2.2, v2, .bool false]) 0 F Aa Aa I3 Aa).q fun a F => ?_
        obtain ⟨x12, h19, H⟩ := Ah H
        refine Bp F (Ag F Aa Aa Aa Aa) Aa (Ax Aa) (AU (v := Value.bool x12) F Qz Aa (fun w W => GK any w ((v7.2.1.2.2.1)) (v2) x11 (1, x2, false) _ h19 (CY (Dr (A4 0 Aa) h16 (Ay.snd (Ay.fst (Ay.snd (Ay.snd Ay.here)))) (congrArg (fun q : Int × (Int × (Int × (Int × Int × Int × Int) × (Int × Int × Int × Int)) × (List (Int × Int × Int))) × Bool => q.2.1.2.2) h17)) W) (CY (Ds 3 Aa) W))) fun a F => ?_
        refine qs F Aa (B0 F Aa Aa Aa).q fun a F => ?_
        refine qs F Aa (Am F Aa).q fun a F => ?_
        rcases Bool.eq_false_or_eq_true x12 with hb | hb
        ·
         have H := BW hb H
         rw [hb] at F
         clear hb
         refine Bp F (Ag F Aa Aa Aa Aa) Aa (Ax Aa) (Am F Aa).q fun a F => ?_
         refine AM fun w W => ?_
         have W := W.note (W.rowAt (k := 0) Aa h11 (Ay.snd (Ay.fst (Ay.snd (Ay.snd Ay.here)))) (congrArg (fun q : Int × (Int × (Int × (Int × Int × Int × Int) × (Int × Int × Int × Int)) × (List (Int × Int × Int))) × Bool => q.2.1.2.2) h12))
         have W := W.note (W.rowAt (k := 1) Aa h16 (Ay.snd (Ay.fst (Ay.snd (Ay.snd Ay.here)))) (congrArg (fun q : Int × (Int × (Int × (Int × Int × Int × Int) × (Int × Int × Int × Int)) × (List (Int × Int × Int))) × Bool => q.2.1.2.2) h17))
         refine Fg (Ag F Aa Aa Aa Aa) ?_
         have W := W.frontZ (i := 3) Aa Aa
         have W := W.hideP Dx h8
         refine AB (Ml := []) (Zl := [Be b1 Bn 16 x6.2]) (β := Unit) (rv := fun x => .int .i64 (Ai x6.2)) (MM := fun x => []) (ZZ := fun x => [Be b1 Bn 16 x6.2]) F W N4 Aa Aa (fun hL => Bj _ _ w b1 x6.2 _ Aa hL) fun x a w F W => ?_
         have W : Stw ⟨Y, [], w0⟩ [(b3, [.int .i64 1, .int .i64 x2.1, .int .i64 x2.2.1.1, .int .i64 x2.2.1.2.1.1, .int .i64 x2.2.1.2.1.2.1, .int .i64 x2.2.1.2.1.2.2.1, .int .i64 x2.2.1.2.1.2.2.2, .int .i64 x2.2.1.2.2.1, .int .i64 x2.2.1.2.2.2.1, .int .i64 x2.2.1.2.2.2.2.1, .int .i64 x2.2.1.2.2.2.2.2, v2, .bool false]), (b2, [.int .i64 1, .int .i64 x1.1, .int .i64 x1.2.1.1, .int .i64 x1.2.1.2.1.1, .int .i64 x1.2.1.2.1.2.1, .int .i64 x1.2.1.2.1.2.2.1, .int .i64 x1.2.1.2.1.2.2.2, .int .i64 x1.2.1.2.2.1, .int .i64 x1.2.1.2.2.2.1, .int .i64 x1.2.1.2.2.2.2.1, .int .i64 x1.2.1.2.2.2.2.2, v1, .bool false])] [Be b1 Bn 16 x6.2, BD (v7.2.1.2.2.1) Bl x11.2.1.2.2, BD (v6.2.1.2.2.1) Bl x9.2.1.2.2, row v3 39 Hp v5, BD v1 Bl x1.2.2, BD v2 Bl x2.2.2] w := W
         refine vl tk 4 F W fun a w F W => ?_
         refine Ad ?_
         have W := W.frontZ (i := 4) Aa Aa
         have W := W.frontZ (i := 5) Aa Aa
         have W := W.frontM (i := 1) Aa Aa
         have W := W.frontM (i := 1) Aa Aa
         have W := W.sub (M' := [(b3, [.int .i64 1, .int .i64 x2.1, .int .i64 x2.2.1.1, .int .i64 x2.2.1.2.1.1, .int .i64 x2.2.1.2.1.2.1, .int .i64 x2.2.1.2.1.2.2.1, .int .i64 x2.2.1.2.1.2.2.2, .int .i64 x2.2.1.2.2.1, .int .i64 x2.2.1.2.2.2.1, .int .i64 x2.2.1.2.2.2.2.1, .int .i64 x2.2.1.2.2.2.2.2, v2, .bool false]), (b2, [.int .i64 1, .int .i64 x1.1, .int .i64 x1.2.1.1, .int .i64 x1.2.1.2.1.1, .int .i64 x1.2.1.2.1.2.1, .int .i64 x1.2.1.2.1.2.2.1, .int .i64 x1.2.1.2.1.2.2.2, .int .i64 x1.2.1.2.2.1, .int .i64 x1.2.1.2.2.2.1, .int .i64 x1.2.1.2.2.2.2.1, .int .i64 x1.2.1.2.2.2.2.2, v1, .bool false])]) (Z' := [BD v2 Bl x2.2.2, BD v1 Bl x1.2.2, Be b1 Bn 16 x6.2]) (List.Sublist.refl _) (List.Sublist.cons_cons _ (List.Sublist.cons_cons _ (List.Sublist.cons_cons _ (List.nil_sublist _))))
         exact ⟨_, H, F.ra Aa, W⟩
        have H := BX (by rw [hb]; decide) H
        rw [hb] at F
        clear hb
        refine AL F (AA F Aa Aa Aa Aa Aa) Aa Aa fun a F => ?_
        refine AM fun w W => ?_
        have W := W.note (W.rowAt (k := 0) Aa h11 (Ay.snd (Ay.fst (Ay.snd (Ay.snd Ay.here)))) (congrArg (fun q : Int × (Int × (Int × (Int × Int × Int × Int) × (Int × Int × Int × Int)) × (List (Int × Int × Int))) × Bool => q.2.1.2.2) h12))
        have W := W.note (W.rowAt (k := 1) Aa h16 (Ay.snd (Ay.fst (Ay.snd (Ay.snd Ay.here)))) (congrArg (fun q : Int × (Int × (Int × (Int × Int × Int × Int) × (Int × Int × Int × Int)) × (List (Int × Int × Int))) × Bool => q.2.1.2.2) h17))
        refine vl tk 5 F W fun a w F W => ?_
        refine Ad ?_
        have W := W.frontZ (i := 3) Aa Aa
        have W := W.hideP Dx h8
        have W := W.frontZ (i := 4) Aa Aa
        have W := W.frontZ (i := 5) Aa Aa
        have W := W.frontM (i := 1) Aa Aa
        have W := W.frontM (i := 1) Aa Aa
        have W := W.sub (M' := [(b3, [.int .i64 1, .int .i64 x2.1, .int .i64 x2.2.1.1, .int .i64 x2.2.1.2.1.1, .int .i64 x2.2.1.2.1.2.1, .int .i64 x2.2.1.2.1.2.2.1, .int .i64 x2.2.1.2.1.2.2.2, .int .i64 x2.2.1.2.2.1, .int .i64 x2.2.1.2.2.2.1, .int .i64 x2.2.1.2.2.2.2.1, .int .i64 x2.2.1.2.2.2.2.2, v2, .bool false]), (b2, [.int .i64 1, .int .i64 x1.1, .int .i64 x1.2.1.1, .int .i64 x1.2.1.2.1.1, .int .i64 x1.2.1.2.1.2.1, .int .i64 x1.2.1.2.1.2.2.1, .int .i64 x1.2.1.2.1.2.2.2, .int .i64 x1.2.1.2.2.1, .int .i64 x1.2.1.2.2.2.1, .int .i64 x1.2.1.2.2.2.2.1, .int .i64 x1.2.1.2.2.2.2.2, v1, .bool false])]) (Z' := [BD v2 Bl x2.2.2, BD v1 Bl x1.2.2, Be b1 Bn 16 x6.2]) (List.Sublist.refl _) (List.Sublist.cons_cons _ (List.Sublist.cons_cons _ (List.Sublist.cons_cons _ (List.nil_sublist _))))
        exact ⟨_, H, F.ra Aa, W⟩
       have H := BX (by rw [hb]; decide) H
       rw [hb] at F
       clear hb
       iterate 5 refine AL F (AA F Aa Aa Aa Aa Aa) Aa Aa fun a F => ?_
       refine qs F Aa (AQ F Aa Aa Aa).q fun a F => ?_
       refine qs F Aa (Am F Aa).q fun a F => ?_
       refine AL F (AA F Aa Aa Aa Aa Aa) Aa Aa fun a F => ?_
       refine AM fun w W => ?_
       have W := W.note (W.rowAt (k := 0) Aa h11 (Ay.snd (Ay.fst (Ay.snd (Ay.snd Ay.here)))) (congrArg (fun q : Int × (Int × (Int × (Int × Int × Int × Int) × (Int × Int × Int × Int)) × (List (Int × Int × Int))) × Bool => q.2.1.2.2) h12))
       refine vl tk 5 F W fun a w F W => ?_
       refine Ad ?_
       have W := W.frontZ (i := 2) Aa Aa
       have W := W.hideP Dx h8
       have W := W.frontZ (i := 3) Aa Aa
       have W := W.frontZ (i := 4) Aa Aa
       have W := W.frontM (i := 1) Aa Aa
       have W := W.frontM (i := 1) Aa Aa
       have W := W.sub (M' := [(b3, [.int .i64 1, .int .i64 x2.1, .int .i64 x2.2.1.1, .int .i64 x2.2.1.2.1.1, .int .i64 x2.2.1.2.1.2.1, .int .i64 x2.2.1.2.1.2.2.1, .int .i64 x2.2.1.2.1.2.2.2, .int .i64 x2.2.1.2.2.1, .int .i64 x2.2.1.2.2.2.1, .int .i64 x2.2.1.2.2.2.2.1, .int .i64 x2.2.1.2.2.2.2.2, v2, .bool false]), (b2, [.int .i64 1, .int .i64 x1.1, .int .i64 x1.2.1.1, .int .i64 x1.2.1.2.1.1, .int .i64 x1.2.1.2.1.2.1, .int .i64 x1.2.1.2.1.2.2.1, .int .i64 x1.2.1.2.1.2.2.2, .int .i64 x1.2.1.2.2.1, .int .i64 x1.2.1.2.2.2.1, .int .i64 x1.2.1.2.2.2.2.1, .int .i64 x1.2.1.2.2.2.2.2, v1, .bool false])]) (Z' := [BD v2 Bl x2.2.2, BD v1 Bl x1.2.2, Be b1 Bn 16 x6.2]) (List.Sublist.refl _) (List.Sublist.cons_cons _ (List.Sublist.cons_cons _ (List.Sublist.cons_cons _ (List.nil_sublist _))))
       exact ⟨_, H, F.ra Aa, W⟩
      have H := BX (Ch hb) H
      rw [hb] at F
      clear hb
      iterate 5 refine AL F (AA F Aa Aa Aa Aa Aa) Aa Aa fun a F => ?_
      refine qs F Aa (AQ F Aa Aa Aa).q fun a F => ?_
      refine qs F Aa (Am F Aa).q fun a F => ?_
      iterate 5 refine AL F (AA F Aa Aa Aa Aa Aa) Aa Aa fun a F => ?_
      refine qs F Aa (AQ F Aa Aa Aa).q fun a F => ?_
      refine qs F Aa (Am F Aa).q fun a F => ?_
      refine AL F (AA F Aa Aa Aa Aa Aa) Aa Aa fun a F => ?_
      refine AM fun w W => ?_
      refine vl tk 5 F W fun a w F W => ?_
      refine Ad ?_
      have W := W.frontZ (i := 1) Aa Aa
      have W := W.hideP Dx h8
      have W := W.frontZ (i := 2) Aa Aa
      have W := W.frontZ (i := 3) Aa Aa
      have W := W.frontM (i := 1) Aa Aa
      have W := W.frontM (i := 1) Aa Aa
      have W := W.sub (M' := [(b3, [.int .i64 1, .int .i64 x2.1, .int .i64 x2.2.1.1, .int .i64 x2.2.1.2.1.1, .int .i64 x2.2.1.2.1.2.1, .int .i64 x2.2.1.2.1.2.2.1, .int .i64 x2.2.1.2.1.2.2.2, .int .i64 x2.2.1.2.2.1, .int .i64 x2.2.1.2.2.2.1, .int .i64 x2.2.1.2.2.2.2.1, .int .i64 x2.2.1.2.2.2.2.2, v2, .bool false]), (b2, [.int .i64 1, .int .i64 x1.1, .int .i64 x1.2.1.1, .int .i64 x1.2.1.2.1.1, .int .i64 x1.2.1.2.1.2.1, .int .i64 x1.2.1.2.1.2.2.1, .int .i64 x1.2.1.2.1.2.2.2, .int .i64 x1.2.1.2.2.1, .int .i64 x1.2.1.2.2.2.1, .int .i64 x1.2.1.2.2.2.2.1, .int .i64 x1.2.1.2.2.2.2.2, v1, .bool false])]) (Z' := [BD v2 Bl x2.2.2, BD v1 Bl x1.2.2, Be b1 Bn 16 x6.2]) (List.Sublist.refl _) (List.Sublist.cons_cons _ (List.Sublist.cons_cons _ (List.Sublist.cons_cons _ (List.nil_sublist _))))
      exact ⟨_, H, F.ra Aa, W⟩
     have H := BX (Ch hb) H
     rw [hb] at F
     clear hb
     iterate 3 refine AL F (AA F Aa Aa Aa Aa Aa) Aa Aa fun a F => ?_
     refine qs F Aa (AQ F Aa Aa Aa).q fun a F => ?_
     refine qs F Aa (Am F Aa).q fun a F => ?_
     iterate 5 refine AL F (AA F Aa Aa Aa Aa Aa) Aa Aa fun a F => ?_
     refine qs F Aa (AQ F Aa Aa Aa).q fun a F => ?_
     refine qs F Aa (Am F Aa).q fun a F => ?_
     iterate 5 refine AL F (AA F Aa Aa Aa Aa Aa) Aa Aa fun a F => ?_
     refine qs F Aa (AQ F Aa Aa Aa).q fun a F => ?_
     refine qs F Aa (Am F Aa).q fun a F => ?_
     refine AL F (AA F Aa Aa Aa Aa Aa) Aa Aa fun a F => ?_
     refine AM fun w W => ?_
     refine vl tk 5 F W fun a w F W => ?_
     refine Ad ?_
     have W := W.frontZ (i := 1) Aa Aa
     have W := W.hideP Dx h8
     have W := W.frontZ (i := 2) Aa Aa
     have W := W.frontZ (i := 3) Aa Aa
     have W := W.frontM (i := 1) Aa Aa
     have W := W.frontM (i := 1) Aa Aa
     have W := W.sub (M' := [(b3, [.int .i64 1, .int .i64 x2.1, .int .i64 x2.2.1.1, .int .i64 x2.2.1.2.1.1, .int .i64 x2.2.1.2.1.2.1, .int .i64 x2.2.1.2.1.2.2.1, .int .i64 x2.2.1.2.1.2.2.2, .int .i64 x2.2.1.2.2.1, .int .i64 x2.2.1.2.2.2.1, .int .i64 x2.2.1.2.2.2.2.1, .int .i64 x2.2.1.2.2.2.2.2, v2, .bool false]), (b2, [.int .i64 1, .int .i64 x1.1, .int .i64 x1.2.1.1, .int .i64 x1.2.1.2.1.1, .int .i64 x1.2.1.2.1.2.1, .int .i64 x1.2.1.2.1.2.2.1, .int .i64 x1.2.1.2.1.2.2.2, .int .i64 x1.2.1.2.2.1, .int .i64 x1.2.1.2.2.2.1, .int .i64 x1.2.1.2.2.2.2.1, .int .i64 x1.2.1.2.2.2.2.2, v1, .bool false])]) (Z' := [BD v2 Bl x2.2.2, BD v1 Bl x1.2.2, Be b1 Bn 16 x6.2]) (List.Sublist.refl _) (List.Sublist.cons_cons _ (List.Sublist.cons_cons _ (List.Sublist.cons_cons _ (List.nil_sublist _))))
     exact ⟨_, H, F.ra Aa, W⟩
    have H := BX (Ch hb) H
    rw [hb] at F
    clear hb
    iterate 3 refine AL F (AA F Aa Aa Aa Aa Aa) Aa Aa fun a F => ?_
    refine qs F Aa (AQ F Aa Aa Aa).q fun a F => ?_
    refine qs F Aa (Am F Aa).q fun a F => ?_
    iterate 3 refine AL F (AA F Aa Aa Aa Aa Aa) Aa Aa fun a F => ?_
    refine qs F Aa (AQ F Aa Aa Aa).q fun a F => ?_
    refine qs F Aa (Am F Aa).q fun a F => ?_
    iterate 5 refine AL F (AA F Aa Aa Aa Aa Aa) Aa Aa fun a F => ?_
    refine qs F Aa (AQ F Aa Aa Aa).q fun a F => ?_
    refine qs F Aa (Am F Aa).q fun a F => ?_
    iterate 5 refine AL F (AA F Aa Aa Aa Aa Aa) Aa Aa fun a F => ?_
    refine qs F Aa (AQ F Aa Aa Aa).q fun a F => ?_
    refine qs F Aa (Am F Aa).q fun a F => ?_
    refine AL F (AA F Aa Aa Aa Aa Aa) Aa Aa fun a F => ?_
    refine AM fun w W => ?_
    refine vl tk 5 F W fun a w F W => ?_
    refine Ad ?_
    have W := W.frontZ (i := 1) Aa Aa
    have W := W.hideP Dx h8
    have W := W.frontZ (i := 2) Aa Aa
    have W := W.frontZ (i := 3) Aa Aa
    have W := W.frontM (i := 1) Aa Aa
    have W := W.frontM (i := 1) Aa Aa
    have W := W.sub (M' := [(b3, [.int .i64 1, .int .i64 x2.1, .int .i64 x2.2.1.1, .int .i64 x2.2.1.2.1.1, .int .i64 x2.2.1.2.1.2.1, .int .i64 x2.2.1.2.1.2.2.1, .int .i64 x2.2.1.2.1.2.2.2, .int .i64 x2.2.1.2.2.1, .int .i64 x2.2.1.2.2.2.1, .int .i64 x2.2.1.2.2.2.2.1, .int .i64 x2.2.1.2.2.2.2.2, v2, .bool false]), (b2, [.int .i64 1, .int .i64 x1.1, .int .i64 x1.2.1.1, .int .i64 x1.2.1.2.1.1, .int .i64 x1.2.1.2.1.2.1, .int .i64 x1.2.1.2.1.2.2.1, .int .i64 x1.2.1.2.1.2.2.2, .int .i64 x1.2.1.2.2.1, .int .i64 x1.2.1.2.2.2.1, .int .i64 x1.2.1.2.2.2.2.1, .int .i64 x1.2.1.2.2.2.2.2, v1, .bool false])]) (Z' := [BD v2 Bl x2.2.2, BD v1 Bl x1.2.2, Be b1 Bn 16 x6.2]) (List.Sublist.refl _) (List.Sublist.cons_cons _ (List.Sublist.cons_cons _ (List.Sublist.cons_cons _ (List.nil_sublist _))))
    exact ⟨_, H, F.ra Aa, W⟩
   have H := BX (Ch hb) H
   rw [hb] at F
   clear hb
   iterate 3 refine AL F (AA F Aa Aa Aa Aa Aa) Aa Aa fun a F => ?_
   refine qs F Aa (AQ F Aa Aa Aa).q fun a F => ?_
   refine qs F Aa (Am F Aa).q fun a F => ?_
   iterate 3 refine AL F (AA F Aa Aa Aa Aa Aa) Aa Aa fun a F => ?_
   refine qs F Aa (AQ F Aa Aa Aa).q fun a F => ?_
   refine qs F Aa (Am F Aa).q fun a F => ?_
   iterate 3 refine AL F (AA F Aa Aa Aa Aa Aa) Aa Aa fun a F => ?_
   refine qs F Aa (AQ F Aa Aa Aa).q fun a F => ?_
   refine qs F Aa (Am F Aa).q fun a F => ?_
   iterate 5 refine AL F (AA F Aa Aa Aa Aa Aa) Aa Aa fun a F => ?_
   refine qs F Aa (AQ F Aa Aa Aa).q fun a F => ?_
   refine qs F Aa (Am F Aa).q fun a F => ?_
   iterate 5 refine AL F (AA F Aa Aa Aa Aa Aa) Aa Aa fun a F => ?_
   refine qs F Aa (AQ F Aa Aa Aa).q fun a F => ?_
   refine qs F Aa (Am F Aa).q fun a F => ?_
   refine AL F (AA F Aa Aa Aa Aa Aa) Aa Aa fun a F => ?_
   refine AM fun w W => ?_
   refine vl tk 5 F W fun a w F W => ?_
   refine Ad ?_
   have W := W.frontZ (i := 1) Aa Aa
   have W := W.hideP Dx h8
   have W := W.frontZ (i := 2) Aa Aa
   have W := W.frontZ (i := 3) Aa Aa
   have W := W.frontM (i := 1) Aa Aa
   have W := W.frontM (i := 1) Aa Aa
   have W := W.sub (M' := [(b3, [.int .i64 1, .int .i64 x2.1, .int .i64 x2.2.1.1, .int .i64 x2.2.1.2.1.1, .int .i64 x2.2.1.2.1.2.1, .int .i64 x2.2.1.2.1.2.2.1, .int .i64 x2.2.1.2.1.2.2.2, .int .i64 x2.2.1.2.2.1, .int .i64 x2.2.1.2.2.2.1, .int .i64 x2.2.1.2.2.2.2.1, .int .i64 x2.2.1.2.2.2.2.2, v2, .bool false]), (b2, [.int .i64 1, .int .i64 x1.1, .int .i64 x1.2.1.1, .int .i64 x1.2.1.2.1.1, .int .i64 x1.2.1.2.1.2.1, .int .i64 x1.2.1.2.1.2.2.1, .int .i64 x1.2.1.2.1.2.2.2, .int .i64 x1.2.1.2.2.1, .int .i64 x1.2.1.2.2.2.1, .int .i64 x1.2.1.2.2.2.2.1, .int .i64 x1.2.1.2.2.2.2.2, v1, .bool false])]) (Z' := [BD v2 Bl x2.2.2, BD v1 Bl x1.2.2, Be b1 Bn 16 x6.2]) (List.Sublist.refl _) (List.Sublist.cons_cons _ (List.Sublist.cons_cons _ (List.Sublist.cons_cons _ (List.nil_sublist _))))
   exact ⟨_, H, F.ra Aa, W⟩
  have H := BX (Ch hb) H
  rw [hb] at F
  clear hb
  iterate 3 refine AL F (AA F Aa Aa Aa Aa Aa) Aa Aa fun a F => ?_
  refine qs F Aa (AQ F Aa Aa Aa).q fun a F => ?_
  refine qs F Aa (Am F Aa).q fun a F => ?_
  iterate 3 refine AL F (AA F Aa Aa Aa Aa Aa) Aa Aa fun a F => ?_
  refine qs F Aa (AQ F Aa Aa Aa).q fun a F => ?_
  refine qs F Aa (Am F Aa).q fun a F => ?_
  iterate 3 refine AL F (AA F Aa Aa Aa Aa Aa) Aa Aa fun a F => ?_
  refine qs F Aa (AQ F Aa Aa Aa).q fun a F => ?_
  refine qs F Aa (Am F Aa).q fun a F => ?_
  iterate 3 refine AL F (AA F Aa Aa Aa Aa Aa) Aa Aa fun a F => ?_
  refine qs F Aa (AQ F Aa Aa Aa).q fun a F => ?_
  refine qs F Aa (Am F Aa).q fun a F => ?_
  iterate 5 refine AL F (AA F Aa Aa Aa Aa Aa) Aa Aa fun a F => ?_
  refine qs F Aa (AQ F Aa Aa Aa).q fun a F => ?_
  refine qs F Aa (Am F Aa).q fun a F => ?_
  iterate 5 refine AL F (AA F Aa Aa Aa Aa Aa) Aa Aa fun a F => ?_
  refine qs F Aa (AQ F Aa Aa Aa).q fun a F => ?_
  refine qs F Aa (Am F Aa).q fun a F => ?_
  refine AL F (AA F Aa Aa Aa Aa Aa) Aa Aa fun a F => ?_
  refine AM fun w W => ?_
  refine vl tk 5 F W fun a w F W => ?_
  refine Ad ?_
  have W := W.frontZ (i := 1) Aa Aa
  have W := W.hideP Dx h8
  have W := W.frontZ (i := 2) Aa Aa
  have W := W.frontZ (i := 3) Aa Aa
  have W := W.frontM (i := 1) Aa Aa
  have W := W.frontM (i := 1) Aa Aa
  have W := W.sub (M' := [(b3, [.int .i64 1, .int .i64 x2.1, .int .i64 x2.2.1.1, .int .i64 x2.2.1.2.1.1, .int .i64 x2.2.1.2.1.2.1, .int .i64 x2.2.1.2.1.2.2.1, .int .i64 x2.2.1.2.1.2.2.2, .int .i64 x2.2.1.2.2.1, .int .i64 x2.2.1.2.2.2.1, .int .i64 x2.2.1.2.2.2.2.1, .int .i64 x2.2.1.2.2.2.2.2, v2, .bool false]), (b2, [.int .i64 1, .int .i64 x1.1, .int .i64 x1.2.1.1, .int .i64 x1.2.1.2.1.1, .int .i64 x1.2.1.2.1.2.1, .int .i64 x1.2.1.2.1.2.2.1, .int .i64 x1.2.1.2.1.2.2.2, .int .i64 x1.2.1.2.2.1, .int .i64 x1.2.1.2.2.2.1, .int .i64 x1.2.1.2.2.2.2.1, .int .i64 x1.2.1.2.2.2.2.2, v1, .bool false])]) (Z' := [BD v2 Bl x2.2.2, BD v1 Bl x1.2.2, Be b1 Bn 16 x6.2]) (List.Sublist.refl _) (List.Sublist.cons_cons _ (List.Sublist.cons_cons _ (List.Sublist.cons_cons _ (List.nil_sublist _))))
  exact ⟨_, H, F.ra Aa, W⟩
 rintro a w ⟨x8, hj, F, W⟩
 have hj := Aw hj
 subst hj
 have H := K1
 clear G1 K1
 refine Al ?_
 have H := Aw H
 subst H
 refine Aq (.inl Aa) F W Aa (Ak F Aa) ?_
 exact ⟨rfl, W.done⟩
theorem H6 : Has Try.prog 6 := B3 Try.func6
noncomputable def CG (p0 : Int × Int × (List (Int × (Int × (Int × (Int × (Int × Int × Int × Int) × (Int × Int × Int × Int)) × (List (Int × Int × Int))) × Bool)))) (p1 : Int) : Int → Option (Int ⊕ (Unit ⊕ ((Int × (Int × (Int × (Int × Int × Int × Int) × (Int × Int × Int × Int)) × (List (Int × Int × Int))) × Bool) × Bool)))
  | x1 => (if x1 < (p0.2.2.length : Int) then (ix p0.2.2 x1).bind fun x2 => (if x2.1 = p1 then (ix p0.2.2 x1).bind fun x3 => some (.inr (.inr (x3.2, true))) else some (.inl (Cs (x1 + 1)))) else some (.inr (.inl ())))
noncomputable def EP (p0 : Int × Int × (List (Int × (Int × (Int × (Int × (Int × Int × Int × Int) × (Int × Int × Int × Int)) × (List (Int × Int × Int))) × Bool)))) (p1 : Int) : Option ((Int × (Int × (Int × (Int × Int × Int × Int) × (Int × Int × Int × Int)) × (List (Int × Int × Int))) × Bool) × Bool) := Fu (AJ (CG p0 p1) 0) fun _ => some ((0, (0, (0, (0, 0, 0, 0), (0, 0, 0, 0)), ([] : List (Int × Int × Int))), false), false)
abbrev OZ (a0 : Nat) (a1 : Nat) (a2 : Int × (Int × (Int × Int × Int × Int) × (Int × Int × Int × Int)) × (List (Int × Int × Int))) (a3 : Value) : List (Nat × List Value) := [(a0, [.int .i64 0, .int .i64 0, .int .i64 0, .int .i64 0, .int .i64 0, .int .i64 0, .int .i64 0, .int .i64 0, .int .i64 0, .int .i64 0, .slice none 0 0]), (a1, [.int .i64 a2.1, .int .i64 a2.2.1.1, .int .i64 a2.2.1.2.1.1, .int .i64 a2.2.1.2.1.2.1, .int .i64 a2.2.1.2.1.2.2.1, .int .i64 a2.2.1.2.1.2.2.2, .int .i64 a2.2.1.2.2.1, .int .i64 a2.2.1.2.2.2.1, .int .i64 a2.2.1.2.2.2.2.1, .int .i64 a2.2.1.2.2.2.2.2, a3])]
noncomputable def BP (p0 : Int × (Int × (Int × Int × Int × Int) × (Int × Int × Int × Int)) × (List (Int × Int × Int))) : Option (Int × (Int × (Int × Int × Int × Int) × (Int × Int × Int × Int)) × (List (Int × Int × Int))) := (AW p0.2.2).bind fun x1 => some (p0.1, p0.2.1, x1)
theorem C3 (Y : Nat → Prop) (w0 : World) (v1 : Value) (p0 : Int × (Int × (Int × Int × Int × Int) × (Int × Int × Int × Int)) × (List (Int × Int × Int))) (r : (Int × (Int × (Int × Int × Int × Int) × (Int × Int × Int × Int)) × (List (Int × Int × Int)))) (H : BP p0 = some r) (s_v1 : Sl w0 Y Bl v1 p0.2.2) :
    Calls Try.prog 46 #[.agg #[.int .i64 p0.1, .int .i64 p0.2.1.1, .int .i64 p0.2.1.2.1.1, .int .i64 p0.2.1.2.1.2.1, .int .i64 p0.2.1.2.1.2.2.1, .int .i64 p0.2.1.2.1.2.2.2, .int .i64 p0.2.1.2.2.1, .int .i64 p0.2.1.2.2.2.1, .int .i64 p0.2.1.2.2.2.2.1, .int .i64 p0.2.1.2.2.2.2.2, v1]] w0 fun e w' => ∃ x : Value, e = .returned (.agg #[.int .i64 r.1, .int .i64 r.2.1.1, .int .i64 r.2.1.2.1.1, .int .i64 r.2.1.2.1.2.1, .int .i64 r.2.1.2.1.2.2.1, .int .i64 r.2.1.2.1.2.2.2, .int .i64 r.2.1.2.2.1, .int .i64 r.2.1.2.2.2.1, .int .i64 r.2.1.2.2.2.2.1, .int .i64 r.2.1.2.2.2.2.2, x]) ∧ Stw ⟨Y, [], w0⟩ [] [row (x) 88 Bl r.2.2] w' := by
 refine enter Try.func46 Aa Try.ntmps46 Aa fun a F => ?_
 have W := Stw.start Y w0
 have h_v1 := W.nx s_v1
 unfold BP at H
 refine vc tk 2 F W fun a w F W => ?_
 refine B1 (cs := (Ed p0 v1)) F W Aa Aa Aa fun b1 a w F W => ?_
 refine Cn (cs := (Ig)) F W Aa Mx Aa fun b2 a w F W => ?_
 refine EY tk 6 [1] F W (ai fun a w F W => ?_)
 obtain ⟨x1, h1, H⟩ := Ah H
 refine AB (Ml := []) (Zl := []) (β := Value) (rv := fun x => x) (MM := fun x => []) (ZZ := fun x => [row x 88 Bl x1]) F W Ro Aa Aa (fun hL => CS _ w (v1) p0.2.2 _ h1 (W.old s_v1)) fun x a w F W => ?_
 obtain ⟨v2, rfl⟩ : ∃ y, y = x := ⟨x, rfl⟩
 have W : Stw ⟨Y, [], w0⟩ (OZ b2 b1 p0 v1) [row v2 88 Bl x1] w := W
 refine ls F W Aa (An J4 Aa Aa Aa NM F Aa 10 Aa).q fun a w F W => ?_
 refine Ka (M' := (OZ b2 b1 p0 v2)) 1 F W Aa Aa Aa NM (W.one (k := 0) Aa) Aa Aa fun w W => ?_
 refine EY tk 5 [1] F W (ai fun a w F W => ?_)
 refine EJ 0 F W Aa Aa Aa Fk Aa Aa (Ac Aa (Ac Aa (Ac Aa (Ac Aa (Ac Aa (Ac Aa (Ac Aa (Ac Aa (Ac Aa (Ac Aa (Ac (W.one (k := 0) Aa) Ct))))))))))) fun w W => ?_
 refine BV tk 2 F W fun a w F W => ?_
 refine Al ?_
 have H := Aw H
 subst H
 refine Aq (.inl Aa) F W Aa (EG 0 F Aa Aa Fk Aa) ?_
 have W := W.sub (M' := []) (Z' := [row v2 88 Bl x1]) (List.nil_sublist _) (List.Sublist.refl _)
 exact ⟨(v2), Aa, W⟩
end Go.Proofs.Ytfnmlmglmegamaa
