/- The functions of layer 24, Ig. Conditions: none. -/
import Derived.Test.YtghpabmmdenaoaabP0
namespace Go.Proofs.Ytghpabmmdenaoaa
open Go Go.RowKit
set_option linter.unusedVariables false
set_option linter.unusedSimpArgs false
set_option maxRecDepth 20000
theorem H4 : Has Try.prog 4 := ⟨fun args w => Al Try.func4 rfl (by decide) args w⟩
theorem T8 : Bt Try.prog 51 [.int .i64 0, .int .i64 0, .int .i64 0, .int .i64 0, .int .i64 0, .int .i64 0] [(0, 1), (1, 1), (2, 1), (3, 1), (4, 1), (5, 1)] := ⟨⟨.agg #[.int .i64 0, .int .i64 0, .int .i64 0, .int .i64 0, .int .i64 0, .int .i64 0], by kernel_rfl, rfl⟩, ⟨_, IK, fun w => by kernel_rfl⟩⟩
theorem Va : Bt Try.prog 25 [.int .i64 0, .slice none 0 0, .slice none 0 0] [(0, 1), (1, 1), (2, 1)] := ⟨⟨.agg #[.int .i64 0, .slice none 0 0, .slice none 0 0], by kernel_rfl, rfl⟩, ⟨_, IE, fun w => by kernel_rfl⟩⟩
theorem Wh : (Try.prog.info? 25).bind (·.zero) = some (.agg #[.int .i64 0, .slice none 0 0, .slice none 0 0]) := by kernel_rfl
theorem H6 : Has Try.prog 6 := ⟨fun args w => Al Try.func6 rfl (by decide) args w⟩
def FK (p0 : (List (Int × Int × Int × Int)) × (List (Int × Int × List Int)) × Int × Int × Int × Int) (p1 : Int) : Bool := (decide (p0.2.2.2.2.1 ≤ p1) && decide (p1 ≤ p0.2.2.2.2.2))
theorem MA (Y : Nat → Prop) (w0 : World) (v1 : Value) (v2 : Value) (p0 : (List (Int × Int × Int × Int)) × (List (Int × Int × List Int)) × Int × Int × Int × Int) (p1 : Int) (r : Bool) (H : FK p0 p1 = r) (h_v1 : Sl w0 (NX []) A4 v1 p0.1) (h_v2 : Sl w0 (NX []) EX v2 p0.2.1) :
    Calls Try.prog 13 #[.agg #[v1, v2, .int .i64 p0.2.2.1, .int .i64 p0.2.2.2.1, .int .i64 p0.2.2.2.2.1, .int .i64 p0.2.2.2.2.2], .int .i64 p1] w0 fun e w' => e = .returned (.bool r) ∧ Below w0.heap.size w0 w' := by
 refine enter Try.func13 Aa Try.ntmps13 Aa fun a F => ?_
 have W := Stw.start Y w0
 obtain ⟨v3, h1, h_v2⟩ := h_v2.ex Hh
 unfold FK at H
 refine Ah (Ac ?_)
 refine EQ (cs := [v1, v2, .int .i64 p0.2.2.1, .int .i64 p0.2.2.2.1, .int .i64 p0.2.2.2.2.1, .int .i64 p0.2.2.2.2.2]) F W Aa Aa Aa fun b1 a w F W => ?_
 refine ls F W Aa (Af F Aa).q fun a w F W => ?_
 refine Ae (Ab ?_)
 refine AK (fun a w => Fr 15 [] [(4, .bool (decide (p0.2.2.2.2.1 ≤ p1) && decide (p1 ≤ p0.2.2.2.2.2)))] a ∧ Stw ⟨Y, [], w0⟩ [(b1, [v1, v2, .int .i64 p0.2.2.1, .int .i64 p0.2.2.2.1, .int .i64 p0.2.2.2.2.1, .int .i64 p0.2.2.2.2.2])] [] w) ?_ ?_
 ·
  refine Ac ?_
  refine ls F W Aa (Am Hn Aa Aa Aa T3 F Aa 4 Aa).q fun a w F W => ?_
  refine ls F W Aa (AB (v := Value.int .i64 p0.2.2.2.2.1) 0 F Aa Aa T3 Aa).q fun a w F W => ?_
  refine ls F W Aa (Ad F Aa).q fun a w F W => ?_
  refine ls F W Aa (Im F Aa Aa).q fun a w F W => ?_
  refine ls F W Aa (Ad F Aa).q fun a w F W => ?_
  rcases Bool.eq_false_or_eq_true (decide (p0.2.2.2.2.1 ≤ p1)) with hb0 | hb0
  ·
   rw [hb0] at F
   refine AR F W (Ag F Aa Aa Aa Aa) Aa (An Aa) (Ad F Aa).q fun a w F W => ?_
   refine AR F W (Ag F Aa Aa Aa Aa) Aa (An Aa) (Am Hn Aa Aa Aa T3 F Aa 5 Aa).q fun a w F W => ?_
   refine AR F W (Ag F Aa Aa Aa Aa) Aa (An Aa) (AB (v := Value.int .i64 p0.2.2.2.2.2) 0 F Aa Aa T3 Aa).q fun a w F W => ?_
   refine AR F W (Ag F Aa Aa Aa Aa) Aa (An Aa) (Im F Aa Aa).q fun a w F W => ?_
   refine ls F W Aa (Av F Aa Aa Aa).q fun a w F W => ?_
   refine ls F W Aa (Af F Aa).q fun a w F W => ?_
   refine Ae (Ab ?_)
   exact ⟨F.re ⟨(by show some (Value.bool (decide (p1 ≤ p0.2.2.2.2.2))) = some (Value.bool (decide (p0.2.2.2.2.1 ≤ p1) && decide (p1 ≤ p0.2.2.2.2.2))); try rw [hb0]; all_goals simp only [Bool.not_true, Bool.not_false, Bool.true_and, Bool.false_and, Bool.true_or, Bool.false_or, Bool.and_true, Bool.or_false, cond_true, cond_false]), trivial⟩, W⟩
  rw [hb0] at F
  iterate 4 refine C1 F Aa Aa Aa Aa Aa Aa Aa fun a F => ?_
  refine ls F W Aa (Ax F Aa Aa Aa).q fun a w F W => ?_
  refine ls F W Aa (Af F Aa).q fun a w F W => ?_
  refine Ae (Ab ?_)
  exact ⟨F.re ⟨(by show some (Value.bool false) = some (Value.bool (decide (p0.2.2.2.2.1 ≤ p1) && decide (p1 ≤ p0.2.2.2.2.2))); try rw [hb0]; all_goals simp only [Bool.not_true, Bool.not_false, Bool.true_and, Bool.false_and, Bool.true_or, Bool.false_or, Bool.and_true, Bool.or_false, cond_true, cond_false]), trivial⟩, W⟩
 rintro a w ⟨F, W⟩
 refine AF ?_
 subst H
 refine Bj (.inl Aa) F W Aa (AD F Aa) ?_
 exact ⟨rfl, W.done⟩
theorem Vk : Has Try.prog 13 := ⟨fun args w => Al Try.func13 rfl (by decide) args w⟩
theorem H7 : Has Try.prog 7 := ⟨fun args w => Al Try.func7 rfl (by decide) args w⟩
noncomputable def Fc  : Option Bool := (DY (3, ([(0, 0, 1, 0, 1, 1), (1, 1, 2, 0, 1, 2), (0, 1, 2, 1, 1, 1)] : List (Int × Int × Int × Int × Int × Int)), ([(2, 7)] : List (Int × Int))) ([([0] : List Int), ([1] : List Int), ([7] : List Int)] : List (List Int)) ([([1] : List Int), ([1] : List Int), ([7] : List Int)] : List (List Int)) 100 4 10).bind fun x1 => ((Hp (3, ([(0, 0, 1, 0, 1, 1), (1, 1, 2, 0, 1, 2), (0, 1, 2, 1, 1, 1)] : List (Int × Int × Int × Int × Int × Int)), ([(2, 7)] : List (Int × Int))) 4).bind fun x3 => (if x3 = 15 then (if x1.2 = 0 then (if (x1.1.2.1.length : Int) = 1 then (ix x1.1.2.1 0).bind fun x4 => (if x4.2.1 = 121 then (if x1.1.2.2.2.2.1 = 111 then (if x1.1.2.2.2.2.2 = 125 then (if (FK x1.1 125) = true then (CP x1.1 0).bind fun x5 => some (decide ((x5.length : Int) = 1)) else some false) else some false) else some false) else some false) else some false) else some false) else some false)).bind fun x2 => some x2
theorem Hi (Y : Nat → Prop) (w0 : World)   (r : Bool) (H : Fc  = some r)  :
    Calls Try.prog 5 #[] w0 fun e w' => e = .returned (.bool r) ∧ Below w0.heap.size w0 w' := by
 refine enter Try.func5 Aa Try.ntmps5 Aa fun a F => ?_
 have W := Stw.start Y w0
 unfold Fc at H
 refine Ah (Ac ?_)
 refine ls F W Aa (Af F Aa).q fun a w F W => ?_
 refine Ae (Ab (Ah (Ac ?_)))
 refine ls F W Aa (CE (v := Value.agg #[.int .i64 0, .int .i64 0, .int .i64 1, .int .i64 0, .int .i64 1, .int .i64 1]) T8 F Aa Aa Aa).q fun a w F W => ?_
 refine ls F W Aa (CE (v := Value.agg #[.int .i64 1, .int .i64 1, .int .i64 2, .int .i64 0, .int .i64 1, .int .i64 2]) T8 F Aa Aa Aa).q fun a w F W => ?_
 refine ls F W Aa (CE (v := Value.agg #[.int .i64 0, .int .i64 1, .int .i64 2, .int .i64 1, .int .i64 1, .int .i64 1]) T8 F Aa Aa Aa).q fun a w F W => ?_
 refine E9 (z := Value.agg #[.int .i64 0, .int .i64 0, .int .i64 0, .int .i64 0, .int .i64 0, .int .i64 0]) (cs := [.int .i64 0, .int .i64 0, .int .i64 1, .int .i64 0, .int .i64 1, .int .i64 1, .int .i64 1, .int .i64 1, .int .i64 2, .int .i64 0, .int .i64 1, .int .i64 2, .int .i64 0, .int .i64 1, .int .i64 2, .int .i64 1, .int .i64 1, .int .i64 1]) Ii ([(0, 0, 1, 0, 1, 1), (1, 1, 2, 0, 1, 2), (0, 1, 2, 1, 1, 1)] : List (Int × Int × Int × Int × Int × Int)) F W Aa Tq TJ Aa Aa Aa Aa Aa Aa (S8.repL _ _ ([(0, 0, 1, 0, 1, 1), (1, 1, 2, 0, 1, 2), (0, 1, 2, 1, 1, 1)] : List (Int × Int × Int × Int × Int × Int))) fun v1 a w F W => ?_
 refine ls F W Aa (CE (v := Value.agg #[.int .i64 2, .int .i64 7]) UF F Aa Aa Aa).q fun a w F W => ?_
 refine E9 (z := Value.agg #[.int .i64 0, .int .i64 0]) (cs := [.int .i64 2, .int .i64 7]) Ip ([(2, 7)] : List (Int × Int)) F W Aa Us Uy Aa Aa Aa Aa Aa Aa (T7.repL _ _ ([(2, 7)] : List (Int × Int))) fun v2 a w F W => ?_
 refine ls F W Aa (CE (v := Value.agg #[.int .i64 3, v1, v2]) Va F Aa (Bq Aa Aa Aa (Bq Aa (Ct (W.one (k := 1) Aa)) Aa (Bq Aa (Ct (W.one (k := 0) Aa)) Aa DO))) Aa).q fun a w F W => ?_
 refine CB (cs := [.int .i64 0, .slice none 0 0, .slice none 0 0]) F W Aa Wh Aa fun b1 a w F W => ?_
 refine BW (vs := [.int .i64 3, v1, v2]) (M' := [(b1, [.int .i64 3, v1, v2])]) 0 F W Aa Aa Aa Mk Aa Aa Aa (AZ Aa (AZ (W.one (k := 1) Aa) (AZ (W.one (k := 0) Aa) E3))) Aa fun w W => ?_
 refine Ae (Ab (Ah (Ac ?_)))
 refine ls F W Aa (AB (v := Value.agg #[.int .i64 3, v1, v2]) 0 F Aa Aa Mk Aa).q fun a w F W => ?_
 refine E9 (z := Value.int .i64 0) (cs := [.int .i64 0]) (Rp.int .i64) ([0] : List Int) F W Aa EH Z3 Aa Aa Aa Aa Aa Aa (Fl.int.repL _ _ ([0] : List Int)) fun v3 a w F W => ?_
 refine E9 (z := Value.int .i64 0) (cs := [.int .i64 1]) (Rp.int .i64) ([1] : List Int) F W Aa EH Z3 Aa Aa Aa Aa Aa Aa (Fl.int.repL _ _ ([1] : List Int)) fun v4 a w F W => ?_
 refine E9 (z := Value.int .i64 0) (cs := [.int .i64 7]) (Rp.int .i64) ([7] : List Int) F W Aa EH Z3 Aa Aa Aa Aa Aa Aa (Fl.int.repL _ _ ([7] : List Int)) fun v5 a w F W => ?_
 have W := W.frontZ (i := 2) Aa Aa
 have W := W.freeze
 have W := W.frontZ (i := 2) Aa Aa
 have W := W.freeze
 have W := W.frontZ (i := 2) Aa Aa
 have W := W.freeze
 refine E9 (z := Value.slice none 0 0) (cs := [v3, v4, v5]) (Rp.slice (Rp.int .i64)) ([([0] : List Int), ([1] : List Int), ([7] : List Int)] : List (List Int)) F W Aa N8 Ui Aa Aa Aa (Bq Aa (Ct (W.oneF (k := 2) Aa)) Aa (Bq Aa (Ct (W.oneF (k := 1) Aa)) Aa (Bq Aa (Ct (W.oneF (k := 0) Aa)) Aa DO))) Aa Aa ⟨[v3], _, Aa, ⟨_, Aa, (W.item (i := 2) Aa)⟩, ⟨[v4], _, Aa, ⟨_, Aa, (W.item (i := 1) Aa)⟩, ⟨[v5], _, Aa, ⟨_, Aa, (W.item (i := 0) Aa)⟩, Aa⟩⟩⟩ fun v6 a w F W => ?_
 refine E9 (z := Value.int .i64 0) (cs := [.int .i64 1]) (Rp.int .i64) ([1] : List Int) F W Aa EH Z3 Aa Aa Aa Aa Aa Aa (Fl.int.repL _ _ ([1] : List Int)) fun v7 a w F W => ?_
 refine E9 (z := Value.int .i64 0) (cs := [.int .i64 1]) (Rp.int .i64) ([1] : List Int) F W Aa EH Z3 Aa Aa Aa Aa Aa Aa (Fl.int.repL _ _ ([1] : List Int)) fun v8 a w F W => ?_
 refine E9 (z := Value.int .i64 0) (cs := [.int .i64 7]) (Rp.int .i64) ([7] : List Int) F W Aa EH Z3 Aa Aa Aa Aa Aa Aa (Fl.int.repL _ _ ([7] : List Int)) fun v9 a w F W => ?_
 have W := W.frontZ (i := 2) Aa Aa
 have W := W.freeze
 have W := W.frontZ (i := 2) Aa Aa
 have W := W.freeze
 have W := W.frontZ (i := 2) Aa Aa
 have W := W.freeze
 refine E9 (z := Value.slice none 0 0) (cs := [v7, v8, v9]) (Rp.slice (Rp.int .i64)) ([([1] : List Int), ([1] : List Int), ([7] : List Int)] : List (List Int)) F W Aa N8 Ui Aa Aa Aa (Bq Aa (Ct (W.oneF (k := 2) Aa)) Aa (Bq Aa (Ct (W.oneF (k := 1) Aa)) Aa (Bq Aa (Ct (W.oneF (k := 0) Aa)) Aa DO))) Aa Aa ⟨[v7], _, Aa, ⟨_, Aa, (W.item (i := 2) Aa)⟩, ⟨[v8], _, Aa, ⟨_, Aa, (W.item (i := 1) Aa)⟩, ⟨[v9], _, Aa, ⟨_, Aa, (W.item (i := 0) Aa)⟩, Aa⟩⟩⟩ fun v10 a w F W => ?_
 obtain ⟨x1, h1, H⟩ := Ak H
 refine Bo (Ml := []) (Zl := []) (M := [(b1, [.int .i64 3, v1, v2])]) (Z := [row v10 39 (Rp.slice (Rp.int .i64)) ([([1] : List Int), ([1] : List Int), ([7] : List Int)] : List (List Int)), JE v9 (Rp.int .i64) ([7] : List Int), JE v8 (Rp.int .i64) ([1] : List Int), JE v7 (Rp.int .i64) ([1] : List Int), row v6 39 (Rp.slice (Rp.int .i64)) ([([0] : List Int), ([1] : List Int), ([7] : List Int)] : List (List Int)), JE v5 (Rp.int .i64) ([7] : List Int), JE v4 (Rp.int .i64) ([1] : List Int), JE v3 (Rp.int .i64) ([0] : List Int), row v2 53 Ip ([(2, 7)] : List (Int × Int)), row v1 51 Ii ([(0, 0, 1, 0, 1, 1), (1, 1, 2, 0, 1, 2), (0, 1, 2, 1, 1, 1)] : List (Int × Int × Int × Int × Int × Int))]) (β := Value × Value) (rv := fun x => .tuple #[.agg #[x.1, x.2, .int .i64 x1.1.2.2.1, .int .i64 x1.1.2.2.2.1, .int .i64 x1.1.2.2.2.2.1, .int .i64 x1.1.2.2.2.2.2], .int .i64 x1.2]) (MM := fun x => []) (ZZ := fun x => [row x.1 70 A4 x1.1.1, row x.2 41 EX x1.1.2.1]) F W H6 Aa Aa (fun hL => Li _ w (v1) (v2) (v6) (v10) (3, ([(0, 0, 1, 0, 1, 1), (1, 1, 2, 0, 1, 2), (0, 1, 2, 1, 1, 1)] : List (Int × Int × Int × Int × Int × Int)), ([(2, 7)] : List (Int × Int))) ([([0] : List Int), ([1] : List Int), ([7] : List Int)] : List (List Int)) ([([1] : List Int), ([1] : List Int), ([7] : List Int)] : List (List Int)) 100 4 10 _ h1 ((Aj 9 Aa) w W).nx ((Aj 8 Aa) w W).nx ((Aj 4 Aa) w W).nx ((Aj 0 Aa) w W).nx) fun x a w F W => ?_
 obtain ⟨v11, v12⟩ := x
 have W : Stw ⟨Y, [], w0⟩ [(b1, [.int .i64 3, v1, v2])] [row v11 70 A4 x1.1.1, row v12 41 EX x1.1.2.1, row v10 39 (Rp.slice (Rp.int .i64)) ([([1] : List Int), ([1] : List Int), ([7] : List Int)] : List (List Int)), JE v9 (Rp.int .i64) ([7] : List Int), JE v8 (Rp.int .i64) ([1] : List Int), JE v7 (Rp.int .i64) ([1] : List Int), row v6 39 (Rp.slice (Rp.int .i64)) ([([0] : List Int), ([1] : List Int), ([7] : List Int)] : List (List Int)), JE v5 (Rp.int .i64) ([7] : List Int), JE v4 (Rp.int .i64) ([1] : List Int), JE v3 (Rp.int .i64) ([0] : List Int), row v2 53 Ip ([(2, 7)] : List (Int × Int)), row v1 51 Ii ([(0, 0, 1, 0, 1, 1), (1, 1, 2, 0, 1, 2), (0, 1, 2, 1, 1, 1)] : List (Int × Int × Int × Int × Int × Int))] w := W
 refine ls F W Aa (Ad F Aa).q fun a w F W => ?_
 refine ls F W Aa (BK (v := Value.agg #[v11, v12, .int .i64 x1.1.2.2.1, .int .i64 x1.1.2.2.2.1, .int .i64 x1.1.2.2.2.2.1, .int .i64 x1.1.2.2.2.2.2]) F Aa Aa).q fun a w F W => ?_
 refine ls F W Aa (BK (v := Value.int .i64 x1.2) F Aa Aa).q fun a w F W => ?_
 refine CB (cs := [.slice none 0 0, .slice none 0 0, .int .i64 0, .int .i64 0, .int .i64 0, .int .i64 0]) F W Aa TG Aa fun b2 a w F W => ?_
 refine BW (vs := [v11, v12, .int .i64 x1.1.2.2.1, .int .i64 x1.1.2.2.2.1, .int .i64 x1.1.2.2.2.2.1, .int .i64 x1.1.2.2.2.2.2]) (M' := [(b2, [v11, v12, .int .i64 x1.1.2.2.1, .int .i64 x1.1.2.2.2.1, .int .i64 x1.1.2.2.2.2.1, .int .i64 x1.1.2.2.2.2.2]), (b1, [.int .i64 3, v1, v2])]) 0 F W Aa Aa Aa Np Aa Aa Aa (AZ (W.one (k := 0) Aa) (AZ (W.one (k := 1) Aa) (AZ Aa (AZ Aa (AZ Aa (AZ Aa E3)))))) Aa fun w W => ?_
 refine ls F W Aa (Af F Aa).q fun a w F W => ?_
 refine Ae (Ab ?_)
 obtain ⟨o1, G1, K1⟩ := Ak H
 refine AK (fun a w => ∃ x2 : Bool, some (x2) = some o1 ∧ Fr 65 [] [(0, .bool x2)] a ∧ Stw ⟨Y, [], w0⟩ [(b2, [v11, v12, .int .i64 x1.1.2.2.1, .int .i64 x1.1.2.2.2.1, .int .i64 x1.1.2.2.2.2.1, .int .i64 x1.1.2.2.2.2.2]), (b1, [.int .i64 3, v1, v2])] [row v11 70 A4 x1.1.1, row v12 41 EX x1.1.2.1, row v1 51 Ii ([(0, 0, 1, 0, 1, 1), (1, 1, 2, 0, 1, 2), (0, 1, 2, 1, 1, 1)] : List (Int × Int × Int × Int × Int × Int)), row v2 53 Ip ([(2, 7)] : List (Int × Int))] w) ?_ ?_
 ·
  have H := G1
  clear G1 K1
  have W := W.frontZ (i := 1) Aa Aa
  obtain ⟨v13, h2, W⟩ := W.exR Hh
  have W := W.frontZ (i := 2) Aa Aa
  obtain ⟨v14, h3, W⟩ := W.exR Er
  have W := W.frontZ (i := 6) Aa Aa
  obtain ⟨v15, h4, W⟩ := W.exR Er
  refine Ac ?_
  refine ls F W Aa (AB (v := Value.agg #[.int .i64 3, v1, v2]) 1 F Aa Aa Mk Aa).q fun a w F W => ?_
  obtain ⟨x3, h5, H⟩ := Ak H
  refine ls F W Aa (BR (v := Value.int .i64 x3) F Uz Aa (fun w W => Mf any w (v1) (v2) (3, ([(0, 0, 1, 0, 1, 1), (1, 1, 2, 0, 1, 2), (0, 1, 2, 1, 1, 1)] : List (Int × Int × Int × Int × Int × Int)), ([(2, 7)] : List (Int × Int))) 4 _ h5 (((Aj 11 Aa) : EM _ _ _ _ _ _) w W).nx (((Aj 10 Aa) : EM _ _ _ _ _ _) w W).nx)) fun a w F W => ?_
  refine ls F W Aa (Dl F Aa Aa).q fun a w F W => ?_
  refine ls F W Aa (Ad F Aa).q fun a w F W => ?_
  rcases Bool.eq_false_or_eq_true (decide (x3 = 15)) with hb | hb
  ·
   have H := AP (Bm hb) H
   rw [hb] at F
   clear hb
   refine AR F W (Ag F Aa Aa Aa Aa) Aa (An Aa) (Ad F Aa).q fun a w F W => ?_
   refine AR F W (Ag F Aa Aa Aa Aa) Aa (An Aa) (Dl F Aa Aa).q fun a w F W => ?_
   refine ls F W Aa (Av F Aa Aa Aa).q fun a w F W => ?_
   refine ls F W Aa (Ad F Aa).q fun a w F W => ?_
   rcases Bool.eq_false_or_eq_true (decide (x1.2 = 0)) with hb | hb
   ·
    have H := AP (Bm hb) H
    rw [hb] at F
    clear hb
    refine AR F W (Ag F Aa Aa Aa Aa) Aa (An Aa) (Am Hn Aa Aa Aa LR F Aa 1 Aa).q fun a w F W => ?_
    refine AR F W (Ag F Aa Aa Aa Aa) Aa (An Aa) (AB (v := v12) 0 F Aa Aa LR Aa).q fun a w F W => ?_
    refine AR F W (Ag F Aa Aa Aa Aa) Aa (An Aa) (B1 (r := EX) (l := x1.1.2.1) P5 Aa F Aa (Cb Hh h2 (Aj 2 Aa))).q fun a w F W => ?_
    refine AR F W (Ag F Aa Aa Aa Aa) Aa (An Aa) (Dl F Aa Aa).q fun a w F W => ?_
    refine ls F W Aa (Av F Aa Aa Aa).q fun a w F W => ?_
    refine ls F W Aa (Ad F Aa).q fun a w F W => ?_
    rcases Bool.eq_false_or_eq_true (decide ((x1.1.2.1.length : Int) = 1)) with hb | hb
    ·
     have H := AP (Bm hb) H
     rw [hb] at F
     clear hb
     refine AR F W (Ag F Aa Aa Aa Aa) Aa (An Aa) (Am Hn Aa Aa Aa LR F Aa 1 Aa).q fun a w F W => ?_
     refine AR F W (Ag F Aa Aa Aa Aa) Aa (An Aa) (AB (v := v12) 0 F Aa Aa LR Aa).q fun a w F W => ?_
     obtain ⟨x4, h6, H⟩ := Ak H
     obtain ⟨v16, h7, h8⟩ := EK h2 h6
     have h9 : KT v16 = [.int .i64 x4.1, .int .i64 x4.2.1, (v16.2.2.1)] := congrArg (fun q : Int × Int × List Int => ([.int .i64 q.1, .int .i64 q.2.1, (v16.2.2.1)] : List Value)) h8
     refine AR F W (Ag F Aa Aa Aa Aa) Aa (An Aa) (AC (r := HZ) Sa F Aa Aa (Aj 2 Aa) h7).q fun a w F W => ?_
     refine AR F W (Ag F Aa Aa Aa Aa) Aa (An Aa) (Am Ou Aa Aa Aa T3 F Aa (GJ v12 + (0 : Int).toNat * 3 + 1) Aa).q fun a w F W => ?_
     refine AR F W (Ag F Aa Aa Aa Aa) Aa (An Aa) (Ao (y := Value.int .i64 x4.2.1) (j := 1) (i := 0) (enc := KT) F Aa Aa (Aj 2 Aa) h7 P6 T3 (by rw [h9]; rfl)).q fun a w F W => ?_
     refine AR F W (Ag F Aa Aa Aa Aa) Aa (An Aa) (Dl F Aa Aa).q fun a w F W => ?_
     refine ls F W Aa (Av F Aa Aa Aa).q fun a w F W => ?_
     refine ls F W Aa (Ad F Aa).q fun a w F W => ?_
     rcases Bool.eq_false_or_eq_true (decide (x4.2.1 = 121)) with hb | hb
     ·
      have H := AP (Bm hb) H
      rw [hb] at F
      clear hb
      refine AR F W (Ag F Aa Aa Aa Aa) Aa (An Aa) (Am Hn Aa Aa Aa T3 F Aa 4 Aa).q fun a w F W => ?_
      refine AR F W (Ag F Aa Aa Aa Aa) Aa (An Aa) (AB (v := Value.int .i64 x1.1.2.2.2.2.1) 0 F Aa Aa T3 Aa).q fun a w F W => ?_
      refine AR F W (Ag F Aa Aa Aa Aa) Aa (An Aa) (Dl F Aa Aa).q fun a w F W => ?_
      refine ls F W Aa (Av F Aa Aa Aa).q fun a w F W => ?_
      refine ls F W Aa (Ad F Aa).q fun a w F W => ?_
      rcases Bool.eq_false_or_eq_true (decide (x1.1.2.2.2.2.1 = 111)) with hb | hb
      ·
       have H := AP (Bm hb) H
       rw [hb] at F
       clear hb
       refine AR F W (Ag F Aa Aa Aa Aa) Aa (An Aa) (Am Hn Aa Aa Aa T3 F Aa 5 Aa).q fun a w F W => ?_
       refine AR F W (Ag F Aa Aa Aa Aa) Aa (An Aa) (AB (v := Value.int .i64 x1.1.2.2.2.2.2) 0 F Aa Aa T3 Aa).q fun a w F W => ?_
       refine AR F W (Ag F Aa Aa Aa Aa) Aa (An Aa) (Dl F Aa Aa).q fun a w F W => ?_
       refine ls F W Aa (Av F Aa Aa Aa).q fun a w F W => ?_
       refine ls F W Aa (Ad F Aa).q fun a w F W => ?_
       rcases Bool.eq_false_or_eq_true (decide (x1.1.2.2.2.2.2 = 125)) with hb | hb
       ·
        have H := AP (Bm hb) H
        rw [hb] at F
        clear hb
        refine AR F W (Ag F Aa Aa Aa Aa) Aa (An Aa) (AB (v := Value.agg #[v11, v12, .int .i64 x1.1.2.2.1, .int .i64 x1.1.2.2.2.1, .int .i64 x1.1.2.2.2.2.1, .int .i64 x1.1.2.2.2.2.2]) 0 F Aa Aa Np Aa).q fun a w F W => ?_
        refine IQ (Ag F Aa Aa Aa Aa) ?_
        refine ls F W Aa (BR (v := Value.bool (FK x1.1 125)) F Vk Aa (fun w W => MA any w (v11) (v12) x1.1 125 _ Aa (((Aj 3 Aa) : EM _ _ _ _ _ _) w W).nx (((Cb Hh h2 (Aj 2 Aa)) : EM _ _ _ _ _ _) w W).nx)) fun a w F W => ?_
        refine ls F W Aa (Av F Aa Aa Aa).q fun a w F W => ?_
        refine ls F W Aa (Ad F Aa).q fun a w F W => ?_
        rcases Bool.eq_false_or_eq_true (FK x1.1 125) with hb | hb
        ·
         have H := AP hb H
         rw [hb] at F
         clear hb
         refine AR F W (Ag F Aa Aa Aa Aa) Aa (An Aa) (AB (v := Value.agg #[v11, v12, .int .i64 x1.1.2.2.1, .int .i64 x1.1.2.2.2.1, .int .i64 x1.1.2.2.2.2.1, .int .i64 x1.1.2.2.2.2.2]) 0 F Aa Aa Np Aa).q fun a w F W => ?_
         refine IQ (Ag F Aa Aa Aa Aa) ?_
         obtain ⟨x5, h10, H⟩ := Ak H
         refine Bo (Ml := []) (Zl := []) (M := [(b2, [v11, v12, .int .i64 x1.1.2.2.1, .int .i64 x1.1.2.2.2.1, .int .i64 x1.1.2.2.2.2.1, .int .i64 x1.1.2.2.2.2.2]), (b1, [.int .i64 3, v1, v2])]) (Z := [row v6 39 (Rp.vsl (Rp.int .i64)) v15, row v10 39 (Rp.vsl (Rp.int .i64)) v14, row v12 41 HZ v13, row v11 70 A4 x1.1.1, JE v9 (Rp.int .i64) ([7] : List Int), JE v8 (Rp.int .i64) ([1] : List Int), JE v7 (Rp.int .i64) ([1] : List Int), JE v5 (Rp.int .i64) ([7] : List Int), JE v4 (Rp.int .i64) ([1] : List Int), JE v3 (Rp.int .i64) ([0] : List Int), row v2 53 Ip ([(2, 7)] : List (Int × Int)), row v1 51 Ii ([(0, 0, 1, 0, 1, 1), (1, 1, 2, 0, 1, 2), (0, 1, 2, 1, 1, 1)] : List (Int × Int × Int × Int × Int × Int))]) (β := Value) (rv := fun x => x) (MM := fun x => []) (ZZ := fun x => [row x 44 IU x5]) F W H7 Aa Aa (fun hL => Gv _ w (v11) (v12) x1.1 0 _ h10 ((Aj 3 Aa) w W).nx ((Cb Hh h2 (Aj 2 Aa)) w W).nx) fun x a w F W => ?_
         obtain ⟨v17, rfl⟩ : ∃ y, y = x := ⟨x, rfl⟩
         have W : Stw ⟨Y, [], w0⟩ [(b2, [v11, v12, .int .i64 x1.1.2.2.1, .int .i64 x1.1.2.2.2.1, .int .i64 x1.1.2.2.2.2.1, .int .i64 x1.1.2.2.2.2.2]), (b1, [.int .i64 3, v1, v2])] [row v17 44 IU x5, row v6 39 (Rp.vsl (Rp.int .i64)) v15, row v10 39 (Rp.vsl (Rp.int .i64)) v14, row v12 41 HZ v13, row v11 70 A4 x1.1.1, JE v9 (Rp.int .i64) ([7] : List Int), JE v8 (Rp.int .i64) ([1] : List Int), JE v7 (Rp.int .i64) ([1] : List Int), JE v5 (Rp.int .i64) ([7] : List Int), JE v4 (Rp.int .i64) ([1] : List Int), JE v3 (Rp.int .i64) ([0] : List Int), row v2 53 Ip ([(2, 7)] : List (Int × Int)), row v1 51 Ii ([(0, 0, 1, 0, 1, 1), (1, 1, 2, 0, 1, 2), (0, 1, 2, 1, 1, 1)] : List (Int × Int × Int × Int × Int × Int))] w := W
         refine AR F W (Ag F Aa Aa Aa Aa) Aa (An Aa) (B1 (r := IU) (l := x5) OP Aa F Aa (Aj 0 Aa)).q fun a w F W => ?_
         refine AR F W (Ag F Aa Aa Aa Aa) Aa (An Aa) (Dl F Aa Aa).q fun a w F W => ?_
         refine ls F W Aa (Av F Aa Aa Aa).q fun a w F W => ?_
         refine ls F W Aa (Af F Aa).q fun a w F W => ?_
         refine Ae (Ab ?_)
         have W := W.frontZ (i := 3) Aa Aa
         have W := W.hideR Hh h2
         have W := W.frontZ (i := 11) Aa Aa
         have W := W.frontZ (i := 12) Aa Aa
         have W := W.frontZ (i := 2) Aa Aa
         have W := W.frontZ (i := 6) Aa Aa
         have W := W.frontM (i := 1) Aa Aa
         have W := W.frontM (i := 1) Aa Aa
         have W := W.sub (M' := [(b2, [v11, v12, .int .i64 x1.1.2.2.1, .int .i64 x1.1.2.2.2.1, .int .i64 x1.1.2.2.2.2.1, .int .i64 x1.1.2.2.2.2.2]), (b1, [.int .i64 3, v1, v2])]) (Z' := [row v11 70 A4 x1.1.1, row v12 41 EX x1.1.2.1, row v1 51 Ii ([(0, 0, 1, 0, 1, 1), (1, 1, 2, 0, 1, 2), (0, 1, 2, 1, 1, 1)] : List (Int × Int × Int × Int × Int × Int)), row v2 53 Ip ([(2, 7)] : List (Int × Int))]) (List.Sublist.refl _) (List.Sublist.cons_cons _ (List.Sublist.cons_cons _ (List.Sublist.cons_cons _ (List.Sublist.cons_cons _ (List.nil_sublist _)))))
         exact ⟨_, H, F.re ⟨rfl, trivial⟩, W⟩
        have H := AO (by rw [hb]; decide) H
        rw [hb] at F
        clear hb
        iterate 4 refine C1 F Aa Aa Aa Aa Aa Aa Aa fun a F => ?_
        refine ls F W Aa (Ax F Aa Aa Aa).q fun a w F W => ?_
        refine ls F W Aa (Af F Aa).q fun a w F W => ?_
        refine Ae (Ab ?_)
        have W := W.frontZ (i := 2) Aa Aa
        have W := W.hideR Hh h2
        have W := W.frontZ (i := 10) Aa Aa
        have W := W.frontZ (i := 11) Aa Aa
        have W := W.frontZ (i := 2) Aa Aa
        have W := W.frontZ (i := 5) Aa Aa
        have W := W.frontM (i := 1) Aa Aa
        have W := W.frontM (i := 1) Aa Aa
        have W := W.sub (M' := [(b2, [v11, v12, .int .i64 x1.1.2.2.1, .int .i64 x1.1.2.2.2.1, .int .i64 x1.1.2.2.2.2.1, .int .i64 x1.1.2.2.2.2.2]), (b1, [.int .i64 3, v1, v2])]) (Z' := [row v11 70 A4 x1.1.1, row v12 41 EX x1.1.2.1, row v1 51 Ii ([(0, 0, 1, 0, 1, 1), (1, 1, 2, 0, 1, 2), (0, 1, 2, 1, 1, 1)] : List (Int × Int × Int × Int × Int × Int)), row v2 53 Ip ([(2, 7)] : List (Int × Int))]) (List.Sublist.refl _) (List.Sublist.cons_cons _ (List.Sublist.cons_cons _ (List.Sublist.cons_cons _ (List.Sublist.cons_cons _ (List.nil_sublist _)))))
        exact ⟨_, H, F.re ⟨rfl, trivial⟩, W⟩
       have H := AO (Bn hb) H
       rw [hb] at F
       clear hb
       iterate 2 refine C1 F Aa Aa Aa Aa Aa Aa Aa fun a F => ?_
       refine ls F W Aa (Ax F Aa Aa Aa).q fun a w F W => ?_
       refine ls F W Aa (Ad F Aa).q fun a w F W => ?_
       iterate 4 refine C1 F Aa Aa Aa Aa Aa Aa Aa fun a F => ?_
       refine ls F W Aa (Ax F Aa Aa Aa).q fun a w F W => ?_
       refine ls F W Aa (Af F Aa).q fun a w F W => ?_
       refine Ae (Ab ?_)
       have W := W.frontZ (i := 2) Aa Aa
       have W := W.hideR Hh h2
       have W := W.frontZ (i := 10) Aa Aa
       have W := W.frontZ (i := 11) Aa Aa
       have W := W.frontZ (i := 2) Aa Aa
       have W := W.frontZ (i := 5) Aa Aa
       have W := W.frontM (i := 1) Aa Aa
       have W := W.frontM (i := 1) Aa Aa
       have W := W.sub (M' := [(b2, [v11, v12, .int .i64 x1.1.2.2.1, .int .i64 x1.1.2.2.2.1, .int .i64 x1.1.2.2.2.2.1, .int .i64 x1.1.2.2.2.2.2]), (b1, [.int .i64 3, v1, v2])]) (Z' := [row v11 70 A4 x1.1.1, row v12 41 EX x1.1.2.1, row v1 51 Ii ([(0, 0, 1, 0, 1, 1), (1, 1, 2, 0, 1, 2), (0, 1, 2, 1, 1, 1)] : List (Int × Int × Int × Int × Int × Int)), row v2 53 Ip ([(2, 7)] : List (Int × Int))]) (List.Sublist.refl _) (List.Sublist.cons_cons _ (List.Sublist.cons_cons _ (List.Sublist.cons_cons _ (List.Sublist.cons_cons _ (List.nil_sublist _)))))
       exact ⟨_, H, F.re ⟨rfl, trivial⟩, W⟩
      have H := AO (Bn hb) H
      rw [hb] at F
      clear hb
      iterate 3 refine C1 F Aa Aa Aa Aa Aa Aa Aa fun a F => ?_
      refine ls F W Aa (Ax F Aa Aa Aa).q fun a w F W => ?_
      refine ls F W Aa (Ad F Aa).q fun a w F W => ?_
      iterate 2 refine C1 F Aa Aa Aa Aa Aa Aa Aa fun a F => ?_
      refine ls F W Aa (Ax F Aa Aa Aa).q fun a w F W => ?_
      refine ls F W Aa (Ad F Aa).q fun a w F W => ?_
      iterate 4 refine C1 F Aa Aa Aa Aa Aa Aa Aa fun a F => ?_
      refine ls F W Aa (Ax F Aa Aa Aa).q fun a w F W => ?_
      refine ls F W Aa (Af F Aa).q fun a w F W => ?_
      refine Ae (Ab ?_)
      have W := W.frontZ (i := 2) Aa Aa
      have W := W.hideR Hh h2
      have W := W.frontZ (i := 10) Aa Aa
      have W := W.frontZ (i := 11) Aa Aa
      have W := W.frontZ (i := 2) Aa Aa
      have W := W.frontZ (i := 5) Aa Aa
      have W := W.frontM (i := 1) Aa Aa
      have W := W.frontM (i := 1) Aa Aa
      have W := W.sub (M' := [(b2, [v11, v12, .int .i64 x1.1.2.2.1, .int .i64 x1.1.2.2.2.1, .int .i64 x1.1.2.2.2.2.1, .int .i64 x1.1.2.2.2.2.2]), (b1, [.int .i64 3, v1, v2])]) (Z' := [row v11 70 A4 x1.1.1, row v12 41 EX x1.1.2.1, row v1 51 Ii ([(0, 0, 1, 0, 1, 1), (1, 1, 2, 0, 1, 2), (0, 1, 2, 1, 1, 1)] : List (Int × Int × Int × Int × Int × Int)), row v2 53 Ip ([(2, 7)] : List (Int × Int))]) (List.Sublist.refl _) (List.Sublist.cons_cons _ (List.Sublist.cons_cons _ (List.Sublist.cons_cons _ (List.Sublist.cons_cons _ (List.nil_sublist _)))))
      exact ⟨_, H, F.re ⟨rfl, trivial⟩, W⟩
     have H := AO (Bn hb) H
     rw [hb] at F
     clear hb
     iterate 3 refine C1 F Aa Aa Aa Aa Aa Aa Aa fun a F => ?_
     refine ls F W Aa (Ax F Aa Aa Aa).q fun a w F W => ?_
     refine ls F W Aa (Ad F Aa).q fun a w F W => ?_
     iterate 3 refine C1 F Aa Aa Aa Aa Aa Aa Aa fun a F => ?_
     refine ls F W Aa (Ax F Aa Aa Aa).q fun a w F W => ?_
     refine ls F W Aa (Ad F Aa).q fun a w F W => ?_
     iterate 2 refine C1 F Aa Aa Aa Aa Aa Aa Aa fun a F => ?_
     refine ls F W Aa (Ax F Aa Aa Aa).q fun a w F W => ?_
     refine ls F W Aa (Ad F Aa).q fun a w F W => ?_
     iterate 4 refine C1 F Aa Aa Aa Aa Aa Aa Aa fun a F => ?_
     refine ls F W Aa (Ax F Aa Aa Aa).q fun a w F W => ?_
     refine ls F W Aa (Af F Aa).q fun a w F W => ?_
     refine Ae (Ab ?_)
     have W := W.frontZ (i := 2) Aa Aa
     have W := W.hideR Hh h2
     have W := W.frontZ (i := 10) Aa Aa
     have W := W.frontZ (i := 11) Aa Aa
     have W := W.frontZ (i := 2) Aa Aa
     have W := W.frontZ (i := 5) Aa Aa
     have W := W.frontM (i := 1) Aa Aa
     have W := W.frontM (i := 1) Aa Aa
     have W := W.sub (M' := [(b2, [v11, v12, .int .i64 x1.1.2.2.1, .int .i64 x1.1.2.2.2.1, .int .i64 x1.1.2.2.2.2.1, .int .i64 x1.1.2.2.2.2.2]), (b1, [.int .i64 3, v1, v2])]) (Z' := [row v11 70 A4 x1.1.1, row v12 41 EX x1.1.2.1, row v1 51 Ii ([(0, 0, 1, 0, 1, 1), (1, 1, 2, 0, 1, 2), (0, 1, 2, 1, 1, 1)] : List (Int × Int × Int × Int × Int × Int)), row v2 53 Ip ([(2, 7)] : List (Int × Int))]) (List.Sublist.refl _) (List.Sublist.cons_cons _ (List.Sublist.cons_cons _ (List.Sublist.cons_cons _ (List.Sublist.cons_cons _ (List.nil_sublist _)))))
     exact ⟨_, H, F.re ⟨rfl, trivial⟩, W⟩
    have H := AO (Bn hb) H
    rw [hb] at F
    clear hb
    iterate 6 refine C1 F Aa Aa Aa Aa Aa Aa Aa fun a F => ?_
    refine ls F W Aa (Ax F Aa Aa Aa).q fun a w F W => ?_
    refine ls F W Aa (Ad F Aa).q fun a w F W => ?_
    iterate 3 refine C1 F Aa Aa Aa Aa Aa Aa Aa fun a F => ?_
    refine ls F W Aa (Ax F Aa Aa Aa).q fun a w F W => ?_
    refine ls F W Aa (Ad F Aa).q fun a w F W => ?_
    iterate 3 refine C1 F Aa Aa Aa Aa Aa Aa Aa fun a F => ?_
    refine ls F W Aa (Ax F Aa Aa Aa).q fun a w F W => ?_
    refine ls F W Aa (Ad F Aa).q fun a w F W => ?_
    iterate 2 refine C1 F Aa Aa Aa Aa Aa Aa Aa fun a F => ?_
    refine ls F W Aa (Ax F Aa Aa Aa).q fun a w F W => ?_
    refine ls F W Aa (Ad F Aa).q fun a w F W => ?_
    iterate 4 refine C1 F Aa Aa Aa Aa Aa Aa Aa fun a F => ?_
    refine ls F W Aa (Ax F Aa Aa Aa).q fun a w F W => ?_
    refine ls F W Aa (Af F Aa).q fun a w F W => ?_
    refine Ae (Ab ?_)
    have W := W.frontZ (i := 2) Aa Aa
    have W := W.hideR Hh h2
    have W := W.frontZ (i := 10) Aa Aa
    have W := W.frontZ (i := 11) Aa Aa
    have W := W.frontZ (i := 2) Aa Aa
    have W := W.frontZ (i := 5) Aa Aa
    have W := W.frontM (i := 1) Aa Aa
    have W := W.frontM (i := 1) Aa Aa
    have W := W.sub (M' := [(b2, [v11, v12, .int .i64 x1.1.2.2.1, .int .i64 x1.1.2.2.2.1, .int .i64 x1.1.2.2.2.2.1, .int .i64 x1.1.2.2.2.2.2]), (b1, [.int .i64 3, v1, v2])]) (Z' := [row v11 70 A4 x1.1.1, row v12 41 EX x1.1.2.1, row v1 51 Ii ([(0, 0, 1, 0, 1, 1), (1, 1, 2, 0, 1, 2), (0, 1, 2, 1, 1, 1)] : List (Int × Int × Int × Int × Int × Int)), row v2 53 Ip ([(2, 7)] : List (Int × Int))]) (List.Sublist.refl _) (List.Sublist.cons_cons _ (List.Sublist.cons_cons _ (List.Sublist.cons_cons _ (List.Sublist.cons_cons _ (List.nil_sublist _)))))
    exact ⟨_, H, F.re ⟨rfl, trivial⟩, W⟩
   have H := AO (Bn hb) H
   rw [hb] at F
   clear hb
   iterate 4 refine C1 F Aa Aa Aa Aa Aa Aa Aa fun a F => ?_
   refine ls F W Aa (Ax F Aa Aa Aa).q fun a w F W => ?_
   refine ls F W Aa (Ad F Aa).q fun a w F W => ?_
   iterate 6 refine C1 F Aa Aa Aa Aa Aa Aa Aa fun a F => ?_
   refine ls F W Aa (Ax F Aa Aa Aa).q fun a w F W => ?_
   refine ls F W Aa (Ad F Aa).q fun a w F W => ?_
   iterate 3 refine C1 F Aa Aa Aa Aa Aa Aa Aa fun a F => ?_
   refine ls F W Aa (Ax F Aa Aa Aa).q fun a w F W => ?_
   refine ls F W Aa (Ad F Aa).q fun a w F W => ?_
   iterate 3 refine C1 F Aa Aa Aa Aa Aa Aa Aa fun a F => ?_
   refine ls F W Aa (Ax F Aa Aa Aa).q fun a w F W => ?_
   refine ls F W Aa (Ad F Aa).q fun a w F W => ?_
   iterate 2 refine C1 F Aa Aa Aa Aa Aa Aa Aa fun a F => ?_
   refine ls F W Aa (Ax F Aa Aa Aa).q fun a w F W => ?_
   refine ls F W Aa (Ad F Aa).q fun a w F W => ?_
   iterate 4 refine C1 F Aa Aa Aa Aa Aa Aa Aa fun a F => ?_
   refine ls F W Aa (Ax F Aa Aa Aa).q fun a w F W => ?_
   refine ls F W Aa (Af F Aa).q fun a w F W => ?_
   refine Ae (Ab ?_)
   have W := W.frontZ (i := 2) Aa Aa
   have W := W.hideR Hh h2
   have W := W.frontZ (i := 10) Aa Aa
   have W := W.frontZ (i := 11) Aa Aa
   have W := W.frontZ (i := 2) Aa Aa
   have W := W.frontZ (i := 5) Aa Aa
   have W := W.frontM (i := 1) Aa Aa
   have W := W.frontM (i := 1) Aa Aa
   have W := W.sub (M' := [(b2, [v11, v12, .int .i64 x1.1.2.2.1, .int .i64 x1.1.2.2.2.1, .int .i64 x1.1.2.2.2.2.1, .int .i64 x1.1.2.2.2.2.2]), (b1, [.int .i64 3, v1, v2])]) (Z' := [row v11 70 A4 x1.1.1, row v12 41 EX x1.1.2.1, row v1 51 Ii ([(0, 0, 1, 0, 1, 1), (1, 1, 2, 0, 1, 2), (0, 1, 2, 1, 1, 1)] : List (Int × Int × Int × Int × Int × Int)), row v2 53 Ip ([(2, 7)] : List (Int × Int))]) (List.Sublist.refl _) (List.Sublist.cons_cons _ (List.Sublist.cons_cons _ (List.Sublist.cons_cons _ (List.Sublist.cons_cons _ (List.nil_sublist _)))))
   exact ⟨_, H, F.re ⟨rfl, trivial⟩, W⟩
  have H := AO (Bn hb) H
  rw [hb] at F
  clear hb
  iterate 2 refine C1 F Aa Aa Aa Aa Aa Aa Aa fun a F => ?_
  refine ls F W Aa (Ax F Aa Aa Aa).q fun a w F W => ?_
  refine ls F W Aa (Ad F Aa).q fun a w F W => ?_
  iterate 4 refine C1 F Aa Aa Aa Aa Aa Aa Aa fun a F => ?_
  refine ls F W Aa (Ax F Aa Aa Aa).q fun a w F W => ?_
  refine ls F W Aa (Ad F Aa).q fun a w F W => ?_
  iterate 6 refine C1 F Aa Aa Aa Aa Aa Aa Aa fun a F => ?_
  refine ls F W Aa (Ax F Aa Aa Aa).q fun a w F W => ?_
  refine ls F W Aa (Ad F Aa).q fun a w F W => ?_
  iterate 3 refine C1 F Aa Aa Aa Aa Aa Aa Aa fun a F => ?_
  refine ls F W Aa (Ax F Aa Aa Aa).q fun a w F W => ?_
  refine ls F W Aa (Ad F Aa).q fun a w F W => ?_
  iterate 3 refine C1 F Aa Aa Aa Aa Aa Aa Aa fun a F => ?_
  refine ls F W Aa (Ax F Aa Aa Aa).q fun a w F W => ?_
  refine ls F W Aa (Ad F Aa).q fun a w F W => ?_
  iterate 2 refine C1 F Aa Aa Aa Aa Aa Aa Aa fun a F => ?_
  refine ls F W Aa (Ax F Aa Aa Aa).q fun a w F W => ?_
  refine ls F W Aa (Ad F Aa).q fun a w F W => ?_
  iterate 4 refine C1 F Aa Aa Aa Aa Aa Aa Aa fun a F => ?_
  refine ls F W Aa (Ax F Aa Aa Aa).q fun a w F W => ?_
  refine ls F W Aa (Af F Aa).q fun a w F W => ?_
  refine Ae (Ab ?_)
  have W := W.frontZ (i := 2) Aa Aa
  have W := W.hideR Hh h2
  have W := W.frontZ (i := 10) Aa Aa
  have W := W.frontZ (i := 11) Aa Aa
  have W := W.frontZ (i := 2) Aa Aa
  have W := W.frontZ (i := 5) Aa Aa
  have W := W.frontM (i := 1) Aa Aa
  have W := W.frontM (i := 1) Aa Aa
  have W := W.sub (M' := [(b2, [v11, v12, .int .i64 x1.1.2.2.1, .int .i64 x1.1.2.2.2.1, .int .i64 x1.1.2.2.2.2.1, .int .i64 x1.1.2.2.2.2.2]), (b1, [.int .i64 3, v1, v2])]) (Z' := [row v11 70 A4 x1.1.1, row v12 41 EX x1.1.2.1, row v1 51 Ii ([(0, 0, 1, 0, 1, 1), (1, 1, 2, 0, 1, 2), (0, 1, 2, 1, 1, 1)] : List (Int × Int × Int × Int × Int × Int)), row v2 53 Ip ([(2, 7)] : List (Int × Int))]) (List.Sublist.refl _) (List.Sublist.cons_cons _ (List.Sublist.cons_cons _ (List.Sublist.cons_cons _ (List.Sublist.cons_cons _ (List.nil_sublist _)))))
  exact ⟨_, H, F.re ⟨rfl, trivial⟩, W⟩
 rintro a w ⟨x2, hj, F, W⟩
 have hj := AQ hj
 subst hj
 have H := K1
 clear G1 K1
 refine AF ?_
 have H := AQ H
 subst H
 refine Bj (.inl Aa) F W Aa (AD F Aa) ?_
 exact ⟨rfl, W.done⟩
theorem H5 : Has Try.prog 5 := ⟨fun args w => Al Try.func5 rfl (by decide) args w⟩
abbrev TZ : Rp (Int × (Int × (Int × Int × Int × Int) × (Int × Int × Int × Int)) × (Value × List (Int × Int × Int))) := (Rp.pair (Rp.int .i64) (Rp.pair Uw (Rp.vsl M7)))
abbrev Rq : Rp (Int × (Int × (Int × (Int × Int × Int × Int) × (Int × Int × Int × Int)) × (Value × List (Int × Int × Int))) × Bool) := (Rp.pair (Rp.int .i64) (Rp.pair TZ Rp.bool))
abbrev GH : Rp (Int × (Value × List (Int × (Int × (Int × (Int × Int × Int × Int) × (Int × Int × Int × Int)) × (Value × List (Int × Int × Int))) × Bool))) := (Rp.pair (Rp.int .i64) (Rp.vsl Rq))
abbrev Tv (p : Int × (Int × (Int × (Int × Int × Int × Int) × (Int × Int × Int × Int)) × (Value × List (Int × Int × Int))) × Bool) : Int × (Int × (Int × (Int × Int × Int × Int) × (Int × Int × Int × Int)) × (List (Int × Int × Int))) × Bool := (p.1, (p.2.1.1, p.2.1.2.1, p.2.1.2.2.2), p.2.2)
theorem JL : Ex Kb Rq Tv := (Ex.pair Ex.rfl' (Ex.pair (Ex.pair Ex.rfl' (Ex.pair Ex.rfl' Ex.sliceF)) Ex.rfl'))
abbrev TR (p : Int × (Value × List (Int × (Int × (Int × (Int × Int × Int × Int) × (Int × Int × Int × Int)) × (Value × List (Int × Int × Int))) × Bool))) : Int × (List (Int × (Int × (Int × (Int × Int × Int × Int) × (Int × Int × Int × Int)) × (List (Int × Int × Int))) × Bool)) := (p.1, (p.2.2.map Tv))
theorem NF : Ex IU GH TR := (Ex.pair Ex.rfl' (Ex.slice JL))
abbrev Mn (a : Int × (Value × List (Int × (Int × (Int × (Int × Int × Int × Int) × (Int × Int × Int × Int)) × (Value × List (Int × Int × Int))) × Bool))) : List Value := [.int .i64 a.1, a.2.1]
theorem QO : HO GH Mn := (HO.pair Fl.int.to HO.vsl)
theorem SV : Ty Try.prog 42 false 1 := ⟨by kernel_rfl, by kernel_rfl⟩
def U0 (a : Int × Int × Int × Int) : List Value := [.int .i64 a.1, .int .i64 a.2.1, .int .i64 a.2.2.1, .int .i64 a.2.2.2]
theorem UB : Fl Uk U0 := (Fl.pair Fl.int (Fl.pair Fl.int (Fl.pair Fl.int Fl.int)))
def Vm (a : Int × (Int × Int × Int × Int) × (Int × Int × Int × Int)) : List Value := [.int .i64 a.1, .int .i64 a.2.1.1, .int .i64 a.2.1.2.1, .int .i64 a.2.1.2.2.1, .int .i64 a.2.1.2.2.2, .int .i64 a.2.2.1, .int .i64 a.2.2.2.1, .int .i64 a.2.2.2.2.1, .int .i64 a.2.2.2.2.2]
theorem U7 : Fl Uw Vm := (Fl.pair Fl.int (Fl.pair UB UB))
abbrev Q9 (a : Int × (Int × (Int × (Int × Int × Int × Int) × (Int × Int × Int × Int)) × (Value × List (Int × Int × Int))) × Bool) : List Value := [.int .i64 a.1, .int .i64 a.2.1.1, .int .i64 a.2.1.2.1.1, .int .i64 a.2.1.2.1.2.1.1, .int .i64 a.2.1.2.1.2.1.2.1, .int .i64 a.2.1.2.1.2.1.2.2.1, .int .i64 a.2.1.2.1.2.1.2.2.2, .int .i64 a.2.1.2.1.2.2.1, .int .i64 a.2.1.2.1.2.2.2.1, .int .i64 a.2.1.2.1.2.2.2.2.1, .int .i64 a.2.1.2.1.2.2.2.2.2, a.2.1.2.2.1, .bool a.2.2]
theorem Tb : HO Rq Q9 := (HO.pair Fl.int.to (HO.pair (HO.pair Fl.int.to (HO.pair U7.to HO.vsl)) Fl.bool.to))
theorem UJ : Ty Try.prog 68 true 13 := ⟨by kernel_rfl, by kernel_rfl⟩
theorem T4 : Ty Try.prog 4 false 1 := ⟨by kernel_rfl, by kernel_rfl⟩
theorem Tm (d : Nat) (x0 x1 x2 x3 y0 y1 y2 y3 : Int) (w : World) : (Op.equalIn (d + 2) 61 (.agg #[.int .i64 x0, .int .i64 x1, .int .i64 x2, .int .i64 x3]) (.agg #[.int .i64 y0, .int .i64 y1, .int .i64 y2, .int .i64 y3])).run Try.prog w = .ok (decide (x0 = y0 ∧ x1 = y1 ∧ x2 = y2 ∧ x3 = y3)) w :=
  (SA (d := d) (k := .i64) SR OI T3 [x0, x1, x2, x3] [y0, y1, y2, y3] rfl rfl w).trans (by congr 1; exact decide_eq_decide.2 (by simp))
theorem Ub (dd : Nat) (x0 : Int) (x1 : Int) (x2 : Int) (x3 : Int) (x4 : Int) (x5 : Int) (x6 : Int) (x7 : Int) (x8 : Int) (y0 : Int) (y1 : Int) (y2 : Int) (y3 : Int) (y4 : Int) (y5 : Int) (y6 : Int) (y7 : Int) (y8 : Int) (w : World) : (Op.equalIn (dd + 3) 63 (.agg #[.int .i64 x0, .int .i64 x1, .int .i64 x2, .int .i64 x3, .int .i64 x4, .int .i64 x5, .int .i64 x6, .int .i64 x7, .int .i64 x8]) (.agg #[.int .i64 y0, .int .i64 y1, .int .i64 y2, .int .i64 y3, .int .i64 y4, .int .i64 y5, .int .i64 y6, .int .i64 y7, .int .i64 y8])).run Try.prog w = .ok (decide (x0 = y0 ∧ x1 = y1 ∧ x2 = y2 ∧ x3 = y3 ∧ x4 = y4 ∧ x5 = y5 ∧ x6 = y6 ∧ x7 = y7 ∧ x8 = y8)) w :=
  JH (d := dd + 2) (rs := [decide (x0 = y0), decide (x1 = y1 ∧ x2 = y2 ∧ x3 = y3 ∧ x4 = y4), decide (x5 = y5 ∧ x6 = y6 ∧ x7 = y7 ∧ x8 = y8)]) RO (by kernel_rfl) ⟨rfl, In (d := dd + 1) rfl rfl OI T3 rfl rfl, rfl, Py (d := dd + 2) (sz := 4) (xs' := [.int .i64 x1, .int .i64 x2, .int .i64 x3, .int .i64 x4]) (ys' := [.int .i64 y1, .int .i64 y2, .int .i64 y3, .int .i64 y4]) rfl rfl TI rfl rfl (fun w => Tm (dd + 0) x1 x2 x3 x4 y1 y2 y3 y4 w), rfl, Py (d := dd + 2) (sz := 4) (xs' := [.int .i64 x5, .int .i64 x6, .int .i64 x7, .int .i64 x8]) (ys' := [.int .i64 y5, .int .i64 y6, .int .i64 y7, .int .i64 y8]) rfl rfl TI rfl rfl (fun w => Tm (dd + 0) x5 x6 x7 x8 y5 y6 y7 y8 w), trivial⟩ (by rw [Bool.eq_iff_iff]; simp [and_assoc]) w
theorem U5 : Try.prog.eqGuardType Try.prog.depth 63 = false := by kernel_rfl
theorem Wk (x0 : Int) (x1 : Int) (x2 : Int) (x3 : Int) (x4 : Int) (x5 : Int) (x6 : Int) (x7 : Int) (x8 : Int) (y0 : Int) (y1 : Int) (y2 : Int) (y3 : Int) (y4 : Int) (y5 : Int) (y6 : Int) (y7 : Int) (y8 : Int) (w : World) : (Op.equalIn 10000 63 (.agg #[.int .i64 x0, .int .i64 x1, .int .i64 x2, .int .i64 x3, .int .i64 x4, .int .i64 x5, .int .i64 x6, .int .i64 x7, .int .i64 x8]) (.agg #[.int .i64 y0, .int .i64 y1, .int .i64 y2, .int .i64 y3, .int .i64 y4, .int .i64 y5, .int .i64 y6, .int .i64 y7, .int .i64 y8])).run Try.prog w = .ok (decide (x0 = y0 ∧ x1 = y1 ∧ x2 = y2 ∧ x3 = y3 ∧ x4 = y4 ∧ x5 = y5 ∧ x6 = y6 ∧ x7 = y7 ∧ x8 = y8)) w := Ub 9997 x0 x1 x2 x3 x4 x5 x6 x7 x8 y0 y1 y2 y3 y4 y5 y6 y7 y8 w
theorem TF : Ty Try.prog 64 false 1 := ⟨by kernel_rfl, by kernel_rfl⟩
theorem UG : Ty Try.prog 91 true 3 := ⟨by kernel_rfl, by kernel_rfl⟩
theorem Uh (dd : Nat) (x0 : Int) (x1 : Int) (x2 : Int) (y0 : Int) (y1 : Int) (y2 : Int) (w : World) : (Op.equalIn (dd + 2) 91 (.agg #[.int .i64 x0, .int .i64 x1, .int .i64 x2]) (.agg #[.int .i64 y0, .int .i64 y1, .int .i64 y2])).run Try.prog w = .ok (decide (x0 = y0 ∧ x1 = y1 ∧ x2 = y2)) w :=
  JH (d := dd + 1) (rs := [decide (x0 = y0), decide (x1 = y1), decide (x2 = y2)]) TB (by kernel_rfl) ⟨rfl, In (d := dd + 0) rfl rfl OI T3 rfl rfl, rfl, In (d := dd + 0) rfl rfl OI T3 rfl rfl, rfl, In (d := dd + 0) rfl rfl OI T3 rfl rfl, trivial⟩ (by simp) w
theorem Vb : Try.prog.eqGuardType Try.prog.depth 91 = false := by kernel_rfl
theorem VV (x0 : Int) (x1 : Int) (x2 : Int) (y0 : Int) (y1 : Int) (y2 : Int) (w : World) : (Op.equalIn 10000 91 (.agg #[.int .i64 x0, .int .i64 x1, .int .i64 x2]) (.agg #[.int .i64 y0, .int .i64 y1, .int .i64 y2])).run Try.prog w = .ok (decide (x0 = y0 ∧ x1 = y1 ∧ x2 = y2)) w := Uh 9998 x0 x1 x2 y0 y1 y2 w
noncomputable def Hk (p0 : List (Int × Int × Int)) (p1 : List (Int × Int × Int)) : Int → Option (Int ⊕ (Unit ⊕ Bool))
  | x1 => (if x1 < (p0.length : Int) then (ix p0 x1).bind fun x2 => (ix p1 x1).bind fun x3 => (if (!(decide (x2.1 = x3.1 ∧ x2.2.1 = x3.2.1 ∧ x2.2.2 = x3.2.2))) = true then some (.inr (.inr false)) else some (.inl (Az (x1 + 1)))) else some (.inr (.inl ())))
noncomputable def Jk (p0 : List (Int × Int × Int)) (p1 : List (Int × Int × Int)) : Option Bool := (if (p0.length : Int) ≠ (p1.length : Int) then some false else FO (AH (Hk p0 p1) 0) fun _ => some true)
theorem Ph (Y : Nat → Prop) (w0 : World) (v1 : Value) (v2 : Value) (p0 : List (Int × Int × Int)) (p1 : List (Int × Int × Int)) (r : Bool) (H : Jk p0 p1 = some r) (h_v1 : Sl w0 (NX []) M7 v1 p0) (h_v2 : Sl w0 (NX []) M7 v2 p1) :
    Calls Try.prog 47 #[v1, v2] w0 fun e w' => e = .returned (.bool r) ∧ Below w0.heap.size w0 w' := by
 refine enter Try.func47 Aa Try.ntmps47 Aa fun a F => ?_
 have W := Stw.start Y w0
 unfold Jk at H
 refine Ah (Ac ?_)
 refine ls F W Aa (Af F Aa).q fun a w F W => ?_
 refine Ae (Ab (Ah (Ah (Ac ?_))))
 refine ls F W Aa (Ad F Aa).q fun a w F W => ?_
 refine ls F W Aa (B1 (r := M7) (l := p0) RI Aa F Aa (Ap h_v1)).q fun a w F W => ?_
 refine ls F W Aa (Ad F Aa).q fun a w F W => ?_
 refine ls F W Aa (B1 (r := M7) (l := p1) RI Aa F Aa (Ap h_v2)).q fun a w F W => ?_
 refine ls F W Aa (Hq F Aa Aa).q fun a w F W => ?_
 refine Ae (Ab ?_)
 refine Ay F Aa (fun hb => ?_) fun hb => ?_
 ·
  have H := AP (Bm hb) H
  rw [hb] at F
  clear hb
  refine Ah (Ac ?_)
  refine ls F W Aa (Af F Aa).q fun a w F W => ?_
  refine Ae (Ab (AF (AN ?_)))
  have H := AQ H
  subst H
  refine Bj (.inl Aa) F W Aa (AD F Aa) ?_
  exact ⟨rfl, W.done⟩
 have H := AO (Bn hb) H
 rw [hb] at F
 clear hb
 refine Aq (Ab ?_)
 obtain ⟨o1, G1, K1, L1⟩ := JX H
 refine AK (fun a w => some (Sum.inl ()) = some o1 ∧ Fr 26 [] [(4, .bool false)] a ∧ Stw ⟨Y, [], w0⟩ [] [] w) ?_ ?_
 ·
  have H := G1
  clear G1 K1
  refine Ah (Ac ?_)
  refine ls F W Aa (Af F Aa).q fun a w F W => ?_
  refine Ae (Ab (As ?_))
  refine Bh H (fun s a w => Fr 26 [] [(0, v1), (1, v2), (4, .bool false), (5, .int .i64 s)] a ∧ Stw ⟨Y, [], w0⟩ [] [] w) ⟨F.re ⟨rfl, Aa, Aa, Aa, trivial⟩, W⟩ fun s o a w H L2 hR => ?_
  obtain ⟨x1, rfl⟩ : ∃ x, x = s := ⟨s, rfl⟩
  obtain ⟨F, W⟩ := hR
  have F : Fr 26 [] [(0, v1), (1, v2), (4, .bool false), (5, .int .i64 x1)] a := F
  have W : Stw ⟨Y, [], w0⟩ [] [] w := W
  rw [Hk] at H
  refine Ah (Ah (Ac ?_))
  iterate 2 refine ls F W Aa (Ad F Aa).q fun a w F W => ?_
  refine ls F W Aa (B1 (r := M7) (l := p0) RI Aa F Aa (Ap h_v1)).q fun a w F W => ?_
  refine ls F W Aa (BI F Aa Aa).q fun a w F W => ?_
  refine Ae (Ab ?_)
  refine Ay F Aa (fun hb => ?_) fun hb => ?_
  ·
   have H := AP (Bm hb) H
   rw [hb] at F
   clear hb
   refine Aq (Ab (Ah (As (Ah ?_))))
   refine BS W MO (by kernel_rfl) ?_
   iterate 2 refine qs F Aa (Ad F Aa).q fun a F => ?_
   obtain ⟨x2, h1, H⟩ := Ak H
   refine qs F Aa (AC (r := M7) TV F Aa Aa (Ap h_v1) h1).q fun a F => ?_
   refine qs F Aa (Ao (y := Value.agg #[.int .i64 x2.1, .int .i64 x2.2.1, .int .i64 x2.2.2]) (j := 0) (i := x1) F Aa Aa (Ap h_v1) h1 TX.to UG Aa).q fun a F => ?_
   iterate 2 refine qs F Aa (Ad F Aa).q fun a F => ?_
   obtain ⟨x3, h2, H⟩ := Ak H
   refine qs F Aa (AC (r := M7) TV F Aa Aa (Ap h_v2) h2).q fun a F => ?_
   refine qs F Aa (Ao (y := Value.agg #[.int .i64 x3.1, .int .i64 x3.2.1, .int .i64 x3.2.2]) (j := 0) (i := x1) F Aa Aa (Ap h_v2) h2 TX.to UG Aa).q fun a F => ?_
   refine qs F Aa (S2 (t := decide (x2.1 = x3.1 ∧ x2.2.1 = x3.2.1 ∧ x2.2.2 = x3.2.2)) Vb (VV _ _ _ _ _ _) F Aa Aa).q fun a F => ?_
   refine A0 fun w W => ?_
   refine Ab ?_
   refine Ay F Aa (fun hb => ?_) fun hb => ?_
   ·
    have H := AP hb H
    rw [hb] at F
    clear hb
    refine Ah (Ac ?_)
    refine ls F W Aa (Af F Aa).q fun a w F W => ?_
    refine Ae (Ab (AF (A3 ?_)))
    iterate 2 refine AN ?_
    refine A3 (AN ?_)
    have H := L2 _ H
    have H := L1 _ H
    have H := AQ H
    subst H
    refine Bj (.inl Aa) F W Aa (AD F Aa) ?_
    exact ⟨rfl, W.done⟩
   have H := AO (by rw [hb]; decide) H
   rw [hb] at F
   clear hb
   refine Aq (AM (Ab (Ac ?_)))
   refine ls F W Aa (Ad F Aa).q fun a w F W => ?_
   refine ls F W Aa (Bp F Aa Aa Aa).q fun a w F W => ?_
   refine ls F W Aa (Af F Aa).q fun a w F W => ?_
   refine Ae (Ab ?_)
   exact ⟨_, H, F.re ⟨rfl, Aa, Aa, Aa, trivial⟩, W⟩
  have H := AO (Bn hb) H
  rw [hb] at F
  clear hb
  refine A5 ?_
  iterate 2 refine Bk ?_
  refine A6 (Ab ?_)
  have H := L2 _ H
  exact ⟨H, F.re ⟨rfl, trivial⟩, W⟩
 rintro a w ⟨hj, F, W⟩
 have H := K1 _ hj
 clear hj G1 K1 L1
 refine Ah (Ac ?_)
 refine ls F W Aa (Af F Aa).q fun a w F W => ?_
 refine Ae (Ab (AF ?_))
 have H := AQ H
 subst H
 refine Bj (.inl Aa) F W Aa (AD F Aa) ?_
 exact ⟨rfl, W.done⟩
theorem VQ : Has Try.prog 47 := ⟨fun args w => Al Try.func47 rfl (by decide) args w⟩
noncomputable def KE (p0 : Int × (Int × (Int × Int × Int × Int) × (Int × Int × Int × Int)) × (List (Int × Int × Int))) (p1 : Int × (Int × (Int × Int × Int × Int) × (Int × Int × Int × Int)) × (List (Int × Int × Int))) : Option Bool := (if p0.1 = p1.1 then (if p0.2.1.1 = p1.2.1.1 ∧ p0.2.1.2.1.1 = p1.2.1.2.1.1 ∧ p0.2.1.2.1.2.1 = p1.2.1.2.1.2.1 ∧ p0.2.1.2.1.2.2.1 = p1.2.1.2.1.2.2.1 ∧ p0.2.1.2.1.2.2.2 = p1.2.1.2.1.2.2.2 ∧ p0.2.1.2.2.1 = p1.2.1.2.2.1 ∧ p0.2.1.2.2.2.1 = p1.2.1.2.2.2.1 ∧ p0.2.1.2.2.2.2.1 = p1.2.1.2.2.2.2.1 ∧ p0.2.1.2.2.2.2.2 = p1.2.1.2.2.2.2.2 then (Jk p0.2.2 p1.2.2).bind fun x2 => some x2 else some false) else some false).bind fun x1 => some x1
theorem Pq (Y : Nat → Prop) (w0 : World) (v1 : Value) (v2 : Value) (p0 : Int × (Int × (Int × Int × Int × Int) × (Int × Int × Int × Int)) × (List (Int × Int × Int))) (p1 : Int × (Int × (Int × Int × Int × Int) × (Int × Int × Int × Int)) × (List (Int × Int × Int))) (r : Bool) (H : KE p0 p1 = some r) (h_v1 : Sl w0 (NX []) M7 v1 p0.2.2) (h_v2 : Sl w0 (NX []) M7 v2 p1.2.2) :
    Calls Try.prog 33 #[.agg #[.int .i64 p0.1, .int .i64 p0.2.1.1, .int .i64 p0.2.1.2.1.1, .int .i64 p0.2.1.2.1.2.1, .int .i64 p0.2.1.2.1.2.2.1, .int .i64 p0.2.1.2.1.2.2.2, .int .i64 p0.2.1.2.2.1, .int .i64 p0.2.1.2.2.2.1, .int .i64 p0.2.1.2.2.2.2.1, .int .i64 p0.2.1.2.2.2.2.2, v1], .agg #[.int .i64 p1.1, .int .i64 p1.2.1.1, .int .i64 p1.2.1.2.1.1, .int .i64 p1.2.1.2.1.2.1, .int .i64 p1.2.1.2.1.2.2.1, .int .i64 p1.2.1.2.1.2.2.2, .int .i64 p1.2.1.2.2.1, .int .i64 p1.2.1.2.2.2.1, .int .i64 p1.2.1.2.2.2.2.1, .int .i64 p1.2.1.2.2.2.2.2, v2]] w0 fun e w' => e = .returned (.bool r) ∧ Below w0.heap.size w0 w' := by
 refine enter Try.func33 Aa Try.ntmps33 Aa fun a F => ?_
 have W := Stw.start Y w0
 unfold KE at H
 refine Ah (Ac ?_)
 refine EQ (cs := [.int .i64 p0.1, .int .i64 p0.2.1.1, .int .i64 p0.2.1.2.1.1, .int .i64 p0.2.1.2.1.2.1, .int .i64 p0.2.1.2.1.2.2.1, .int .i64 p0.2.1.2.1.2.2.2, .int .i64 p0.2.1.2.2.1, .int .i64 p0.2.1.2.2.2.1, .int .i64 p0.2.1.2.2.2.2.1, .int .i64 p0.2.1.2.2.2.2.2, v1]) F W Aa Aa Aa fun b1 a w F W => ?_
 refine EQ (cs := [.int .i64 p1.1, .int .i64 p1.2.1.1, .int .i64 p1.2.1.2.1.1, .int .i64 p1.2.1.2.1.2.1, .int .i64 p1.2.1.2.1.2.2.1, .int .i64 p1.2.1.2.1.2.2.2, .int .i64 p1.2.1.2.2.1, .int .i64 p1.2.1.2.2.2.1, .int .i64 p1.2.1.2.2.2.2.1, .int .i64 p1.2.1.2.2.2.2.2, v2]) F W Aa Aa Aa fun b2 a w F W => ?_
 refine ls F W Aa (Af F Aa).q fun a w F W => ?_
 refine Ae (Ab ?_)
 obtain ⟨o1, G1, K1⟩ := Ak H
 refine AK (fun a w => ∃ x1 : Bool, some (x1) = some o1 ∧ Fr 24 [] [(4, .bool x1)] a ∧ Stw ⟨Y, [], w0⟩ [(b2, [.int .i64 p1.1, .int .i64 p1.2.1.1, .int .i64 p1.2.1.2.1.1, .int .i64 p1.2.1.2.1.2.1, .int .i64 p1.2.1.2.1.2.2.1, .int .i64 p1.2.1.2.1.2.2.2, .int .i64 p1.2.1.2.2.1, .int .i64 p1.2.1.2.2.2.1, .int .i64 p1.2.1.2.2.2.2.1, .int .i64 p1.2.1.2.2.2.2.2, v2]), (b1, [.int .i64 p0.1, .int .i64 p0.2.1.1, .int .i64 p0.2.1.2.1.1, .int .i64 p0.2.1.2.1.2.1, .int .i64 p0.2.1.2.1.2.2.1, .int .i64 p0.2.1.2.1.2.2.2, .int .i64 p0.2.1.2.2.1, .int .i64 p0.2.1.2.2.2.1, .int .i64 p0.2.1.2.2.2.2.1, .int .i64 p0.2.1.2.2.2.2.2, v1])] [] w) ?_ ?_
 ·
  have H := G1
  clear G1 K1
  refine Ac ?_
  refine ls F W Aa (Am Pb Aa Aa Aa T3 F Aa 0 Aa).q fun a w F W => ?_
  refine ls F W Aa (AB (v := Value.int .i64 p0.1) 1 F Aa Aa T3 Aa).q fun a w F W => ?_
  refine ls F W Aa (Am Pb Aa Aa Aa T3 F Aa 0 Aa).q fun a w F W => ?_
  refine ls F W Aa (AB (v := Value.int .i64 p1.1) 0 F Aa Aa T3 Aa).q fun a w F W => ?_
  refine ls F W Aa (Dl F Aa Aa).q fun a w F W => ?_
  refine ls F W Aa (Ad F Aa).q fun a w F W => ?_
  rcases Bool.eq_false_or_eq_true (decide (p0.1 = p1.1)) with hb | hb
  ·
   have H := AP (Bm hb) H
   rw [hb] at F
   clear hb
   refine AR F W (Ag F Aa Aa Aa Aa) Aa (An Aa) (Am Pb Aa Aa Aa PZ F Aa 1 Aa).q fun a w F W => ?_
   refine AR F W (Ag F Aa Aa Aa Aa) Aa (An Aa) (AB (v := Value.agg #[.int .i64 p0.2.1.1, .int .i64 p0.2.1.2.1.1, .int .i64 p0.2.1.2.1.2.1, .int .i64 p0.2.1.2.1.2.2.1, .int .i64 p0.2.1.2.1.2.2.2, .int .i64 p0.2.1.2.2.1, .int .i64 p0.2.1.2.2.2.1, .int .i64 p0.2.1.2.2.2.2.1, .int .i64 p0.2.1.2.2.2.2.2]) 1 F Aa Aa PZ Aa).q fun a w F W => ?_
   refine AR F W (Ag F Aa Aa Aa Aa) Aa (An Aa) (Am Pb Aa Aa Aa PZ F Aa 1 Aa).q fun a w F W => ?_
   refine AR F W (Ag F Aa Aa Aa Aa) Aa (An Aa) (AB (v := Value.agg #[.int .i64 p1.2.1.1, .int .i64 p1.2.1.2.1.1, .int .i64 p1.2.1.2.1.2.1, .int .i64 p1.2.1.2.1.2.2.1, .int .i64 p1.2.1.2.1.2.2.2, .int .i64 p1.2.1.2.2.1, .int .i64 p1.2.1.2.2.2.1, .int .i64 p1.2.1.2.2.2.2.1, .int .i64 p1.2.1.2.2.2.2.2]) 0 F Aa Aa PZ Aa).q fun a w F W => ?_
   refine AR F W (Ag F Aa Aa Aa Aa) Aa (An Aa) (PB (t := decide (p0.2.1.1 = p1.2.1.1 ∧ p0.2.1.2.1.1 = p1.2.1.2.1.1 ∧ p0.2.1.2.1.2.1 = p1.2.1.2.1.2.1 ∧ p0.2.1.2.1.2.2.1 = p1.2.1.2.1.2.2.1 ∧ p0.2.1.2.1.2.2.2 = p1.2.1.2.1.2.2.2 ∧ p0.2.1.2.2.1 = p1.2.1.2.2.1 ∧ p0.2.1.2.2.2.1 = p1.2.1.2.2.2.1 ∧ p0.2.1.2.2.2.2.1 = p1.2.1.2.2.2.2.1 ∧ p0.2.1.2.2.2.2.2 = p1.2.1.2.2.2.2.2)) U5 (Wk _ _ _ _ _ _ _ _ _ _ _ _ _ _ _ _ _ _) F Aa Aa).q fun a w F W => ?_
   refine ls F W Aa (Av F Aa Aa Aa).q fun a w F W => ?_
   refine ls F W Aa (Ad F Aa).q fun a w F W => ?_
   rcases Bool.eq_false_or_eq_true (decide (p0.2.1.1 = p1.2.1.1 ∧ p0.2.1.2.1.1 = p1.2.1.2.1.1 ∧ p0.2.1.2.1.2.1 = p1.2.1.2.1.2.1 ∧ p0.2.1.2.1.2.2.1 = p1.2.1.2.1.2.2.1 ∧ p0.2.1.2.1.2.2.2 = p1.2.1.2.1.2.2.2 ∧ p0.2.1.2.2.1 = p1.2.1.2.2.1 ∧ p0.2.1.2.2.2.1 = p1.2.1.2.2.2.1 ∧ p0.2.1.2.2.2.2.1 = p1.2.1.2.2.2.2.1 ∧ p0.2.1.2.2.2.2.2 = p1.2.1.2.2.2.2.2)) with hb | hb
   ·
    have H := AP (Bm hb) H
    rw [hb] at F
    clear hb
    refine AR F W (Ag F Aa Aa Aa Aa) Aa (An Aa) (Am Pb Aa Aa Aa TF F Aa 10 Aa).q fun a w F W => ?_
    refine AR F W (Ag F Aa Aa Aa Aa) Aa (An Aa) (AB (v := v1) 1 F Aa Aa TF Aa).q fun a w F W => ?_
    refine AR F W (Ag F Aa Aa Aa Aa) Aa (An Aa) (Am Pb Aa Aa Aa TF F Aa 10 Aa).q fun a w F W => ?_
    refine AR F W (Ag F Aa Aa Aa Aa) Aa (An Aa) (AB (v := v2) 0 F Aa Aa TF Aa).q fun a w F W => ?_
    refine IQ (Ag F Aa Aa Aa Aa) ?_
    obtain ⟨x2, h1, H⟩ := Ak H
    refine ls F W Aa (BR (v := Value.bool x2) F VQ Aa (fun w W => Ph any w (v1) (v2) p0.2.2 p1.2.2 _ h1 (((Ap h_v1) : EM _ _ _ _ _ _) w W).nx (((Ap h_v2) : EM _ _ _ _ _ _) w W).nx)) fun a w F W => ?_
    refine ls F W Aa (Av F Aa Aa Aa).q fun a w F W => ?_
    refine ls F W Aa (Af F Aa).q fun a w F W => ?_
    refine Ae (Ab ?_)
    have W := W.frontM (i := 1) Aa Aa
    have W := W.frontM (i := 1) Aa Aa
    exact ⟨_, H, F.re ⟨rfl, trivial⟩, W⟩
   have H := AO (Bn hb) H
   rw [hb] at F
   clear hb
   iterate 5 refine C1 F Aa Aa Aa Aa Aa Aa Aa fun a F => ?_
   refine ls F W Aa (Ax F Aa Aa Aa).q fun a w F W => ?_
   refine ls F W Aa (Af F Aa).q fun a w F W => ?_
   refine Ae (Ab ?_)
   have W := W.frontM (i := 1) Aa Aa
   have W := W.frontM (i := 1) Aa Aa
   exact ⟨_, H, F.re ⟨rfl, trivial⟩, W⟩
  have H := AO (Bn hb) H
  rw [hb] at F
  clear hb
  iterate 5 refine C1 F Aa Aa Aa Aa Aa Aa Aa fun a F => ?_
  refine ls F W Aa (Ax F Aa Aa Aa).q fun a w F W => ?_
  refine ls F W Aa (Ad F Aa).q fun a w F W => ?_
  iterate 5 refine C1 F Aa Aa Aa Aa Aa Aa Aa fun a F => ?_
  refine ls F W Aa (Ax F Aa Aa Aa).q fun a w F W => ?_
  refine ls F W Aa (Af F Aa).q fun a w F W => ?_
  refine Ae (Ab ?_)
  have W := W.frontM (i := 1) Aa Aa
  have W := W.frontM (i := 1) Aa Aa
  exact ⟨_, H, F.re ⟨rfl, trivial⟩, W⟩
 rintro a w ⟨x1, hj, F, W⟩
 have hj := AQ hj
 subst hj
 have H := K1
 clear G1 K1
 refine AF ?_
 have H := AQ H
 subst H
 refine Bj (.inl Aa) F W Aa (AD F Aa) ?_
 exact ⟨rfl, W.done⟩
theorem We : type_of% Try.underlying4 := Try.underlying4
theorem Vu : Has Try.prog 33 := ⟨fun args w => Al Try.func33 rfl (by decide) args w⟩
noncomputable def Jw (p0 : Int × (Int × (Int × (Int × Int × Int × Int) × (Int × Int × Int × Int)) × (List (Int × Int × Int))) × Bool) (p1 : Int × (Int × (Int × (Int × Int × Int × Int) × (Int × Int × Int × Int)) × (List (Int × Int × Int))) × Bool) : Option Bool := (if p0.1 = p1.1 then (if p0.2.2 = p1.2.2 then (KE p0.2.1 p1.2.1).bind fun x2 => some x2 else some false) else some false).bind fun x1 => some x1
theorem O5 (Y : Nat → Prop) (w0 : World) (v1 : Value) (v2 : Value) (p0 : Int × (Int × (Int × (Int × Int × Int × Int) × (Int × Int × Int × Int)) × (List (Int × Int × Int))) × Bool) (p1 : Int × (Int × (Int × (Int × Int × Int × Int) × (Int × Int × Int × Int)) × (List (Int × Int × Int))) × Bool) (r : Bool) (H : Jw p0 p1 = some r) (h_v1 : Sl w0 (NX []) M7 v1 p0.2.1.2.2) (h_v2 : Sl w0 (NX []) M7 v2 p1.2.1.2.2) :
    Calls Try.prog 17 #[.agg #[.int .i64 p0.1, .int .i64 p0.2.1.1, .int .i64 p0.2.1.2.1.1, .int .i64 p0.2.1.2.1.2.1.1, .int .i64 p0.2.1.2.1.2.1.2.1, .int .i64 p0.2.1.2.1.2.1.2.2.1, .int .i64 p0.2.1.2.1.2.1.2.2.2, .int .i64 p0.2.1.2.1.2.2.1, .int .i64 p0.2.1.2.1.2.2.2.1, .int .i64 p0.2.1.2.1.2.2.2.2.1, .int .i64 p0.2.1.2.1.2.2.2.2.2, v1, .bool p0.2.2], .agg #[.int .i64 p1.1, .int .i64 p1.2.1.1, .int .i64 p1.2.1.2.1.1, .int .i64 p1.2.1.2.1.2.1.1, .int .i64 p1.2.1.2.1.2.1.2.1, .int .i64 p1.2.1.2.1.2.1.2.2.1, .int .i64 p1.2.1.2.1.2.1.2.2.2, .int .i64 p1.2.1.2.1.2.2.1, .int .i64 p1.2.1.2.1.2.2.2.1, .int .i64 p1.2.1.2.1.2.2.2.2.1, .int .i64 p1.2.1.2.1.2.2.2.2.2, v2, .bool p1.2.2]] w0 fun e w' => e = .returned (.bool r) ∧ Below w0.heap.size w0 w' := by
 refine enter Try.func17 Aa Try.ntmps17 Aa fun a F => ?_
 have W := Stw.start Y w0
 unfold Jw at H
 refine Ah (Ac ?_)
 refine EQ (cs := [.int .i64 p0.1, .int .i64 p0.2.1.1, .int .i64 p0.2.1.2.1.1, .int .i64 p0.2.1.2.1.2.1.1, .int .i64 p0.2.1.2.1.2.1.2.1, .int .i64 p0.2.1.2.1.2.1.2.2.1, .int .i64 p0.2.1.2.1.2.1.2.2.2, .int .i64 p0.2.1.2.1.2.2.1, .int .i64 p0.2.1.2.1.2.2.2.1, .int .i64 p0.2.1.2.1.2.2.2.2.1, .int .i64 p0.2.1.2.1.2.2.2.2.2, v1, .bool p0.2.2]) F W Aa Aa Aa fun b1 a w F W => ?_
 refine EQ (cs := [.int .i64 p1.1, .int .i64 p1.2.1.1, .int .i64 p1.2.1.2.1.1, .int .i64 p1.2.1.2.1.2.1.1, .int .i64 p1.2.1.2.1.2.1.2.1, .int .i64 p1.2.1.2.1.2.1.2.2.1, .int .i64 p1.2.1.2.1.2.1.2.2.2, .int .i64 p1.2.1.2.1.2.2.1, .int .i64 p1.2.1.2.1.2.2.2.1, .int .i64 p1.2.1.2.1.2.2.2.2.1, .int .i64 p1.2.1.2.1.2.2.2.2.2, v2, .bool p1.2.2]) F W Aa Aa Aa fun b2 a w F W => ?_
 refine ls F W Aa (Af F Aa).q fun a w F W => ?_
 refine Ae (Ab ?_)
 obtain ⟨o1, G1, K1⟩ := Ak H
 refine AK (fun a w => ∃ x1 : Bool, some (x1) = some o1 ∧ Fr 24 [] [(4, .bool x1)] a ∧ Stw ⟨Y, [], w0⟩ [(b2, [.int .i64 p1.1, .int .i64 p1.2.1.1, .int .i64 p1.2.1.2.1.1, .int .i64 p1.2.1.2.1.2.1.1, .int .i64 p1.2.1.2.1.2.1.2.1, .int .i64 p1.2.1.2.1.2.1.2.2.1, .int .i64 p1.2.1.2.1.2.1.2.2.2, .int .i64 p1.2.1.2.1.2.2.1, .int .i64 p1.2.1.2.1.2.2.2.1, .int .i64 p1.2.1.2.1.2.2.2.2.1, .int .i64 p1.2.1.2.1.2.2.2.2.2, v2, .bool p1.2.2]), (b1, [.int .i64 p0.1, .int .i64 p0.2.1.1, .int .i64 p0.2.1.2.1.1, .int .i64 p0.2.1.2.1.2.1.1, .int .i64 p0.2.1.2.1.2.1.2.1, .int .i64 p0.2.1.2.1.2.1.2.2.1, .int .i64 p0.2.1.2.1.2.1.2.2.2, .int .i64 p0.2.1.2.1.2.2.1, .int .i64 p0.2.1.2.1.2.2.2.1, .int .i64 p0.2.1.2.1.2.2.2.2.1, .int .i64 p0.2.1.2.1.2.2.2.2.2, v1, .bool p0.2.2])] [] w) ?_ ?_
 ·
  have H := G1
  clear G1 K1
  refine Ac ?_
  refine ls F W Aa (Am Pf Aa Aa Aa T3 F Aa 0 Aa).q fun a w F W => ?_
  refine ls F W Aa (AB (v := Value.int .i64 p0.1) 1 F Aa Aa T3 Aa).q fun a w F W => ?_
  refine ls F W Aa (Am Pf Aa Aa Aa T3 F Aa 0 Aa).q fun a w F W => ?_
  refine ls F W Aa (AB (v := Value.int .i64 p1.1) 0 F Aa Aa T3 Aa).q fun a w F W => ?_
  refine ls F W Aa (Dl F Aa Aa).q fun a w F W => ?_
  refine ls F W Aa (Ad F Aa).q fun a w F W => ?_
  rcases Bool.eq_false_or_eq_true (decide (p0.1 = p1.1)) with hb | hb
  ·
   have H := AP (Bm hb) H
   rw [hb] at F
   clear hb
   refine AR F W (Ag F Aa Aa Aa Aa) Aa (An Aa) (Am Pf Aa Aa Aa T4 F Aa 12 Aa).q fun a w F W => ?_
   refine AR F W (Ag F Aa Aa Aa Aa) Aa (An Aa) (AB (v := Value.bool p0.2.2) 1 F Aa Aa T4 Aa).q fun a w F W => ?_
   refine AR F W (Ag F Aa Aa Aa Aa) Aa (An Aa) (Am Pf Aa Aa Aa T4 F Aa 12 Aa).q fun a w F W => ?_
   refine AR F W (Ag F Aa Aa Aa Aa) Aa (An Aa) (AB (v := Value.bool p1.2.2) 0 F Aa Aa T4 Aa).q fun a w F W => ?_
   refine AR F W (Ag F Aa Aa Aa Aa) Aa (An Aa) (TC We F Aa Aa).q fun a w F W => ?_
   refine ls F W Aa (Av F Aa Aa Aa).q fun a w F W => ?_
   refine ls F W Aa (Ad F Aa).q fun a w F W => ?_
   rcases Bool.eq_false_or_eq_true (decide (p0.2.2 = p1.2.2)) with hb | hb
   ·
    have H := AP (Bm hb) H
    rw [hb] at F
    clear hb
    refine AR F W (Ag F Aa Aa Aa Aa) Aa (An Aa) (Am Pf Aa Aa Aa SZ F Aa 1 Aa).q fun a w F W => ?_
    refine AR F W (Ag F Aa Aa Aa Aa) Aa (An Aa) (AB (v := Value.agg #[.int .i64 p0.2.1.1, .int .i64 p0.2.1.2.1.1, .int .i64 p0.2.1.2.1.2.1.1, .int .i64 p0.2.1.2.1.2.1.2.1, .int .i64 p0.2.1.2.1.2.1.2.2.1, .int .i64 p0.2.1.2.1.2.1.2.2.2, .int .i64 p0.2.1.2.1.2.2.1, .int .i64 p0.2.1.2.1.2.2.2.1, .int .i64 p0.2.1.2.1.2.2.2.2.1, .int .i64 p0.2.1.2.1.2.2.2.2.2, v1]) 1 F Aa Aa SZ Aa).q fun a w F W => ?_
    refine AR F W (Ag F Aa Aa Aa Aa) Aa (An Aa) (Am Pf Aa Aa Aa SZ F Aa 1 Aa).q fun a w F W => ?_
    refine AR F W (Ag F Aa Aa Aa Aa) Aa (An Aa) (AB (v := Value.agg #[.int .i64 p1.2.1.1, .int .i64 p1.2.1.2.1.1, .int .i64 p1.2.1.2.1.2.1.1, .int .i64 p1.2.1.2.1.2.1.2.1, .int .i64 p1.2.1.2.1.2.1.2.2.1, .int .i64 p1.2.1.2.1.2.1.2.2.2, .int .i64 p1.2.1.2.1.2.2.1, .int .i64 p1.2.1.2.1.2.2.2.1, .int .i64 p1.2.1.2.1.2.2.2.2.1, .int .i64 p1.2.1.2.1.2.2.2.2.2, v2]) 0 F Aa Aa SZ Aa).q fun a w F W => ?_
    refine IQ (Ag F Aa Aa Aa Aa) ?_
    obtain ⟨x2, h1, H⟩ := Ak H
    refine ls F W Aa (BR (v := Value.bool x2) F Vu Aa (fun w W => Pq any w (v1) (v2) p0.2.1 p1.2.1 _ h1 (((Ap h_v1) : EM _ _ _ _ _ _) w W).nx (((Ap h_v2) : EM _ _ _ _ _ _) w W).nx)) fun a w F W => ?_
    refine ls F W Aa (Av F Aa Aa Aa).q fun a w F W => ?_
    refine ls F W Aa (Af F Aa).q fun a w F W => ?_
    refine Ae (Ab ?_)
    have W := W.frontM (i := 1) Aa Aa
    have W := W.frontM (i := 1) Aa Aa
    exact ⟨_, H, F.re ⟨rfl, trivial⟩, W⟩
   have H := AO (Bn hb) H
   rw [hb] at F
   clear hb
   iterate 5 refine C1 F Aa Aa Aa Aa Aa Aa Aa fun a F => ?_
   refine ls F W Aa (Ax F Aa Aa Aa).q fun a w F W => ?_
   refine ls F W Aa (Af F Aa).q fun a w F W => ?_
   refine Ae (Ab ?_)
   have W := W.frontM (i := 1) Aa Aa
   have W := W.frontM (i := 1) Aa Aa
   exact ⟨_, H, F.re ⟨rfl, trivial⟩, W⟩
  have H := AO (Bn hb) H
  rw [hb] at F
  clear hb
  iterate 5 refine C1 F Aa Aa Aa Aa Aa Aa Aa fun a F => ?_
  refine ls F W Aa (Ax F Aa Aa Aa).q fun a w F W => ?_
  refine ls F W Aa (Ad F Aa).q fun a w F W => ?_
  iterate 5 refine C1 F Aa Aa Aa Aa Aa Aa Aa fun a F => ?_
  refine ls F W Aa (Ax F Aa Aa Aa).q fun a w F W => ?_
  refine ls F W Aa (Af F Aa).q fun a w F W => ?_
  refine Ae (Ab ?_)
  have W := W.frontM (i := 1) Aa Aa
  have W := W.frontM (i := 1) Aa Aa
  exact ⟨_, H, F.re ⟨rfl, trivial⟩, W⟩
 rintro a w ⟨x1, hj, F, W⟩
 have hj := AQ hj
 subst hj
 have H := K1
 clear G1 K1
 refine AF ?_
 have H := AQ H
 subst H
 refine Bj (.inl Aa) F W Aa (AD F Aa) ?_
 exact ⟨rfl, W.done⟩
theorem VT : Has Try.prog 17 := ⟨fun args w => Al Try.func17 rfl (by decide) args w⟩
noncomputable def Hj (p0 : List (Int × (Int × (Int × (Int × Int × Int × Int) × (Int × Int × Int × Int)) × (List (Int × Int × Int))) × Bool)) (p1 : List (Int × (Int × (Int × (Int × Int × Int × Int) × (Int × Int × Int × Int)) × (List (Int × Int × Int))) × Bool)) : Int → Option (Int ⊕ (Unit ⊕ Bool))
  | x1 => (if x1 < (p0.length : Int) then (ix p0 x1).bind fun x2 => (ix p1 x1).bind fun x3 => (Jw x2 x3).bind fun x4 => (if (!x4) = true then some (.inr (.inr false)) else some (.inl (Az (x1 + 1)))) else some (.inr (.inl ())))
noncomputable def Ie (p0 : List (Int × (Int × (Int × (Int × Int × Int × Int) × (Int × Int × Int × Int)) × (List (Int × Int × Int))) × Bool)) (p1 : List (Int × (Int × (Int × (Int × Int × Int × Int) × (Int × Int × Int × Int)) × (List (Int × Int × Int))) × Bool)) : Option Bool := (if (p0.length : Int) ≠ (p1.length : Int) then some false else FO (AH (Hj p0 p1) 0) fun _ => some true)
theorem OZ (Y : Nat → Prop) (w0 : World) (v1 : Value) (v2 : Value) (p0 : List (Int × (Int × (Int × (Int × Int × Int × Int) × (Int × Int × Int × Int)) × (List (Int × Int × Int))) × Bool)) (p1 : List (Int × (Int × (Int × (Int × Int × Int × Int) × (Int × Int × Int × Int)) × (List (Int × Int × Int))) × Bool)) (r : Bool) (H : Ie p0 p1 = some r) (h_v1 : Sl w0 (NX []) Kb v1 p0) (h_v2 : Sl w0 (NX []) Kb v2 p1) :
    Calls Try.prog 8 #[v1, v2] w0 fun e w' => e = .returned (.bool r) ∧ Below w0.heap.size w0 w' := by
 refine enter Try.func8 Aa Try.ntmps8 Aa fun a F => ?_
 have W := Stw.start Y w0
 obtain ⟨v3, h1, h_v1⟩ := h_v1.ex JL
 obtain ⟨v4, h2, h_v2⟩ := h_v2.ex JL
 unfold Ie at H
 refine Ah (Ac ?_)
 refine ls F W Aa (Af F Aa).q fun a w F W => ?_
 refine Ae (Ab (Ah (Ah (Ac ?_))))
 refine ls F W Aa (Ad F Aa).q fun a w F W => ?_
 refine ls F W Aa (B1 (r := Kb) (l := p0) Qa Aa F Aa (Cb JL h1 (Ap h_v1))).q fun a w F W => ?_
 refine ls F W Aa (Ad F Aa).q fun a w F W => ?_
 refine ls F W Aa (B1 (r := Kb) (l := p1) Qa Aa F Aa (Cb JL h2 (Ap h_v2))).q fun a w F W => ?_
 refine ls F W Aa (Hq F Aa Aa).q fun a w F W => ?_
 refine Ae (Ab ?_)
 refine Ay F Aa (fun hb => ?_) fun hb => ?_
 ·
  have H := AP (Bm hb) H
  rw [hb] at F
  clear hb
  refine Ah (Ac ?_)
  refine ls F W Aa (Af F Aa).q fun a w F W => ?_
  refine Ae (Ab (AF (AN ?_)))
  have H := AQ H
  subst H
  refine Bj (.inl Aa) F W Aa (AD F Aa) ?_
  exact ⟨rfl, W.done⟩
 have H := AO (Bn hb) H
 rw [hb] at F
 clear hb
 refine Aq (Ab ?_)
 obtain ⟨o1, G1, K1, L1⟩ := JX H
 refine AK (fun a w => some (Sum.inl ()) = some o1 ∧ Fr 27 [] [(4, .bool false)] a ∧ Stw ⟨Y, [], w0⟩ [] [] w) ?_ ?_
 ·
  have H := G1
  clear G1 K1
  refine Ah (Ac ?_)
  refine ls F W Aa (Af F Aa).q fun a w F W => ?_
  refine Ae (Ab (As ?_))
  refine Bh H (fun s a w => Fr 27 [] [(0, v1), (1, v2), (4, .bool false), (5, .int .i64 s)] a ∧ Stw ⟨Y, [], w0⟩ [] [] w) ⟨F.re ⟨rfl, Aa, Aa, Aa, trivial⟩, W⟩ fun s o a w H L2 hR => ?_
  obtain ⟨x1, rfl⟩ : ∃ x, x = s := ⟨s, rfl⟩
  obtain ⟨F, W⟩ := hR
  have F : Fr 27 [] [(0, v1), (1, v2), (4, .bool false), (5, .int .i64 x1)] a := F
  have W : Stw ⟨Y, [], w0⟩ [] [] w := W
  rw [Hj] at H
  refine Ah (Ah (Ac ?_))
  iterate 2 refine ls F W Aa (Ad F Aa).q fun a w F W => ?_
  refine ls F W Aa (B1 (r := Kb) (l := p0) Qa Aa F Aa (Cb JL h1 (Ap h_v1))).q fun a w F W => ?_
  refine ls F W Aa (BI F Aa Aa).q fun a w F W => ?_
  refine Ae (Ab ?_)
  refine Ay F Aa (fun hb => ?_) fun hb => ?_
  ·
   have H := AP (Bm hb) H
   rw [hb] at F
   clear hb
   refine Aq (Ab (Ah (As (Ah ?_))))
   refine BS W MO (by kernel_rfl) ?_
   iterate 2 refine qs F Aa (Ad F Aa).q fun a F => ?_
   obtain ⟨x2, h3, H⟩ := Ak H
   obtain ⟨v5, h4, h5⟩ := EK h1 h3
   have h6 : Q9 v5 = [.int .i64 x2.1, .int .i64 x2.2.1.1, .int .i64 x2.2.1.2.1.1, .int .i64 x2.2.1.2.1.2.1.1, .int .i64 x2.2.1.2.1.2.1.2.1, .int .i64 x2.2.1.2.1.2.1.2.2.1, .int .i64 x2.2.1.2.1.2.1.2.2.2, .int .i64 x2.2.1.2.1.2.2.1, .int .i64 x2.2.1.2.1.2.2.2.1, .int .i64 x2.2.1.2.1.2.2.2.2.1, .int .i64 x2.2.1.2.1.2.2.2.2.2, (v5.2.1.2.2.1), .bool x2.2.2] := congrArg (fun q : Int × (Int × (Int × (Int × Int × Int × Int) × (Int × Int × Int × Int)) × (List (Int × Int × Int))) × Bool => ([.int .i64 q.1, .int .i64 q.2.1.1, .int .i64 q.2.1.2.1.1, .int .i64 q.2.1.2.1.2.1.1, .int .i64 q.2.1.2.1.2.1.2.1, .int .i64 q.2.1.2.1.2.1.2.2.1, .int .i64 q.2.1.2.1.2.1.2.2.2, .int .i64 q.2.1.2.1.2.2.1, .int .i64 q.2.1.2.1.2.2.2.1, .int .i64 q.2.1.2.1.2.2.2.2.1, .int .i64 q.2.1.2.1.2.2.2.2.2, (v5.2.1.2.2.1), .bool q.2.2] : List Value)) h5
   refine qs F Aa (AC (r := Rq) TL F Aa Aa (Ap h_v1) h4).q fun a F => ?_
   refine qs F Aa (Ao (y := Value.agg #[.int .i64 x2.1, .int .i64 x2.2.1.1, .int .i64 x2.2.1.2.1.1, .int .i64 x2.2.1.2.1.2.1.1, .int .i64 x2.2.1.2.1.2.1.2.1, .int .i64 x2.2.1.2.1.2.1.2.2.1, .int .i64 x2.2.1.2.1.2.1.2.2.2, .int .i64 x2.2.1.2.1.2.2.1, .int .i64 x2.2.1.2.1.2.2.2.1, .int .i64 x2.2.1.2.1.2.2.2.2.1, .int .i64 x2.2.1.2.1.2.2.2.2.2, (v5.2.1.2.2.1), .bool x2.2.2]) (j := 0) (i := x1) (enc := Q9) F Aa Aa (Ap h_v1) h4 Tb UJ (by rw [h6]; rfl)).q fun a F => ?_
   iterate 2 refine qs F Aa (Ad F Aa).q fun a F => ?_
   obtain ⟨x3, h7, H⟩ := Ak H
   obtain ⟨v6, h8, h9⟩ := EK h2 h7
   have h10 : Q9 v6 = [.int .i64 x3.1, .int .i64 x3.2.1.1, .int .i64 x3.2.1.2.1.1, .int .i64 x3.2.1.2.1.2.1.1, .int .i64 x3.2.1.2.1.2.1.2.1, .int .i64 x3.2.1.2.1.2.1.2.2.1, .int .i64 x3.2.1.2.1.2.1.2.2.2, .int .i64 x3.2.1.2.1.2.2.1, .int .i64 x3.2.1.2.1.2.2.2.1, .int .i64 x3.2.1.2.1.2.2.2.2.1, .int .i64 x3.2.1.2.1.2.2.2.2.2, (v6.2.1.2.2.1), .bool x3.2.2] := congrArg (fun q : Int × (Int × (Int × (Int × Int × Int × Int) × (Int × Int × Int × Int)) × (List (Int × Int × Int))) × Bool => ([.int .i64 q.1, .int .i64 q.2.1.1, .int .i64 q.2.1.2.1.1, .int .i64 q.2.1.2.1.2.1.1, .int .i64 q.2.1.2.1.2.1.2.1, .int .i64 q.2.1.2.1.2.1.2.2.1, .int .i64 q.2.1.2.1.2.1.2.2.2, .int .i64 q.2.1.2.1.2.2.1, .int .i64 q.2.1.2.1.2.2.2.1, .int .i64 q.2.1.2.1.2.2.2.2.1, .int .i64 q.2.1.2.1.2.2.2.2.2, (v6.2.1.2.2.1), .bool q.2.2] : List Value)) h9
   refine qs F Aa (AC (r := Rq) TL F Aa Aa (Ap h_v2) h8).q fun a F => ?_
   refine qs F Aa (Ao (y := Value.agg #[.int .i64 x3.1, .int .i64 x3.2.1.1, .int .i64 x3.2.1.2.1.1, .int .i64 x3.2.1.2.1.2.1.1, .int .i64 x3.2.1.2.1.2.1.2.1, .int .i64 x3.2.1.2.1.2.1.2.2.1, .int .i64 x3.2.1.2.1.2.1.2.2.2, .int .i64 x3.2.1.2.1.2.2.1, .int .i64 x3.2.1.2.1.2.2.2.1, .int .i64 x3.2.1.2.1.2.2.2.2.1, .int .i64 x3.2.1.2.1.2.2.2.2.2, (v6.2.1.2.2.1), .bool x3.2.2]) (j := 0) (i := x1) (enc := Q9) F Aa Aa (Ap h_v2) h8 Tb UJ (by rw [h10]; rfl)).q fun a F => ?_
   obtain ⟨x4, h11, H⟩ := Ak H
   refine qs F Aa (BR (v := Value.bool x4) F VT Aa (fun w W => O5 any w ((v5.2.1.2.2.1)) ((v6.2.1.2.2.1)) x2 x3 _ h11 (((D2 (Ap h_v1) h4 (Cu.snd (Cu.fst (Cu.snd (Cu.snd Cu.here)))) (congrArg (fun q : Int × (Int × (Int × (Int × Int × Int × Int) × (Int × Int × Int × Int)) × (List (Int × Int × Int))) × Bool => q.2.1.2.2) h5)) : EM _ _ _ _ _ _) w W).nx (((D2 (Ap h_v2) h8 (Cu.snd (Cu.fst (Cu.snd (Cu.snd Cu.here)))) (congrArg (fun q : Int × (Int × (Int × (Int × Int × Int × Int) × (Int × Int × Int × Int)) × (List (Int × Int × Int))) × Bool => q.2.1.2.2) h9)) : EM _ _ _ _ _ _) w W).nx)) fun a F => ?_
   refine qs F Aa (ED F Aa).q fun a F => ?_
   refine A0 fun w W => ?_
   refine Ab ?_
   refine Ay F Aa (fun hb => ?_) fun hb => ?_
   ·
    have H := AP hb H
    rw [hb] at F
    clear hb
    refine Ah (Ac ?_)
    refine ls F W Aa (Af F Aa).q fun a w F W => ?_
    refine Ae (Ab (AF (A3 ?_)))
    iterate 2 refine AN ?_
    refine A3 (AN ?_)
    have H := L2 _ H
    have H := L1 _ H
    have H := AQ H
    subst H
    refine Bj (.inl Aa) F W Aa (AD F Aa) ?_
    exact ⟨rfl, W.done⟩
   have H := AO (by rw [hb]; decide) H
   rw [hb] at F
   clear hb
   refine Aq (AM (Ab (Ac ?_)))
   refine ls F W Aa (Ad F Aa).q fun a w F W => ?_
   refine ls F W Aa (Bp F Aa Aa Aa).q fun a w F W => ?_
   refine ls F W Aa (Af F Aa).q fun a w F W => ?_
   refine Ae (Ab ?_)
   exact ⟨_, H, F.re ⟨rfl, Aa, Aa, Aa, trivial⟩, W⟩
  have H := AO (Bn hb) H
  rw [hb] at F
  clear hb
  refine A5 ?_
  iterate 2 refine Bk ?_
  refine A6 (Ab ?_)
  have H := L2 _ H
  exact ⟨H, F.re ⟨rfl, trivial⟩, W⟩
 rintro a w ⟨hj, F, W⟩
 have H := K1 _ hj
 clear hj G1 K1 L1
 refine Ah (Ac ?_)
 refine ls F W Aa (Af F Aa).q fun a w F W => ?_
 refine Ae (Ab (AF ?_))
 have H := AQ H
 subst H
 refine Bj (.inl Aa) F W Aa (AD F Aa) ?_
 exact ⟨rfl, W.done⟩
theorem H8 : Has Try.prog 8 := ⟨fun args w => Al Try.func8 rfl (by decide) args w⟩
theorem Wa : Has Try.prog 11 := ⟨fun args w => Al Try.func11 rfl (by decide) args w⟩
noncomputable def Hl (p0 : List Int) (p1 : List Int) : Int → Option (Int ⊕ (Unit ⊕ Bool))
  | x1 => (if x1 < (p0.length : Int) then (ix p0 x1).bind fun x2 => (ix p1 x1).bind fun x3 => (if x2 ≠ x3 then some (.inr (.inr false)) else some (.inl (Az (x1 + 1)))) else some (.inr (.inl ())))
noncomputable def Jj (p0 : List Int) (p1 : List Int) : Option Bool := (if (p0.length : Int) ≠ (p1.length : Int) then some false else FO (AH (Hl p0 p1) 0) fun _ => some true)
theorem Pd (Y : Nat → Prop) (w0 : World) (v1 : Value) (v2 : Value) (p0 : List Int) (p1 : List Int) (r : Bool) (H : Jj p0 p1 = some r) (h_v1 : Sl w0 (NX []) (Rp.int .i64) v1 p0) (h_v2 : Sl w0 (NX []) (Rp.int .i64) v2 p1) :
    Calls Try.prog 19 #[v1, v2] w0 fun e w' => e = .returned (.bool r) ∧ Below w0.heap.size w0 w' := by
 refine enter Try.func19 Aa Try.ntmps19 Aa fun a F => ?_
 have W := Stw.start Y w0
 unfold Jj at H
 refine Ah (Ac ?_)
 refine ls F W Aa (Af F Aa).q fun a w F W => ?_
 refine Ae (Ab (Ah (Ah (Ac ?_))))
 refine ls F W Aa (Ad F Aa).q fun a w F W => ?_
 refine ls F W Aa (B1 (r := (Rp.int .i64)) (l := p0) Hu Aa F Aa (Ap h_v1)).q fun a w F W => ?_
 refine ls F W Aa (Ad F Aa).q fun a w F W => ?_
 refine ls F W Aa (B1 (r := (Rp.int .i64)) (l := p1) Hu Aa F Aa (Ap h_v2)).q fun a w F W => ?_
 refine ls F W Aa (Hq F Aa Aa).q fun a w F W => ?_
 refine Ae (Ab ?_)
 refine Ay F Aa (fun hb => ?_) fun hb => ?_
 ·
  have H := AP (Bm hb) H
  rw [hb] at F
  clear hb
  refine Ah (Ac ?_)
  refine ls F W Aa (Af F Aa).q fun a w F W => ?_
  refine Ae (Ab (AF (AN ?_)))
  have H := AQ H
  subst H
  refine Bj (.inl Aa) F W Aa (AD F Aa) ?_
  exact ⟨rfl, W.done⟩
 have H := AO (Bn hb) H
 rw [hb] at F
 clear hb
 refine Aq (Ab ?_)
 obtain ⟨o1, G1, K1, L1⟩ := JX H
 refine AK (fun a w => some (Sum.inl ()) = some o1 ∧ Fr 26 [] [(4, .bool false)] a ∧ Stw ⟨Y, [], w0⟩ [] [] w) ?_ ?_
 ·
  have H := G1
  clear G1 K1
  refine Ah (Ac ?_)
  refine ls F W Aa (Af F Aa).q fun a w F W => ?_
  refine Ae (Ab (As ?_))
  refine Bh H (fun s a w => Fr 26 [] [(0, v1), (1, v2), (4, .bool false), (5, .int .i64 s)] a ∧ Stw ⟨Y, [], w0⟩ [] [] w) ⟨F.re ⟨rfl, Aa, Aa, Aa, trivial⟩, W⟩ fun s o a w H L2 hR => ?_
  obtain ⟨x1, rfl⟩ : ∃ x, x = s := ⟨s, rfl⟩
  obtain ⟨F, W⟩ := hR
  have F : Fr 26 [] [(0, v1), (1, v2), (4, .bool false), (5, .int .i64 x1)] a := F
  have W : Stw ⟨Y, [], w0⟩ [] [] w := W
  rw [Hl] at H
  refine Ah (Ah (Ac ?_))
  iterate 2 refine ls F W Aa (Ad F Aa).q fun a w F W => ?_
  refine ls F W Aa (B1 (r := (Rp.int .i64)) (l := p0) Hu Aa F Aa (Ap h_v1)).q fun a w F W => ?_
  refine ls F W Aa (BI F Aa Aa).q fun a w F W => ?_
  refine Ae (Ab ?_)
  refine Ay F Aa (fun hb => ?_) fun hb => ?_
  ·
   have H := AP (Bm hb) H
   rw [hb] at F
   clear hb
   refine Aq (Ab (Ah (As (Ah ?_))))
   refine BS W MO (by kernel_rfl) ?_
   iterate 2 refine qs F Aa (Ad F Aa).q fun a F => ?_
   obtain ⟨x2, h1, H⟩ := Ak H
   refine qs F Aa (AC (r := (Rp.int .i64)) EH F Aa Aa (Ap h_v1) h1).q fun a F => ?_
   refine qs F Aa (Ao (y := Value.int .i64 x2) (j := 0) (i := x1) F Aa Aa (Ap h_v1) h1 Fl.int.to T3 Aa).q fun a F => ?_
   iterate 2 refine qs F Aa (Ad F Aa).q fun a F => ?_
   obtain ⟨x3, h2, H⟩ := Ak H
   refine qs F Aa (AC (r := (Rp.int .i64)) EH F Aa Aa (Ap h_v2) h2).q fun a F => ?_
   refine qs F Aa (Ao (y := Value.int .i64 x3) (j := 0) (i := x1) F Aa Aa (Ap h_v2) h2 Fl.int.to T3 Aa).q fun a F => ?_
   refine qs F Aa (Hq F Aa Aa).q fun a F => ?_
   refine A0 fun w W => ?_
   refine Ab ?_
   refine Ay F Aa (fun hb => ?_) fun hb => ?_
   ·
    have H := AP (Bm hb) H
    rw [hb] at F
    clear hb
    refine Ah (Ac ?_)
    refine ls F W Aa (Af F Aa).q fun a w F W => ?_
    refine Ae (Ab (AF (A3 ?_)))
    iterate 2 refine AN ?_
    refine A3 (AN ?_)
    have H := L2 _ H
    have H := L1 _ H
    have H := AQ H
    subst H
    refine Bj (.inl Aa) F W Aa (AD F Aa) ?_
    exact ⟨rfl, W.done⟩
   have H := AO (Bn hb) H
   rw [hb] at F
   clear hb
   refine Aq (AM (Ab (Ac ?_)))
   refine ls F W Aa (Ad F Aa).q fun a w F W => ?_
   refine ls F W Aa (Bp F Aa Aa Aa).q fun a w F W => ?_
   refine ls F W Aa (Af F Aa).q fun a w F W => ?_
   refine Ae (Ab ?_)
   exact ⟨_, H, F.re ⟨rfl, Aa, Aa, Aa, trivial⟩, W⟩
  have H := AO (Bn hb) H
  rw [hb] at F
  clear hb
  refine A5 ?_
  iterate 2 refine Bk ?_
  refine A6 (Ab ?_)
  have H := L2 _ H
  exact ⟨H, F.re ⟨rfl, trivial⟩, W⟩
 rintro a w ⟨hj, F, W⟩
 have H := K1 _ hj
 clear hj G1 K1 L1
 refine Ah (Ac ?_)
 refine ls F W Aa (Af F Aa).q fun a w F W => ?_
 refine Ae (Ab (AF ?_))
 have H := AQ H
 subst H
 refine Bj (.inl Aa) F W Aa (AD F Aa) ?_
 exact ⟨rfl, W.done⟩
theorem V3 : Has Try.prog 19 := ⟨fun args w => Al Try.func19 rfl (by decide) args w⟩
noncomputable def Hg (p0 : List (List Int)) (p1 : List (List Int)) : Int → Option (Int ⊕ (Unit ⊕ Bool))
  | x1 => (if x1 < (p0.length : Int) then (ix p0 x1).bind fun x2 => (ix p1 x1).bind fun x3 => (Jj x2 x3).bind fun x4 => (if (!x4) = true then some (.inr (.inr false)) else some (.inl (Az (x1 + 1)))) else some (.inr (.inl ())))
noncomputable def Jn (p0 : List (List Int)) (p1 : List (List Int)) : Option Bool := (if (p0.length : Int) ≠ (p1.length : Int) then some false else FO (AH (Hg p0 p1) 0) fun _ => some true)
theorem Pg (Y : Nat → Prop) (w0 : World) (v1 : Value) (v2 : Value) (p0 : List (List Int)) (p1 : List (List Int)) (r : Bool) (H : Jn p0 p1 = some r) (h_v1 : Sl w0 (NX []) (Rp.slice (Rp.int .i64)) v1 p0) (h_v2 : Sl w0 (NX []) (Rp.slice (Rp.int .i64)) v2 p1) :
    Calls Try.prog 10 #[v1, v2] w0 fun e w' => e = .returned (.bool r) ∧ Below w0.heap.size w0 w' := by
 refine enter Try.func10 Aa Try.ntmps10 Aa fun a F => ?_
 have W := Stw.start Y w0
 obtain ⟨v3, h1, h_v1⟩ := h_v1.ex Er
 obtain ⟨v4, h2, h_v2⟩ := h_v2.ex Er
 unfold Jn at H
 refine Ah (Ac ?_)
 refine ls F W Aa (Af F Aa).q fun a w F W => ?_
 refine Ae (Ab (Ah (Ah (Ac ?_))))
 refine ls F W Aa (Ad F Aa).q fun a w F W => ?_
 refine ls F W Aa (B1 (r := (Rp.slice (Rp.int .i64))) (l := p0) Kw Aa F Aa (Cb Er h1 (Ap h_v1))).q fun a w F W => ?_
 refine ls F W Aa (Ad F Aa).q fun a w F W => ?_
 refine ls F W Aa (B1 (r := (Rp.slice (Rp.int .i64))) (l := p1) Kw Aa F Aa (Cb Er h2 (Ap h_v2))).q fun a w F W => ?_
 refine ls F W Aa (Hq F Aa Aa).q fun a w F W => ?_
 refine Ae (Ab ?_)
 refine Ay F Aa (fun hb => ?_) fun hb => ?_
 ·
  have H := AP (Bm hb) H
  rw [hb] at F
  clear hb
  refine Ah (Ac ?_)
  refine ls F W Aa (Af F Aa).q fun a w F W => ?_
  refine Ae (Ab (AF (AN ?_)))
  have H := AQ H
  subst H
  refine Bj (.inl Aa) F W Aa (AD F Aa) ?_
  exact ⟨rfl, W.done⟩
 have H := AO (Bn hb) H
 rw [hb] at F
 clear hb
 refine Aq (Ab ?_)
 obtain ⟨o1, G1, K1, L1⟩ := JX H
 refine AK (fun a w => some (Sum.inl ()) = some o1 ∧ Fr 27 [] [(4, .bool false)] a ∧ Stw ⟨Y, [], w0⟩ [] [] w) ?_ ?_
 ·
  have H := G1
  clear G1 K1
  refine Ah (Ac ?_)
  refine ls F W Aa (Af F Aa).q fun a w F W => ?_
  refine Ae (Ab (As ?_))
  refine Bh H (fun s a w => Fr 27 [] [(0, v1), (1, v2), (4, .bool false), (5, .int .i64 s)] a ∧ Stw ⟨Y, [], w0⟩ [] [] w) ⟨F.re ⟨rfl, Aa, Aa, Aa, trivial⟩, W⟩ fun s o a w H L2 hR => ?_
  obtain ⟨x1, rfl⟩ : ∃ x, x = s := ⟨s, rfl⟩
  obtain ⟨F, W⟩ := hR
  have F : Fr 27 [] [(0, v1), (1, v2), (4, .bool false), (5, .int .i64 x1)] a := F
  have W : Stw ⟨Y, [], w0⟩ [] [] w := W
  rw [Hg] at H
  refine Ah (Ah (Ac ?_))
  iterate 2 refine ls F W Aa (Ad F Aa).q fun a w F W => ?_
  refine ls F W Aa (B1 (r := (Rp.slice (Rp.int .i64))) (l := p0) Kw Aa F Aa (Cb Er h1 (Ap h_v1))).q fun a w F W => ?_
  refine ls F W Aa (BI F Aa Aa).q fun a w F W => ?_
  refine Ae (Ab ?_)
  refine Ay F Aa (fun hb => ?_) fun hb => ?_
  ·
   have H := AP (Bm hb) H
   rw [hb] at F
   clear hb
   refine Aq (Ab (Ah (As (Ah ?_))))
   refine BS W MO (by kernel_rfl) ?_
   iterate 2 refine qs F Aa (Ad F Aa).q fun a F => ?_
   obtain ⟨x2, h3, H⟩ := Ak H
   obtain ⟨v5, h4, h5⟩ := EK h1 h3
   have h6 : Ir v5 = [(v5.1)] := congrArg (fun q : List Int => ([(v5.1)] : List Value)) h5
   refine qs F Aa (AC (r := (Rp.vsl (Rp.int .i64))) N8 F Aa Aa (Ap h_v1) h4).q fun a F => ?_
   refine qs F Aa (Ao (y := (v5.1)) (j := 0) (i := x1) (enc := Ir) F Aa Aa (Ap h_v1) h4 MU J7 (by rw [h6]; rfl)).q fun a F => ?_
   iterate 2 refine qs F Aa (Ad F Aa).q fun a F => ?_
   obtain ⟨x3, h7, H⟩ := Ak H
   obtain ⟨v6, h8, h9⟩ := EK h2 h7
   have h10 : Ir v6 = [(v6.1)] := congrArg (fun q : List Int => ([(v6.1)] : List Value)) h9
   refine qs F Aa (AC (r := (Rp.vsl (Rp.int .i64))) N8 F Aa Aa (Ap h_v2) h8).q fun a F => ?_
   refine qs F Aa (Ao (y := (v6.1)) (j := 0) (i := x1) (enc := Ir) F Aa Aa (Ap h_v2) h8 MU J7 (by rw [h10]; rfl)).q fun a F => ?_
   obtain ⟨x4, h11, H⟩ := Ak H
   refine qs F Aa (BR (v := Value.bool x4) F V3 Aa (fun w W => Pd any w ((v5.1)) ((v6.1)) x2 x3 _ h11 (((D2 (Ap h_v1) h4 Cu.here (congrArg (fun q : List Int => q) h5)) : EM _ _ _ _ _ _) w W).nx (((D2 (Ap h_v2) h8 Cu.here (congrArg (fun q : List Int => q) h9)) : EM _ _ _ _ _ _) w W).nx)) fun a F => ?_
   refine qs F Aa (ED F Aa).q fun a F => ?_
   refine A0 fun w W => ?_
   refine Ab ?_
   refine Ay F Aa (fun hb => ?_) fun hb => ?_
   ·
    have H := AP hb H
    rw [hb] at F
    clear hb
    refine Ah (Ac ?_)
    refine ls F W Aa (Af F Aa).q fun a w F W => ?_
    refine Ae (Ab (AF (A3 ?_)))
    iterate 2 refine AN ?_
    refine A3 (AN ?_)
    have H := L2 _ H
    have H := L1 _ H
    have H := AQ H
    subst H
    refine Bj (.inl Aa) F W Aa (AD F Aa) ?_
    exact ⟨rfl, W.done⟩
   have H := AO (by rw [hb]; decide) H
   rw [hb] at F
   clear hb
   refine Aq (AM (Ab (Ac ?_)))
   refine ls F W Aa (Ad F Aa).q fun a w F W => ?_
   refine ls F W Aa (Bp F Aa Aa Aa).q fun a w F W => ?_
   refine ls F W Aa (Af F Aa).q fun a w F W => ?_
   refine Ae (Ab ?_)
   exact ⟨_, H, F.re ⟨rfl, Aa, Aa, Aa, trivial⟩, W⟩
  have H := AO (Bn hb) H
  rw [hb] at F
  clear hb
  refine A5 ?_
  iterate 2 refine Bk ?_
  refine A6 (Ab ?_)
  have H := L2 _ H
  exact ⟨H, F.re ⟨rfl, trivial⟩, W⟩
 rintro a w ⟨hj, F, W⟩
 have H := K1 _ hj
 clear hj G1 K1 L1
 refine Ah (Ac ?_)
 refine ls F W Aa (Af F Aa).q fun a w F W => ?_
 refine Ae (Ab (AF ?_))
 have H := AQ H
 subst H
 refine Bj (.inl Aa) F W Aa (AD F Aa) ?_
 exact ⟨rfl, W.done⟩
end Go.Proofs.Ytghpabmmdenaoaa
