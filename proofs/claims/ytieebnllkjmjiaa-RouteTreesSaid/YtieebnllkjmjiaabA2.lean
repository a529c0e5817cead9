/- The functions of layer 21, G0. Conditions: none. -/
import Derived.Test.YtieebnllkjmjiaabA1
namespace Go.Proofs.Ytieebnllkjmjiaa
open Go Go.RowKit
set_option linter.unusedVariables false
set_option linter.unusedSimpArgs false
set_option maxRecDepth 20000
theorem H9 : Has Try.prog 9 := ⟨fun args w => Aj Try.func9 rfl (by decide) args w⟩
noncomputable def DY  : Option Bool := (En (2, ([(0, 0, 1, 0, 1, 1)] : List (Int × Int × Int × Int × Int × Int)), ([(1, 5)] : List (Int × Int))) ([([0] : List Int), ([5] : List Int)] : List (List Int)) 0 0).bind fun x1 => (En (2, ([(0, 0, 1, 0, 1, 1)] : List (Int × Int × Int × Int × Int × Int)), ([(1, 5)] : List (Int × Int))) ([([0] : List Int), ([0] : List Int)] : List (List Int)) 0 0).bind fun x2 => (if x1.2 = 0 then (F9 x1.1 ([0, 1] : List Int)).bind fun x4 => (if x4 = true then (if x2.2 = 12 then (CS (2, ([(0, 0, 1, 0, 1, 1)] : List (Int × Int × Int × Int × Int × Int)), ([(1, 5)] : List (Int × Int))) ([([0] : List Int), ([5] : List Int)] : List (List Int))).bind fun x5 => (if x5 = true then (CS (2, ([(0, 0, 1, 0, 1, 1)] : List (Int × Int × Int × Int × Int × Int)), ([(1, 5)] : List (Int × Int))) ([([5] : List Int), ([5] : List Int)] : List (List Int))).bind fun x6 => some (!x6) else some false) else some false) else some false) else some false).bind fun x3 => some x3
theorem Gk (Y : Nat → Prop) (w0 : World)   (r : Bool) (H : DY  = some r)  :
    Calls Try.prog 6 #[] w0 fun e w' => e = .returned (.bool r) ∧ Below w0.heap.size w0 w' := by
 refine enter Try.func6 Aa Try.ntmps6 Aa fun a F => ?_
 have W := Stw.start Y w0
 unfold DY at H
 refine Ah (Ab ?_)
 refine ls F W Aa (Ae F Aa).q fun a w F W => ?_
 refine Ad (Ac (Ah (Ab ?_)))
 refine ls F W Aa (Dr (v := Value.agg #[.int .i64 0, .int .i64 0, .int .i64 1, .int .i64 0, .int .i64 1, .int .i64 1]) R0 F Aa Aa Aa).q fun a w F W => ?_
 refine Cr (z := Value.agg #[.int .i64 0, .int .i64 0, .int .i64 0, .int .i64 0, .int .i64 0, .int .i64 0]) (cs := [.int .i64 0, .int .i64 0, .int .i64 1, .int .i64 0, .int .i64 1, .int .i64 1]) Ev ([(0, 0, 1, 0, 1, 1)] : List (Int × Int × Int × Int × Int × Int)) F W Aa P9 Qw Aa Aa Aa Aa Aa Aa (P1.repL _ _ ([(0, 0, 1, 0, 1, 1)] : List (Int × Int × Int × Int × Int × Int))) fun v1 a w F W => ?_
 refine ls F W Aa (Dr (v := Value.agg #[.int .i64 1, .int .i64 5]) RL F Aa Aa Aa).q fun a w F W => ?_
 refine Cr (z := Value.agg #[.int .i64 0, .int .i64 0]) (cs := [.int .i64 1, .int .i64 5]) Ep ([(1, 5)] : List (Int × Int)) F W Aa Pl RG Aa Aa Aa Aa Aa Aa (Po.repL _ _ ([(1, 5)] : List (Int × Int))) fun v2 a w F W => ?_
 refine ls F W Aa (Dr (v := Value.agg #[.int .i64 2, v1, v2]) Sa F Aa (CH Aa Aa Aa (CH Aa (Cv (W.one (k := 1) Aa)) Aa (CH Aa (Cv (W.one (k := 0) Aa)) Aa Gm))) Aa).q fun a w F W => ?_
 refine CB (cs := [.int .i64 0, .slice none 0 0, .slice none 0 0]) F W Aa Sr Aa fun b1 a w F W => ?_
 refine C4 (vs := [.int .i64 2, v1, v2]) (M' := [(b1, [.int .i64 2, v1, v2])]) 0 F W Aa Aa Aa GI Aa Aa Aa (Jp Aa (Jp (W.one (k := 1) Aa) (Jp (W.one (k := 0) Aa) Pm))) Aa fun w W => ?_
 refine Ad (Ac (Ah (Ab ?_)))
 refine ls F W Aa (An (v := Value.agg #[.int .i64 2, v1, v2]) 0 F Aa Aa GI Aa).q fun a w F W => ?_
 refine Cr (z := Value.int .i64 0) (cs := [.int .i64 0]) (Rp.int .i64) ([0] : List Int) F W Aa EQ Z3 Aa Aa Aa Aa Aa Aa (Fl.int.repL _ _ ([0] : List Int)) fun v3 a w F W => ?_
 refine Cr (z := Value.int .i64 0) (cs := [.int .i64 5]) (Rp.int .i64) ([5] : List Int) F W Aa EQ Z3 Aa Aa Aa Aa Aa Aa (Fl.int.repL _ _ ([5] : List Int)) fun v4 a w F W => ?_
 have W := W.frontZ (i := 1) Aa Aa
 have W := W.freeze
 have W := W.frontZ (i := 1) Aa Aa
 have W := W.freeze
 refine Cr (z := Value.slice none 0 0) (cs := [v3, v4]) (Rp.slice (Rp.int .i64)) ([([0] : List Int), ([5] : List Int)] : List (List Int)) F W Aa Nx QE Aa Aa Aa (CH Aa (Cv (W.oneF (k := 1) Aa)) Aa (CH Aa (Cv (W.oneF (k := 0) Aa)) Aa Gm)) Aa Aa ⟨[v3], _, Aa, ⟨_, Aa, (W.item (i := 1) Aa)⟩, ⟨[v4], _, Aa, ⟨_, Aa, (W.item (i := 0) Aa)⟩, Aa⟩⟩ fun v5 a w F W => ?_
 obtain ⟨x1, h1, H⟩ := Am H
 refine BK (Ml := []) (Zl := []) (M := [(b1, [.int .i64 2, v1, v2])]) (Z := [row v5 37 (Rp.slice (Rp.int .i64)) ([([0] : List Int), ([5] : List Int)] : List (List Int)), HA v4 (Rp.int .i64) ([5] : List Int), HA v3 (Rp.int .i64) ([0] : List Int), row v2 43 Ep ([(1, 5)] : List (Int × Int)), row v1 41 Ev ([(0, 0, 1, 0, 1, 1)] : List (Int × Int × Int × Int × Int × Int))]) (β := Value) (rv := fun x => .tuple #[x, .int .i64 x1.2]) (MM := fun x => []) (ZZ := fun x => [row x 3 (Rp.int .i64) x1.1]) F W Ry Aa Aa (fun hL => HG _ w (v1) (v2) (v5) (2, ([(0, 0, 1, 0, 1, 1)] : List (Int × Int × Int × Int × Int × Int)), ([(1, 5)] : List (Int × Int))) ([([0] : List Int), ([5] : List Int)] : List (List Int)) 0 0 _ h1 ((Ax 4 Aa) w W).nx ((Ax 3 Aa) w W).nx ((Ax 0 Aa) w W).nx) fun x a w F W => ?_
 obtain ⟨v6, rfl⟩ : ∃ y, y = x := ⟨x, rfl⟩
 have W : Stw ⟨Y, [], w0⟩ [(b1, [.int .i64 2, v1, v2])] [row v6 3 (Rp.int .i64) x1.1, row v5 37 (Rp.slice (Rp.int .i64)) ([([0] : List Int), ([5] : List Int)] : List (List Int)), HA v4 (Rp.int .i64) ([5] : List Int), HA v3 (Rp.int .i64) ([0] : List Int), row v2 43 Ep ([(1, 5)] : List (Int × Int)), row v1 41 Ev ([(0, 0, 1, 0, 1, 1)] : List (Int × Int × Int × Int × Int × Int))] w := W
 refine ls F W Aa (Af F Aa).q fun a w F W => ?_
 refine ls F W Aa (Bc (v := v6) F Aa Aa).q fun a w F W => ?_
 refine ls F W Aa (Bc (v := Value.int .i64 x1.2) F Aa Aa).q fun a w F W => ?_
 iterate 2 refine ls F W Aa (Ae F Aa).q fun a w F W => ?_
 refine Ad (Ac (Ah (Ab ?_)))
 refine ls F W Aa (An (v := Value.agg #[.int .i64 2, v1, v2]) 0 F Aa Aa GI Aa).q fun a w F W => ?_
 refine Cr (z := Value.int .i64 0) (cs := [.int .i64 0]) (Rp.int .i64) ([0] : List Int) F W Aa EQ Z3 Aa Aa Aa Aa Aa Aa (Fl.int.repL _ _ ([0] : List Int)) fun v7 a w F W => ?_
 refine Cr (z := Value.int .i64 0) (cs := [.int .i64 0]) (Rp.int .i64) ([0] : List Int) F W Aa EQ Z3 Aa Aa Aa Aa Aa Aa (Fl.int.repL _ _ ([0] : List Int)) fun v8 a w F W => ?_
 have W := W.frontZ (i := 1) Aa Aa
 have W := W.freeze
 have W := W.frontZ (i := 1) Aa Aa
 have W := W.freeze
 refine Cr (z := Value.slice none 0 0) (cs := [v7, v8]) (Rp.slice (Rp.int .i64)) ([([0] : List Int), ([0] : List Int)] : List (List Int)) F W Aa Nx QE Aa Aa Aa (CH Aa (Cv (W.oneF (k := 1) Aa)) Aa (CH Aa (Cv (W.oneF (k := 0) Aa)) Aa Gm)) Aa Aa ⟨[v7], _, Aa, ⟨_, Aa, (W.item (i := 1) Aa)⟩, ⟨[v8], _, Aa, ⟨_, Aa, (W.item (i := 0) Aa)⟩, Aa⟩⟩ fun v9 a w F W => ?_
 obtain ⟨x2, h2, H⟩ := Am H
 refine BK (Ml := []) (Zl := []) (M := [(b1, [.int .i64 2, v1, v2])]) (Z := [row v9 37 (Rp.slice (Rp.int .i64)) ([([0] : List Int), ([0] : List Int)] : List (List Int)), HA v8 (Rp.int .i64) ([0] : List Int), HA v7 (Rp.int .i64) ([0] : List Int), row v6 3 (Rp.int .i64) x1.1, row v5 37 (Rp.slice (Rp.int .i64)) ([([0] : List Int), ([5] : List Int)] : List (List Int)), HA v4 (Rp.int .i64) ([5] : List Int), HA v3 (Rp.int .i64) ([0] : List Int), row v2 43 Ep ([(1, 5)] : List (Int × Int)), row v1 41 Ev ([(0, 0, 1, 0, 1, 1)] : List (Int × Int × Int × Int × Int × Int))]) (β := Value) (rv := fun x => .tuple #[x, .int .i64 x2.2]) (MM := fun x => []) (ZZ := fun x => [row x 3 (Rp.int .i64) x2.1]) F W Ry Aa Aa (fun hL => HG _ w (v1) (v2) (v9) (2, ([(0, 0, 1, 0, 1, 1)] : List (Int × Int × Int × Int × Int × Int)), ([(1, 5)] : List (Int × Int))) ([([0] : List Int), ([0] : List Int)] : List (List Int)) 0 0 _ h2 ((Ax 8 Aa) w W).nx ((Ax 7 Aa) w W).nx ((Ax 0 Aa) w W).nx) fun x a w F W => ?_
 obtain ⟨v10, rfl⟩ : ∃ y, y = x := ⟨x, rfl⟩
 have W : Stw ⟨Y, [], w0⟩ [(b1, [.int .i64 2, v1, v2])] [row v10 3 (Rp.int .i64) x2.1, row v9 37 (Rp.slice (Rp.int .i64)) ([([0] : List Int), ([0] : List Int)] : List (List Int)), HA v8 (Rp.int .i64) ([0] : List Int), HA v7 (Rp.int .i64) ([0] : List Int), row v6 3 (Rp.int .i64) x1.1, row v5 37 (Rp.slice (Rp.int .i64)) ([([0] : List Int), ([5] : List Int)] : List (List Int)), HA v4 (Rp.int .i64) ([5] : List Int), HA v3 (Rp.int .i64) ([0] : List Int), row v2 43 Ep ([(1, 5)] : List (Int × Int)), row v1 41 Ev ([(0, 0, 1, 0, 1, 1)] : List (Int × Int × Int × Int × Int × Int))] w := W
 refine ls F W Aa (Af F Aa).q fun a w F W => ?_
 refine ls F W Aa (Bc (v := v10) F Aa Aa).q fun a w F W => ?_
 refine ls F W Aa (Bc (v := Value.int .i64 x2.2) F Aa Aa).q fun a w F W => ?_
 iterate 2 refine ls F W Aa (Ae F Aa).q fun a w F W => ?_
 refine Ad (Ac ?_)
 obtain ⟨o1, G1, K1⟩ := Am H
 refine AJ (fun a w => ∃ x3 : Bool, some (x3) = some o1 ∧ Fr 53 [] [(0, .bool x3)] a ∧ Stw ⟨Y, [], w0⟩ [(b1, [.int .i64 2, v1, v2])] [row v1 41 Ev ([(0, 0, 1, 0, 1, 1)] : List (Int × Int × Int × Int × Int × Int)), row v2 43 Ep ([(1, 5)] : List (Int × Int))] w) ?_ ?_
 ·
  have H := G1
  clear G1 K1
  refine Ab ?_
  refine ls F W Aa (Af F Aa).q fun a w F W => ?_
  refine ls F W Aa (DO F Aa Aa).q fun a w F W => ?_
  refine ls F W Aa (Af F Aa).q fun a w F W => ?_
  rcases Bool.eq_false_or_eq_true (decide (x1.2 = 0)) with hb | hb
  ·
   have H := AM (Bj hb) H
   rw [hb] at F
   clear hb
   refine AF F W (Ag F Aa Aa Aa Aa) Aa (Al Aa) (Af F Aa).q fun a w F W => ?_
   refine FL (Ag F Aa Aa Aa Aa) ?_
   refine Cr (z := Value.int .i64 0) (cs := [.int .i64 0, .int .i64 1]) (Rp.int .i64) ([0, 1] : List Int) F W Aa EQ Z3 Aa Aa Aa Aa Aa Aa (Fl.int.repL _ _ ([0, 1] : List Int)) fun v11 a w F W => ?_
   refine FL (Ag F Aa Aa Aa Aa) ?_
   obtain ⟨x4, h3, H⟩ := Am H
   refine ls F W Aa (AW (v := Value.bool x4) F R9 Aa (fun w W => Mb any w (v6) (v11) x1.1 ([0, 1] : List Int) _ h3 (((Ax 5 Aa) : CE _ _ _ _ _ _) w W).nx (((Ax 0 Aa) : CE _ _ _ _ _ _) w W).nx)) fun a w F W => ?_
   refine ls F W Aa (Ao F Aa Aa Aa).q fun a w F W => ?_
   refine ls F W Aa (Af F Aa).q fun a w F W => ?_
   rcases Bool.eq_false_or_eq_true x4 with hb | hb
   ·
    have H := AM hb H
    rw [hb] at F
    clear hb
    refine AF F W (Ag F Aa Aa Aa Aa) Aa (Al Aa) (Af F Aa).q fun a w F W => ?_
    refine AF F W (Ag F Aa Aa Aa Aa) Aa (Al Aa) (DO F Aa Aa).q fun a w F W => ?_
    refine ls F W Aa (Ao F Aa Aa Aa).q fun a w F W => ?_
    refine ls F W Aa (Af F Aa).q fun a w F W => ?_
    rcases Bool.eq_false_or_eq_true (decide (x2.2 = 12)) with hb | hb
    ·
     have H := AM (Bj hb) H
     rw [hb] at F
     clear hb
     refine AF F W (Ag F Aa Aa Aa Aa) Aa (Al Aa) (An (v := Value.agg #[.int .i64 2, v1, v2]) 0 F Aa Aa GI Aa).q fun a w F W => ?_
     refine FL (Ag F Aa Aa Aa Aa) ?_
     refine Cr (z := Value.int .i64 0) (cs := [.int .i64 0]) (Rp.int .i64) ([0] : List Int) F W Aa EQ Z3 Aa Aa Aa Aa Aa Aa (Fl.int.repL _ _ ([0] : List Int)) fun v12 a w F W => ?_
     refine FL (Ag F Aa Aa Aa Aa) ?_
     refine Cr (z := Value.int .i64 0) (cs := [.int .i64 5]) (Rp.int .i64) ([5] : List Int) F W Aa EQ Z3 Aa Aa Aa Aa Aa Aa (Fl.int.repL _ _ ([5] : List Int)) fun v13 a w F W => ?_
     refine FL (Ag F Aa Aa Aa Aa) ?_
     have W := W.frontZ (i := 1) Aa Aa
     have W := W.freeze
     have W := W.frontZ (i := 1) Aa Aa
     have W := W.freeze
     refine Cr (z := Value.slice none 0 0) (cs := [v12, v13]) (Rp.slice (Rp.int .i64)) ([([0] : List Int), ([5] : List Int)] : List (List Int)) F W Aa Nx QE Aa Aa Aa (CH Aa (Cv (W.oneF (k := 1) Aa)) Aa (CH Aa (Cv (W.oneF (k := 0) Aa)) Aa Gm)) Aa Aa ⟨[v12], _, Aa, ⟨_, Aa, (W.item (i := 1) Aa)⟩, ⟨[v13], _, Aa, ⟨_, Aa, (W.item (i := 0) Aa)⟩, Aa⟩⟩ fun v14 a w F W => ?_
     refine FL (Ag F Aa Aa Aa Aa) ?_
     obtain ⟨x5, h4, H⟩ := Am H
     refine ls F W Aa (AW (v := Value.bool x5) F H9 Aa (fun w W => FP any w (v1) (v2) (v14) (2, ([(0, 0, 1, 0, 1, 1)] : List (Int × Int × Int × Int × Int × Int)), ([(1, 5)] : List (Int × Int))) ([([0] : List Int), ([5] : List Int)] : List (List Int)) _ h4 (((Ax 13 Aa) : CE _ _ _ _ _ _) w W).nx (((Ax 12 Aa) : CE _ _ _ _ _ _) w W).nx (((Ax 0 Aa) : CE _ _ _ _ _ _) w W).nx)) fun a w F W => ?_
     refine ls F W Aa (Ao F Aa Aa Aa).q fun a w F W => ?_
     refine ls F W Aa (Af F Aa).q fun a w F W => ?_
     rcases Bool.eq_false_or_eq_true x5 with hb | hb
     ·
      have H := AM hb H
      rw [hb] at F
      clear hb
      refine AF F W (Ag F Aa Aa Aa Aa) Aa (Al Aa) (An (v := Value.agg #[.int .i64 2, v1, v2]) 0 F Aa Aa GI Aa).q fun a w F W => ?_
      refine FL (Ag F Aa Aa Aa Aa) ?_
      refine Cr (z := Value.int .i64 0) (cs := [.int .i64 5]) (Rp.int .i64) ([5] : List Int) F W Aa EQ Z3 Aa Aa Aa Aa Aa Aa (Fl.int.repL _ _ ([5] : List Int)) fun v15 a w F W => ?_
      refine FL (Ag F Aa Aa Aa Aa) ?_
      refine Cr (z := Value.int .i64 0) (cs := [.int .i64 5]) (Rp.int .i64) ([5] : List Int) F W Aa EQ Z3 Aa Aa Aa Aa Aa Aa (Fl.int.repL _ _ ([5] : List Int)) fun v16 a w F W => ?_
      refine FL (Ag F Aa Aa Aa Aa) ?_
      have W := W.frontZ (i := 1) Aa Aa
      have W := W.freeze
      have W := W.frontZ (i := 1) Aa Aa
      have W := W.freeze
      refine Cr (z := Value.slice none 0 0) (cs := [v15, v16]) (Rp.slice (Rp.int .i64)) ([([5] : List Int), ([5] : List Int)] : List (List Int)) F W Aa Nx QE Aa Aa Aa (CH Aa (Cv (W.oneF (k := 1) Aa)) Aa (CH Aa (Cv (W.oneF (k := 0) Aa)) Aa Gm)) Aa Aa ⟨[v15], _, Aa, ⟨_, Aa, (W.item (i := 1) Aa)⟩, ⟨[v16], _, Aa, ⟨_, Aa, (W.item (i := 0) Aa)⟩, Aa⟩⟩ fun v17 a w F W => ?_
      refine FL (Ag F Aa Aa Aa Aa) ?_
      obtain ⟨x6, h5, H⟩ := Am H
      refine ls F W Aa (AW (v := Value.bool x6) F H9 Aa (fun w W => FP any w (v1) (v2) (v17) (2, ([(0, 0, 1, 0, 1, 1)] : List (Int × Int × Int × Int × Int × Int)), ([(1, 5)] : List (Int × Int))) ([([5] : List Int), ([5] : List Int)] : List (List Int)) _ h5 (((Ax 16 Aa) : CE _ _ _ _ _ _) w W).nx (((Ax 15 Aa) : CE _ _ _ _ _ _) w W).nx (((Ax 0 Aa) : CE _ _ _ _ _ _) w W).nx)) fun a w F W => ?_
      refine AF F W (Ag F Aa Aa Aa Aa) Aa (Al Aa) (EP F Aa).q fun a w F W => ?_
      refine ls F W Aa (Ao F Aa Aa Aa).q fun a w F W => ?_
      refine ls F W Aa (Ae F Aa).q fun a w F W => ?_
      refine Ad (Ac ?_)
      have W := W.frontZ (i := 15) Aa Aa
      have W := W.frontZ (i := 16) Aa Aa
      have W := W.sub (M' := [(b1, [.int .i64 2, v1, v2])]) (Z' := [row v1 41 Ev ([(0, 0, 1, 0, 1, 1)] : List (Int × Int × Int × Int × Int × Int)), row v2 43 Ep ([(1, 5)] : List (Int × Int))]) (List.Sublist.refl _) (List.Sublist.cons_cons _ (List.Sublist.cons_cons _ (List.nil_sublist _)))
      exact ⟨_, H, F.re ⟨rfl, trivial⟩, W⟩
     have H := AN (by rw [hb]; decide) H
     rw [hb] at F
     clear hb
     iterate 6 refine Cd F Aa Aa Aa Aa Aa Aa Aa fun a F => ?_
     refine ls F W Aa (Au F Aa Aa Aa).q fun a w F W => ?_
     refine ls F W Aa (Ae F Aa).q fun a w F W => ?_
     refine Ad (Ac ?_)
     have W := W.frontZ (i := 12) Aa Aa
     have W := W.frontZ (i := 13) Aa Aa
     have W := W.sub (M' := [(b1, [.int .i64 2, v1, v2])]) (Z' := [row v1 41 Ev ([(0, 0, 1, 0, 1, 1)] : List (Int × Int × Int × Int × Int × Int)), row v2 43 Ep ([(1, 5)] : List (Int × Int))]) (List.Sublist.refl _) (List.Sublist.cons_cons _ (List.Sublist.cons_cons _ (List.nil_sublist _)))
     exact ⟨_, H, F.re ⟨rfl, trivial⟩, W⟩
    have H := AN (Bk hb) H
    rw [hb] at F
    clear hb
    iterate 5 refine Cd F Aa Aa Aa Aa Aa Aa Aa fun a F => ?_
    refine ls F W Aa (Au F Aa Aa Aa).q fun a w F W => ?_
    refine ls F W Aa (Af F Aa).q fun a w F W => ?_
    iterate 6 refine Cd F Aa Aa Aa Aa Aa Aa Aa fun a F => ?_
    refine ls F W Aa (Au F Aa Aa Aa).q fun a w F W => ?_
    refine ls F W Aa (Ae F Aa).q fun a w F W => ?_
    refine Ad (Ac ?_)
    have W := W.frontZ (i := 9) Aa Aa
    have W := W.frontZ (i := 10) Aa Aa
    have W := W.sub (M' := [(b1, [.int .i64 2, v1, v2])]) (Z' := [row v1 41 Ev ([(0, 0, 1, 0, 1, 1)] : List (Int × Int × Int × Int × Int × Int)), row v2 43 Ep ([(1, 5)] : List (Int × Int))]) (List.Sublist.refl _) (List.Sublist.cons_cons _ (List.Sublist.cons_cons _ (List.nil_sublist _)))
    exact ⟨_, H, F.re ⟨rfl, trivial⟩, W⟩
   have H := AN (by rw [hb]; decide) H
   rw [hb] at F
   clear hb
   iterate 2 refine Cd F Aa Aa Aa Aa Aa Aa Aa fun a F => ?_
   refine ls F W Aa (Au F Aa Aa Aa).q fun a w F W => ?_
   refine ls F W Aa (Af F Aa).q fun a w F W => ?_
   iterate 5 refine Cd F Aa Aa Aa Aa Aa Aa Aa fun a F => ?_
   refine ls F W Aa (Au F Aa Aa Aa).q fun a w F W => ?_
   refine ls F W Aa (Af F Aa).q fun a w F W => ?_
   iterate 6 refine Cd F Aa Aa Aa Aa Aa Aa Aa fun a F => ?_
   refine ls F W Aa (Au F Aa Aa Aa).q fun a w F W => ?_
   refine ls F W Aa (Ae F Aa).q fun a w F W => ?_
   refine Ad (Ac ?_)
   have W := W.frontZ (i := 9) Aa Aa
   have W := W.frontZ (i := 10) Aa Aa
   have W := W.sub (M' := [(b1, [.int .i64 2, v1, v2])]) (Z' := [row v1 41 Ev ([(0, 0, 1, 0, 1, 1)] : List (Int × Int × Int × Int × Int × Int)), row v2 43 Ep ([(1, 5)] : List (Int × Int))]) (List.Sublist.refl _) (List.Sublist.cons_cons _ (List.Sublist.cons_cons _ (List.nil_sublist _)))
   exact ⟨_, H, F.re ⟨rfl, trivial⟩, W⟩
  have H := AN (Bk hb) H
  rw [hb] at F
  clear hb
  iterate 3 refine Cd F Aa Aa Aa Aa Aa Aa Aa fun a F => ?_
  refine ls F W Aa (Au F Aa Aa Aa).q fun a w F W => ?_
  refine ls F W Aa (Af F Aa).q fun a w F W => ?_
  iterate 2 refine Cd F Aa Aa Aa Aa Aa Aa Aa fun a F => ?_
  refine ls F W Aa (Au F Aa Aa Aa).q fun a w F W => ?_
  refine ls F W Aa (Af F Aa).q fun a w F W => ?_
  iterate 5 refine Cd F Aa Aa Aa Aa Aa Aa Aa fun a F => ?_
  refine ls F W Aa (Au F Aa Aa Aa).q fun a w F W => ?_
  refine ls F W Aa (Af F Aa).q fun a w F W => ?_
  iterate 6 refine Cd F Aa Aa Aa Aa Aa Aa Aa fun a F => ?_
  refine ls F W Aa (Au F Aa Aa Aa).q fun a w F W => ?_
  refine ls F W Aa (Ae F Aa).q fun a w F W => ?_
  refine Ad (Ac ?_)
  have W := W.frontZ (i := 8) Aa Aa
  have W := W.frontZ (i := 9) Aa Aa
  have W := W.sub (M' := [(b1, [.int .i64 2, v1, v2])]) (Z' := [row v1 41 Ev ([(0, 0, 1, 0, 1, 1)] : List (Int × Int × Int × Int × Int × Int)), row v2 43 Ep ([(1, 5)] : List (Int × Int))]) (List.Sublist.refl _) (List.Sublist.cons_cons _ (List.Sublist.cons_cons _ (List.nil_sublist _)))
  exact ⟨_, H, F.re ⟨rfl, trivial⟩, W⟩
 rintro a w ⟨x3, hj, F, W⟩
 have hj := AP hj
 subst hj
 have H := K1
 clear G1 K1
 refine Av ?_
 have H := AP H
 subst H
 refine AQ (.inl Aa) F W Aa (Ap F Aa) ?_
 exact ⟨rfl, W.done⟩
theorem H6 : Has Try.prog 6 := ⟨fun args w => Aj Try.func6 rfl (by decide) args w⟩
theorem QW : Rm Try.prog 28 Extern.MathFloatBits.float64frombits := fun args w => run_callFunc_extern Try.func28 (by kernel_rfl) (by kernel_rfl) (by kernel_rfl) (by kernel_rfl) args w
def B9 (p0 : Nat) : Bool := (!(MT p0 p0))
theorem Hj (Y : Nat → Prop) (w0 : World)  (p0 : Nat) (r : Bool) (H : B9 p0 = r)  :
    Calls Try.prog 49 #[.float .f64 p0] w0 fun e w' => e = .returned (.bool r) ∧ Below w0.heap.size w0 w' := by
 refine enter Try.func49 Aa Try.ntmps49 Aa fun a F => ?_
 have W := Stw.start Y w0
 unfold B9 at H
 refine Ah (Ab ?_)
 refine ls F W Aa (Ae F Aa).q fun a w F W => ?_
 refine Ad (Ac (Ah (Ab ?_)))
 iterate 2 refine ls F W Aa (Af F Aa).q fun a w F W => ?_
 refine ls F W Aa (P7 F Aa Aa).q fun a w F W => ?_
 refine ls F W Aa (Ae F Aa).q fun a w F W => ?_
 refine Ad (Ac (Av ?_))
 subst H
 refine AQ (.inl Aa) F W Aa (Ap F Aa) ?_
 exact ⟨rfl, W.done⟩
theorem RP : Has Try.prog 49 := ⟨fun args w => Aj Try.func49 rfl (by decide) args w⟩
def BA (p0 : Nat) : Nat := (if (B9 p0) = true then 9221120237041090561 else p0)
theorem GV (Y : Nat → Prop) (w0 : World)  (p0 : Nat) (r : Nat) (H : BA p0 = r)  :
    Calls Try.prog 27 #[.float .f64 p0] w0 fun e w' => e = .returned (.float .f64 r) ∧ Below w0.heap.size w0 w' := by
 refine enter Try.func27 Aa Try.ntmps27 Aa fun a F => ?_
 have W := Stw.start Y w0
 unfold BA at H
 refine Ah (Ab ?_)
 refine ls F W Aa (Ae F Aa).q fun a w F W => ?_
 refine Ad (Ac (Ah (Ah (Ab ?_))))
 refine ls F W Aa (Af F Aa).q fun a w F W => ?_
 refine ls F W Aa (AW (v := Value.bool (B9 p0)) F RP Aa (fun w W => Hj any w p0 _ Aa)) fun a w F W => ?_
 refine Ad (Ac ?_)
 refine Aw F Aa (fun hb => ?_) fun hb => ?_
 ·
  have H := AM hb H
  rw [hb] at F
  clear hb
  refine Ah (Ab ?_)
  refine ls F W Aa (JV (v := Value.float .f64 9221120237041090561) F QW Aa (fun w => rfl)).q fun a w F W => ?_
  refine ls F W Aa (Ae F Aa).q fun a w F W => ?_
  refine Ad (Ac (Av (AH ?_)))
  subst H
  refine AQ (.inl Aa) F W Aa (Ap F Aa) ?_
  exact ⟨rfl, W.done⟩
 have H := AN (by rw [hb]; decide) H
 rw [hb] at F
 clear hb
 refine Aq (Ac (Ah (Ab ?_)))
 refine ls F W Aa (Af F Aa).q fun a w F W => ?_
 refine ls F W Aa (Ae F Aa).q fun a w F W => ?_
 refine Ad (Ac (Av ?_))
 subst H
 refine AQ (.inl Aa) F W Aa (Ap F Aa) ?_
 exact ⟨rfl, W.done⟩
theorem Rz : Has Try.prog 27 := ⟨fun args w => Aj Try.func27 rfl (by decide) args w⟩
def Dd (p0 : Int) : Nat := (BA (Int.toNat p0))
theorem LQ (Y : Nat → Prop) (w0 : World)  (p0 : Int) (r : Nat) (H : Dd p0 = r)  :
    Calls Try.prog 16 #[.int .u64 p0] w0 fun e w' => e = .returned (.float .f64 r) ∧ Below w0.heap.size w0 w' := by
 refine enter Try.func16 Aa Try.ntmps16 Aa fun a F => ?_
 have W := Stw.start Y w0
 unfold Dd at H
 refine Ah (Ab ?_)
 refine ls F W Aa (Ae F Aa).q fun a w F W => ?_
 refine Ad (Ac (Ah (Ab ?_)))
 refine ls F W Aa (Af F Aa).q fun a w F W => ?_
 refine ls F W Aa (JV (v := Value.float .f64 (Int.toNat p0)) F QW Aa (fun w => rfl)).q fun a w F W => ?_
 refine ls F W Aa (AW (v := Value.float .f64 (BA (Int.toNat p0))) F Rz Aa (fun w W => GV any w (Int.toNat p0) _ Aa)) fun a w F W => ?_
 refine ls F W Aa (Ae F Aa).q fun a w F W => ?_
 refine Ad (Ac (Av ?_))
 subst H
 refine AQ (.inl Aa) F W Aa (Ap F Aa) ?_
 exact ⟨rfl, W.done⟩
theorem KT : type_of% Try.underlying35 := Try.underlying35
theorem SU : Has Try.prog 16 := ⟨fun args w => Aj Try.func16 rfl (by decide) args w⟩
theorem QG : (Try.prog.info? 50).bind (·.zero) = some (.float .f64 0) := by kernel_rfl
theorem I4 : Et Try.prog 35 50 1 8 := Et.of KT (by kernel_rfl) (by kernel_rfl) (by kernel_rfl) (by decide)
noncomputable def EE (p0 : List Int) : (List Nat × Int) → Option ((List Nat × Int) ⊕ (List Nat))
  | (x2, x3) => (if x3 < (p0.length : Int) then (ix p0 x3).bind fun x4 => (IQ x2 ([(Dd x4)] : List Nat)).bind fun x5 => some (.inl (x5, BV (x3 + 1))) else some (.inr x2))
noncomputable def F5 (p0 : List Int) : Option (List Nat) := (AA (EE p0) ([], 0)).bind fun x1 => some x1
theorem Mh (Y : Nat → Prop) (w0 : World) (v1 : Value) (p0 : List Int) (r : List Nat) (H : F5 p0 = some r) (h_v1 : Sl w0 (NX []) (Rp.int .u64) v1 p0) :
    Calls Try.prog 8 #[v1] w0 fun e w' => ∃ x : Value, e = .returned (x) ∧ Stw ⟨Y, [], w0⟩ [] [row (x) 50 (Rp.flt .f64) r] w' := by
 refine enter Try.func8 Aa Try.ntmps8 Aa fun a F => ?_
 have W := Stw.start Y w0
 unfold F5 at H
 refine Ah (Ab ?_)
 refine ls F W Aa (Ae F Aa).q fun a w F W => ?_
 refine Ad (Ac (Ah (Ab ?_)))
 refine ls F W Aa (Ae F Aa).q fun a w F W => ?_
 refine Ad (Ac ?_)
 obtain ⟨o1, G1, K1⟩ := Am H
 refine AJ (fun a w => ∃ x1 : List Nat, ∃ v2 : Value, some (x1) = some o1 ∧ Fr 19 [] [(2, .slice none 0 0), (3, v2)] a ∧ Stw ⟨Y, [], w0⟩ [] [row v2 50 (Rp.flt .f64) x1] w) ?_ ?_
 ·
  have H := G1
  clear G1 K1
  refine Ah (Ab ?_)
  refine ls F W Aa (Af F Aa).q fun a w F W => ?_
  refine ls F W Aa (Bh (r := (Rp.int .u64)) (l := p0) NY Aa F Aa (Ak h_v1)).q fun a w F W => ?_
  refine ls F W Aa (Af F Aa).q fun a w F W => ?_
  refine Ad (Ac (As ?_))
  have W := W.nilRow 50 (Rp.flt .f64)
  refine A4 H (fun s a w => ∃ v3 : Value, Fr 19 [] [(2, .slice none 0 0), (3, v3), (6, v1), (7, .int .i64 (p0.length : Int)), (8, .int .i64 s.2)] a ∧ Stw ⟨Y, [], w0⟩ [] [row v3 50 (Rp.flt .f64) s.1] w) ⟨(Value.slice none 0 0), F.re ⟨rfl, Aa, Aa, Aa, Aa, trivial⟩, W⟩ fun s o a w H L2 hR => ?_
  obtain ⟨x2, x3⟩ := s
  obtain ⟨v3, F, W⟩ := hR
  have F : Fr 19 [] [(2, .slice none 0 0), (3, v3), (6, v1), (7, .int .i64 (p0.length : Int)), (8, .int .i64 x3)] a := F
  have W : Stw ⟨Y, [], w0⟩ [] [row v3 50 (Rp.flt .f64) x2] w := W
  rw [EE] at H
  refine Ah (Ab ?_)
  refine ls F W Aa (Bg F Aa Aa).q fun a w F W => ?_
  refine Ad (Ac (Ah ?_))
  refine Aw F Aa (fun hb => ?_) fun hb => ?_
  ·
   have H := AM (Bj hb) H
   rw [hb] at F
   clear hb
   refine Aq (Ac (Ah (As (Ah (Ab ?_)))))
   obtain ⟨x4, h1, H⟩ := Am H
   refine ls F W Aa (AK (r := (Rp.int .u64)) RE F Aa Aa (Ak h_v1) h1).q fun a w F W => ?_
   refine ls F W Aa (Ay (y := Value.int .u64 x4) (j := 0) (i := x3) F Aa Aa (Ak h_v1) h1 Fl.int.to RR Aa).q fun a w F W => ?_
   refine ls F W Aa (Ae F Aa).q fun a w F W => ?_
   refine Ad (Ac (Ab ?_))
   iterate 2 refine ls F W Aa (Af F Aa).q fun a w F W => ?_
   refine ls F W Aa (AW (v := Value.float .f64 (Dd x4)) F SU Aa (fun w W => LQ any w x4 _ Aa)) fun a w F W => ?_
   refine Cr (z := Value.float .f64 0) (cs := [.float .f64 (Dd x4)]) (Rp.flt .f64) ([(Dd x4)] : List Nat) F W Aa I4 QG Aa Aa Aa Aa Aa Aa (Fl.flt.repL _ _ ([(Dd x4)] : List Nat)) fun v4 a w F W => ?_
   obtain ⟨x5, h2, H⟩ := Am H
   refine DM (r := (Rp.flt .f64)) (i := 1) F W Aa I4 Aa Aa Aa Aa (DP W 0 Aa) h2 Aa fun v5 a w F W => ?_
   have W : Stw ⟨Y, [], w0⟩ [] [row v5 50 (Rp.flt .f64) x5, row v4 50 (Rp.flt .f64) ([(Dd x4)] : List Nat)] w := W
   refine ls F W Aa (Ae F Aa).q fun a w F W => ?_
   refine Ad (AR (Ac (Ab ?_)))
   refine ls F W Aa (BB F Aa Aa Aa).q fun a w F W => ?_
   refine ls F W Aa (Af F Aa).q fun a w F W => ?_
   refine Ad (Ac ?_)
   have W := W.sub (M' := []) (Z' := [row v5 50 (Rp.flt .f64) x5]) (List.Sublist.refl _) (List.Sublist.cons_cons _ (List.nil_sublist _))
   exact ⟨_, H, (v5), F.re ⟨rfl, Aa, Aa, Aa, Aa, trivial⟩, W⟩
  have H := AN (Bk hb) H
  rw [hb] at F
  clear hb
  refine Ba ?_
  iterate 2 refine Br ?_
  refine Bb (Ac ?_)
  have H := L2 _ H
  exact ⟨_, (v3), H, F.re ⟨rfl, Aa, trivial⟩, W⟩
 rintro a w ⟨x1, v2, hj, F, W⟩
 have hj := AP hj
 subst hj
 have H := K1
 clear G1 K1
 refine Ah (Ab ?_)
 refine ls F W Aa (Af F Aa).q fun a w F W => ?_
 refine ls F W Aa (Ae F Aa).q fun a w F W => ?_
 refine Ad (Ac (Av ?_))
 have H := AP H
 subst H
 refine AQ (.inl Aa) F W Aa (Ap F Aa) ?_
 exact ⟨(v2), Aa, W⟩
theorem H8 : Has Try.prog 8 := ⟨fun args w => Aj Try.func8 rfl (by decide) args w⟩
theorem NO : Ty Try.prog 50 false 1 := ⟨by kernel_rfl, by kernel_rfl⟩
def CR (p0 : Nat) : Bool := (Pe p0 0 || MT p0 0)
theorem Ks (Y : Nat → Prop) (w0 : World)  (p0 : Nat) (r : Bool) (H : CR p0 = r)  :
    Calls Try.prog 37 #[.float .f64 p0] w0 fun e w' => e = .returned (.bool r) ∧ Below w0.heap.size w0 w' := by
 refine enter Try.func37 Aa Try.ntmps37 Aa fun a F => ?_
 have W := Stw.start Y w0
 unfold CR at H
 refine Ah (Ab ?_)
 refine ls F W Aa (Ae F Aa).q fun a w F W => ?_
 refine Ad (Ac (Ah (Ab ?_)))
 refine ls F W Aa (Af F Aa).q fun a w F W => ?_
 refine ls F W Aa (P4 F Aa Aa).q fun a w F W => ?_
 refine ls F W Aa (Ae F Aa).q fun a w F W => ?_
 refine Ad (Ac (Av ?_))
 subst H
 refine AQ (.inl Aa) F W Aa (Ap F Aa) ?_
 exact ⟨rfl, W.done⟩
theorem SV : Has Try.prog 37 := ⟨fun args w => Aj Try.func37 rfl (by decide) args w⟩
noncomputable def Dh (p0 : List Nat) : Int → Option (Int ⊕ (Unit ⊕ Bool))
  | x1 => (if x1 < (p0.length : Int) then (ix p0 x1).bind fun x2 => (if (!(CR x2)) = true then some (.inr (.inr false)) else some (.inl (BV (x1 + 1)))) else some (.inr (.inl ())))
noncomputable def Ey (p0 : List Nat) (p1 : Int) : Option Bool := (if (p0.length : Int) ≠ p1 then some false else Fv (AA (Dh p0) 0) fun _ => some true)
theorem JD (Y : Nat → Prop) (w0 : World) (v1 : Value) (p0 : List Nat) (p1 : Int) (r : Bool) (H : Ey p0 p1 = some r) (h_v1 : Sl w0 (NX []) (Rp.flt .f64) v1 p0) :
    Calls Try.prog 22 #[v1, .int .i64 p1] w0 fun e w' => e = .returned (.bool r) ∧ Below w0.heap.size w0 w' := by
 refine enter Try.func22 Aa Try.ntmps22 Aa fun a F => ?_
 have W := Stw.start Y w0
 unfold Ey at H
 refine Ah (Ab ?_)
 refine ls F W Aa (Ae F Aa).q fun a w F W => ?_
 refine Ad (Ac (Ah (Ah (Ab ?_))))
 refine ls F W Aa (Af F Aa).q fun a w F W => ?_
 refine ls F W Aa (Bh (r := (Rp.flt .f64)) (l := p0) KT Aa F Aa (Ak h_v1)).q fun a w F W => ?_
 refine ls F W Aa (Af F Aa).q fun a w F W => ?_
 refine ls F W Aa (GM F Aa Aa).q fun a w F W => ?_
 refine Ad (Ac ?_)
 refine Aw F Aa (fun hb => ?_) fun hb => ?_
 ·
  have H := AM (Bj hb) H
  rw [hb] at F
  clear hb
  refine Ah (Ab ?_)
  refine ls F W Aa (Ae F Aa).q fun a w F W => ?_
  refine Ad (Ac (Av (AH ?_)))
  have H := AP H
  subst H
  refine AQ (.inl Aa) F W Aa (Ap F Aa) ?_
  exact ⟨rfl, W.done⟩
 have H := AN (Bk hb) H
 rw [hb] at F
 clear hb
 refine Aq (Ac ?_)
 obtain ⟨o1, G1, K1, L1⟩ := KJ H
 refine AJ (fun a w => some (Sum.inl ()) = some o1 ∧ Fr 21 [] [(4, .bool false)] a ∧ Stw ⟨Y, [], w0⟩ [] [] w) ?_ ?_
 ·
  have H := G1
  clear G1 K1
  refine Ah (Ab ?_)
  refine ls F W Aa (Af F Aa).q fun a w F W => ?_
  refine ls F W Aa (Bh (r := (Rp.flt .f64)) (l := p0) KT Aa F Aa (Ak h_v1)).q fun a w F W => ?_
  refine ls F W Aa (Af F Aa).q fun a w F W => ?_
  refine Ad (Ac (As ?_))
  refine A4 H (fun s a w => Fr 21 [] [(4, .bool false), (11, v1), (12, .int .i64 (p0.length : Int)), (13, .int .i64 s)] a ∧ Stw ⟨Y, [], w0⟩ [] [] w) ⟨F.re ⟨rfl, Aa, Aa, Aa, trivial⟩, W⟩ fun s o a w H L2 hR => ?_
  obtain ⟨x1, rfl⟩ : ∃ x, x = s := ⟨s, rfl⟩
  obtain ⟨F, W⟩ := hR
  have F : Fr 21 [] [(4, .bool false), (11, v1), (12, .int .i64 (p0.length : Int)), (13, .int .i64 x1)] a := F
  have W : Stw ⟨Y, [], w0⟩ [] [] w := W
  rw [Dh] at H
  refine Ah (Ab ?_)
  refine ls F W Aa (Bg F Aa Aa).q fun a w F W => ?_
  refine Ad (Ac (Ah ?_))
  refine Aw F Aa (fun hb => ?_) fun hb => ?_
  ·
   have H := AM (Bj hb) H
   rw [hb] at F
   clear hb
   refine Aq (Ac (Ah (As (Ah (Ab ?_)))))
   obtain ⟨x2, h1, H⟩ := Am H
   refine ls F W Aa (AK (r := (Rp.flt .f64)) I4 F Aa Aa (Ak h_v1) h1).q fun a w F W => ?_
   refine ls F W Aa (Ay (y := Value.float .f64 x2) (j := 0) (i := x1) F Aa Aa (Ak h_v1) h1 Fl.flt.to NO Aa).q fun a w F W => ?_
   refine ls F W Aa (Ae F Aa).q fun a w F W => ?_
   refine Ad (Ac (Ah (Ab ?_)))
   refine ls F W Aa (Af F Aa).q fun a w F W => ?_
   refine ls F W Aa (AW (v := Value.bool (CR x2)) F SV Aa (fun w W => Ks any w x2 _ Aa)) fun a w F W => ?_
   refine ls F W Aa (EP F Aa).q fun a w F W => ?_
   refine Ad (Ac ?_)
   refine Aw F Aa (fun hb => ?_) fun hb => ?_
   ·
    have H := AM hb H
    rw [hb] at F
    clear hb
    refine Ah (Ab ?_)
    refine ls F W Aa (Ae F Aa).q fun a w F W => ?_
    refine Ad (Ac (Av (AU ?_)))
    iterate 2 refine AH ?_
    refine AU (AH ?_)
    have H := L2 _ H
    have H := L1 _ H
    have H := AP H
    subst H
    refine AQ (.inl Aa) F W Aa (Ap F Aa) ?_
    exact ⟨rfl, W.done⟩
   have H := AN (by rw [hb]; decide) H
   rw [hb] at F
   clear hb
   refine Aq (AR (Ac (Ab ?_)))
   refine ls F W Aa (BB F Aa Aa Aa).q fun a w F W => ?_
   refine ls F W Aa (Af F Aa).q fun a w F W => ?_
   refine Ad (Ac ?_)
   exact ⟨_, H, F.re ⟨rfl, Aa, Aa, Aa, trivial⟩, W⟩
  have H := AN (Bk hb) H
  rw [hb] at F
  clear hb
  refine Ba ?_
  iterate 2 refine Br ?_
  refine Bb (Ac ?_)
  have H := L2 _ H
  exact ⟨H, F.re ⟨rfl, trivial⟩, W⟩
 rintro a w ⟨hj, F, W⟩
 have H := K1 _ hj
 clear hj G1 K1 L1
 refine Ah (Ab ?_)
 refine ls F W Aa (Ae F Aa).q fun a w F W => ?_
 refine Ad (Ac (Av ?_))
 have H := AP H
 subst H
 refine AQ (.inl Aa) F W Aa (Ap F Aa) ?_
 exact ⟨rfl, W.done⟩
theorem Sw : Has Try.prog 22 := ⟨fun args w => Aj Try.func22 rfl (by decide) args w⟩
noncomputable def Df (p0 : Int × (List (Int × Int × Int × Int × Int × Int)) × (List (Int × Int))) (p1 : List Nat) : Option Bool := ((C9 p0).bind fun x2 => (if x2 = true then (Ey p1 (p0.2.1.length : Int)).bind fun x3 => some x3 else some false)).bind fun x1 => some x1
theorem Fp (Y : Nat → Prop) (w0 : World) (v1 : Value) (v2 : Value) (v3 : Value) (p0 : Int × (List (Int × Int × Int × Int × Int × Int)) × (List (Int × Int))) (p1 : List Nat) (r : Bool) (H : Df p0 p1 = some r) (h_v1 : Sl w0 (NX []) Ev v1 p0.2.1) (h_v2 : Sl w0 (NX []) Ep v2 p0.2.2) (h_v3 : Sl w0 (NX []) (Rp.flt .f64) v3 p1) :
    Calls Try.prog 14 #[.agg #[.int .i64 p0.1, v1, v2], v3] w0 fun e w' => e = .returned (.bool r) ∧ Below w0.heap.size w0 w' := by
 refine enter Try.func14 Aa Try.ntmps14 Aa fun a F => ?_
 have W := Stw.start Y w0
 unfold Df at H
 refine Ah (Ab ?_)
 refine C5 (cs := [.int .i64 p0.1, v1, v2]) F W Aa Aa Aa fun b1 a w F W => ?_
 refine ls F W Aa (Ae F Aa).q fun a w F W => ?_
 refine Ad (Ac ?_)
 obtain ⟨o1, G1, K1⟩ := Am H
 refine AJ (fun a w => ∃ x1 : Bool, some (x1) = some o1 ∧ Fr 14 [] [(4, .bool x1)] a ∧ Stw ⟨Y, [], w0⟩ [(b1, [.int .i64 p0.1, v1, v2])] [] w) ?_ ?_
 ·
  have H := G1
  clear G1 K1
  refine Ab ?_
  refine ls F W Aa (An (v := Value.agg #[.int .i64 p0.1, v1, v2]) 0 F Aa Aa GI Aa).q fun a w F W => ?_
  obtain ⟨x2, h1, H⟩ := Am H
  refine ls F W Aa (AW (v := Value.bool x2) F RD Aa (fun w W => Hh any w (v1) (v2) p0 _ h1 (((Ak h_v1) : CE _ _ _ _ _ _) w W).nx (((Ak h_v2) : CE _ _ _ _ _ _) w W).nx)) fun a w F W => ?_
  refine ls F W Aa (Af F Aa).q fun a w F W => ?_
  rcases Bool.eq_false_or_eq_true x2 with hb | hb
  ·
   have H := AM hb H
   rw [hb] at F
   clear hb
   refine AF F W (Ag F Aa Aa Aa Aa) Aa (Al Aa) (Af F Aa).q fun a w F W => ?_
   refine AF F W (Ag F Aa Aa Aa Aa) Aa (Al Aa) (Ai CC Aa Aa Aa Il F Aa 1 Aa).q fun a w F W => ?_
   refine AF F W (Ag F Aa Aa Aa Aa) Aa (Al Aa) (An (v := v1) 0 F Aa Aa Il Aa).q fun a w F W => ?_
   refine AF F W (Ag F Aa Aa Aa Aa) Aa (Al Aa) (Bh (r := Ev) (l := p0.2.1) IC Aa F Aa (Ak h_v1)).q fun a w F W => ?_
   refine FL (Ag F Aa Aa Aa Aa) ?_
   obtain ⟨x3, h2, H⟩ := Am H
   refine ls F W Aa (AW (v := Value.bool x3) F Sw Aa (fun w W => JD any w (v3) p1 (p0.2.1.length : Int) _ h2 (((Ak h_v3) : CE _ _ _ _ _ _) w W).nx)) fun a w F W => ?_
   refine ls F W Aa (Ao F Aa Aa Aa).q fun a w F W => ?_
   refine ls F W Aa (Ae F Aa).q fun a w F W => ?_
   refine Ad (Ac ?_)
   exact ⟨_, H, F.re ⟨rfl, trivial⟩, W⟩
  have H := AN (by rw [hb]; decide) H
  rw [hb] at F
  clear hb
  iterate 5 refine Cd F Aa Aa Aa Aa Aa Aa Aa fun a F => ?_
  refine ls F W Aa (Au F Aa Aa Aa).q fun a w F W => ?_
  refine ls F W Aa (Ae F Aa).q fun a w F W => ?_
  refine Ad (Ac ?_)
  exact ⟨_, H, F.re ⟨rfl, trivial⟩, W⟩
 rintro a w ⟨x1, hj, F, W⟩
 have hj := AP hj
 subst hj
 have H := K1
 clear G1 K1
 refine Av ?_
 have H := AP H
 subst H
 refine AQ (.inl Aa) F W Aa (Ap F Aa) ?_
 exact ⟨rfl, W.done⟩
theorem Q9 : Has Try.prog 14 := ⟨fun args w => Aj Try.func14 rfl (by decide) args w⟩
abbrev Dc : Dp (Value × Nat × List Int) := (Dp.sl 3 (Rp.int .i64))
abbrev Eh (p : Value × Nat × List Int) : Nat × List Int := p.2
abbrev OP : (Nat × List Int) → Option (List Int) := QZ
theorem Ru : Rst Dc (Rp.slice (Rp.int .i64)) Eh OP := Rst.sl
noncomputable def Ed (p0 : Int) : Option Nat := (if 0 ≤ p0 then some 9218868437227405312 else some 18442240474082181120).bind fun x1 => some (Int.toNat x1)
theorem FM (Y : Nat → Prop) (w0 : World)  (p0 : Int) (r : Nat) (H : Ed p0 = some r)  :
    Calls Try.prog 39 #[.int .i64 p0] w0 fun e w' => e = .returned (.float .f64 r) ∧ Below w0.heap.size w0 w' := by
 refine enter Try.func39 Aa Try.ntmps39 Aa fun a F => ?_
 have W := Stw.start Y w0
 unfold Ed at H
 refine Ah (Ab ?_)
 refine ls F W Aa (Ae F Aa).q fun a w F W => ?_
 refine Ad (Ac (Ah (Ab ?_)))
 refine ls F W Aa (Ae F Aa).q fun a w F W => ?_
 refine Ad (Ac ?_)
 obtain ⟨o1, G1, K1⟩ := Am H
 refine AJ (fun a w => ∃ x1 : Int, some (x1) = some o1 ∧ Fr 8 [] [(2, .float .f64 0), (3, .int .u64 x1)] a ∧ Stw ⟨Y, [], w0⟩ [] [] w) ?_ ?_
 ·
  have H := G1
  clear G1 K1
  refine Ah (Ab ?_)
  refine ls F W Aa (Af F Aa).q fun a w F W => ?_
  refine ls F W Aa (Ei F Aa Aa).q fun a w F W => ?_
  refine Ad (Ac ?_)
  refine Aw F Aa (fun hb => ?_) fun hb => ?_
  ·
   have H := AM (Bj hb) H
   rw [hb] at F
   clear hb
   refine Ab ?_
   refine ls F W Aa (Ae F Aa).q fun a w F W => ?_
   refine Ad (Ac ?_)
   exact ⟨_, H, F.re ⟨rfl, Aa, trivial⟩, W⟩
  have H := AN (Bk hb) H
  rw [hb] at F
  clear hb
  refine Ab ?_
  refine ls F W Aa (Ae F Aa).q fun a w F W => ?_
  refine Ad (Ac ?_)
  exact ⟨_, H, F.re ⟨rfl, Aa, trivial⟩, W⟩
 rintro a w ⟨x1, hj, F, W⟩
 have hj := AP hj
 subst hj
 have H := K1
 clear G1 K1
 refine Ah (Ab ?_)
 refine ls F W Aa (Af F Aa).q fun a w F W => ?_
 refine ls F W Aa (JV (v := Value.float .f64 (Int.toNat x1)) F QW Aa (fun w => rfl)).q fun a w F W => ?_
 refine ls F W Aa (Ae F Aa).q fun a w F W => ?_
 refine Ad (Ac (Av ?_))
 have H := AP H
 subst H
 refine AQ (.inl Aa) F W Aa (Ap F Aa) ?_
 exact ⟨rfl, W.done⟩
theorem Q1 : Has Try.prog 39 := ⟨fun args w => Aj Try.func39 rfl (by decide) args w⟩
theorem I9 : (Try.prog.underlying 9).map (fun d => match d with | .interface _ => true | _ => false) = some false := by kernel_rfl
def BU (p0 : Int) (p1 : Int) : Int × Int := (IntKind.u64.wrap ((IntKind.u64.wrap ((IntKind.u64.wrap ((Hs .u64 p0 32) * (Hs .u64 p1 32))) + (Hs .u64 (IntKind.u64.wrap ((IntKind.u64.wrap ((Hs .u64 p0 32) * (JR .u64 p1 4294967295))) + (Hs .u64 (IntKind.u64.wrap ((JR .u64 p0 4294967295) * (JR .u64 p1 4294967295))) 32))) 32))) + (Hs .u64 (IntKind.u64.wrap ((JR .u64 (IntKind.u64.wrap ((IntKind.u64.wrap ((Hs .u64 p0 32) * (JR .u64 p1 4294967295))) + (Hs .u64 (IntKind.u64.wrap ((JR .u64 p0 4294967295) * (JR .u64 p1 4294967295))) 32))) 4294967295) + (IntKind.u64.wrap ((JR .u64 p0 4294967295) * (Hs .u64 p1 32))))) 32)), IntKind.u64.wrap (p0 * p1))
theorem HQ (Y : Nat → Prop) (w0 : World)  (p0 : Int) (p1 : Int) (r : Int × Int) (H : BU p0 p1 = r)  :
    Calls Try.prog 62 #[.int .u64 p0, .int .u64 p1] w0 fun e w' => e = .returned (.tuple #[.int .u64 r.1, .int .u64 r.2]) ∧ Below w0.heap.size w0 w' := by
 refine enter Try.func62 Aa Try.ntmps62 Aa fun a F => ?_
 have W := Stw.start Y w0
 unfold BU at H
 refine Ah (Ab ?_)
 iterate 2 refine ls F W Aa (Ae F Aa).q fun a w F W => ?_
 refine Ad (Ac (Ah (Ab ?_)))
 refine ls F W Aa (Af F Aa).q fun a w F W => ?_
 refine ls F W Aa (Om F Aa Aa).q fun a w F W => ?_
 refine ls F W Aa (Ae F Aa).q fun a w F W => ?_
 refine Ad (Ac (Ah (Ab ?_)))
 refine ls F W Aa (Af F Aa).q fun a w F W => ?_
 refine ls F W Aa (Iw F Aa Aa (by decide)).q fun a w F W => ?_
 refine ls F W Aa (Ae F Aa).q fun a w F W => ?_
 refine Ad (Ac (Ah (Ab ?_)))
 refine ls F W Aa (Af F Aa).q fun a w F W => ?_
 refine ls F W Aa (Om F Aa Aa).q fun a w F W => ?_
 refine ls F W Aa (Ae F Aa).q fun a w F W => ?_
 refine Ad (Ac (Ah (Ab ?_)))
 refine ls F W Aa (Af F Aa).q fun a w F W => ?_
 refine ls F W Aa (Iw F Aa Aa (by decide)).q fun a w F W => ?_
 refine ls F W Aa (Ae F Aa).q fun a w F W => ?_
 refine Ad (Ac (Ah (Ab ?_)))
 iterate 2 refine ls F W Aa (Af F Aa).q fun a w F W => ?_
 refine ls F W Aa (LL F Aa Aa Aa).q fun a w F W => ?_
 refine ls F W Aa (Ae F Aa).q fun a w F W => ?_
 refine Ad (Ac (Ah (Ab ?_)))
 iterate 2 refine ls F W Aa (Af F Aa).q fun a w F W => ?_
 refine ls F W Aa (LL F Aa Aa Aa).q fun a w F W => ?_
 refine ls F W Aa (Af F Aa).q fun a w F W => ?_
 refine ls F W Aa (Iw F Aa Aa (by decide)).q fun a w F W => ?_
 refine ls F W Aa (BB F Aa Aa Aa).q fun a w F W => ?_
 refine ls F W Aa (Ae F Aa).q fun a w F W => ?_
 refine Ad (Ac (Ah (Ab ?_)))
 refine ls F W Aa (Af F Aa).q fun a w F W => ?_
 refine ls F W Aa (Om F Aa Aa).q fun a w F W => ?_
 refine ls F W Aa (Ae F Aa).q fun a w F W => ?_
 refine Ad (Ac (Ah (Ab ?_)))
 refine ls F W Aa (Af F Aa).q fun a w F W => ?_
 refine ls F W Aa (Iw F Aa Aa (by decide)).q fun a w F W => ?_
 refine ls F W Aa (Ae F Aa).q fun a w F W => ?_
 refine Ad (Ac (Ah (Ab ?_)))
 iterate 3 refine ls F W Aa (Af F Aa).q fun a w F W => ?_
 refine ls F W Aa (LL F Aa Aa Aa).q fun a w F W => ?_
 refine ls F W Aa (BB F Aa Aa Aa).q fun a w F W => ?_
 refine ls F W Aa (Ae F Aa).q fun a w F W => ?_
 refine Ad (Ac (Ah (Ab ?_)))
 iterate 2 refine ls F W Aa (Af F Aa).q fun a w F W => ?_
 refine ls F W Aa (LL F Aa Aa Aa).q fun a w F W => ?_
 refine ls F W Aa (Af F Aa).q fun a w F W => ?_
 refine ls F W Aa (BB F Aa Aa Aa).q fun a w F W => ?_
 refine ls F W Aa (Af F Aa).q fun a w F W => ?_
 refine ls F W Aa (Iw F Aa Aa (by decide)).q fun a w F W => ?_
 refine ls F W Aa (BB F Aa Aa Aa).q fun a w F W => ?_
 refine ls F W Aa (Ae F Aa).q fun a w F W => ?_
 refine Ad (Ac (Ah (Ab ?_)))
 iterate 2 refine ls F W Aa (Af F Aa).q fun a w F W => ?_
 refine ls F W Aa (LL F Aa Aa Aa).q fun a w F W => ?_
 refine ls F W Aa (Ae F Aa).q fun a w F W => ?_
 refine Ad (Ac (Av ?_))
 subst H
 refine E2 (.inl Aa) F W Aa (Ap F Aa) (Ap F Aa) ?_
 exact ⟨rfl, W.done⟩
theorem Sc : Has Try.prog 62 := ⟨fun args w => Aj Try.func62 rfl (by decide) args w⟩
def AC (p0 : Int) (p1 : Int) : Int × Int := ((BU p0 p1).1, (BU p0 p1).2)
theorem FY (Y : Nat → Prop) (w0 : World)  (p0 : Int) (p1 : Int) (r : Int × Int) (H : AC p0 p1 = r)  :
    Calls Try.prog 54 #[.int .u64 p0, .int .u64 p1] w0 fun e w' => e = .returned (.tuple #[.int .u64 r.1, .int .u64 r.2]) ∧ Below w0.heap.size w0 w' := by
 refine enter Try.func54 Aa Try.ntmps54 Aa fun a F => ?_
 have W := Stw.start Y w0
 unfold AC at H
 refine Ah (Ab ?_)
 iterate 2 refine ls F W Aa (Ae F Aa).q fun a w F W => ?_
 refine Ad (Ac (Ah ?_))
 refine Jj F Aa ?_
 refine Aq (Ac (Ah (Ab ?_)))
 iterate 2 refine ls F W Aa (Af F Aa).q fun a w F W => ?_
 refine ls F W Aa (AW (v := Value.tuple #[.int .u64 ((BU p0 p1).1), .int .u64 ((BU p0 p1).2)]) F Sc Aa (fun w W => HQ any w p0 p1 _ Aa)) fun a w F W => ?_
 refine ls F W Aa (Af F Aa).q fun a w F W => ?_
 refine ls F W Aa (Bc (v := Value.int .u64 ((BU p0 p1).1)) F Aa Aa).q fun a w F W => ?_
 refine ls F W Aa (Bc (v := Value.int .u64 ((BU p0 p1).2)) F Aa Aa).q fun a w F W => ?_
 iterate 2 refine ls F W Aa (Ae F Aa).q fun a w F W => ?_
 refine Ad (Ac (Ah (Ab ?_)))
 iterate 2 refine ls F W Aa (Af F Aa).q fun a w F W => ?_
 iterate 2 refine ls F W Aa (Ae F Aa).q fun a w F W => ?_
 refine Ad (Ac (Av ?_))
 subst H
 refine E2 (.inl Aa) F W Aa (Ap F Aa) (Ap F Aa) ?_
 exact ⟨rfl, W.done⟩
theorem Lz : type_of% Try.underlying93 := Try.underlying93
theorem RO : Has Try.prog 54 := ⟨fun args w => Aj Try.func54 rfl (by decide) args w⟩
noncomputable def Bi  : (List Nat × Int) → Option ((List Nat × Int) ⊕ (List Nat))
  | (x3, x4) => (if x4 < (x3.length : Int) then (Gp x3 x4 (x3.length : Int)).bind fun x5 => (Gp x3 0 x4).bind fun x6 => some (.inl (KI x3 x4 (min x6.length x5.length) x6, BV (x4 + ((min x6.length x5.length : Nat) : Int)))) else some (.inr x3))
noncomputable def A3 (p0 : List Nat) (p1 : Int) : Option (List Nat) := (if p1 < 0 then none else (if (decide (0 < ((AC (IntKind.u64.wrap (p0.length : Int)) (IntKind.u64.wrap p1)).1)) || decide (9223372036854775807 < ((AC (IntKind.u64.wrap (p0.length : Int)) (IntKind.u64.wrap p1)).2))) = true then none else (mk (BV ((AC (IntKind.u64.wrap (p0.length : Int)) (IntKind.u64.wrap p1)).2)) (0 : Nat)).bind fun x1 => (AA (Bi) (KI x1 0 (min p0.length x1.length) p0, ((min p0.length x1.length : Nat) : Int))).bind fun x2 => some x2))
theorem Bz (Y : Nat → Prop) (w0 : World) (v1 : Value) (p0 : List Nat) (p1 : Int) (r : List Nat) (H : A3 p0 p1 = some r) (s_v1 : Sl w0 Y (Rp.flt .f64) v1 p0) :
    Calls Try.prog 38 #[v1, .int .i64 p1] w0 fun e w' => ∃ x : Value, e = .returned (x) ∧ Stw ⟨Y, [], w0⟩ [] [row (x) 50 (Rp.flt .f64) r] w' := by
 refine enter Try.func38 Aa Try.ntmps38 Aa fun a F => ?_
 have W := Stw.start Y w0
 have h_v1 := W.nx s_v1
 unfold A3 at H
 refine Ah (Ab ?_)
 refine ls F W Aa (Ae F Aa).q fun a w F W => ?_
 refine Ad (Ac (Ah (Ah (Ab ?_))))
 refine ls F W Aa (Af F Aa).q fun a w F W => ?_
 refine ls F W Aa (Bg F Aa Aa).q fun a w F W => ?_
 refine Ad (Ac ?_)
 refine Aw F Aa (fun hb => ?_) fun hb => ?_
 ·
  have H := AM (Bj hb) H
  rw [hb] at F
  clear hb
  refine Ab ?_
  refine ls F W Aa (Fh I9 F Aa).q fun a w F W => ?_
  exact nomatch H
 have H := AN (Bk hb) H
 rw [hb] at F
 clear hb
 refine Aq (Ac (Ah (Ab ?_)))
 refine ls F W Aa (Af F Aa).q fun a w F W => ?_
 refine ls F W Aa (Bh (r := (Rp.flt .f64)) (l := p0) KT Aa F Aa (Ak h_v1)).q fun a w F W => ?_
 refine ls F W Aa (Ec LS Lz F Aa).q fun a w F W => ?_
 refine ls F W Aa (Af F Aa).q fun a w F W => ?_
 refine ls F W Aa (Ec LS Lz F Aa).q fun a w F W => ?_
 refine ls F W Aa (AW (v := Value.tuple #[.int .u64 ((AC (IntKind.u64.wrap (p0.length : Int)) (IntKind.u64.wrap p1)).1), .int .u64 ((AC (IntKind.u64.wrap (p0.length : Int)) (IntKind.u64.wrap p1)).2)]) F RO Aa (fun w W => FY any w (IntKind.u64.wrap (p0.length : Int)) (IntKind.u64.wrap p1) _ Aa)) fun a w F W => ?_
 refine ls F W Aa (Af F Aa).q fun a w F W => ?_
 refine ls F W Aa (Bc (v := Value.int .u64 ((AC (IntKind.u64.wrap (p0.length : Int)) (IntKind.u64.wrap p1)).1)) F Aa Aa).q fun a w F W => ?_
 refine ls F W Aa (Bc (v := Value.int .u64 ((AC (IntKind.u64.wrap (p0.length : Int)) (IntKind.u64.wrap p1)).2)) F Aa Aa).q fun a w F W => ?_
 iterate 2 refine ls F W Aa (Ae F Aa).q fun a w F W => ?_
 refine Ad (Ac (Ah ?_))
 refine AJ (fun a w => Fr 48 [] [(0, v1), (4, .slice none 0 0), (6, .int .u64 ((AC (IntKind.u64.wrap (p0.length : Int)) (IntKind.u64.wrap p1)).2)), (26, .bool (decide (0 < ((AC (IntKind.u64.wrap (p0.length : Int)) (IntKind.u64.wrap p1)).1)) || decide (9223372036854775807 < ((AC (IntKind.u64.wrap (p0.length : Int)) (IntKind.u64.wrap p1)).2))))] a ∧ Stw ⟨Y, [], w0⟩ [] [] w) ?_ ?_
 ·
  refine Ab ?_
  refine ls F W Aa (Af F Aa).q fun a w F W => ?_
  refine ls F W Aa (DI F Aa Aa).q fun a w F W => ?_
  refine ls F W Aa (Af F Aa).q fun a w F W => ?_
  rcases Bool.eq_false_or_eq_true (decide (0 < ((AC (IntKind.u64.wrap (p0.length : Int)) (IntKind.u64.wrap p1)).1))) with hb0 | hb0
  ·
   rw [hb0] at F
   iterate 2 refine Cd F Aa Aa Aa Aa Aa Aa Aa fun a F => ?_
   refine ls F W Aa (Ao F Aa Aa Aa).q fun a w F W => ?_
   refine Ad (Ac ?_)
   exact ⟨F.re ⟨rfl, Aa, Aa, (by show some (Value.bool true) = some (Value.bool (decide (0 < ((AC (IntKind.u64.wrap (p0.length : Int)) (IntKind.u64.wrap p1)).1)) || decide (9223372036854775807 < ((AC (IntKind.u64.wrap (p0.length : Int)) (IntKind.u64.wrap p1)).2)))); try rw [hb0]; all_goals simp only [Bool.not_true, Bool.not_false, Bool.true_and, Bool.false_and, Bool.true_or, Bool.false_or, Bool.and_true, Bool.or_false, cond_true, cond_false]), trivial⟩, W⟩
  rw [hb0] at F
  refine AF F W (Ag F Aa Aa Aa Aa) Aa (Al Aa) (Af F Aa).q fun a w F W => ?_
  refine AF F W (Ag F Aa Aa Aa Aa) Aa (Al Aa) (DI F Aa Aa).q fun a w F W => ?_
  refine ls F W Aa (Au F Aa Aa Aa).q fun a w F W => ?_
  refine Ad (Ac ?_)
  exact ⟨F.re ⟨rfl, Aa, Aa, (by show some (Value.bool (decide (9223372036854775807 < ((AC (IntKind.u64.wrap (p0.length : Int)) (IntKind.u64.wrap p1)).2)))) = some (Value.bool (decide (0 < ((AC (IntKind.u64.wrap (p0.length : Int)) (IntKind.u64.wrap p1)).1)) || decide (9223372036854775807 < ((AC (IntKind.u64.wrap (p0.length : Int)) (IntKind.u64.wrap p1)).2)))); try rw [hb0]; all_goals simp only [Bool.not_true, Bool.not_false, Bool.true_and, Bool.false_and, Bool.true_or, Bool.false_or, Bool.and_true, Bool.or_false, cond_true, cond_false]), trivial⟩, W⟩
 rintro a w ⟨F, W⟩
 refine Aw F Aa (fun hb => ?_) fun hb => ?_
 ·
  have H := AM hb H
  rw [hb] at F
  clear hb
  refine Ab ?_
  refine ls F W Aa (Fh I9 F Aa).q fun a w F W => ?_
  exact nomatch H
 have H := AN (by rw [hb]; decide) H
 rw [hb] at F
 clear hb
 refine Aq (Ac (Ah (Ab ?_)))
 refine ls F W Aa (Af F Aa).q fun a w F W => ?_
 refine ls F W Aa (Ec Lz LS F Aa).q fun a w F W => ?_
 obtain ⟨x1, h1, H⟩ := Am H
 refine LT (r := (Rp.flt .f64)) (0 : Nat) F W Aa I4 QG Aa Aa (fun w A => Fl.flt.mk' w A _) h1 Aa fun v2 a w F W => ?_
 refine ls F W Aa (Ae F Aa).q fun a w F W => ?_
 refine Ad (Ac (Ah (Ab ?_)))
 iterate 2 refine ls F W Aa (Af F Aa).q fun a w F W => ?_
 refine NV (r := (Rp.flt .f64)) (k := 0) F W Aa I4 Aa Aa Aa Aa (ML W s_v1) fun a w F W => ?_
 have W : Stw ⟨Y, [], w0⟩ [] [row v2 50 (Rp.flt .f64) (KI x1 0 (min p0.length x1.length) p0)] w := W
 refine ls F W Aa (Ae F Aa).q fun a w F W => ?_
 refine Ad (Ac ?_)
 obtain ⟨o1, G1, K1⟩ := Am H
 refine AJ (fun a w => ∃ x2 : List Nat, some (x2) = some o1 ∧ Fr 48 [] [(4, .slice none 0 0), (7, v2)] a ∧ Stw ⟨Y, [], w0⟩ [] [row v2 50 (Rp.flt .f64) x2] w) ?_ ?_
 ·
  have H := G1
  clear G1 K1
  refine As ?_
  refine A4 H (fun s a w => Fr 48 [] [(4, .slice none 0 0), (7, v2), (8, .int .i64 s.2)] a ∧ Stw ⟨Y, [], w0⟩ [] [row v2 50 (Rp.flt .f64) s.1] w) ⟨F.re ⟨rfl, Aa, Aa, trivial⟩, W⟩ fun s o a w H L2 hR => ?_
  obtain ⟨x3, x4⟩ := s
  obtain ⟨F, W⟩ := hR
  have F : Fr 48 [] [(4, .slice none 0 0), (7, v2), (8, .int .i64 x4)] a := F
  have W : Stw ⟨Y, [], w0⟩ [] [row v2 50 (Rp.flt .f64) x3] w := W
  rw [Bi] at H
  refine Ah (Ah (Ab ?_))
  iterate 2 refine ls F W Aa (Af F Aa).q fun a w F W => ?_
  refine ls F W Aa (Bh (r := (Rp.flt .f64)) (l := x3) KT Aa F Aa (Ax 0 Aa)).q fun a w F W => ?_
  refine ls F W Aa (Bg F Aa Aa).q fun a w F W => ?_
  refine Ad (Ac ?_)
  refine Aw F Aa (fun hb => ?_) fun hb => ?_
  ·
   have H := AM (Bj hb) H
   rw [hb] at F
   clear hb
   refine Aq (Ac (As ?_))
   refine M7 7 [0] [1, 2, 3, 4, 5, 6] (fun ch a d v w h => by cases d <;> exact h) W MO (by kernel_rfl) ?_
   refine hm F Aa Aa Aa fun a F => ?_
   refine OV ?_
   iterate 2 refine hs F Aa Aa Aa (Af F Aa).q fun a F => ?_
   obtain ⟨x5, h2, H⟩ := Am H
   refine hs F Aa Aa Aa (Gz (r := (Rp.flt .f64)) I4 F Aa Aa Aa (Ax 0 Aa) h2).q fun a F => ?_
   iterate 2 refine hs F Aa Aa Aa (Af F Aa).q fun a F => ?_
   obtain ⟨x6, h3, H⟩ := Am H
   refine hs F Aa Aa Aa (Gz (r := (Rp.flt .f64)) I4 F Aa Aa Aa (Ax 0 Aa) h3).q fun a F => ?_
   refine PQ fun w W => ?_
   have W : Stw ⟨Y, [], w0⟩ [] [row v2 50 (Rp.flt .f64) x3] w := W
   refine MN (r := (Rp.flt .f64)) (v := v2) (k := 0) F W Aa I4 Aa Aa Aa Aa h2 (JI.sub (DP W 0 Aa) h3) fun a w F W => ?_
   have W : Stw ⟨Y, [], w0⟩ [] [row v2 50 (Rp.flt .f64) (KI x3 x4 (min x6.length x5.length) x6)] w := W
   refine ls F W Aa (BB F Aa Aa Aa).q fun a w F W => ?_
   refine ls F W Aa (Ae F Aa).q fun a w F W => ?_
   refine Ad (AR (Ac ?_))
   exact ⟨_, H, F.re ⟨rfl, Aa, Aa, trivial⟩, W⟩
  have H := AN (Bk hb) H
  rw [hb] at F
  clear hb
  refine Ba ?_
  iterate 2 refine Br ?_
  refine Bb (Ac ?_)
  have H := L2 _ H
  exact ⟨_, H, F.re ⟨rfl, Aa, trivial⟩, W⟩
 rintro a w ⟨x2, hj, F, W⟩
 have hj := AP hj
 subst hj
 have H := K1
 clear G1 K1
 refine Ah (Ab ?_)
 refine ls F W Aa (Af F Aa).q fun a w F W => ?_
 refine ls F W Aa (Ae F Aa).q fun a w F W => ?_
 refine Ad (Ac (Av ?_))
 have H := AP H
 subst H
 refine AQ (.inl Aa) F W Aa (Ap F Aa) ?_
 exact ⟨(v2), Aa, W⟩
theorem RW : type_of% Try.underlying5 := Try.underlying5
theorem Sb : type_of% Try.underlying9 := Try.underlying9
theorem QI : type_of% Try.underlying49 := Try.underlying49
theorem Q0 : Has Try.prog 38 := ⟨fun args w => Aj Try.func38 rfl (by decide) args w⟩
theorem Q2 : (Try.prog.info? 35).bind (·.zero) = some (.slice none 0 0) := by kernel_rfl
theorem NS : Ty Try.prog 35 false 1 := ⟨by kernel_rfl, by kernel_rfl⟩
noncomputable def EI (p0 : Int) : Option Int := (if 4294967296 ≤ p0 then some (Hs .u64 p0 32, 32) else some (p0, 0)).bind fun (x1, x2) => (if 65536 ≤ x1 then some (Hs .u64 x1 16, BV (x2 + 16)) else some (x1, x2)).bind fun (x3, x4) => (if 256 ≤ x3 then some (Hs .u64 x3 8, BV (x4 + 8)) else some (x3, x4)).bind fun (x5, x6) => (ix ([0, 1, 2, 2, 3, 3, 3, 3, 4, 4, 4, 4, 4, 4, 4, 4, 5, 5, 5, 5, 5, 5, 5, 5, 5, 5, 5, 5, 5, 5, 5, 5, 6, 6, 6, 6, 6, 6, 6, 6, 6, 6, 6, 6, 6, 6, 6, 6, 6, 6, 6, 6, 6, 6, 6, 6, 6, 6, 6, 6, 6, 6, 6, 6, 7, 7, 7, 7, 7, 7, 7, 7, 7, 7, 7, 7, 7, 7, 7, 7, 7, 7, 7, 7, 7, 7, 7, 7, 7, 7, 7, 7, 7, 7, 7, 7, 7, 7, 7, 7, 7, 7, 7, 7, 7, 7, 7, 7, 7, 7, 7, 7, 7, 7, 7, 7, 7, 7, 7, 7, 7, 7, 7, 7, 7, 7, 7, 7, 8, 8, 8, 8, 8, 8, 8, 8, 8, 8, 8, 8, 8, 8, 8, 8, 8, 8, 8, 8, 8, 8, 8, 8, 8, 8, 8, 8, 8, 8, 8, 8, 8, 8, 8, 8, 8, 8, 8, 8, 8, 8, 8, 8, 8, 8, 8, 8, 8, 8, 8, 8, 8, 8, 8, 8, 8, 8, 8, 8, 8, 8, 8, 8, 8, 8, 8, 8, 8, 8, 8, 8, 8, 8, 8, 8, 8, 8, 8, 8, 8, 8, 8, 8, 8, 8, 8, 8, 8, 8, 8, 8, 8, 8, 8, 8, 8, 8, 8, 8, 8, 8, 8, 8, 8, 8, 8, 8, 8, 8, 8, 8, 8, 8, 8, 8, 8, 8, 8, 8, 8, 8, 8, 8, 8, 8, 8, 8] : List UInt8) (IntKind.u8.wrap x5)).bind fun x7 => some (BV (x6 + (BV (x7.toNat : Int))))
theorem Hz (Y : Nat → Prop) (w0 : World)  (p0 : Int) (r : Int) (H : EI p0 = some r)  :
    Calls Try.prog 72 #[.int .u64 p0] w0 fun e w' => e = .returned (.int .i64 r) ∧ Below w0.heap.size w0 w' := by
 refine enter Try.func72 Aa Try.ntmps72 Aa fun a F => ?_
 have W := Stw.start Y w0
 unfold EI at H
 refine Ah (Ab ?_)
 refine ls F W Aa (Ae F Aa).q fun a w F W => ?_
 refine Ad (Ac ?_)
 obtain ⟨o1, G1, K1⟩ := Am H
 refine AJ (fun a w => ∃ x1 : Int, ∃ x2 : Int, some ((x1, x2)) = some o1 ∧ Fr 25 [] [(0, .int .u64 x1), (2, .int .i64 x2)] a ∧ Stw ⟨Y, [], w0⟩ [] [] w) ?_ ?_
 ·
  have H := G1
  clear G1 K1
  refine Ah (Ab ?_)
  refine ls F W Aa (Af F Aa).q fun a w F W => ?_
  refine ls F W Aa (Ei F Aa Aa).q fun a w F W => ?_
  refine Ad (Ac ?_)
  refine Aw F Aa (fun hb => ?_) fun hb => ?_
  ·
   have H := AM (Bj hb) H
   rw [hb] at F
   clear hb
   refine Ah (Ab ?_)
   refine ls F W Aa (Af F Aa).q fun a w F W => ?_
   refine ls F W Aa (Iw F Aa Aa (by decide)).q fun a w F W => ?_
   refine ls F W Aa (Ae F Aa).q fun a w F W => ?_
   refine Ad (Ac (Ab ?_))
   refine ls F W Aa (Ae F Aa).q fun a w F W => ?_
   refine Ad (Ac ?_)
   exact ⟨_, _, H, F.re ⟨rfl, Aa, trivial⟩, W⟩
  have H := AN (Bk hb) H
  rw [hb] at F
  clear hb
  refine Aq (Ac ?_)
  exact ⟨_, _, H, F.re ⟨rfl, Aa, trivial⟩, W⟩
 rintro a w ⟨x1, x2, hj, F, W⟩
 have hj := AP hj
 subst hj
 have H := K1
 clear G1 K1
 obtain ⟨o2, G2, K2⟩ := Am H
 refine AJ (fun a w => ∃ x3 : Int, ∃ x4 : Int, some ((x3, x4)) = some o2 ∧ Fr 25 [] [(0, .int .u64 x3), (2, .int .i64 x4)] a ∧ Stw ⟨Y, [], w0⟩ [] [] w) ?_ ?_
 ·
  have H := G2
  clear G2 K2
  refine Ah (Ab ?_)
  refine ls F W Aa (Af F Aa).q fun a w F W => ?_
  refine ls F W Aa (Ei F Aa Aa).q fun a w F W => ?_
  refine Ad (Ac ?_)
  refine Aw F Aa (fun hb => ?_) fun hb => ?_
  ·
   have H := AM (Bj hb) H
   rw [hb] at F
   clear hb
   refine Ah (Ab ?_)
   refine ls F W Aa (Af F Aa).q fun a w F W => ?_
   refine ls F W Aa (Iw F Aa Aa (by decide)).q fun a w F W => ?_
   refine ls F W Aa (Ae F Aa).q fun a w F W => ?_
   refine Ad (Ac (Ab ?_))
   refine ls F W Aa (Af F Aa).q fun a w F W => ?_
   refine ls F W Aa (BB F Aa Aa Aa).q fun a w F W => ?_
   refine ls F W Aa (Ae F Aa).q fun a w F W => ?_
   refine Ad (Ac ?_)
   exact ⟨_, _, H, F.re ⟨rfl, Aa, trivial⟩, W⟩
  have H := AN (Bk hb) H
  rw [hb] at F
  clear hb
  refine Aq (Ac ?_)
  exact ⟨_, _, H, F.re ⟨rfl, Aa, trivial⟩, W⟩
 rintro a w ⟨x3, x4, hj, F, W⟩
 have hj := AP hj
 subst hj
 have H := K2
 clear G2 K2
 obtain ⟨o3, G3, K3⟩ := Am H
 refine AJ (fun a w => ∃ x5 : Int, ∃ x6 : Int, some ((x5, x6)) = some o3 ∧ Fr 25 [] [(0, .int .u64 x5), (2, .int .i64 x6)] a ∧ Stw ⟨Y, [], w0⟩ [] [] w) ?_ ?_
 ·
  have H := G3
  clear G3 K3
  refine Ah (Ab ?_)
  refine ls F W Aa (Af F Aa).q fun a w F W => ?_
  refine ls F W Aa (Ei F Aa Aa).q fun a w F W => ?_
  refine Ad (Ac ?_)
  refine Aw F Aa (fun hb => ?_) fun hb => ?_
  ·
   have H := AM (Bj hb) H
   rw [hb] at F
   clear hb
   refine Ah (Ab ?_)
   refine ls F W Aa (Af F Aa).q fun a w F W => ?_
   refine ls F W Aa (Iw F Aa Aa (by decide)).q fun a w F W => ?_
   refine ls F W Aa (Ae F Aa).q fun a w F W => ?_
   refine Ad (Ac (Ab ?_))
   refine ls F W Aa (Af F Aa).q fun a w F W => ?_
   refine ls F W Aa (BB F Aa Aa Aa).q fun a w F W => ?_
   refine ls F W Aa (Ae F Aa).q fun a w F W => ?_
   refine Ad (Ac ?_)
   exact ⟨_, _, H, F.re ⟨rfl, Aa, trivial⟩, W⟩
  have H := AN (Bk hb) H
  rw [hb] at F
  clear hb
  refine Aq (Ac ?_)
  exact ⟨_, _, H, F.re ⟨rfl, Aa, trivial⟩, W⟩
 rintro a w ⟨x5, x6, hj, F, W⟩
 have hj := AP hj
 subst hj
 have H := K3
 clear G3 K3
 refine Ah (Ab ?_)
 iterate 2 refine ls F W Aa (Af F Aa).q fun a w F W => ?_
 refine ls F W Aa (Ec QI RW F Aa).q fun a w F W => ?_
 obtain ⟨x7, h1, H⟩ := Am H
 refine ls F W Aa (N0 (l := ([0, 1, 2, 2, 3, 3, 3, 3, 4, 4, 4, 4, 4, 4, 4, 4, 5, 5, 5, 5, 5, 5, 5, 5, 5, 5, 5, 5, 5, 5, 5, 5, 6, 6, 6, 6, 6, 6, 6, 6, 6, 6, 6, 6, 6, 6, 6, 6, 6, 6, 6, 6, 6, 6, 6, 6, 6, 6, 6, 6, 6, 6, 6, 6, 7, 7, 7, 7, 7, 7, 7, 7, 7, 7, 7, 7, 7, 7, 7, 7, 7, 7, 7, 7, 7, 7, 7, 7, 7, 7, 7, 7, 7, 7, 7, 7, 7, 7, 7, 7, 7, 7, 7, 7, 7, 7, 7, 7, 7, 7, 7, 7, 7, 7, 7, 7, 7, 7, 7, 7, 7, 7, 7, 7, 7, 7, 7, 7, 8, 8, 8, 8, 8, 8, 8, 8, 8, 8, 8, 8, 8, 8, 8, 8, 8, 8, 8, 8, 8, 8, 8, 8, 8, 8, 8, 8, 8, 8, 8, 8, 8, 8, 8, 8, 8, 8, 8, 8, 8, 8, 8, 8, 8, 8, 8, 8, 8, 8, 8, 8, 8, 8, 8, 8, 8, 8, 8, 8, 8, 8, 8, 8, 8, 8, 8, 8, 8, 8, 8, 8, 8, 8, 8, 8, 8, 8, 8, 8, 8, 8, 8, 8, 8, 8, 8, 8, 8, 8, 8, 8, 8, 8, 8, 8, 8, 8, 8, 8, 8, 8, 8, 8, 8, 8, 8, 8, 8, 8, 8, 8, 8, 8, 8, 8, 8, 8, 8, 8, 8, 8, 8, 8, 8, 8, 8, 8] : List UInt8)) Sb F Aa Aa h1).q fun a w F W => ?_
 refine ls F W Aa (Ec RW LS F Aa).q fun a w F W => ?_
 refine ls F W Aa (BB F Aa Aa Aa).q fun a w F W => ?_
 refine ls F W Aa (Ae F Aa).q fun a w F W => ?_
 refine Ad (Ac (Av ?_))
 have H := AP H
 subst H
 refine AQ (.inl Aa) F W Aa (Ap F Aa) ?_
 exact ⟨rfl, W.done⟩
theorem SG : Has Try.prog 72 := ⟨fun args w => Aj Try.func72 rfl (by decide) args w⟩
noncomputable def CZ (p0 : Int) : Option Int := (EI p0).bind fun x1 => some x1
theorem FZ (Y : Nat → Prop) (w0 : World)  (p0 : Int) (r : Int) (H : CZ p0 = some r)  :
    Calls Try.prog 56 #[.int .u64 p0] w0 fun e w' => e = .returned (.int .i64 r) ∧ Below w0.heap.size w0 w' := by
 refine enter Try.func56 Aa Try.ntmps56 Aa fun a F => ?_
 have W := Stw.start Y w0
 unfold CZ at H
 refine Ah (Ab ?_)
 refine ls F W Aa (Ae F Aa).q fun a w F W => ?_
 refine Ad (Ac (Ah ?_))
 refine Jj F Aa ?_
 refine Aq (Ac (Ah (Ab ?_)))
 refine ls F W Aa (Af F Aa).q fun a w F W => ?_
 obtain ⟨x1, h1, H⟩ := Am H
 refine ls F W Aa (AW (v := Value.int .i64 x1) F SG Aa (fun w W => Hz any w p0 _ h1)) fun a w F W => ?_
 refine ls F W Aa (Ae F Aa).q fun a w F W => ?_
 refine Ad (Ac (Av ?_))
 have H := AP H
 subst H
 refine AQ (.inl Aa) F W Aa (Ap F Aa) ?_
 exact ⟨rfl, W.done⟩
theorem RQ : Has Try.prog 56 := ⟨fun args w => Aj Try.func56 rfl (by decide) args w⟩
theorem RI : Rm Try.prog 94 Extern.MathFloatBits.float64bits := fun args w => run_callFunc_extern Try.func94 (by kernel_rfl) (by kernel_rfl) (by kernel_rfl) (by kernel_rfl) args w
def Hw (p0 : Nat) : Nat := (Int.toNat (IU .u64 (p0 : Int) 9223372036854775808))
theorem LY (Y : Nat → Prop) (w0 : World)  (p0 : Nat) (r : Nat) (H : Hw p0 = r)  :
    Calls Try.prog 93 #[.float .f64 p0] w0 fun e w' => e = .returned (.float .f64 r) ∧ Below w0.heap.size w0 w' := by
 refine enter Try.func93 Aa Try.ntmps93 Aa fun a F => ?_
 have W := Stw.start Y w0
 unfold Hw at H
 refine Ah (Ab ?_)
 refine ls F W Aa (Ae F Aa).q fun a w F W => ?_
 refine Ad (Ac (Ah (Ab ?_)))
 refine ls F W Aa (Af F Aa).q fun a w F W => ?_
 refine ls F W Aa (JV (v := Value.int .u64 (p0 : Int)) F RI Aa (fun w => rfl)).q fun a w F W => ?_
 refine ls F W Aa (ON F Aa Aa).q fun a w F W => ?_
 refine ls F W Aa (JV (v := Value.float .f64 (Int.toNat (IU .u64 (p0 : Int) 9223372036854775808))) F QW Aa (fun w => rfl)).q fun a w F W => ?_
 refine ls F W Aa (Ae F Aa).q fun a w F W => ?_
 refine Ad (Ac (Av ?_))
 subst H
 refine AQ (.inl Aa) F W Aa (Ap F Aa) ?_
 exact ⟨rfl, W.done⟩
theorem SD : Has Try.prog 93 := ⟨fun args w => Aj Try.func93 rfl (by decide) args w⟩
noncomputable def Do (p0 : Nat) (p1 : Int) : Option Bool := (if p1 = 0 then some (Hw p0) else (if p1 < 0 then some (Op.negFloat .f64 p0) else some p0)).bind fun x1 => some (Pe x1 9218868437227405311)
theorem HN (Y : Nat → Prop) (w0 : World)  (p0 : Nat) (p1 : Int) (r : Bool) (H : Do p0 p1 = some r)  :
    Calls Try.prog 87 #[.float .f64 p0, .int .i64 p1] w0 fun e w' => e = .returned (.bool r) ∧ Below w0.heap.size w0 w' := by
 refine enter Try.func87 Aa Try.ntmps87 Aa fun a F => ?_
 have W := Stw.start Y w0
 unfold Do at H
 refine Ah (Ab ?_)
 refine ls F W Aa (Ae F Aa).q fun a w F W => ?_
 refine Ad (Ac ?_)
 obtain ⟨o1, G1, K1⟩ := Am H
 refine AJ (fun a w => ∃ x1 : Nat, some (x1) = some o1 ∧ Fr 15 [] [(0, .float .f64 x1), (4, .bool false)] a ∧ Stw ⟨Y, [], w0⟩ [] [] w) ?_ ?_
 ·
  have H := G1
  clear G1 K1
  refine Ah (Ab ?_)
  refine ls F W Aa (Af F Aa).q fun a w F W => ?_
  refine ls F W Aa (DO F Aa Aa).q fun a w F W => ?_
  refine Ad (Ac ?_)
  refine Aw F Aa (fun hb => ?_) fun hb => ?_
  ·
   have H := AM (Bj hb) H
   rw [hb] at F
   clear hb
   refine Ab ?_
   refine ls F W Aa (Af F Aa).q fun a w F W => ?_
   refine ls F W Aa (AW (v := Value.float .f64 (Hw p0)) F SD Aa (fun w W => LY any w p0 _ Aa)) fun a w F W => ?_
   refine ls F W Aa (Ae F Aa).q fun a w F W => ?_
   refine Ad (Ac ?_)
   exact ⟨_, H, F.re ⟨rfl, Aa, trivial⟩, W⟩
  have H := AN (Bk hb) H
  rw [hb] at F
  clear hb
  refine Ah (Ab ?_)
  refine ls F W Aa (Af F Aa).q fun a w F W => ?_
  refine ls F W Aa (Bg F Aa Aa).q fun a w F W => ?_
  refine Ad (Ac ?_)
  refine Aw F Aa (fun hb => ?_) fun hb => ?_
  ·
   have H := AM (Bj hb) H
   rw [hb] at F
   clear hb
   refine Ab ?_
   refine ls F W Aa (Af F Aa).q fun a w F W => ?_
   refine ls F W Aa (Qt F Aa).q fun a w F W => ?_
   refine ls F W Aa (Ae F Aa).q fun a w F W => ?_
   refine Ad (Ac ?_)
   exact ⟨_, H, F.re ⟨rfl, Aa, trivial⟩, W⟩
  have H := AN (Bk hb) H
  rw [hb] at F
  clear hb
  refine Aq (Ac ?_)
  exact ⟨_, H, F.re ⟨rfl, Aa, trivial⟩, W⟩
 rintro a w ⟨x1, hj, F, W⟩
 have hj := AP hj
 subst hj
 have H := K1
 clear G1 K1
 refine Ah (Ab ?_)
 refine ls F W Aa (Af F Aa).q fun a w F W => ?_
 refine ls F W Aa (Ms F Aa Aa).q fun a w F W => ?_
 refine ls F W Aa (Ae F Aa).q fun a w F W => ?_
 refine Ad (Ac (Av ?_))
 have H := AP H
 subst H
 refine AQ (.inl Aa) F W Aa (Ap F Aa) ?_
 exact ⟨rfl, W.done⟩
theorem R4 : type_of% Try.underlying2 := Try.underlying2
theorem RA : Has Try.prog 87 := ⟨fun args w => Aj Try.func87 rfl (by decide) args w⟩
def DB (p0 : Nat) : Bool := decide ((BV (p0 : Int)) < 0)
theorem Jn (Y : Nat → Prop) (w0 : World)  (p0 : Nat) (r : Bool) (H : DB p0 = r)  :
    Calls Try.prog 88 #[.float .f64 p0] w0 fun e w' => e = .returned (.bool r) ∧ Below w0.heap.size w0 w' := by
 refine enter Try.func88 Aa Try.ntmps88 Aa fun a F => ?_
 have W := Stw.start Y w0
 unfold DB at H
 refine Ah (Ab ?_)
 refine ls F W Aa (Ae F Aa).q fun a w F W => ?_
 refine Ad (Ac (Ah (Ab ?_)))
 refine ls F W Aa (Af F Aa).q fun a w F W => ?_
 refine ls F W Aa (JV (v := Value.int .u64 (p0 : Int)) F RI Aa (fun w => rfl)).q fun a w F W => ?_
 refine ls F W Aa (Ec QI R4 F Aa).q fun a w F W => ?_
 refine ls F W Aa (Bg F Aa Aa).q fun a w F W => ?_
 refine ls F W Aa (Ae F Aa).q fun a w F W => ?_
 refine Ad (Ac (Av ?_))
 subst H
 refine AQ (.inl Aa) F W Aa (Ap F Aa) ?_
 exact ⟨rfl, W.done⟩
theorem Sx : Has Try.prog 88 := ⟨fun args w => Aj Try.func88 rfl (by decide) args w⟩
noncomputable def EF (p0 : Nat) : Option Int := (if (B9 p0) = true then some 0 else (Do p0 (-1)).bind fun x1 => (if x1 = true then some 1 else (if (Pd p0 0) = true then some 2 else (Do p0 1).bind fun x2 => (if x2 = true then some 6 else (if (Pe p0 0) = true then some 5 else (if (DB p0) = true then some 3 else some 4))))))
theorem JH (Y : Nat → Prop) (w0 : World)  (p0 : Nat) (r : Int) (H : EF p0 = some r)  :
    Calls Try.prog 73 #[.float .f64 p0] w0 fun e w' => e = .returned (.int .i64 r) ∧ Below w0.heap.size w0 w' := by
 refine enter Try.func73 Aa Try.ntmps73 Aa fun a F => ?_
 have W := Stw.start Y w0
 unfold EF at H
 refine Ah (Ab ?_)
 refine ls F W Aa (Ae F Aa).q fun a w F W => ?_
 refine Ad (Ac (Ah (As (Ah (Ab ?_)))))
 refine ls F W Aa (Af F Aa).q fun a w F W => ?_
 refine ls F W Aa (AW (v := Value.bool (B9 p0)) F RP Aa (fun w W => Hj any w p0 _ Aa)) fun a w F W => ?_
 refine ls F W Aa (Ae F Aa).q fun a w F W => ?_
 refine Ad (Ac ?_)
 refine Aw F Aa (fun hb => ?_) fun hb => ?_
 ·
  have H := AM hb H
  rw [hb] at F
  clear hb
  refine Ah (Ab ?_)
  refine ls F W Aa (Ae F Aa).q fun a w F W => ?_
  refine Ad (Ac (Av (AU (AH ?_))))
  have H := AP H
  subst H
  refine AQ (.inl Aa) F W Aa (Ap F Aa) ?_
  exact ⟨rfl, W.done⟩
 have H := AN (by rw [hb]; decide) H
 rw [hb] at F
 clear hb
 refine Ah (Ab ?_)
 refine ls F W Aa (Af F Aa).q fun a w F W => ?_
 obtain ⟨x1, h1, H⟩ := Am H
 refine ls F W Aa (AW (v := Value.bool x1) F RA Aa (fun w W => HN any w p0 (-1) _ h1)) fun a w F W => ?_
 refine ls F W Aa (Ae F Aa).q fun a w F W => ?_
 refine Ad (Ac ?_)
 refine Aw F Aa (fun hb => ?_) fun hb => ?_
 ·
  have H := AM hb H
  rw [hb] at F
  clear hb
  refine Ah (Ab ?_)
  refine ls F W Aa (Ae F Aa).q fun a w F W => ?_
  refine Ad (Ac (Av (AU (AH ?_))))
  have H := AP H
  subst H
  refine AQ (.inl Aa) F W Aa (Ap F Aa) ?_
  exact ⟨rfl, W.done⟩
 have H := AN (by rw [hb]; decide) H
 rw [hb] at F
 clear hb
 refine Ah (Ab ?_)
 refine ls F W Aa (Af F Aa).q fun a w F W => ?_
 refine ls F W Aa (KD F Aa Aa).q fun a w F W => ?_
 refine ls F W Aa (Ae F Aa).q fun a w F W => ?_
 refine Ad (Ac ?_)
 refine Aw F Aa (fun hb => ?_) fun hb => ?_
 ·
  have H := AM hb H
  rw [hb] at F
  clear hb
  refine Ah (Ab ?_)
  refine ls F W Aa (Ae F Aa).q fun a w F W => ?_
  refine Ad (Ac (Av (AU (AH ?_))))
  have H := AP H
  subst H
  refine AQ (.inl Aa) F W Aa (Ap F Aa) ?_
  exact ⟨rfl, W.done⟩
 have H := AN (by rw [hb]; decide) H
 rw [hb] at F
 clear hb
 refine Ah (Ab ?_)
 refine ls F W Aa (Af F Aa).q fun a w F W => ?_
 obtain ⟨x2, h2, H⟩ := Am H
 refine ls F W Aa (AW (v := Value.bool x2) F RA Aa (fun w W => HN any w p0 1 _ h2)) fun a w F W => ?_
 refine ls F W Aa (Ae F Aa).q fun a w F W => ?_
 refine Ad (Ac ?_)
 refine Aw F Aa (fun hb => ?_) fun hb => ?_
 ·
  have H := AM hb H
  rw [hb] at F
  clear hb
  refine Ah (Ab ?_)
  refine ls F W Aa (Ae F Aa).q fun a w F W => ?_
  refine Ad (Ac (Av (AU (AH ?_))))
  have H := AP H
  subst H
  refine AQ (.inl Aa) F W Aa (Ap F Aa) ?_
  exact ⟨rfl, W.done⟩
 have H := AN (by rw [hb]; decide) H
 rw [hb] at F
 clear hb
 refine Ah (Ab ?_)
 refine ls F W Aa (Af F Aa).q fun a w F W => ?_
 refine ls F W Aa (Ms F Aa Aa).q fun a w F W => ?_
 refine ls F W Aa (Ae F Aa).q fun a w F W => ?_
 refine Ad (Ac ?_)
 refine Aw F Aa (fun hb => ?_) fun hb => ?_
 ·
  have H := AM hb H
  rw [hb] at F
  clear hb
  refine Ah (Ab ?_)
  refine ls F W Aa (Ae F Aa).q fun a w F W => ?_
  refine Ad (Ac (Av (AU (AH ?_))))
  have H := AP H
  subst H
  refine AQ (.inl Aa) F W Aa (Ap F Aa) ?_
  exact ⟨rfl, W.done⟩
 have H := AN (by rw [hb]; decide) H
 rw [hb] at F
 clear hb
 refine Ah (Ab ?_)
 refine ls F W Aa (Af F Aa).q fun a w F W => ?_
 refine ls F W Aa (AW (v := Value.bool (DB p0)) F Sx Aa (fun w W => Jn any w p0 _ Aa)) fun a w F W => ?_
 refine ls F W Aa (Ae F Aa).q fun a w F W => ?_
 refine Ad (Ac ?_)
 refine Aw F Aa (fun hb => ?_) fun hb => ?_
 ·
  have H := AM hb H
  rw [hb] at F
  clear hb
  refine Ah (Ab ?_)
  refine ls F W Aa (Ae F Aa).q fun a w F W => ?_
  refine Ad (Ac (Av (AU (AH ?_))))
  have H := AP H
  subst H
  refine AQ (.inl Aa) F W Aa (Ap F Aa) ?_
  exact ⟨rfl, W.done⟩
 have H := AN (by rw [hb]; decide) H
 rw [hb] at F
 clear hb
 refine Aq (AR (Ac (Ah (Ab ?_))))
 refine ls F W Aa (Ae F Aa).q fun a w F W => ?_
 refine Ad (Ac (Av ?_))
 have H := AP H
 subst H
 refine AQ (.inl Aa) F W Aa (Ap F Aa) ?_
 exact ⟨rfl, W.done⟩
theorem R8 : Has Try.prog 73 := ⟨fun args w => Aj Try.func73 rfl (by decide) args w⟩
noncomputable def Em (p0 : Nat) : Option Int := (EF p0).bind fun x1 => (if x1 ≠ 0 then some x1 else some 7)
theorem HB (Y : Nat → Prop) (w0 : World)  (p0 : Nat) (r : Int) (H : Em p0 = some r)  :
    Calls Try.prog 57 #[.float .f64 p0] w0 fun e w' => e = .returned (.int .i64 r) ∧ Below w0.heap.size w0 w' := by
 refine enter Try.func57 Aa Try.ntmps57 Aa fun a F => ?_
 have W := Stw.start Y w0
 unfold Em at H
 refine Ah (Ab ?_)
 refine ls F W Aa (Ae F Aa).q fun a w F W => ?_
 refine Ad (Ac (Ah (Ah (Ab ?_))))
 refine ls F W Aa (Af F Aa).q fun a w F W => ?_
 obtain ⟨x1, h1, H⟩ := Am H
 refine ls F W Aa (AW (v := Value.int .i64 x1) F R8 Aa (fun w W => JH any w p0 _ h1)) fun a w F W => ?_
 refine ls F W Aa (Ae F Aa).q fun a w F W => ?_
 refine Ad (Ac (Ah (Ab ?_)))
 refine ls F W Aa (Af F Aa).q fun a w F W => ?_
 refine ls F W Aa (GM F Aa Aa).q fun a w F W => ?_
 refine Ad (Ac ?_)
 refine Aw F Aa (fun hb => ?_) fun hb => ?_
 ·
  have H := AM (Bj hb) H
  rw [hb] at F
  clear hb
  refine Ah (Ab ?_)
  refine ls F W Aa (Af F Aa).q fun a w F W => ?_
  refine ls F W Aa (Ae F Aa).q fun a w F W => ?_
  refine Ad (Ac (Av (AH ?_)))
  have H := AP H
  subst H
  refine AQ (.inl Aa) F W Aa (Ap F Aa) ?_
  exact ⟨rfl, W.done⟩
 have H := AN (Bk hb) H
 rw [hb] at F
 clear hb
 refine Aq (Ac (Ah (Ab ?_)))
 refine ls F W Aa (Ae F Aa).q fun a w F W => ?_
 refine Ad (Ac (Av ?_))
 have H := AP H
 subst H
 refine AQ (.inl Aa) F W Aa (Ap F Aa) ?_
 exact ⟨rfl, W.done⟩
theorem RC : Has Try.prog 57 := ⟨fun args w => Aj Try.func57 rfl (by decide) args w⟩
noncomputable def DK (p0 : Nat) (p1 : Nat) : Option Int := (Em p0).bind fun x1 => (Em p1).bind fun x2 => (if x1 < x2 then some (-1) else (if x2 < x1 then some 1 else (if (Pd p0 p1) = true then some (-1) else (if (Pe p0 p1) = true then some 1 else some 0))))
theorem IH (Y : Nat → Prop) (w0 : World)  (p0 : Nat) (p1 : Nat) (r : Int) (H : DK p0 p1 = some r)  :
    Calls Try.prog 42 #[.float .f64 p0, .float .f64 p1] w0 fun e w' => e = .returned (.int .i64 r) ∧ Below w0.heap.size w0 w' := by
 refine enter Try.func42 Aa Try.ntmps42 Aa fun a F => ?_
 have W := Stw.start Y w0
 unfold DK at H
 refine Ah (Ab ?_)
 refine ls F W Aa (Ae F Aa).q fun a w F W => ?_
 refine Ad (Ac (Ah (Ah (Ab ?_))))
 refine ls F W Aa (Af F Aa).q fun a w F W => ?_
 obtain ⟨x1, h1, H⟩ := Am H
 refine ls F W Aa (AW (v := Value.int .i64 x1) F RC Aa (fun w W => HB any w p0 _ h1)) fun a w F W => ?_
 refine ls F W Aa (Af F Aa).q fun a w F W => ?_
 obtain ⟨x2, h2, H⟩ := Am H
 refine ls F W Aa (AW (v := Value.int .i64 x2) F RC Aa (fun w W => HB any w p1 _ h2)) fun a w F W => ?_
 iterate 2 refine ls F W Aa (Ae F Aa).q fun a w F W => ?_
 refine Ad (Ac (As (Ah (Ab ?_))))
 iterate 2 refine ls F W Aa (Af F Aa).q fun a w F W => ?_
 refine ls F W Aa (Bg F Aa Aa).q fun a w F W => ?_
 refine ls F W Aa (Ae F Aa).q fun a w F W => ?_
 refine Ad (Ac ?_)
 refine Aw F Aa (fun hb => ?_) fun hb => ?_
 ·
  have H := AM (Bj hb) H
  rw [hb] at F
  clear hb
  refine Ah (Ab ?_)
  refine ls F W Aa (Ae F Aa).q fun a w F W => ?_
  refine Ad (Ac (Av (AU (AH ?_))))
  have H := AP H
  subst H
  refine AQ (.inl Aa) F W Aa (Ap F Aa) ?_
  exact ⟨rfl, W.done⟩
 have H := AN (Bk hb) H
 rw [hb] at F
 clear hb
 refine Ah (Ab ?_)
 iterate 2 refine ls F W Aa (Af F Aa).q fun a w F W => ?_
 refine ls F W Aa (DI F Aa Aa).q fun a w F W => ?_
 refine ls F W Aa (Ae F Aa).q fun a w F W => ?_
 refine Ad (Ac ?_)
 refine Aw F Aa (fun hb => ?_) fun hb => ?_
 ·
  have H := AM (Bj hb) H
  rw [hb] at F
  clear hb
  refine Ah (Ab ?_)
  refine ls F W Aa (Ae F Aa).q fun a w F W => ?_
  refine Ad (Ac (Av (AU (AH ?_))))
  have H := AP H
  subst H
  refine AQ (.inl Aa) F W Aa (Ap F Aa) ?_
  exact ⟨rfl, W.done⟩
 have H := AN (Bk hb) H
 rw [hb] at F
 clear hb
 refine Ah (Ab ?_)
 iterate 2 refine ls F W Aa (Af F Aa).q fun a w F W => ?_
 refine ls F W Aa (KD F Aa Aa).q fun a w F W => ?_
 refine ls F W Aa (Ae F Aa).q fun a w F W => ?_
 refine Ad (Ac ?_)
 refine Aw F Aa (fun hb => ?_) fun hb => ?_
 ·
  have H := AM hb H
  rw [hb] at F
  clear hb
  refine Ah (Ab ?_)
  refine ls F W Aa (Ae F Aa).q fun a w F W => ?_
  refine Ad (Ac (Av (AU (AH ?_))))
  have H := AP H
  subst H
  refine AQ (.inl Aa) F W Aa (Ap F Aa) ?_
  exact ⟨rfl, W.done⟩
 have H := AN (by rw [hb]; decide) H
 rw [hb] at F
 clear hb
 refine Ah (Ab ?_)
 iterate 2 refine ls F W Aa (Af F Aa).q fun a w F W => ?_
 refine ls F W Aa (Ms F Aa Aa).q fun a w F W => ?_
 refine ls F W Aa (Ae F Aa).q fun a w F W => ?_
 refine Ad (Ac ?_)
 refine Aw F Aa (fun hb => ?_) fun hb => ?_
 ·
  have H := AM hb H
  rw [hb] at F
  clear hb
  refine Ah (Ab ?_)
  refine ls F W Aa (Ae F Aa).q fun a w F W => ?_
  refine Ad (Ac (Av (AU (AH ?_))))
  have H := AP H
  subst H
  refine AQ (.inl Aa) F W Aa (Ap F Aa) ?_
  exact ⟨rfl, W.done⟩
 have H := AN (by rw [hb]; decide) H
 rw [hb] at F
 clear hb
 refine Aq (AR (Ac (Ah (Ab ?_))))
 refine ls F W Aa (Ae F Aa).q fun a w F W => ?_
 refine Ad (Ac (Av ?_))
 have H := AP H
 subst H
 refine AQ (.inl Aa) F W Aa (Ap F Aa) ?_
 exact ⟨rfl, W.done⟩
theorem SS : Has Try.prog 42 := ⟨fun args w => Aj Try.func42 rfl (by decide) args w⟩
noncomputable def DL (p0 : Int) (p1 : Int) (p2 : List Nat) : Option Int := (ix p2 p0).bind fun x1 => (ix p2 p1).bind fun x2 => (DK x1 x2).bind fun x3 => some x3
theorem ID (Y : Nat → Prop) (w0 : World) (q_p2 : Nat) (v1 : Value) (p0 : Int) (p1 : Int) (p2 : List Nat) (r : Int) (H : DL p0 p1 p2 = some r) (h_v1 : Sl w0 (NX []) (Rp.flt .f64) v1 p2) (a_q_p2 : At ⟨Y, [], w0⟩ q_p2 0 [v1]) :
    Calls Try.prog 41 #[.int .i64 p0, .int .i64 p1, .pointer (some ⟨q_p2, 0, none⟩)] w0 fun e w' => e = .returned (.int .i64 r) ∧ Below w0.heap.size w0 w' := by
 refine enter Try.func41 Aa Try.ntmps41 Aa fun a F => ?_
 have W := Stw.start Y w0
 unfold DL at H
 refine Ah (Ab ?_)
 refine ls F W Aa (Ae F Aa).q fun a w F W => ?_
 refine Ad (Ac (Ah ?_))
 refine Cn W MO (by kernel_rfl) ?_
 refine qs F Aa (Ka (y := v1) (j := 0) F Aa (Nat.zero_add _).symm a_q_p2 NS Aa).q fun a F => ?_
 refine qs F Aa (Af F Aa).q fun a F => ?_
 obtain ⟨x1, h1, H⟩ := Am H
 refine qs F Aa (AK (r := (Rp.flt .f64)) I4 F Aa Aa (Ak h_v1) h1).q fun a F => ?_
 refine qs F Aa (Ay (y := Value.float .f64 x1) (j := 0) (i := p0) F Aa Aa (Ak h_v1) h1 Fl.flt.to NO Aa).q fun a F => ?_
 refine qs F Aa (Ka (y := v1) (j := 0) F Aa (Nat.zero_add _).symm a_q_p2 NS Aa).q fun a F => ?_
 refine qs F Aa (Af F Aa).q fun a F => ?_
 obtain ⟨x2, h2, H⟩ := Am H
 refine qs F Aa (AK (r := (Rp.flt .f64)) I4 F Aa Aa (Ak h_v1) h2).q fun a F => ?_
 refine qs F Aa (Ay (y := Value.float .f64 x2) (j := 0) (i := p1) F Aa Aa (Ak h_v1) h2 Fl.flt.to NO Aa).q fun a F => ?_
 obtain ⟨x3, h3, H⟩ := Am H
 refine qs F Aa (AW (v := Value.int .i64 x3) F SS Aa (fun w W => IH any w x1 x2 _ h3)) fun a F => ?_
 refine qs F Aa (Ae F Aa).q fun a F => ?_
 refine Bo fun w W => ?_
 refine Ac (Av ?_)
 have H := AP H
 subst H
 refine AQ (.inl Aa) F W Aa (Ap F Aa) ?_
 exact ⟨rfl, W.done⟩
theorem Sf : Has Try.prog 41 := ⟨fun args w => Aj Try.func41 rfl (by decide) args w⟩
noncomputable def A9 (p1 : Int) (p3c0 : List Nat) : (List Int × Int) → Option ((List Int × Int) ⊕ (List Int))
  | (x4, x5) => (if p1 < x5 then (ix x4 x5).bind fun x7 => (ix x4 (BV (x5 - 1))).bind fun x8 => (DL x7 x8 p3c0).bind fun x9 => some (decide (x9 < 0)) else some false).bind fun x6 => (if x6 = true then (ix x4 (BV (x5 - 1))).bind fun x10 => (ix x4 x5).bind fun x11 => (ix x4 x5).bind fun x12 => (ix (AE x4 x5 x10) (BV (x5 - 1))).bind fun x13 => some (.inl ((AE (AE x4 x5 x10) (BV (x5 - 1)) x11), BV (x5 - 1))) else some (.inr x4))
noncomputable def A1 (p1 : Int) (p2 : Int) (p3c0 : List Nat) : (List Int × Int) → Option ((List Int × Int) ⊕ (List Int))
  | (x1, x2) => (if x2 < p2 then (AA (A9 p1 p3c0) (x1, x2)).bind fun x3 => some (.inl (x3, BV (x2 + 1))) else some (.inr x1))
noncomputable def Bx (p0 : List Int) (p1 : Int) (p2 : Int) (p3c0 : List Nat) : Option (List Int) := AA (A1 p1 p2 p3c0) (p0, BV (p1 + 1))
theorem D1 (Y : Nat → Prop) (X : List Nat) (w0 : World) (v1 : Value) (q_p3c0 : Nat) (v2 : Value) (p0 : List Int) (p1 : Int) (p2 : Int) (p3c0 : List Nat) (r : List Int) (H : Bx p0 p1 p2 p3c0 = some r) (h_v2 : Sl w0 (NX X) (Rp.flt .f64) v2 p3c0) (a_q_p3c0 : At ⟨Y, X, w0⟩ q_p3c0 0 [v2]) (hL : Stw ⟨Y, X, w0⟩ [] [row v1 3 (Rp.int .i64) p0] w0) :
    Calls Try.prog 63 #[v1, .int .i64 p1, .int .i64 p2, .func (.func 41) #[] #[.pointer (some ⟨q_p3c0, 0, none⟩)]] w0 fun e w' => ∃ x : Unit, e = .returned (.tuple #[]) ∧ Stw ⟨Y, X, w0⟩ [] [row v1 3 (Rp.int .i64) r] w' := by
 refine enter Try.func63 Aa Try.ntmps63 Aa fun a F => ?_
 have W := hL
 unfold Bx at H
 refine Ah (Ab ?_)
 refine ls F W Aa (Af F Aa).q fun a w F W => ?_
 refine ls F W Aa (BB F Aa Aa Aa).q fun a w F W => ?_
 refine ls F W Aa (Ae F Aa).q fun a w F W => ?_
 refine Ad (Ac (As ?_))
 refine A4 H (fun s a w => Fr 53 [] [(0, v1), (1, .int .i64 p1), (2, .int .i64 p2), (3, .func (.func 41) #[] #[.pointer (some ⟨q_p3c0, 0, none⟩)]), (8, .int .i64 s.2)] a ∧ Stw ⟨Y, X, w0⟩ [] [row v1 3 (Rp.int .i64) s.1] w) ⟨F.re ⟨rfl, Aa, Aa, Aa, Aa, trivial⟩, W⟩ fun s o a w H L1 hR => ?_
 obtain ⟨x1, x2⟩ := s
 obtain ⟨F, W⟩ := hR
 have F : Fr 53 [] [(0, v1), (1, .int .i64 p1), (2, .int .i64 p2), (3, .func (.func 41) #[] #[.pointer (some ⟨q_p3c0, 0, none⟩)]), (8, .int .i64 x2)] a := F
 have W : Stw ⟨Y, X, w0⟩ [] [row v1 3 (Rp.int .i64) x1] w := W
 rw [A1] at H
 refine Ah (Ah (Ab ?_))
 iterate 2 refine ls F W Aa (Af F Aa).q fun a w F W => ?_
 refine ls F W Aa (Bg F Aa Aa).q fun a w F W => ?_
 refine Ad (Ac ?_)
 refine Aw F Aa (fun hb => ?_) fun hb => ?_
 ·
  have H := AM (Bj hb) H
  rw [hb] at F
  clear hb
  refine Aq (Ac ?_)
  obtain ⟨o2, G2, K2⟩ := Am H
  refine AJ (fun a w => ∃ x3 : List Int, some (x3) = some o2 ∧ Fr 53 [] [(0, v1), (1, .int .i64 p1), (2, .int .i64 p2), (3, .func (.func 41) #[] #[.pointer (some ⟨q_p3c0, 0, none⟩)]), (8, .int .i64 x2)] a ∧ Stw ⟨Y, X, w0⟩ [] [row v1 3 (Rp.int .i64) x3] w) ?_ ?_
  ·
   have H := G2
   clear G2 K2
   refine As (Ah (Ab ?_))
   refine ls F W Aa (Af F Aa).q fun a w F W => ?_
   refine ls F W Aa (Ae F Aa).q fun a w F W => ?_
   refine Ad (Ac (As ?_))
   refine A4 H (fun s a w => Fr 53 [] [(0, v1), (1, .int .i64 p1), (2, .int .i64 p2), (3, .func (.func 41) #[] #[.pointer (some ⟨q_p3c0, 0, none⟩)]), (8, .int .i64 x2), (9, .int .i64 s.2)] a ∧ Stw ⟨Y, X, w0⟩ [] [row v1 3 (Rp.int .i64) s.1] w) ⟨F.re ⟨rfl, Aa, Aa, Aa, Aa, Aa, trivial⟩, W⟩ fun s o a w H L3 hR => ?_
   obtain ⟨x4, x5⟩ := s
   obtain ⟨F, W⟩ := hR
   have F : Fr 53 [] [(0, v1), (1, .int .i64 p1), (2, .int .i64 p2), (3, .func (.func 41) #[] #[.pointer (some ⟨q_p3c0, 0, none⟩)]), (8, .int .i64 x2), (9, .int .i64 x5)] a := F
   have W : Stw ⟨Y, X, w0⟩ [] [row v1 3 (Rp.int .i64) x4] w := W
   rw [A9] at H
   refine Ah ?_
   obtain ⟨o4, G4, K4⟩ := Am H
   refine AJ (fun a w => ∃ x6 : Bool, some (x6) = some o4 ∧ Fr 53 [] [(0, v1), (1, .int .i64 p1), (2, .int .i64 p2), (3, .func (.func 41) #[] #[.pointer (some ⟨q_p3c0, 0, none⟩)]), (8, .int .i64 x2), (9, .int .i64 x5), (34, .bool x6)] a ∧ Stw ⟨Y, X, w0⟩ [] [row v1 3 (Rp.int .i64) x4] w) ?_ ?_
   ·
    have H := G4
    clear G4 K4
    refine Cn W MO (by kernel_rfl) ?_
    iterate 2 refine qs F Aa (Af F Aa).q fun a F => ?_
    refine qs F Aa (DI F Aa Aa).q fun a F => ?_
    refine qs F Aa (Af F Aa).q fun a F => ?_
    rcases Bool.eq_false_or_eq_true (decide (p1 < x5)) with hb | hb
    ·
     have H := AM (Bj hb) H
     rw [hb] at F
     clear hb
     iterate 3 refine BW F (Ag F Aa Aa Aa Aa) Aa (Al Aa) (Af F Aa).q fun a F => ?_
     obtain ⟨x7, h1, H⟩ := Am H
     refine BW F (Ag F Aa Aa Aa Aa) Aa (Al Aa) (AK (r := (Rp.int .i64)) EQ F Aa Aa (Ax 0 Aa) h1).q fun a F => ?_
     refine BW F (Ag F Aa Aa Aa Aa) Aa (Al Aa) (Ay (y := Value.int .i64 x7) (j := 0) (i := x5) F Aa Aa (Ax 0 Aa) h1 Fl.int.to T3 Aa).q fun a F => ?_
     iterate 2 refine BW F (Ag F Aa Aa Aa Aa) Aa (Al Aa) (Af F Aa).q fun a F => ?_
     refine BW F (Ag F Aa Aa Aa Aa) Aa (Al Aa) (Gi F Aa Aa Aa).q fun a F => ?_
     obtain ⟨x8, h2, H⟩ := Am H
     refine BW F (Ag F Aa Aa Aa Aa) Aa (Al Aa) (AK (r := (Rp.int .i64)) EQ F Aa Aa (Ax 0 Aa) h2).q fun a F => ?_
     refine BW F (Ag F Aa Aa Aa Aa) Aa (Al Aa) (Ay (y := Value.int .i64 x8) (j := 0) (i := BV (x5 - 1)) F Aa Aa (Ax 0 Aa) h2 Fl.int.to T3 Aa).q fun a F => ?_
     obtain ⟨x9, h3, H⟩ := Am H
     refine BW F (Ag F Aa Aa Aa Aa) Aa (Al Aa) (IM (ws := [.int .i64 x7, .int .i64 x8, .pointer (some ⟨q_p3c0, 0, none⟩)]) (v := Value.int .i64 x9) F Sf Aa (fun w W => ID any w q_p3c0 (v2) x7 x8 p3c0 _ h3 (((Ak h_v2) : CE _ _ _ _ _ _) w W).nx (At.re a_q_p3c0 W))) fun a F => ?_
     refine BW F (Ag F Aa Aa Aa Aa) Aa (Al Aa) (Bg F Aa Aa).q fun a F => ?_
     refine qs F Aa (Ao F Aa Aa Aa).q fun a F => ?_
     refine Bo fun w W => ?_
     refine Ac ?_
     exact ⟨_, H, F.re ⟨rfl, Aa, Aa, Aa, Aa, Aa, Aa, trivial⟩, W⟩
    have H := AN (Bk hb) H
    rw [hb] at F
    clear hb
    iterate 12 refine ER F (DN F Aa Aa Aa Aa Aa) Aa Aa fun a F => ?_
    refine qs F Aa (Au F Aa Aa Aa).q fun a F => ?_
    refine Bo fun w W => ?_
    refine Ac ?_
    exact ⟨_, H, F.re ⟨rfl, Aa, Aa, Aa, Aa, Aa, Aa, trivial⟩, W⟩
   rintro a w ⟨x6, hj, F, W⟩
   have hj := AP hj
   subst hj
   have H := K4
   clear G4 K4
   refine Aw F Aa (fun hb => ?_) fun hb => ?_
   ·
    have H := AM hb H
    rw [hb] at F
    clear hb
    refine Aq (Ac (Ah (As ?_)))
    refine I5 [(true, 0), (true, 1), (true, 2), (true, 3), (true, 4), (true, 5), (true, 6), (true, 7), (true, 8), (true, 9), (true, 10), (true, 11), (true, 12), (true, 13), (true, 14), (false, 15), (true, 16), (false, 17)] (CN ⟨Y, X, w0⟩ [] [(some 15, row v1 3 (Rp.int .i64) x4)]) (fun ch a d v w h => by cases d <;> exact h) MO (by kernel_rfl) W (fun w W => ⟨_, _, W, AL, (all_cons (fun _ => (.head _)) AL)⟩) fun w W => ?_
    iterate 4 refine Er (R := []) F Aa Aa (yC fun M Z hN hZ => Af F Aa) Aa Aa fun a F => ?_
    refine Er (R := []) F Aa Aa (yC fun M Z hN hZ => Gi F Aa Aa Aa) Aa Aa fun a F => ?_
    iterate 2 refine Er (R := []) F Aa Aa (yC fun M Z hN hZ => Af F Aa) Aa Aa fun a F => ?_
    refine Er (R := []) F Aa Aa (yC fun M Z hN hZ => Gi F Aa Aa Aa) Aa Aa fun a F => ?_
    obtain ⟨x10, h4, H⟩ := Am H
    refine Er (R := []) F Aa Aa (yC fun M Z hN hZ => EA (r := (Rp.int .i64)) EQ F Aa Aa (Iz W (Ax 0 Aa)) h4) Aa Aa fun a F => ?_
    refine Er (R := [15]) F Aa Aa (yC fun M Z hN hZ => Ay (y := Value.int .i64 x10) (j := 0) (i := BV (x5 - 1)) F Aa Aa (HJ (hZ ((some 15), row v1 3 (Rp.int .i64) x4) (.head _) Aa)) h4 Fl.int.to T3 Aa) (by kernel_rfl) Aa fun a F => ?_
    iterate 2 refine Er (R := []) F Aa Aa (yC fun M Z hN hZ => Af F Aa) Aa Aa fun a F => ?_
    obtain ⟨x11, h5, H⟩ := Am H
    refine Er (R := []) F Aa Aa (yC fun M Z hN hZ => EA (r := (Rp.int .i64)) EQ F Aa Aa (Iz W (Ax 0 Aa)) h5) Aa Aa fun a F => ?_
    refine Er (R := [15]) F Aa Aa (yC fun M Z hN hZ => Ay (y := Value.int .i64 x11) (j := 0) (i := x5) F Aa Aa (HJ (hZ ((some 15), row v1 3 (Rp.int .i64) x4) (.head _) Aa)) h5 Fl.int.to T3 Aa) (by kernel_rfl) Aa fun a F => ?_
    obtain ⟨x12, h6, H⟩ := Am H
    refine Er (R := []) F Aa Aa (yC fun M Z hN hZ => EA (r := (Rp.int .i64)) EQ F Aa Aa (Iz W (Ax 0 Aa)) h6) Aa Aa fun a F => ?_
    refine Lm Aa ?_
    refine CT (i := x5) (j := 0) (vs := [.int .i64 x10]) (x' := x10) F W Aa Aa Aa (k := 0) Aa Aa h6 T3 Aa Aa Aa Aa (fun A cs _ => Fl.int.sto (by rfl) _ _ _) fun w W => ?_
    refine Fd (N2 := []) (NZ2 := []) (N3 := []) (NZ3 := [(some 15, row v1 3 (Rp.int .i64) x4)]) W Aa Aa AL (all_cons (fun h => Cf (by kernel_rfl) h) AL) ?_
    obtain ⟨x13, h7, H⟩ := Am H
    refine Er (R := []) F Aa Aa (yC fun M Z hN hZ => EA (r := (Rp.int .i64)) EQ F Aa Aa (Iz W (Ax 0 Aa)) h7) Aa Aa fun a F => ?_
    refine Lm Aa ?_
    refine CT (i := BV (x5 - 1)) (j := 0) (vs := [.int .i64 x11]) (x' := x11) F W Aa Aa Aa (k := 0) Aa Aa h7 T3 Aa Aa Aa Aa (fun A cs _ => Fl.int.sto (by rfl) _ _ _) fun w W => ?_
    refine Fd (N2 := []) (NZ2 := []) (N3 := []) (NZ3 := [(some 15, row v1 3 (Rp.int .i64) x4)]) W Aa Aa AL (all_cons (fun h => Cf (by kernel_rfl) h) AL) ?_
    refine Mk (AR (Ac (Ab ?_)))
    refine ls F W Aa (Af F Aa).q fun a w F W => ?_
    refine ls F W Aa (Gi F Aa Aa Aa).q fun a w F W => ?_
    refine ls F W Aa (Ae F Aa).q fun a w F W => ?_
    refine Ad (Ac ?_)
    exact ⟨_, H, F.re ⟨rfl, Aa, Aa, Aa, Aa, Aa, trivial⟩, W⟩
   have H := AN (by rw [hb]; decide) H
   rw [hb] at F
   clear hb
   refine Ba ?_
   iterate 2 refine Br ?_
   refine Bb (AR (Ac ?_))
   have H := L3 _ H
   exact ⟨_, H, F.re ⟨rfl, Aa, Aa, Aa, Aa, trivial⟩, W⟩
  rintro a w ⟨x3, hj, F, W⟩
  have hj := AP hj
  subst hj
  have H := K2
  clear G2 K2
  refine Ab ?_
  refine ls F W Aa (Af F Aa).q fun a w F W => ?_
  refine ls F W Aa (BB F Aa Aa Aa).q fun a w F W => ?_
  refine ls F W Aa (Ae F Aa).q fun a w F W => ?_
  refine Ad (Ac ?_)
  exact ⟨_, H, F.re ⟨rfl, Aa, Aa, Aa, Aa, trivial⟩, W⟩
 have H := AN (Bk hb) H
 rw [hb] at F
 clear hb
 refine Ba ?_
 iterate 2 refine Br ?_
 refine Bb ?_
 have H := L1 _ H
 have H := AP H
 subst H
 refine Kc (.inr Aa) F Aa ?_
 exact ⟨(), Aa, W⟩
theorem Sy : Has Try.prog 63 := ⟨fun args w => Aj Try.func63 rfl (by decide) args w⟩
noncomputable def Cb (p0 : List Int) (p1 : Int) (p2 : Int) (p4c0 : List Nat) : Unit → Option (Unit ⊕ (List Int))
  | _ => (if (BV (p2 - p1)) ≤ 12 then (Bx p0 p1 p2 p4c0).bind fun x1 => some (.inr x1) else none)
noncomputable def BC (p0 : List Int) (p1 : Int) (p2 : Int) (p3 : Int) (p4c0 : List Nat) : Option (List Int) := AA (Cb p0 p1 p2 p4c0) ()
theorem ET (Y : Nat → Prop) (X : List Nat) (w0 : World) (v1 : Value) (q_p4c0 : Nat) (v2 : Value) (p0 : List Int) (p1 : Int) (p2 : Int) (p3 : Int) (p4c0 : List Nat) (r : List Int) (H : BC p0 p1 p2 p3 p4c0 = some r) (h_v2 : Sl w0 (NX X) (Rp.flt .f64) v2 p4c0) (a_q_p4c0 : At ⟨Y, X, w0⟩ q_p4c0 0 [v2]) (hL : Stw ⟨Y, X, w0⟩ [] [row v1 3 (Rp.int .i64) p0] w0) :
    Calls Try.prog 55 #[v1, .int .i64 p1, .int .i64 p2, .int .i64 p3, .func (.func 41) #[] #[.pointer (some ⟨q_p4c0, 0, none⟩)]] w0 fun e w' => ∃ x : Unit, e = .returned (.tuple #[]) ∧ Stw ⟨Y, X, w0⟩ [] [row v1 3 (Rp.int .i64) r] w' := by
 refine enter Try.func55 Aa Try.ntmps55 Aa fun a F => ?_
 have W := hL
 unfold BC at H
 refine Ah (Ab ?_)
 refine ls F W Aa (Ae F Aa).q fun a w F W => ?_
 refine Ad (Ac (Ah (Ab ?_)))
 refine ls F W Aa (Ae F Aa).q fun a w F W => ?_
 refine Ad (Ac (As ?_))
 refine A4 H (fun s a w => Fr 148 [] [(0, v1), (1, .int .i64 p1), (2, .int .i64 p2), (3, .int .i64 p3), (4, .func (.func 41) #[] #[.pointer (some ⟨q_p4c0, 0, none⟩)]), (10, .bool true), (11, .bool true)] a ∧ Stw ⟨Y, X, w0⟩ [] [row v1 3 (Rp.int .i64) p0] w) ⟨F.re ⟨rfl, Aa, Aa, Aa, Aa, Aa, Aa, trivial⟩, W⟩ fun s o a w H L1 hR => ?_
 obtain ⟨F, W⟩ := hR
 have F : Fr 148 [] [(0, v1), (1, .int .i64 p1), (2, .int .i64 p2), (3, .int .i64 p3), (4, .func (.func 41) #[] #[.pointer (some ⟨q_p4c0, 0, none⟩)]), (10, .bool true), (11, .bool true)] a := F
 have W : Stw ⟨Y, X, w0⟩ [] [row v1 3 (Rp.int .i64) p0] w := W
 rw [Cb] at H
 refine As (Ah (Ab ?_))
 iterate 2 refine ls F W Aa (Af F Aa).q fun a w F W => ?_
 refine ls F W Aa (Gi F Aa Aa Aa).q fun a w F W => ?_
 refine ls F W Aa (Ae F Aa).q fun a w F W => ?_
 refine Ad (Ac (Ah (Ah (Ab ?_))))
 refine ls F W Aa (Af F Aa).q fun a w F W => ?_
 refine ls F W Aa (I3 F Aa Aa).q fun a w F W => ?_
 refine Ad (Ac ?_)
 refine Aw F Aa (fun hb => ?_) fun hb => ?_
 ·
  have H := AM (Bj hb) H
  rw [hb] at F
  clear hb
  refine Ah (Ab ?_)
  iterate 4 refine ls F W Aa (Af F Aa).q fun a w F W => ?_
  obtain ⟨x1, h1, H⟩ := Am H
  refine BK (Ml := []) (Zl := [row v1 3 (Rp.int .i64) p0]) (M := []) (Z := []) (β := Unit) (rv := fun x => .tuple #[]) (MM := fun x => []) (ZZ := fun x => [row v1 3 (Rp.int .i64) x1]) F W Sy Aa Aa (fun hL => D1 _ _ w (v1) q_p4c0 (v2) p0 p1 p2 p4c0 _ h1 (W.roX h_v2 (fun g hg => MB hg)) (At.reX (Ml := []) (Zl := [row v1 3 (Rp.int .i64) p0]) (M := []) (Z := []) a_q_p4c0 W) hL) fun x a w F W => ?_
  have W : Stw ⟨Y, X, w0⟩ [] [row v1 3 (Rp.int .i64) x1] w := W
  refine Ad (Ac (Av (AH (AU (AH (AU ?_))))))
  have H := L1 _ H
  have H := AP H
  subst H
  refine Kc (.inl Aa) F Aa ?_
  exact ⟨(), Aa, W⟩
 have H := AN (Bk hb) H
 rw [hb] at F
 clear hb
 exact nomatch H
theorem R2 : Has Try.prog 55 := ⟨fun args w => Aj Try.func55 rfl (by decide) args w⟩
noncomputable def BO (p0 : List Int) (p1c0 : List Nat) : Option (List Int) := (CZ (IntKind.u64.wrap (p0.length : Int))).bind fun x1 => (BC p0 0 (p0.length : Int) x1 p1c0).bind fun x2 => some x2
theorem Fc (Y : Nat → Prop) (X : List Nat) (w0 : World) (v1 : Value) (q_p1c0 : Nat) (v2 : Value) (p0 : List Int) (p1c0 : List Nat) (r : List Int) (H : BO p0 p1c0 = some r) (h_v2 : Sl w0 (NX X) (Rp.flt .f64) v2 p1c0) (a_q_p1c0 : At ⟨Y, X, w0⟩ q_p1c0 0 [v2]) (hL : Stw ⟨Y, X, w0⟩ [] [row v1 3 (Rp.int .i64) p0] w0) :
    Calls Try.prog 40 #[v1, .func (.func 41) #[] #[.pointer (some ⟨q_p1c0, 0, none⟩)]] w0 fun e w' => ∃ x : Unit, e = .returned (.tuple #[]) ∧ Stw ⟨Y, X, w0⟩ [] [row v1 3 (Rp.int .i64) r] w' := by
 refine enter Try.func40 Aa Try.ntmps40 Aa fun a F => ?_
 have W := hL
 unfold BO at H
 refine Ah (Ab ?_)
 refine ls F W Aa (Af F Aa).q fun a w F W => ?_
 refine ls F W Aa (Bh (r := (Rp.int .i64)) (l := p0) GH Aa F Aa (Ax 0 Aa)).q fun a w F W => ?_
 refine ls F W Aa (Ae F Aa).q fun a w F W => ?_
 refine Ad (Ac (Ab ?_))
 iterate 3 refine ls F W Aa (Af F Aa).q fun a w F W => ?_
 refine ls F W Aa (Ec LS Lz F Aa).q fun a w F W => ?_
 obtain ⟨x1, h1, H⟩ := Am H
 refine ls F W Aa (AW (v := Value.int .i64 x1) F RQ Aa (fun w W => FZ any w (IntKind.u64.wrap (p0.length : Int)) _ h1)) fun a w F W => ?_
 refine ls F W Aa (Af F Aa).q fun a w F W => ?_
 obtain ⟨x2, h2, H⟩ := Am H
 refine BK (Ml := []) (Zl := [row v1 3 (Rp.int .i64) p0]) (M := []) (Z := []) (β := Unit) (rv := fun x => .tuple #[]) (MM := fun x => []) (ZZ := fun x => [row v1 3 (Rp.int .i64) x2]) F W R2 Aa Aa (fun hL => ET _ _ w (v1) q_p1c0 (v2) p0 0 (p0.length : Int) x1 p1c0 _ h2 (W.roX h_v2 (fun g hg => MB hg)) (At.reX (Ml := []) (Zl := [row v1 3 (Rp.int .i64) p0]) (M := []) (Z := []) a_q_p1c0 W) hL) fun x a w F W => ?_
 have W : Stw ⟨Y, X, w0⟩ [] [row v1 3 (Rp.int .i64) x2] w := W
 refine Ad ?_
 have H := AP H
 subst H
 refine Kc (.inr Aa) F Aa ?_
 exact ⟨(), Aa, W⟩
theorem OS : type_of% Try.underlying57 := Try.underlying57
theorem GJ : type_of% Try.underlying60 := Try.underlying60
theorem SI : Has Try.prog 40 := ⟨fun args w => Aj Try.func40 rfl (by decide) args w⟩
theorem Rx : Bt Try.prog 60 [.int .i64 0, .int .i64 0, .int .i64 0] [(0, 1), (1, 1), (2, 1)] := ⟨⟨.agg #[.int .i64 0, .int .i64 0, .int .i64 0], by kernel_rfl, rfl⟩, ⟨_, GJ, fun w => by kernel_rfl⟩⟩
theorem QF : (Try.prog.info? 60).bind (·.zero) = some (.agg #[.int .i64 0, .int .i64 0, .int .i64 0]) := by kernel_rfl
abbrev CF : Rp (Int × Int × Int) := (Rp.pair (Rp.int .i64) (Rp.pair (Rp.int .i64) (Rp.int .i64)))
def SO (a : Int × Int × Int) : List Value := [.int .i64 a.1, .int .i64 a.2.1, .int .i64 a.2.2]
theorem Oy : Fl CF SO := (Fl.pair Fl.int (Fl.pair Fl.int Fl.int))
theorem ND : Et Try.prog 57 60 3 24 := Et.of OS (by kernel_rfl) (by kernel_rfl) (by kernel_rfl) (by decide)
theorem NP : Ty Try.prog 60 true 3 := ⟨by kernel_rfl, by kernel_rfl⟩
def Cj (p0 : Int) : Bool := decide (p0 ≠ p0)
theorem F0 (Y : Nat → Prop) (w0 : World)  (p0 : Int) (r : Bool) (H : Cj p0 = r)  :
    Calls Try.prog 60 #[.int .i64 p0] w0 fun e w' => e = .returned (.bool r) ∧ Below w0.heap.size w0 w' := by
 refine enter Try.func60 Aa Try.ntmps60 Aa fun a F => ?_
 have W := Stw.start Y w0
 unfold Cj at H
 refine Ah (Ab ?_)
 refine ls F W Aa (Ae F Aa).q fun a w F W => ?_
 refine Ad (Ac (Ah (Ab ?_)))
 iterate 2 refine ls F W Aa (Af F Aa).q fun a w F W => ?_
 refine ls F W Aa (GM F Aa Aa).q fun a w F W => ?_
 refine ls F W Aa (Ae F Aa).q fun a w F W => ?_
 refine Ad (Ac (Av ?_))
 subst H
 refine AQ (.inl Aa) F W Aa (Ap F Aa) ?_
 exact ⟨rfl, W.done⟩
theorem RK : Has Try.prog 60 := ⟨fun args w => Aj Try.func60 rfl (by decide) args w⟩
def Cw (p0 : Int) (p1 : Int) : Int := (if (Cj p0) = true then (if (Cj p1) = true then 0 else (-1)) else (if (Cj p1) = true then 1 else (if p0 < p1 then (-1) else (if p1 < p0 then 1 else 0))))
theorem Hy (Y : Nat → Prop) (w0 : World)  (p0 : Int) (p1 : Int) (r : Int) (H : Cw p0 p1 = r)  :
    Calls Try.prog 48 #[.int .i64 p0, .int .i64 p1] w0 fun e w' => e = .returned (.int .i64 r) ∧ Below w0.heap.size w0 w' := by
 refine enter Try.func48 Aa Try.ntmps48 Aa fun a F => ?_
 have W := Stw.start Y w0
 unfold Cw at H
 refine Ah (Ab ?_)
 refine ls F W Aa (Ae F Aa).q fun a w F W => ?_
 refine Ad (Ac (Ah (Ab ?_)))
 refine ls F W Aa (Af F Aa).q fun a w F W => ?_
 refine ls F W Aa (AW (v := Value.bool (Cj p0)) F RK Aa (fun w W => F0 any w p0 _ Aa)) fun a w F W => ?_
 refine ls F W Aa (Ae F Aa).q fun a w F W => ?_
 refine Ad (Ac (Ah (Ab ?_)))
 refine ls F W Aa (Af F Aa).q fun a w F W => ?_
 refine ls F W Aa (AW (v := Value.bool (Cj p1)) F RK Aa (fun w W => F0 any w p1 _ Aa)) fun a w F W => ?_
 refine ls F W Aa (Ae F Aa).q fun a w F W => ?_
 refine Ad (Ac (Ah (Ah (Ab ?_))))
 refine ls F W Aa (Af F Aa).q fun a w F W => ?_
 refine Ad (Ac ?_)
 refine Aw F Aa (fun hb => ?_) fun hb => ?_
 ·
  have H := AM hb H
  rw [hb] at F
  clear hb
  refine Ah (Ah (Ab ?_))
  refine ls F W Aa (Af F Aa).q fun a w F W => ?_
  refine Ad (Ac ?_)
  refine Aw F Aa (fun hb => ?_) fun hb => ?_
  ·
   have H := AM hb H
   rw [hb] at F
   clear hb
   refine Ah (Ab ?_)
   refine ls F W Aa (Ae F Aa).q fun a w F W => ?_
   refine Ad (Ac (Av ?_))
   iterate 2 refine AH ?_
   subst H
   refine AQ (.inl Aa) F W Aa (Ap F Aa) ?_
   exact ⟨rfl, W.done⟩
  have H := AN (by rw [hb]; decide) H
  rw [hb] at F
  clear hb
  refine Aq (Ac (Ah (Ab ?_)))
  refine ls F W Aa (Ae F Aa).q fun a w F W => ?_
  refine Ad (Ac (Av (AH ?_)))
  subst H
  refine AQ (.inl Aa) F W Aa (Ap F Aa) ?_
  exact ⟨rfl, W.done⟩
 have H := AN (by rw [hb]; decide) H
 rw [hb] at F
 clear hb
 refine Aq (Ac (Ah (Ah (Ab ?_))))
 refine ls F W Aa (Af F Aa).q fun a w F W => ?_
 refine Ad (Ac ?_)
 refine Aw F Aa (fun hb => ?_) fun hb => ?_
 ·
  have H := AM hb H
  rw [hb] at F
  clear hb
  refine Ah (Ab ?_)
  refine ls F W Aa (Ae F Aa).q fun a w F W => ?_
  refine Ad (Ac (Av (AH ?_)))
  subst H
  refine AQ (.inl Aa) F W Aa (Ap F Aa) ?_
  exact ⟨rfl, W.done⟩
 have H := AN (by rw [hb]; decide) H
 rw [hb] at F
 clear hb
 refine Aq (Ac (Ah (Ah (Ab ?_))))
 iterate 2 refine ls F W Aa (Af F Aa).q fun a w F W => ?_
 refine ls F W Aa (Bg F Aa Aa).q fun a w F W => ?_
 refine Ad (Ac ?_)
 refine Aw F Aa (fun hb => ?_) fun hb => ?_
 ·
  have H := AM (Bj hb) H
  rw [hb] at F
  clear hb
  refine Ah (Ab ?_)
  refine ls F W Aa (Ae F Aa).q fun a w F W => ?_
  refine Ad (Ac (Av (AH ?_)))
  subst H
  refine AQ (.inl Aa) F W Aa (Ap F Aa) ?_
  exact ⟨rfl, W.done⟩
 have H := AN (Bk hb) H
 rw [hb] at F
 clear hb
 refine Aq (Ac (Ah (Ah (Ab ?_))))
 iterate 2 refine ls F W Aa (Af F Aa).q fun a w F W => ?_
 refine ls F W Aa (DI F Aa Aa).q fun a w F W => ?_
 refine Ad (Ac ?_)
 refine Aw F Aa (fun hb => ?_) fun hb => ?_
 ·
  have H := AM (Bj hb) H
  rw [hb] at F
  clear hb
  refine Ah (Ab ?_)
  refine ls F W Aa (Ae F Aa).q fun a w F W => ?_
  refine Ad (Ac (Av (AH ?_)))
  subst H
  refine AQ (.inl Aa) F W Aa (Ap F Aa) ?_
  exact ⟨rfl, W.done⟩
 have H := AN (Bk hb) H
 rw [hb] at F
 clear hb
 refine Aq (Ac (Ah (Ab ?_)))
 refine ls F W Aa (Ae F Aa).q fun a w F W => ?_
 refine Ad (Ac (Av ?_))
 subst H
 refine AQ (.inl Aa) F W Aa (Ap F Aa) ?_
 exact ⟨rfl, W.done⟩
theorem RX : Has Try.prog 48 := ⟨fun args w => Aj Try.func48 rfl (by decide) args w⟩
def ED (p0 : Int × Int × Int) (p1 : Int × Int × Int) : Int := (Cw p0.1 p1.1)
theorem JO (Y : Nat → Prop) (w0 : World)  (p0 : Int × Int × Int) (p1 : Int × Int × Int) (r : Int) (H : ED p0 p1 = r)  :
    Calls Try.prog 47 #[.agg #[.int .i64 p0.1, .int .i64 p0.2.1, .int .i64 p0.2.2], .agg #[.int .i64 p1.1, .int .i64 p1.2.1, .int .i64 p1.2.2]] w0 fun e w' => e = .returned (.int .i64 r) ∧ Below w0.heap.size w0 w' := by
 refine enter Try.func47 Aa Try.ntmps47 Aa fun a F => ?_
 have W := Stw.start Y w0
 unfold ED at H
 refine Ah (Ab ?_)
 refine C5 (cs := [.int .i64 p0.1, .int .i64 p0.2.1, .int .i64 p0.2.2]) F W Aa Aa Aa fun b1 a w F W => ?_
 refine C5 (cs := [.int .i64 p1.1, .int .i64 p1.2.1, .int .i64 p1.2.2]) F W Aa Aa Aa fun b2 a w F W => ?_
 refine ls F W Aa (Ae F Aa).q fun a w F W => ?_
 refine Ad (Ac (Ah (Ab ?_)))
 refine ls F W Aa (Ai GJ Aa Aa Aa T3 F Aa 0 Aa).q fun a w F W => ?_
 refine ls F W Aa (An (v := Value.int .i64 p0.1) 1 F Aa Aa T3 Aa).q fun a w F W => ?_
 refine ls F W Aa (Ai GJ Aa Aa Aa T3 F Aa 0 Aa).q fun a w F W => ?_
 refine ls F W Aa (An (v := Value.int .i64 p1.1) 0 F Aa Aa T3 Aa).q fun a w F W => ?_
 refine ls F W Aa (AW (v := Value.int .i64 (Cw p0.1 p1.1)) F RX Aa (fun w W => Hy any w p0.1 p1.1 _ Aa)) fun a w F W => ?_
 refine ls F W Aa (Ae F Aa).q fun a w F W => ?_
 refine Ad (Ac (Av ?_))
 subst H
 refine AQ (.inl Aa) F W Aa (Ap F Aa) ?_
 exact ⟨rfl, W.done⟩
end Go.Proofs.Ytieebnllkjmjiaa
