/- The functions of layer 39, E6. Conditions: none. -/
import Derived.Test.YtkmacelfldeenaaDoorbA1
namespace Go.Proofs.YtkmacelfldeenaaDoor
open Go Go.RowKit
set_option linter.unusedVariables false
set_option linter.unusedSimpArgs false
set_option maxRecDepth 20000
theorem JS : type_of% Tryd.underlying4 := Tryd.underlying4
theorem J2 : Has Tryd.prog 18 := ⟨fun args w => Ak Tryd.func18 rfl (by decide) args w⟩
noncomputable def Be (p0 : List (Int × Int × Int)) : Int → Option (Int ⊕ (Unit ⊕ Bool))
  | x3 => (if x3 < (p0.length : Int) then (ix p0 x3).bind fun x4 => ((BA (Az x4)).bind fun x6 => (ix p0 x3).bind fun x7 => (if x6 ≠ (Bx x7) then some true else (Ba (Az x4)).bind fun x8 => (ix p0 x3).bind fun x9 => (Cl x9).bind fun x10 => some (decide (x8 ≠ x10)))).bind fun x5 => (if x5 = true then some (.inr (.inr false)) else some (.inl (BE (x3 + 1)))) else some (.inr (.inl ())))
noncomputable def BR (p0 : List (Int × Int × Int)) (p1 : List UInt8) (p2 : Int) : Option Bool := (if (decide (60 < (p0.length : Int)) || decide (1000 < (p1.length : Int))) = true then (Cb).bind fun x1 => some x1 else (CA p2).bind fun x2 => (if (Ai p2) ≠ x2 then some false else Fh (AH (Be p0) 0) fun _ => (Bj p1).bind fun x11 => (CS p1).bind fun x12 => ((CV p0).bind fun x14 => (Cn x14).bind fun x15 => (Dc p0).bind fun x16 => (if x15 = x16 then (C8 x11.1 x12.1).bind fun x17 => (if x17 = true then (if x11.2.1 = x12.2.1 then (if x11.2.2 = x12.2.2 then (Cb).bind fun x18 => some x18 else some false) else some false) else some false) else some false)).bind fun x13 => some x13))
theorem D7 (Y : Nat → Prop) (w0 : World) (v1 : Value) (p0 : List (Int × Int × Int)) (p1 : List UInt8) (p2 : Int) (r : Bool) (H : BR p0 p1 p2 = some r) (h_v1 : Sl w0 (NX []) C5 v1 p0) (hG : Gk [] w0) :
    Calls Tryd.prog 3 #[v1, .string (bs p1), .int .i64 p2] w0 fun e w' => e = .returned (.bool r) ∧ Below w0.heap.size w0 w' := by
 refine enter Tryd.func3 Aa Tryd.ntmps3 Aa fun a F => ?_
 have W := Stw.start Y w0
 unfold BR at H
 refine Ah (Ac ?_)
 refine ls F W Aa (Ad F Aa).q fun a w F W => ?_
 refine Ae (Ab (Ah ?_))
 refine AJ (fun a w => Fr 94 [] [(0, v1), (1, .string (bs p1)), (2, .int .i64 p2), (6, .bool false), (22, .bool (decide (60 < (p0.length : Int)) || decide (1000 < (p1.length : Int))))] a ∧ Stw ⟨Y, [], w0⟩ [] [] w) ?_ ?_
 ·
  refine Ac ?_
  refine ls F W Aa (Af F Aa).q fun a w F W => ?_
  refine ls F W Aa (Da (r := C5) (l := p0) HC Aa F Aa (Bb h_v1)).q fun a w F W => ?_
  refine ls F W Aa (EM F Aa Aa).q fun a w F W => ?_
  refine ls F W Aa (Af F Aa).q fun a w F W => ?_
  rcases Bool.eq_false_or_eq_true (decide (60 < (p0.length : Int))) with hb0 | hb0
  ·
   rw [hb0] at F
   iterate 3 refine Bf F Aa Aa Aa Aa Aa Aa Aa fun a F => ?_
   refine ls F W Aa (Ao F Aa Aa Aa).q fun a w F W => ?_
   refine Ae (Ab ?_)
   exact ⟨F.re ⟨rfl, Aa, Aa, Aa, (by show some (Value.bool true) = some (Value.bool (decide (60 < (p0.length : Int)) || decide (1000 < (p1.length : Int)))); try rw [hb0]; all_goals simp only [Bool.not_true, Bool.not_false, Bool.true_and, Bool.false_and, Bool.true_or, Bool.false_or, Bool.and_true, Bool.or_false, cond_true, cond_false]), trivial⟩, W⟩
  rw [hb0] at F
  refine Ax F W (Ag F Aa Aa Aa Aa) Aa (An Aa) (Af F Aa).q fun a w F W => ?_
  refine Ax F W (Ag F Aa Aa Aa Aa) Aa (An Aa) (CX (l := p1) E3 Aa F Aa).q fun a w F W => ?_
  refine Ax F W (Ag F Aa Aa Aa Aa) Aa (An Aa) (EM F Aa Aa).q fun a w F W => ?_
  refine ls F W Aa (Aj F Aa Aa Aa).q fun a w F W => ?_
  refine Ae (Ab ?_)
  exact ⟨F.re ⟨rfl, Aa, Aa, Aa, (by show some (Value.bool (decide (1000 < (p1.length : Int)))) = some (Value.bool (decide (60 < (p0.length : Int)) || decide (1000 < (p1.length : Int)))); try rw [hb0]; all_goals simp only [Bool.not_true, Bool.not_false, Bool.true_and, Bool.false_and, Bool.true_or, Bool.false_or, Bool.and_true, Bool.or_false, cond_true, cond_false]), trivial⟩, W⟩
 rintro a w ⟨F, W⟩
 refine Av F Aa (fun hb => ?_) fun hb => ?_
 ·
  have H := AF hb H
  rw [hb] at F
  clear hb
  refine Ah (Ac ?_)
  obtain ⟨x1, h1, H⟩ := Al H
  refine ls F W Aa (AA (v := Value.bool x1) F H5 Aa (fun w W => Er any w _ h1 (hG.go0 W))) fun a w F W => ?_
  refine ls F W Aa (Ad F Aa).q fun a w F W => ?_
  refine Ae (Ab (Aw (AB ?_)))
  have H := AW H
  subst H
  refine AR (.inl Aa) F W Aa (Au F Aa) ?_
  exact ⟨rfl, W.done⟩
 have H := AE (by rw [hb]; decide) H
 rw [hb] at F
 clear hb
 refine As (Ab (Ah (Ah (Ac ?_))))
 refine ls F W Aa (Af F Aa).q fun a w F W => ?_
 refine ls F W Aa (AA (v := Value.string (bs (Ai p2))) F H6 Aa (fun w W => Cg any w p2 _ Aa)) fun a w F W => ?_
 refine ls F W Aa (Af F Aa).q fun a w F W => ?_
 obtain ⟨x2, h2, H⟩ := Al H
 refine ls F W Aa (AA (v := Value.string (bs x2)) F H7 Aa (fun w W => DG any w p2 _ h2)) fun a w F W => ?_
 refine ls F W Aa (HF (l := (Ai p2)) (m := x2) F Aa Aa).q fun a w F W => ?_
 refine Ae (Ab ?_)
 refine Av F Aa (fun hb => ?_) fun hb => ?_
 ·
  have H := AF (AX hb) H
  rw [hb] at F
  clear hb
  refine Ah (Ac ?_)
  refine ls F W Aa (Ad F Aa).q fun a w F W => ?_
  refine Ae (Ab (Aw (AB ?_)))
  have H := AW H
  subst H
  refine AR (.inl Aa) F W Aa (Au F Aa) ?_
  exact ⟨rfl, W.done⟩
 have H := AE (AY hb) H
 rw [hb] at F
 clear hb
 refine As (Ab ?_)
 obtain ⟨o1, G1, K1, L1⟩ := Ie H
 refine AJ (fun a w => some (Sum.inl ()) = some o1 ∧ Fr 94 [] [(0, v1), (1, .string (bs p1)), (6, .bool false)] a ∧ Stw ⟨Y, [], w0⟩ [] [] w) ?_ ?_
 ·
  have H := G1
  clear G1 K1
  refine Ah (Ac ?_)
  refine ls F W Aa (Ad F Aa).q fun a w F W => ?_
  refine Ae (Ab (AD ?_))
  refine BG H (fun s a w => Fr 94 [] [(0, v1), (1, .string (bs p1)), (6, .bool false), (7, .int .i64 s)] a ∧ Stw ⟨Y, [], w0⟩ [] [] w) ⟨F.re ⟨rfl, Aa, Aa, Aa, trivial⟩, W⟩ fun s o a w H L2 hR => ?_
  obtain ⟨x3, rfl⟩ : ∃ x, x = s := ⟨s, rfl⟩
  obtain ⟨F, W⟩ := hR
  have F : Fr 94 [] [(0, v1), (1, .string (bs p1)), (6, .bool false), (7, .int .i64 x3)] a := F
  have W : Stw ⟨Y, [], w0⟩ [] [] w := W
  rw [Be] at H
  refine Ah (Ah (Ac ?_))
  iterate 2 refine ls F W Aa (Af F Aa).q fun a w F W => ?_
  refine ls F W Aa (Da (r := C5) (l := p0) HC Aa F Aa (Bb h_v1)).q fun a w F W => ?_
  refine ls F W Aa (BV F Aa Aa).q fun a w F W => ?_
  refine Ae (Ab ?_)
  refine Av F Aa (fun hb => ?_) fun hb => ?_
  ·
   have H := AF (AX hb) H
   rw [hb] at F
   clear hb
   refine As (Ab (Ah (AD (Ah (Ac ?_)))))
   iterate 2 refine ls F W Aa (Af F Aa).q fun a w F W => ?_
   obtain ⟨x4, h3, H⟩ := Al H
   refine ls F W Aa (Bz (r := C5) ID F Aa Aa (Bb h_v1) h3).q fun a w F W => ?_
   refine ls F W Aa (A5 (y := Value.agg #[.int .i64 x4.1, .int .i64 x4.2.1, .int .i64 x4.2.2]) (j := 0) (i := x3) F Aa Aa (Bb h_v1) h3 IM.to FV Aa).q fun a w F W => ?_
   refine ls F W Aa (AA (v := Value.agg #[.int .i64 ((Az x4).1), .int .i64 ((Az x4).2.1), .int .i64 ((Az x4).2.2)]) F H8 Aa (fun w W => E2 any w x4 _ Aa)) fun a w F W => ?_
   refine Cu (cs := [.int .i64 0, .int .i64 0, .int .i64 0]) F W Aa IE Aa fun b1 a w F W => ?_
   refine Bh (vs := [.int .i64 ((Az x4).1), .int .i64 ((Az x4).2.1), .int .i64 ((Az x4).2.2)]) (M' := [(b1, [.int .i64 ((Az x4).1), .int .i64 ((Az x4).2.1), .int .i64 ((Az x4).2.2)])]) 0 F W Aa Aa Aa EB Aa Aa Aa Aa Aa fun w W => ?_
   refine Ae (Ab ?_)
   obtain ⟨o3, G3, K3⟩ := Al H
   refine AJ (fun a w => ∃ x5 : Bool, some (x5) = some o3 ∧ Fr 94 [] [(0, v1), (1, .string (bs p1)), (6, .bool false), (7, .int .i64 x3), (57, .bool x5)] a ∧ Stw ⟨Y, [], w0⟩ [(b1, [.int .i64 ((Az x4).1), .int .i64 ((Az x4).2.1), .int .i64 ((Az x4).2.2)])] [] w) ?_ ?_
   ·
    have H := G3
    clear G3 K3
    refine Ds W MO (by kernel_rfl) ?_
    refine qs F Aa (AG (v := Value.agg #[.int .i64 ((Az x4).1), .int .i64 ((Az x4).2.1), .int .i64 ((Az x4).2.2)]) 0 F Aa Aa EB Aa).q fun a F => ?_
    obtain ⟨x6, h4, H⟩ := Al H
    refine qs F Aa (AA (v := Value.bool x6) F H9 Aa (fun w W => CY any w (Az x4) _ h4)) fun a F => ?_
    iterate 2 refine qs F Aa (Af F Aa).q fun a F => ?_
    obtain ⟨x7, h5, H⟩ := Al H
    refine qs F Aa (Bz (r := C5) ID F Aa Aa (Bb h_v1) h5).q fun a F => ?_
    refine qs F Aa (A5 (y := Value.agg #[.int .i64 x7.1, .int .i64 x7.2.1, .int .i64 x7.2.2]) (j := 0) (i := x3) F Aa Aa (Bb h_v1) h5 IM.to FV Aa).q fun a F => ?_
    refine qs F Aa (AA (v := Value.bool (Bx x7)) F Jk Aa (fun w W => Dv any w x7 _ Aa)) fun a F => ?_
    refine qs F Aa (I9 JS F Aa Aa).q fun a F => ?_
    refine qs F Aa (Af F Aa).q fun a F => ?_
    rcases Bool.eq_false_or_eq_true (decide (x6 ≠ (Bx x7))) with hb | hb
    ·
     have H := AF (AX hb) H
     rw [hb] at F
     clear hb
     iterate 8 refine Ip F (DU F Aa Aa Aa Aa Aa) Aa Aa fun a F => ?_
     refine qs F Aa (Ao F Aa Aa Aa).q fun a F => ?_
     refine CP fun w W => ?_
     refine Ab ?_
     exact ⟨_, H, F.re ⟨rfl, Aa, Aa, Aa, Aa, trivial⟩, W⟩
    have H := AE (AY hb) H
    rw [hb] at F
    clear hb
    refine Gm F (Ag F Aa Aa Aa Aa) Aa (An Aa) (AG (v := Value.agg #[.int .i64 ((Az x4).1), .int .i64 ((Az x4).2.1), .int .i64 ((Az x4).2.2)]) 0 F Aa Aa EB Aa).q fun a F => ?_
    obtain ⟨x8, h6, H⟩ := Al H
    refine Gm F (Ag F Aa Aa Aa Aa) Aa (An Aa) (AA (v := Value.string (bs x8)) F Jl Aa (fun w W => Cf any w (Az x4) _ h6 (hG.go0 W))) fun a F => ?_
    iterate 2 refine Gm F (Ag F Aa Aa Aa Aa) Aa (An Aa) (Af F Aa).q fun a F => ?_
    obtain ⟨x9, h7, H⟩ := Al H
    refine Gm F (Ag F Aa Aa Aa Aa) Aa (An Aa) (Bz (r := C5) ID F Aa Aa (Bb h_v1) h7).q fun a F => ?_
    refine Gm F (Ag F Aa Aa Aa Aa) Aa (An Aa) (A5 (y := Value.agg #[.int .i64 x9.1, .int .i64 x9.2.1, .int .i64 x9.2.2]) (j := 0) (i := x3) F Aa Aa (Bb h_v1) h7 IM.to FV Aa).q fun a F => ?_
    obtain ⟨x10, h8, H⟩ := Al H
    refine Gm F (Ag F Aa Aa Aa Aa) Aa (An Aa) (AA (v := Value.string (bs x10)) F Jv Aa (fun w W => DJ any w x9 _ h8)) fun a F => ?_
    refine Gm F (Ag F Aa Aa Aa Aa) Aa (An Aa) (HF (l := x8) (m := x10) F Aa Aa).q fun a F => ?_
    refine qs F Aa (Aj F Aa Aa Aa).q fun a F => ?_
    refine CP fun w W => ?_
    refine Ab ?_
    exact ⟨_, H, F.re ⟨rfl, Aa, Aa, Aa, Aa, trivial⟩, W⟩
   rintro a w ⟨x5, hj, F, W⟩
   have hj := AW hj
   subst hj
   have H := K3
   clear G3 K3
   refine Av F Aa (fun hb => ?_) fun hb => ?_
   ·
    have H := AF hb H
    rw [hb] at F
    clear hb
    refine Ah (Ac ?_)
    refine ls F W Aa (Ad F Aa).q fun a w F W => ?_
    refine Ae (Ab (Aw (AM ?_)))
    iterate 2 refine AB ?_
    refine AM (AB ?_)
    have H := L2 _ H
    have H := L1 _ H
    have H := AW H
    subst H
    refine AR (.inl Aa) F W Aa (Au F Aa) ?_
    exact ⟨rfl, W.done⟩
   have H := AE (by rw [hb]; decide) H
   rw [hb] at F
   clear hb
   refine As (A4 (Ab (Ac ?_)))
   refine ls F W Aa (Af F Aa).q fun a w F W => ?_
   refine ls F W Aa (BC F Aa Aa Aa).q fun a w F W => ?_
   refine ls F W Aa (Ad F Aa).q fun a w F W => ?_
   refine Ae (Ab ?_)
   have W := W.sub (M' := []) (Z' := []) (List.nil_sublist _) (List.Sublist.refl _)
   exact ⟨_, H, F.re ⟨rfl, Aa, Aa, Aa, trivial⟩, W⟩
  have H := AE (AY hb) H
  rw [hb] at F
  clear hb
  refine Bo ?_
  iterate 2 refine BN ?_
  refine Bp (Ab ?_)
  have H := L2 _ H
  exact ⟨H, F.re ⟨rfl, Aa, Aa, trivial⟩, W⟩
 rintro a w ⟨hj, F, W⟩
 have H := K1 _ hj
 clear hj G1 K1 L1
 refine Ah (Ac ?_)
 refine ls F W Aa (Af F Aa).q fun a w F W => ?_
 obtain ⟨x11, h9, H⟩ := Al H
 refine B1 (Ml := []) (Zl := []) (M := []) (Z := []) (β := Value) (rv := fun x => .tuple #[x, .int .i64 x11.2.1, .int .i64 x11.2.2]) (MM := fun x => []) (ZZ := fun x => [row x 26 Cp x11.1]) F W JG Aa Aa (fun hL => Di _ w p1 _ h9 (hG.go0 W)) fun x a w F W => ?_
 obtain ⟨v2, rfl⟩ : ∃ y, y = x := ⟨x, rfl⟩
 have W : Stw ⟨Y, [], w0⟩ [] [row v2 26 Cp x11.1] w := W
 refine ls F W Aa (Af F Aa).q fun a w F W => ?_
 refine ls F W Aa (AO (v := v2) F Aa Aa).q fun a w F W => ?_
 refine ls F W Aa (AO (v := Value.int .i64 x11.2.1) F Aa Aa).q fun a w F W => ?_
 refine ls F W Aa (AO (v := Value.int .i64 x11.2.2) F Aa Aa).q fun a w F W => ?_
 iterate 3 refine ls F W Aa (Ad F Aa).q fun a w F W => ?_
 refine Ae (Ab (Ah (Ac ?_)))
 refine ls F W Aa (Af F Aa).q fun a w F W => ?_
 obtain ⟨x12, h10, H⟩ := Al H
 refine B1 (Ml := []) (Zl := []) (M := []) (Z := [row v2 26 Cp x11.1]) (β := Value) (rv := fun x => .tuple #[x, .int .i64 x12.2.1, .int .i64 x12.2.2]) (MM := fun x => []) (ZZ := fun x => [row x 28 C5 x12.1]) F W JQ Aa Aa (fun hL => F0 _ w p1 _ h10) fun x a w F W => ?_
 obtain ⟨v3, rfl⟩ : ∃ y, y = x := ⟨x, rfl⟩
 have W : Stw ⟨Y, [], w0⟩ [] [row v3 28 C5 x12.1, row v2 26 Cp x11.1] w := W
 refine ls F W Aa (Af F Aa).q fun a w F W => ?_
 refine ls F W Aa (AO (v := v3) F Aa Aa).q fun a w F W => ?_
 refine ls F W Aa (AO (v := Value.int .i64 x12.2.1) F Aa Aa).q fun a w F W => ?_
 refine ls F W Aa (AO (v := Value.int .i64 x12.2.2) F Aa Aa).q fun a w F W => ?_
 iterate 3 refine ls F W Aa (Ad F Aa).q fun a w F W => ?_
 refine Ae (Ab ?_)
 obtain ⟨o4, G4, K4⟩ := Al H
 refine AJ (fun a w => ∃ x13 : Bool, some (x13) = some o4 ∧ Fr 94 [] [(6, .bool x13)] a ∧ Stw ⟨Y, [], w0⟩ [] [] w) ?_ ?_
 ·
  have H := G4
  clear G4 K4
  refine Ac ?_
  refine ls F W Aa (Af F Aa).q fun a w F W => ?_
  obtain ⟨x14, h11, H⟩ := Al H
  refine B1 (Ml := []) (Zl := []) (M := []) (Z := [row v3 28 C5 x12.1, row v2 26 Cp x11.1]) (β := Value) (rv := fun x => x) (MM := fun x => []) (ZZ := fun x => [row x 26 Cp x14]) F W JD Aa Aa (fun hL => E9 _ w (v1) p0 _ h11 ((Bb h_v1) w W).nx) fun x a w F W => ?_
  obtain ⟨v4, rfl⟩ : ∃ y, y = x := ⟨x, rfl⟩
  have W : Stw ⟨Y, [], w0⟩ [] [row v4 26 Cp x14, row v3 28 C5 x12.1, row v2 26 Cp x11.1] w := W
  obtain ⟨x15, h12, H⟩ := Al H
  refine ls F W Aa (AA (v := Value.string (bs x15)) F JO Aa (fun w W => Fg any w (v4) x14 _ h12 (((A8 0 Aa) : Iz _ _ _ _ _ _) w W).nx (hG.go0 W))) fun a w F W => ?_
  refine ls F W Aa (Af F Aa).q fun a w F W => ?_
  obtain ⟨x16, h13, H⟩ := Al H
  refine ls F W Aa (AA (v := Value.string (bs x16)) F JP Aa (fun w W => GC any w (v1) p0 _ h13 (((Bb h_v1) : Iz _ _ _ _ _ _) w W).nx)) fun a w F W => ?_
  refine ls F W Aa (El (l := x15) (m := x16) F Aa Aa).q fun a w F W => ?_
  refine ls F W Aa (Af F Aa).q fun a w F W => ?_
  rcases Bool.eq_false_or_eq_true (decide (x15 = x16)) with hb | hb
  ·
   have H := AF (AX hb) H
   rw [hb] at F
   clear hb
   iterate 2 refine Ax F W (Ag F Aa Aa Aa Aa) Aa (An Aa) (Af F Aa).q fun a w F W => ?_
   refine Gs (Ag F Aa Aa Aa Aa) ?_
   obtain ⟨x17, h14, H⟩ := Al H
   refine ls F W Aa (AA (v := Value.bool x17) F J2 Aa (fun w W => GE any w (v2) (v3) x11.1 x12.1 _ h14 (((A8 2 Aa) : Iz _ _ _ _ _ _) w W).nx (((A8 1 Aa) : Iz _ _ _ _ _ _) w W).nx)) fun a w F W => ?_
   refine ls F W Aa (Ao F Aa Aa Aa).q fun a w F W => ?_
   refine ls F W Aa (Af F Aa).q fun a w F W => ?_
   rcases Bool.eq_false_or_eq_true x17 with hb | hb
   ·
    have H := AF hb H
    rw [hb] at F
    clear hb
    iterate 2 refine Ax F W (Ag F Aa Aa Aa Aa) Aa (An Aa) (Af F Aa).q fun a w F W => ?_
    refine Ax F W (Ag F Aa Aa Aa Aa) Aa (An Aa) (A2 F Aa Aa).q fun a w F W => ?_
    refine ls F W Aa (Ao F Aa Aa Aa).q fun a w F W => ?_
    refine ls F W Aa (Af F Aa).q fun a w F W => ?_
    rcases Bool.eq_false_or_eq_true (decide (x11.2.1 = x12.2.1)) with hb | hb
    ·
     have H := AF (AX hb) H
     rw [hb] at F
     clear hb
     iterate 2 refine Ax F W (Ag F Aa Aa Aa Aa) Aa (An Aa) (Af F Aa).q fun a w F W => ?_
     refine Ax F W (Ag F Aa Aa Aa Aa) Aa (An Aa) (A2 F Aa Aa).q fun a w F W => ?_
     refine ls F W Aa (Ao F Aa Aa Aa).q fun a w F W => ?_
     refine ls F W Aa (Af F Aa).q fun a w F W => ?_
     rcases Bool.eq_false_or_eq_true (decide (x11.2.2 = x12.2.2)) with hb | hb
     ·
      have H := AF (AX hb) H
      rw [hb] at F
      clear hb
      refine Gs (Ag F Aa Aa Aa Aa) ?_
      obtain ⟨x18, h15, H⟩ := Al H
      refine ls F W Aa (AA (v := Value.bool x18) F H5 Aa (fun w W => Er any w _ h15 (hG.go0 W))) fun a w F W => ?_
      refine ls F W Aa (Ao F Aa Aa Aa).q fun a w F W => ?_
      refine ls F W Aa (Ad F Aa).q fun a w F W => ?_
      refine Ae (Ab ?_)
      have W := W.sub (M' := []) (Z' := []) (List.Sublist.refl _) (List.nil_sublist _)
      exact ⟨_, H, F.re ⟨rfl, trivial⟩, W⟩
     have H := AE (AY hb) H
     rw [hb] at F
     clear hb
     refine Bf F Aa Aa Aa Aa Aa Aa Aa fun a F => ?_
     refine ls F W Aa (Aj F Aa Aa Aa).q fun a w F W => ?_
     refine ls F W Aa (Ad F Aa).q fun a w F W => ?_
     refine Ae (Ab ?_)
     have W := W.sub (M' := []) (Z' := []) (List.Sublist.refl _) (List.nil_sublist _)
     exact ⟨_, H, F.re ⟨rfl, trivial⟩, W⟩
    have H := AE (AY hb) H
    rw [hb] at F
    clear hb
    iterate 3 refine Bf F Aa Aa Aa Aa Aa Aa Aa fun a F => ?_
    refine ls F W Aa (Aj F Aa Aa Aa).q fun a w F W => ?_
    refine ls F W Aa (Af F Aa).q fun a w F W => ?_
    refine Bf F Aa Aa Aa Aa Aa Aa Aa fun a F => ?_
    refine ls F W Aa (Aj F Aa Aa Aa).q fun a w F W => ?_
    refine ls F W Aa (Ad F Aa).q fun a w F W => ?_
    refine Ae (Ab ?_)
    have W := W.sub (M' := []) (Z' := []) (List.Sublist.refl _) (List.nil_sublist _)
    exact ⟨_, H, F.re ⟨rfl, trivial⟩, W⟩
   have H := AE (by rw [hb]; decide) H
   rw [hb] at F
   clear hb
   iterate 3 refine Bf F Aa Aa Aa Aa Aa Aa Aa fun a F => ?_
   refine ls F W Aa (Aj F Aa Aa Aa).q fun a w F W => ?_
   refine ls F W Aa (Af F Aa).q fun a w F W => ?_
   iterate 3 refine Bf F Aa Aa Aa Aa Aa Aa Aa fun a F => ?_
   refine ls F W Aa (Aj F Aa Aa Aa).q fun a w F W => ?_
   refine ls F W Aa (Af F Aa).q fun a w F W => ?_
   refine Bf F Aa Aa Aa Aa Aa Aa Aa fun a F => ?_
   refine ls F W Aa (Aj F Aa Aa Aa).q fun a w F W => ?_
   refine ls F W Aa (Ad F Aa).q fun a w F W => ?_
   refine Ae (Ab ?_)
   have W := W.sub (M' := []) (Z' := []) (List.Sublist.refl _) (List.nil_sublist _)
   exact ⟨_, H, F.re ⟨rfl, trivial⟩, W⟩
  have H := AE (AY hb) H
  rw [hb] at F
  clear hb
  iterate 3 refine Bf F Aa Aa Aa Aa Aa Aa Aa fun a F => ?_
  refine ls F W Aa (Aj F Aa Aa Aa).q fun a w F W => ?_
  refine ls F W Aa (Af F Aa).q fun a w F W => ?_
  iterate 3 refine Bf F Aa Aa Aa Aa Aa Aa Aa fun a F => ?_
  refine ls F W Aa (Aj F Aa Aa Aa).q fun a w F W => ?_
  refine ls F W Aa (Af F Aa).q fun a w F W => ?_
  iterate 3 refine Bf F Aa Aa Aa Aa Aa Aa Aa fun a F => ?_
  refine ls F W Aa (Aj F Aa Aa Aa).q fun a w F W => ?_
  refine ls F W Aa (Af F Aa).q fun a w F W => ?_
  refine Bf F Aa Aa Aa Aa Aa Aa Aa fun a F => ?_
  refine ls F W Aa (Aj F Aa Aa Aa).q fun a w F W => ?_
  refine ls F W Aa (Ad F Aa).q fun a w F W => ?_
  refine Ae (Ab ?_)
  have W := W.sub (M' := []) (Z' := []) (List.Sublist.refl _) (List.nil_sublist _)
  exact ⟨_, H, F.re ⟨rfl, trivial⟩, W⟩
 rintro a w ⟨x13, hj, F, W⟩
 have hj := AW hj
 subst hj
 have H := K4
 clear G4 K4
 refine Aw ?_
 have H := AW H
 subst H
 refine AR (.inl Aa) F W Aa (Au F Aa) ?_
 exact ⟨rfl, W.done⟩
end Go.Proofs.YtkmacelfldeenaaDoor
