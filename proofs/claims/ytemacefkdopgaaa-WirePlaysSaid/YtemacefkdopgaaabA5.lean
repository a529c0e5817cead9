/- The functions of layer 35, EV. Conditions: none. -/
import Derived.Test.YtemacefkdopgaaabA4
namespace Go.Proofs.Ytemacefkdopgaaa
open Go Go.RowKit
set_option linter.unusedVariables false
set_option linter.unusedSimpArgs false
set_option maxRecDepth 20000
theorem Ki : type_of% Try.underlying32 := Try.underlying32
theorem Nb : Has Try.prog 10 := ⟨fun args w => Ak Try.func10 rfl (by decide) args w⟩
noncomputable def CH (p1 : List (Int × Int × Int × Int × Int × Int × (Int × Int × Int × Int))) : (Int × Int × (List (Int × Int × Int × Int × Int × Int)) × (List (Int × Int)) × (List (Int × Int × Int × (Int × Int × Int × Int) × Int × Int)) × Int × (List (Int × Int × Int × Int × Int × Int)) × (List (Int × Int)) × (List (Int × Int × Int × (Int × Int × Int × Int) × Int × Int))) → Option ((Int × Int × (List (Int × Int × Int × Int × Int × Int)) × (List (Int × Int)) × (List (Int × Int × Int × (Int × Int × Int × Int) × Int × Int)) × Int × (List (Int × Int × Int × Int × Int × Int)) × (List (Int × Int)) × (List (Int × Int × Int × (Int × Int × Int × Int) × Int × Int))) ⊕ ((Int × (List (Int × Int × Int × Int × Int × Int)) × (List (Int × Int)) × (List (Int × Int × Int × (Int × Int × Int × Int) × Int × Int)) × Int × (List (Int × Int × Int × Int × Int × Int)) × (List (Int × Int)) × (List (Int × Int × Int × (Int × Int × Int × Int) × Int × Int))) ⊕ Bool))
  | (x16, x17, x18, x19, x20, x21, x22, x23, x24) => (if (decide (x16 < (p1.length : Int)) && decide (x16 < 300)) = true then (ix p1 x16).bind fun x25 => (if (!(Fc x25.2.1)) = true then (CI).bind fun x26 => some (.inr (.inr x26)) else ((ix p1 x16).bind fun x36 => (Fb ((x21, x22, x23), x24) ((x17, x18, x19), x20) x36).bind fun x37 => (if (!x37.1) = true then some (true, x37.2.2.1.1, x37.2.2.1.2.1, x37.2.2.1.2.2, x37.2.2.2, x37.2.1.1.1, x37.2.1.1.2.1, x37.2.1.1.2.2, x37.2.1.2) else (if (Bp x37.2.1) ≠ (x37.2.2.2.length : Int) then some (true, x37.2.2.1.1, x37.2.2.1.2.1, x37.2.2.1.2.2, x37.2.2.2, x37.2.1.1.1, x37.2.1.1.2.1, x37.2.1.1.2.2, x37.2.1.2) else (B0 x37.2.1).bind fun x38 => (Cf x37.2.2).bind fun x39 => some (decide (x38 ≠ x39), x37.2.2.1.1, x37.2.2.1.2.1, x37.2.2.1.2.2, x37.2.2.2, x37.2.1.1.1, x37.2.1.1.2.1, x37.2.1.1.2.2, x37.2.1.2)))).bind fun (x27, x28, x29, x30, x31, x32, x33, x34, x35) => (if x27 = true then some (.inr (.inr false)) else some (.inl (AD (x16 + 1), x28, x29, x30, x31, x32, x33, x34, x35)))) else some (.inr (.inl (x17, x18, x19, x20, x21, x22, x23, x24))))
noncomputable def Dk (p0 : Int × (List (Int × Int × Int × Int × Int × Int)) × (List (Int × Int))) (p1 : List (Int × Int × Int × Int × Int × Int × (Int × Int × Int × Int))) : Option Bool := (if (decide (30 < (p0.2.1.length : Int)) || decide (12 < (p0.2.2.length : Int))) = true then (CI).bind fun x1 => some x1 else (D5 p0).bind fun x2 => HO x2 (fun x3 => (Fp p0).bind fun x5 => HO x5 (fun x6 => Hd (AU (CH p1) (0, x6.1.1, x6.1.2.1, x6.1.2.2, x6.2, x3.1.1, x3.1.2.1, x3.1.2.2, x3.2)) fun (x8, x9, x10, x11, x12, x13, x14, x15) => (CI).bind fun x40 => some x40) (fun x7 => some false)) (fun x4 => (Fp p0).bind fun x41 => HO x41 (fun x42 => some false) (fun x43 => (CI).bind fun x44 => some x44)))
theorem Gx (Y : Nat → Prop) (w0 : World) (v1 : Value) (v2 : Value) (v3 : Value) (p0 : Int × (List (Int × Int × Int × Int × Int × Int)) × (List (Int × Int))) (p1 : List (Int × Int × Int × Int × Int × Int × (Int × Int × Int × Int))) (r : Bool) (H : Dk p0 p1 = some r) (s_v1 : Sl w0 Y A6 v1 p0.2.1) (s_v2 : Sl w0 Y Bg v2 p0.2.2) (h_v3 : Sl w0 (NX []) K0 v3 p1) :
    Calls Try.prog 3 #[.agg #[.int .i64 p0.1, v1, v2], v3] w0 fun e w' => e = .returned (.bool r) ∧ Below w0.heap.size w0 w' := by
 refine enter Try.func3 Aa Try.ntmps3 Aa fun a F => ?_
 have W := Stw.start Y w0
 have h_v1 := W.nx s_v1
 have h_v2 := W.nx s_v2
 unfold Dk at H
 refine Ai (Ab ?_)
 refine Dv (cs := [.int .i64 p0.1, v1, v2]) F W Aa Aa Aa fun b1 a w F W => ?_
 refine ls F W Aa (Af F Aa).q fun a w F W => ?_
 refine Ae (Ac (Ai ?_))
 refine AN (fun a w => Fr 84 [] [(1, v3), (2, .pointer (some ⟨b1, 0, none⟩)), (4, .bool false), (18, .bool (decide (30 < (p0.2.1.length : Int)) || decide (12 < (p0.2.2.length : Int))))] a ∧ Stw ⟨Y, [], w0⟩ [(b1, [.int .i64 p0.1, v1, v2])] [] w) ?_ ?_
 ·
  refine Ab ?_
  refine ls F W Aa (Ag C5 Aa Aa Aa Fn F Aa 1 Aa).q fun a w F W => ?_
  refine ls F W Aa (Al (v := v1) 0 F Aa Aa Fn Aa).q fun a w F W => ?_
  refine ls F W Aa (Cg (r := A6) (l := p0.2.1) GZ Aa F Aa (Av h_v1)).q fun a w F W => ?_
  refine ls F W Aa (DF F Aa Aa).q fun a w F W => ?_
  refine ls F W Aa (Ad F Aa).q fun a w F W => ?_
  rcases Bool.eq_false_or_eq_true (decide (30 < (p0.2.1.length : Int))) with hb0 | hb0
  ·
   rw [hb0] at F
   iterate 4 refine BX F Aa Aa Aa Aa Aa Aa Aa fun a F => ?_
   refine ls F W Aa (Ao F Aa Aa Aa).q fun a w F W => ?_
   refine Ae (Ac ?_)
   exact ⟨F.re ⟨rfl, Aa, Aa, (DZ (by try rw [hb0]; all_goals simp only [DT])), trivial⟩, W⟩
  rw [hb0] at F
  refine Az F W (Ah F Aa Aa Aa Aa) Aa (Am Aa) (Ag C5 Aa Aa Aa He F Aa 2 Aa).q fun a w F W => ?_
  refine Az F W (Ah F Aa Aa Aa Aa) Aa (Am Aa) (Al (v := v2) 0 F Aa Aa He Aa).q fun a w F W => ?_
  refine Az F W (Ah F Aa Aa Aa Aa) Aa (Am Aa) (Cg (r := Bg) (l := p0.2.2) Ix Aa F Aa (Av h_v2)).q fun a w F W => ?_
  refine Az F W (Ah F Aa Aa Aa Aa) Aa (Am Aa) (DF F Aa Aa).q fun a w F W => ?_
  refine ls F W Aa (Aj F Aa Aa Aa).q fun a w F W => ?_
  refine Ae (Ac ?_)
  exact ⟨F.re ⟨rfl, Aa, Aa, (DZ (by try rw [hb0]; all_goals simp only [DT])), trivial⟩, W⟩
 rintro a w ⟨F, W⟩
 refine Ay F Aa (fun hb => ?_) fun hb => ?_
 ·
  have H := A8 hb H
  rw [hb] at F
  clear hb
  refine Ai (Ab ?_)
  obtain ⟨x1, h1, H⟩ := An H
  refine ls F W Aa (Bv (v := Value.bool x1) F H6 Aa (fun w W => EB any w _ h1)) fun a w F W => ?_
  refine ls F W Aa (Af F Aa).q fun a w F W => ?_
  refine Ae (Ac (AB (AQ ?_)))
  have H := A3 H
  subst H
  refine Bh (.inl Aa) F W Aa (Aq F Aa) ?_
  exact ⟨rfl, W.done⟩
 have H := A9 (by rw [hb]; decide) H
 rw [hb] at F
 clear hb
 refine Ap (Ac (Ai (Ab ?_)))
 refine ls F W Aa (Al (v := Value.agg #[.int .i64 p0.1, v1, v2]) 0 F Aa Aa HT Aa).q fun a w F W => ?_
 obtain ⟨x2, h2, H⟩ := An H
 rcases x2 with x3 | x4
 ·
  have H := J4 H
  refine Bq (Ml := []) (Zl := []) (M := [(b1, [.int .i64 p0.1, v1, v2])]) (Z := []) (β := Nat × Value × Value × Value) (rv := fun x => .tuple #[.pointer (some ⟨x.1, 0, none⟩), .int .i64 0]) (MM := fun x => [(x.1, [.int .i64 x3.1.1, x.2.1, x.2.2.1, x.2.2.2])]) (ZZ := fun x => [AC x.2.1 A6 x3.1.2.1, AC x.2.2.1 Bg x3.1.2.2, row x.2.2.2 51 AF x3.2]) F W H7 Aa Aa (fun hL => EU _ w (v1) (v2) p0 _ h2 (W.old s_v1) ((Av h_v2) w W).nx) fun x a w F W => ?_
  obtain ⟨b2, v4, v5, v6⟩ := x
  have W : Stw ⟨Y, [], w0⟩ [(b2, [.int .i64 x3.1.1, v4, v5, v6]), (b1, [.int .i64 p0.1, v1, v2])] [AC v4 A6 x3.1.2.1, AC v5 Bg x3.1.2.2, row v6 51 AF x3.2] w := W
  refine ls F W Aa (Ad F Aa).q fun a w F W => ?_
  refine ls F W Aa (AK (v := Value.pointer (some ⟨b2, 0, none⟩)) F Aa Aa).q fun a w F W => ?_
  refine ls F W Aa (AK (v := Value.int .i64 0) F Aa Aa).q fun a w F W => ?_
  iterate 2 refine ls F W Aa (Af F Aa).q fun a w F W => ?_
  refine Ae (Ac (Ai (Ab ?_)))
  refine ls F W Aa (Al (v := Value.agg #[.int .i64 p0.1, v1, v2]) 1 F Aa Aa HT Aa).q fun a w F W => ?_
  obtain ⟨x5, h3, H⟩ := An H
  rcases x5 with x6 | x7
  ·
   have H := J4 H
   refine Bq (Ml := []) (Zl := []) (M := [(b2, [.int .i64 x3.1.1, v4, v5, v6]), (b1, [.int .i64 p0.1, v1, v2])]) (Z := [AC v4 A6 x3.1.2.1, AC v5 Bg x3.1.2.2, row v6 51 AF x3.2]) (β := Nat × Value × Value × Value) (rv := fun x => .pointer (some ⟨x.1, 0, none⟩)) (MM := fun x => [(x.1, [.int .i64 x6.1.1, x.2.1, x.2.2.1, x.2.2.2])]) (ZZ := fun x => [AC x.2.1 A6 x6.1.2.1, AC x.2.2.1 Bg x6.1.2.2, row x.2.2.2 64 BM x6.2]) F W H8 Aa Aa (fun hL => Fm _ w (v1) (v2) p0 _ h3 (W.old s_v1) (W.old s_v2)) fun x a w F W => ?_
   obtain ⟨b3, v7, v8, v9⟩ := x
   have W : Stw ⟨Y, [], w0⟩ [(b3, [.int .i64 x6.1.1, v7, v8, v9]), (b2, [.int .i64 x3.1.1, v4, v5, v6]), (b1, [.int .i64 p0.1, v1, v2])] [AC v7 A6 x6.1.2.1, AC v8 Bg x6.1.2.2, row v9 64 BM x6.2, AC v4 A6 x3.1.2.1, AC v5 Bg x3.1.2.2, row v6 51 AF x3.2] w := W
   refine ls F W Aa (Af F Aa).q fun a w F W => ?_
   refine Ae (Ac (Ai (Ai (Ab ?_))))
   refine ls F W Aa (Ad F Aa).q fun a w F W => ?_
   refine ls F W Aa (Cx Ki F Aa Aa).q fun a w F W => ?_
   refine Ae (Ac ?_)
   refine D6 F Aa ?_
   refine Ap (Ac (Ai (Ai (Ab ?_))))
   refine ls F W Aa (Ad F Aa).q fun a w F W => ?_
   refine ls F W Aa (Fk F Aa Aa).q fun a w F W => ?_
   rw [show decide ((0 : Int) ≠ 0) = false from by decide] at F
   refine Ae (Ac ?_)
   refine D6 F Aa ?_
   refine Ap (Ac ?_)
   obtain ⟨o1, G1, K1, L1⟩ := J2 H
   refine AN (fun a w => ∃ x8 : Int, ∃ x9 : List (Int × Int × Int × Int × Int × Int), ∃ x10 : List (Int × Int), ∃ x11 : List (Int × Int × Int × (Int × Int × Int × Int) × Int × Int), ∃ x12 : Int, ∃ x13 : List (Int × Int × Int × Int × Int × Int), ∃ x14 : List (Int × Int), ∃ x15 : List (Int × Int × Int × (Int × Int × Int × Int) × Int × Int), ∃ v10 : Value, ∃ v11 : Value, ∃ v12 : Value, ∃ v13 : Value, ∃ v14 : Value, ∃ v15 : Value, some (Sum.inl (x8, x9, x10, x11, x12, x13, x14, x15)) = some o1 ∧ Fr 84 [] [(4, .bool false)] a ∧ Stw ⟨Y, [], w0⟩ [(b3, [.int .i64 x8, v10, v11, v12]), (b2, [.int .i64 x12, v13, v14, v15]), (b1, [.int .i64 p0.1, v1, v2])] [AC v10 A6 x9, AC v11 Bg x10, row v12 64 BM x11, AC v13 A6 x13, AC v14 Bg x14, row v15 51 AF x15] w) ?_ ?_
   ·
    have H := G1
    clear G1 K1
    refine Ai (Ab ?_)
    refine ls F W Aa (Af F Aa).q fun a w F W => ?_
    refine Ae (Ac (Ax ?_))
    have W := W.frontZ (i := 5) Aa Aa
    have W := W.frontZ (i := 5) Aa Aa
    have W := W.frontZ (i := 5) Aa Aa
    have W := W.frontZ (i := 5) Aa Aa
    have W := W.frontZ (i := 5) Aa Aa
    have W := W.frontZ (i := 5) Aa Aa
    have W := W.frontM (i := 2) Aa Aa
    have W := W.frontM (i := 2) Aa Aa
    have W := W.frontM (i := 2) Aa Aa
    refine BA H (fun s a w => ∃ v16 : Value, ∃ v17 : Value, ∃ v18 : Value, ∃ v19 : Value, ∃ v20 : Value, ∃ v21 : Value, Fr 84 [] [(1, v3), (4, .bool false), (5, .pointer (some ⟨b2, 0, none⟩)), (7, .pointer (some ⟨b3, 0, none⟩)), (8, .int .i64 s.1)] a ∧ Stw ⟨Y, [], w0⟩ [(b3, [.int .i64 s.2.1, v16, v17, v18]), (b2, [.int .i64 s.2.2.2.2.2.1, v19, v20, v21]), (b1, [.int .i64 p0.1, v1, v2])] [AC v16 A6 s.2.2.1, AC v17 Bg s.2.2.2.1, row v18 64 BM s.2.2.2.2.1, AC v19 A6 s.2.2.2.2.2.2.1, AC v20 Bg s.2.2.2.2.2.2.2.1, row v21 51 AF s.2.2.2.2.2.2.2.2] w) ⟨(v7), (v8), (v9), (v4), (v5), (v6), F.re ⟨rfl, Aa, Aa, Aa, Aa, trivial⟩, W⟩ fun s o a w H L2 hR => ?_
    obtain ⟨x16, x17, x18, x19, x20, x21, x22, x23, x24⟩ := s
    obtain ⟨v16, v17, v18, v19, v20, v21, F, W⟩ := hR
    have F : Fr 84 [] [(1, v3), (4, .bool false), (5, .pointer (some ⟨b2, 0, none⟩)), (7, .pointer (some ⟨b3, 0, none⟩)), (8, .int .i64 x16)] a := F
    have W : Stw ⟨Y, [], w0⟩ [(b3, [.int .i64 x17, v16, v17, v18]), (b2, [.int .i64 x21, v19, v20, v21]), (b1, [.int .i64 p0.1, v1, v2])] [AC v16 A6 x18, AC v17 Bg x19, row v18 64 BM x20, AC v19 A6 x22, AC v20 Bg x23, row v21 51 AF x24] w := W
    rw [CH] at H
    refine Ai ?_
    refine AN (fun a w => Fr 84 [] [(1, v3), (4, .bool false), (5, .pointer (some ⟨b2, 0, none⟩)), (7, .pointer (some ⟨b3, 0, none⟩)), (8, .int .i64 x16), (47, .bool (decide (x16 < (p1.length : Int)) && decide (x16 < 300)))] a ∧ Stw ⟨Y, [], w0⟩ [(b3, [.int .i64 x17, v16, v17, v18]), (b2, [.int .i64 x21, v19, v20, v21]), (b1, [.int .i64 p0.1, v1, v2])] [AC v16 A6 x18, AC v17 Bg x19, row v18 64 BM x20, AC v19 A6 x22, AC v20 Bg x23, row v21 51 AF x24] w) ?_ ?_
    ·
     refine Ab ?_
     iterate 2 refine ls F W Aa (Ad F Aa).q fun a w F W => ?_
     refine ls F W Aa (Cg (r := K0) (l := p1) Lm Aa F Aa (Av h_v3)).q fun a w F W => ?_
     refine ls F W Aa (BD F Aa Aa).q fun a w F W => ?_
     refine ls F W Aa (Ad F Aa).q fun a w F W => ?_
     rcases Bool.eq_false_or_eq_true (decide (x16 < (p1.length : Int))) with hb0 | hb0
     ·
      rw [hb0] at F
      refine Az F W (Ah F Aa Aa Aa Aa) Aa (Am Aa) (Ad F Aa).q fun a w F W => ?_
      refine Az F W (Ah F Aa Aa Aa Aa) Aa (Am Aa) (BD F Aa Aa).q fun a w F W => ?_
      refine ls F W Aa (Ao F Aa Aa Aa).q fun a w F W => ?_
      refine Ae (Ac ?_)
      exact ⟨F.re ⟨rfl, Aa, Aa, Aa, Aa, (DZ (by try rw [hb0]; all_goals simp only [DT])), trivial⟩, W⟩
     rw [hb0] at F
     iterate 2 refine BX F Aa Aa Aa Aa Aa Aa Aa fun a F => ?_
     refine ls F W Aa (Aj F Aa Aa Aa).q fun a w F W => ?_
     refine Ae (Ac ?_)
     exact ⟨F.re ⟨rfl, Aa, Aa, Aa, Aa, (DZ (by try rw [hb0]; all_goals simp only [DT])), trivial⟩, W⟩
    rintro a w ⟨F, W⟩
    refine Ay F Aa (fun hb => ?_) fun hb => ?_
    ·
     have H := A8 hb H
     rw [hb] at F
     clear hb
     refine Ap (Ac (Ai (Ax (Ai (Ai (Ab ?_))))))
     iterate 2 refine ls F W Aa (Ad F Aa).q fun a w F W => ?_
     obtain ⟨x25, h4, H⟩ := An H
     refine ls F W Aa (Be (r := K0) Md F Aa Aa (Av h_v3) h4).q fun a w F W => ?_
     refine ls F W Aa (Ag EP Aa Aa Aa T3 F Aa (D8 v3 + (x16).toNat * 10 + 1) Aa).q fun a w F W => ?_
     refine ls F W Aa (AE (y := Value.int .i64 x25.2.1) (j := 1) (i := x16) F Aa Aa (Av h_v3) h4 Mb.to T3 Aa).q fun a w F W => ?_
     refine ls F W Aa (Bv (v := Value.bool (Fc x25.2.1)) F H9 Aa (fun w W => Iv any w x25.2.1 _ Aa)) fun a w F W => ?_
     refine ls F W Aa (EL F Aa).q fun a w F W => ?_
     refine Ae (Ac ?_)
     refine Ay F Aa (fun hb => ?_) fun hb => ?_
     ·
      have H := A8 hb H
      rw [hb] at F
      clear hb
      refine Ai (Ab ?_)
      obtain ⟨x26, h5, H⟩ := An H
      refine ls F W Aa (Bv (v := Value.bool x26) F H6 Aa (fun w W => EB any w _ h5)) fun a w F W => ?_
      refine ls F W Aa (Af F Aa).q fun a w F W => ?_
      refine Ae (Ac (AB (AQ (BG ?_))))
      iterate 2 refine AQ ?_
      refine BG (AQ ?_)
      have H := L2 _ H
      have H := L1 _ H
      have H := A3 H
      subst H
      refine Bh (.inl Aa) F W Aa (Aq F Aa) ?_
      exact ⟨rfl, W.done⟩
     have H := A9 (by rw [hb]; decide) H
     rw [hb] at F
     clear hb
     refine Ap (Ac ?_)
     obtain ⟨o3, G3, K3⟩ := An H
     refine AN (fun a w => ∃ x27 : Bool, ∃ x28 : Int, ∃ x29 : List (Int × Int × Int × Int × Int × Int), ∃ x30 : List (Int × Int), ∃ x31 : List (Int × Int × Int × (Int × Int × Int × Int) × Int × Int), ∃ x32 : Int, ∃ x33 : List (Int × Int × Int × Int × Int × Int), ∃ x34 : List (Int × Int), ∃ x35 : List (Int × Int × Int × (Int × Int × Int × Int) × Int × Int), ∃ v22 : Value, ∃ v23 : Value, ∃ v24 : Value, ∃ v25 : Value, ∃ v26 : Value, ∃ v27 : Value, some ((x27, x28, x29, x30, x31, x32, x33, x34, x35)) = some o3 ∧ Fr 84 [] [(1, v3), (4, .bool false), (5, .pointer (some ⟨b2, 0, none⟩)), (7, .pointer (some ⟨b3, 0, none⟩)), (8, .int .i64 x16), (82, .bool x27)] a ∧ Stw ⟨Y, [], w0⟩ [(b3, [.int .i64 x28, v22, v23, v24]), (b2, [.int .i64 x32, v25, v26, v27]), (b1, [.int .i64 p0.1, v1, v2])] [AC v22 A6 x29, AC v23 Bg x30, row v24 64 BM x31, AC v25 A6 x33, AC v26 Bg x34, row v27 51 AF x35] w) ?_ ?_
     ·
      have H := G3
      clear G3 K3
      refine DJ [(true, 0), (true, 1), (true, 2), (true, 3), (true, 4), (true, 5), (false, 6), (true, 7), (true, 8), (true, 9), (true, 11), (true, 12), (true, 13), (true, 14), (true, 15), (false, 10), (true, 16), (true, 17), (true, 18), (true, 19), (true, 21), (false, 20), (false, 22), (true, 23), (true, 24)] (CN ⟨Y, [], w0⟩ [] []) (fun ch a d v w h => by cases d <;> exact h) MO (by kernel_rfl) W (fun w W => ⟨_, _, W, As, As⟩) fun w W => ?_
      iterate 4 refine A5 (R := []) F Aa Aa (yC fun M Z hN hZ => Ad F Aa) Aa Aa fun a F => ?_
      obtain ⟨x36, h6, H⟩ := An H
      refine A5 (R := []) F Aa Aa (yC fun M Z hN hZ => Be (r := K0) Md F Aa Aa (Av h_v3) h6) Aa Aa fun a F => ?_
      refine A5 (R := []) F Aa Aa (yC fun M Z hN hZ => AE (y := Value.agg #[.int .i64 x36.1, .int .i64 x36.2.1, .int .i64 x36.2.2.1, .int .i64 x36.2.2.2.1, .int .i64 x36.2.2.2.2.1, .int .i64 x36.2.2.2.2.2.1, .int .i64 x36.2.2.2.2.2.2.1, .int .i64 x36.2.2.2.2.2.2.2.1, .int .i64 x36.2.2.2.2.2.2.2.2.1, .int .i64 x36.2.2.2.2.2.2.2.2.2]) (j := 0) (i := x16) F Aa Aa (Av h_v3) h6 Mb.to Mp Aa) Aa Aa fun a F => ?_
      refine DB Aa ?_
      obtain ⟨x37, h7, H⟩ := An H
      have W := W.frontZ (i := 2) Aa Aa
      have W := W.frontZ (i := 2) Aa Aa
      have W := W.frontZ (i := 2) Aa Aa
      have W := W.frontZ (i := 5) Aa Aa
      have W := W.frontZ (i := 5) Aa Aa
      have W := W.frontZ (i := 5) Aa Aa
      have W := W.frontM (i := 1) Aa Aa
      refine Bq (Ml := [(b2, [.int .i64 x21, v19, v20, v21]), (b3, [.int .i64 x17, v16, v17, v18])]) (Zl := [AC v19 A6 x22, AC v20 Bg x23, row v21 51 AF x24, AC v16 A6 x18, AC v17 Bg x19, row v18 64 BM x20]) (M := [(b1, [.int .i64 p0.1, v1, v2])]) (Z := []) (β := Value × Value × Value × Value × Value × Value) (rv := fun x => .bool x37.1) (MM := fun x => [(b2, [.int .i64 x37.2.1.1.1, x.1, x.2.1, x.2.2.1]), (b3, [.int .i64 x37.2.2.1.1, x.2.2.2.1, x.2.2.2.2.1, x.2.2.2.2.2])]) (ZZ := fun x => [AC x.1 A6 x37.2.1.1.2.1, AC x.2.1 Bg x37.2.1.1.2.2, row x.2.2.1 51 AF x37.2.1.2, AC x.2.2.2.1 A6 x37.2.2.1.2.1, AC x.2.2.2.2.1 Bg x37.2.2.1.2.2, row x.2.2.2.2.2 64 BM x37.2.2.2]) F W Nb Aa Aa (fun hL => Iu _ _ w b2 (v19) (v20) (v21) b3 (v16) (v17) (v18) ((x21, x22, x23), x24) ((x17, x18, x19), x20) x36 _ h7 hL) fun x a w F W => ?_
      obtain ⟨v28, v29, v30, v31, v32, v33⟩ := x
      have W : Stw ⟨Y, [], w0⟩ [(b2, [.int .i64 x37.2.1.1.1, v28, v29, v30]), (b3, [.int .i64 x37.2.2.1.1, v31, v32, v33]), (b1, [.int .i64 p0.1, v1, v2])] [AC v28 A6 x37.2.1.1.2.1, AC v29 Bg x37.2.1.1.2.2, row v30 51 AF x37.2.1.2, AC v31 A6 x37.2.2.1.2.1, AC v32 Bg x37.2.2.1.2.2, row v33 64 BM x37.2.2.2] w := W
      refine BB (N2 := [(some 20, b3, [.int .i64 x37.2.2.1.1, v31, v32, v33])]) (NZ2 := [(some 20, row v33 64 BM x37.2.2.2)]) (N3 := [(some 20, b3, [.int .i64 x37.2.2.1.1, v31, v32, v33])]) (NZ3 := [(some 20, row v33 64 BM x37.2.2.2)]) W Aa Aa (all_cons (fun _ => (.tail _ (.head _))) As) (all_cons (fun _ => (.tail _ (.tail _ (.tail _ (.tail _ (.tail _ (.head _))))))) As) ?_
      refine A5 (R := []) F Aa Aa (yC fun M Z hN hZ => EL F Aa) Aa Aa fun a F => ?_
      refine A5 (R := []) F Aa Aa (yC fun M Z hN hZ => Ad F Aa) Aa Aa fun a F => ?_
      rcases Bool.eq_false_or_eq_true (!x37.1) with hb | hb
      ·
       have H := A8 hb H
       rw [hb] at F
       clear hb
       iterate 6 refine Fq F Aa (D4 F Aa Aa Aa Aa Aa) Aa Aa Aa fun a F => ?_
       refine DB Aa ?_
       refine BX F Aa Aa Aa Aa Aa Aa Aa fun a F => ?_
       refine BB (N2 := []) (NZ2 := []) (N3 := [(some 20, b3, [.int .i64 x37.2.2.1.1, v31, v32, v33])]) (NZ3 := [(some 20, row v33 64 BM x37.2.2.2)]) W Aa Aa (all_cons (fun _ => (.tail _ (.head _))) As) (all_cons (fun _ => (.tail _ (.tail _ (.tail _ (.tail _ (.tail _ (.head _))))))) As) ?_
       refine Fq F Aa (D4 F Aa Aa Aa Aa Aa) Aa Aa Aa fun a F => ?_
       refine A5 (R := []) F Aa Aa (yC fun M Z hN hZ => Ao F Aa Aa Aa) Aa Aa fun a F => ?_
       refine A5 (R := []) F Aa Aa (yC fun M Z hN hZ => Ad F Aa) Aa Aa fun a F => ?_
       iterate 2 refine Fq F Aa (D4 F Aa Aa Aa Aa Aa) Aa Aa Aa fun a F => ?_
       refine DB Aa ?_
       refine BX F Aa Aa Aa Aa Aa Aa Aa fun a F => ?_
       refine BB (N2 := []) (NZ2 := []) (N3 := [(some 20, b3, [.int .i64 x37.2.2.1.1, v31, v32, v33])]) (NZ3 := [(some 20, row v33 64 BM x37.2.2.2)]) W Aa Aa (all_cons (fun h => AO (by kernel_rfl) h) As) (all_cons (fun h => AO (by kernel_rfl) h) As) ?_
       refine DB Aa ?_
       refine BX F Aa Aa Aa Aa Aa Aa Aa fun a F => ?_
       refine BB (N2 := []) (NZ2 := []) (N3 := [(some 20, b3, [.int .i64 x37.2.2.1.1, v31, v32, v33])]) (NZ3 := [(some 20, row v33 64 BM x37.2.2.2)]) W Aa Aa (all_cons (fun h => AO (by kernel_rfl) h) As) (all_cons (fun h => AO (by kernel_rfl) h) As) ?_
       refine Fq F Aa (D4 F Aa Aa Aa Aa Aa) Aa Aa Aa fun a F => ?_
       refine A5 (R := []) F Aa Aa (yC fun M Z hN hZ => Ao F Aa Aa Aa) Aa Aa fun a F => ?_
       refine Ej (Ac ?_)
       have W := W.frontZ (i := 2) Aa Aa
       have W := W.frontZ (i := 2) Aa Aa
       have W := W.frontZ (i := 2) Aa Aa
       have W := W.frontZ (i := 5) Aa Aa
       have W := W.frontZ (i := 5) Aa Aa
       have W := W.frontZ (i := 5) Aa Aa
       have W := W.frontM (i := 2) Aa Aa
       have W := W.frontM (i := 1) Aa Aa
       have W := W.frontM (i := 2) Aa Aa
       exact ⟨_, _, _, _, _, _, _, _, _, (v31), (v32), (v33), (v28), (v29), (v30), H, F.re ⟨rfl, Aa, Aa, Aa, Aa, Aa, trivial⟩, W⟩
      have H := A9 (by rw [hb]; decide) H
      rw [hb] at F
      clear hb
      iterate 2 refine Ii (R := []) F Aa (Ah F Aa Aa Aa Aa) Aa Aa (yC fun M Z hN hZ => Ad F Aa) Aa Aa fun a F => ?_
      refine Ii (R := []) F Aa (Ah F Aa Aa Aa Aa) Aa Aa (yC fun M Z hN hZ => AM F Aa) Aa Aa fun a F => ?_
      refine Ii (R := []) F Aa (Ah F Aa Aa Aa Aa) Aa Aa (yC fun M Z hN hZ => Ag Ep Aa Aa Aa E2 F Aa 3 Aa) Aa Aa fun a F => ?_
      refine Ii (R := [20, 18, 17, 16, 15]) F Aa (Ah F Aa Aa Aa Aa) Aa Aa (yC fun M Z hN hZ => Cc (cs := [.int .i64 x37.2.2.1.1, v31, v32, v33]) (v := v33) F Aa (hN ((some 20), b3, [.int .i64 x37.2.2.1.1, v31, v32, v33]) (.head _) Aa) E2 Aa) (by kernel_rfl) Aa fun a F => ?_
      refine Ii (R := [20, 18, 17, 16]) F Aa (Ah F Aa Aa Aa Aa) Aa Aa (yC fun M Z hN hZ => Cg (r := BM) (l := x37.2.2.2) Ho Aa F Aa (DI (hZ ((some 20), row v33 64 BM x37.2.2.2) (.head _) Aa))) (by kernel_rfl) Aa fun a F => ?_
      refine DB Aa ?_
      refine HD (Ah F Aa Aa Aa Aa) ?_
      refine ls F W Aa (Bv (v := Value.int .i64 (Bp x37.2.1)) F LC Aa (fun w W => DX any w b2 (v28) (v29) (v30) x37.2.1 _ Aa (((Br 0 Aa) : CY _ _ _ _ _ _) w W).nx (((Br 1 Aa) : CY _ _ _ _ _ _) w W).nx (((AA 2 Aa) : CY _ _ _ _ _ _) w W).nx (GD W 0 Aa))) fun a w F W => ?_
      refine BB (N2 := []) (NZ2 := []) (N3 := [(some 20, b3, [.int .i64 x37.2.2.1.1, v31, v32, v33])]) (NZ3 := [(some 20, row v33 64 BM x37.2.2.2)]) W Aa Aa (all_cons (fun _ => (.tail _ (.head _))) As) (all_cons (fun _ => (.tail _ (.tail _ (.tail _ (.tail _ (.tail _ (.head _))))))) As) ?_
      refine Ii (R := []) F Aa (Ah F Aa Aa Aa Aa) Aa Aa (yC fun M Z hN hZ => Fk F Aa Aa) Aa Aa fun a F => ?_
      refine A5 (R := []) F Aa Aa (yC fun M Z hN hZ => Aj F Aa Aa Aa) Aa Aa fun a F => ?_
      refine A5 (R := []) F Aa Aa (yC fun M Z hN hZ => Ad F Aa) Aa Aa fun a F => ?_
      rcases Bool.eq_false_or_eq_true (decide ((Bp x37.2.1) ≠ (x37.2.2.2.length : Int))) with hb | hb
      ·
       have H := A8 (BI hb) H
       rw [hb] at F
       clear hb
       iterate 2 refine Fq F Aa (D4 F Aa Aa Aa Aa Aa) Aa Aa Aa fun a F => ?_
       refine DB Aa ?_
       refine BX F Aa Aa Aa Aa Aa Aa Aa fun a F => ?_
       refine BB (N2 := []) (NZ2 := []) (N3 := [(some 20, b3, [.int .i64 x37.2.2.1.1, v31, v32, v33])]) (NZ3 := [(some 20, row v33 64 BM x37.2.2.2)]) W Aa Aa (all_cons (fun h => AO (by kernel_rfl) h) As) (all_cons (fun h => AO (by kernel_rfl) h) As) ?_
       refine DB Aa ?_
       refine BX F Aa Aa Aa Aa Aa Aa Aa fun a F => ?_
       refine BB (N2 := []) (NZ2 := []) (N3 := [(some 20, b3, [.int .i64 x37.2.2.1.1, v31, v32, v33])]) (NZ3 := [(some 20, row v33 64 BM x37.2.2.2)]) W Aa Aa (all_cons (fun h => AO (by kernel_rfl) h) As) (all_cons (fun h => AO (by kernel_rfl) h) As) ?_
       refine Fq F Aa (D4 F Aa Aa Aa Aa Aa) Aa Aa Aa fun a F => ?_
       refine A5 (R := []) F Aa Aa (yC fun M Z hN hZ => Ao F Aa Aa Aa) Aa Aa fun a F => ?_
       refine Ej (Ac ?_)
       have W := W.frontZ (i := 2) Aa Aa
       have W := W.frontZ (i := 2) Aa Aa
       have W := W.frontZ (i := 2) Aa Aa
       have W := W.frontZ (i := 5) Aa Aa
       have W := W.frontZ (i := 5) Aa Aa
       have W := W.frontZ (i := 5) Aa Aa
       have W := W.frontM (i := 2) Aa Aa
       have W := W.frontM (i := 1) Aa Aa
       have W := W.frontM (i := 2) Aa Aa
       exact ⟨_, _, _, _, _, _, _, _, _, (v31), (v32), (v33), (v28), (v29), (v30), H, F.re ⟨rfl, Aa, Aa, Aa, Aa, Aa, trivial⟩, W⟩
      have H := A9 (BH hb) H
      rw [hb] at F
      clear hb
      iterate 2 refine Ii (R := []) F Aa (Ah F Aa Aa Aa Aa) Aa Aa (yC fun M Z hN hZ => Ad F Aa) Aa Aa fun a F => ?_
      refine DB Aa ?_
      refine HD (Ah F Aa Aa Aa Aa) ?_
      obtain ⟨x38, h8, H⟩ := An H
      refine ls F W Aa (Bv (v := Value.int .i64 x38) F LG Aa (fun w W => DG any w b2 (v28) (v29) (v30) x37.2.1 _ h8 (((Br 0 Aa) : CY _ _ _ _ _ _) w W).nx (((Br 1 Aa) : CY _ _ _ _ _ _) w W).nx (((AA 2 Aa) : CY _ _ _ _ _ _) w W).nx (GD W 0 Aa))) fun a w F W => ?_
      refine BB (N2 := []) (NZ2 := []) (N3 := [(some 20, b3, [.int .i64 x37.2.2.1.1, v31, v32, v33])]) (NZ3 := [(some 20, row v33 64 BM x37.2.2.2)]) W Aa Aa (all_cons (fun h => AO (by kernel_rfl) h) As) (all_cons (fun h => AO (by kernel_rfl) h) As) ?_
      refine DB Aa ?_
      refine HD (Ah F Aa Aa Aa Aa) ?_
      obtain ⟨x39, h9, H⟩ := An H
      refine ls F W Aa (Bv (v := Value.int .i64 x39) F LX Aa (fun w W => DU any w b3 (v31) (v32) (v33) x37.2.2 _ h9 (((Br 3 Aa) : CY _ _ _ _ _ _) w W).nx (((Br 4 Aa) : CY _ _ _ _ _ _) w W).nx (((AA 5 Aa) : CY _ _ _ _ _ _) w W).nx (GD W 1 Aa))) fun a w F W => ?_
      refine BB (N2 := []) (NZ2 := []) (N3 := [(some 20, b3, [.int .i64 x37.2.2.1.1, v31, v32, v33])]) (NZ3 := [(some 20, row v33 64 BM x37.2.2.2)]) W Aa Aa (all_cons (fun h => AO (by kernel_rfl) h) As) (all_cons (fun h => AO (by kernel_rfl) h) As) ?_
      refine Ii (R := []) F Aa (Ah F Aa Aa Aa Aa) Aa Aa (yC fun M Z hN hZ => Fk F Aa Aa) Aa Aa fun a F => ?_
      refine A5 (R := []) F Aa Aa (yC fun M Z hN hZ => Aj F Aa Aa Aa) Aa Aa fun a F => ?_
      refine Ej (Ac ?_)
      have W := W.frontZ (i := 2) Aa Aa
      have W := W.frontZ (i := 2) Aa Aa
      have W := W.frontZ (i := 2) Aa Aa
      have W := W.frontZ (i := 5) Aa Aa
      have W := W.frontZ (i := 5) Aa Aa
      have W := W.frontZ (i := 5) Aa Aa
      have W := W.frontM (i := 2) Aa Aa
      have W := W.frontM (i := 1) Aa Aa
      have W := W.frontM (i := 2) Aa Aa
      exact ⟨_, _, _, _, _, _, _, _, _, (v31), (v32), (v33), (v28), (v29), (v30), H, F.re ⟨rfl, Aa, Aa, Aa, Aa, Aa, trivial⟩, W⟩
     rintro a w ⟨x27, x28, x29, x30, x31, x32, x33, x34, x35, v22, v23, v24, v25, v26, v27, hj, F, W⟩
     have hj := A3 hj
     subst hj
     have H := K3
     clear G3 K3
     refine Ay F Aa (fun hb => ?_) fun hb => ?_
     ·
      have H := A8 hb H
      rw [hb] at F
      clear hb
      refine Ai (Ab ?_)
      refine ls F W Aa (Af F Aa).q fun a w F W => ?_
      refine Ae (Ac (AB (BG ?_)))
      iterate 2 refine AQ ?_
      refine BG (AQ ?_)
      have H := L2 _ H
      have H := L1 _ H
      have H := A3 H
      subst H
      refine Bh (.inl Aa) F W Aa (Aq F Aa) ?_
      exact ⟨rfl, W.done⟩
     have H := A9 (by rw [hb]; decide) H
     rw [hb] at F
     clear hb
     refine Ap (AV (Ac (Ab ?_)))
     refine ls F W Aa (Ad F Aa).q fun a w F W => ?_
     refine ls F W Aa (BN F Aa Aa Aa).q fun a w F W => ?_
     refine ls F W Aa (Af F Aa).q fun a w F W => ?_
     refine Ae (Ac ?_)
     have W := W.frontZ (i := 5) Aa Aa
     have W := W.frontZ (i := 5) Aa Aa
     have W := W.frontZ (i := 5) Aa Aa
     have W := W.frontZ (i := 5) Aa Aa
     have W := W.frontZ (i := 5) Aa Aa
     have W := W.frontZ (i := 5) Aa Aa
     have W := W.frontM (i := 2) Aa Aa
     have W := W.frontM (i := 2) Aa Aa
     have W := W.frontM (i := 2) Aa Aa
     exact ⟨_, H, (v22), (v23), (v24), (v25), (v26), (v27), F.re ⟨rfl, Aa, Aa, Aa, Aa, trivial⟩, W⟩
    have H := A9 (by rw [hb]; decide) H
    rw [hb] at F
    clear hb
    refine Bz ?_
    iterate 2 refine B9 ?_
    refine BC (Ac ?_)
    have W := W.frontZ (i := 5) Aa Aa
    have W := W.frontZ (i := 5) Aa Aa
    have W := W.frontZ (i := 5) Aa Aa
    have W := W.frontZ (i := 5) Aa Aa
    have W := W.frontZ (i := 5) Aa Aa
    have W := W.frontZ (i := 5) Aa Aa
    have W := W.frontM (i := 2) Aa Aa
    have W := W.frontM (i := 2) Aa Aa
    have W := W.frontM (i := 2) Aa Aa
    have H := L2 _ H
    exact ⟨_, _, _, _, _, _, _, _, (v16), (v17), (v18), (v19), (v20), (v21), H, F.re ⟨rfl, trivial⟩, W⟩
   rintro a w ⟨x8, x9, x10, x11, x12, x13, x14, x15, v10, v11, v12, v13, v14, v15, hj, F, W⟩
   have H := K1 _ hj
   clear hj G1 K1 L1
   refine Ai (Ab ?_)
   obtain ⟨x40, h10, H⟩ := An H
   refine ls F W Aa (Bv (v := Value.bool x40) F H6 Aa (fun w W => EB any w _ h10)) fun a w F W => ?_
   refine ls F W Aa (Af F Aa).q fun a w F W => ?_
   refine Ae (Ac (AB ?_))
   have H := A3 H
   subst H
   refine Bh (.inl Aa) F W Aa (Aq F Aa) ?_
   exact ⟨rfl, W.done⟩
  have H := Kf H
  refine Bq (Ml := []) (Zl := []) (M := [(b2, [.int .i64 x3.1.1, v4, v5, v6]), (b1, [.int .i64 p0.1, v1, v2])]) (Z := [AC v4 A6 x3.1.2.1, AC v5 Bg x3.1.2.2, row v6 51 AF x3.2]) (β := Unit) (rv := fun x => .pointer none) (MM := fun x => []) (ZZ := fun x => []) F W H8 Aa Aa (fun hL => Fm _ w (v1) (v2) p0 _ h3 (W.old s_v1) (W.old s_v2)) fun x a w F W => ?_
  have W : Stw ⟨Y, [], w0⟩ [(b2, [.int .i64 x3.1.1, v4, v5, v6]), (b1, [.int .i64 p0.1, v1, v2])] [AC v4 A6 x3.1.2.1, AC v5 Bg x3.1.2.2, row v6 51 AF x3.2] w := W
  refine ls F W Aa (Af F Aa).q fun a w F W => ?_
  refine Ae (Ac (Ai (Ai (Ab ?_))))
  refine ls F W Aa (Ad F Aa).q fun a w F W => ?_
  refine ls F W Aa (CP Ki F Aa Aa).q fun a w F W => ?_
  refine Ae (Ac ?_)
  refine DL F Aa ?_
  refine Ai (Ab ?_)
  refine ls F W Aa (Ad F Aa).q fun a w F W => ?_
  refine ls F W Aa (Cx HK F Aa Aa).q fun a w F W => ?_
  refine ls F W Aa (Ad F Aa).q fun a w F W => ?_
  iterate 2 refine BX F Aa Aa Aa Aa Aa Aa Aa fun a F => ?_
  refine ls F W Aa (Aj F Aa Aa Aa).q fun a w F W => ?_
  refine ls F W Aa (Ad F Aa).q fun a w F W => ?_
  refine BX F Aa Aa Aa Aa Aa Aa Aa fun a F => ?_
  refine ls F W Aa (Aj F Aa Aa Aa).q fun a w F W => ?_
  refine ls F W Aa (Af F Aa).q fun a w F W => ?_
  refine Ae (Ac (AB (AQ ?_)))
  have H := A3 H
  subst H
  refine Bh (.inl Aa) F W Aa (Aq F Aa) ?_
  exact ⟨rfl, W.done⟩
 have H := Kf H
 refine Bq (Ml := []) (Zl := []) (M := [(b1, [.int .i64 p0.1, v1, v2])]) (Z := []) (β := Unit) (rv := fun x => .tuple #[.pointer none, .int .i64 2]) (MM := fun x => []) (ZZ := fun x => []) F W H7 Aa Aa (fun hL => EU _ w (v1) (v2) p0 _ h2 (W.old s_v1) ((Av h_v2) w W).nx) fun x a w F W => ?_
 have W : Stw ⟨Y, [], w0⟩ [(b1, [.int .i64 p0.1, v1, v2])] [] w := W
 refine ls F W Aa (Ad F Aa).q fun a w F W => ?_
 refine ls F W Aa (AK (v := Value.pointer none) F Aa Aa).q fun a w F W => ?_
 refine ls F W Aa (AK (v := Value.int .i64 2) F Aa Aa).q fun a w F W => ?_
 iterate 2 refine ls F W Aa (Af F Aa).q fun a w F W => ?_
 refine Ae (Ac (Ai (Ab ?_)))
 refine ls F W Aa (Al (v := Value.agg #[.int .i64 p0.1, v1, v2]) 0 F Aa Aa HT Aa).q fun a w F W => ?_
 obtain ⟨x41, h11, H⟩ := An H
 rcases x41 with x42 | x43
 ·
  have H := J4 H
  refine Bq (Ml := []) (Zl := []) (M := [(b1, [.int .i64 p0.1, v1, v2])]) (Z := []) (β := Nat × Value × Value × Value) (rv := fun x => .pointer (some ⟨x.1, 0, none⟩)) (MM := fun x => [(x.1, [.int .i64 x42.1.1, x.2.1, x.2.2.1, x.2.2.2])]) (ZZ := fun x => [AC x.2.1 A6 x42.1.2.1, AC x.2.2.1 Bg x42.1.2.2, row x.2.2.2 64 BM x42.2]) F W H8 Aa Aa (fun hL => Fm _ w (v1) (v2) p0 _ h11 (W.old s_v1) (W.old s_v2)) fun x a w F W => ?_
  obtain ⟨b4, v34, v35, v36⟩ := x
  have W : Stw ⟨Y, [], w0⟩ [(b4, [.int .i64 x42.1.1, v34, v35, v36]), (b1, [.int .i64 p0.1, v1, v2])] [AC v34 A6 x42.1.2.1, AC v35 Bg x42.1.2.2, row v36 64 BM x42.2] w := W
  refine ls F W Aa (Af F Aa).q fun a w F W => ?_
  refine Ae (Ac (Ai (Ai (Ab ?_))))
  refine ls F W Aa (Ad F Aa).q fun a w F W => ?_
  refine ls F W Aa (Cx Ki F Aa Aa).q fun a w F W => ?_
  refine Ae (Ac ?_)
  refine D6 F Aa ?_
  refine Ap (Ac (Ai (Ai (Ab ?_))))
  refine ls F W Aa (Ad F Aa).q fun a w F W => ?_
  refine ls F W Aa (Fk F Aa Aa).q fun a w F W => ?_
  rw [show decide ((2 : Int) ≠ 0) = true from by decide] at F
  refine Ae (Ac ?_)
  refine DL F Aa ?_
  refine Ai (Ab ?_)
  refine ls F W Aa (Af F Aa).q fun a w F W => ?_
  refine Ae (Ac (AB (AQ ?_)))
  have H := A3 H
  subst H
  refine Bh (.inl Aa) F W Aa (Aq F Aa) ?_
  exact ⟨rfl, W.done⟩
 have H := Kf H
 refine Bq (Ml := []) (Zl := []) (M := [(b1, [.int .i64 p0.1, v1, v2])]) (Z := []) (β := Unit) (rv := fun x => .pointer none) (MM := fun x => []) (ZZ := fun x => []) F W H8 Aa Aa (fun hL => Fm _ w (v1) (v2) p0 _ h11 (W.old s_v1) (W.old s_v2)) fun x a w F W => ?_
 have W : Stw ⟨Y, [], w0⟩ [(b1, [.int .i64 p0.1, v1, v2])] [] w := W
 refine ls F W Aa (Af F Aa).q fun a w F W => ?_
 refine Ae (Ac (Ai (Ai (Ab ?_))))
 refine ls F W Aa (Ad F Aa).q fun a w F W => ?_
 refine ls F W Aa (CP Ki F Aa Aa).q fun a w F W => ?_
 refine Ae (Ac ?_)
 refine DL F Aa ?_
 refine Ai (Ab ?_)
 refine ls F W Aa (Ad F Aa).q fun a w F W => ?_
 refine ls F W Aa (CP HK F Aa Aa).q fun a w F W => ?_
 refine ls F W Aa (Ad F Aa).q fun a w F W => ?_
 refine Az F W (Ah F Aa Aa Aa Aa) Aa (Am Aa) (Ad F Aa).q fun a w F W => ?_
 refine Az F W (Ah F Aa Aa Aa Aa) Aa (Am Aa) (BQ F Aa Aa).q fun a w F W => ?_
 rw [show decide ((2 : Int) = 2) = true from by decide] at F
 refine ls F W Aa (Ao F Aa Aa Aa).q fun a w F W => ?_
 refine ls F W Aa (Ad F Aa).q fun a w F W => ?_
 refine HD (Ah F Aa Aa Aa Aa) ?_
 obtain ⟨x44, h12, H⟩ := An H
 refine ls F W Aa (Bv (v := Value.bool x44) F H6 Aa (fun w W => EB any w _ h12)) fun a w F W => ?_
 refine ls F W Aa (Ao F Aa Aa Aa).q fun a w F W => ?_
 refine ls F W Aa (Af F Aa).q fun a w F W => ?_
 refine Ae (Ac (AB (AQ ?_)))
 have H := A3 H
 subst H
 refine Bh (.inl Aa) F W Aa (Aq F Aa) ?_
 exact ⟨rfl, W.done⟩
end Go.Proofs.Ytemacefkdopgaaa
