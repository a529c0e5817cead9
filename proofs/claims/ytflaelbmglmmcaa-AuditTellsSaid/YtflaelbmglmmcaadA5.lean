/- The functions of layer 42, FF. Conditions: none. -/
import Derived.Test.YtflaelbmglmmcaadA4
namespace Go.Proofs.Ytflaelbmglmmcaa
open Go Go.RowKit
set_option linter.unusedVariables false
set_option linter.unusedSimpArgs false
set_option maxRecDepth 20000
theorem Pt : type_of% Try.underlying42 := Try.underlying42
theorem O4 : type_of% Try.underlying46 := Try.underlying46
theorem Rj : Has Try.prog 33 := ⟨fun args w => Al Try.func33 rfl (by decide) args w⟩
theorem P0 : Bt Try.prog 46 [.int .i64 0, .int .i64 0] [(0, 1), (1, 1)] := ⟨⟨.agg #[.int .i64 0, .int .i64 0], by kernel_rfl, rfl⟩, ⟨_, O4, fun w => by kernel_rfl⟩⟩
theorem P2 : (Try.prog.info? 46).bind (·.zero) = some (.agg #[.int .i64 0, .int .i64 0]) := by kernel_rfl
abbrev FS : Rp (Int × Int) := (Rp.pair (Rp.int .i64) (Rp.int .i64))
def Rm (a : Int × Int) : List Value := [.int .i64 a.1, .int .i64 a.2]
theorem Pz : Fl FS Rm := (Fl.pair Fl.int Fl.int)
theorem N7 : Et Try.prog 42 46 2 16 := Et.of Pt (by kernel_rfl) (by kernel_rfl) (by kernel_rfl) (by decide)
noncomputable def Eh (p0 : Int × (List (Int × Int × Int × Int × Int × Int)) × (List (Int × Int))) (p1 : Int) (p2 : Int) : (Int × Int) → Option ((Int × Int) ⊕ Int)
  | (x2, x3) => (if x3 < (p0.2.1.length : Int) then ((ix p0.2.1 x3).bind fun x5 => (if (decide (x5.1 = p1) && decide (x5.2.1 = p2)) = true then some (Dz (x2 + 1)) else some x2).bind fun x6 => (if (decide (x5.2.2.1 = p1) && decide (x5.2.2.2.1 = p2)) = true then some (Dz (x6 + 1)) else some x6)).bind fun x4 => some (.inl (x4, Dz (x3 + 1))) else some (.inr x2))
noncomputable def Eg (p0 : Int × (List (Int × Int × Int × Int × Int × Int)) × (List (Int × Int))) (p1 : Int) (p2 : Int) : (Int × Int) → Option ((Int × Int) ⊕ Int)
  | (x8, x9) => (if x9 < (p0.2.2.length : Int) then (((ix p0.2.2 x9).bind fun x12 => (if x12.1 = p1 then (ix p0.2.2 x9).bind fun x13 => some (decide (x13.2 = p2)) else some false)).bind fun x11 => (if x11 = true then some (Dz (x8 + 1)) else some x8)).bind fun x10 => some (.inl (x10, Dz (x9 + 1))) else some (.inr x8))
noncomputable def FK (p0 : Int × (List (Int × Int × Int × Int × Int × Int)) × (List (Int × Int))) (p1 : Int) (p2 : Int) : Option Bool := (AM (Eh p0 p1 p2) (0, 0)).bind fun x1 => (AM (Eg p0 p1 p2) (x1, 0)).bind fun x7 => some (decide (0 ≤ p1) && (decide (p1 < p0.1) && (decide (0 ≤ p2) && (decide (p2 ≤ 7) && decide (x7 = 1)))))
theorem Hx (Y : Nat → Prop) (w0 : World) (v1 : Value) (v2 : Value) (p0 : Int × (List (Int × Int × Int × Int × Int × Int)) × (List (Int × Int))) (p1 : Int) (p2 : Int) (r : Bool) (H : FK p0 p1 p2 = some r) (h_v1 : Sl w0 (NX []) C8 v1 p0.2.1) (h_v2 : Sl w0 (NX []) EL v2 p0.2.2) :
    Calls Try.prog 56 #[.agg #[.int .i64 p0.1, v1, v2], .int .i64 p1, .int .i64 p2] w0 fun e w' => e = .returned (.bool r) ∧ Below w0.heap.size w0 w' := by
 refine enter Try.func56 Aa Try.ntmps56 Aa fun a F => ?_
 have W := Stw.start Y w0
 unfold FK at H
 refine Ai (Ac ?_)
 refine B9 (cs := [.int .i64 p0.1, v1, v2]) F W Aa Aa Aa fun b1 a w F W => ?_
 refine ls F W Aa (Ah F Aa).q fun a w F W => ?_
 refine Ad (Ab (Ai (Ac ?_)))
 refine ls F W Aa (Ah F Aa).q fun a w F W => ?_
 refine Ad (Ab ?_)
 obtain ⟨o1, G1, K1⟩ := An H
 refine AB (fun a w => ∃ x1 : Int, some (x1) = some o1 ∧ Fr 94 [] [(1, .int .i64 p1), (2, .int .i64 p2), (3, .pointer (some ⟨b1, 0, none⟩)), (6, .bool false), (7, .int .i64 x1)] a ∧ Stw ⟨Y, [], w0⟩ [(b1, [.int .i64 p0.1, v1, v2])] [] w) ?_ ?_
 ·
  have H := G1
  clear G1 K1
  refine Ai (Ac ?_)
  refine ls F W Aa (Ah F Aa).q fun a w F W => ?_
  refine Ad (Ab (Au ?_))
  refine Bf H (fun s a w => Fr 94 [] [(1, .int .i64 p1), (2, .int .i64 p2), (3, .pointer (some ⟨b1, 0, none⟩)), (6, .bool false), (7, .int .i64 s.1), (8, .int .i64 s.2)] a ∧ Stw ⟨Y, [], w0⟩ [(b1, [.int .i64 p0.1, v1, v2])] [] w) ⟨F.re ⟨rfl, Aa, Aa, Aa, Aa, Aa, trivial⟩, W⟩ fun s o a w H L2 hR => ?_
  obtain ⟨x2, x3⟩ := s
  obtain ⟨F, W⟩ := hR
  have F : Fr 94 [] [(1, .int .i64 p1), (2, .int .i64 p2), (3, .pointer (some ⟨b1, 0, none⟩)), (6, .bool false), (7, .int .i64 x2), (8, .int .i64 x3)] a := F
  have W : Stw ⟨Y, [], w0⟩ [(b1, [.int .i64 p0.1, v1, v2])] [] w := W
  rw [Eh] at H
  refine Ai (Ai (Ac ?_))
  refine ls F W Aa (Ag F Aa).q fun a w F W => ?_
  refine ls F W Aa (Af Dg Aa Aa Aa IY F Aa 1 Aa).q fun a w F W => ?_
  refine ls F W Aa (Am (v := v1) 0 F Aa Aa IY Aa).q fun a w F W => ?_
  refine ls F W Aa (A6 (r := C8) (l := p0.2.1) JY Aa F Aa (Aj h_v1)).q fun a w F W => ?_
  refine ls F W Aa (Bi F Aa Aa).q fun a w F W => ?_
  refine Ad (Ab ?_)
  refine Ax F Aa (fun hb => ?_) fun hb => ?_
  ·
   have H := AK (Bd hb) H
   rw [hb] at F
   clear hb
   refine Ap (Ab ?_)
   obtain ⟨o3, G3, K3⟩ := An H
   refine AB (fun a w => ∃ x4 : Int, some (x4) = some o3 ∧ Fr 94 [] [(1, .int .i64 p1), (2, .int .i64 p2), (3, .pointer (some ⟨b1, 0, none⟩)), (6, .bool false), (7, .int .i64 x4), (8, .int .i64 x3)] a ∧ Stw ⟨Y, [], w0⟩ [(b1, [.int .i64 p0.1, v1, v2])] [] w) ?_ ?_
   ·
    have H := G3
    clear G3 K3
    refine Au (Ai (Ac ?_))
    refine ls F W Aa (Af Dg Aa Aa Aa IY F Aa 1 Aa).q fun a w F W => ?_
    refine ls F W Aa (Am (v := v1) 0 F Aa Aa IY Aa).q fun a w F W => ?_
    refine ls F W Aa (Ag F Aa).q fun a w F W => ?_
    obtain ⟨x5, h1, H⟩ := An H
    refine ls F W Aa (Az (r := C8) Py F Aa Aa (Aj h_v1) h1).q fun a w F W => ?_
    refine ls F W Aa (Aq (y := Value.agg #[.int .i64 x5.1, .int .i64 x5.2.1, .int .i64 x5.2.2.1, .int .i64 x5.2.2.2.1, .int .i64 x5.2.2.2.2.1, .int .i64 x5.2.2.2.2.2]) (j := 0) (i := x3) F Aa Aa (Aj h_v1) h1 M9.to Jk Aa).q fun a w F W => ?_
    refine BX (cs := [.int .i64 0, .int .i64 0, .int .i64 0, .int .i64 0, .int .i64 0, .int .i64 0]) F W Aa NU Aa fun b2 a w F W => ?_
    refine BJ (vs := [.int .i64 x5.1, .int .i64 x5.2.1, .int .i64 x5.2.2.1, .int .i64 x5.2.2.2.1, .int .i64 x5.2.2.2.2.1, .int .i64 x5.2.2.2.2.2]) (M' := [(b2, [.int .i64 x5.1, .int .i64 x5.2.1, .int .i64 x5.2.2.1, .int .i64 x5.2.2.2.1, .int .i64 x5.2.2.2.2.1, .int .i64 x5.2.2.2.2.2]), (b1, [.int .i64 p0.1, v1, v2])]) 0 F W Aa Aa Aa Jk Aa Aa Aa Aa Aa fun w W => ?_
    refine Ad (Ab ?_)
    obtain ⟨o4, G4, K4⟩ := An H
    refine AB (fun a w => ∃ x6 : Int, some (x6) = some o4 ∧ Fr 94 [] [(1, .int .i64 p1), (2, .int .i64 p2), (3, .pointer (some ⟨b1, 0, none⟩)), (6, .bool false), (7, .int .i64 x6), (8, .int .i64 x3), (9, .pointer (some ⟨b2, 0, none⟩))] a ∧ Stw ⟨Y, [], w0⟩ [(b2, [.int .i64 x5.1, .int .i64 x5.2.1, .int .i64 x5.2.2.1, .int .i64 x5.2.2.2.1, .int .i64 x5.2.2.2.2.1, .int .i64 x5.2.2.2.2.2]), (b1, [.int .i64 p0.1, v1, v2])] [] w) ?_ ?_
    ·
     have H := G4
     clear G4 K4
     refine AB (fun a w => Fr 94 [] [(1, .int .i64 p1), (2, .int .i64 p2), (3, .pointer (some ⟨b1, 0, none⟩)), (6, .bool false), (7, .int .i64 x2), (8, .int .i64 x3), (9, .pointer (some ⟨b2, 0, none⟩)), (32, .bool (decide (x5.1 = p1) && decide (x5.2.1 = p2)))] a ∧ Stw ⟨Y, [], w0⟩ [(b2, [.int .i64 x5.1, .int .i64 x5.2.1, .int .i64 x5.2.2.1, .int .i64 x5.2.2.2.1, .int .i64 x5.2.2.2.2.1, .int .i64 x5.2.2.2.2.2]), (b1, [.int .i64 p0.1, v1, v2])] [] w) ?_ ?_
     ·
      refine Ac ?_
      refine ls F W Aa (Af Ca Aa Aa Aa T3 F Aa 0 Aa).q fun a w F W => ?_
      refine ls F W Aa (Am (v := Value.int .i64 x5.1) 0 F Aa Aa T3 Aa).q fun a w F W => ?_
      refine ls F W Aa (Ag F Aa).q fun a w F W => ?_
      refine ls F W Aa (Bz F Aa Aa).q fun a w F W => ?_
      refine ls F W Aa (Ag F Aa).q fun a w F W => ?_
      rcases Bool.eq_false_or_eq_true (decide (x5.1 = p1)) with hb0 | hb0
      ·
       rw [hb0] at F
       refine Ay F W (Ae F Aa Aa Aa Aa) Aa (Ak Aa) (Af Ca Aa Aa Aa T3 F Aa 1 Aa).q fun a w F W => ?_
       refine Ay F W (Ae F Aa Aa Aa Aa) Aa (Ak Aa) (Am (v := Value.int .i64 x5.2.1) 0 F Aa Aa T3 Aa).q fun a w F W => ?_
       refine Ay F W (Ae F Aa Aa Aa Aa) Aa (Ak Aa) (Ag F Aa).q fun a w F W => ?_
       refine Ay F W (Ae F Aa Aa Aa Aa) Aa (Ak Aa) (Bz F Aa Aa).q fun a w F W => ?_
       refine ls F W Aa (Ao F Aa Aa Aa).q fun a w F W => ?_
       refine Ad (Ab ?_)
       exact ⟨F.re ⟨rfl, Aa, Aa, Aa, Aa, Aa, Aa, (by show some (Value.bool (decide (x5.2.1 = p2))) = some (Value.bool (decide (x5.1 = p1) && decide (x5.2.1 = p2))); try rw [hb0]; all_goals simp only [Bool.not_true, Bool.not_false, Bool.true_and, Bool.false_and, Bool.true_or, Bool.false_or, Bool.and_true, Bool.or_false, cond_true, cond_false]), trivial⟩, W⟩
      rw [hb0] at F
      iterate 4 refine B4 F Aa Aa Aa Aa Aa Aa Aa fun a F => ?_
      refine ls F W Aa (Av F Aa Aa Aa).q fun a w F W => ?_
      refine Ad (Ab ?_)
      exact ⟨F.re ⟨rfl, Aa, Aa, Aa, Aa, Aa, Aa, (by show some (Value.bool false) = some (Value.bool (decide (x5.1 = p1) && decide (x5.2.1 = p2))); try rw [hb0]; all_goals simp only [Bool.not_true, Bool.not_false, Bool.true_and, Bool.false_and, Bool.true_or, Bool.false_or, Bool.and_true, Bool.or_false, cond_true, cond_false]), trivial⟩, W⟩
     rintro a w ⟨F, W⟩
     refine Ax F Aa (fun hb => ?_) fun hb => ?_
     ·
      have H := AK hb H
      rw [hb] at F
      clear hb
      refine Ac ?_
      refine ls F W Aa (Ag F Aa).q fun a w F W => ?_
      refine ls F W Aa (BS F Aa Aa Aa).q fun a w F W => ?_
      refine ls F W Aa (Ah F Aa).q fun a w F W => ?_
      refine Ad (Ab ?_)
      have W := W.frontM (i := 1) Aa Aa
      have W := W.frontM (i := 1) Aa Aa
      exact ⟨_, H, F.re ⟨rfl, Aa, Aa, Aa, Aa, Aa, Aa, trivial⟩, W⟩
     have H := AL (by rw [hb]; decide) H
     rw [hb] at F
     clear hb
     refine Ap (Ab ?_)
     have W := W.frontM (i := 1) Aa Aa
     have W := W.frontM (i := 1) Aa Aa
     exact ⟨_, H, F.re ⟨rfl, Aa, Aa, Aa, Aa, Aa, Aa, trivial⟩, W⟩
    rintro a w ⟨x6, hj, F, W⟩
    have hj := AN hj
    subst hj
    have H := K4
    clear G4 K4
    refine AB (fun a w => Fr 94 [] [(1, .int .i64 p1), (2, .int .i64 p2), (3, .pointer (some ⟨b1, 0, none⟩)), (6, .bool false), (7, .int .i64 x6), (8, .int .i64 x3), (44, .bool (decide (x5.2.2.1 = p1) && decide (x5.2.2.2.1 = p2)))] a ∧ Stw ⟨Y, [], w0⟩ [(b2, [.int .i64 x5.1, .int .i64 x5.2.1, .int .i64 x5.2.2.1, .int .i64 x5.2.2.2.1, .int .i64 x5.2.2.2.2.1, .int .i64 x5.2.2.2.2.2]), (b1, [.int .i64 p0.1, v1, v2])] [] w) ?_ ?_
    ·
     refine Ac ?_
     refine ls F W Aa (Af Ca Aa Aa Aa T3 F Aa 2 Aa).q fun a w F W => ?_
     refine ls F W Aa (Am (v := Value.int .i64 x5.2.2.1) 0 F Aa Aa T3 Aa).q fun a w F W => ?_
     refine ls F W Aa (Ag F Aa).q fun a w F W => ?_
     refine ls F W Aa (Bz F Aa Aa).q fun a w F W => ?_
     refine ls F W Aa (Ag F Aa).q fun a w F W => ?_
     rcases Bool.eq_false_or_eq_true (decide (x5.2.2.1 = p1)) with hb0 | hb0
     ·
      rw [hb0] at F
      refine Ay F W (Ae F Aa Aa Aa Aa) Aa (Ak Aa) (Af Ca Aa Aa Aa T3 F Aa 3 Aa).q fun a w F W => ?_
      refine Ay F W (Ae F Aa Aa Aa Aa) Aa (Ak Aa) (Am (v := Value.int .i64 x5.2.2.2.1) 0 F Aa Aa T3 Aa).q fun a w F W => ?_
      refine Ay F W (Ae F Aa Aa Aa Aa) Aa (Ak Aa) (Ag F Aa).q fun a w F W => ?_
      refine Ay F W (Ae F Aa Aa Aa Aa) Aa (Ak Aa) (Bz F Aa Aa).q fun a w F W => ?_
      refine ls F W Aa (Ao F Aa Aa Aa).q fun a w F W => ?_
      refine Ad (Ab ?_)
      exact ⟨F.re ⟨rfl, Aa, Aa, Aa, Aa, Aa, (by show some (Value.bool (decide (x5.2.2.2.1 = p2))) = some (Value.bool (decide (x5.2.2.1 = p1) && decide (x5.2.2.2.1 = p2))); try rw [hb0]; all_goals simp only [Bool.not_true, Bool.not_false, Bool.true_and, Bool.false_and, Bool.true_or, Bool.false_or, Bool.and_true, Bool.or_false, cond_true, cond_false]), trivial⟩, W⟩
     rw [hb0] at F
     iterate 4 refine B4 F Aa Aa Aa Aa Aa Aa Aa fun a F => ?_
     refine ls F W Aa (Av F Aa Aa Aa).q fun a w F W => ?_
     refine Ad (Ab ?_)
     exact ⟨F.re ⟨rfl, Aa, Aa, Aa, Aa, Aa, (by show some (Value.bool false) = some (Value.bool (decide (x5.2.2.1 = p1) && decide (x5.2.2.2.1 = p2))); try rw [hb0]; all_goals simp only [Bool.not_true, Bool.not_false, Bool.true_and, Bool.false_and, Bool.true_or, Bool.false_or, Bool.and_true, Bool.or_false, cond_true, cond_false]), trivial⟩, W⟩
    rintro a w ⟨F, W⟩
    refine Ax F Aa (fun hb => ?_) fun hb => ?_
    ·
     have H := AK hb H
     rw [hb] at F
     clear hb
     refine Ac ?_
     refine ls F W Aa (Ag F Aa).q fun a w F W => ?_
     refine ls F W Aa (BS F Aa Aa Aa).q fun a w F W => ?_
     refine ls F W Aa (Ah F Aa).q fun a w F W => ?_
     refine Ad (AF (Ab ?_))
     have W := W.frontM (i := 1) Aa Aa
     have W := W.sub (M' := [(b1, [.int .i64 p0.1, v1, v2])]) (Z' := []) (List.Sublist.cons_cons _ (List.nil_sublist _)) (List.Sublist.refl _)
     exact ⟨_, H, F.re ⟨rfl, Aa, Aa, Aa, Aa, Aa, trivial⟩, W⟩
    have H := AL (by rw [hb]; decide) H
    rw [hb] at F
    clear hb
    refine Ap (AF (Ab ?_))
    have W := W.frontM (i := 1) Aa Aa
    have W := W.sub (M' := [(b1, [.int .i64 p0.1, v1, v2])]) (Z' := []) (List.Sublist.cons_cons _ (List.nil_sublist _)) (List.Sublist.refl _)
    exact ⟨_, H, F.re ⟨rfl, Aa, Aa, Aa, Aa, Aa, trivial⟩, W⟩
   rintro a w ⟨x4, hj, F, W⟩
   have hj := AN hj
   subst hj
   have H := K3
   clear G3 K3
   refine Ac ?_
   refine ls F W Aa (Ag F Aa).q fun a w F W => ?_
   refine ls F W Aa (BS F Aa Aa Aa).q fun a w F W => ?_
   refine ls F W Aa (Ah F Aa).q fun a w F W => ?_
   refine Ad (Ab ?_)
   exact ⟨_, H, F.re ⟨rfl, Aa, Aa, Aa, Aa, Aa, trivial⟩, W⟩
  have H := AL (Bc hb) H
  rw [hb] at F
  clear hb
  refine A8 ?_
  iterate 2 refine Bk ?_
  refine A9 (Ab ?_)
  have H := L2 _ H
  exact ⟨_, H, F.re ⟨rfl, Aa, Aa, Aa, Aa, trivial⟩, W⟩
 rintro a w ⟨x1, hj, F, W⟩
 have hj := AN hj
 subst hj
 have H := K1
 clear G1 K1
 obtain ⟨o5, G5, K5⟩ := An H
 refine AB (fun a w => ∃ x7 : Int, some (x7) = some o5 ∧ Fr 94 [] [(1, .int .i64 p1), (2, .int .i64 p2), (3, .pointer (some ⟨b1, 0, none⟩)), (6, .bool false), (7, .int .i64 x7)] a ∧ Stw ⟨Y, [], w0⟩ [(b1, [.int .i64 p0.1, v1, v2])] [] w) ?_ ?_
 ·
  have H := G5
  clear G5 K5
  refine Ai (Ac ?_)
  refine ls F W Aa (Ah F Aa).q fun a w F W => ?_
  refine Ad (Ab (Au ?_))
  refine Bf H (fun s a w => Fr 94 [] [(1, .int .i64 p1), (2, .int .i64 p2), (3, .pointer (some ⟨b1, 0, none⟩)), (6, .bool false), (7, .int .i64 s.1), (10, .int .i64 s.2)] a ∧ Stw ⟨Y, [], w0⟩ [(b1, [.int .i64 p0.1, v1, v2])] [] w) ⟨F.re ⟨rfl, Aa, Aa, Aa, Aa, Aa, trivial⟩, W⟩ fun s o a w H L6 hR => ?_
  obtain ⟨x8, x9⟩ := s
  obtain ⟨F, W⟩ := hR
  have F : Fr 94 [] [(1, .int .i64 p1), (2, .int .i64 p2), (3, .pointer (some ⟨b1, 0, none⟩)), (6, .bool false), (7, .int .i64 x8), (10, .int .i64 x9)] a := F
  have W : Stw ⟨Y, [], w0⟩ [(b1, [.int .i64 p0.1, v1, v2])] [] w := W
  rw [Eg] at H
  refine Ai (Ai (Ac ?_))
  refine ls F W Aa (Ag F Aa).q fun a w F W => ?_
  refine ls F W Aa (Af Dg Aa Aa Aa GW F Aa 2 Aa).q fun a w F W => ?_
  refine ls F W Aa (Am (v := v2) 0 F Aa Aa GW Aa).q fun a w F W => ?_
  refine ls F W Aa (A6 (r := EL) (l := p0.2.2) IK Aa F Aa (Aj h_v2)).q fun a w F W => ?_
  refine ls F W Aa (Bi F Aa Aa).q fun a w F W => ?_
  refine Ad (Ab ?_)
  refine Ax F Aa (fun hb => ?_) fun hb => ?_
  ·
   have H := AK (Bd hb) H
   rw [hb] at F
   clear hb
   refine Ap (Ab ?_)
   obtain ⟨o7, G7, K7⟩ := An H
   refine AB (fun a w => ∃ x10 : Int, some (x10) = some o7 ∧ Fr 94 [] [(1, .int .i64 p1), (2, .int .i64 p2), (3, .pointer (some ⟨b1, 0, none⟩)), (6, .bool false), (7, .int .i64 x10), (10, .int .i64 x9)] a ∧ Stw ⟨Y, [], w0⟩ [(b1, [.int .i64 p0.1, v1, v2])] [] w) ?_ ?_
   ·
    have H := G7
    clear G7 K7
    refine Au ?_
    obtain ⟨o8, G8, K8⟩ := An H
    refine AB (fun a w => ∃ x11 : Bool, some (x11) = some o8 ∧ Fr 94 [] [(1, .int .i64 p1), (2, .int .i64 p2), (3, .pointer (some ⟨b1, 0, none⟩)), (6, .bool false), (7, .int .i64 x8), (10, .int .i64 x9), (71, .bool x11)] a ∧ Stw ⟨Y, [], w0⟩ [(b1, [.int .i64 p0.1, v1, v2])] [] w) ?_ ?_
    ·
     have H := G8
     clear G8 K8
     refine Ac ?_
     refine ls F W Aa (Af Dg Aa Aa Aa GW F Aa 2 Aa).q fun a w F W => ?_
     refine ls F W Aa (Am (v := v2) 0 F Aa Aa GW Aa).q fun a w F W => ?_
     refine ls F W Aa (Ag F Aa).q fun a w F W => ?_
     obtain ⟨x12, h2, H⟩ := An H
     refine ls F W Aa (Az (r := EL) Od F Aa Aa (Aj h_v2) h2).q fun a w F W => ?_
     refine ls F W Aa (Af JS Aa Aa Aa T3 F Aa (Cb v2 + (x9).toNat * 2) Aa).q fun a w F W => ?_
     refine ls F W Aa (Aq (y := Value.int .i64 x12.1) (j := 0) (i := x9) F Aa Aa (Aj h_v2) h2 OA.to T3 Aa).q fun a w F W => ?_
     refine ls F W Aa (Ag F Aa).q fun a w F W => ?_
     refine ls F W Aa (Bz F Aa Aa).q fun a w F W => ?_
     refine ls F W Aa (Ag F Aa).q fun a w F W => ?_
     rcases Bool.eq_false_or_eq_true (decide (x12.1 = p1)) with hb | hb
     ·
      have H := AK (Bd hb) H
      rw [hb] at F
      clear hb
      refine Ay F W (Ae F Aa Aa Aa Aa) Aa (Ak Aa) (Af Dg Aa Aa Aa GW F Aa 2 Aa).q fun a w F W => ?_
      refine Ay F W (Ae F Aa Aa Aa Aa) Aa (Ak Aa) (Am (v := v2) 0 F Aa Aa GW Aa).q fun a w F W => ?_
      refine Ay F W (Ae F Aa Aa Aa Aa) Aa (Ak Aa) (Ag F Aa).q fun a w F W => ?_
      obtain ⟨x13, h3, H⟩ := An H
      refine Ay F W (Ae F Aa Aa Aa Aa) Aa (Ak Aa) (Az (r := EL) Od F Aa Aa (Aj h_v2) h3).q fun a w F W => ?_
      refine Ay F W (Ae F Aa Aa Aa Aa) Aa (Ak Aa) (Af JS Aa Aa Aa T3 F Aa (Cb v2 + (x9).toNat * 2 + 1) Aa).q fun a w F W => ?_
      refine Ay F W (Ae F Aa Aa Aa Aa) Aa (Ak Aa) (Aq (y := Value.int .i64 x13.2) (j := 1) (i := x9) F Aa Aa (Aj h_v2) h3 OA.to T3 Aa).q fun a w F W => ?_
      refine Ay F W (Ae F Aa Aa Aa Aa) Aa (Ak Aa) (Ag F Aa).q fun a w F W => ?_
      refine Ay F W (Ae F Aa Aa Aa Aa) Aa (Ak Aa) (Bz F Aa Aa).q fun a w F W => ?_
      refine ls F W Aa (Ao F Aa Aa Aa).q fun a w F W => ?_
      refine Ad (Ab ?_)
      exact ⟨_, H, F.re ⟨rfl, Aa, Aa, Aa, Aa, Aa, Aa, trivial⟩, W⟩
     have H := AL (Bc hb) H
     rw [hb] at F
     clear hb
     iterate 8 refine B4 F Aa Aa Aa Aa Aa Aa Aa fun a F => ?_
     refine ls F W Aa (Av F Aa Aa Aa).q fun a w F W => ?_
     refine Ad (Ab ?_)
     exact ⟨_, H, F.re ⟨rfl, Aa, Aa, Aa, Aa, Aa, Aa, trivial⟩, W⟩
    rintro a w ⟨x11, hj, F, W⟩
    have hj := AN hj
    subst hj
    have H := K8
    clear G8 K8
    refine Ax F Aa (fun hb => ?_) fun hb => ?_
    ·
     have H := AK hb H
     rw [hb] at F
     clear hb
     refine Ac ?_
     refine ls F W Aa (Ag F Aa).q fun a w F W => ?_
     refine ls F W Aa (BS F Aa Aa Aa).q fun a w F W => ?_
     refine ls F W Aa (Ah F Aa).q fun a w F W => ?_
     refine Ad (AF (Ab ?_))
     exact ⟨_, H, F.re ⟨rfl, Aa, Aa, Aa, Aa, Aa, trivial⟩, W⟩
    have H := AL (by rw [hb]; decide) H
    rw [hb] at F
    clear hb
    refine Ap (AF (Ab ?_))
    exact ⟨_, H, F.re ⟨rfl, Aa, Aa, Aa, Aa, Aa, trivial⟩, W⟩
   rintro a w ⟨x10, hj, F, W⟩
   have hj := AN hj
   subst hj
   have H := K7
   clear G7 K7
   refine Ac ?_
   refine ls F W Aa (Ag F Aa).q fun a w F W => ?_
   refine ls F W Aa (BS F Aa Aa Aa).q fun a w F W => ?_
   refine ls F W Aa (Ah F Aa).q fun a w F W => ?_
   refine Ad (Ab ?_)
   exact ⟨_, H, F.re ⟨rfl, Aa, Aa, Aa, Aa, Aa, trivial⟩, W⟩
  have H := AL (Bc hb) H
  rw [hb] at F
  clear hb
  refine A8 ?_
  iterate 2 refine Bk ?_
  refine A9 (Ab ?_)
  have H := L6 _ H
  exact ⟨_, H, F.re ⟨rfl, Aa, Aa, Aa, Aa, trivial⟩, W⟩
 rintro a w ⟨x7, hj, F, W⟩
 have hj := AN hj
 subst hj
 have H := K5
 clear G5 K5
 refine AB (fun a w => Fr 94 [] [(6, .bool (decide (0 ≤ p1) && (decide (p1 < p0.1) && (decide (0 ≤ p2) && (decide (p2 ≤ 7) && decide (x7 = 1))))))] a ∧ Stw ⟨Y, [], w0⟩ [(b1, [.int .i64 p0.1, v1, v2])] [] w) ?_ ?_
 ·
  refine Ac ?_
  refine ls F W Aa (Ag F Aa).q fun a w F W => ?_
  refine ls F W Aa (DH F Aa Aa).q fun a w F W => ?_
  refine ls F W Aa (Ag F Aa).q fun a w F W => ?_
  rcases Bool.eq_false_or_eq_true (decide (0 ≤ p1)) with hb0 | hb0
  ·
   rw [hb0] at F
   refine Ay F W (Ae F Aa Aa Aa Aa) Aa (Ak Aa) (Ag F Aa).q fun a w F W => ?_
   refine Ay F W (Ae F Aa Aa Aa Aa) Aa (Ak Aa) (Af Dg Aa Aa Aa T3 F Aa 0 Aa).q fun a w F W => ?_
   refine Ay F W (Ae F Aa Aa Aa Aa) Aa (Ak Aa) (Am (v := Value.int .i64 p0.1) 0 F Aa Aa T3 Aa).q fun a w F W => ?_
   refine Ay F W (Ae F Aa Aa Aa Aa) Aa (Ak Aa) (Bi F Aa Aa).q fun a w F W => ?_
   refine ls F W Aa (Ao F Aa Aa Aa).q fun a w F W => ?_
   refine ls F W Aa (Ag F Aa).q fun a w F W => ?_
   rcases Bool.eq_false_or_eq_true (decide (p1 < p0.1)) with hb1 | hb1
   ·
    rw [hb1] at F
    refine Ay F W (Ae F Aa Aa Aa Aa) Aa (Ak Aa) (Ag F Aa).q fun a w F W => ?_
    refine Ay F W (Ae F Aa Aa Aa Aa) Aa (Ak Aa) (DH F Aa Aa).q fun a w F W => ?_
    refine ls F W Aa (Ao F Aa Aa Aa).q fun a w F W => ?_
    refine ls F W Aa (Ag F Aa).q fun a w F W => ?_
    rcases Bool.eq_false_or_eq_true (decide (0 ≤ p2)) with hb2 | hb2
    ·
     rw [hb2] at F
     refine Ay F W (Ae F Aa Aa Aa Aa) Aa (Ak Aa) (Ag F Aa).q fun a w F W => ?_
     refine Ay F W (Ae F Aa Aa Aa Aa) Aa (Ak Aa) (Is F Aa Aa).q fun a w F W => ?_
     refine ls F W Aa (Ao F Aa Aa Aa).q fun a w F W => ?_
     refine ls F W Aa (Ag F Aa).q fun a w F W => ?_
     rcases Bool.eq_false_or_eq_true (decide (p2 ≤ 7)) with hb3 | hb3
     ·
      rw [hb3] at F
      refine Ay F W (Ae F Aa Aa Aa Aa) Aa (Ak Aa) (Ag F Aa).q fun a w F W => ?_
      refine Ay F W (Ae F Aa Aa Aa Aa) Aa (Ak Aa) (Bz F Aa Aa).q fun a w F W => ?_
      refine ls F W Aa (Ao F Aa Aa Aa).q fun a w F W => ?_
      refine ls F W Aa (Ah F Aa).q fun a w F W => ?_
      refine Ad (Ab ?_)
      exact ⟨F.re ⟨(by show some (Value.bool (decide (x7 = 1))) = some (Value.bool (decide (0 ≤ p1) && (decide (p1 < p0.1) && (decide (0 ≤ p2) && (decide (p2 ≤ 7) && decide (x7 = 1)))))); try rw [hb1]; try rw [hb0]; try rw [hb2]; try rw [hb3]; all_goals simp only [Bool.not_true, Bool.not_false, Bool.true_and, Bool.false_and, Bool.true_or, Bool.false_or, Bool.and_true, Bool.or_false, cond_true, cond_false]), trivial⟩, W⟩
     rw [hb3] at F
     iterate 2 refine B4 F Aa Aa Aa Aa Aa Aa Aa fun a F => ?_
     refine ls F W Aa (Av F Aa Aa Aa).q fun a w F W => ?_
     refine ls F W Aa (Ah F Aa).q fun a w F W => ?_
     refine Ad (Ab ?_)
     exact ⟨F.re ⟨(by show some (Value.bool false) = some (Value.bool (decide (0 ≤ p1) && (decide (p1 < p0.1) && (decide (0 ≤ p2) && (decide (p2 ≤ 7) && decide (x7 = 1)))))); try rw [hb1]; try rw [hb0]; try rw [hb2]; try rw [hb3]; all_goals simp only [Bool.not_true, Bool.not_false, Bool.true_and, Bool.false_and, Bool.true_or, Bool.false_or, Bool.and_true, Bool.or_false, cond_true, cond_false]), trivial⟩, W⟩
    rw [hb2] at F
    iterate 2 refine B4 F Aa Aa Aa Aa Aa Aa Aa fun a F => ?_
    refine ls F W Aa (Av F Aa Aa Aa).q fun a w F W => ?_
    refine ls F W Aa (Ag F Aa).q fun a w F W => ?_
    iterate 2 refine B4 F Aa Aa Aa Aa Aa Aa Aa fun a F => ?_
    refine ls F W Aa (Av F Aa Aa Aa).q fun a w F W => ?_
    refine ls F W Aa (Ah F Aa).q fun a w F W => ?_
    refine Ad (Ab ?_)
    exact ⟨F.re ⟨(by show some (Value.bool false) = some (Value.bool (decide (0 ≤ p1) && (decide (p1 < p0.1) && (decide (0 ≤ p2) && (decide (p2 ≤ 7) && decide (x7 = 1)))))); try rw [hb1]; try rw [hb0]; try rw [hb2]; all_goals simp only [Bool.not_true, Bool.not_false, Bool.true_and, Bool.false_and, Bool.true_or, Bool.false_or, Bool.and_true, Bool.or_false, cond_true, cond_false]), trivial⟩, W⟩
   rw [hb1] at F
   iterate 2 refine B4 F Aa Aa Aa Aa Aa Aa Aa fun a F => ?_
   refine ls F W Aa (Av F Aa Aa Aa).q fun a w F W => ?_
   refine ls F W Aa (Ag F Aa).q fun a w F W => ?_
   iterate 2 refine B4 F Aa Aa Aa Aa Aa Aa Aa fun a F => ?_
   refine ls F W Aa (Av F Aa Aa Aa).q fun a w F W => ?_
   refine ls F W Aa (Ag F Aa).q fun a w F W => ?_
   iterate 2 refine B4 F Aa Aa Aa Aa Aa Aa Aa fun a F => ?_
   refine ls F W Aa (Av F Aa Aa Aa).q fun a w F W => ?_
   refine ls F W Aa (Ah F Aa).q fun a w F W => ?_
   refine Ad (Ab ?_)
   exact ⟨F.re ⟨(by show some (Value.bool false) = some (Value.bool (decide (0 ≤ p1) && (decide (p1 < p0.1) && (decide (0 ≤ p2) && (decide (p2 ≤ 7) && decide (x7 = 1)))))); try rw [hb1]; try rw [hb0]; all_goals simp only [Bool.not_true, Bool.not_false, Bool.true_and, Bool.false_and, Bool.true_or, Bool.false_or, Bool.and_true, Bool.or_false, cond_true, cond_false]), trivial⟩, W⟩
  rw [hb0] at F
  iterate 4 refine B4 F Aa Aa Aa Aa Aa Aa Aa fun a F => ?_
  refine ls F W Aa (Av F Aa Aa Aa).q fun a w F W => ?_
  refine ls F W Aa (Ag F Aa).q fun a w F W => ?_
  iterate 2 refine B4 F Aa Aa Aa Aa Aa Aa Aa fun a F => ?_
  refine ls F W Aa (Av F Aa Aa Aa).q fun a w F W => ?_
  refine ls F W Aa (Ag F Aa).q fun a w F W => ?_
  iterate 2 refine B4 F Aa Aa Aa Aa Aa Aa Aa fun a F => ?_
  refine ls F W Aa (Av F Aa Aa Aa).q fun a w F W => ?_
  refine ls F W Aa (Ag F Aa).q fun a w F W => ?_
  iterate 2 refine B4 F Aa Aa Aa Aa Aa Aa Aa fun a F => ?_
  refine ls F W Aa (Av F Aa Aa Aa).q fun a w F W => ?_
  refine ls F W Aa (Ah F Aa).q fun a w F W => ?_
  refine Ad (Ab ?_)
  exact ⟨F.re ⟨(by show some (Value.bool false) = some (Value.bool (decide (0 ≤ p1) && (decide (p1 < p0.1) && (decide (0 ≤ p2) && (decide (p2 ≤ 7) && decide (x7 = 1)))))); try rw [hb0]; all_goals simp only [Bool.not_true, Bool.not_false, Bool.true_and, Bool.false_and, Bool.true_or, Bool.false_or, Bool.and_true, Bool.or_false, cond_true, cond_false]), trivial⟩, W⟩
 rintro a w ⟨F, W⟩
 refine AA ?_
 have H := AN H
 subst H
 refine AW (.inl Aa) F W Aa (As F Aa) ?_
 exact ⟨rfl, W.done⟩
theorem Qe : Has Try.prog 56 := ⟨fun args w => Al Try.func56 rfl (by decide) args w⟩
noncomputable def Ew (p0 : Int × (List (Int × Int × Int × Int × Int × Int)) × (List (Int × Int))) : Int → Option (Int ⊕ (Unit ⊕ Bool))
  | x1 => (if x1 < (p0.2.1.length : Int) then (ix p0.2.1 x1).bind fun x2 => (if x2.1 = x2.2.2.1 then some true else (if x2.2.2.2.2.1 < 1 then some true else (if x2.2.2.2.2.2 < x2.2.2.2.2.1 then some true else (if 1000 < x2.2.2.2.2.2 then some true else (FK p0 x2.1 x2.2.1).bind fun x4 => (if (!x4) = true then some true else (FK p0 x2.2.2.1 x2.2.2.2.1).bind fun x5 => some (!x5)))))).bind fun x3 => (if x3 = true then some (.inr (.inr false)) else some (.inl (Dz (x1 + 1)))) else some (.inr (.inl ())))
noncomputable def EG (p0 : Int × (List (Int × Int × Int × Int × Int × Int)) × (List (Int × Int))) : Int → Option (Int ⊕ (Unit ⊕ Bool))
  | x6 => (if x6 < (p0.2.2.length : Int) then (ix p0.2.2 x6).bind fun x7 => (ix p0.2.2 x6).bind fun x8 => (FK p0 x7.1 x8.2).bind fun x9 => (if (!x9) = true then some (.inr (.inr false)) else some (.inl (Dz (x6 + 1)))) else some (.inr (.inl ())))
noncomputable def Gm (p0 : Int × (List (Int × Int × Int × Int × Int × Int)) × (List (Int × Int))) : Option Bool := (if (decide (p0.1 < 1) || (decide (8 < p0.1) || (decide (24 < (p0.2.1.length : Int)) || decide (8 < (p0.2.2.length : Int))))) = true then some false else D6 (AM (Ew p0) 0) fun _ => D6 (AM (EG p0) 0) fun _ => some true)
theorem LD (Y : Nat → Prop) (w0 : World) (v1 : Value) (v2 : Value) (p0 : Int × (List (Int × Int × Int × Int × Int × Int)) × (List (Int × Int))) (r : Bool) (H : Gm p0 = some r) (h_v1 : Sl w0 (NX []) C8 v1 p0.2.1) (h_v2 : Sl w0 (NX []) EL v2 p0.2.2) :
    Calls Try.prog 47 #[.agg #[.int .i64 p0.1, v1, v2]] w0 fun e w' => e = .returned (.bool r) ∧ Below w0.heap.size w0 w' := by
 refine enter Try.func47 Aa Try.ntmps47 Aa fun a F => ?_
 have W := Stw.start Y w0
 unfold Gm at H
 refine Ai (Ac ?_)
 refine B9 (cs := [.int .i64 p0.1, v1, v2]) F W Aa Aa Aa fun b1 a w F W => ?_
 refine ls F W Aa (Ah F Aa).q fun a w F W => ?_
 refine Ad (Ab (Ai ?_))
 refine AB (fun a w => Fr 100 [] [(1, .pointer (some ⟨b1, 0, none⟩)), (2, .bool false), (25, .bool (decide (p0.1 < 1) || (decide (8 < p0.1) || (decide (24 < (p0.2.1.length : Int)) || decide (8 < (p0.2.2.length : Int))))))] a ∧ Stw ⟨Y, [], w0⟩ [(b1, [.int .i64 p0.1, v1, v2])] [] w) ?_ ?_
 ·
  refine Ac ?_
  refine ls F W Aa (Af Dg Aa Aa Aa T3 F Aa 0 Aa).q fun a w F W => ?_
  refine ls F W Aa (Am (v := Value.int .i64 p0.1) 0 F Aa Aa T3 Aa).q fun a w F W => ?_
  refine ls F W Aa (Bi F Aa Aa).q fun a w F W => ?_
  refine ls F W Aa (Ag F Aa).q fun a w F W => ?_
  rcases Bool.eq_false_or_eq_true (decide (p0.1 < 1)) with hb0 | hb0
  ·
   rw [hb0] at F
   iterate 3 refine B4 F Aa Aa Aa Aa Aa Aa Aa fun a F => ?_
   refine ls F W Aa (Ao F Aa Aa Aa).q fun a w F W => ?_
   refine ls F W Aa (Ag F Aa).q fun a w F W => ?_
   iterate 4 refine B4 F Aa Aa Aa Aa Aa Aa Aa fun a F => ?_
   refine ls F W Aa (Ao F Aa Aa Aa).q fun a w F W => ?_
   refine ls F W Aa (Ag F Aa).q fun a w F W => ?_
   iterate 4 refine B4 F Aa Aa Aa Aa Aa Aa Aa fun a F => ?_
   refine ls F W Aa (Ao F Aa Aa Aa).q fun a w F W => ?_
   refine Ad (Ab ?_)
   exact ⟨F.re ⟨rfl, Aa, (by show some (Value.bool true) = some (Value.bool (decide (p0.1 < 1) || (decide (8 < p0.1) || (decide (24 < (p0.2.1.length : Int)) || decide (8 < (p0.2.2.length : Int)))))); try rw [hb0]; all_goals simp only [Bool.not_true, Bool.not_false, Bool.true_and, Bool.false_and, Bool.true_or, Bool.false_or, Bool.and_true, Bool.or_false, cond_true, cond_false]), trivial⟩, W⟩
  rw [hb0] at F
  refine Ay F W (Ae F Aa Aa Aa Aa) Aa (Ak Aa) (Af Dg Aa Aa Aa T3 F Aa 0 Aa).q fun a w F W => ?_
  refine Ay F W (Ae F Aa Aa Aa Aa) Aa (Ak Aa) (Am (v := Value.int .i64 p0.1) 0 F Aa Aa T3 Aa).q fun a w F W => ?_
  refine Ay F W (Ae F Aa Aa Aa Aa) Aa (Ak Aa) (E6 F Aa Aa).q fun a w F W => ?_
  refine ls F W Aa (Av F Aa Aa Aa).q fun a w F W => ?_
  refine ls F W Aa (Ag F Aa).q fun a w F W => ?_
  rcases Bool.eq_false_or_eq_true (decide (8 < p0.1)) with hb1 | hb1
  ·
   rw [hb1] at F
   iterate 4 refine B4 F Aa Aa Aa Aa Aa Aa Aa fun a F => ?_
   refine ls F W Aa (Ao F Aa Aa Aa).q fun a w F W => ?_
   refine ls F W Aa (Ag F Aa).q fun a w F W => ?_
   iterate 4 refine B4 F Aa Aa Aa Aa Aa Aa Aa fun a F => ?_
   refine ls F W Aa (Ao F Aa Aa Aa).q fun a w F W => ?_
   refine Ad (Ab ?_)
   exact ⟨F.re ⟨rfl, Aa, (by show some (Value.bool true) = some (Value.bool (decide (p0.1 < 1) || (decide (8 < p0.1) || (decide (24 < (p0.2.1.length : Int)) || decide (8 < (p0.2.2.length : Int)))))); try rw [hb0]; try rw [hb1]; all_goals simp only [Bool.not_true, Bool.not_false, Bool.true_and, Bool.false_and, Bool.true_or, Bool.false_or, Bool.and_true, Bool.or_false, cond_true, cond_false]), trivial⟩, W⟩
  rw [hb1] at F
  refine Ay F W (Ae F Aa Aa Aa Aa) Aa (Ak Aa) (Af Dg Aa Aa Aa IY F Aa 1 Aa).q fun a w F W => ?_
  refine Ay F W (Ae F Aa Aa Aa Aa) Aa (Ak Aa) (Am (v := v1) 0 F Aa Aa IY Aa).q fun a w F W => ?_
  refine Ay F W (Ae F Aa Aa Aa Aa) Aa (Ak Aa) (A6 (r := C8) (l := p0.2.1) JY Aa F Aa (Aj h_v1)).q fun a w F W => ?_
  refine Ay F W (Ae F Aa Aa Aa Aa) Aa (Ak Aa) (E6 F Aa Aa).q fun a w F W => ?_
  refine ls F W Aa (Av F Aa Aa Aa).q fun a w F W => ?_
  refine ls F W Aa (Ag F Aa).q fun a w F W => ?_
  rcases Bool.eq_false_or_eq_true (decide (24 < (p0.2.1.length : Int))) with hb2 | hb2
  ·
   rw [hb2] at F
   iterate 4 refine B4 F Aa Aa Aa Aa Aa Aa Aa fun a F => ?_
   refine ls F W Aa (Ao F Aa Aa Aa).q fun a w F W => ?_
   refine Ad (Ab ?_)
   exact ⟨F.re ⟨rfl, Aa, (by show some (Value.bool true) = some (Value.bool (decide (p0.1 < 1) || (decide (8 < p0.1) || (decide (24 < (p0.2.1.length : Int)) || decide (8 < (p0.2.2.length : Int)))))); try rw [hb2]; try rw [hb0]; try rw [hb1]; all_goals simp only [Bool.not_true, Bool.not_false, Bool.true_and, Bool.false_and, Bool.true_or, Bool.false_or, Bool.and_true, Bool.or_false, cond_true, cond_false]), trivial⟩, W⟩
  rw [hb2] at F
  refine Ay F W (Ae F Aa Aa Aa Aa) Aa (Ak Aa) (Af Dg Aa Aa Aa GW F Aa 2 Aa).q fun a w F W => ?_
  refine Ay F W (Ae F Aa Aa Aa Aa) Aa (Ak Aa) (Am (v := v2) 0 F Aa Aa GW Aa).q fun a w F W => ?_
  refine Ay F W (Ae F Aa Aa Aa Aa) Aa (Ak Aa) (A6 (r := EL) (l := p0.2.2) IK Aa F Aa (Aj h_v2)).q fun a w F W => ?_
  refine Ay F W (Ae F Aa Aa Aa Aa) Aa (Ak Aa) (E6 F Aa Aa).q fun a w F W => ?_
  refine ls F W Aa (Av F Aa Aa Aa).q fun a w F W => ?_
  refine Ad (Ab ?_)
  exact ⟨F.re ⟨rfl, Aa, (by show some (Value.bool (decide (8 < (p0.2.2.length : Int)))) = some (Value.bool (decide (p0.1 < 1) || (decide (8 < p0.1) || (decide (24 < (p0.2.1.length : Int)) || decide (8 < (p0.2.2.length : Int)))))); try rw [hb2]; try rw [hb0]; try rw [hb1]; all_goals simp only [Bool.not_true, Bool.not_false, Bool.true_and, Bool.false_and, Bool.true_or, Bool.false_or, Bool.and_true, Bool.or_false, cond_true, cond_false]), trivial⟩, W⟩
 rintro a w ⟨F, W⟩
 refine Ax F Aa (fun hb => ?_) fun hb => ?_
 ·
  have H := AK hb H
  rw [hb] at F
  clear hb
  refine Ai (Ac ?_)
  refine ls F W Aa (Ah F Aa).q fun a w F W => ?_
  refine Ad (Ab (AA (AD ?_)))
  have H := AN H
  subst H
  refine AW (.inl Aa) F W Aa (As F Aa) ?_
  exact ⟨rfl, W.done⟩
 have H := AL (by rw [hb]; decide) H
 rw [hb] at F
 clear hb
 refine Ap (Ab ?_)
 obtain ⟨o1, G1, K1, L1⟩ := H4 H
 refine AB (fun a w => some (Sum.inl ()) = some o1 ∧ Fr 100 [] [(1, .pointer (some ⟨b1, 0, none⟩)), (2, .bool false)] a ∧ Stw ⟨Y, [], w0⟩ [(b1, [.int .i64 p0.1, v1, v2])] [] w) ?_ ?_
 ·
  have H := G1
  clear G1 K1
  refine Ai (Ac ?_)
  refine ls F W Aa (Ah F Aa).q fun a w F W => ?_
  refine Ad (Ab (Au ?_))
  refine Bf H (fun s a w => Fr 100 [] [(1, .pointer (some ⟨b1, 0, none⟩)), (2, .bool false), (3, .int .i64 s)] a ∧ Stw ⟨Y, [], w0⟩ [(b1, [.int .i64 p0.1, v1, v2])] [] w) ⟨F.re ⟨rfl, Aa, Aa, trivial⟩, W⟩ fun s o a w H L2 hR => ?_
  obtain ⟨x1, rfl⟩ : ∃ x, x = s := ⟨s, rfl⟩
  obtain ⟨F, W⟩ := hR
  have F : Fr 100 [] [(1, .pointer (some ⟨b1, 0, none⟩)), (2, .bool false), (3, .int .i64 x1)] a := F
  have W : Stw ⟨Y, [], w0⟩ [(b1, [.int .i64 p0.1, v1, v2])] [] w := W
  rw [Ew] at H
  refine Ai (Ai (Ac ?_))
  refine ls F W Aa (Ag F Aa).q fun a w F W => ?_
  refine ls F W Aa (Af Dg Aa Aa Aa IY F Aa 1 Aa).q fun a w F W => ?_
  refine ls F W Aa (Am (v := v1) 0 F Aa Aa IY Aa).q fun a w F W => ?_
  refine ls F W Aa (A6 (r := C8) (l := p0.2.1) JY Aa F Aa (Aj h_v1)).q fun a w F W => ?_
  refine ls F W Aa (Bi F Aa Aa).q fun a w F W => ?_
  refine Ad (Ab ?_)
  refine Ax F Aa (fun hb => ?_) fun hb => ?_
  ·
   have H := AK (Bd hb) H
   rw [hb] at F
   clear hb
   refine Ap (Ab (Ai (Au (Ai (Ac ?_)))))
   refine ls F W Aa (Af Dg Aa Aa Aa IY F Aa 1 Aa).q fun a w F W => ?_
   refine ls F W Aa (Am (v := v1) 0 F Aa Aa IY Aa).q fun a w F W => ?_
   refine ls F W Aa (Ag F Aa).q fun a w F W => ?_
   obtain ⟨x2, h1, H⟩ := An H
   refine ls F W Aa (Az (r := C8) Py F Aa Aa (Aj h_v1) h1).q fun a w F W => ?_
   refine ls F W Aa (Aq (y := Value.agg #[.int .i64 x2.1, .int .i64 x2.2.1, .int .i64 x2.2.2.1, .int .i64 x2.2.2.2.1, .int .i64 x2.2.2.2.2.1, .int .i64 x2.2.2.2.2.2]) (j := 0) (i := x1) F Aa Aa (Aj h_v1) h1 M9.to Jk Aa).q fun a w F W => ?_
   refine BX (cs := [.int .i64 0, .int .i64 0, .int .i64 0, .int .i64 0, .int .i64 0, .int .i64 0]) F W Aa NU Aa fun b2 a w F W => ?_
   refine BJ (vs := [.int .i64 x2.1, .int .i64 x2.2.1, .int .i64 x2.2.2.1, .int .i64 x2.2.2.2.1, .int .i64 x2.2.2.2.2.1, .int .i64 x2.2.2.2.2.2]) (M' := [(b2, [.int .i64 x2.1, .int .i64 x2.2.1, .int .i64 x2.2.2.1, .int .i64 x2.2.2.2.1, .int .i64 x2.2.2.2.2.1, .int .i64 x2.2.2.2.2.2]), (b1, [.int .i64 p0.1, v1, v2])]) 0 F W Aa Aa Aa Jk Aa Aa Aa Aa Aa fun w W => ?_
   refine Ad (Ab ?_)
   obtain ⟨o3, G3, K3⟩ := An H
   refine AB (fun a w => ∃ x3 : Bool, some (x3) = some o3 ∧ Fr 100 [] [(1, .pointer (some ⟨b1, 0, none⟩)), (2, .bool false), (3, .int .i64 x1), (77, .bool x3)] a ∧ Stw ⟨Y, [], w0⟩ [(b2, [.int .i64 x2.1, .int .i64 x2.2.1, .int .i64 x2.2.2.1, .int .i64 x2.2.2.2.1, .int .i64 x2.2.2.2.2.1, .int .i64 x2.2.2.2.2.2]), (b1, [.int .i64 p0.1, v1, v2])] [] w) ?_ ?_
   ·
    have H := G3
    clear G3 K3
    refine Ac ?_
    refine ls F W Aa (Af Ca Aa Aa Aa T3 F Aa 0 Aa).q fun a w F W => ?_
    refine ls F W Aa (Am (v := Value.int .i64 x2.1) 0 F Aa Aa T3 Aa).q fun a w F W => ?_
    refine ls F W Aa (Af Ca Aa Aa Aa T3 F Aa 2 Aa).q fun a w F W => ?_
    refine ls F W Aa (Am (v := Value.int .i64 x2.2.2.1) 0 F Aa Aa T3 Aa).q fun a w F W => ?_
    refine ls F W Aa (Bz F Aa Aa).q fun a w F W => ?_
    refine ls F W Aa (Ag F Aa).q fun a w F W => ?_
    rcases Bool.eq_false_or_eq_true (decide (x2.1 = x2.2.2.1)) with hb | hb
    ·
     have H := AK (Bd hb) H
     rw [hb] at F
     clear hb
     iterate 3 refine B4 F Aa Aa Aa Aa Aa Aa Aa fun a F => ?_
     refine ls F W Aa (Ao F Aa Aa Aa).q fun a w F W => ?_
     refine ls F W Aa (Ag F Aa).q fun a w F W => ?_
     iterate 5 refine B4 F Aa Aa Aa Aa Aa Aa Aa fun a F => ?_
     refine ls F W Aa (Ao F Aa Aa Aa).q fun a w F W => ?_
     refine ls F W Aa (Ag F Aa).q fun a w F W => ?_
     iterate 3 refine B4 F Aa Aa Aa Aa Aa Aa Aa fun a F => ?_
     refine ls F W Aa (Ao F Aa Aa Aa).q fun a w F W => ?_
     refine ls F W Aa (Ag F Aa).q fun a w F W => ?_
     iterate 7 refine B4 F Aa Aa Aa Aa Aa Aa Aa fun a F => ?_
     refine ls F W Aa (Ao F Aa Aa Aa).q fun a w F W => ?_
     refine ls F W Aa (Ag F Aa).q fun a w F W => ?_
     iterate 7 refine B4 F Aa Aa Aa Aa Aa Aa Aa fun a F => ?_
     refine ls F W Aa (Ao F Aa Aa Aa).q fun a w F W => ?_
     refine Ad (Ab ?_)
     have W := W.frontM (i := 1) Aa Aa
     have W := W.frontM (i := 1) Aa Aa
     exact ⟨_, H, F.re ⟨rfl, Aa, Aa, Aa, trivial⟩, W⟩
    have H := AL (Bc hb) H
    rw [hb] at F
    clear hb
    refine Ay F W (Ae F Aa Aa Aa Aa) Aa (Ak Aa) (Af Ca Aa Aa Aa T3 F Aa 4 Aa).q fun a w F W => ?_
    refine Ay F W (Ae F Aa Aa Aa Aa) Aa (Ak Aa) (Am (v := Value.int .i64 x2.2.2.2.2.1) 0 F Aa Aa T3 Aa).q fun a w F W => ?_
    refine Ay F W (Ae F Aa Aa Aa Aa) Aa (Ak Aa) (Bi F Aa Aa).q fun a w F W => ?_
    refine ls F W Aa (Av F Aa Aa Aa).q fun a w F W => ?_
    refine ls F W Aa (Ag F Aa).q fun a w F W => ?_
    rcases Bool.eq_false_or_eq_true (decide (x2.2.2.2.2.1 < 1)) with hb | hb
    ·
     have H := AK (Bd hb) H
     rw [hb] at F
     clear hb
     iterate 5 refine B4 F Aa Aa Aa Aa Aa Aa Aa fun a F => ?_
     refine ls F W Aa (Ao F Aa Aa Aa).q fun a w F W => ?_
     refine ls F W Aa (Ag F Aa).q fun a w F W => ?_
     iterate 3 refine B4 F Aa Aa Aa Aa Aa Aa Aa fun a F => ?_
     refine ls F W Aa (Ao F Aa Aa Aa).q fun a w F W => ?_
     refine ls F W Aa (Ag F Aa).q fun a w F W => ?_
     iterate 7 refine B4 F Aa Aa Aa Aa Aa Aa Aa fun a F => ?_
     refine ls F W Aa (Ao F Aa Aa Aa).q fun a w F W => ?_
     refine ls F W Aa (Ag F Aa).q fun a w F W => ?_
     iterate 7 refine B4 F Aa Aa Aa Aa Aa Aa Aa fun a F => ?_
     refine ls F W Aa (Ao F Aa Aa Aa).q fun a w F W => ?_
     refine Ad (Ab ?_)
     have W := W.frontM (i := 1) Aa Aa
     have W := W.frontM (i := 1) Aa Aa
     exact ⟨_, H, F.re ⟨rfl, Aa, Aa, Aa, trivial⟩, W⟩
    have H := AL (Bc hb) H
    rw [hb] at F
    clear hb
    refine Ay F W (Ae F Aa Aa Aa Aa) Aa (Ak Aa) (Af Ca Aa Aa Aa T3 F Aa 4 Aa).q fun a w F W => ?_
    refine Ay F W (Ae F Aa Aa Aa Aa) Aa (Ak Aa) (Am (v := Value.int .i64 x2.2.2.2.2.1) 0 F Aa Aa T3 Aa).q fun a w F W => ?_
    refine Ay F W (Ae F Aa Aa Aa Aa) Aa (Ak Aa) (Af Ca Aa Aa Aa T3 F Aa 5 Aa).q fun a w F W => ?_
    refine Ay F W (Ae F Aa Aa Aa Aa) Aa (Ak Aa) (Am (v := Value.int .i64 x2.2.2.2.2.2) 0 F Aa Aa T3 Aa).q fun a w F W => ?_
    refine Ay F W (Ae F Aa Aa Aa Aa) Aa (Ak Aa) (E6 F Aa Aa).q fun a w F W => ?_
    refine ls F W Aa (Av F Aa Aa Aa).q fun a w F W => ?_
    refine ls F W Aa (Ag F Aa).q fun a w F W => ?_
    rcases Bool.eq_false_or_eq_true (decide (x2.2.2.2.2.2 < x2.2.2.2.2.1)) with hb | hb
    ·
     have H := AK (Bd hb) H
     rw [hb] at F
     clear hb
     iterate 3 refine B4 F Aa Aa Aa Aa Aa Aa Aa fun a F => ?_
     refine ls F W Aa (Ao F Aa Aa Aa).q fun a w F W => ?_
     refine ls F W Aa (Ag F Aa).q fun a w F W => ?_
     iterate 7 refine B4 F Aa Aa Aa Aa Aa Aa Aa fun a F => ?_
     refine ls F W Aa (Ao F Aa Aa Aa).q fun a w F W => ?_
     refine ls F W Aa (Ag F Aa).q fun a w F W => ?_
     iterate 7 refine B4 F Aa Aa Aa Aa Aa Aa Aa fun a F => ?_
     refine ls F W Aa (Ao F Aa Aa Aa).q fun a w F W => ?_
     refine Ad (Ab ?_)
     have W := W.frontM (i := 1) Aa Aa
     have W := W.frontM (i := 1) Aa Aa
     exact ⟨_, H, F.re ⟨rfl, Aa, Aa, Aa, trivial⟩, W⟩
    have H := AL (Bc hb) H
    rw [hb] at F
    clear hb
    refine Ay F W (Ae F Aa Aa Aa Aa) Aa (Ak Aa) (Af Ca Aa Aa Aa T3 F Aa 5 Aa).q fun a w F W => ?_
    refine Ay F W (Ae F Aa Aa Aa Aa) Aa (Ak Aa) (Am (v := Value.int .i64 x2.2.2.2.2.2) 0 F Aa Aa T3 Aa).q fun a w F W => ?_
    refine Ay F W (Ae F Aa Aa Aa Aa) Aa (Ak Aa) (E6 F Aa Aa).q fun a w F W => ?_
    refine ls F W Aa (Av F Aa Aa Aa).q fun a w F W => ?_
    refine ls F W Aa (Ag F Aa).q fun a w F W => ?_
    rcases Bool.eq_false_or_eq_true (decide (1000 < x2.2.2.2.2.2)) with hb | hb
    ·
     have H := AK (Bd hb) H
     rw [hb] at F
     clear hb
     iterate 7 refine B4 F Aa Aa Aa Aa Aa Aa Aa fun a F => ?_
     refine ls F W Aa (Ao F Aa Aa Aa).q fun a w F W => ?_
     refine ls F W Aa (Ag F Aa).q fun a w F W => ?_
     iterate 7 refine B4 F Aa Aa Aa Aa Aa Aa Aa fun a F => ?_
     refine ls F W Aa (Ao F Aa Aa Aa).q fun a w F W => ?_
     refine Ad (Ab ?_)
     have W := W.frontM (i := 1) Aa Aa
     have W := W.frontM (i := 1) Aa Aa
     exact ⟨_, H, F.re ⟨rfl, Aa, Aa, Aa, trivial⟩, W⟩
    have H := AL (Bc hb) H
    rw [hb] at F
    clear hb
    refine Ay F W (Ae F Aa Aa Aa Aa) Aa (Ak Aa) (Am (v := Value.agg #[.int .i64 p0.1, v1, v2]) 1 F Aa Aa HW Aa).q fun a w F W => ?_
    refine Ay F W (Ae F Aa Aa Aa Aa) Aa (Ak Aa) (Af Ca Aa Aa Aa T3 F Aa 0 Aa).q fun a w F W => ?_
    refine Ay F W (Ae F Aa Aa Aa Aa) Aa (Ak Aa) (Am (v := Value.int .i64 x2.1) 0 F Aa Aa T3 Aa).q fun a w F W => ?_
    refine Ay F W (Ae F Aa Aa Aa Aa) Aa (Ak Aa) (Af Ca Aa Aa Aa T3 F Aa 1 Aa).q fun a w F W => ?_
    refine Ay F W (Ae F Aa Aa Aa Aa) Aa (Ak Aa) (Am (v := Value.int .i64 x2.2.1) 0 F Aa Aa T3 Aa).q fun a w F W => ?_
    refine Jv (Ae F Aa Aa Aa Aa) ?_
    obtain ⟨x4, h2, H⟩ := An H
    refine ls F W Aa (Bl (v := Value.bool x4) F Qe Aa (fun w W => Hx any w (v1) (v2) p0 x2.1 x2.2.1 _ h2 (((Aj h_v1) : CH _ _ _ _ _ _) w W).nx (((Aj h_v2) : CH _ _ _ _ _ _) w W).nx)) fun a w F W => ?_
    refine Ay F W (Ae F Aa Aa Aa Aa) Aa (Ak Aa) (E5 F Aa).q fun a w F W => ?_
    refine ls F W Aa (Av F Aa Aa Aa).q fun a w F W => ?_
    refine ls F W Aa (Ag F Aa).q fun a w F W => ?_
    rcases Bool.eq_false_or_eq_true (!x4) with hb | hb
    ·
     have H := AK hb H
     rw [hb] at F
     clear hb
     iterate 7 refine B4 F Aa Aa Aa Aa Aa Aa Aa fun a F => ?_
     refine ls F W Aa (Ao F Aa Aa Aa).q fun a w F W => ?_
     refine Ad (Ab ?_)
     have W := W.frontM (i := 1) Aa Aa
     have W := W.frontM (i := 1) Aa Aa
     exact ⟨_, H, F.re ⟨rfl, Aa, Aa, Aa, trivial⟩, W⟩
    have H := AL (by rw [hb]; decide) H
    rw [hb] at F
    clear hb
    refine Ay F W (Ae F Aa Aa Aa Aa) Aa (Ak Aa) (Am (v := Value.agg #[.int .i64 p0.1, v1, v2]) 1 F Aa Aa HW Aa).q fun a w F W => ?_
    refine Ay F W (Ae F Aa Aa Aa Aa) Aa (Ak Aa) (Af Ca Aa Aa Aa T3 F Aa 2 Aa).q fun a w F W => ?_
    refine Ay F W (Ae F Aa Aa Aa Aa) Aa (Ak Aa) (Am (v := Value.int .i64 x2.2.2.1) 0 F Aa Aa T3 Aa).q fun a w F W => ?_
    refine Ay F W (Ae F Aa Aa Aa Aa) Aa (Ak Aa) (Af Ca Aa Aa Aa T3 F Aa 3 Aa).q fun a w F W => ?_
    refine Ay F W (Ae F Aa Aa Aa Aa) Aa (Ak Aa) (Am (v := Value.int .i64 x2.2.2.2.1) 0 F Aa Aa T3 Aa).q fun a w F W => ?_
    refine Jv (Ae F Aa Aa Aa Aa) ?_
    obtain ⟨x5, h3, H⟩ := An H
    refine ls F W Aa (Bl (v := Value.bool x5) F Qe Aa (fun w W => Hx any w (v1) (v2) p0 x2.2.2.1 x2.2.2.2.1 _ h3 (((Aj h_v1) : CH _ _ _ _ _ _) w W).nx (((Aj h_v2) : CH _ _ _ _ _ _) w W).nx)) fun a w F W => ?_
    refine Ay F W (Ae F Aa Aa Aa Aa) Aa (Ak Aa) (E5 F Aa).q fun a w F W => ?_
    refine ls F W Aa (Av F Aa Aa Aa).q fun a w F W => ?_
    refine Ad (Ab ?_)
    have W := W.frontM (i := 1) Aa Aa
    have W := W.frontM (i := 1) Aa Aa
    exact ⟨_, H, F.re ⟨rfl, Aa, Aa, Aa, trivial⟩, W⟩
   rintro a w ⟨x3, hj, F, W⟩
   have hj := AN hj
   subst hj
   have H := K3
   clear G3 K3
   refine Ax F Aa (fun hb => ?_) fun hb => ?_
   ·
    have H := AK hb H
    rw [hb] at F
    clear hb
    refine Ai (Ac ?_)
    refine ls F W Aa (Ah F Aa).q fun a w F W => ?_
    refine Ad (Ab (AA (AH ?_)))
    iterate 2 refine AD ?_
    refine AH (AD ?_)
    have H := L2 _ H
    have H := L1 _ H
    have H := AN H
    subst H
    refine AW (.inl Aa) F W Aa (As F Aa) ?_
    exact ⟨rfl, W.done⟩
   have H := AL (by rw [hb]; decide) H
   rw [hb] at F
   clear hb
   refine Ap (AF (Ab (Ac ?_)))
   refine ls F W Aa (Ag F Aa).q fun a w F W => ?_
   refine ls F W Aa (BS F Aa Aa Aa).q fun a w F W => ?_
   refine ls F W Aa (Ah F Aa).q fun a w F W => ?_
   refine Ad (Ab ?_)
   have W := W.frontM (i := 1) Aa Aa
   have W := W.sub (M' := [(b1, [.int .i64 p0.1, v1, v2])]) (Z' := []) (List.Sublist.cons_cons _ (List.nil_sublist _)) (List.Sublist.refl _)
   exact ⟨_, H, F.re ⟨rfl, Aa, Aa, trivial⟩, W⟩
  have H := AL (Bc hb) H
  rw [hb] at F
  clear hb
  refine A8 ?_
  iterate 2 refine Bk ?_
  refine A9 (Ab ?_)
  have H := L2 _ H
  exact ⟨H, F.re ⟨rfl, Aa, trivial⟩, W⟩
 rintro a w ⟨hj, F, W⟩
 have H := K1 _ hj
 clear hj G1 K1 L1
 obtain ⟨o4, G4, K4, L4⟩ := H4 H
 refine AB (fun a w => some (Sum.inl ()) = some o4 ∧ Fr 100 [] [(2, .bool false)] a ∧ Stw ⟨Y, [], w0⟩ [(b1, [.int .i64 p0.1, v1, v2])] [] w) ?_ ?_
 ·
  have H := G4
  clear G4 K4
  refine Ai (Ac ?_)
  refine ls F W Aa (Ah F Aa).q fun a w F W => ?_
  refine Ad (Ab (Au ?_))
  refine Bf H (fun s a w => Fr 100 [] [(1, .pointer (some ⟨b1, 0, none⟩)), (2, .bool false), (5, .int .i64 s)] a ∧ Stw ⟨Y, [], w0⟩ [(b1, [.int .i64 p0.1, v1, v2])] [] w) ⟨F.re ⟨rfl, Aa, Aa, trivial⟩, W⟩ fun s o a w H L5 hR => ?_
  obtain ⟨x6, rfl⟩ : ∃ x, x = s := ⟨s, rfl⟩
  obtain ⟨F, W⟩ := hR
  have F : Fr 100 [] [(1, .pointer (some ⟨b1, 0, none⟩)), (2, .bool false), (5, .int .i64 x6)] a := F
  have W : Stw ⟨Y, [], w0⟩ [(b1, [.int .i64 p0.1, v1, v2])] [] w := W
  rw [EG] at H
  refine Ai (Ai (Ac ?_))
  refine ls F W Aa (Ag F Aa).q fun a w F W => ?_
  refine ls F W Aa (Af Dg Aa Aa Aa GW F Aa 2 Aa).q fun a w F W => ?_
  refine ls F W Aa (Am (v := v2) 0 F Aa Aa GW Aa).q fun a w F W => ?_
  refine ls F W Aa (A6 (r := EL) (l := p0.2.2) IK Aa F Aa (Aj h_v2)).q fun a w F W => ?_
  refine ls F W Aa (Bi F Aa Aa).q fun a w F W => ?_
  refine Ad (Ab ?_)
  refine Ax F Aa (fun hb => ?_) fun hb => ?_
  ·
   have H := AK (Bd hb) H
   rw [hb] at F
   clear hb
   refine Ap (Ab (Ai (Au (Ai ?_))))
   refine BE W MO (by kernel_rfl) ?_
   refine qs F Aa (Am (v := Value.agg #[.int .i64 p0.1, v1, v2]) 0 F Aa Aa HW Aa).q fun a F => ?_
   refine qs F Aa (Af Dg Aa Aa Aa GW F Aa 2 Aa).q fun a F => ?_
   refine qs F Aa (Am (v := v2) 0 F Aa Aa GW Aa).q fun a F => ?_
   refine qs F Aa (Ag F Aa).q fun a F => ?_
   obtain ⟨x7, h4, H⟩ := An H
   refine qs F Aa (Az (r := EL) Od F Aa Aa (Aj h_v2) h4).q fun a F => ?_
   refine qs F Aa (Af JS Aa Aa Aa T3 F Aa (Cb v2 + (x6).toNat * 2) Aa).q fun a F => ?_
   refine qs F Aa (Aq (y := Value.int .i64 x7.1) (j := 0) (i := x6) F Aa Aa (Aj h_v2) h4 OA.to T3 Aa).q fun a F => ?_
   refine qs F Aa (Af Dg Aa Aa Aa GW F Aa 2 Aa).q fun a F => ?_
   refine qs F Aa (Am (v := v2) 0 F Aa Aa GW Aa).q fun a F => ?_
   refine qs F Aa (Ag F Aa).q fun a F => ?_
   obtain ⟨x8, h5, H⟩ := An H
   refine qs F Aa (Az (r := EL) Od F Aa Aa (Aj h_v2) h5).q fun a F => ?_
   refine qs F Aa (Af JS Aa Aa Aa T3 F Aa (Cb v2 + (x6).toNat * 2 + 1) Aa).q fun a F => ?_
   refine qs F Aa (Aq (y := Value.int .i64 x8.2) (j := 1) (i := x6) F Aa Aa (Aj h_v2) h5 OA.to T3 Aa).q fun a F => ?_
   obtain ⟨x9, h6, H⟩ := An H
   refine qs F Aa (Bl (v := Value.bool x9) F Qe Aa (fun w W => Hx any w (v1) (v2) p0 x7.1 x8.2 _ h6 (((Aj h_v1) : CH _ _ _ _ _ _) w W).nx (((Aj h_v2) : CH _ _ _ _ _ _) w W).nx)) fun a F => ?_
   refine qs F Aa (E5 F Aa).q fun a F => ?_
   refine AX fun w W => ?_
   refine Ab ?_
   refine Ax F Aa (fun hb => ?_) fun hb => ?_
   ·
    have H := AK hb H
    rw [hb] at F
    clear hb
    refine Ai (Ac ?_)
    refine ls F W Aa (Ah F Aa).q fun a w F W => ?_
    refine Ad (Ab (AA (AH ?_)))
    iterate 2 refine AD ?_
    refine AH (AD ?_)
    have H := L5 _ H
    have H := L4 _ H
    have H := AN H
    subst H
    refine AW (.inl Aa) F W Aa (As F Aa) ?_
    exact ⟨rfl, W.done⟩
   have H := AL (by rw [hb]; decide) H
   rw [hb] at F
   clear hb
   refine Ap (AF (Ab (Ac ?_)))
   refine ls F W Aa (Ag F Aa).q fun a w F W => ?_
   refine ls F W Aa (BS F Aa Aa Aa).q fun a w F W => ?_
   refine ls F W Aa (Ah F Aa).q fun a w F W => ?_
   refine Ad (Ab ?_)
   exact ⟨_, H, F.re ⟨rfl, Aa, Aa, trivial⟩, W⟩
  have H := AL (Bc hb) H
  rw [hb] at F
  clear hb
  refine A8 ?_
  iterate 2 refine Bk ?_
  refine A9 (Ab ?_)
  have H := L5 _ H
  exact ⟨H, F.re ⟨rfl, trivial⟩, W⟩
 rintro a w ⟨hj, F, W⟩
 have H := K4 _ hj
 clear hj G4 K4 L4
 refine Ai (Ac ?_)
 refine ls F W Aa (Ah F Aa).q fun a w F W => ?_
 refine Ad (Ab (AA ?_))
 have H := AN H
 subst H
 refine AW (.inl Aa) F W Aa (As F Aa) ?_
 exact ⟨rfl, W.done⟩
theorem Sn : Has Try.prog 47 := ⟨fun args w => Al Try.func47 rfl (by decide) args w⟩
noncomputable def C0 (p1 : List (List Int)) (x3 : Int) : Int → Option (Int ⊕ (Unit ⊕ (Int ⊕ (Unit ⊕ Bool))))
  | x5 => (ix p1 x3).bind fun x6 => (if x5 < (x6.length : Int) then ((ix p1 x3).bind fun x8 => (ix x8 x5).bind fun x9 => (if x9 < 0 then some true else (ix p1 x3).bind fun x10 => (ix x10 x5).bind fun x11 => some (decide (7 < x11)))).bind fun x7 => (if x7 = true then some (.inr (.inr (.inr (.inr false)))) else some (.inl (Dz (x5 + 1)))) else some (.inr (.inl ())))
noncomputable def EB (p0 : Int × (List (Int × Int × Int × Int × Int × Int)) × (List (Int × Int))) (p1 : List (List Int)) : Int → Option (Int ⊕ (Unit ⊕ Bool))
  | x3 => (if x3 < (p1.length : Int) then D6 ((ix p1 x3).bind fun x4 => (if (x4.length : Int) ≠ (p0.2.2.length : Int) then some (.inr (.inr (.inr false))) else AM (C0 p1 x3) 0)) fun _ => some (.inl (Dz (x3 + 1))) else some (.inr (.inl ())))
noncomputable def Gg (p0 : Int × (List (Int × Int × Int × Int × Int × Int)) × (List (Int × Int))) (p1 : List (List Int)) : Option Bool := ((Gm p0).bind fun x2 => (if (!x2) = true then some true else some (decide ((p1.length : Int) ≠ p0.1)))).bind fun x1 => (if x1 = true then some false else D6 (AM (EB p0 p1) 0) fun _ => some true)
theorem Ld (Y : Nat → Prop) (w0 : World) (v1 : Value) (v2 : Value) (v3 : Value) (p0 : Int × (List (Int × Int × Int × Int × Int × Int)) × (List (Int × Int))) (p1 : List (List Int)) (r : Bool) (H : Gg p0 p1 = some r) (h_v1 : Sl w0 (NX []) C8 v1 p0.2.1) (h_v2 : Sl w0 (NX []) EL v2 p0.2.2) (h_v3 : Sl w0 (NX []) (Rp.slice (Rp.int .i64)) v3 p1) :
    Calls Try.prog 37 #[.agg #[.int .i64 p0.1, v1, v2], v3] w0 fun e w' => e = .returned (.bool r) ∧ Below w0.heap.size w0 w' := by
 refine enter Try.func37 Aa Try.ntmps37 Aa fun a F => ?_
 have W := Stw.start Y w0
 obtain ⟨v4, h1, h_v3⟩ := h_v3.ex Ep
 unfold Gg at H
 refine Ai (Ac ?_)
 refine B9 (cs := [.int .i64 p0.1, v1, v2]) F W Aa Aa Aa fun b1 a w F W => ?_
 refine ls F W Aa (Ah F Aa).q fun a w F W => ?_
 refine Ad (Ab (Ai ?_))
 obtain ⟨o1, G1, K1⟩ := An H
 refine AB (fun a w => ∃ x1 : Bool, some (x1) = some o1 ∧ Fr 59 [] [(1, v3), (2, .pointer (some ⟨b1, 0, none⟩)), (4, .bool false), (16, .bool x1)] a ∧ Stw ⟨Y, [], w0⟩ [(b1, [.int .i64 p0.1, v1, v2])] [] w) ?_ ?_
 ·
  have H := G1
  clear G1 K1
  refine Ac ?_
  refine ls F W Aa (Am (v := Value.agg #[.int .i64 p0.1, v1, v2]) 0 F Aa Aa HW Aa).q fun a w F W => ?_
  obtain ⟨x2, h2, H⟩ := An H
  refine ls F W Aa (Bl (v := Value.bool x2) F Sn Aa (fun w W => LD any w (v1) (v2) p0 _ h2 (((Aj h_v1) : CH _ _ _ _ _ _) w W).nx (((Aj h_v2) : CH _ _ _ _ _ _) w W).nx)) fun a w F W => ?_
  refine ls F W Aa (E5 F Aa).q fun a w F W => ?_
  refine ls F W Aa (Ag F Aa).q fun a w F W => ?_
  rcases Bool.eq_false_or_eq_true (!x2) with hb | hb
  ·
   have H := AK hb H
   rw [hb] at F
   clear hb
   iterate 5 refine B4 F Aa Aa Aa Aa Aa Aa Aa fun a F => ?_
   refine ls F W Aa (Ao F Aa Aa Aa).q fun a w F W => ?_
   refine Ad (Ab ?_)
   exact ⟨_, H, F.re ⟨rfl, Aa, Aa, Aa, trivial⟩, W⟩
  have H := AL (by rw [hb]; decide) H
  rw [hb] at F
  clear hb
  refine Ay F W (Ae F Aa Aa Aa Aa) Aa (Ak Aa) (Ag F Aa).q fun a w F W => ?_
  refine Ay F W (Ae F Aa Aa Aa Aa) Aa (Ak Aa) (A6 (r := (Rp.slice (Rp.int .i64))) (l := p1) JM Aa F Aa (BA Ep h1 (Aj h_v3))).q fun a w F W => ?_
  refine Ay F W (Ae F Aa Aa Aa Aa) Aa (Ak Aa) (Af Dg Aa Aa Aa T3 F Aa 0 Aa).q fun a w F W => ?_
  refine Ay F W (Ae F Aa Aa Aa Aa) Aa (Ak Aa) (Am (v := Value.int .i64 p0.1) 0 F Aa Aa T3 Aa).q fun a w F W => ?_
  refine Ay F W (Ae F Aa Aa Aa Aa) Aa (Ak Aa) (Dx F Aa Aa).q fun a w F W => ?_
  refine ls F W Aa (Av F Aa Aa Aa).q fun a w F W => ?_
  refine Ad (Ab ?_)
  exact ⟨_, H, F.re ⟨rfl, Aa, Aa, Aa, trivial⟩, W⟩
 rintro a w ⟨x1, hj, F, W⟩
 have hj := AN hj
 subst hj
 have H := K1
 clear G1 K1
 refine Ax F Aa (fun hb => ?_) fun hb => ?_
 ·
  have H := AK hb H
  rw [hb] at F
  clear hb
  refine Ai (Ac ?_)
  refine ls F W Aa (Ah F Aa).q fun a w F W => ?_
  refine Ad (Ab (AA (AD ?_)))
  have H := AN H
  subst H
  refine AW (.inl Aa) F W Aa (As F Aa) ?_
  exact ⟨rfl, W.done⟩
 have H := AL (by rw [hb]; decide) H
 rw [hb] at F
 clear hb
 refine Ap (Ab ?_)
 obtain ⟨o2, G2, K2, L2⟩ := H4 H
 refine AB (fun a w => some (Sum.inl ()) = some o2 ∧ Fr 59 [] [(4, .bool false)] a ∧ Stw ⟨Y, [], w0⟩ [(b1, [.int .i64 p0.1, v1, v2])] [] w) ?_ ?_
 ·
  have H := G2
  clear G2 K2
  refine Ai (Ac ?_)
  refine ls F W Aa (Ah F Aa).q fun a w F W => ?_
  refine Ad (Ab (Au ?_))
  refine Bf H (fun s a w => Fr 59 [] [(1, v3), (2, .pointer (some ⟨b1, 0, none⟩)), (4, .bool false), (5, .int .i64 s)] a ∧ Stw ⟨Y, [], w0⟩ [(b1, [.int .i64 p0.1, v1, v2])] [] w) ⟨F.re ⟨rfl, Aa, Aa, Aa, trivial⟩, W⟩ fun s o a w H L3 hR => ?_
  obtain ⟨x3, rfl⟩ : ∃ x, x = s := ⟨s, rfl⟩
  obtain ⟨F, W⟩ := hR
  have F : Fr 59 [] [(1, v3), (2, .pointer (some ⟨b1, 0, none⟩)), (4, .bool false), (5, .int .i64 x3)] a := F
  have W : Stw ⟨Y, [], w0⟩ [(b1, [.int .i64 p0.1, v1, v2])] [] w := W
  rw [EB] at H
  refine Ai (Ai (Ac ?_))
  iterate 2 refine ls F W Aa (Ag F Aa).q fun a w F W => ?_
  refine ls F W Aa (A6 (r := (Rp.slice (Rp.int .i64))) (l := p1) JM Aa F Aa (BA Ep h1 (Aj h_v3))).q fun a w F W => ?_
  refine ls F W Aa (Bi F Aa Aa).q fun a w F W => ?_
  refine Ad (Ab ?_)
  refine Ax F Aa (fun hb => ?_) fun hb => ?_
  ·
   have H := AK (Bd hb) H
   rw [hb] at F
   clear hb
   refine Ap (Ab ?_)
   obtain ⟨o4, G4, K4, L4⟩ := H4 H
   refine AB (fun a w => some (Sum.inl ()) = some o4 ∧ Fr 59 [] [(1, v3), (2, .pointer (some ⟨b1, 0, none⟩)), (4, .bool false), (5, .int .i64 x3)] a ∧ Stw ⟨Y, [], w0⟩ [(b1, [.int .i64 p0.1, v1, v2])] [] w) ?_ ?_
   ·
    have H := G4
    clear G4 K4
    refine Au ?_
    iterate 2 refine Ai ?_
    refine BE W MO (by kernel_rfl) ?_
    iterate 2 refine qs F Aa (Ag F Aa).q fun a F => ?_
    obtain ⟨x4, h3, H⟩ := An H
    obtain ⟨v5, h4, h5⟩ := Cx h1 h3
    have h6 : Fi v5 = [(v5.1)] := congrArg (fun q : List Int => ([(v5.1)] : List Value)) h5
    refine qs F Aa (Az (r := (Rp.vsl (Rp.int .i64))) MT F Aa Aa (Aj h_v3) h4).q fun a F => ?_
    refine qs F Aa (Aq (y := (v5.1)) (j := 0) (i := x3) (enc := Fi) F Aa Aa (Aj h_v3) h4 IA E1 (by rw [h6]; rfl)).q fun a F => ?_
    refine qs F Aa (A6 (r := (Rp.int .i64)) (l := x4) Fc Aa F Aa (CS (Aj h_v3) h4 CR.here (congrArg (fun q : List Int => q) h5))).q fun a F => ?_
    refine qs F Aa (Af Dg Aa Aa Aa GW F Aa 2 Aa).q fun a F => ?_
    refine qs F Aa (Am (v := v2) 0 F Aa Aa GW Aa).q fun a F => ?_
    refine qs F Aa (A6 (r := EL) (l := p0.2.2) IK Aa F Aa (Aj h_v2)).q fun a F => ?_
    refine qs F Aa (Dx F Aa Aa).q fun a F => ?_
    refine AX fun w W => ?_
    refine Ab ?_
    refine Ax F Aa (fun hb => ?_) fun hb => ?_
    ·
     have H := AK (Bd hb) H
     rw [hb] at F
     clear hb
     refine Ai (Ac ?_)
     refine ls F W Aa (Ah F Aa).q fun a w F W => ?_
     refine Ad (Ab (AA (AD (AH ?_))))
     iterate 2 refine AD ?_
     refine AH (AD ?_)
     have H := L4 _ H
     have H := L3 _ H
     have H := L2 _ H
     have H := AN H
     subst H
     refine AW (.inl Aa) F W Aa (As F Aa) ?_
     exact ⟨rfl, W.done⟩
    have H := AL (Bc hb) H
    rw [hb] at F
    clear hb
    refine Ap (Ab (Ai (Ac ?_)))
    refine ls F W Aa (Ah F Aa).q fun a w F W => ?_
    refine Ad (Ab (Au ?_))
    refine Bf H (fun s a w => Fr 59 [] [(1, v3), (2, .pointer (some ⟨b1, 0, none⟩)), (4, .bool false), (5, .int .i64 x3), (6, .int .i64 s)] a ∧ Stw ⟨Y, [], w0⟩ [(b1, [.int .i64 p0.1, v1, v2])] [] w) ⟨F.re ⟨rfl, Aa, Aa, Aa, Aa, trivial⟩, W⟩ fun s o a w H L5 hR => ?_
    obtain ⟨x5, rfl⟩ : ∃ x, x = s := ⟨s, rfl⟩
    obtain ⟨F, W⟩ := hR
    have F : Fr 59 [] [(1, v3), (2, .pointer (some ⟨b1, 0, none⟩)), (4, .bool false), (5, .int .i64 x3), (6, .int .i64 x5)] a := F
    have W : Stw ⟨Y, [], w0⟩ [(b1, [.int .i64 p0.1, v1, v2])] [] w := W
    rw [C0] at H
    refine Ai (Ai (Ac ?_))
    iterate 3 refine ls F W Aa (Ag F Aa).q fun a w F W => ?_
    obtain ⟨x6, h7, H⟩ := An H
    obtain ⟨v6, h8, h9⟩ := Cx h1 h7
    have h10 : Fi v6 = [(v6.1)] := congrArg (fun q : List Int => ([(v6.1)] : List Value)) h9
    refine ls F W Aa (Az (r := (Rp.vsl (Rp.int .i64))) MT F Aa Aa (Aj h_v3) h8).q fun a w F W => ?_
    refine ls F W Aa (Aq (y := (v6.1)) (j := 0) (i := x3) (enc := Fi) F Aa Aa (Aj h_v3) h8 IA E1 (by rw [h10]; rfl)).q fun a w F W => ?_
    refine ls F W Aa (A6 (r := (Rp.int .i64)) (l := x6) Fc Aa F Aa (CS (Aj h_v3) h8 CR.here (congrArg (fun q : List Int => q) h9))).q fun a w F W => ?_
    refine ls F W Aa (Bi F Aa Aa).q fun a w F W => ?_
    refine Ad (Ab ?_)
    refine Ax F Aa (fun hb => ?_) fun hb => ?_
    ·
     have H := AK (Bd hb) H
     rw [hb] at F
     clear hb
     refine Ap (Ab (Ai (Au ?_)))
     obtain ⟨o6, G6, K6⟩ := An H
     refine AB (fun a w => ∃ x7 : Bool, some (x7) = some o6 ∧ Fr 59 [] [(1, v3), (2, .pointer (some ⟨b1, 0, none⟩)), (4, .bool false), (5, .int .i64 x3), (6, .int .i64 x5), (58, .bool x7)] a ∧ Stw ⟨Y, [], w0⟩ [(b1, [.int .i64 p0.1, v1, v2])] [] w) ?_ ?_
     ·
      have H := G6
      clear G6 K6
      refine Ac ?_
      iterate 2 refine ls F W Aa (Ag F Aa).q fun a w F W => ?_
      obtain ⟨x8, h11, H⟩ := An H
      obtain ⟨v7, h12, h13⟩ := Cx h1 h11
      have h14 : Fi v7 = [(v7.1)] := congrArg (fun q : List Int => ([(v7.1)] : List Value)) h13
      refine ls F W Aa (Az (r := (Rp.vsl (Rp.int .i64))) MT F Aa Aa (Aj h_v3) h12).q fun a w F W => ?_
      refine ls F W Aa (Aq (y := (v7.1)) (j := 0) (i := x3) (enc := Fi) F Aa Aa (Aj h_v3) h12 IA E1 (by rw [h14]; rfl)).q fun a w F W => ?_
      refine ls F W Aa (Ag F Aa).q fun a w F W => ?_
      obtain ⟨x9, h15, H⟩ := An H
      refine ls F W Aa (Az (r := (Rp.int .i64)) Hl F Aa Aa (CS (Aj h_v3) h12 CR.here (congrArg (fun q : List Int => q) h13)) h15).q fun a w F W => ?_
      refine ls F W Aa (Aq (y := Value.int .i64 x9) (j := 0) (i := x5) F Aa Aa (CS (Aj h_v3) h12 CR.here (congrArg (fun q : List Int => q) h13)) h15 Fl.int.to T3 Aa).q fun a w F W => ?_
      refine ls F W Aa (Bi F Aa Aa).q fun a w F W => ?_
      refine ls F W Aa (Ag F Aa).q fun a w F W => ?_
      rcases Bool.eq_false_or_eq_true (decide (x9 < 0)) with hb | hb
      ·
       have H := AK (Bd hb) H
       rw [hb] at F
       clear hb
       iterate 8 refine B4 F Aa Aa Aa Aa Aa Aa Aa fun a F => ?_
       refine ls F W Aa (Ao F Aa Aa Aa).q fun a w F W => ?_
       refine Ad (Ab ?_)
       exact ⟨_, H, F.re ⟨rfl, Aa, Aa, Aa, Aa, Aa, trivial⟩, W⟩
      have H := AL (Bc hb) H
      rw [hb] at F
      clear hb
      iterate 2 refine Ay F W (Ae F Aa Aa Aa Aa) Aa (Ak Aa) (Ag F Aa).q fun a w F W => ?_
      obtain ⟨x10, h16, H⟩ := An H
      obtain ⟨v8, h17, h18⟩ := Cx h1 h16
      have h19 : Fi v8 = [(v8.1)] := congrArg (fun q : List Int => ([(v8.1)] : List Value)) h18
      refine Ay F W (Ae F Aa Aa Aa Aa) Aa (Ak Aa) (Az (r := (Rp.vsl (Rp.int .i64))) MT F Aa Aa (Aj h_v3) h17).q fun a w F W => ?_
      refine Ay F W (Ae F Aa Aa Aa Aa) Aa (Ak Aa) (Aq (y := (v8.1)) (j := 0) (i := x3) (enc := Fi) F Aa Aa (Aj h_v3) h17 IA E1 (by rw [h19]; rfl)).q fun a w F W => ?_
      refine Ay F W (Ae F Aa Aa Aa Aa) Aa (Ak Aa) (Ag F Aa).q fun a w F W => ?_
      obtain ⟨x11, h20, H⟩ := An H
      refine Ay F W (Ae F Aa Aa Aa Aa) Aa (Ak Aa) (Az (r := (Rp.int .i64)) Hl F Aa Aa (CS (Aj h_v3) h17 CR.here (congrArg (fun q : List Int => q) h18)) h20).q fun a w F W => ?_
      refine Ay F W (Ae F Aa Aa Aa Aa) Aa (Ak Aa) (Aq (y := Value.int .i64 x11) (j := 0) (i := x5) F Aa Aa (CS (Aj h_v3) h17 CR.here (congrArg (fun q : List Int => q) h18)) h20 Fl.int.to T3 Aa).q fun a w F W => ?_
      refine Ay F W (Ae F Aa Aa Aa Aa) Aa (Ak Aa) (E6 F Aa Aa).q fun a w F W => ?_
      refine ls F W Aa (Av F Aa Aa Aa).q fun a w F W => ?_
      refine Ad (Ab ?_)
      exact ⟨_, H, F.re ⟨rfl, Aa, Aa, Aa, Aa, Aa, trivial⟩, W⟩
     rintro a w ⟨x7, hj, F, W⟩
     have hj := AN hj
     subst hj
     have H := K6
     clear G6 K6
     refine Ax F Aa (fun hb => ?_) fun hb => ?_
     ·
      have H := AK hb H
      rw [hb] at F
      clear hb
      refine Ai (Ac ?_)
      refine ls F W Aa (Ah F Aa).q fun a w F W => ?_
      refine Ad (Ab (AA (AH ?_)))
      iterate 2 refine AD ?_
      iterate 2 refine AH ?_
      iterate 2 refine AD ?_
      refine AH (AD ?_)
      have H := L5 _ H
      have H := L4 _ H
      have H := L3 _ H
      have H := L2 _ H
      have H := AN H
      subst H
      refine AW (.inl Aa) F W Aa (As F Aa) ?_
      exact ⟨rfl, W.done⟩
     have H := AL (by rw [hb]; decide) H
     rw [hb] at F
     clear hb
     refine Ap (AF (Ab (Ac ?_)))
     refine ls F W Aa (Ag F Aa).q fun a w F W => ?_
     refine ls F W Aa (BS F Aa Aa Aa).q fun a w F W => ?_
     refine ls F W Aa (Ah F Aa).q fun a w F W => ?_
     refine Ad (Ab ?_)
     exact ⟨_, H, F.re ⟨rfl, Aa, Aa, Aa, Aa, trivial⟩, W⟩
    have H := AL (Bc hb) H
    rw [hb] at F
    clear hb
    refine A8 ?_
    iterate 2 refine Bk ?_
    refine A9 (AF (Ab ?_))
    have H := L5 _ H
    exact ⟨H, F.re ⟨rfl, Aa, Aa, Aa, trivial⟩, W⟩
   rintro a w ⟨hj, F, W⟩
   have H := K4 _ hj
   clear hj G4 K4 L4
   refine Ac ?_
   refine ls F W Aa (Ag F Aa).q fun a w F W => ?_
   refine ls F W Aa (BS F Aa Aa Aa).q fun a w F W => ?_
   refine ls F W Aa (Ah F Aa).q fun a w F W => ?_
   refine Ad (Ab ?_)
   exact ⟨_, H, F.re ⟨rfl, Aa, Aa, Aa, trivial⟩, W⟩
  have H := AL (Bc hb) H
  rw [hb] at F
  clear hb
  refine A8 ?_
  iterate 2 refine Bk ?_
  refine A9 (Ab ?_)
  have H := L3 _ H
  exact ⟨H, F.re ⟨rfl, trivial⟩, W⟩
 rintro a w ⟨hj, F, W⟩
 have H := K2 _ hj
 clear hj G2 K2 L2
 refine Ai (Ac ?_)
 refine ls F W Aa (Ah F Aa).q fun a w F W => ?_
 refine Ad (Ab (AA ?_))
 have H := AN H
 subst H
 refine AW (.inl Aa) F W Aa (As F Aa) ?_
 exact ⟨rfl, W.done⟩
theorem Rh : Has Try.prog 37 := ⟨fun args w => Al Try.func37 rfl (by decide) args w⟩
noncomputable def FV (p0 : Int × (List (Int × Int × Int × Int × Int × Int)) × (List (Int × Int))) (p1 : Int) (p2 : Int) : Int → Option (Int ⊕ (Unit ⊕ (Int × Int × Int × Bool)))
  | x1 => (if x1 < (p0.2.1.length : Int) then (ix p0.2.1 x1).bind fun x2 => (if (decide (x2.1 = p1) && decide (x2.2.1 = p2)) = true then some (.inr (.inr (x2.2.2.1, x2.2.2.2.1, x1, true))) else (if (decide (x2.2.2.1 = p1) && decide (x2.2.2.2.1 = p2)) = true then some (.inr (.inr (x2.1, x2.2.1, x1, true))) else some (.inl (Dz (x1 + 1))))) else some (.inr (.inl ())))
noncomputable def Gl (p0 : Int × (List (Int × Int × Int × Int × Int × Int)) × (List (Int × Int))) (p1 : Int) (p2 : Int) : Option (Int × Int × Int × Bool) := D6 (AM (FV p0 p1 p2) 0) fun _ => some (0, 0, 0, false)
theorem LN (Y : Nat → Prop) (w0 : World) (v1 : Value) (v2 : Value) (p0 : Int × (List (Int × Int × Int × Int × Int × Int)) × (List (Int × Int))) (p1 : Int) (p2 : Int) (r : Int × Int × Int × Bool) (H : Gl p0 p1 p2 = some r) (h_v1 : Sl w0 (NX []) C8 v1 p0.2.1) (h_v2 : Sl w0 (NX []) EL v2 p0.2.2) :
    Calls Try.prog 57 #[.agg #[.int .i64 p0.1, v1, v2], .int .i64 p1, .int .i64 p2] w0 fun e w' => e = .returned (.tuple #[.int .i64 r.1, .int .i64 r.2.1, .int .i64 r.2.2.1, .bool r.2.2.2]) ∧ Below w0.heap.size w0 w' := by
 refine enter Try.func57 Aa Try.ntmps57 Aa fun a F => ?_
 have W := Stw.start Y w0
 unfold Gl at H
 refine Ai (Ac ?_)
 refine B9 (cs := [.int .i64 p0.1, v1, v2]) F W Aa Aa Aa fun b1 a w F W => ?_
 iterate 4 refine ls F W Aa (Ah F Aa).q fun a w F W => ?_
 refine Ad (Ab ?_)
 obtain ⟨o1, G1, K1, L1⟩ := H4 H
 refine AB (fun a w => some (Sum.inl ()) = some o1 ∧ Fr 54 [] [(6, .int .i64 0), (7, .int .i64 0), (8, .int .i64 0), (9, .bool false)] a ∧ Stw ⟨Y, [], w0⟩ [(b1, [.int .i64 p0.1, v1, v2])] [] w) ?_ ?_
 ·
  have H := G1
  clear G1 K1
  refine Ai (Ac ?_)
  refine ls F W Aa (Ah F Aa).q fun a w F W => ?_
  refine Ad (Ab (Au ?_))
  refine Bf H (fun s a w => Fr 54 [] [(1, .int .i64 p1), (2, .int .i64 p2), (3, .pointer (some ⟨b1, 0, none⟩)), (6, .int .i64 0), (7, .int .i64 0), (8, .int .i64 0), (9, .bool false), (10, .int .i64 s)] a ∧ Stw ⟨Y, [], w0⟩ [(b1, [.int .i64 p0.1, v1, v2])] [] w) ⟨F.re ⟨rfl, Aa, Aa, Aa, Aa, Aa, Aa, Aa, trivial⟩, W⟩ fun s o a w H L2 hR => ?_
  obtain ⟨x1, rfl⟩ : ∃ x, x = s := ⟨s, rfl⟩
  obtain ⟨F, W⟩ := hR
  have F : Fr 54 [] [(1, .int .i64 p1), (2, .int .i64 p2), (3, .pointer (some ⟨b1, 0, none⟩)), (6, .int .i64 0), (7, .int .i64 0), (8, .int .i64 0), (9, .bool false), (10, .int .i64 x1)] a := F
  have W : Stw ⟨Y, [], w0⟩ [(b1, [.int .i64 p0.1, v1, v2])] [] w := W
  rw [FV] at H
  refine Ai (Ai (Ac ?_))
  refine ls F W Aa (Ag F Aa).q fun a w F W => ?_
  refine ls F W Aa (Af Dg Aa Aa Aa IY F Aa 1 Aa).q fun a w F W => ?_
  refine ls F W Aa (Am (v := v1) 0 F Aa Aa IY Aa).q fun a w F W => ?_
  refine ls F W Aa (A6 (r := C8) (l := p0.2.1) JY Aa F Aa (Aj h_v1)).q fun a w F W => ?_
  refine ls F W Aa (Bi F Aa Aa).q fun a w F W => ?_
  refine Ad (Ab ?_)
  refine Ax F Aa (fun hb => ?_) fun hb => ?_
  ·
   have H := AK (Bd hb) H
   rw [hb] at F
   clear hb
   refine Ap (Ab (Ai (Au (Ai (Ac ?_)))))
   refine ls F W Aa (Af Dg Aa Aa Aa IY F Aa 1 Aa).q fun a w F W => ?_
   refine ls F W Aa (Am (v := v1) 0 F Aa Aa IY Aa).q fun a w F W => ?_
   refine ls F W Aa (Ag F Aa).q fun a w F W => ?_
   obtain ⟨x2, h1, H⟩ := An H
   refine ls F W Aa (Az (r := C8) Py F Aa Aa (Aj h_v1) h1).q fun a w F W => ?_
   refine ls F W Aa (Aq (y := Value.agg #[.int .i64 x2.1, .int .i64 x2.2.1, .int .i64 x2.2.2.1, .int .i64 x2.2.2.2.1, .int .i64 x2.2.2.2.2.1, .int .i64 x2.2.2.2.2.2]) (j := 0) (i := x1) F Aa Aa (Aj h_v1) h1 M9.to Jk Aa).q fun a w F W => ?_
   refine BX (cs := [.int .i64 0, .int .i64 0, .int .i64 0, .int .i64 0, .int .i64 0, .int .i64 0]) F W Aa NU Aa fun b2 a w F W => ?_
   refine BJ (vs := [.int .i64 x2.1, .int .i64 x2.2.1, .int .i64 x2.2.2.1, .int .i64 x2.2.2.2.1, .int .i64 x2.2.2.2.2.1, .int .i64 x2.2.2.2.2.2]) (M' := [(b2, [.int .i64 x2.1, .int .i64 x2.2.1, .int .i64 x2.2.2.1, .int .i64 x2.2.2.2.1, .int .i64 x2.2.2.2.2.1, .int .i64 x2.2.2.2.2.2]), (b1, [.int .i64 p0.1, v1, v2])]) 0 F W Aa Aa Aa Jk Aa Aa Aa Aa Aa fun w W => ?_
   refine Ad (Ab (Ai ?_))
   refine AB (fun a w => Fr 54 [] [(1, .int .i64 p1), (2, .int .i64 p2), (3, .pointer (some ⟨b1, 0, none⟩)), (6, .int .i64 0), (7, .int .i64 0), (8, .int .i64 0), (9, .bool false), (10, .int .i64 x1), (11, .pointer (some ⟨b2, 0, none⟩)), (33, .bool (decide (x2.1 = p1) && decide (x2.2.1 = p2)))] a ∧ Stw ⟨Y, [], w0⟩ [(b2, [.int .i64 x2.1, .int .i64 x2.2.1, .int .i64 x2.2.2.1, .int .i64 x2.2.2.2.1, .int .i64 x2.2.2.2.2.1, .int .i64 x2.2.2.2.2.2]), (b1, [.int .i64 p0.1, v1, v2])] [] w) ?_ ?_
   ·
    refine Ac ?_
    refine ls F W Aa (Af Ca Aa Aa Aa T3 F Aa 0 Aa).q fun a w F W => ?_
    refine ls F W Aa (Am (v := Value.int .i64 x2.1) 0 F Aa Aa T3 Aa).q fun a w F W => ?_
    refine ls F W Aa (Ag F Aa).q fun a w F W => ?_
    refine ls F W Aa (Bz F Aa Aa).q fun a w F W => ?_
    refine ls F W Aa (Ag F Aa).q fun a w F W => ?_
    rcases Bool.eq_false_or_eq_true (decide (x2.1 = p1)) with hb0 | hb0
    ·
     rw [hb0] at F
     refine Ay F W (Ae F Aa Aa Aa Aa) Aa (Ak Aa) (Af Ca Aa Aa Aa T3 F Aa 1 Aa).q fun a w F W => ?_
     refine Ay F W (Ae F Aa Aa Aa Aa) Aa (Ak Aa) (Am (v := Value.int .i64 x2.2.1) 0 F Aa Aa T3 Aa).q fun a w F W => ?_
     refine Ay F W (Ae F Aa Aa Aa Aa) Aa (Ak Aa) (Ag F Aa).q fun a w F W => ?_
     refine Ay F W (Ae F Aa Aa Aa Aa) Aa (Ak Aa) (Bz F Aa Aa).q fun a w F W => ?_
     refine ls F W Aa (Ao F Aa Aa Aa).q fun a w F W => ?_
     refine Ad (Ab ?_)
     exact ⟨F.re ⟨rfl, Aa, Aa, Aa, Aa, Aa, Aa, Aa, Aa, (by show some (Value.bool (decide (x2.2.1 = p2))) = some (Value.bool (decide (x2.1 = p1) && decide (x2.2.1 = p2))); try rw [hb0]; all_goals simp only [Bool.not_true, Bool.not_false, Bool.true_and, Bool.false_and, Bool.true_or, Bool.false_or, Bool.and_true, Bool.or_false, cond_true, cond_false]), trivial⟩, W⟩
    rw [hb0] at F
    iterate 4 refine B4 F Aa Aa Aa Aa Aa Aa Aa fun a F => ?_
    refine ls F W Aa (Av F Aa Aa Aa).q fun a w F W => ?_
    refine Ad (Ab ?_)
    exact ⟨F.re ⟨rfl, Aa, Aa, Aa, Aa, Aa, Aa, Aa, Aa, (by show some (Value.bool false) = some (Value.bool (decide (x2.1 = p1) && decide (x2.2.1 = p2))); try rw [hb0]; all_goals simp only [Bool.not_true, Bool.not_false, Bool.true_and, Bool.false_and, Bool.true_or, Bool.false_or, Bool.and_true, Bool.or_false, cond_true, cond_false]), trivial⟩, W⟩
   rintro a w ⟨F, W⟩
   refine Ax F Aa (fun hb => ?_) fun hb => ?_
   ·
    have H := AK hb H
    rw [hb] at F
    clear hb
    refine Ai ?_
    refine BE W MO (by kernel_rfl) ?_
    refine qs F Aa (Af Ca Aa Aa Aa T3 F Aa 2 Aa).q fun a F => ?_
    refine qs F Aa (Am (v := Value.int .i64 x2.2.2.1) 0 F Aa Aa T3 Aa).q fun a F => ?_
    refine qs F Aa (Af Ca Aa Aa Aa T3 F Aa 3 Aa).q fun a F => ?_
    refine qs F Aa (Am (v := Value.int .i64 x2.2.2.2.1) 0 F Aa Aa T3 Aa).q fun a F => ?_
    refine qs F Aa (Ag F Aa).q fun a F => ?_
    iterate 4 refine qs F Aa (Ah F Aa).q fun a F => ?_
    refine AX fun w W => ?_
    refine Ab (AA (AD (AH ?_)))
    iterate 2 refine AD ?_
    refine AH (AD ?_)
    have H := L2 _ H
    have H := L1 _ H
    have H := AN H
    subst H
    refine Kb (.inl Aa) F W Aa (As F Aa) (As F Aa) (As F Aa) (As F Aa) ?_
    exact ⟨rfl, W.done⟩
   have H := AL (by rw [hb]; decide) H
   rw [hb] at F
   clear hb
   refine Ap (Ab ?_)
   refine AB (fun a w => Fr 54 [] [(1, .int .i64 p1), (2, .int .i64 p2), (3, .pointer (some ⟨b1, 0, none⟩)), (6, .int .i64 0), (7, .int .i64 0), (8, .int .i64 0), (9, .bool false), (10, .int .i64 x1), (11, .pointer (some ⟨b2, 0, none⟩)), (48, .bool (decide (x2.2.2.1 = p1) && decide (x2.2.2.2.1 = p2)))] a ∧ Stw ⟨Y, [], w0⟩ [(b2, [.int .i64 x2.1, .int .i64 x2.2.1, .int .i64 x2.2.2.1, .int .i64 x2.2.2.2.1, .int .i64 x2.2.2.2.2.1, .int .i64 x2.2.2.2.2.2]), (b1, [.int .i64 p0.1, v1, v2])] [] w) ?_ ?_
   ·
    refine Ac ?_
    refine ls F W Aa (Af Ca Aa Aa Aa T3 F Aa 2 Aa).q fun a w F W => ?_
    refine ls F W Aa (Am (v := Value.int .i64 x2.2.2.1) 0 F Aa Aa T3 Aa).q fun a w F W => ?_
    refine ls F W Aa (Ag F Aa).q fun a w F W => ?_
    refine ls F W Aa (Bz F Aa Aa).q fun a w F W => ?_
    refine ls F W Aa (Ag F Aa).q fun a w F W => ?_
    rcases Bool.eq_false_or_eq_true (decide (x2.2.2.1 = p1)) with hb0 | hb0
    ·
     rw [hb0] at F
     refine Ay F W (Ae F Aa Aa Aa Aa) Aa (Ak Aa) (Af Ca Aa Aa Aa T3 F Aa 3 Aa).q fun a w F W => ?_
     refine Ay F W (Ae F Aa Aa Aa Aa) Aa (Ak Aa) (Am (v := Value.int .i64 x2.2.2.2.1) 0 F Aa Aa T3 Aa).q fun a w F W => ?_
     refine Ay F W (Ae F Aa Aa Aa Aa) Aa (Ak Aa) (Ag F Aa).q fun a w F W => ?_
     refine Ay F W (Ae F Aa Aa Aa Aa) Aa (Ak Aa) (Bz F Aa Aa).q fun a w F W => ?_
     refine ls F W Aa (Ao F Aa Aa Aa).q fun a w F W => ?_
     refine Ad (Ab ?_)
     exact ⟨F.re ⟨rfl, Aa, Aa, Aa, Aa, Aa, Aa, Aa, Aa, (by show some (Value.bool (decide (x2.2.2.2.1 = p2))) = some (Value.bool (decide (x2.2.2.1 = p1) && decide (x2.2.2.2.1 = p2))); try rw [hb0]; all_goals simp only [Bool.not_true, Bool.not_false, Bool.true_and, Bool.false_and, Bool.true_or, Bool.false_or, Bool.and_true, Bool.or_false, cond_true, cond_false]), trivial⟩, W⟩
    rw [hb0] at F
    iterate 4 refine B4 F Aa Aa Aa Aa Aa Aa Aa fun a F => ?_
    refine ls F W Aa (Av F Aa Aa Aa).q fun a w F W => ?_
    refine Ad (Ab ?_)
    exact ⟨F.re ⟨rfl, Aa, Aa, Aa, Aa, Aa, Aa, Aa, Aa, (by show some (Value.bool false) = some (Value.bool (decide (x2.2.2.1 = p1) && decide (x2.2.2.2.1 = p2))); try rw [hb0]; all_goals simp only [Bool.not_true, Bool.not_false, Bool.true_and, Bool.false_and, Bool.true_or, Bool.false_or, Bool.and_true, Bool.or_false, cond_true, cond_false]), trivial⟩, W⟩
   rintro a w ⟨F, W⟩
   refine Ax F Aa (fun hb => ?_) fun hb => ?_
   ·
    have H := AK hb H
    rw [hb] at F
    clear hb
    refine Ai ?_
    refine BE W MO (by kernel_rfl) ?_
    refine qs F Aa (Af Ca Aa Aa Aa T3 F Aa 0 Aa).q fun a F => ?_
    refine qs F Aa (Am (v := Value.int .i64 x2.1) 0 F Aa Aa T3 Aa).q fun a F => ?_
    refine qs F Aa (Af Ca Aa Aa Aa T3 F Aa 1 Aa).q fun a F => ?_
    refine qs F Aa (Am (v := Value.int .i64 x2.2.1) 0 F Aa Aa T3 Aa).q fun a F => ?_
    refine qs F Aa (Ag F Aa).q fun a F => ?_
    iterate 4 refine qs F Aa (Ah F Aa).q fun a F => ?_
    refine AX fun w W => ?_
    refine Ab (AA (AH ?_))
    iterate 2 refine AD ?_
    refine AH (AD ?_)
    have H := L2 _ H
    have H := L1 _ H
    have H := AN H
    subst H
    refine Kb (.inl Aa) F W Aa (As F Aa) (As F Aa) (As F Aa) (As F Aa) ?_
    exact ⟨rfl, W.done⟩
   have H := AL (by rw [hb]; decide) H
   rw [hb] at F
   clear hb
   refine Ap (AF (Ab (Ac ?_)))
   refine ls F W Aa (Ag F Aa).q fun a w F W => ?_
   refine ls F W Aa (BS F Aa Aa Aa).q fun a w F W => ?_
   refine ls F W Aa (Ah F Aa).q fun a w F W => ?_
   refine Ad (Ab ?_)
   have W := W.frontM (i := 1) Aa Aa
   have W := W.sub (M' := [(b1, [.int .i64 p0.1, v1, v2])]) (Z' := []) (List.Sublist.cons_cons _ (List.nil_sublist _)) (List.Sublist.refl _)
   exact ⟨_, H, F.re ⟨rfl, Aa, Aa, Aa, Aa, Aa, Aa, Aa, trivial⟩, W⟩
  have H := AL (Bc hb) H
  rw [hb] at F
  clear hb
  refine A8 ?_
  iterate 2 refine Bk ?_
  refine A9 (Ab ?_)
  have H := L2 _ H
  exact ⟨H, F.re ⟨rfl, Aa, Aa, Aa, trivial⟩, W⟩
 rintro a w ⟨hj, F, W⟩
 have H := K1 _ hj
 clear hj G1 K1 L1
 refine Ai (Ac ?_)
 iterate 4 refine ls F W Aa (Ah F Aa).q fun a w F W => ?_
 refine Ad (Ab (AA ?_))
 have H := AN H
 subst H
 refine Kb (.inl Aa) F W Aa (As F Aa) (As F Aa) (As F Aa) (As F Aa) ?_
 exact ⟨rfl, W.done⟩
theorem Rl : Has Try.prog 57 := ⟨fun args w => Al Try.func57 rfl (by decide) args w⟩
noncomputable def GQ (p0 : Int × (List (Int × Int × Int × Int × Int × Int)) × (List (Int × Int))) (p1 : List (List Int)) (p2 : Int) (p3 : Int) : Option (Int × Bool) := (if p2 < 0 then some true else (if (p1.length : Int) ≤ p2 then some true else (if p3 < 0 then some true else (ix p1 p2).bind fun x2 => some (decide ((x2.length : Int) ≤ p3))))).bind fun x1 => (if x1 = true then some (0, false) else (ix p1 p2).bind fun x3 => (ix x3 p3).bind fun x4 => (Gl p0 p2 x4).bind fun x5 => some (x5.1, x5.2.2.2))
theorem LR (Y : Nat → Prop) (w0 : World) (v1 : Value) (v2 : Value) (v3 : Value) (p0 : Int × (List (Int × Int × Int × Int × Int × Int)) × (List (Int × Int))) (p1 : List (List Int)) (p2 : Int) (p3 : Int) (r : Int × Bool) (H : GQ p0 p1 p2 p3 = some r) (h_v1 : Sl w0 (NX []) C8 v1 p0.2.1) (h_v2 : Sl w0 (NX []) EL v2 p0.2.2) (h_v3 : Sl w0 (NX []) (Rp.slice (Rp.int .i64)) v3 p1) :
    Calls Try.prog 48 #[.agg #[.int .i64 p0.1, v1, v2], v3, .int .i64 p2, .int .i64 p3] w0 fun e w' => e = .returned (.tuple #[.int .i64 r.1, .bool r.2]) ∧ Below w0.heap.size w0 w' := by
 refine enter Try.func48 Aa Try.ntmps48 Aa fun a F => ?_
 have W := Stw.start Y w0
 obtain ⟨v4, h1, h_v3⟩ := h_v3.ex Ep
 unfold GQ at H
 refine Ai (Ac ?_)
 refine B9 (cs := [.int .i64 p0.1, v1, v2]) F W Aa Aa Aa fun b1 a w F W => ?_
 iterate 2 refine ls F W Aa (Ah F Aa).q fun a w F W => ?_
 refine Ad (Ab (Ai ?_))
 obtain ⟨o1, G1, K1⟩ := An H
 refine AB (fun a w => ∃ x1 : Bool, some (x1) = some o1 ∧ Fr 52 [] [(1, v3), (2, .int .i64 p2), (3, .int .i64 p3), (4, .pointer (some ⟨b1, 0, none⟩)), (8, .int .i64 0), (9, .bool false), (34, .bool x1)] a ∧ Stw ⟨Y, [], w0⟩ [(b1, [.int .i64 p0.1, v1, v2])] [] w) ?_ ?_
 ·
  have H := G1
  clear G1 K1
  refine Ac ?_
  refine ls F W Aa (Ag F Aa).q fun a w F W => ?_
  refine ls F W Aa (Bi F Aa Aa).q fun a w F W => ?_
  refine ls F W Aa (Ag F Aa).q fun a w F W => ?_
  rcases Bool.eq_false_or_eq_true (decide (p2 < 0)) with hb | hb
  ·
   have H := AK (Bd hb) H
   rw [hb] at F
   clear hb
   iterate 4 refine B4 F Aa Aa Aa Aa Aa Aa Aa fun a F => ?_
   refine ls F W Aa (Ao F Aa Aa Aa).q fun a w F W => ?_
   refine ls F W Aa (Ag F Aa).q fun a w F W => ?_
   iterate 2 refine B4 F Aa Aa Aa Aa Aa Aa Aa fun a F => ?_
   refine ls F W Aa (Ao F Aa Aa Aa).q fun a w F W => ?_
   refine ls F W Aa (Ag F Aa).q fun a w F W => ?_
   iterate 7 refine B4 F Aa Aa Aa Aa Aa Aa Aa fun a F => ?_
   refine ls F W Aa (Ao F Aa Aa Aa).q fun a w F W => ?_
   refine Ad (Ab ?_)
   exact ⟨_, H, F.re ⟨rfl, Aa, Aa, Aa, Aa, Aa, Aa, trivial⟩, W⟩
  have H := AL (Bc hb) H
  rw [hb] at F
  clear hb
  iterate 2 refine Ay F W (Ae F Aa Aa Aa Aa) Aa (Ak Aa) (Ag F Aa).q fun a w F W => ?_
  refine Ay F W (Ae F Aa Aa Aa Aa) Aa (Ak Aa) (A6 (r := (Rp.slice (Rp.int .i64))) (l := p1) JM Aa F Aa (BA Ep h1 (Aj h_v3))).q fun a w F W => ?_
  refine Ay F W (Ae F Aa Aa Aa Aa) Aa (Ak Aa) (DH F Aa Aa).q fun a w F W => ?_
  refine ls F W Aa (Av F Aa Aa Aa).q fun a w F W => ?_
  refine ls F W Aa (Ag F Aa).q fun a w F W => ?_
  rcases Bool.eq_false_or_eq_true (decide ((p1.length : Int) ≤ p2)) with hb | hb
  ·
   have H := AK (Bd hb) H
   rw [hb] at F
   clear hb
   iterate 2 refine B4 F Aa Aa Aa Aa Aa Aa Aa fun a F => ?_
   refine ls F W Aa (Ao F Aa Aa Aa).q fun a w F W => ?_
   refine ls F W Aa (Ag F Aa).q fun a w F W => ?_
   iterate 7 refine B4 F Aa Aa Aa Aa Aa Aa Aa fun a F => ?_
   refine ls F W Aa (Ao F Aa Aa Aa).q fun a w F W => ?_
   refine Ad (Ab ?_)
   exact ⟨_, H, F.re ⟨rfl, Aa, Aa, Aa, Aa, Aa, Aa, trivial⟩, W⟩
  have H := AL (Bc hb) H
  rw [hb] at F
  clear hb
  refine Ay F W (Ae F Aa Aa Aa Aa) Aa (Ak Aa) (Ag F Aa).q fun a w F W => ?_
  refine Ay F W (Ae F Aa Aa Aa Aa) Aa (Ak Aa) (Bi F Aa Aa).q fun a w F W => ?_
  refine ls F W Aa (Av F Aa Aa Aa).q fun a w F W => ?_
  refine ls F W Aa (Ag F Aa).q fun a w F W => ?_
  rcases Bool.eq_false_or_eq_true (decide (p3 < 0)) with hb | hb
  ·
   have H := AK (Bd hb) H
   rw [hb] at F
   clear hb
   iterate 7 refine B4 F Aa Aa Aa Aa Aa Aa Aa fun a F => ?_
   refine ls F W Aa (Ao F Aa Aa Aa).q fun a w F W => ?_
   refine Ad (Ab ?_)
   exact ⟨_, H, F.re ⟨rfl, Aa, Aa, Aa, Aa, Aa, Aa, trivial⟩, W⟩
  have H := AL (Bc hb) H
  rw [hb] at F
  clear hb
  iterate 3 refine Ay F W (Ae F Aa Aa Aa Aa) Aa (Ak Aa) (Ag F Aa).q fun a w F W => ?_
  obtain ⟨x2, h2, H⟩ := An H
  obtain ⟨v5, h3, h4⟩ := Cx h1 h2
  have h5 : Fi v5 = [(v5.1)] := congrArg (fun q : List Int => ([(v5.1)] : List Value)) h4
  refine Ay F W (Ae F Aa Aa Aa Aa) Aa (Ak Aa) (Az (r := (Rp.vsl (Rp.int .i64))) MT F Aa Aa (Aj h_v3) h3).q fun a w F W => ?_
  refine Ay F W (Ae F Aa Aa Aa Aa) Aa (Ak Aa) (Aq (y := (v5.1)) (j := 0) (i := p2) (enc := Fi) F Aa Aa (Aj h_v3) h3 IA E1 (by rw [h5]; rfl)).q fun a w F W => ?_
  refine Ay F W (Ae F Aa Aa Aa Aa) Aa (Ak Aa) (A6 (r := (Rp.int .i64)) (l := x2) Fc Aa F Aa (CS (Aj h_v3) h3 CR.here (congrArg (fun q : List Int => q) h4))).q fun a w F W => ?_
  refine Ay F W (Ae F Aa Aa Aa Aa) Aa (Ak Aa) (DH F Aa Aa).q fun a w F W => ?_
  refine ls F W Aa (Av F Aa Aa Aa).q fun a w F W => ?_
  refine Ad (Ab ?_)
  exact ⟨_, H, F.re ⟨rfl, Aa, Aa, Aa, Aa, Aa, Aa, trivial⟩, W⟩
 rintro a w ⟨x1, hj, F, W⟩
 have hj := AN hj
 subst hj
 have H := K1
 clear G1 K1
 refine Ax F Aa (fun hb => ?_) fun hb => ?_
 ·
  have H := AK hb H
  rw [hb] at F
  clear hb
  refine Ai (Ac ?_)
  iterate 2 refine ls F W Aa (Ah F Aa).q fun a w F W => ?_
  refine Ad (Ab (AA (AD ?_)))
  have H := AN H
  subst H
  refine EJ (.inl Aa) F W Aa (As F Aa) (As F Aa) ?_
  exact ⟨rfl, W.done⟩
 have H := AL (by rw [hb]; decide) H
 rw [hb] at F
 clear hb
 refine Ap (Ab (Ai ?_))
 refine BE W MO (by kernel_rfl) ?_
 refine qs F Aa (Am (v := Value.agg #[.int .i64 p0.1, v1, v2]) 0 F Aa Aa HW Aa).q fun a F => ?_
 iterate 3 refine qs F Aa (Ag F Aa).q fun a F => ?_
 obtain ⟨x3, h6, H⟩ := An H
 obtain ⟨v6, h7, h8⟩ := Cx h1 h6
 have h9 : Fi v6 = [(v6.1)] := congrArg (fun q : List Int => ([(v6.1)] : List Value)) h8
 refine qs F Aa (Az (r := (Rp.vsl (Rp.int .i64))) MT F Aa Aa (Aj h_v3) h7).q fun a F => ?_
 refine qs F Aa (Aq (y := (v6.1)) (j := 0) (i := p2) (enc := Fi) F Aa Aa (Aj h_v3) h7 IA E1 (by rw [h9]; rfl)).q fun a F => ?_
 refine qs F Aa (Ag F Aa).q fun a F => ?_
 obtain ⟨x4, h10, H⟩ := An H
 refine qs F Aa (Az (r := (Rp.int .i64)) Hl F Aa Aa (CS (Aj h_v3) h7 CR.here (congrArg (fun q : List Int => q) h8)) h10).q fun a F => ?_
 refine qs F Aa (Aq (y := Value.int .i64 x4) (j := 0) (i := p3) F Aa Aa (CS (Aj h_v3) h7 CR.here (congrArg (fun q : List Int => q) h8)) h10 Fl.int.to T3 Aa).q fun a F => ?_
 obtain ⟨x5, h11, H⟩ := An H
 refine qs F Aa (Bl (v := Value.tuple #[.int .i64 x5.1, .int .i64 x5.2.1, .int .i64 x5.2.2.1, .bool x5.2.2.2]) F Rl Aa (fun w W => LN any w (v1) (v2) p0 p2 x4 _ h11 (((Aj h_v1) : CH _ _ _ _ _ _) w W).nx (((Aj h_v2) : CH _ _ _ _ _ _) w W).nx)) fun a F => ?_
 refine qs F Aa (Ag F Aa).q fun a F => ?_
 refine qs F Aa (Bj (v := Value.int .i64 x5.1) F Aa Aa).q fun a F => ?_
 refine qs F Aa (Bj (v := Value.int .i64 x5.2.1) F Aa Aa).q fun a F => ?_
 refine qs F Aa (Bj (v := Value.int .i64 x5.2.2.1) F Aa Aa).q fun a F => ?_
 refine qs F Aa (Bj (v := Value.bool x5.2.2.2) F Aa Aa).q fun a F => ?_
 iterate 4 refine qs F Aa (Ah F Aa).q fun a F => ?_
 refine AX fun w W => ?_
 refine Ab (Ai (Ac ?_))
 iterate 2 refine ls F W Aa (Ag F Aa).q fun a w F W => ?_
 iterate 2 refine ls F W Aa (Ah F Aa).q fun a w F W => ?_
 refine Ad (Ab (AA ?_))
 have H := AN H
 subst H
 refine EJ (.inl Aa) F W Aa (As F Aa) (As F Aa) ?_
 exact ⟨rfl, W.done⟩
theorem Sg : Has Try.prog 48 := ⟨fun args w => Al Try.func48 rfl (by decide) args w⟩
noncomputable def Dq (p0 : Int × (List (Int × Int × Int × Int × Int × Int)) × (List (Int × Int))) (p1 : List (List Int)) (p3 : Int) (p4 : Int) : (Int × Int) → Option ((Int × Int) ⊕ (Int ⊕ (Int × Bool)))
  | (x2, x3) => (if x3 ≤ p4 then ((ix p0.2.2 p3).bind fun x5 => (if x5.1 = x2 then (ix p0.2.2 p3).bind fun x6 => (ix p1 x2).bind fun x7 => (ix x7 p3).bind fun x8 => some (decide (x6.2 = x8)) else some false)).bind fun x4 => (if x4 = true then some (.inr (.inr (x2, decide (x3 = p4)))) else (if x3 = p4 then some (.inr (.inr (x2, false))) else (GQ p0 p1 x2 p3).bind fun x9 => (if (!x9.2) = true then some (.inr (.inr ((-1), false))) else some (.inl (x9.1, Dz (x3 + 1)))))) else some (.inr (.inl x2)))
noncomputable def DT (p0 : Int × (List (Int × Int × Int × Int × Int × Int)) × (List (Int × Int))) (p1 : List (List Int)) (p2 : Int) (p3 : Int) (p4 : Int) : Option (Int × Bool) := D6 (AM (Dq p0 p1 p3 p4) (p2, 0)) fun x1 => some (x1, false)
theorem Ij (Y : Nat → Prop) (w0 : World) (v1 : Value) (v2 : Value) (v3 : Value) (p0 : Int × (List (Int × Int × Int × Int × Int × Int)) × (List (Int × Int))) (p1 : List (List Int)) (p2 : Int) (p3 : Int) (p4 : Int) (r : Int × Bool) (H : DT p0 p1 p2 p3 p4 = some r) (h_v1 : Sl w0 (NX []) C8 v1 p0.2.1) (h_v2 : Sl w0 (NX []) EL v2 p0.2.2) (h_v3 : Sl w0 (NX []) (Rp.slice (Rp.int .i64)) v3 p1) :
    Calls Try.prog 38 #[.agg #[.int .i64 p0.1, v1, v2], v3, .int .i64 p2, .int .i64 p3, .int .i64 p4] w0 fun e w' => e = .returned (.tuple #[.int .i64 r.1, .bool r.2]) ∧ Below w0.heap.size w0 w' := by
 refine enter Try.func38 Aa Try.ntmps38 Aa fun a F => ?_
 have W := Stw.start Y w0
 obtain ⟨v4, h1, h_v3⟩ := h_v3.ex Ep
 unfold DT at H
 refine Ai (Ac ?_)
 refine B9 (cs := [.int .i64 p0.1, v1, v2]) F W Aa Aa Aa fun b1 a w F W => ?_
 iterate 2 refine ls F W Aa (Ah F Aa).q fun a w F W => ?_
 refine Ad (Ab (Ai (Ac ?_)))
 refine ls F W Aa (Ag F Aa).q fun a w F W => ?_
 refine ls F W Aa (Ah F Aa).q fun a w F W => ?_
 refine Ad (Ab ?_)
 obtain ⟨o1, G1, K1, L1⟩ := H4 H
 refine AB (fun a w => ∃ x1 : Int, some (Sum.inl x1) = some o1 ∧ Fr 66 [] [(10, .int .i64 0), (11, .bool false), (12, .int .i64 x1)] a ∧ Stw ⟨Y, [], w0⟩ [(b1, [.int .i64 p0.1, v1, v2])] [] w) ?_ ?_
 ·
  have H := G1
  clear G1 K1
  refine Ai (Ac ?_)
  refine ls F W Aa (Ah F Aa).q fun a w F W => ?_
  refine Ad (Ab (Au ?_))
  refine Bf H (fun s a w => Fr 66 [] [(1, v3), (3, .int .i64 p3), (4, .int .i64 p4), (5, .pointer (some ⟨b1, 0, none⟩)), (10, .int .i64 0), (11, .bool false), (12, .int .i64 s.1), (13, .int .i64 s.2)] a ∧ Stw ⟨Y, [], w0⟩ [(b1, [.int .i64 p0.1, v1, v2])] [] w) ⟨F.re ⟨rfl, Aa, Aa, Aa, Aa, Aa, Aa, Aa, trivial⟩, W⟩ fun s o a w H L2 hR => ?_
  obtain ⟨x2, x3⟩ := s
  obtain ⟨F, W⟩ := hR
  have F : Fr 66 [] [(1, v3), (3, .int .i64 p3), (4, .int .i64 p4), (5, .pointer (some ⟨b1, 0, none⟩)), (10, .int .i64 0), (11, .bool false), (12, .int .i64 x2), (13, .int .i64 x3)] a := F
  have W : Stw ⟨Y, [], w0⟩ [(b1, [.int .i64 p0.1, v1, v2])] [] w := W
  rw [Dq] at H
  refine Ai (Ai (Ac ?_))
  iterate 2 refine ls F W Aa (Ag F Aa).q fun a w F W => ?_
  refine ls F W Aa (Is F Aa Aa).q fun a w F W => ?_
  refine Ad (Ab ?_)
  refine Ax F Aa (fun hb => ?_) fun hb => ?_
  ·
   have H := AK (Bd hb) H
   rw [hb] at F
   clear hb
   refine Ap (Ab (Ai (Au (Ai ?_))))
   obtain ⟨o3, G3, K3⟩ := An H
   refine AB (fun a w => ∃ x4 : Bool, some (x4) = some o3 ∧ Fr 66 [] [(1, v3), (3, .int .i64 p3), (4, .int .i64 p4), (5, .pointer (some ⟨b1, 0, none⟩)), (10, .int .i64 0), (11, .bool false), (12, .int .i64 x2), (13, .int .i64 x3), (45, .bool x4)] a ∧ Stw ⟨Y, [], w0⟩ [(b1, [.int .i64 p0.1, v1, v2])] [] w) ?_ ?_
   ·
    have H := G3
    clear G3 K3
    refine BE W MO (by kernel_rfl) ?_
    refine qs F Aa (Af Dg Aa Aa Aa GW F Aa 2 Aa).q fun a F => ?_
    refine qs F Aa (Am (v := v2) 0 F Aa Aa GW Aa).q fun a F => ?_
    refine qs F Aa (Ag F Aa).q fun a F => ?_
    obtain ⟨x5, h2, H⟩ := An H
    refine qs F Aa (Az (r := EL) Od F Aa Aa (Aj h_v2) h2).q fun a F => ?_
    refine qs F Aa (Af JS Aa Aa Aa T3 F Aa (Cb v2 + (p3).toNat * 2) Aa).q fun a F => ?_
    refine qs F Aa (Aq (y := Value.int .i64 x5.1) (j := 0) (i := p3) F Aa Aa (Aj h_v2) h2 OA.to T3 Aa).q fun a F => ?_
    refine qs F Aa (Ag F Aa).q fun a F => ?_
    refine qs F Aa (Bz F Aa Aa).q fun a F => ?_
    refine qs F Aa (Ag F Aa).q fun a F => ?_
    rcases Bool.eq_false_or_eq_true (decide (x5.1 = x2)) with hb | hb
    ·
     have H := AK (Bd hb) H
     rw [hb] at F
     clear hb
     refine Bu F (Ae F Aa Aa Aa Aa) Aa (Ak Aa) (Af Dg Aa Aa Aa GW F Aa 2 Aa).q fun a F => ?_
     refine Bu F (Ae F Aa Aa Aa Aa) Aa (Ak Aa) (Am (v := v2) 0 F Aa Aa GW Aa).q fun a F => ?_
     refine Bu F (Ae F Aa Aa Aa Aa) Aa (Ak Aa) (Ag F Aa).q fun a F => ?_
     obtain ⟨x6, h3, H⟩ := An H
     refine Bu F (Ae F Aa Aa Aa Aa) Aa (Ak Aa) (Az (r := EL) Od F Aa Aa (Aj h_v2) h3).q fun a F => ?_
     refine Bu F (Ae F Aa Aa Aa Aa) Aa (Ak Aa) (Af JS Aa Aa Aa T3 F Aa (Cb v2 + (p3).toNat * 2 + 1) Aa).q fun a F => ?_
     refine Bu F (Ae F Aa Aa Aa Aa) Aa (Ak Aa) (Aq (y := Value.int .i64 x6.2) (j := 1) (i := p3) F Aa Aa (Aj h_v2) h3 OA.to T3 Aa).q fun a F => ?_
     iterate 2 refine Bu F (Ae F Aa Aa Aa Aa) Aa (Ak Aa) (Ag F Aa).q fun a F => ?_
     obtain ⟨x7, h4, H⟩ := An H
     obtain ⟨v5, h5, h6⟩ := Cx h1 h4
     have h7 : Fi v5 = [(v5.1)] := congrArg (fun q : List Int => ([(v5.1)] : List Value)) h6
     refine Bu F (Ae F Aa Aa Aa Aa) Aa (Ak Aa) (Az (r := (Rp.vsl (Rp.int .i64))) MT F Aa Aa (Aj h_v3) h5).q fun a F => ?_
     refine Bu F (Ae F Aa Aa Aa Aa) Aa (Ak Aa) (Aq (y := (v5.1)) (j := 0) (i := x2) (enc := Fi) F Aa Aa (Aj h_v3) h5 IA E1 (by rw [h7]; rfl)).q fun a F => ?_
     refine Bu F (Ae F Aa Aa Aa Aa) Aa (Ak Aa) (Ag F Aa).q fun a F => ?_
     obtain ⟨x8, h8, H⟩ := An H
     refine Bu F (Ae F Aa Aa Aa Aa) Aa (Ak Aa) (Az (r := (Rp.int .i64)) Hl F Aa Aa (CS (Aj h_v3) h5 CR.here (congrArg (fun q : List Int => q) h6)) h8).q fun a F => ?_
     refine Bu F (Ae F Aa Aa Aa Aa) Aa (Ak Aa) (Aq (y := Value.int .i64 x8) (j := 0) (i := p3) F Aa Aa (CS (Aj h_v3) h5 CR.here (congrArg (fun q : List Int => q) h6)) h8 Fl.int.to T3 Aa).q fun a F => ?_
     refine Bu F (Ae F Aa Aa Aa Aa) Aa (Ak Aa) (Bz F Aa Aa).q fun a F => ?_
     refine qs F Aa (Ao F Aa Aa Aa).q fun a F => ?_
     refine AX fun w W => ?_
     refine Ab ?_
     exact ⟨_, H, F.re ⟨rfl, Aa, Aa, Aa, Aa, Aa, Aa, Aa, Aa, trivial⟩, W⟩
    have H := AL (Bc hb) H
    rw [hb] at F
    clear hb
    iterate 14 refine Dn F (CD F Aa Aa Aa Aa Aa) Aa Aa fun a F => ?_
    refine qs F Aa (Av F Aa Aa Aa).q fun a F => ?_
    refine AX fun w W => ?_
    refine Ab ?_
    exact ⟨_, H, F.re ⟨rfl, Aa, Aa, Aa, Aa, Aa, Aa, Aa, Aa, trivial⟩, W⟩
   rintro a w ⟨x4, hj, F, W⟩
   have hj := AN hj
   subst hj
   have H := K3
   clear G3 K3
   refine Ax F Aa (fun hb => ?_) fun hb => ?_
   ·
    have H := AK hb H
    rw [hb] at F
    clear hb
    refine Ai (Ac ?_)
    iterate 3 refine ls F W Aa (Ag F Aa).q fun a w F W => ?_
    refine ls F W Aa (Bz F Aa Aa).q fun a w F W => ?_
    iterate 2 refine ls F W Aa (Ah F Aa).q fun a w F W => ?_
    refine Ad (Ab (AA (AD (AH ?_))))
    iterate 2 refine AD ?_
    refine AH (AD ?_)
    have H := L2 _ H
    have H := L1 _ H
    have H := AN H
    subst H
    refine EJ (.inl Aa) F W Aa (As F Aa) (As F Aa) ?_
    exact ⟨rfl, W.done⟩
   have H := AL (by rw [hb]; decide) H
   rw [hb] at F
   clear hb
   refine Ap (Ab (Ai (Ai (Ac ?_))))
   iterate 2 refine ls F W Aa (Ag F Aa).q fun a w F W => ?_
   refine ls F W Aa (Bz F Aa Aa).q fun a w F W => ?_
   refine Ad (Ab ?_)
   refine Ax F Aa (fun hb => ?_) fun hb => ?_
   ·
    have H := AK (Bd hb) H
    rw [hb] at F
    clear hb
    refine Ai (Ac ?_)
    refine ls F W Aa (Ag F Aa).q fun a w F W => ?_
    iterate 2 refine ls F W Aa (Ah F Aa).q fun a w F W => ?_
    refine Ad (Ab (AA (AD (AH ?_))))
    iterate 2 refine AD ?_
    refine AH (AD ?_)
    have H := L2 _ H
    have H := L1 _ H
    have H := AN H
    subst H
    refine EJ (.inl Aa) F W Aa (As F Aa) (As F Aa) ?_
    exact ⟨rfl, W.done⟩
   have H := AL (Bc hb) H
   rw [hb] at F
   clear hb
   refine Ap (Ab (Ai (Ac ?_)))
   refine ls F W Aa (Am (v := Value.agg #[.int .i64 p0.1, v1, v2]) 0 F Aa Aa HW Aa).q fun a w F W => ?_
   iterate 3 refine ls F W Aa (Ag F Aa).q fun a w F W => ?_
   obtain ⟨x9, h9, H⟩ := An H
   refine ls F W Aa (Bl (v := Value.tuple #[.int .i64 x9.1, .bool x9.2]) F Sg Aa (fun w W => LR any w (v1) (v2) (v3) p0 p1 x2 p3 _ h9 (((Aj h_v1) : CH _ _ _ _ _ _) w W).nx (((Aj h_v2) : CH _ _ _ _ _ _) w W).nx (((BA Ep h1 (Aj h_v3)) : CH _ _ _ _ _ _) w W).nx)) fun a w F W => ?_
   refine ls F W Aa (Ag F Aa).q fun a w F W => ?_
   refine ls F W Aa (Bj (v := Value.int .i64 x9.1) F Aa Aa).q fun a w F W => ?_
   refine ls F W Aa (Bj (v := Value.bool x9.2) F Aa Aa).q fun a w F W => ?_
   iterate 2 refine ls F W Aa (Ah F Aa).q fun a w F W => ?_
   refine Ad (Ab (Ai (Ai (Ac ?_))))
   refine ls F W Aa (Ag F Aa).q fun a w F W => ?_
   refine ls F W Aa (E5 F Aa).q fun a w F W => ?_
   refine Ad (Ab ?_)
   refine Ax F Aa (fun hb => ?_) fun hb => ?_
   ·
    have H := AK hb H
    rw [hb] at F
    clear hb
    refine Ai (Ac ?_)
    iterate 2 refine ls F W Aa (Ah F Aa).q fun a w F W => ?_
    refine Ad (Ab (AA (AD (AH ?_))))
    iterate 2 refine AD ?_
    refine AH (AD ?_)
    have H := L2 _ H
    have H := L1 _ H
    have H := AN H
    subst H
    refine EJ (.inl Aa) F W Aa (As F Aa) (As F Aa) ?_
    exact ⟨rfl, W.done⟩
   have H := AL (by rw [hb]; decide) H
   rw [hb] at F
   clear hb
   refine Ap (Ab (Ac ?_))
   refine ls F W Aa (Ag F Aa).q fun a w F W => ?_
   refine ls F W Aa (Ah F Aa).q fun a w F W => ?_
   refine Ad (AF (Ab (Ac ?_)))
   refine ls F W Aa (Ag F Aa).q fun a w F W => ?_
   refine ls F W Aa (BS F Aa Aa Aa).q fun a w F W => ?_
   refine ls F W Aa (Ah F Aa).q fun a w F W => ?_
   refine Ad (Ab ?_)
   exact ⟨_, H, F.re ⟨rfl, Aa, Aa, Aa, Aa, Aa, Aa, Aa, trivial⟩, W⟩
  have H := AL (Bc hb) H
  rw [hb] at F
  clear hb
  refine A8 ?_
  iterate 2 refine Bk ?_
  refine A9 (Ab ?_)
  have H := L2 _ H
  exact ⟨_, H, F.re ⟨rfl, Aa, Aa, trivial⟩, W⟩
 rintro a w ⟨x1, hj, F, W⟩
 have H := K1 _ hj
 clear hj G1 K1 L1
 refine Ai (Ac ?_)
 refine ls F W Aa (Ag F Aa).q fun a w F W => ?_
 iterate 2 refine ls F W Aa (Ah F Aa).q fun a w F W => ?_
 refine Ad (Ab (AA ?_))
 have H := AN H
 subst H
 refine EJ (.inl Aa) F W Aa (As F Aa) (As F Aa) ?_
 exact ⟨rfl, W.done⟩
end Go.Proofs.Ytflaelbmglmmcaa
