/- The functions of layer 35, EV. Conditions: none. -/
import Derived.Test.YtemacefkdopgaaabA3
namespace Go.Proofs.Ytemacefkdopgaaa
open Go Go.RowKit
set_option linter.unusedVariables false
set_option linter.unusedSimpArgs false
set_option maxRecDepth 20000
theorem Mo : Has Try.prog 15 := ⟨fun args w => Ak Try.func15 rfl (by decide) args w⟩
noncomputable def CW (p0 : (Int × (List (Int × Int × Int × Int × Int × Int)) × (List (Int × Int))) × (List (Int × Int × Int × (Int × Int × Int × Int) × Int × Int))) : (Int × Int) → Option ((Int × Int) ⊕ Int)
  | (x3, x4) => (if x4 < (p0.2.length : Int) then ((ix p0.2 x4).bind fun x6 => (if x6.2.2.2.2.2 < x3 then (ix p0.2 x4).bind fun x7 => some x7.2.2.2.2.2 else some x3)).bind fun x5 => some (.inl (x5, AD (x4 + 1))) else some (.inr x3))
noncomputable def Cf (p0 : (Int × (List (Int × Int × Int × Int × Int × Int)) × (List (Int × Int))) × (List (Int × Int × Int × (Int × Int × Int × Int) × Int × Int))) : Option Int := (if (p0.2.length : Int) = 0 then some (-1) else (ix p0.2 0).bind fun x1 => (AU (CW p0) (x1.2.2.2.2.2, 0)).bind fun x2 => some x2)
theorem DU (Y : Nat → Prop) (w0 : World) (q_p0 : Nat) (v1 : Value) (v2 : Value) (v3 : Value) (p0 : (Int × (List (Int × Int × Int × Int × Int × Int)) × (List (Int × Int))) × (List (Int × Int × Int × (Int × Int × Int × Int) × Int × Int))) (r : Int) (H : Cf p0 = some r) (h_v1 : Sl w0 (NX []) A6 v1 p0.1.2.1) (h_v2 : Sl w0 (NX []) Bg v2 p0.1.2.2) (h_v3 : Sl w0 (NX []) BM v3 p0.2) (a_q_p0 : At ⟨Y, [], w0⟩ q_p0 0 [.int .i64 p0.1.1, v1, v2, v3]) :
    Calls Try.prog 13 #[.pointer (some ⟨q_p0, 0, none⟩)] w0 fun e w' => e = .returned (.int .i64 r) ∧ Below w0.heap.size w0 w' := by
 refine enter Try.func13 Aa Try.ntmps13 Aa fun a F => ?_
 have W := Stw.start Y w0
 unfold Cf at H
 refine Ai (Ab ?_)
 refine ls F W Aa (Af F Aa).q fun a w F W => ?_
 refine Ae (Ac (Ai (Ai (Ab ?_))))
 refine ls F W Aa (Ad F Aa).q fun a w F W => ?_
 refine ls F W Aa (AM F Aa).q fun a w F W => ?_
 refine ls F W Aa (Ag Ep Aa Aa Aa E2 F Aa 3 Aa).q fun a w F W => ?_
 refine ls F W Aa (CD (y := v3) (j := 3) F Aa (Nat.zero_add _).symm a_q_p0 E2 Aa).q fun a w F W => ?_
 refine ls F W Aa (Cg (r := BM) (l := p0.2) Ho Aa F Aa (Av h_v3)).q fun a w F W => ?_
 refine ls F W Aa (BQ F Aa Aa).q fun a w F W => ?_
 refine Ae (Ac ?_)
 refine Ay F Aa (fun hb => ?_) fun hb => ?_
 ·
  have H := A8 (BI hb) H
  rw [hb] at F
  clear hb
  refine Ai (Ab ?_)
  refine ls F W Aa (Af F Aa).q fun a w F W => ?_
  refine Ae (Ac (AB (AQ ?_)))
  have H := A3 H
  subst H
  refine Bh (.inl Aa) F W Aa (Aq F Aa) ?_
  exact ⟨rfl, W.done⟩
 have H := A9 (BH hb) H
 rw [hb] at F
 clear hb
 refine Ap (Ac (Ai (Ab ?_)))
 refine ls F W Aa (Ad F Aa).q fun a w F W => ?_
 refine ls F W Aa (AM F Aa).q fun a w F W => ?_
 refine ls F W Aa (Ag Ep Aa Aa Aa E2 F Aa 3 Aa).q fun a w F W => ?_
 refine ls F W Aa (CD (y := v3) (j := 3) F Aa (Nat.zero_add _).symm a_q_p0 E2 Aa).q fun a w F W => ?_
 obtain ⟨x1, h1, H⟩ := An H
 refine ls F W Aa (Be (r := BM) IM F Aa Aa (Av h_v3) h1).q fun a w F W => ?_
 refine ls F W Aa (Ag FW Aa Aa Aa T3 F Aa (D8 v3 + (0 : Int).toNat * 9 + 8) Aa).q fun a w F W => ?_
 refine ls F W Aa (AE (y := Value.int .i64 x1.2.2.2.2.2) (j := 8) (i := 0) F Aa Aa (Av h_v3) h1 JZ.to T3 Aa).q fun a w F W => ?_
 refine ls F W Aa (Af F Aa).q fun a w F W => ?_
 refine Ae (Ac ?_)
 obtain ⟨o1, G1, K1⟩ := An H
 refine AN (fun a w => ∃ x2 : Int, some (x2) = some o1 ∧ Fr 46 [] [(2, .int .i64 0), (3, .int .i64 x2)] a ∧ Stw ⟨Y, [], w0⟩ [] [] w) ?_ ?_
 ·
  have H := G1
  clear G1 K1
  refine Ai (Ab ?_)
  refine ls F W Aa (Af F Aa).q fun a w F W => ?_
  refine Ae (Ac (Ax ?_))
  refine BA H (fun s a w => Fr 46 [] [(0, .pointer (some ⟨q_p0, 0, none⟩)), (2, .int .i64 0), (3, .int .i64 s.1), (4, .int .i64 s.2)] a ∧ Stw ⟨Y, [], w0⟩ [] [] w) ⟨F.re ⟨rfl, Aa, Aa, Aa, trivial⟩, W⟩ fun s o a w H L2 hR => ?_
  obtain ⟨x3, x4⟩ := s
  obtain ⟨F, W⟩ := hR
  have F : Fr 46 [] [(0, .pointer (some ⟨q_p0, 0, none⟩)), (2, .int .i64 0), (3, .int .i64 x3), (4, .int .i64 x4)] a := F
  have W : Stw ⟨Y, [], w0⟩ [] [] w := W
  rw [CW] at H
  refine Ai (Ai (Ab ?_))
  iterate 2 refine ls F W Aa (Ad F Aa).q fun a w F W => ?_
  refine ls F W Aa (AM F Aa).q fun a w F W => ?_
  refine ls F W Aa (Ag Ep Aa Aa Aa E2 F Aa 3 Aa).q fun a w F W => ?_
  refine ls F W Aa (CD (y := v3) (j := 3) F Aa (Nat.zero_add _).symm a_q_p0 E2 Aa).q fun a w F W => ?_
  refine ls F W Aa (Cg (r := BM) (l := p0.2) Ho Aa F Aa (Av h_v3)).q fun a w F W => ?_
  refine ls F W Aa (BD F Aa Aa).q fun a w F W => ?_
  refine Ae (Ac ?_)
  refine Ay F Aa (fun hb => ?_) fun hb => ?_
  ·
   have H := A8 (BI hb) H
   rw [hb] at F
   clear hb
   refine Ap (Ac ?_)
   obtain ⟨o3, G3, K3⟩ := An H
   refine AN (fun a w => ∃ x5 : Int, some (x5) = some o3 ∧ Fr 46 [] [(0, .pointer (some ⟨q_p0, 0, none⟩)), (2, .int .i64 0), (3, .int .i64 x5), (4, .int .i64 x4)] a ∧ Stw ⟨Y, [], w0⟩ [] [] w) ?_ ?_
   ·
    have H := G3
    clear G3 K3
    refine Ax (Ai (Ab ?_))
    refine ls F W Aa (Ad F Aa).q fun a w F W => ?_
    refine ls F W Aa (AM F Aa).q fun a w F W => ?_
    refine ls F W Aa (Ag Ep Aa Aa Aa E2 F Aa 3 Aa).q fun a w F W => ?_
    refine ls F W Aa (CD (y := v3) (j := 3) F Aa (Nat.zero_add _).symm a_q_p0 E2 Aa).q fun a w F W => ?_
    refine ls F W Aa (Ad F Aa).q fun a w F W => ?_
    obtain ⟨x6, h2, H⟩ := An H
    refine ls F W Aa (Be (r := BM) IM F Aa Aa (Av h_v3) h2).q fun a w F W => ?_
    refine ls F W Aa (Ag FW Aa Aa Aa T3 F Aa (D8 v3 + (x4).toNat * 9 + 8) Aa).q fun a w F W => ?_
    refine ls F W Aa (AE (y := Value.int .i64 x6.2.2.2.2.2) (j := 8) (i := x4) F Aa Aa (Av h_v3) h2 JZ.to T3 Aa).q fun a w F W => ?_
    refine ls F W Aa (Ad F Aa).q fun a w F W => ?_
    refine ls F W Aa (BD F Aa Aa).q fun a w F W => ?_
    refine Ae (Ac ?_)
    refine Ay F Aa (fun hb => ?_) fun hb => ?_
    ·
     have H := A8 (BI hb) H
     rw [hb] at F
     clear hb
     refine Ab ?_
     refine ls F W Aa (Ad F Aa).q fun a w F W => ?_
     refine ls F W Aa (AM F Aa).q fun a w F W => ?_
     refine ls F W Aa (Ag Ep Aa Aa Aa E2 F Aa 3 Aa).q fun a w F W => ?_
     refine ls F W Aa (CD (y := v3) (j := 3) F Aa (Nat.zero_add _).symm a_q_p0 E2 Aa).q fun a w F W => ?_
     refine ls F W Aa (Ad F Aa).q fun a w F W => ?_
     obtain ⟨x7, h3, H⟩ := An H
     refine ls F W Aa (Be (r := BM) IM F Aa Aa (Av h_v3) h3).q fun a w F W => ?_
     refine ls F W Aa (Ag FW Aa Aa Aa T3 F Aa (D8 v3 + (x4).toNat * 9 + 8) Aa).q fun a w F W => ?_
     refine ls F W Aa (AE (y := Value.int .i64 x7.2.2.2.2.2) (j := 8) (i := x4) F Aa Aa (Av h_v3) h3 JZ.to T3 Aa).q fun a w F W => ?_
     refine ls F W Aa (Af F Aa).q fun a w F W => ?_
     refine Ae (AV (Ac ?_))
     exact ⟨_, H, F.re ⟨rfl, Aa, Aa, Aa, trivial⟩, W⟩
    have H := A9 (BH hb) H
    rw [hb] at F
    clear hb
    refine Ap (AV (Ac ?_))
    exact ⟨_, H, F.re ⟨rfl, Aa, Aa, Aa, trivial⟩, W⟩
   rintro a w ⟨x5, hj, F, W⟩
   have hj := A3 hj
   subst hj
   have H := K3
   clear G3 K3
   refine Ab ?_
   refine ls F W Aa (Ad F Aa).q fun a w F W => ?_
   refine ls F W Aa (BN F Aa Aa Aa).q fun a w F W => ?_
   refine ls F W Aa (Af F Aa).q fun a w F W => ?_
   refine Ae (Ac ?_)
   exact ⟨_, H, F.re ⟨rfl, Aa, Aa, Aa, trivial⟩, W⟩
  have H := A9 (BH hb) H
  rw [hb] at F
  clear hb
  refine Bz ?_
  iterate 2 refine B9 ?_
  refine BC (Ac ?_)
  have H := L2 _ H
  exact ⟨_, H, F.re ⟨rfl, Aa, trivial⟩, W⟩
 rintro a w ⟨x2, hj, F, W⟩
 have hj := A3 hj
 subst hj
 have H := K1
 clear G1 K1
 refine Ai (Ab ?_)
 refine ls F W Aa (Ad F Aa).q fun a w F W => ?_
 refine ls F W Aa (Af F Aa).q fun a w F W => ?_
 refine Ae (Ac (AB ?_))
 have H := A3 H
 subst H
 refine Bh (.inl Aa) F W Aa (Aq F Aa) ?_
 exact ⟨rfl, W.done⟩
theorem LX : Has Try.prog 13 := ⟨fun args w => Ak Try.func13 rfl (by decide) args w⟩
noncomputable def CE (x10 : List (Int × Int × Int × (Int × Int × Int × Int) × Int × Int)) (x13 : Int) : (Int × Int) → Option ((Int × Int) ⊕ Int)
  | (x15, x16) => (if 0 ≤ x16 then ((ix x10 x16).bind fun x18 => (if x18.2.2.2.2.2 = x13 then some x16 else some x15)).bind fun x17 => some (.inl (x17, AD (x16 - 1))) else some (.inr x15))
noncomputable def B8 (p1 : Int) : ((List (Int × Int × Int × (Int × Int × Int × Int) × Int × Int)) × Int × (List (Int × Int × Int × Int × Int × Int)) × (List (Int × Int)) × (List (Int × Int × Int × (Int × Int × Int × Int) × Int × Int))) → Option (((List (Int × Int × Int × (Int × Int × Int × Int) × Int × Int)) × Int × (List (Int × Int × Int × Int × Int × Int)) × (List (Int × Int)) × (List (Int × Int × Int × (Int × Int × Int × Int) × Int × Int))) ⊕ ((List (Int × Int × Int × (Int × Int × Int × Int) × Int × Int)) × Int × (List (Int × Int × Int × Int × Int × Int)) × (List (Int × Int)) × (List (Int × Int × Int × (Int × Int × Int × Int) × Int × Int))))
  | (x6, x7, x8, x9, x10) => (if 0 < (x10.length : Int) then (Cf ((x7, x8, x9), x10)).bind fun x12 => some (decide (x12 ≤ p1)) else some false).bind fun x11 => (if x11 = true then (Cf ((x7, x8, x9), x10)).bind fun x13 => (AU (CE x10 x13) ((-1), AD ((x10.length : Int) - 1))).bind fun x14 => (ix x10 x14).bind fun x19 => (app x6 ([x19] : List (Int × Int × Int × (Int × Int × Int × Int) × Int × Int))).bind fun x20 => (Ce ((x7, x8, x9), x10) x14).bind fun x21 => some (.inl (x20, x21.1.1, x21.1.2.1, x21.1.2.2, x21.2)) else some (.inr (x6, x7, x8, x9, x10)))
noncomputable def Dn (p0 : (Int × (List (Int × Int × Int × Int × Int × Int)) × (List (Int × Int))) × (List (Int × Int × Int × (Int × Int × Int × Int) × Int × Int))) (p1 : Int) : Option ((List (Int × Int × Int × (Int × Int × Int × Int) × Int × Int)) × ((Int × (List (Int × Int × Int × Int × Int × Int)) × (List (Int × Int))) × (List (Int × Int × Int × (Int × Int × Int × Int) × Int × Int)))) := (AU (B8 p1) ([], p0.1.1, p0.1.2.1, p0.1.2.2, p0.2)).bind fun (x1, x2, x3, x4, x5) => some (x1, ((x2, x3, x4), x5))
theorem GB (Y : Nat → Prop) (X : List Nat) (w0 : World) (q_p0 : Nat) (v1 : Value) (v2 : Value) (v3 : Value) (p0 : (Int × (List (Int × Int × Int × Int × Int × Int)) × (List (Int × Int))) × (List (Int × Int × Int × (Int × Int × Int × Int) × Int × Int))) (p1 : Int) (r : (List (Int × Int × Int × (Int × Int × Int × Int) × Int × Int)) × ((Int × (List (Int × Int × Int × Int × Int × Int)) × (List (Int × Int))) × (List (Int × Int × Int × (Int × Int × Int × Int) × Int × Int)))) (H : Dn p0 p1 = some r) (hL : Stw ⟨Y, X, w0⟩ [(q_p0, [.int .i64 p0.1.1, v1, v2, v3])] [AC v1 A6 p0.1.2.1, AC v2 Bg p0.1.2.2, row v3 64 BM p0.2] w0) :
    Calls Try.prog 26 #[.pointer (some ⟨q_p0, 0, none⟩), .int .i64 p1] w0 fun e w' => ∃ x : Value × Value × Value × Value, e = .returned (x.1) ∧ Stw ⟨Y, X, w0⟩ [(q_p0, [.int .i64 r.2.1.1, x.2.1, x.2.2.1, x.2.2.2])] [AC (x.2.1) A6 r.2.1.2.1, AC (x.2.2.1) Bg r.2.1.2.2, row (x.2.2.2) 64 BM r.2.2, row (x.1) 64 BM r.1] w' := by
 refine enter Try.func26 Aa Try.ntmps26 Aa fun a F => ?_
 have W := hL
 unfold Dn at H
 refine Ai (Ab ?_)
 refine ls F W Aa (Af F Aa).q fun a w F W => ?_
 refine Ae (Ac (Ai (Ab ?_)))
 refine ls F W Aa (Af F Aa).q fun a w F W => ?_
 refine Ae (Ac ?_)
 obtain ⟨o1, G1, K1⟩ := An H
 refine AN (fun a w => ∃ x1 : List (Int × Int × Int × (Int × Int × Int × Int) × Int × Int), ∃ x2 : Int, ∃ x3 : List (Int × Int × Int × Int × Int × Int), ∃ x4 : List (Int × Int), ∃ x5 : List (Int × Int × Int × (Int × Int × Int × Int) × Int × Int), ∃ v4 : Value, ∃ v5 : Value, ∃ v6 : Value, ∃ v7 : Value, some ((x1, x2, x3, x4, x5)) = some o1 ∧ Fr 58 [] [(4, .slice none 0 0), (5, v4)] a ∧ Stw ⟨Y, X, w0⟩ [(q_p0, [.int .i64 x2, v5, v6, v7])] [row v4 64 BM x1, AC v5 A6 x3, AC v6 Bg x4, row v7 64 BM x5] w) ?_ ?_
 ·
  have H := G1
  clear G1 K1
  refine Ax ?_
  have W := W.nilRow 64 BM
  have W := W.frontZ (i := 3) Aa Aa
  have W := W.frontZ (i := 3) Aa Aa
  have W := W.frontZ (i := 3) Aa Aa
  have W := W.frontZ (i := 3) Aa Aa
  refine BA H (fun s a w => ∃ v8 : Value, ∃ v9 : Value, ∃ v10 : Value, ∃ v11 : Value, Fr 58 [] [(0, .pointer (some ⟨q_p0, 0, none⟩)), (1, .int .i64 p1), (4, .slice none 0 0), (5, v8)] a ∧ Stw ⟨Y, X, w0⟩ [(q_p0, [.int .i64 s.2.1, v9, v10, v11])] [row v8 64 BM s.1, AC v9 A6 s.2.2.1, AC v10 Bg s.2.2.2.1, row v11 64 BM s.2.2.2.2] w) ⟨(Value.slice none 0 0), (v1), (v2), (v3), F.re ⟨rfl, Aa, Aa, Aa, trivial⟩, W⟩ fun s o a w H L2 hR => ?_
  obtain ⟨x6, x7, x8, x9, x10⟩ := s
  obtain ⟨v8, v9, v10, v11, F, W⟩ := hR
  have F : Fr 58 [] [(0, .pointer (some ⟨q_p0, 0, none⟩)), (1, .int .i64 p1), (4, .slice none 0 0), (5, v8)] a := F
  have W : Stw ⟨Y, X, w0⟩ [(q_p0, [.int .i64 x7, v9, v10, v11])] [row v8 64 BM x6, AC v9 A6 x8, AC v10 Bg x9, row v11 64 BM x10] w := W
  rw [B8] at H
  refine Ai ?_
  obtain ⟨o3, G3, K3⟩ := An H
  refine AN (fun a w => ∃ x11 : Bool, some (x11) = some o3 ∧ Fr 58 [] [(0, .pointer (some ⟨q_p0, 0, none⟩)), (1, .int .i64 p1), (4, .slice none 0 0), (5, v8), (20, .bool x11)] a ∧ Stw ⟨Y, X, w0⟩ [(q_p0, [.int .i64 x7, v9, v10, v11])] [row v8 64 BM x6, AC v9 A6 x8, AC v10 Bg x9, row v11 64 BM x10] w) ?_ ?_
  ·
   have H := G3
   clear G3 K3
   refine Ab ?_
   refine ls F W Aa (Ad F Aa).q fun a w F W => ?_
   refine ls F W Aa (AM F Aa).q fun a w F W => ?_
   refine ls F W Aa (Ag Ep Aa Aa Aa E2 F Aa 3 Aa).q fun a w F W => ?_
   refine ls F W Aa (Al (v := v11) 0 F Aa Aa E2 Aa).q fun a w F W => ?_
   refine ls F W Aa (Cg (r := BM) (l := x10) Ho Aa F Aa (AA 3 Aa)).q fun a w F W => ?_
   refine ls F W Aa (DF F Aa Aa).q fun a w F W => ?_
   refine ls F W Aa (Ad F Aa).q fun a w F W => ?_
   rcases Bool.eq_false_or_eq_true (decide (0 < (x10.length : Int))) with hb | hb
   ·
    have H := A8 (BI hb) H
    rw [hb] at F
    clear hb
    refine Az F W (Ah F Aa Aa Aa Aa) Aa (Am Aa) (Ad F Aa).q fun a w F W => ?_
    refine HD (Ah F Aa Aa Aa Aa) ?_
    obtain ⟨x12, h1, H⟩ := An H
    refine ls F W Aa (Bv (v := Value.int .i64 x12) F LX Aa (fun w W => DU any w q_p0 (v9) (v10) (v11) ((x7, x8, x9), x10) _ h1 (((Br 1 Aa) : CY _ _ _ _ _ _) w W).nx (((Br 2 Aa) : CY _ _ _ _ _ _) w W).nx (((AA 3 Aa) : CY _ _ _ _ _ _) w W).nx (GD W 0 Aa))) fun a w F W => ?_
    refine Az F W (Ah F Aa Aa Aa Aa) Aa (Am Aa) (Ad F Aa).q fun a w F W => ?_
    refine Az F W (Ah F Aa Aa Aa Aa) Aa (Am Aa) (Hx F Aa Aa).q fun a w F W => ?_
    refine ls F W Aa (Ao F Aa Aa Aa).q fun a w F W => ?_
    refine Ae (Ac ?_)
    have W := W.frontZ (i := 3) Aa Aa
    have W := W.frontZ (i := 3) Aa Aa
    have W := W.frontZ (i := 3) Aa Aa
    have W := W.frontZ (i := 3) Aa Aa
    exact ⟨_, H, F.re ⟨rfl, Aa, Aa, Aa, Aa, trivial⟩, W⟩
   have H := A9 (BH hb) H
   rw [hb] at F
   clear hb
   iterate 4 refine BX F Aa Aa Aa Aa Aa Aa Aa fun a F => ?_
   refine ls F W Aa (Aj F Aa Aa Aa).q fun a w F W => ?_
   refine Ae (Ac ?_)
   have W := W.frontZ (i := 3) Aa Aa
   have W := W.frontZ (i := 3) Aa Aa
   have W := W.frontZ (i := 3) Aa Aa
   have W := W.frontZ (i := 3) Aa Aa
   exact ⟨_, H, F.re ⟨rfl, Aa, Aa, Aa, Aa, trivial⟩, W⟩
  rintro a w ⟨x11, hj, F, W⟩
  have hj := A3 hj
  subst hj
  have H := K3
  clear G3 K3
  refine Ay F Aa (fun hb => ?_) fun hb => ?_
  ·
   have H := A8 hb H
   rw [hb] at F
   clear hb
   refine Ap (Ac (Ax (Ai (Ab ?_))))
   refine ls F W Aa (Ad F Aa).q fun a w F W => ?_
   obtain ⟨x13, h2, H⟩ := An H
   refine ls F W Aa (Bv (v := Value.int .i64 x13) F LX Aa (fun w W => DU any w q_p0 (v9) (v10) (v11) ((x7, x8, x9), x10) _ h2 (((Br 1 Aa) : CY _ _ _ _ _ _) w W).nx (((Br 2 Aa) : CY _ _ _ _ _ _) w W).nx (((AA 3 Aa) : CY _ _ _ _ _ _) w W).nx (GD W 0 Aa))) fun a w F W => ?_
   iterate 2 refine ls F W Aa (Af F Aa).q fun a w F W => ?_
   refine Ae (Ac ?_)
   obtain ⟨o4, G4, K4⟩ := An H
   refine AN (fun a w => ∃ x14 : Int, some (x14) = some o4 ∧ Fr 58 [] [(0, .pointer (some ⟨q_p0, 0, none⟩)), (1, .int .i64 p1), (4, .slice none 0 0), (5, v8), (7, .int .i64 x14)] a ∧ Stw ⟨Y, X, w0⟩ [(q_p0, [.int .i64 x7, v9, v10, v11])] [row v8 64 BM x6, AC v9 A6 x8, AC v10 Bg x9, row v11 64 BM x10] w) ?_ ?_
   ·
    have H := G4
    clear G4 K4
    refine Ai (Ab ?_)
    refine ls F W Aa (Ad F Aa).q fun a w F W => ?_
    refine ls F W Aa (AM F Aa).q fun a w F W => ?_
    refine ls F W Aa (Ag Ep Aa Aa Aa E2 F Aa 3 Aa).q fun a w F W => ?_
    refine ls F W Aa (Al (v := v11) 0 F Aa Aa E2 Aa).q fun a w F W => ?_
    refine ls F W Aa (Cg (r := BM) (l := x10) Ho Aa F Aa (AA 3 Aa)).q fun a w F W => ?_
    refine ls F W Aa (CS F Aa Aa Aa).q fun a w F W => ?_
    refine ls F W Aa (Af F Aa).q fun a w F W => ?_
    refine Ae (Ac (Ax ?_))
    have W := W.frontZ (i := 3) Aa Aa
    have W := W.frontZ (i := 3) Aa Aa
    have W := W.frontZ (i := 3) Aa Aa
    have W := W.frontZ (i := 3) Aa Aa
    refine BA H (fun s a w => Fr 58 [] [(0, .pointer (some ⟨q_p0, 0, none⟩)), (1, .int .i64 p1), (4, .slice none 0 0), (5, v8), (6, .int .i64 x13), (7, .int .i64 s.1), (8, .int .i64 s.2)] a ∧ Stw ⟨Y, X, w0⟩ [(q_p0, [.int .i64 x7, v9, v10, v11])] [row v8 64 BM x6, AC v9 A6 x8, AC v10 Bg x9, row v11 64 BM x10] w) ⟨F.re ⟨rfl, Aa, Aa, Aa, Aa, Aa, Aa, trivial⟩, W⟩ fun s o a w H L5 hR => ?_
    obtain ⟨x15, x16⟩ := s
    obtain ⟨F, W⟩ := hR
    have F : Fr 58 [] [(0, .pointer (some ⟨q_p0, 0, none⟩)), (1, .int .i64 p1), (4, .slice none 0 0), (5, v8), (6, .int .i64 x13), (7, .int .i64 x15), (8, .int .i64 x16)] a := F
    have W : Stw ⟨Y, X, w0⟩ [(q_p0, [.int .i64 x7, v9, v10, v11])] [row v8 64 BM x6, AC v9 A6 x8, AC v10 Bg x9, row v11 64 BM x10] w := W
    rw [CE] at H
    refine Ai (Ai (Ab ?_))
    refine ls F W Aa (Ad F Aa).q fun a w F W => ?_
    refine ls F W Aa (FC F Aa Aa).q fun a w F W => ?_
    refine Ae (Ac ?_)
    refine Ay F Aa (fun hb => ?_) fun hb => ?_
    ·
     have H := A8 (BI hb) H
     rw [hb] at F
     clear hb
     refine Ap (Ac ?_)
     obtain ⟨o6, G6, K6⟩ := An H
     refine AN (fun a w => ∃ x17 : Int, some (x17) = some o6 ∧ Fr 58 [] [(0, .pointer (some ⟨q_p0, 0, none⟩)), (1, .int .i64 p1), (4, .slice none 0 0), (5, v8), (6, .int .i64 x13), (7, .int .i64 x17), (8, .int .i64 x16)] a ∧ Stw ⟨Y, X, w0⟩ [(q_p0, [.int .i64 x7, v9, v10, v11])] [row v8 64 BM x6, AC v9 A6 x8, AC v10 Bg x9, row v11 64 BM x10] w) ?_ ?_
     ·
      have H := G6
      clear G6 K6
      refine Ax (Ai (Ab ?_))
      refine ls F W Aa (Ad F Aa).q fun a w F W => ?_
      refine ls F W Aa (AM F Aa).q fun a w F W => ?_
      refine ls F W Aa (Ag Ep Aa Aa Aa E2 F Aa 3 Aa).q fun a w F W => ?_
      refine ls F W Aa (Al (v := v11) 0 F Aa Aa E2 Aa).q fun a w F W => ?_
      refine ls F W Aa (Ad F Aa).q fun a w F W => ?_
      obtain ⟨x18, h3, H⟩ := An H
      refine ls F W Aa (Be (r := BM) IM F Aa Aa (AA 3 Aa) h3).q fun a w F W => ?_
      refine ls F W Aa (Ag FW Aa Aa Aa T3 F Aa (D8 v11 + (x16).toNat * 9 + 8) Aa).q fun a w F W => ?_
      refine ls F W Aa (AE (y := Value.int .i64 x18.2.2.2.2.2) (j := 8) (i := x16) F Aa Aa (AA 3 Aa) h3 JZ.to T3 Aa).q fun a w F W => ?_
      refine ls F W Aa (Ad F Aa).q fun a w F W => ?_
      refine ls F W Aa (BQ F Aa Aa).q fun a w F W => ?_
      refine Ae (Ac ?_)
      refine Ay F Aa (fun hb => ?_) fun hb => ?_
      ·
       have H := A8 (BI hb) H
       rw [hb] at F
       clear hb
       refine Ab ?_
       refine ls F W Aa (Ad F Aa).q fun a w F W => ?_
       refine ls F W Aa (Af F Aa).q fun a w F W => ?_
       refine Ae (AV (Ac ?_))
       have W := W.frontZ (i := 3) Aa Aa
       have W := W.frontZ (i := 3) Aa Aa
       have W := W.frontZ (i := 3) Aa Aa
       have W := W.frontZ (i := 3) Aa Aa
       exact ⟨_, H, F.re ⟨rfl, Aa, Aa, Aa, Aa, Aa, Aa, trivial⟩, W⟩
      have H := A9 (BH hb) H
      rw [hb] at F
      clear hb
      refine Ap (AV (Ac ?_))
      have W := W.frontZ (i := 3) Aa Aa
      have W := W.frontZ (i := 3) Aa Aa
      have W := W.frontZ (i := 3) Aa Aa
      have W := W.frontZ (i := 3) Aa Aa
      exact ⟨_, H, F.re ⟨rfl, Aa, Aa, Aa, Aa, Aa, Aa, trivial⟩, W⟩
     rintro a w ⟨x17, hj, F, W⟩
     have hj := A3 hj
     subst hj
     have H := K6
     clear G6 K6
     refine Ab ?_
     refine ls F W Aa (Ad F Aa).q fun a w F W => ?_
     refine ls F W Aa (CS F Aa Aa Aa).q fun a w F W => ?_
     refine ls F W Aa (Af F Aa).q fun a w F W => ?_
     refine Ae (Ac ?_)
     have W := W.frontZ (i := 3) Aa Aa
     have W := W.frontZ (i := 3) Aa Aa
     have W := W.frontZ (i := 3) Aa Aa
     have W := W.frontZ (i := 3) Aa Aa
     exact ⟨_, H, F.re ⟨rfl, Aa, Aa, Aa, Aa, Aa, Aa, trivial⟩, W⟩
    have H := A9 (BH hb) H
    rw [hb] at F
    clear hb
    refine Bz ?_
    iterate 2 refine B9 ?_
    refine BC (Ac ?_)
    have W := W.frontZ (i := 3) Aa Aa
    have W := W.frontZ (i := 3) Aa Aa
    have W := W.frontZ (i := 3) Aa Aa
    have W := W.frontZ (i := 3) Aa Aa
    have H := L5 _ H
    exact ⟨_, H, F.re ⟨rfl, Aa, Aa, Aa, Aa, trivial⟩, W⟩
   rintro a w ⟨x14, hj, F, W⟩
   have hj := A3 hj
   subst hj
   have H := K4
   clear G4 K4
   refine Ai (Ab ?_)
   iterate 2 refine ls F W Aa (Ad F Aa).q fun a w F W => ?_
   refine ls F W Aa (AM F Aa).q fun a w F W => ?_
   refine ls F W Aa (Ag Ep Aa Aa Aa E2 F Aa 3 Aa).q fun a w F W => ?_
   refine ls F W Aa (Al (v := v11) 0 F Aa Aa E2 Aa).q fun a w F W => ?_
   refine ls F W Aa (Ad F Aa).q fun a w F W => ?_
   obtain ⟨x19, h4, H⟩ := An H
   refine ls F W Aa (Be (r := BM) IM F Aa Aa (AA 3 Aa) h4).q fun a w F W => ?_
   refine ls F W Aa (AE (y := Value.agg #[.int .i64 x19.1, .int .i64 x19.2.1, .int .i64 x19.2.2.1, .int .i64 x19.2.2.2.1.1, .int .i64 x19.2.2.2.1.2.1, .int .i64 x19.2.2.2.1.2.2.1, .int .i64 x19.2.2.2.1.2.2.2, .int .i64 x19.2.2.2.2.1, .int .i64 x19.2.2.2.2.2]) (j := 0) (i := x14) F Aa Aa (AA 3 Aa) h4 JZ.to GP Aa).q fun a w F W => ?_
   refine Fy (z := Value.agg #[.int .i64 0, .int .i64 0, .int .i64 0, .int .i64 0, .int .i64 0, .int .i64 0, .int .i64 0, .int .i64 0, .int .i64 0]) (cs := (Dl x19)) BM ([x19] : List (Int × Int × Int × (Int × Int × Int × Int) × Int × Int)) F W Aa IM J3 Aa Aa Aa Aa Aa Aa (JZ.repL _ _ ([x19] : List (Int × Int × Int × (Int × Int × Int × Int) × Int × Int))) fun v12 a w F W => ?_
   obtain ⟨x20, h5, H⟩ := An H
   refine DO (r := BM) (i := 1) F W Aa IM Aa Aa Aa Aa (Ef W 0 Aa) h5 Aa fun v13 a w F W => ?_
   have W : Stw ⟨Y, X, w0⟩ [(q_p0, [.int .i64 x7, v9, v10, v11])] [row v13 64 BM x20, row v12 64 BM ([x19] : List (Int × Int × Int × (Int × Int × Int × Int) × Int × Int)), AC v9 A6 x8, AC v10 Bg x9, row v11 64 BM x10] w := W
   refine ls F W Aa (Af F Aa).q fun a w F W => ?_
   refine Ae (Ac (Ab ?_))
   iterate 2 refine ls F W Aa (Ad F Aa).q fun a w F W => ?_
   obtain ⟨x21, h6, H⟩ := An H
   have W := W.frontZ (i := 4) Aa Aa
   have W := W.frontZ (i := 4) Aa Aa
   have W := W.frontZ (i := 4) Aa Aa
   refine Bq (Ml := [(q_p0, [.int .i64 x7, v9, v10, v11])]) (Zl := [AC v9 A6 x8, AC v10 Bg x9, row v11 64 BM x10]) (M := []) (Z := [row v13 64 BM x20, row v12 64 BM ([x19] : List (Int × Int × Int × (Int × Int × Int × Int) × Int × Int))]) (β := Value × Value × Value) (rv := fun x => .tuple #[]) (MM := fun x => [(q_p0, [.int .i64 x21.1.1, x.1, x.2.1, x.2.2])]) (ZZ := fun x => [AC x.1 A6 x21.1.2.1, AC x.2.1 Bg x21.1.2.2, row x.2.2 64 BM x21.2]) F W Mk Aa Aa (fun hL => Ea _ _ w q_p0 (v9) (v10) (v11) ((x7, x8, x9), x10) x14 _ h6 hL) fun x a w F W => ?_
   obtain ⟨v14, v15, v16⟩ := x
   have W : Stw ⟨Y, X, w0⟩ [(q_p0, [.int .i64 x21.1.1, v14, v15, v16])] [AC v14 A6 x21.1.2.1, AC v15 Bg x21.1.2.2, row v16 64 BM x21.2, row v13 64 BM x20, row v12 64 BM ([x19] : List (Int × Int × Int × (Int × Int × Int × Int) × Int × Int))] w := W
   refine Ae (AV (Ac ?_))
   have W := W.frontZ (i := 2) Aa Aa
   have W := W.frontZ (i := 2) Aa Aa
   have W := W.frontZ (i := 2) Aa Aa
   have W := W.frontZ (i := 3) Aa Aa
   have W := W.sub (M' := [(q_p0, [.int .i64 x21.1.1, v14, v15, v16])]) (Z' := [row v13 64 BM x20, AC v14 A6 x21.1.2.1, AC v15 Bg x21.1.2.2, row v16 64 BM x21.2]) (List.Sublist.refl _) (List.Sublist.cons_cons _ (List.Sublist.cons_cons _ (List.Sublist.cons_cons _ (List.Sublist.cons_cons _ (List.nil_sublist _)))))
   exact ⟨_, H, (v13), (v14), (v15), (v16), F.re ⟨rfl, Aa, Aa, Aa, trivial⟩, W⟩
  have H := A9 (by rw [hb]; decide) H
  rw [hb] at F
  clear hb
  refine Bz ?_
  iterate 2 refine B9 ?_
  refine BC (Ac ?_)
  have W := W.frontZ (i := 3) Aa Aa
  have W := W.frontZ (i := 3) Aa Aa
  have W := W.frontZ (i := 3) Aa Aa
  have W := W.frontZ (i := 3) Aa Aa
  have H := L2 _ H
  exact ⟨_, _, _, _, _, (v8), (v9), (v10), (v11), H, F.re ⟨rfl, Aa, trivial⟩, W⟩
 rintro a w ⟨x1, x2, x3, x4, x5, v4, v5, v6, v7, hj, F, W⟩
 have hj := A3 hj
 subst hj
 have H := K1
 clear G1 K1
 refine Ai (Ab ?_)
 refine ls F W Aa (Ad F Aa).q fun a w F W => ?_
 refine ls F W Aa (Af F Aa).q fun a w F W => ?_
 refine Ae (Ac (AB ?_))
 have H := A3 H
 subst H
 refine Bh (.inl Aa) F W Aa (Aq F Aa) ?_
 have W := W.frontZ (i := 3) Aa Aa
 have W := W.frontZ (i := 3) Aa Aa
 have W := W.frontZ (i := 3) Aa Aa
 exact ⟨((v4), (v5), (v6), (v7)), Aa, W⟩
theorem Na : Has Try.prog 26 := ⟨fun args w => Ak Try.func26 rfl (by decide) args w⟩
noncomputable def EA (p0 : List (Int × Int × Int × (Int × Int × Int × Int) × Int × Int)) (p1 : List (Int × Int × Int × (Int × Int × Int × Int) × Int × Int)) : Int → Option (Int ⊕ (Unit ⊕ Bool))
  | x1 => (if x1 < (p0.length : Int) then (ix p0 x1).bind fun x2 => (ix p1 x1).bind fun x3 => (if (!(CB x2 x3)) = true then some (.inr (.inr false)) else some (.inl (AD (x1 + 1)))) else some (.inr (.inl ())))
noncomputable def E4 (p0 : List (Int × Int × Int × (Int × Int × Int × Int) × Int × Int)) (p1 : List (Int × Int × Int × (Int × Int × Int × Int) × Int × Int)) : Option Bool := (if (p0.length : Int) ≠ (p1.length : Int) then some false else Hd (AU (EA p0 p1) 0) fun _ => some true)
theorem Iy (Y : Nat → Prop) (w0 : World) (v1 : Value) (v2 : Value) (p0 : List (Int × Int × Int × (Int × Int × Int × Int) × Int × Int)) (p1 : List (Int × Int × Int × (Int × Int × Int × Int) × Int × Int)) (r : Bool) (H : E4 p0 p1 = some r) (h_v1 : Sl w0 (NX []) AF v1 p0) (h_v2 : Sl w0 (NX []) BM v2 p1) :
    Calls Try.prog 25 #[v1, v2] w0 fun e w' => e = .returned (.bool r) ∧ Below w0.heap.size w0 w' := by
 refine enter Try.func25 Aa Try.ntmps25 Aa fun a F => ?_
 have W := Stw.start Y w0
 unfold E4 at H
 refine Ai (Ab ?_)
 refine ls F W Aa (Af F Aa).q fun a w F W => ?_
 refine Ae (Ac (Ai (Ai (Ab ?_))))
 refine ls F W Aa (Ad F Aa).q fun a w F W => ?_
 refine ls F W Aa (Cg (r := AF) (l := p0) Gf Aa F Aa (Av h_v1)).q fun a w F W => ?_
 refine ls F W Aa (Ad F Aa).q fun a w F W => ?_
 refine ls F W Aa (Cg (r := BM) (l := p1) Ho Aa F Aa (Av h_v2)).q fun a w F W => ?_
 refine ls F W Aa (Fk F Aa Aa).q fun a w F W => ?_
 refine Ae (Ac ?_)
 refine Ay F Aa (fun hb => ?_) fun hb => ?_
 ·
  have H := A8 (BI hb) H
  rw [hb] at F
  clear hb
  refine Ai (Ab ?_)
  refine ls F W Aa (Af F Aa).q fun a w F W => ?_
  refine Ae (Ac (AB (AQ ?_)))
  have H := A3 H
  subst H
  refine Bh (.inl Aa) F W Aa (Aq F Aa) ?_
  exact ⟨rfl, W.done⟩
 have H := A9 (BH hb) H
 rw [hb] at F
 clear hb
 refine Ap (Ac ?_)
 obtain ⟨o1, G1, K1, L1⟩ := J2 H
 refine AN (fun a w => some (Sum.inl ()) = some o1 ∧ Fr 27 [] [(4, .bool false)] a ∧ Stw ⟨Y, [], w0⟩ [] [] w) ?_ ?_
 ·
  have H := G1
  clear G1 K1
  refine Ai (Ab ?_)
  refine ls F W Aa (Af F Aa).q fun a w F W => ?_
  refine Ae (Ac (Ax ?_))
  refine BA H (fun s a w => Fr 27 [] [(0, v1), (1, v2), (4, .bool false), (5, .int .i64 s)] a ∧ Stw ⟨Y, [], w0⟩ [] [] w) ⟨F.re ⟨rfl, Aa, Aa, Aa, trivial⟩, W⟩ fun s o a w H L2 hR => ?_
  obtain ⟨x1, rfl⟩ : ∃ x, x = s := ⟨s, rfl⟩
  obtain ⟨F, W⟩ := hR
  have F : Fr 27 [] [(0, v1), (1, v2), (4, .bool false), (5, .int .i64 x1)] a := F
  have W : Stw ⟨Y, [], w0⟩ [] [] w := W
  rw [EA] at H
  refine Ai (Ai (Ab ?_))
  iterate 2 refine ls F W Aa (Ad F Aa).q fun a w F W => ?_
  refine ls F W Aa (Cg (r := AF) (l := p0) Gf Aa F Aa (Av h_v1)).q fun a w F W => ?_
  refine ls F W Aa (BD F Aa Aa).q fun a w F W => ?_
  refine Ae (Ac ?_)
  refine Ay F Aa (fun hb => ?_) fun hb => ?_
  ·
   have H := A8 (BI hb) H
   rw [hb] at F
   clear hb
   refine Ap (Ac (Ai (Ax (Ai ?_))))
   refine CF W MO (by kernel_rfl) ?_
   iterate 2 refine qs F Aa (Ad F Aa).q fun a F => ?_
   obtain ⟨x2, h1, H⟩ := An H
   refine qs F Aa (Be (r := AF) EJ F Aa Aa (Av h_v1) h1).q fun a F => ?_
   refine qs F Aa (AE (y := Value.agg #[.int .i64 x2.1, .int .i64 x2.2.1, .int .i64 x2.2.2.1, .int .i64 x2.2.2.2.1.1, .int .i64 x2.2.2.2.1.2.1, .int .i64 x2.2.2.2.1.2.2.1, .int .i64 x2.2.2.2.1.2.2.2, .int .i64 x2.2.2.2.2.1, .int .i64 x2.2.2.2.2.2]) (j := 0) (i := x1) F Aa Aa (Av h_v1) h1 Ft.to Do Aa).q fun a F => ?_
   iterate 2 refine qs F Aa (Ad F Aa).q fun a F => ?_
   obtain ⟨x3, h2, H⟩ := An H
   refine qs F Aa (Be (r := BM) IM F Aa Aa (Av h_v2) h2).q fun a F => ?_
   refine qs F Aa (AE (y := Value.agg #[.int .i64 x3.1, .int .i64 x3.2.1, .int .i64 x3.2.2.1, .int .i64 x3.2.2.2.1.1, .int .i64 x3.2.2.2.1.2.1, .int .i64 x3.2.2.2.1.2.2.1, .int .i64 x3.2.2.2.1.2.2.2, .int .i64 x3.2.2.2.2.1, .int .i64 x3.2.2.2.2.2]) (j := 0) (i := x1) F Aa Aa (Av h_v2) h2 JZ.to GP Aa).q fun a F => ?_
   refine qs F Aa (Bv (v := Value.bool (CB x2 x3)) F L7 Aa (fun w W => FE any w x2 x3 _ Aa)) fun a F => ?_
   refine qs F Aa (EL F Aa).q fun a F => ?_
   refine Cw fun w W => ?_
   refine Ac ?_
   refine Ay F Aa (fun hb => ?_) fun hb => ?_
   ·
    have H := A8 hb H
    rw [hb] at F
    clear hb
    refine Ai (Ab ?_)
    refine ls F W Aa (Af F Aa).q fun a w F W => ?_
    refine Ae (Ac (AB (BG ?_)))
    iterate 2 refine AQ ?_
    refine BG (AQ ?_)
    have H := L2 _ H
    have H := L1 _ H
    have H := A3 H
    subst H
    refine Bh (.inl Aa) F W Aa (Aq F Aa) ?_
    exact ⟨rfl, W.done⟩
   have H := A9 (by rw [hb]; decide) H
   rw [hb] at F
   clear hb
   refine Ap (AV (Ac (Ab ?_)))
   refine ls F W Aa (Ad F Aa).q fun a w F W => ?_
   refine ls F W Aa (BN F Aa Aa Aa).q fun a w F W => ?_
   refine ls F W Aa (Af F Aa).q fun a w F W => ?_
   refine Ae (Ac ?_)
   exact ⟨_, H, F.re ⟨rfl, Aa, Aa, Aa, trivial⟩, W⟩
  have H := A9 (BH hb) H
  rw [hb] at F
  clear hb
  refine Bz ?_
  iterate 2 refine B9 ?_
  refine BC (Ac ?_)
  have H := L2 _ H
  exact ⟨H, F.re ⟨rfl, trivial⟩, W⟩
 rintro a w ⟨hj, F, W⟩
 have H := K1 _ hj
 clear hj G1 K1 L1
 refine Ai (Ab ?_)
 refine ls F W Aa (Af F Aa).q fun a w F W => ?_
 refine Ae (Ac (AB ?_))
 have H := A3 H
 subst H
 refine Bh (.inl Aa) F W Aa (Aq F Aa) ?_
 exact ⟨rfl, W.done⟩
theorem EP : type_of% Try.underlying38 := Try.underlying38
theorem MS : Has Try.prog 25 := ⟨fun args w => Ak Try.func25 rfl (by decide) args w⟩
abbrev Cb (a0 : Int × Int × Int × Int × Int × Int × (Int × Int × Int × Int)) : List Value := [.int .i64 a0.1, .int .i64 a0.2.1, .int .i64 a0.2.2.1, .int .i64 a0.2.2.2.1, .int .i64 a0.2.2.2.2.1, .int .i64 a0.2.2.2.2.2.1, .int .i64 a0.2.2.2.2.2.2.1, .int .i64 a0.2.2.2.2.2.2.2.1, .int .i64 a0.2.2.2.2.2.2.2.2.1, .int .i64 a0.2.2.2.2.2.2.2.2.2]
abbrev JV (a0 : Nat) (a1 : Int × Int × Int × Int × Int × Int × (Int × Int × Int × Int)) (a2 : Nat) (a3 : (Int × (List (Int × Int × Int × Int × Int × Int)) × (List (Int × Int))) × (List (Int × Int × Int × (Int × Int × Int × Int) × Int × Int))) (a4 : Value) (a5 : Value) (a6 : Value) : List (Nat × List Value) := [(a0, [.int .i64 a1.1, .int .i64 a1.2.1, .int .i64 a1.2.2.1, .int .i64 a1.2.2.2.1, .int .i64 a1.2.2.2.2.1, .int .i64 a1.2.2.2.2.2.1, .int .i64 a1.2.2.2.2.2.2.1, .int .i64 a1.2.2.2.2.2.2.2.1, .int .i64 a1.2.2.2.2.2.2.2.2.1, .int .i64 a1.2.2.2.2.2.2.2.2.2]), (a2, [.int .i64 a3.1.1, a4, a5, a6])]
noncomputable def Fb (p0 : (Int × (List (Int × Int × Int × Int × Int × Int)) × (List (Int × Int))) × (List (Int × Int × Int × (Int × Int × Int × Int) × Int × Int))) (p1 : (Int × (List (Int × Int × Int × Int × Int × Int)) × (List (Int × Int))) × (List (Int × Int × Int × (Int × Int × Int × Int) × Int × Int))) (p2 : Int × Int × Int × Int × Int × Int × (Int × Int × Int × Int)) : Option (Bool × ((Int × (List (Int × Int × Int × Int × Int × Int)) × (List (Int × Int))) × (List (Int × Int × Int × (Int × Int × Int × Int) × Int × Int))) × ((Int × (List (Int × Int × Int × Int × Int × Int)) × (List (Int × Int))) × (List (Int × Int × Int × (Int × Int × Int × Int) × Int × Int)))) := (if p2.1 = 0 then some true else (if p2.1 = 1 then some true else some (decide (p2.1 = 2)))).bind fun x1 => (if x1 = true then (Cn p0 p2.2.1 p2.2.2.1 p2.2.2.2.1 p2.2.2.2.2.1 p2.2.2.2.2.2.2).bind fun x2 => (Di p1 p2.2.1 p2.2.2.1 p2.2.2.2.1 p2.2.2.2.2.1 p2.2.2.2.2.2.2).bind fun x3 => some (decide (x2.1 = x3.1), x2.2, x3.2) else (if p2.1 = 3 then (B4 p0 p2.2.1 p2.2.2.2.2.2.1).bind fun x4 => (C7 p1 p2.2.1 p2.2.2.2.2.2.1).bind fun x5 => some (((CB x4.1 x5.1) && decide (x4.2.1 = x5.2.1)), x4.2.2, x5.2.2) else (if p2.1 = 4 then (C0 p0 p2.2.1).bind fun x6 => (Dn p1 p2.2.1).bind fun x7 => (E4 x6.1 x7.1).bind fun x8 => some (x8, x6.2, x7.2) else (if p2.1 = 5 then (BP p0 p2.2.2.2.2.2.1).bind fun x9 => (C2 p1 p2.2.2.2.2.2.1).bind fun x10 => some (((CB x9.1 x10.1) && decide (x9.2 = x10.2)), p0, p1) else some (true, p0, p1)))))
theorem Iu (Y : Nat → Prop) (X : List Nat) (w0 : World) (q_p0 : Nat) (v1 : Value) (v2 : Value) (v3 : Value) (q_p1 : Nat) (v4 : Value) (v5 : Value) (v6 : Value) (p0 : (Int × (List (Int × Int × Int × Int × Int × Int)) × (List (Int × Int))) × (List (Int × Int × Int × (Int × Int × Int × Int) × Int × Int))) (p1 : (Int × (List (Int × Int × Int × Int × Int × Int)) × (List (Int × Int))) × (List (Int × Int × Int × (Int × Int × Int × Int) × Int × Int))) (p2 : Int × Int × Int × Int × Int × Int × (Int × Int × Int × Int)) (r : Bool × ((Int × (List (Int × Int × Int × Int × Int × Int)) × (List (Int × Int))) × (List (Int × Int × Int × (Int × Int × Int × Int) × Int × Int))) × ((Int × (List (Int × Int × Int × Int × Int × Int)) × (List (Int × Int))) × (List (Int × Int × Int × (Int × Int × Int × Int) × Int × Int)))) (H : Fb p0 p1 p2 = some r) (hL : Stw ⟨Y, X, w0⟩ [(q_p0, [.int .i64 p0.1.1, v1, v2, v3]), (q_p1, [.int .i64 p1.1.1, v4, v5, v6])] [AC v1 A6 p0.1.2.1, AC v2 Bg p0.1.2.2, row v3 51 AF p0.2, AC v4 A6 p1.1.2.1, AC v5 Bg p1.1.2.2, row v6 64 BM p1.2] w0) :
    Calls Try.prog 10 #[.pointer (some ⟨q_p0, 0, none⟩), .pointer (some ⟨q_p1, 0, none⟩), .agg #[.int .i64 p2.1, .int .i64 p2.2.1, .int .i64 p2.2.2.1, .int .i64 p2.2.2.2.1, .int .i64 p2.2.2.2.2.1, .int .i64 p2.2.2.2.2.2.1, .int .i64 p2.2.2.2.2.2.2.1, .int .i64 p2.2.2.2.2.2.2.2.1, .int .i64 p2.2.2.2.2.2.2.2.2.1, .int .i64 p2.2.2.2.2.2.2.2.2.2]] w0 fun e w' => ∃ x : Value × Value × Value × Value × Value × Value, e = .returned (.bool r.1) ∧ Stw ⟨Y, X, w0⟩ [(q_p0, [.int .i64 r.2.1.1.1, x.1, x.2.1, x.2.2.1]), (q_p1, [.int .i64 r.2.2.1.1, x.2.2.2.1, x.2.2.2.2.1, x.2.2.2.2.2])] [AC (x.1) A6 r.2.1.1.2.1, AC (x.2.1) Bg r.2.1.1.2.2, row (x.2.2.1) 51 AF r.2.1.2, AC (x.2.2.2.1) A6 r.2.2.1.2.1, AC (x.2.2.2.2.1) Bg r.2.2.1.2.2, row (x.2.2.2.2.2) 64 BM r.2.2.2] w' := by
 refine enter Try.func10 Aa Try.ntmps10 Aa fun a F => ?_
 have W := hL
 unfold Fb at H
 refine Ai (Ab ?_)
 refine Dv (cs := (Cb p2)) F W Aa Aa Aa fun b1 a w F W => ?_
 refine ls F W Aa (Af F Aa).q fun a w F W => ?_
 refine Ae (Ac (Ai (Ab ?_)))
 refine ls F W Aa (Ag EP Aa Aa Aa T3 F Aa 0 Aa).q fun a w F W => ?_
 refine ls F W Aa (Al (v := Value.int .i64 p2.1) 0 F Aa Aa T3 Aa).q fun a w F W => ?_
 refine Ae (Ac (Ax ?_))
 obtain ⟨o1, G1, K1⟩ := An H
 refine AN (fun a w => ∃ x1 : Bool, some (x1) = some o1 ∧ Fr 109 [] [(0, .pointer (some ⟨q_p0, 0, none⟩)), (1, .pointer (some ⟨q_p1, 0, none⟩)), (5, .pointer (some ⟨b1, 0, none⟩)), (6, .bool false), (16, .int .i64 p2.1), (17, .bool x1)] a ∧ Stw ⟨Y, X, w0⟩ [(b1, (Cb p2)), (q_p0, [.int .i64 p0.1.1, v1, v2, v3]), (q_p1, [.int .i64 p1.1.1, v4, v5, v6])] [AC v1 A6 p0.1.2.1, AC v2 Bg p0.1.2.2, row v3 51 AF p0.2, AC v4 A6 p1.1.2.1, AC v5 Bg p1.1.2.2, row v6 64 BM p1.2] w) ?_ ?_
 ·
  have H := G1
  clear G1 K1
  refine Ai (Ab ?_)
  refine ls F W Aa (BQ F Aa Aa).q fun a w F W => ?_
  refine ls F W Aa (Af F Aa).q fun a w F W => ?_
  refine Ae (Ac ?_)
  refine Ay F Aa (fun hb => ?_) fun hb => ?_
  ·
   have H := A8 (BI hb) H
   rw [hb] at F
   clear hb
   refine Ap (Ac ?_)
   have W := W.frontZ (i := 5) Aa Aa
   have W := W.frontZ (i := 5) Aa Aa
   have W := W.frontZ (i := 5) Aa Aa
   have W := W.frontZ (i := 5) Aa Aa
   have W := W.frontZ (i := 5) Aa Aa
   have W := W.frontZ (i := 5) Aa Aa
   have W := W.frontM (i := 2) Aa Aa
   have W := W.frontM (i := 2) Aa Aa
   have W := W.frontM (i := 2) Aa Aa
   exact ⟨_, H, F.re ⟨rfl, Aa, Aa, Aa, Aa, Aa, trivial⟩, W⟩
  have H := A9 (BH hb) H
  rw [hb] at F
  clear hb
  refine Ai (Ab ?_)
  refine ls F W Aa (BQ F Aa Aa).q fun a w F W => ?_
  refine ls F W Aa (Af F Aa).q fun a w F W => ?_
  refine Ae (Ac ?_)
  refine Ay F Aa (fun hb => ?_) fun hb => ?_
  ·
   have H := A8 (BI hb) H
   rw [hb] at F
   clear hb
   refine Ap (Ac ?_)
   have W := W.frontZ (i := 5) Aa Aa
   have W := W.frontZ (i := 5) Aa Aa
   have W := W.frontZ (i := 5) Aa Aa
   have W := W.frontZ (i := 5) Aa Aa
   have W := W.frontZ (i := 5) Aa Aa
   have W := W.frontZ (i := 5) Aa Aa
   have W := W.frontM (i := 2) Aa Aa
   have W := W.frontM (i := 2) Aa Aa
   have W := W.frontM (i := 2) Aa Aa
   exact ⟨_, H, F.re ⟨rfl, Aa, Aa, Aa, Aa, Aa, trivial⟩, W⟩
  have H := A9 (BH hb) H
  rw [hb] at F
  clear hb
  refine Ab ?_
  refine ls F W Aa (BQ F Aa Aa).q fun a w F W => ?_
  refine ls F W Aa (Af F Aa).q fun a w F W => ?_
  refine Ae (Ac ?_)
  have W := W.frontZ (i := 5) Aa Aa
  have W := W.frontZ (i := 5) Aa Aa
  have W := W.frontZ (i := 5) Aa Aa
  have W := W.frontZ (i := 5) Aa Aa
  have W := W.frontZ (i := 5) Aa Aa
  have W := W.frontZ (i := 5) Aa Aa
  have W := W.frontM (i := 2) Aa Aa
  have W := W.frontM (i := 2) Aa Aa
  have W := W.frontM (i := 2) Aa Aa
  exact ⟨_, H, F.re ⟨rfl, Aa, Aa, Aa, Aa, Aa, trivial⟩, W⟩
 rintro a w ⟨x1, hj, F, W⟩
 have hj := A3 hj
 subst hj
 have H := K1
 clear G1 K1
 refine Ay F Aa (fun hb => ?_) fun hb => ?_
 ·
  have H := A8 hb H
  rw [hb] at F
  clear hb
  refine Ai ?_
  refine DJ [(true, 0), (true, 1), (true, 2), (true, 3), (true, 4), (true, 5), (true, 6), (true, 7), (true, 8), (true, 9), (true, 10), (true, 12), (true, 13), (true, 14), (true, 15), (true, 16), (true, 17), (true, 18), (true, 19), (true, 20), (true, 21), (true, 22), (false, 11), (false, 23), (true, 24), (false, 25)] (CN ⟨Y, X, w0⟩ [(some 11, b1, [.int .i64 p2.1, .int .i64 p2.2.1, .int .i64 p2.2.2.1, .int .i64 p2.2.2.2.1, .int .i64 p2.2.2.2.2.1, .int .i64 p2.2.2.2.2.2.1, .int .i64 p2.2.2.2.2.2.2.1, .int .i64 p2.2.2.2.2.2.2.2.1, .int .i64 p2.2.2.2.2.2.2.2.2.1, .int .i64 p2.2.2.2.2.2.2.2.2.2]), (some 23, b1, [.int .i64 p2.1, .int .i64 p2.2.1, .int .i64 p2.2.2.1, .int .i64 p2.2.2.2.1, .int .i64 p2.2.2.2.2.1, .int .i64 p2.2.2.2.2.2.1, .int .i64 p2.2.2.2.2.2.2.1, .int .i64 p2.2.2.2.2.2.2.2.1, .int .i64 p2.2.2.2.2.2.2.2.2.1, .int .i64 p2.2.2.2.2.2.2.2.2.2])] []) (fun ch a d v w h => by cases d <;> exact h) MO (by kernel_rfl) W (fun w W => ⟨_, _, W, (all_cons (fun _ => (.head _)) (all_cons (fun _ => (.head _)) As)), As⟩) fun w W => ?_
  refine A5 (R := []) F Aa Aa (yC fun M Z hN hZ => Ad F Aa) Aa Aa fun a F => ?_
  refine A5 (R := []) F Aa Aa (yC fun M Z hN hZ => Ag EP Aa Aa Aa T3 F Aa 1 Aa) Aa Aa fun a F => ?_
  refine A5 (R := [11]) F Aa Aa (yC fun M Z hN hZ => Cc (cs := (Cb p2)) (v := Value.int .i64 p2.2.1) F Aa (hN ((some 11), b1, (Cb p2)) (.head _) Aa) T3 Aa) (by kernel_rfl) Aa fun a F => ?_
  refine A5 (R := []) F Aa Aa (yC fun M Z hN hZ => Ag EP Aa Aa Aa T3 F Aa 2 Aa) Aa Aa fun a F => ?_
  refine A5 (R := [11]) F Aa Aa (yC fun M Z hN hZ => Cc (cs := (Cb p2)) (v := Value.int .i64 p2.2.2.1) F Aa (hN ((some 11), b1, (Cb p2)) (.head _) Aa) T3 Aa) (by kernel_rfl) Aa fun a F => ?_
  refine A5 (R := []) F Aa Aa (yC fun M Z hN hZ => Ag EP Aa Aa Aa T3 F Aa 3 Aa) Aa Aa fun a F => ?_
  refine A5 (R := [11]) F Aa Aa (yC fun M Z hN hZ => Cc (cs := (Cb p2)) (v := Value.int .i64 p2.2.2.2.1) F Aa (hN ((some 11), b1, (Cb p2)) (.head _) Aa) T3 Aa) (by kernel_rfl) Aa fun a F => ?_
  refine A5 (R := []) F Aa Aa (yC fun M Z hN hZ => Ag EP Aa Aa Aa T3 F Aa 4 Aa) Aa Aa fun a F => ?_
  refine A5 (R := [11]) F Aa Aa (yC fun M Z hN hZ => Cc (cs := (Cb p2)) (v := Value.int .i64 p2.2.2.2.2.1) F Aa (hN ((some 11), b1, (Cb p2)) (.head _) Aa) T3 Aa) (by kernel_rfl) Aa fun a F => ?_
  refine A5 (R := []) F Aa Aa (yC fun M Z hN hZ => Ag EP Aa Aa Aa J1 F Aa 6 Aa) Aa Aa fun a F => ?_
  refine A5 (R := [11]) F Aa Aa (yC fun M Z hN hZ => Cc (cs := (Cb p2)) (v := Value.agg #[.int .i64 p2.2.2.2.2.2.2.1, .int .i64 p2.2.2.2.2.2.2.2.1, .int .i64 p2.2.2.2.2.2.2.2.2.1, .int .i64 p2.2.2.2.2.2.2.2.2.2]) F Aa (hN ((some 11), b1, (Cb p2)) (.head _) Aa) J1 Aa) (by kernel_rfl) Aa fun a F => ?_
  refine A5 (R := []) F Aa Aa (yC fun M Z hN hZ => Ad F Aa) Aa Aa fun a F => ?_
  refine A5 (R := []) F Aa Aa (yC fun M Z hN hZ => Ag EP Aa Aa Aa T3 F Aa 1 Aa) Aa Aa fun a F => ?_
  refine A5 (R := [23]) F Aa Aa (yC fun M Z hN hZ => Cc (cs := (Cb p2)) (v := Value.int .i64 p2.2.1) F Aa (hN ((some 23), b1, (Cb p2)) (.tail _ (.head _)) Aa) T3 Aa) (by kernel_rfl) Aa fun a F => ?_
  refine A5 (R := []) F Aa Aa (yC fun M Z hN hZ => Ag EP Aa Aa Aa T3 F Aa 2 Aa) Aa Aa fun a F => ?_
  refine A5 (R := [23]) F Aa Aa (yC fun M Z hN hZ => Cc (cs := (Cb p2)) (v := Value.int .i64 p2.2.2.1) F Aa (hN ((some 23), b1, (Cb p2)) (.tail _ (.head _)) Aa) T3 Aa) (by kernel_rfl) Aa fun a F => ?_
  refine A5 (R := []) F Aa Aa (yC fun M Z hN hZ => Ag EP Aa Aa Aa T3 F Aa 3 Aa) Aa Aa fun a F => ?_
  refine A5 (R := [23]) F Aa Aa (yC fun M Z hN hZ => Cc (cs := (Cb p2)) (v := Value.int .i64 p2.2.2.2.1) F Aa (hN ((some 23), b1, (Cb p2)) (.tail _ (.head _)) Aa) T3 Aa) (by kernel_rfl) Aa fun a F => ?_
  refine A5 (R := []) F Aa Aa (yC fun M Z hN hZ => Ag EP Aa Aa Aa T3 F Aa 4 Aa) Aa Aa fun a F => ?_
  refine A5 (R := [23]) F Aa Aa (yC fun M Z hN hZ => Cc (cs := (Cb p2)) (v := Value.int .i64 p2.2.2.2.2.1) F Aa (hN ((some 23), b1, (Cb p2)) (.tail _ (.head _)) Aa) T3 Aa) (by kernel_rfl) Aa fun a F => ?_
  refine A5 (R := []) F Aa Aa (yC fun M Z hN hZ => Ag EP Aa Aa Aa J1 F Aa 6 Aa) Aa Aa fun a F => ?_
  refine A5 (R := [23]) F Aa Aa (yC fun M Z hN hZ => Cc (cs := (Cb p2)) (v := Value.agg #[.int .i64 p2.2.2.2.2.2.2.1, .int .i64 p2.2.2.2.2.2.2.2.1, .int .i64 p2.2.2.2.2.2.2.2.2.1, .int .i64 p2.2.2.2.2.2.2.2.2.2]) F Aa (hN ((some 23), b1, (Cb p2)) (.tail _ (.head _)) Aa) J1 Aa) (by kernel_rfl) Aa fun a F => ?_
  refine DB Aa ?_
  obtain ⟨x2, h1, H⟩ := An H
  have W := W.frontZ (i := 2) Aa Aa
  have W := W.frontZ (i := 2) Aa Aa
  have W := W.frontZ (i := 2) Aa Aa
  have W := W.frontM (i := 1) Aa Aa
  refine Bq (Ml := [(q_p0, [.int .i64 p0.1.1, v1, v2, v3])]) (Zl := [AC v1 A6 p0.1.2.1, AC v2 Bg p0.1.2.2, row v3 51 AF p0.2]) (M := (JV b1 p2 q_p1 p1 v4 v5 v6)) (Z := [AC v4 A6 p1.1.2.1, AC v5 Bg p1.1.2.2, row v6 64 BM p1.2]) (β := Value × Value × Value) (rv := fun x => .int .i64 x2.1) (MM := fun x => [(q_p0, [.int .i64 x2.2.1.1, x.1, x.2.1, x.2.2])]) (ZZ := fun x => [AC x.1 A6 x2.2.1.2.1, AC x.2.1 Bg x2.2.1.2.2, row x.2.2 51 AF x2.2.2]) F W LT Aa Aa (fun hL => EN _ _ w q_p0 (v1) (v2) (v3) p0 p2.2.1 p2.2.2.1 p2.2.2.2.1 p2.2.2.2.2.1 p2.2.2.2.2.2.2 _ h1 hL) fun x a w F W => ?_
  obtain ⟨v7, v8, v9⟩ := x
  have W : Stw ⟨Y, X, w0⟩ [(q_p0, [.int .i64 x2.2.1.1, v7, v8, v9]), (b1, (Cb p2)), (q_p1, [.int .i64 p1.1.1, v4, v5, v6])] [AC v7 A6 x2.2.1.2.1, AC v8 Bg x2.2.1.2.2, row v9 51 AF x2.2.2, AC v4 A6 p1.1.2.1, AC v5 Bg p1.1.2.2, row v6 64 BM p1.2] w := W
  refine BB (N2 := []) (NZ2 := []) (N3 := [(some 11, b1, [.int .i64 p2.1, .int .i64 p2.2.1, .int .i64 p2.2.2.1, .int .i64 p2.2.2.2.1, .int .i64 p2.2.2.2.2.1, .int .i64 p2.2.2.2.2.2.1, .int .i64 p2.2.2.2.2.2.2.1, .int .i64 p2.2.2.2.2.2.2.2.1, .int .i64 p2.2.2.2.2.2.2.2.2.1, .int .i64 p2.2.2.2.2.2.2.2.2.2]), (some 23, b1, [.int .i64 p2.1, .int .i64 p2.2.1, .int .i64 p2.2.2.1, .int .i64 p2.2.2.2.1, .int .i64 p2.2.2.2.2.1, .int .i64 p2.2.2.2.2.2.1, .int .i64 p2.2.2.2.2.2.2.1, .int .i64 p2.2.2.2.2.2.2.2.1, .int .i64 p2.2.2.2.2.2.2.2.2.1, .int .i64 p2.2.2.2.2.2.2.2.2.2])]) (NZ3 := []) W Aa Aa (all_cons (fun h => AO (by kernel_rfl) h) (all_cons (fun _ => (.tail _ (.head _))) As)) As ?_
  refine DB Aa ?_
  obtain ⟨x3, h2, H⟩ := An H
  have W := W.frontZ (i := 5) Aa Aa
  have W := W.frontZ (i := 5) Aa Aa
  have W := W.frontZ (i := 5) Aa Aa
  have W := W.frontM (i := 2) Aa Aa
  refine Bq (Ml := [(q_p1, [.int .i64 p1.1.1, v4, v5, v6])]) (Zl := [AC v4 A6 p1.1.2.1, AC v5 Bg p1.1.2.2, row v6 64 BM p1.2]) (M := [(q_p0, [.int .i64 x2.2.1.1, v7, v8, v9]), (b1, (Cb p2))]) (Z := [AC v7 A6 x2.2.1.2.1, AC v8 Bg x2.2.1.2.2, row v9 51 AF x2.2.2]) (β := Value × Value × Value) (rv := fun x => .int .i64 x3.1) (MM := fun x => [(q_p1, [.int .i64 x3.2.1.1, x.1, x.2.1, x.2.2])]) (ZZ := fun x => [AC x.1 A6 x3.2.1.2.1, AC x.2.1 Bg x3.2.1.2.2, row x.2.2 64 BM x3.2.2]) F W Mm Aa Aa (fun hL => Gu _ _ w q_p1 (v4) (v5) (v6) p1 p2.2.1 p2.2.2.1 p2.2.2.2.1 p2.2.2.2.2.1 p2.2.2.2.2.2.2 _ h2 hL) fun x a w F W => ?_
  obtain ⟨v10, v11, v12⟩ := x
  have W : Stw ⟨Y, X, w0⟩ [(q_p1, [.int .i64 x3.2.1.1, v10, v11, v12]), (q_p0, [.int .i64 x2.2.1.1, v7, v8, v9]), (b1, (Cb p2))] [AC v10 A6 x3.2.1.2.1, AC v11 Bg x3.2.1.2.2, row v12 64 BM x3.2.2, AC v7 A6 x2.2.1.2.1, AC v8 Bg x2.2.1.2.2, row v9 51 AF x2.2.2] w := W
  refine BB (N2 := []) (NZ2 := []) (N3 := [(some 11, b1, [.int .i64 p2.1, .int .i64 p2.2.1, .int .i64 p2.2.2.1, .int .i64 p2.2.2.2.1, .int .i64 p2.2.2.2.2.1, .int .i64 p2.2.2.2.2.2.1, .int .i64 p2.2.2.2.2.2.2.1, .int .i64 p2.2.2.2.2.2.2.2.1, .int .i64 p2.2.2.2.2.2.2.2.2.1, .int .i64 p2.2.2.2.2.2.2.2.2.2]), (some 23, b1, [.int .i64 p2.1, .int .i64 p2.2.1, .int .i64 p2.2.2.1, .int .i64 p2.2.2.2.1, .int .i64 p2.2.2.2.2.1, .int .i64 p2.2.2.2.2.2.1, .int .i64 p2.2.2.2.2.2.2.1, .int .i64 p2.2.2.2.2.2.2.2.1, .int .i64 p2.2.2.2.2.2.2.2.2.1, .int .i64 p2.2.2.2.2.2.2.2.2.2])]) (NZ3 := []) W Aa Aa (all_cons (fun h => AO (by kernel_rfl) h) (all_cons (fun h => AO (by kernel_rfl) h) As)) As ?_
  refine A5 (R := []) F Aa Aa (yC fun M Z hN hZ => BQ F Aa Aa) Aa Aa fun a F => ?_
  refine DB Aa ?_
  refine ls F W Aa (Af F Aa).q fun a w F W => ?_
  refine BB (N2 := []) (NZ2 := []) (N3 := [(some 11, b1, [.int .i64 p2.1, .int .i64 p2.2.1, .int .i64 p2.2.2.1, .int .i64 p2.2.2.2.1, .int .i64 p2.2.2.2.2.1, .int .i64 p2.2.2.2.2.2.1, .int .i64 p2.2.2.2.2.2.2.1, .int .i64 p2.2.2.2.2.2.2.2.1, .int .i64 p2.2.2.2.2.2.2.2.2.1, .int .i64 p2.2.2.2.2.2.2.2.2.2]), (some 23, b1, [.int .i64 p2.1, .int .i64 p2.2.1, .int .i64 p2.2.2.1, .int .i64 p2.2.2.2.1, .int .i64 p2.2.2.2.2.1, .int .i64 p2.2.2.2.2.2.1, .int .i64 p2.2.2.2.2.2.2.1, .int .i64 p2.2.2.2.2.2.2.2.1, .int .i64 p2.2.2.2.2.2.2.2.2.1, .int .i64 p2.2.2.2.2.2.2.2.2.2])]) (NZ3 := []) W Aa Aa (all_cons (fun h => AO (by kernel_rfl) h) (all_cons (fun h => AO (by kernel_rfl) h) As)) As ?_
  refine Ej (Ac (AB (BG ?_)))
  have H := A3 H
  subst H
  refine Bh (.inl Aa) F W Aa (Aq F Aa) ?_
  have W := W.frontZ (i := 2) Aa Aa
  have W := W.frontZ (i := 2) Aa Aa
  have W := W.frontZ (i := 2) Aa Aa
  have W := W.frontZ (i := 5) Aa Aa
  have W := W.frontZ (i := 5) Aa Aa
  have W := W.frontZ (i := 5) Aa Aa
  have W := W.frontM (i := 1) Aa Aa
  have W := W.sub (M' := [(q_p0, [.int .i64 x2.2.1.1, v7, v8, v9]), (q_p1, [.int .i64 x3.2.1.1, v10, v11, v12])]) (Z' := [AC v7 A6 x2.2.1.2.1, AC v8 Bg x2.2.1.2.2, row v9 51 AF x2.2.2, AC v10 A6 x3.2.1.2.1, AC v11 Bg x3.2.1.2.2, row v12 64 BM x3.2.2]) (List.Sublist.cons_cons _ (List.Sublist.cons_cons _ (List.nil_sublist _))) (List.Sublist.refl _)
  exact ⟨((v7), (v8), (v9), (v10), (v11), (v12)), Aa, W⟩
 have H := A9 (by rw [hb]; decide) H
 rw [hb] at F
 clear hb
 refine Ai (Ab ?_)
 refine ls F W Aa (BQ F Aa Aa).q fun a w F W => ?_
 refine ls F W Aa (Af F Aa).q fun a w F W => ?_
 refine Ae (Ac ?_)
 refine Ay F Aa (fun hb => ?_) fun hb => ?_
 ·
  have H := A8 (BI hb) H
  rw [hb] at F
  clear hb
  refine Ai (Ab ?_)
  refine ls F W Aa (Ad F Aa).q fun a w F W => ?_
  refine ls F W Aa (Ag EP Aa Aa Aa T3 F Aa 1 Aa).q fun a w F W => ?_
  refine ls F W Aa (Al (v := Value.int .i64 p2.2.1) 0 F Aa Aa T3 Aa).q fun a w F W => ?_
  refine ls F W Aa (Ag EP Aa Aa Aa T3 F Aa 5 Aa).q fun a w F W => ?_
  refine ls F W Aa (Al (v := Value.int .i64 p2.2.2.2.2.2.1) 0 F Aa Aa T3 Aa).q fun a w F W => ?_
  obtain ⟨x4, h3, H⟩ := An H
  have W := W.frontZ (i := 2) Aa Aa
  have W := W.frontZ (i := 2) Aa Aa
  have W := W.frontZ (i := 2) Aa Aa
  have W := W.frontM (i := 1) Aa Aa
  refine Bq (Ml := [(q_p0, [.int .i64 p0.1.1, v1, v2, v3])]) (Zl := [AC v1 A6 p0.1.2.1, AC v2 Bg p0.1.2.2, row v3 51 AF p0.2]) (M := (JV b1 p2 q_p1 p1 v4 v5 v6)) (Z := [AC v4 A6 p1.1.2.1, AC v5 Bg p1.1.2.2, row v6 64 BM p1.2]) (β := Value × Value × Value) (rv := fun x => .tuple #[.agg #[.int .i64 x4.1.1, .int .i64 x4.1.2.1, .int .i64 x4.1.2.2.1, .int .i64 x4.1.2.2.2.1.1, .int .i64 x4.1.2.2.2.1.2.1, .int .i64 x4.1.2.2.2.1.2.2.1, .int .i64 x4.1.2.2.2.1.2.2.2, .int .i64 x4.1.2.2.2.2.1, .int .i64 x4.1.2.2.2.2.2], .int .i64 x4.2.1]) (MM := fun x => [(q_p0, [.int .i64 x4.2.2.1.1, x.1, x.2.1, x.2.2])]) (ZZ := fun x => [AC x.1 A6 x4.2.2.1.2.1, AC x.2.1 Bg x4.2.2.1.2.2, row x.2.2 51 AF x4.2.2.2]) F W Lj Aa Aa (fun hL => DN _ _ w q_p0 (v1) (v2) (v3) p0 p2.2.1 p2.2.2.2.2.2.1 _ h3 hL) fun x a w F W => ?_
  obtain ⟨v13, v14, v15⟩ := x
  have W : Stw ⟨Y, X, w0⟩ [(q_p0, [.int .i64 x4.2.2.1.1, v13, v14, v15]), (b1, (Cb p2)), (q_p1, [.int .i64 p1.1.1, v4, v5, v6])] [AC v13 A6 x4.2.2.1.2.1, AC v14 Bg x4.2.2.1.2.2, row v15 51 AF x4.2.2.2, AC v4 A6 p1.1.2.1, AC v5 Bg p1.1.2.2, row v6 64 BM p1.2] w := W
  refine ls F W Aa (Ad F Aa).q fun a w F W => ?_
  refine ls F W Aa (AK (v := Value.agg #[.int .i64 x4.1.1, .int .i64 x4.1.2.1, .int .i64 x4.1.2.2.1, .int .i64 x4.1.2.2.2.1.1, .int .i64 x4.1.2.2.2.1.2.1, .int .i64 x4.1.2.2.2.1.2.2.1, .int .i64 x4.1.2.2.2.1.2.2.2, .int .i64 x4.1.2.2.2.2.1, .int .i64 x4.1.2.2.2.2.2]) F Aa Aa).q fun a w F W => ?_
  refine ls F W Aa (AK (v := Value.int .i64 x4.2.1) F Aa Aa).q fun a w F W => ?_
  refine Bx (cs := (Cm)) F W Aa HQ Aa fun b2 a w F W => ?_
  refine Ba (vs := (FA x4)) (M' := [(b2, (FA x4)), (q_p0, [.int .i64 x4.2.2.1.1, v13, v14, v15]), (b1, (Cb p2)), (q_p1, [.int .i64 p1.1.1, v4, v5, v6])]) 0 F W Aa Aa Aa Do Aa Aa Aa Aa Aa fun w W => ?_
  refine ls F W Aa (Af F Aa).q fun a w F W => ?_
  refine Ae (Ac (Ai (Ab ?_)))
  refine ls F W Aa (Ad F Aa).q fun a w F W => ?_
  refine ls F W Aa (Ag EP Aa Aa Aa T3 F Aa 1 Aa).q fun a w F W => ?_
  refine ls F W Aa (Al (v := Value.int .i64 p2.2.1) 2 F Aa Aa T3 Aa).q fun a w F W => ?_
  refine ls F W Aa (Ag EP Aa Aa Aa T3 F Aa 5 Aa).q fun a w F W => ?_
  refine ls F W Aa (Al (v := Value.int .i64 p2.2.2.2.2.2.1) 2 F Aa Aa T3 Aa).q fun a w F W => ?_
  obtain ⟨x5, h4, H⟩ := An H
  have W := W.frontZ (i := 5) Aa Aa
  have W := W.frontZ (i := 5) Aa Aa
  have W := W.frontZ (i := 5) Aa Aa
  have W := W.frontM (i := 3) Aa Aa
  refine Bq (Ml := [(q_p1, [.int .i64 p1.1.1, v4, v5, v6])]) (Zl := [AC v4 A6 p1.1.2.1, AC v5 Bg p1.1.2.2, row v6 64 BM p1.2]) (M := [(b2, [.int .i64 x4.1.1, .int .i64 x4.1.2.1, .int .i64 x4.1.2.2.1, .int .i64 x4.1.2.2.2.1.1, .int .i64 x4.1.2.2.2.1.2.1, .int .i64 x4.1.2.2.2.1.2.2.1, .int .i64 x4.1.2.2.2.1.2.2.2, .int .i64 x4.1.2.2.2.2.1, .int .i64 x4.1.2.2.2.2.2]), (q_p0, [.int .i64 x4.2.2.1.1, v13, v14, v15]), (b1, [.int .i64 p2.1, .int .i64 p2.2.1, .int .i64 p2.2.2.1, .int .i64 p2.2.2.2.1, .int .i64 p2.2.2.2.2.1, .int .i64 p2.2.2.2.2.2.1, .int .i64 p2.2.2.2.2.2.2.1, .int .i64 p2.2.2.2.2.2.2.2.1, .int .i64 p2.2.2.2.2.2.2.2.2.1, .int .i64 p2.2.2.2.2.2.2.2.2.2])]) (Z := [AC v13 A6 x4.2.2.1.2.1, AC v14 Bg x4.2.2.1.2.2, row v15 51 AF x4.2.2.2]) (β := Value × Value × Value) (rv := fun x => .tuple #[.agg #[.int .i64 x5.1.1, .int .i64 x5.1.2.1, .int .i64 x5.1.2.2.1, .int .i64 x5.1.2.2.2.1.1, .int .i64 x5.1.2.2.2.1.2.1, .int .i64 x5.1.2.2.2.1.2.2.1, .int .i64 x5.1.2.2.2.1.2.2.2, .int .i64 x5.1.2.2.2.2.1, .int .i64 x5.1.2.2.2.2.2], .int .i64 x5.2.1]) (MM := fun x => [(q_p1, [.int .i64 x5.2.2.1.1, x.1, x.2.1, x.2.2])]) (ZZ := fun x => [AC x.1 A6 x5.2.2.1.2.1, AC x.2.1 Bg x5.2.2.1.2.2, row x.2.2 64 BM x5.2.2.2]) F W M0 Aa Aa (fun hL => Gb _ _ w q_p1 (v4) (v5) (v6) p1 p2.2.1 p2.2.2.2.2.2.1 _ h4 hL) fun x a w F W => ?_
  obtain ⟨v16, v17, v18⟩ := x
  have W : Stw ⟨Y, X, w0⟩ [(q_p1, [.int .i64 x5.2.2.1.1, v16, v17, v18]), (b2, (FA x4)), (q_p0, [.int .i64 x4.2.2.1.1, v13, v14, v15]), (b1, (Cb p2))] [AC v16 A6 x5.2.2.1.2.1, AC v17 Bg x5.2.2.1.2.2, row v18 64 BM x5.2.2.2, AC v13 A6 x4.2.2.1.2.1, AC v14 Bg x4.2.2.1.2.2, row v15 51 AF x4.2.2.2] w := W
  refine ls F W Aa (Ad F Aa).q fun a w F W => ?_
  refine ls F W Aa (AK (v := Value.agg #[.int .i64 x5.1.1, .int .i64 x5.1.2.1, .int .i64 x5.1.2.2.1, .int .i64 x5.1.2.2.2.1.1, .int .i64 x5.1.2.2.2.1.2.1, .int .i64 x5.1.2.2.2.1.2.2.1, .int .i64 x5.1.2.2.2.1.2.2.2, .int .i64 x5.1.2.2.2.2.1, .int .i64 x5.1.2.2.2.2.2]) F Aa Aa).q fun a w F W => ?_
  refine ls F W Aa (AK (v := Value.int .i64 x5.2.1) F Aa Aa).q fun a w F W => ?_
  refine Bx (cs := (Cm)) F W Aa J3 Aa fun b3 a w F W => ?_
  refine Ba (vs := (FA x5)) (M' := [(b3, (FA x5)), (q_p1, [.int .i64 x5.2.2.1.1, v16, v17, v18]), (b2, (FA x4)), (q_p0, [.int .i64 x4.2.2.1.1, v13, v14, v15]), (b1, (Cb p2))]) 0 F W Aa Aa Aa GP Aa Aa Aa Aa Aa fun w W => ?_
  refine ls F W Aa (Af F Aa).q fun a w F W => ?_
  refine Ae (Ac ?_)
  refine AN (fun a w => Fr 109 [] [(6, .bool ((CB x4.1 x5.1) && decide (x4.2.1 = x5.2.1)))] a ∧ Stw ⟨Y, X, w0⟩ [(b3, (FA x5)), (q_p1, [.int .i64 x5.2.2.1.1, v16, v17, v18]), (b2, (FA x4)), (q_p0, [.int .i64 x4.2.2.1.1, v13, v14, v15]), (b1, (Cb p2))] [AC v16 A6 x5.2.2.1.2.1, AC v17 Bg x5.2.2.1.2.2, row v18 64 BM x5.2.2.2, AC v13 A6 x4.2.2.1.2.1, AC v14 Bg x4.2.2.1.2.2, row v15 51 AF x4.2.2.2] w) ?_ ?_
  ·
   refine Ab ?_
   refine ls F W Aa (Al (v := Value.agg #[.int .i64 x4.1.1, .int .i64 x4.1.2.1, .int .i64 x4.1.2.2.1, .int .i64 x4.1.2.2.2.1.1, .int .i64 x4.1.2.2.2.1.2.1, .int .i64 x4.1.2.2.2.1.2.2.1, .int .i64 x4.1.2.2.2.1.2.2.2, .int .i64 x4.1.2.2.2.2.1, .int .i64 x4.1.2.2.2.2.2]) 2 F Aa Aa Do Aa).q fun a w F W => ?_
   refine ls F W Aa (Al (v := Value.agg #[.int .i64 x5.1.1, .int .i64 x5.1.2.1, .int .i64 x5.1.2.2.1, .int .i64 x5.1.2.2.2.1.1, .int .i64 x5.1.2.2.2.1.2.1, .int .i64 x5.1.2.2.2.1.2.2.1, .int .i64 x5.1.2.2.2.1.2.2.2, .int .i64 x5.1.2.2.2.2.1, .int .i64 x5.1.2.2.2.2.2]) 0 F Aa Aa GP Aa).q fun a w F W => ?_
   refine ls F W Aa (Bv (v := Value.bool (CB x4.1 x5.1)) F L7 Aa (fun w W => FE any w x4.1 x5.1 _ Aa)) fun a w F W => ?_
   refine ls F W Aa (Ad F Aa).q fun a w F W => ?_
   rcases Bool.eq_false_or_eq_true (CB x4.1 x5.1) with hb0 | hb0
   ·
    rw [hb0] at F
    iterate 2 refine Az F W (Ah F Aa Aa Aa Aa) Aa (Am Aa) (Ad F Aa).q fun a w F W => ?_
    refine Az F W (Ah F Aa Aa Aa Aa) Aa (Am Aa) (BQ F Aa Aa).q fun a w F W => ?_
    refine ls F W Aa (Ao F Aa Aa Aa).q fun a w F W => ?_
    refine ls F W Aa (Af F Aa).q fun a w F W => ?_
    refine Ae (Ac ?_)
    exact ⟨F.re ⟨(DZ (by try rw [hb0]; all_goals simp only [DT])), trivial⟩, W⟩
   rw [hb0] at F
   iterate 3 refine BX F Aa Aa Aa Aa Aa Aa Aa fun a F => ?_
   refine ls F W Aa (Aj F Aa Aa Aa).q fun a w F W => ?_
   refine ls F W Aa (Af F Aa).q fun a w F W => ?_
   refine Ae (Ac ?_)
   exact ⟨F.re ⟨(DZ (by try rw [hb0]; all_goals simp only [DT])), trivial⟩, W⟩
  rintro a w ⟨F, W⟩
  refine AB (BG ?_)
  have H := A3 H
  subst H
  refine Bh (.inl Aa) F W Aa (Aq F Aa) ?_
  have W := W.frontZ (i := 2) Aa Aa
  have W := W.frontZ (i := 2) Aa Aa
  have W := W.frontZ (i := 2) Aa Aa
  have W := W.frontZ (i := 5) Aa Aa
  have W := W.frontZ (i := 5) Aa Aa
  have W := W.frontZ (i := 5) Aa Aa
  have W := W.frontM (i := 1) Aa Aa
  have W := W.frontM (i := 3) Aa Aa
  have W := W.sub (M' := [(q_p0, [.int .i64 x4.2.2.1.1, v13, v14, v15]), (q_p1, [.int .i64 x5.2.2.1.1, v16, v17, v18])]) (Z' := [AC v13 A6 x4.2.2.1.2.1, AC v14 Bg x4.2.2.1.2.2, row v15 51 AF x4.2.2.2, AC v16 A6 x5.2.2.1.2.1, AC v17 Bg x5.2.2.1.2.2, row v18 64 BM x5.2.2.2]) (List.Sublist.cons_cons _ (List.Sublist.cons_cons _ (List.nil_sublist _))) (List.Sublist.refl _)
  exact ⟨((v13), (v14), (v15), (v16), (v17), (v18)), Aa, W⟩
 have H := A9 (BH hb) H
 rw [hb] at F
 clear hb
 refine Ai (Ab ?_)
 refine ls F W Aa (BQ F Aa Aa).q fun a w F W => ?_
 refine ls F W Aa (Af F Aa).q fun a w F W => ?_
 refine Ae (Ac ?_)
 refine Ay F Aa (fun hb => ?_) fun hb => ?_
 ·
  have H := A8 (BI hb) H
  rw [hb] at F
  clear hb
  refine Ai ?_
  refine DJ [(true, 0), (true, 1), (true, 2), (true, 4), (true, 5), (true, 6), (false, 3), (false, 7), (false, 8), (false, 9)] (CN ⟨Y, X, w0⟩ [(some 3, b1, [.int .i64 p2.1, .int .i64 p2.2.1, .int .i64 p2.2.2.1, .int .i64 p2.2.2.2.1, .int .i64 p2.2.2.2.2.1, .int .i64 p2.2.2.2.2.2.1, .int .i64 p2.2.2.2.2.2.2.1, .int .i64 p2.2.2.2.2.2.2.2.1, .int .i64 p2.2.2.2.2.2.2.2.2.1, .int .i64 p2.2.2.2.2.2.2.2.2.2]), (some 7, b1, [.int .i64 p2.1, .int .i64 p2.2.1, .int .i64 p2.2.2.1, .int .i64 p2.2.2.2.1, .int .i64 p2.2.2.2.2.1, .int .i64 p2.2.2.2.2.2.1, .int .i64 p2.2.2.2.2.2.2.1, .int .i64 p2.2.2.2.2.2.2.2.1, .int .i64 p2.2.2.2.2.2.2.2.2.1, .int .i64 p2.2.2.2.2.2.2.2.2.2])] []) (fun ch a d v w h => by cases d <;> exact h) MO (by kernel_rfl) W (fun w W => ⟨_, _, W, (all_cons (fun _ => (.head _)) (all_cons (fun _ => (.head _)) As)), As⟩) fun w W => ?_
  refine A5 (R := []) F Aa Aa (yC fun M Z hN hZ => Ad F Aa) Aa Aa fun a F => ?_
  refine A5 (R := []) F Aa Aa (yC fun M Z hN hZ => Ag EP Aa Aa Aa T3 F Aa 1 Aa) Aa Aa fun a F => ?_
  refine A5 (R := [3]) F Aa Aa (yC fun M Z hN hZ => Cc (cs := (Cb p2)) (v := Value.int .i64 p2.2.1) F Aa (hN ((some 3), b1, (Cb p2)) (.head _) Aa) T3 Aa) (by kernel_rfl) Aa fun a F => ?_
  refine A5 (R := []) F Aa Aa (yC fun M Z hN hZ => Ad F Aa) Aa Aa fun a F => ?_
  refine A5 (R := []) F Aa Aa (yC fun M Z hN hZ => Ag EP Aa Aa Aa T3 F Aa 1 Aa) Aa Aa fun a F => ?_
  refine A5 (R := [7]) F Aa Aa (yC fun M Z hN hZ => Cc (cs := (Cb p2)) (v := Value.int .i64 p2.2.1) F Aa (hN ((some 7), b1, (Cb p2)) (.tail _ (.head _)) Aa) T3 Aa) (by kernel_rfl) Aa fun a F => ?_
  refine DB Aa ?_
  obtain ⟨x6, h5, H⟩ := An H
  have W := W.frontZ (i := 2) Aa Aa
  have W := W.frontZ (i := 2) Aa Aa
  have W := W.frontZ (i := 2) Aa Aa
  have W := W.frontM (i := 1) Aa Aa
  refine Bq (Ml := [(q_p0, [.int .i64 p0.1.1, v1, v2, v3])]) (Zl := [AC v1 A6 p0.1.2.1, AC v2 Bg p0.1.2.2, row v3 51 AF p0.2]) (M := (JV b1 p2 q_p1 p1 v4 v5 v6)) (Z := [AC v4 A6 p1.1.2.1, AC v5 Bg p1.1.2.2, row v6 64 BM p1.2]) (β := Value × Value × Value × Value) (rv := fun x => x.1) (MM := fun x => [(q_p0, [.int .i64 x6.2.1.1, x.2.1, x.2.2.1, x.2.2.2])]) (ZZ := fun x => [AC x.2.1 A6 x6.2.1.2.1, AC x.2.2.1 Bg x6.2.1.2.2, row x.2.2.2 51 AF x6.2.2, row x.1 51 AF x6.1]) F W Mo Aa Aa (fun hL => Gh _ _ w q_p0 (v1) (v2) (v3) p0 p2.2.1 _ h5 hL) fun x a w F W => ?_
  obtain ⟨v19, v20, v21, v22⟩ := x
  have W : Stw ⟨Y, X, w0⟩ [(q_p0, [.int .i64 x6.2.1.1, v20, v21, v22]), (b1, (Cb p2)), (q_p1, [.int .i64 p1.1.1, v4, v5, v6])] [AC v20 A6 x6.2.1.2.1, AC v21 Bg x6.2.1.2.2, row v22 51 AF x6.2.2, row v19 51 AF x6.1, AC v4 A6 p1.1.2.1, AC v5 Bg p1.1.2.2, row v6 64 BM p1.2] w := W
  refine BB (N2 := []) (NZ2 := []) (N3 := [(some 3, b1, [.int .i64 p2.1, .int .i64 p2.2.1, .int .i64 p2.2.2.1, .int .i64 p2.2.2.2.1, .int .i64 p2.2.2.2.2.1, .int .i64 p2.2.2.2.2.2.1, .int .i64 p2.2.2.2.2.2.2.1, .int .i64 p2.2.2.2.2.2.2.2.1, .int .i64 p2.2.2.2.2.2.2.2.2.1, .int .i64 p2.2.2.2.2.2.2.2.2.2]), (some 7, b1, [.int .i64 p2.1, .int .i64 p2.2.1, .int .i64 p2.2.2.1, .int .i64 p2.2.2.2.1, .int .i64 p2.2.2.2.2.1, .int .i64 p2.2.2.2.2.2.1, .int .i64 p2.2.2.2.2.2.2.1, .int .i64 p2.2.2.2.2.2.2.2.1, .int .i64 p2.2.2.2.2.2.2.2.2.1, .int .i64 p2.2.2.2.2.2.2.2.2.2])]) (NZ3 := []) W Aa Aa (all_cons (fun h => AO (by kernel_rfl) h) (all_cons (fun _ => (.tail _ (.head _))) As)) As ?_
  refine DB Aa ?_
  obtain ⟨x7, h6, H⟩ := An H
  have W := W.frontZ (i := 6) Aa Aa
  have W := W.frontZ (i := 6) Aa Aa
  have W := W.frontZ (i := 6) Aa Aa
  have W := W.frontM (i := 2) Aa Aa
  refine Bq (Ml := [(q_p1, [.int .i64 p1.1.1, v4, v5, v6])]) (Zl := [AC v4 A6 p1.1.2.1, AC v5 Bg p1.1.2.2, row v6 64 BM p1.2]) (M := [(q_p0, [.int .i64 x6.2.1.1, v20, v21, v22]), (b1, (Cb p2))]) (Z := [AC v20 A6 x6.2.1.2.1, AC v21 Bg x6.2.1.2.2, row v22 51 AF x6.2.2, row v19 51 AF x6.1]) (β := Value × Value × Value × Value) (rv := fun x => x.1) (MM := fun x => [(q_p1, [.int .i64 x7.2.1.1, x.2.1, x.2.2.1, x.2.2.2])]) (ZZ := fun x => [AC x.2.1 A6 x7.2.1.2.1, AC x.2.2.1 Bg x7.2.1.2.2, row x.2.2.2 64 BM x7.2.2, row x.1 64 BM x7.1]) F W Na Aa Aa (fun hL => GB _ _ w q_p1 (v4) (v5) (v6) p1 p2.2.1 _ h6 hL) fun x a w F W => ?_
  obtain ⟨v23, v24, v25, v26⟩ := x
  have W : Stw ⟨Y, X, w0⟩ [(q_p1, [.int .i64 x7.2.1.1, v24, v25, v26]), (q_p0, [.int .i64 x6.2.1.1, v20, v21, v22]), (b1, (Cb p2))] [AC v24 A6 x7.2.1.2.1, AC v25 Bg x7.2.1.2.2, row v26 64 BM x7.2.2, row v23 64 BM x7.1, AC v20 A6 x6.2.1.2.1, AC v21 Bg x6.2.1.2.2, row v22 51 AF x6.2.2, row v19 51 AF x6.1] w := W
  refine BB (N2 := []) (NZ2 := []) (N3 := [(some 3, b1, [.int .i64 p2.1, .int .i64 p2.2.1, .int .i64 p2.2.2.1, .int .i64 p2.2.2.2.1, .int .i64 p2.2.2.2.2.1, .int .i64 p2.2.2.2.2.2.1, .int .i64 p2.2.2.2.2.2.2.1, .int .i64 p2.2.2.2.2.2.2.2.1, .int .i64 p2.2.2.2.2.2.2.2.2.1, .int .i64 p2.2.2.2.2.2.2.2.2.2]), (some 7, b1, [.int .i64 p2.1, .int .i64 p2.2.1, .int .i64 p2.2.2.1, .int .i64 p2.2.2.2.1, .int .i64 p2.2.2.2.2.1, .int .i64 p2.2.2.2.2.2.1, .int .i64 p2.2.2.2.2.2.2.1, .int .i64 p2.2.2.2.2.2.2.2.1, .int .i64 p2.2.2.2.2.2.2.2.2.1, .int .i64 p2.2.2.2.2.2.2.2.2.2])]) (NZ3 := []) W Aa Aa (all_cons (fun h => AO (by kernel_rfl) h) (all_cons (fun h => AO (by kernel_rfl) h) As)) As ?_
  refine DB Aa ?_
  obtain ⟨x8, h7, H⟩ := An H
  refine ls F W Aa (Bv (v := Value.bool x8) F MS Aa (fun w W => Iy any w (v19) (v23) x6.1 x7.1 _ h7 (((AA 7 Aa) : CY _ _ _ _ _ _) w W).nx (((AA 3 Aa) : CY _ _ _ _ _ _) w W).nx)) fun a w F W => ?_
  refine BB (N2 := []) (NZ2 := []) (N3 := [(some 3, b1, [.int .i64 p2.1, .int .i64 p2.2.1, .int .i64 p2.2.2.1, .int .i64 p2.2.2.2.1, .int .i64 p2.2.2.2.2.1, .int .i64 p2.2.2.2.2.2.1, .int .i64 p2.2.2.2.2.2.2.1, .int .i64 p2.2.2.2.2.2.2.2.1, .int .i64 p2.2.2.2.2.2.2.2.2.1, .int .i64 p2.2.2.2.2.2.2.2.2.2]), (some 7, b1, [.int .i64 p2.1, .int .i64 p2.2.1, .int .i64 p2.2.2.1, .int .i64 p2.2.2.2.1, .int .i64 p2.2.2.2.2.1, .int .i64 p2.2.2.2.2.2.1, .int .i64 p2.2.2.2.2.2.2.1, .int .i64 p2.2.2.2.2.2.2.2.1, .int .i64 p2.2.2.2.2.2.2.2.2.1, .int .i64 p2.2.2.2.2.2.2.2.2.2])]) (NZ3 := []) W Aa Aa (all_cons (fun h => AO (by kernel_rfl) h) (all_cons (fun h => AO (by kernel_rfl) h) As)) As ?_
  refine DB Aa ?_
  refine ls F W Aa (Af F Aa).q fun a w F W => ?_
  refine BB (N2 := []) (NZ2 := []) (N3 := [(some 3, b1, [.int .i64 p2.1, .int .i64 p2.2.1, .int .i64 p2.2.2.1, .int .i64 p2.2.2.2.1, .int .i64 p2.2.2.2.2.1, .int .i64 p2.2.2.2.2.2.1, .int .i64 p2.2.2.2.2.2.2.1, .int .i64 p2.2.2.2.2.2.2.2.1, .int .i64 p2.2.2.2.2.2.2.2.2.1, .int .i64 p2.2.2.2.2.2.2.2.2.2]), (some 7, b1, [.int .i64 p2.1, .int .i64 p2.2.1, .int .i64 p2.2.2.1, .int .i64 p2.2.2.2.1, .int .i64 p2.2.2.2.2.1, .int .i64 p2.2.2.2.2.2.1, .int .i64 p2.2.2.2.2.2.2.1, .int .i64 p2.2.2.2.2.2.2.2.1, .int .i64 p2.2.2.2.2.2.2.2.2.1, .int .i64 p2.2.2.2.2.2.2.2.2.2])]) (NZ3 := []) W Aa Aa (all_cons (fun h => AO (by kernel_rfl) h) (all_cons (fun h => AO (by kernel_rfl) h) As)) As ?_
  refine Ej (Ac (AB (BG ?_)))
  have H := A3 H
  subst H
  refine Bh (.inl Aa) F W Aa (Aq F Aa) ?_
  have W := W.frontZ (i := 2) Aa Aa
  have W := W.frontZ (i := 2) Aa Aa
  have W := W.frontZ (i := 2) Aa Aa
  have W := W.frontZ (i := 6) Aa Aa
  have W := W.frontZ (i := 6) Aa Aa
  have W := W.frontZ (i := 6) Aa Aa
  have W := W.frontM (i := 1) Aa Aa
  have W := W.sub (M' := [(q_p0, [.int .i64 x6.2.1.1, v20, v21, v22]), (q_p1, [.int .i64 x7.2.1.1, v24, v25, v26])]) (Z' := [AC v20 A6 x6.2.1.2.1, AC v21 Bg x6.2.1.2.2, row v22 51 AF x6.2.2, AC v24 A6 x7.2.1.2.1, AC v25 Bg x7.2.1.2.2, row v26 64 BM x7.2.2]) (List.Sublist.cons_cons _ (List.Sublist.cons_cons _ (List.nil_sublist _))) (List.Sublist.cons_cons _ (List.Sublist.cons_cons _ (List.Sublist.cons_cons _ (List.Sublist.cons_cons _ (List.Sublist.cons_cons _ (List.Sublist.cons_cons _ (List.nil_sublist _)))))))
  exact ⟨((v20), (v21), (v22), (v24), (v25), (v26)), Aa, W⟩
 have H := A9 (BH hb) H
 rw [hb] at F
 clear hb
 refine Ai (Ab ?_)
 refine ls F W Aa (BQ F Aa Aa).q fun a w F W => ?_
 refine ls F W Aa (Af F Aa).q fun a w F W => ?_
 refine Ae (Ac ?_)
 refine Ay F Aa (fun hb => ?_) fun hb => ?_
 ·
  have H := A8 (BI hb) H
  rw [hb] at F
  clear hb
  refine Ai (Ab ?_)
  refine ls F W Aa (Ad F Aa).q fun a w F W => ?_
  refine ls F W Aa (Ag EP Aa Aa Aa T3 F Aa 5 Aa).q fun a w F W => ?_
  refine ls F W Aa (Al (v := Value.int .i64 p2.2.2.2.2.2.1) 0 F Aa Aa T3 Aa).q fun a w F W => ?_
  obtain ⟨x9, h8, H⟩ := An H
  refine ls F W Aa (Bv (v := Value.tuple #[.agg #[.int .i64 x9.1.1, .int .i64 x9.1.2.1, .int .i64 x9.1.2.2.1, .int .i64 x9.1.2.2.2.1.1, .int .i64 x9.1.2.2.2.1.2.1, .int .i64 x9.1.2.2.2.1.2.2.1, .int .i64 x9.1.2.2.2.1.2.2.2, .int .i64 x9.1.2.2.2.2.1, .int .i64 x9.1.2.2.2.2.2], .int .i64 x9.2]) F LQ Aa (fun w W => Ew any w q_p0 (v1) (v2) (v3) p0 p2.2.2.2.2.2.1 _ h8 (((Br 0 Aa) : CY _ _ _ _ _ _) w W).nx (((Br 1 Aa) : CY _ _ _ _ _ _) w W).nx (((AA 2 Aa) : CY _ _ _ _ _ _) w W).nx (GD W 1 Aa))) fun a w F W => ?_
  refine ls F W Aa (Ad F Aa).q fun a w F W => ?_
  refine ls F W Aa (AK (v := Value.agg #[.int .i64 x9.1.1, .int .i64 x9.1.2.1, .int .i64 x9.1.2.2.1, .int .i64 x9.1.2.2.2.1.1, .int .i64 x9.1.2.2.2.1.2.1, .int .i64 x9.1.2.2.2.1.2.2.1, .int .i64 x9.1.2.2.2.1.2.2.2, .int .i64 x9.1.2.2.2.2.1, .int .i64 x9.1.2.2.2.2.2]) F Aa Aa).q fun a w F W => ?_
  refine ls F W Aa (AK (v := Value.int .i64 x9.2) F Aa Aa).q fun a w F W => ?_
  refine Bx (cs := (Cm)) F W Aa HQ Aa fun b4 a w F W => ?_
  refine Ba (vs := (El x9)) (M' := [(b4, (El x9)), (b1, (Cb p2)), (q_p0, [.int .i64 p0.1.1, v1, v2, v3]), (q_p1, [.int .i64 p1.1.1, v4, v5, v6])]) 0 F W Aa Aa Aa Do Aa Aa Aa Aa Aa fun w W => ?_
  refine ls F W Aa (Af F Aa).q fun a w F W => ?_
  refine Ae (Ac (Ai (Ab ?_)))
  refine ls F W Aa (Ad F Aa).q fun a w F W => ?_
  refine ls F W Aa (Ag EP Aa Aa Aa T3 F Aa 5 Aa).q fun a w F W => ?_
  refine ls F W Aa (Al (v := Value.int .i64 p2.2.2.2.2.2.1) 1 F Aa Aa T3 Aa).q fun a w F W => ?_
  obtain ⟨x10, h9, H⟩ := An H
  refine ls F W Aa (Bv (v := Value.tuple #[.agg #[.int .i64 x10.1.1, .int .i64 x10.1.2.1, .int .i64 x10.1.2.2.1, .int .i64 x10.1.2.2.2.1.1, .int .i64 x10.1.2.2.2.1.2.1, .int .i64 x10.1.2.2.2.1.2.2.1, .int .i64 x10.1.2.2.2.1.2.2.2, .int .i64 x10.1.2.2.2.2.1, .int .i64 x10.1.2.2.2.2.2], .int .i64 x10.2]) F Me Aa (fun w W => EK any w q_p1 (v4) (v5) (v6) p1 p2.2.2.2.2.2.1 _ h9 (((Br 3 Aa) : CY _ _ _ _ _ _) w W).nx (((Br 4 Aa) : CY _ _ _ _ _ _) w W).nx (((AA 5 Aa) : CY _ _ _ _ _ _) w W).nx (GD W 3 Aa))) fun a w F W => ?_
  refine ls F W Aa (Ad F Aa).q fun a w F W => ?_
  refine ls F W Aa (AK (v := Value.agg #[.int .i64 x10.1.1, .int .i64 x10.1.2.1, .int .i64 x10.1.2.2.1, .int .i64 x10.1.2.2.2.1.1, .int .i64 x10.1.2.2.2.1.2.1, .int .i64 x10.1.2.2.2.1.2.2.1, .int .i64 x10.1.2.2.2.1.2.2.2, .int .i64 x10.1.2.2.2.2.1, .int .i64 x10.1.2.2.2.2.2]) F Aa Aa).q fun a w F W => ?_
  refine ls F W Aa (AK (v := Value.int .i64 x10.2) F Aa Aa).q fun a w F W => ?_
  refine Bx (cs := (Cm)) F W Aa J3 Aa fun b5 a w F W => ?_
  refine Ba (vs := (El x10)) (M' := [(b5, (El x10)), (b4, (El x9)), (b1, (Cb p2)), (q_p0, [.int .i64 p0.1.1, v1, v2, v3]), (q_p1, [.int .i64 p1.1.1, v4, v5, v6])]) 0 F W Aa Aa Aa GP Aa Aa Aa Aa Aa fun w W => ?_
  refine ls F W Aa (Af F Aa).q fun a w F W => ?_
  refine Ae (Ac ?_)
  refine AN (fun a w => Fr 109 [] [(6, .bool ((CB x9.1 x10.1) && decide (x9.2 = x10.2)))] a ∧ Stw ⟨Y, X, w0⟩ [(b5, (El x10)), (b4, (El x9)), (b1, (Cb p2)), (q_p0, [.int .i64 p0.1.1, v1, v2, v3]), (q_p1, [.int .i64 p1.1.1, v4, v5, v6])] [AC v1 A6 p0.1.2.1, AC v2 Bg p0.1.2.2, row v3 51 AF p0.2, AC v4 A6 p1.1.2.1, AC v5 Bg p1.1.2.2, row v6 64 BM p1.2] w) ?_ ?_
  ·
   refine Ab ?_
   refine ls F W Aa (Al (v := Value.agg #[.int .i64 x9.1.1, .int .i64 x9.1.2.1, .int .i64 x9.1.2.2.1, .int .i64 x9.1.2.2.2.1.1, .int .i64 x9.1.2.2.2.1.2.1, .int .i64 x9.1.2.2.2.1.2.2.1, .int .i64 x9.1.2.2.2.1.2.2.2, .int .i64 x9.1.2.2.2.2.1, .int .i64 x9.1.2.2.2.2.2]) 1 F Aa Aa Do Aa).q fun a w F W => ?_
   refine ls F W Aa (Al (v := Value.agg #[.int .i64 x10.1.1, .int .i64 x10.1.2.1, .int .i64 x10.1.2.2.1, .int .i64 x10.1.2.2.2.1.1, .int .i64 x10.1.2.2.2.1.2.1, .int .i64 x10.1.2.2.2.1.2.2.1, .int .i64 x10.1.2.2.2.1.2.2.2, .int .i64 x10.1.2.2.2.2.1, .int .i64 x10.1.2.2.2.2.2]) 0 F Aa Aa GP Aa).q fun a w F W => ?_
   refine ls F W Aa (Bv (v := Value.bool (CB x9.1 x10.1)) F L7 Aa (fun w W => FE any w x9.1 x10.1 _ Aa)) fun a w F W => ?_
   refine ls F W Aa (Ad F Aa).q fun a w F W => ?_
   rcases Bool.eq_false_or_eq_true (CB x9.1 x10.1) with hb0 | hb0
   ·
    rw [hb0] at F
    iterate 2 refine Az F W (Ah F Aa Aa Aa Aa) Aa (Am Aa) (Ad F Aa).q fun a w F W => ?_
    refine Az F W (Ah F Aa Aa Aa Aa) Aa (Am Aa) (BQ F Aa Aa).q fun a w F W => ?_
    refine ls F W Aa (Ao F Aa Aa Aa).q fun a w F W => ?_
    refine ls F W Aa (Af F Aa).q fun a w F W => ?_
    refine Ae (Ac ?_)
    exact ⟨F.re ⟨(DZ (by try rw [hb0]; all_goals simp only [DT])), trivial⟩, W⟩
   rw [hb0] at F
   iterate 3 refine BX F Aa Aa Aa Aa Aa Aa Aa fun a F => ?_
   refine ls F W Aa (Aj F Aa Aa Aa).q fun a w F W => ?_
   refine ls F W Aa (Af F Aa).q fun a w F W => ?_
   refine Ae (Ac ?_)
   exact ⟨F.re ⟨(DZ (by try rw [hb0]; all_goals simp only [DT])), trivial⟩, W⟩
  rintro a w ⟨F, W⟩
  refine AB (BG ?_)
  have H := A3 H
  subst H
  refine Bh (.inl Aa) F W Aa (Aq F Aa) ?_
  have W := W.frontZ (i := 5) Aa Aa
  have W := W.frontZ (i := 5) Aa Aa
  have W := W.frontZ (i := 5) Aa Aa
  have W := W.frontZ (i := 5) Aa Aa
  have W := W.frontZ (i := 5) Aa Aa
  have W := W.frontZ (i := 5) Aa Aa
  have W := W.frontM (i := 4) Aa Aa
  have W := W.frontM (i := 4) Aa Aa
  have W := W.sub (M' := [(q_p0, [.int .i64 p0.1.1, v1, v2, v3]), (q_p1, [.int .i64 p1.1.1, v4, v5, v6])]) (Z' := [AC v1 A6 p0.1.2.1, AC v2 Bg p0.1.2.2, row v3 51 AF p0.2, AC v4 A6 p1.1.2.1, AC v5 Bg p1.1.2.2, row v6 64 BM p1.2]) (List.Sublist.cons_cons _ (List.Sublist.cons_cons _ (List.nil_sublist _))) (List.Sublist.refl _)
  exact ⟨((v1), (v2), (v3), (v4), (v5), (v6)), Aa, W⟩
 have H := A9 (BH hb) H
 rw [hb] at F
 clear hb
 refine Ai (Ab ?_)
 refine ls F W Aa (Af F Aa).q fun a w F W => ?_
 refine Ae (Ac (AB (BG ?_)))
 have H := A3 H
 subst H
 refine Bh (.inl Aa) F W Aa (Aq F Aa) ?_
 have W := W.frontZ (i := 5) Aa Aa
 have W := W.frontZ (i := 5) Aa Aa
 have W := W.frontZ (i := 5) Aa Aa
 have W := W.frontZ (i := 5) Aa Aa
 have W := W.frontZ (i := 5) Aa Aa
 have W := W.frontZ (i := 5) Aa Aa
 have W := W.frontM (i := 2) Aa Aa
 have W := W.frontM (i := 2) Aa Aa
 have W := W.sub (M' := [(q_p0, [.int .i64 p0.1.1, v1, v2, v3]), (q_p1, [.int .i64 p1.1.1, v4, v5, v6])]) (Z' := [AC v1 A6 p0.1.2.1, AC v2 Bg p0.1.2.2, row v3 51 AF p0.2, AC v4 A6 p1.1.2.1, AC v5 Bg p1.1.2.2, row v6 64 BM p1.2]) (List.Sublist.cons_cons _ (List.Sublist.cons_cons _ (List.nil_sublist _))) (List.Sublist.refl _)
 exact ⟨((v1), (v2), (v3), (v4), (v5), (v6)), Aa, W⟩
end Go.Proofs.Ytemacefkdopgaaa
