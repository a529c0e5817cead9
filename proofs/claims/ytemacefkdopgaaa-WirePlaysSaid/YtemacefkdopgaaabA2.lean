/- The functions of layer 35, EV. Conditions: none. -/
import Derived.Test.YtemacefkdopgaaabA1
namespace Go.Proofs.Ytemacefkdopgaaa
open Go Go.RowKit
set_option linter.unusedVariables false
set_option linter.unusedSimpArgs false
set_option maxRecDepth 20000
theorem L9 : Has Try.prog 30 := ⟨fun args w => Ak Try.func30 rfl (by decide) args w⟩
noncomputable def DM (p0 : Int × (List (Int × Int × Int × Int × Int × Int)) × (List (Int × Int))) : Int → Option (Int ⊕ (Unit ⊕ Bool))
  | x1 => (if x1 < (p0.2.1.length : Int) then (ix p0.2.1 x1).bind fun x2 => (if x2.1 = x2.2.2.1 then some true else (if x2.2.2.2.2.1 < 1 then some true else (if x2.2.2.2.2.2 < x2.2.2.2.2.1 then some true else (if 1000 < x2.2.2.2.2.2 then some true else (Ek p0 x2.1 x2.2.1).bind fun x4 => (if (!x4) = true then some true else (Ek p0 x2.2.2.1 x2.2.2.2.1).bind fun x5 => some (!x5)))))).bind fun x3 => (if x3 = true then some (.inr (.inr false)) else some (.inl (AD (x1 + 1)))) else some (.inr (.inl ())))
noncomputable def DE (p0 : Int × (List (Int × Int × Int × Int × Int × Int)) × (List (Int × Int))) : Int → Option (Int ⊕ (Unit ⊕ Bool))
  | x6 => (if x6 < (p0.2.2.length : Int) then (ix p0.2.2 x6).bind fun x7 => (ix p0.2.2 x6).bind fun x8 => (Ek p0 x7.1 x8.2).bind fun x9 => (if (!x9) = true then some (.inr (.inr false)) else some (.inl (AD (x6 + 1)))) else some (.inr (.inl ())))
noncomputable def ES (p0 : Int × (List (Int × Int × Int × Int × Int × Int)) × (List (Int × Int))) : Option Bool := (if (decide (p0.1 < 1) || (decide (8 < p0.1) || (decide (24 < (p0.2.1.length : Int)) || decide (8 < (p0.2.2.length : Int))))) = true then some false else Hd (AU (DM p0) 0) fun _ => Hd (AU (DE p0) 0) fun _ => some true)
theorem H0 (Y : Nat → Prop) (w0 : World) (v1 : Value) (v2 : Value) (p0 : Int × (List (Int × Int × Int × Int × Int × Int)) × (List (Int × Int))) (r : Bool) (H : ES p0 = some r) (h_v1 : Sl w0 (NX []) A6 v1 p0.2.1) (h_v2 : Sl w0 (NX []) Bg v2 p0.2.2) :
    Calls Try.prog 14 #[.agg #[.int .i64 p0.1, v1, v2]] w0 fun e w' => e = .returned (.bool r) ∧ Below w0.heap.size w0 w' := by
 refine enter Try.func14 Aa Try.ntmps14 Aa fun a F => ?_
 have W := Stw.start Y w0
 unfold ES at H
 refine Ai (Ab ?_)
 refine Dv (cs := [.int .i64 p0.1, v1, v2]) F W Aa Aa Aa fun b1 a w F W => ?_
 refine ls F W Aa (Af F Aa).q fun a w F W => ?_
 refine Ae (Ac (Ai ?_))
 refine AN (fun a w => Fr 100 [] [(1, .pointer (some ⟨b1, 0, none⟩)), (2, .bool false), (25, .bool (decide (p0.1 < 1) || (decide (8 < p0.1) || (decide (24 < (p0.2.1.length : Int)) || decide (8 < (p0.2.2.length : Int))))))] a ∧ Stw ⟨Y, [], w0⟩ [(b1, [.int .i64 p0.1, v1, v2])] [] w) ?_ ?_
 ·
  refine Ab ?_
  refine ls F W Aa (Ag C5 Aa Aa Aa T3 F Aa 0 Aa).q fun a w F W => ?_
  refine ls F W Aa (Al (v := Value.int .i64 p0.1) 0 F Aa Aa T3 Aa).q fun a w F W => ?_
  refine ls F W Aa (BD F Aa Aa).q fun a w F W => ?_
  refine ls F W Aa (Ad F Aa).q fun a w F W => ?_
  rcases Bool.eq_false_or_eq_true (decide (p0.1 < 1)) with hb0 | hb0
  ·
   rw [hb0] at F
   iterate 3 refine BX F Aa Aa Aa Aa Aa Aa Aa fun a F => ?_
   refine ls F W Aa (Ao F Aa Aa Aa).q fun a w F W => ?_
   refine ls F W Aa (Ad F Aa).q fun a w F W => ?_
   iterate 4 refine BX F Aa Aa Aa Aa Aa Aa Aa fun a F => ?_
   refine ls F W Aa (Ao F Aa Aa Aa).q fun a w F W => ?_
   refine ls F W Aa (Ad F Aa).q fun a w F W => ?_
   iterate 4 refine BX F Aa Aa Aa Aa Aa Aa Aa fun a F => ?_
   refine ls F W Aa (Ao F Aa Aa Aa).q fun a w F W => ?_
   refine Ae (Ac ?_)
   exact ⟨F.re ⟨rfl, Aa, (DZ (by try rw [hb0]; all_goals simp only [DT])), trivial⟩, W⟩
  rw [hb0] at F
  refine Az F W (Ah F Aa Aa Aa Aa) Aa (Am Aa) (Ag C5 Aa Aa Aa T3 F Aa 0 Aa).q fun a w F W => ?_
  refine Az F W (Ah F Aa Aa Aa Aa) Aa (Am Aa) (Al (v := Value.int .i64 p0.1) 0 F Aa Aa T3 Aa).q fun a w F W => ?_
  refine Az F W (Ah F Aa Aa Aa Aa) Aa (Am Aa) (DF F Aa Aa).q fun a w F W => ?_
  refine ls F W Aa (Aj F Aa Aa Aa).q fun a w F W => ?_
  refine ls F W Aa (Ad F Aa).q fun a w F W => ?_
  rcases Bool.eq_false_or_eq_true (decide (8 < p0.1)) with hb1 | hb1
  ·
   rw [hb1] at F
   iterate 4 refine BX F Aa Aa Aa Aa Aa Aa Aa fun a F => ?_
   refine ls F W Aa (Ao F Aa Aa Aa).q fun a w F W => ?_
   refine ls F W Aa (Ad F Aa).q fun a w F W => ?_
   iterate 4 refine BX F Aa Aa Aa Aa Aa Aa Aa fun a F => ?_
   refine ls F W Aa (Ao F Aa Aa Aa).q fun a w F W => ?_
   refine Ae (Ac ?_)
   exact ⟨F.re ⟨rfl, Aa, (DZ (by try rw [hb0]; try rw [hb1]; all_goals simp only [DT])), trivial⟩, W⟩
  rw [hb1] at F
  refine Az F W (Ah F Aa Aa Aa Aa) Aa (Am Aa) (Ag C5 Aa Aa Aa Fn F Aa 1 Aa).q fun a w F W => ?_
  refine Az F W (Ah F Aa Aa Aa Aa) Aa (Am Aa) (Al (v := v1) 0 F Aa Aa Fn Aa).q fun a w F W => ?_
  refine Az F W (Ah F Aa Aa Aa Aa) Aa (Am Aa) (Cg (r := A6) (l := p0.2.1) GZ Aa F Aa (Av h_v1)).q fun a w F W => ?_
  refine Az F W (Ah F Aa Aa Aa Aa) Aa (Am Aa) (DF F Aa Aa).q fun a w F W => ?_
  refine ls F W Aa (Aj F Aa Aa Aa).q fun a w F W => ?_
  refine ls F W Aa (Ad F Aa).q fun a w F W => ?_
  rcases Bool.eq_false_or_eq_true (decide (24 < (p0.2.1.length : Int))) with hb2 | hb2
  ·
   rw [hb2] at F
   iterate 4 refine BX F Aa Aa Aa Aa Aa Aa Aa fun a F => ?_
   refine ls F W Aa (Ao F Aa Aa Aa).q fun a w F W => ?_
   refine Ae (Ac ?_)
   exact ⟨F.re ⟨rfl, Aa, (DZ (by try rw [hb2]; try rw [hb0]; try rw [hb1]; all_goals simp only [DT])), trivial⟩, W⟩
  rw [hb2] at F
  refine Az F W (Ah F Aa Aa Aa Aa) Aa (Am Aa) (Ag C5 Aa Aa Aa He F Aa 2 Aa).q fun a w F W => ?_
  refine Az F W (Ah F Aa Aa Aa Aa) Aa (Am Aa) (Al (v := v2) 0 F Aa Aa He Aa).q fun a w F W => ?_
  refine Az F W (Ah F Aa Aa Aa Aa) Aa (Am Aa) (Cg (r := Bg) (l := p0.2.2) Ix Aa F Aa (Av h_v2)).q fun a w F W => ?_
  refine Az F W (Ah F Aa Aa Aa Aa) Aa (Am Aa) (DF F Aa Aa).q fun a w F W => ?_
  refine ls F W Aa (Aj F Aa Aa Aa).q fun a w F W => ?_
  refine Ae (Ac ?_)
  exact ⟨F.re ⟨rfl, Aa, (DZ (by try rw [hb2]; try rw [hb0]; try rw [hb1]; all_goals simp only [DT])), trivial⟩, W⟩
 rintro a w ⟨F, W⟩
 refine Ay F Aa (fun hb => ?_) fun hb => ?_
 ·
  have H := A8 hb H
  rw [hb] at F
  clear hb
  refine Ai (Ab ?_)
  refine ls F W Aa (Af F Aa).q fun a w F W => ?_
  refine Ae (Ac (AB (AQ ?_)))
  have H := A3 H
  subst H
  refine Bh (.inl Aa) F W Aa (Aq F Aa) ?_
  exact ⟨rfl, W.done⟩
 have H := A9 (by rw [hb]; decide) H
 rw [hb] at F
 clear hb
 refine Ap (Ac ?_)
 obtain ⟨o1, G1, K1, L1⟩ := J2 H
 refine AN (fun a w => some (Sum.inl ()) = some o1 ∧ Fr 100 [] [(1, .pointer (some ⟨b1, 0, none⟩)), (2, .bool false)] a ∧ Stw ⟨Y, [], w0⟩ [(b1, [.int .i64 p0.1, v1, v2])] [] w) ?_ ?_
 ·
  have H := G1
  clear G1 K1
  refine Ai (Ab ?_)
  refine ls F W Aa (Af F Aa).q fun a w F W => ?_
  refine Ae (Ac (Ax ?_))
  refine BA H (fun s a w => Fr 100 [] [(1, .pointer (some ⟨b1, 0, none⟩)), (2, .bool false), (3, .int .i64 s)] a ∧ Stw ⟨Y, [], w0⟩ [(b1, [.int .i64 p0.1, v1, v2])] [] w) ⟨F.re ⟨rfl, Aa, Aa, trivial⟩, W⟩ fun s o a w H L2 hR => ?_
  obtain ⟨x1, rfl⟩ : ∃ x, x = s := ⟨s, rfl⟩
  obtain ⟨F, W⟩ := hR
  have F : Fr 100 [] [(1, .pointer (some ⟨b1, 0, none⟩)), (2, .bool false), (3, .int .i64 x1)] a := F
  have W : Stw ⟨Y, [], w0⟩ [(b1, [.int .i64 p0.1, v1, v2])] [] w := W
  rw [DM] at H
  refine Ai (Ai (Ab ?_))
  refine ls F W Aa (Ad F Aa).q fun a w F W => ?_
  refine ls F W Aa (Ag C5 Aa Aa Aa Fn F Aa 1 Aa).q fun a w F W => ?_
  refine ls F W Aa (Al (v := v1) 0 F Aa Aa Fn Aa).q fun a w F W => ?_
  refine ls F W Aa (Cg (r := A6) (l := p0.2.1) GZ Aa F Aa (Av h_v1)).q fun a w F W => ?_
  refine ls F W Aa (BD F Aa Aa).q fun a w F W => ?_
  refine Ae (Ac ?_)
  refine Ay F Aa (fun hb => ?_) fun hb => ?_
  ·
   have H := A8 (BI hb) H
   rw [hb] at F
   clear hb
   refine Ap (Ac (Ai (Ax (Ai (Ab ?_)))))
   refine ls F W Aa (Ag C5 Aa Aa Aa Fn F Aa 1 Aa).q fun a w F W => ?_
   refine ls F W Aa (Al (v := v1) 0 F Aa Aa Fn Aa).q fun a w F W => ?_
   refine ls F W Aa (Ad F Aa).q fun a w F W => ?_
   obtain ⟨x2, h1, H⟩ := An H
   refine ls F W Aa (Be (r := A6) Jo F Aa Aa (Av h_v1) h1).q fun a w F W => ?_
   refine ls F W Aa (AE (y := Value.agg #[.int .i64 x2.1, .int .i64 x2.2.1, .int .i64 x2.2.2.1, .int .i64 x2.2.2.2.1, .int .i64 x2.2.2.2.2.1, .int .i64 x2.2.2.2.2.2]) (j := 0) (i := x1) F Aa Aa (Av h_v1) h1 Jq.to I1 Aa).q fun a w F W => ?_
   refine Bx (cs := (I5)) F W Aa KD Aa fun b2 a w F W => ?_
   refine Ba (vs := (GQ x2)) (M' := (GY b2 x2 b1 p0 v1 v2)) 0 F W Aa Aa Aa I1 Aa Aa Aa Aa Aa fun w W => ?_
   refine Ae (Ac ?_)
   obtain ⟨o3, G3, K3⟩ := An H
   refine AN (fun a w => ∃ x3 : Bool, some (x3) = some o3 ∧ Fr 100 [] [(1, .pointer (some ⟨b1, 0, none⟩)), (2, .bool false), (3, .int .i64 x1), (77, .bool x3)] a ∧ Stw ⟨Y, [], w0⟩ (GY b2 x2 b1 p0 v1 v2) [] w) ?_ ?_
   ·
    have H := G3
    clear G3 K3
    refine Ab ?_
    refine ls F W Aa (Ag Cz Aa Aa Aa T3 F Aa 0 Aa).q fun a w F W => ?_
    refine ls F W Aa (Al (v := Value.int .i64 x2.1) 0 F Aa Aa T3 Aa).q fun a w F W => ?_
    refine ls F W Aa (Ag Cz Aa Aa Aa T3 F Aa 2 Aa).q fun a w F W => ?_
    refine ls F W Aa (Al (v := Value.int .i64 x2.2.2.1) 0 F Aa Aa T3 Aa).q fun a w F W => ?_
    refine ls F W Aa (BQ F Aa Aa).q fun a w F W => ?_
    refine ls F W Aa (Ad F Aa).q fun a w F W => ?_
    rcases Bool.eq_false_or_eq_true (decide (x2.1 = x2.2.2.1)) with hb | hb
    ·
     have H := A8 (BI hb) H
     rw [hb] at F
     clear hb
     iterate 3 refine BX F Aa Aa Aa Aa Aa Aa Aa fun a F => ?_
     refine ls F W Aa (Ao F Aa Aa Aa).q fun a w F W => ?_
     refine ls F W Aa (Ad F Aa).q fun a w F W => ?_
     iterate 5 refine BX F Aa Aa Aa Aa Aa Aa Aa fun a F => ?_
     refine ls F W Aa (Ao F Aa Aa Aa).q fun a w F W => ?_
     refine ls F W Aa (Ad F Aa).q fun a w F W => ?_
     iterate 3 refine BX F Aa Aa Aa Aa Aa Aa Aa fun a F => ?_
     refine ls F W Aa (Ao F Aa Aa Aa).q fun a w F W => ?_
     refine ls F W Aa (Ad F Aa).q fun a w F W => ?_
     iterate 7 refine BX F Aa Aa Aa Aa Aa Aa Aa fun a F => ?_
     refine ls F W Aa (Ao F Aa Aa Aa).q fun a w F W => ?_
     refine ls F W Aa (Ad F Aa).q fun a w F W => ?_
     iterate 7 refine BX F Aa Aa Aa Aa Aa Aa Aa fun a F => ?_
     refine ls F W Aa (Ao F Aa Aa Aa).q fun a w F W => ?_
     refine Ae (Ac ?_)
     have W := W.frontM (i := 1) Aa Aa
     have W := W.frontM (i := 1) Aa Aa
     exact ⟨_, H, F.re ⟨rfl, Aa, Aa, Aa, trivial⟩, W⟩
    have H := A9 (BH hb) H
    rw [hb] at F
    clear hb
    refine Az F W (Ah F Aa Aa Aa Aa) Aa (Am Aa) (Ag Cz Aa Aa Aa T3 F Aa 4 Aa).q fun a w F W => ?_
    refine Az F W (Ah F Aa Aa Aa Aa) Aa (Am Aa) (Al (v := Value.int .i64 x2.2.2.2.2.1) 0 F Aa Aa T3 Aa).q fun a w F W => ?_
    refine Az F W (Ah F Aa Aa Aa Aa) Aa (Am Aa) (BD F Aa Aa).q fun a w F W => ?_
    refine ls F W Aa (Aj F Aa Aa Aa).q fun a w F W => ?_
    refine ls F W Aa (Ad F Aa).q fun a w F W => ?_
    rcases Bool.eq_false_or_eq_true (decide (x2.2.2.2.2.1 < 1)) with hb | hb
    ·
     have H := A8 (BI hb) H
     rw [hb] at F
     clear hb
     iterate 5 refine BX F Aa Aa Aa Aa Aa Aa Aa fun a F => ?_
     refine ls F W Aa (Ao F Aa Aa Aa).q fun a w F W => ?_
     refine ls F W Aa (Ad F Aa).q fun a w F W => ?_
     iterate 3 refine BX F Aa Aa Aa Aa Aa Aa Aa fun a F => ?_
     refine ls F W Aa (Ao F Aa Aa Aa).q fun a w F W => ?_
     refine ls F W Aa (Ad F Aa).q fun a w F W => ?_
     iterate 7 refine BX F Aa Aa Aa Aa Aa Aa Aa fun a F => ?_
     refine ls F W Aa (Ao F Aa Aa Aa).q fun a w F W => ?_
     refine ls F W Aa (Ad F Aa).q fun a w F W => ?_
     iterate 7 refine BX F Aa Aa Aa Aa Aa Aa Aa fun a F => ?_
     refine ls F W Aa (Ao F Aa Aa Aa).q fun a w F W => ?_
     refine Ae (Ac ?_)
     have W := W.frontM (i := 1) Aa Aa
     have W := W.frontM (i := 1) Aa Aa
     exact ⟨_, H, F.re ⟨rfl, Aa, Aa, Aa, trivial⟩, W⟩
    have H := A9 (BH hb) H
    rw [hb] at F
    clear hb
    refine Az F W (Ah F Aa Aa Aa Aa) Aa (Am Aa) (Ag Cz Aa Aa Aa T3 F Aa 4 Aa).q fun a w F W => ?_
    refine Az F W (Ah F Aa Aa Aa Aa) Aa (Am Aa) (Al (v := Value.int .i64 x2.2.2.2.2.1) 0 F Aa Aa T3 Aa).q fun a w F W => ?_
    refine Az F W (Ah F Aa Aa Aa Aa) Aa (Am Aa) (Ag Cz Aa Aa Aa T3 F Aa 5 Aa).q fun a w F W => ?_
    refine Az F W (Ah F Aa Aa Aa Aa) Aa (Am Aa) (Al (v := Value.int .i64 x2.2.2.2.2.2) 0 F Aa Aa T3 Aa).q fun a w F W => ?_
    refine Az F W (Ah F Aa Aa Aa Aa) Aa (Am Aa) (DF F Aa Aa).q fun a w F W => ?_
    refine ls F W Aa (Aj F Aa Aa Aa).q fun a w F W => ?_
    refine ls F W Aa (Ad F Aa).q fun a w F W => ?_
    rcases Bool.eq_false_or_eq_true (decide (x2.2.2.2.2.2 < x2.2.2.2.2.1)) with hb | hb
    ·
     have H := A8 (BI hb) H
     rw [hb] at F
     clear hb
     iterate 3 refine BX F Aa Aa Aa Aa Aa Aa Aa fun a F => ?_
     refine ls F W Aa (Ao F Aa Aa Aa).q fun a w F W => ?_
     refine ls F W Aa (Ad F Aa).q fun a w F W => ?_
     iterate 7 refine BX F Aa Aa Aa Aa Aa Aa Aa fun a F => ?_
     refine ls F W Aa (Ao F Aa Aa Aa).q fun a w F W => ?_
     refine ls F W Aa (Ad F Aa).q fun a w F W => ?_
     iterate 7 refine BX F Aa Aa Aa Aa Aa Aa Aa fun a F => ?_
     refine ls F W Aa (Ao F Aa Aa Aa).q fun a w F W => ?_
     refine Ae (Ac ?_)
     have W := W.frontM (i := 1) Aa Aa
     have W := W.frontM (i := 1) Aa Aa
     exact ⟨_, H, F.re ⟨rfl, Aa, Aa, Aa, trivial⟩, W⟩
    have H := A9 (BH hb) H
    rw [hb] at F
    clear hb
    refine Az F W (Ah F Aa Aa Aa Aa) Aa (Am Aa) (Ag Cz Aa Aa Aa T3 F Aa 5 Aa).q fun a w F W => ?_
    refine Az F W (Ah F Aa Aa Aa Aa) Aa (Am Aa) (Al (v := Value.int .i64 x2.2.2.2.2.2) 0 F Aa Aa T3 Aa).q fun a w F W => ?_
    refine Az F W (Ah F Aa Aa Aa Aa) Aa (Am Aa) (DF F Aa Aa).q fun a w F W => ?_
    refine ls F W Aa (Aj F Aa Aa Aa).q fun a w F W => ?_
    refine ls F W Aa (Ad F Aa).q fun a w F W => ?_
    rcases Bool.eq_false_or_eq_true (decide (1000 < x2.2.2.2.2.2)) with hb | hb
    ·
     have H := A8 (BI hb) H
     rw [hb] at F
     clear hb
     iterate 7 refine BX F Aa Aa Aa Aa Aa Aa Aa fun a F => ?_
     refine ls F W Aa (Ao F Aa Aa Aa).q fun a w F W => ?_
     refine ls F W Aa (Ad F Aa).q fun a w F W => ?_
     iterate 7 refine BX F Aa Aa Aa Aa Aa Aa Aa fun a F => ?_
     refine ls F W Aa (Ao F Aa Aa Aa).q fun a w F W => ?_
     refine Ae (Ac ?_)
     have W := W.frontM (i := 1) Aa Aa
     have W := W.frontM (i := 1) Aa Aa
     exact ⟨_, H, F.re ⟨rfl, Aa, Aa, Aa, trivial⟩, W⟩
    have H := A9 (BH hb) H
    rw [hb] at F
    clear hb
    refine Az F W (Ah F Aa Aa Aa Aa) Aa (Am Aa) (Al (v := Value.agg #[.int .i64 p0.1, v1, v2]) 1 F Aa Aa HT Aa).q fun a w F W => ?_
    refine Az F W (Ah F Aa Aa Aa Aa) Aa (Am Aa) (Ag Cz Aa Aa Aa T3 F Aa 0 Aa).q fun a w F W => ?_
    refine Az F W (Ah F Aa Aa Aa Aa) Aa (Am Aa) (Al (v := Value.int .i64 x2.1) 0 F Aa Aa T3 Aa).q fun a w F W => ?_
    refine Az F W (Ah F Aa Aa Aa Aa) Aa (Am Aa) (Ag Cz Aa Aa Aa T3 F Aa 1 Aa).q fun a w F W => ?_
    refine Az F W (Ah F Aa Aa Aa Aa) Aa (Am Aa) (Al (v := Value.int .i64 x2.2.1) 0 F Aa Aa T3 Aa).q fun a w F W => ?_
    refine HD (Ah F Aa Aa Aa Aa) ?_
    obtain ⟨x4, h2, H⟩ := An H
    refine ls F W Aa (Bv (v := Value.bool x4) F L9 Aa (fun w W => FJ any w (v1) (v2) p0 x2.1 x2.2.1 _ h2 (((Av h_v1) : CY _ _ _ _ _ _) w W).nx (((Av h_v2) : CY _ _ _ _ _ _) w W).nx)) fun a w F W => ?_
    refine Az F W (Ah F Aa Aa Aa Aa) Aa (Am Aa) (EL F Aa).q fun a w F W => ?_
    refine ls F W Aa (Aj F Aa Aa Aa).q fun a w F W => ?_
    refine ls F W Aa (Ad F Aa).q fun a w F W => ?_
    rcases Bool.eq_false_or_eq_true (!x4) with hb | hb
    ·
     have H := A8 hb H
     rw [hb] at F
     clear hb
     iterate 7 refine BX F Aa Aa Aa Aa Aa Aa Aa fun a F => ?_
     refine ls F W Aa (Ao F Aa Aa Aa).q fun a w F W => ?_
     refine Ae (Ac ?_)
     have W := W.frontM (i := 1) Aa Aa
     have W := W.frontM (i := 1) Aa Aa
     exact ⟨_, H, F.re ⟨rfl, Aa, Aa, Aa, trivial⟩, W⟩
    have H := A9 (by rw [hb]; decide) H
    rw [hb] at F
    clear hb
    refine Az F W (Ah F Aa Aa Aa Aa) Aa (Am Aa) (Al (v := Value.agg #[.int .i64 p0.1, v1, v2]) 1 F Aa Aa HT Aa).q fun a w F W => ?_
    refine Az F W (Ah F Aa Aa Aa Aa) Aa (Am Aa) (Ag Cz Aa Aa Aa T3 F Aa 2 Aa).q fun a w F W => ?_
    refine Az F W (Ah F Aa Aa Aa Aa) Aa (Am Aa) (Al (v := Value.int .i64 x2.2.2.1) 0 F Aa Aa T3 Aa).q fun a w F W => ?_
    refine Az F W (Ah F Aa Aa Aa Aa) Aa (Am Aa) (Ag Cz Aa Aa Aa T3 F Aa 3 Aa).q fun a w F W => ?_
    refine Az F W (Ah F Aa Aa Aa Aa) Aa (Am Aa) (Al (v := Value.int .i64 x2.2.2.2.1) 0 F Aa Aa T3 Aa).q fun a w F W => ?_
    refine HD (Ah F Aa Aa Aa Aa) ?_
    obtain ⟨x5, h3, H⟩ := An H
    refine ls F W Aa (Bv (v := Value.bool x5) F L9 Aa (fun w W => FJ any w (v1) (v2) p0 x2.2.2.1 x2.2.2.2.1 _ h3 (((Av h_v1) : CY _ _ _ _ _ _) w W).nx (((Av h_v2) : CY _ _ _ _ _ _) w W).nx)) fun a w F W => ?_
    refine Az F W (Ah F Aa Aa Aa Aa) Aa (Am Aa) (EL F Aa).q fun a w F W => ?_
    refine ls F W Aa (Aj F Aa Aa Aa).q fun a w F W => ?_
    refine Ae (Ac ?_)
    have W := W.frontM (i := 1) Aa Aa
    have W := W.frontM (i := 1) Aa Aa
    exact ⟨_, H, F.re ⟨rfl, Aa, Aa, Aa, trivial⟩, W⟩
   rintro a w ⟨x3, hj, F, W⟩
   have hj := A3 hj
   subst hj
   have H := K3
   clear G3 K3
   refine Ay F Aa (fun hb => ?_) fun hb => ?_
   ·
    have H := A8 hb H
    rw [hb] at F
    clear hb
    refine Ai (Ab ?_)
    refine ls F W Aa (Af F Aa).q fun a w F W => ?_
    refine Ae (Ac (AB (BG ?_)))
    iterate 2 refine AQ ?_
    refine BG (AQ ?_)
    have H := L2 _ H
    have H := L1 _ H
    have H := A3 H
    subst H
    refine Bh (.inl Aa) F W Aa (Aq F Aa) ?_
    exact ⟨rfl, W.done⟩
   have H := A9 (by rw [hb]; decide) H
   rw [hb] at F
   clear hb
   refine Ap (AV (Ac (Ab ?_)))
   refine ls F W Aa (Ad F Aa).q fun a w F W => ?_
   refine ls F W Aa (BN F Aa Aa Aa).q fun a w F W => ?_
   refine ls F W Aa (Af F Aa).q fun a w F W => ?_
   refine Ae (Ac ?_)
   have W := W.frontM (i := 1) Aa Aa
   have W := W.sub (M' := [(b1, [.int .i64 p0.1, v1, v2])]) (Z' := []) (List.Sublist.cons_cons _ (List.nil_sublist _)) (List.Sublist.refl _)
   exact ⟨_, H, F.re ⟨rfl, Aa, Aa, trivial⟩, W⟩
  have H := A9 (BH hb) H
  rw [hb] at F
  clear hb
  refine Bz ?_
  iterate 2 refine B9 ?_
  refine BC (Ac ?_)
  have H := L2 _ H
  exact ⟨H, F.re ⟨rfl, Aa, trivial⟩, W⟩
 rintro a w ⟨hj, F, W⟩
 have H := K1 _ hj
 clear hj G1 K1 L1
 obtain ⟨o4, G4, K4, L4⟩ := J2 H
 refine AN (fun a w => some (Sum.inl ()) = some o4 ∧ Fr 100 [] [(2, .bool false)] a ∧ Stw ⟨Y, [], w0⟩ [(b1, [.int .i64 p0.1, v1, v2])] [] w) ?_ ?_
 ·
  have H := G4
  clear G4 K4
  refine Ai (Ab ?_)
  refine ls F W Aa (Af F Aa).q fun a w F W => ?_
  refine Ae (Ac (Ax ?_))
  refine BA H (fun s a w => Fr 100 [] [(1, .pointer (some ⟨b1, 0, none⟩)), (2, .bool false), (5, .int .i64 s)] a ∧ Stw ⟨Y, [], w0⟩ [(b1, [.int .i64 p0.1, v1, v2])] [] w) ⟨F.re ⟨rfl, Aa, Aa, trivial⟩, W⟩ fun s o a w H L5 hR => ?_
  obtain ⟨x6, rfl⟩ : ∃ x, x = s := ⟨s, rfl⟩
  obtain ⟨F, W⟩ := hR
  have F : Fr 100 [] [(1, .pointer (some ⟨b1, 0, none⟩)), (2, .bool false), (5, .int .i64 x6)] a := F
  have W : Stw ⟨Y, [], w0⟩ [(b1, [.int .i64 p0.1, v1, v2])] [] w := W
  rw [DE] at H
  refine Ai (Ai (Ab ?_))
  refine ls F W Aa (Ad F Aa).q fun a w F W => ?_
  refine ls F W Aa (Ag C5 Aa Aa Aa He F Aa 2 Aa).q fun a w F W => ?_
  refine ls F W Aa (Al (v := v2) 0 F Aa Aa He Aa).q fun a w F W => ?_
  refine ls F W Aa (Cg (r := Bg) (l := p0.2.2) Ix Aa F Aa (Av h_v2)).q fun a w F W => ?_
  refine ls F W Aa (BD F Aa Aa).q fun a w F W => ?_
  refine Ae (Ac ?_)
  refine Ay F Aa (fun hb => ?_) fun hb => ?_
  ·
   have H := A8 (BI hb) H
   rw [hb] at F
   clear hb
   refine Ap (Ac (Ai (Ax (Ai ?_))))
   refine CF W MO (by kernel_rfl) ?_
   refine qs F Aa (Al (v := Value.agg #[.int .i64 p0.1, v1, v2]) 0 F Aa Aa HT Aa).q fun a F => ?_
   refine qs F Aa (Ag C5 Aa Aa Aa He F Aa 2 Aa).q fun a F => ?_
   refine qs F Aa (Al (v := v2) 0 F Aa Aa He Aa).q fun a F => ?_
   refine qs F Aa (Ad F Aa).q fun a F => ?_
   obtain ⟨x7, h4, H⟩ := An H
   refine qs F Aa (Be (r := Bg) Lu F Aa Aa (Av h_v2) h4).q fun a F => ?_
   refine qs F Aa (Ag Ji Aa Aa Aa T3 F Aa (D8 v2 + (x6).toNat * 2) Aa).q fun a F => ?_
   refine qs F Aa (AE (y := Value.int .i64 x7.1) (j := 0) (i := x6) F Aa Aa (Av h_v2) h4 Ll.to T3 Aa).q fun a F => ?_
   refine qs F Aa (Ag C5 Aa Aa Aa He F Aa 2 Aa).q fun a F => ?_
   refine qs F Aa (Al (v := v2) 0 F Aa Aa He Aa).q fun a F => ?_
   refine qs F Aa (Ad F Aa).q fun a F => ?_
   obtain ⟨x8, h5, H⟩ := An H
   refine qs F Aa (Be (r := Bg) Lu F Aa Aa (Av h_v2) h5).q fun a F => ?_
   refine qs F Aa (Ag Ji Aa Aa Aa T3 F Aa (D8 v2 + (x6).toNat * 2 + 1) Aa).q fun a F => ?_
   refine qs F Aa (AE (y := Value.int .i64 x8.2) (j := 1) (i := x6) F Aa Aa (Av h_v2) h5 Ll.to T3 Aa).q fun a F => ?_
   obtain ⟨x9, h6, H⟩ := An H
   refine qs F Aa (Bv (v := Value.bool x9) F L9 Aa (fun w W => FJ any w (v1) (v2) p0 x7.1 x8.2 _ h6 (((Av h_v1) : CY _ _ _ _ _ _) w W).nx (((Av h_v2) : CY _ _ _ _ _ _) w W).nx)) fun a F => ?_
   refine qs F Aa (EL F Aa).q fun a F => ?_
   refine Cw fun w W => ?_
   refine Ac ?_
   refine Ay F Aa (fun hb => ?_) fun hb => ?_
   ·
    have H := A8 hb H
    rw [hb] at F
    clear hb
    refine Ai (Ab ?_)
    refine ls F W Aa (Af F Aa).q fun a w F W => ?_
    refine Ae (Ac (AB (BG ?_)))
    iterate 2 refine AQ ?_
    refine BG (AQ ?_)
    have H := L5 _ H
    have H := L4 _ H
    have H := A3 H
    subst H
    refine Bh (.inl Aa) F W Aa (Aq F Aa) ?_
    exact ⟨rfl, W.done⟩
   have H := A9 (by rw [hb]; decide) H
   rw [hb] at F
   clear hb
   refine Ap (AV (Ac (Ab ?_)))
   refine ls F W Aa (Ad F Aa).q fun a w F W => ?_
   refine ls F W Aa (BN F Aa Aa Aa).q fun a w F W => ?_
   refine ls F W Aa (Af F Aa).q fun a w F W => ?_
   refine Ae (Ac ?_)
   exact ⟨_, H, F.re ⟨rfl, Aa, Aa, trivial⟩, W⟩
  have H := A9 (BH hb) H
  rw [hb] at F
  clear hb
  refine Bz ?_
  iterate 2 refine B9 ?_
  refine BC (Ac ?_)
  have H := L5 _ H
  exact ⟨H, F.re ⟨rfl, trivial⟩, W⟩
 rintro a w ⟨hj, F, W⟩
 have H := K4 _ hj
 clear hj G4 K4 L4
 refine Ai (Ab ?_)
 refine ls F W Aa (Af F Aa).q fun a w F W => ?_
 refine Ae (Ac (AB ?_))
 have H := A3 H
 subst H
 refine Bh (.inl Aa) F W Aa (Aq F Aa) ?_
 exact ⟨rfl, W.done⟩
theorem Ep : type_of% Try.underlying43 := Try.underlying43
theorem ML : Has Try.prog 14 := ⟨fun args w => Ak Try.func14 rfl (by decide) args w⟩
theorem MF : Bt Try.prog 43 [.int .i64 0, .slice none 0 0, .slice none 0 0, .slice none 0 0] [(0, 3), (3, 1)] := ⟨⟨.agg #[.int .i64 0, .slice none 0 0, .slice none 0 0, .slice none 0 0], by kernel_rfl, rfl⟩, ⟨_, Ep, fun w => by kernel_rfl⟩⟩
abbrev BM : Rp (Int × Int × Int × (Int × Int × Int × Int) × Int × Int) := (Rp.pair (Rp.int .i64) (Rp.pair (Rp.int .i64) (Rp.pair (Rp.int .i64) (Rp.pair Lh (Rp.pair (Rp.int .i64) (Rp.int .i64))))))
noncomputable def Fp (p0 : Int × (List (Int × Int × Int × Int × Int × Int)) × (List (Int × Int))) : Option (((Int × (List (Int × Int × Int × Int × Int × Int)) × (List (Int × Int))) × (List (Int × Int × Int × (Int × Int × Int × Int) × Int × Int))) ⊕ Unit) := (ES p0).bind fun x1 => (if (!x1) = true then some (.inr ()) else some (.inl (p0, ([] : List (Int × Int × Int × (Int × Int × Int × Int) × Int × Int)))))
theorem Fm (Y : Nat → Prop) (w0 : World) (v1 : Value) (v2 : Value) (p0 : Int × (List (Int × Int × Int × Int × Int × Int)) × (List (Int × Int))) (r : ((Int × (List (Int × Int × Int × Int × Int × Int)) × (List (Int × Int))) × (List (Int × Int × Int × (Int × Int × Int × Int) × Int × Int))) ⊕ Unit) (H : Fp p0 = some r) (s_v1 : Sl w0 Y A6 v1 p0.2.1) (s_v2 : Sl w0 Y Bg v2 p0.2.2) :
    Calls Try.prog 8 #[.agg #[.int .i64 p0.1, v1, v2]] w0 fun e w' => Ly r (fun r => ∃ x : Nat × Value × Value × Value, e = .returned (.pointer (some ⟨x.1, 0, none⟩)) ∧ Stw ⟨Y, [], w0⟩ [(x.1, [.int .i64 r.1.1, x.2.1, x.2.2.1, x.2.2.2])] [AC (x.2.1) A6 r.1.2.1, AC (x.2.2.1) Bg r.1.2.2, row (x.2.2.2) 64 BM r.2] w') (fun r => ∃ x : Unit, e = .returned (.pointer none) ∧ Stw ⟨Y, [], w0⟩ [] [] w') := by
 refine enter Try.func8 Aa Try.ntmps8 Aa fun a F => ?_
 have W := Stw.start Y w0
 have h_v1 := W.nx s_v1
 have h_v2 := W.nx s_v2
 unfold Fp at H
 refine Ai (Ab ?_)
 refine Dv (cs := [.int .i64 p0.1, v1, v2]) F W Aa Aa Aa fun b1 a w F W => ?_
 refine ls F W Aa (Af F Aa).q fun a w F W => ?_
 refine Ae (Ac (Ai (Ai (Ab ?_))))
 refine ls F W Aa (Al (v := Value.agg #[.int .i64 p0.1, v1, v2]) 0 F Aa Aa HT Aa).q fun a w F W => ?_
 obtain ⟨x1, h1, H⟩ := An H
 refine ls F W Aa (Bv (v := Value.bool x1) F ML Aa (fun w W => H0 any w (v1) (v2) p0 _ h1 (((Av h_v1) : CY _ _ _ _ _ _) w W).nx (((Av h_v2) : CY _ _ _ _ _ _) w W).nx)) fun a w F W => ?_
 refine ls F W Aa (EL F Aa).q fun a w F W => ?_
 refine Ae (Ac ?_)
 refine Ay F Aa (fun hb => ?_) fun hb => ?_
 ·
  have H := A8 hb H
  rw [hb] at F
  clear hb
  refine Ai (Ab ?_)
  refine ls F W Aa (Af F Aa).q fun a w F W => ?_
  refine Ae (Ac (AB (AQ ?_)))
  have H := A3 H
  subst H
  refine Bh (.inl Aa) F W Aa (Aq F Aa) ?_
  have W := W.sub (M' := []) (Z' := []) (List.nil_sublist _) (List.Sublist.refl _)
  exact ⟨(), Aa, W⟩
 have H := A9 (by rw [hb]; decide) H
 rw [hb] at F
 clear hb
 refine Ap (Ac (Ai (Ab ?_)))
 refine ls F W Aa (Al (v := Value.agg #[.int .i64 p0.1, v1, v2]) 0 F Aa Aa HT Aa).q fun a w F W => ?_
 refine ls F W Aa (Cr (v := Value.agg #[.int .i64 p0.1, v1, v2, .slice none 0 0]) MF F Aa (Fs Aa Aa Aa GV) Aa).q fun a w F W => ?_
 refine Dv (cs := [.int .i64 p0.1, v1, v2, .slice none 0 0]) F W Aa Aa Aa fun b2 a w F W => ?_
 refine ls F W Aa (Af F Aa).q fun a w F W => ?_
 refine Ae (Ac (AB ?_))
 have H := A3 H
 subst H
 refine Bh (.inl Aa) F W Aa (Aq F Aa) ?_
 have W := W.note (W.old s_v1)
 have W := W.note (W.old s_v2)
 have W := W.nilRow 64 BM
 have W := W.frontZ (i := 1) Aa Aa
 have W := W.frontZ (i := 2) Aa Aa
 have W := W.sub (M' := [(b2, [.int .i64 p0.1, v1, v2, .slice none 0 0])]) (Z' := [AC v1 A6 p0.2.1, AC v2 Bg p0.2.2, row (Value.slice none 0 0) 64 BM ([])]) (List.Sublist.cons_cons _ (List.nil_sublist _)) (List.Sublist.refl _)
 exact ⟨(b2, (v1), (v2), (Value.slice none 0 0)), Aa, W⟩
theorem Lm : type_of% Try.underlying26 := Try.underlying26
theorem H8 : Has Try.prog 8 := ⟨fun args w => Ak Try.func8 rfl (by decide) args w⟩
theorem Md : Et Try.prog 26 38 10 80 := Et.of Lm (by kernel_rfl) (by kernel_rfl) (by kernel_rfl) (by decide)
def MU (a : Int × Int × Int × Int × Int × Int × (Int × Int × Int × Int)) : List Value := [.int .i64 a.1, .int .i64 a.2.1, .int .i64 a.2.2.1, .int .i64 a.2.2.2.1, .int .i64 a.2.2.2.2.1, .int .i64 a.2.2.2.2.2.1, .int .i64 a.2.2.2.2.2.2.1, .int .i64 a.2.2.2.2.2.2.2.1, .int .i64 a.2.2.2.2.2.2.2.2.1, .int .i64 a.2.2.2.2.2.2.2.2.2]
theorem Mb : Fl K0 MU := (Fl.pair Fl.int (Fl.pair Fl.int (Fl.pair Fl.int (Fl.pair Fl.int (Fl.pair Fl.int (Fl.pair Fl.int Ma))))))
def Fc (p0 : Int) : Bool := (decide (0 ≤ p0) && decide (p0 ≤ 1125899906842624))
theorem Iv (Y : Nat → Prop) (w0 : World)  (p0 : Int) (r : Bool) (H : Fc p0 = r)  :
    Calls Try.prog 9 #[.int .i64 p0] w0 fun e w' => e = .returned (.bool r) ∧ Below w0.heap.size w0 w' := by
 refine enter Try.func9 Aa Try.ntmps9 Aa fun a F => ?_
 have W := Stw.start Y w0
 unfold Fc at H
 refine Ai (Ab ?_)
 refine ls F W Aa (Af F Aa).q fun a w F W => ?_
 refine Ae (Ac ?_)
 refine AN (fun a w => Fr 9 [] [(2, .bool (decide (0 ≤ p0) && decide (p0 ≤ 1125899906842624)))] a ∧ Stw ⟨Y, [], w0⟩ [] [] w) ?_ ?_
 ·
  refine Ab ?_
  refine ls F W Aa (Ad F Aa).q fun a w F W => ?_
  refine ls F W Aa (FC F Aa Aa).q fun a w F W => ?_
  refine ls F W Aa (Ad F Aa).q fun a w F W => ?_
  rcases Bool.eq_false_or_eq_true (decide (0 ≤ p0)) with hb0 | hb0
  ·
   rw [hb0] at F
   refine Az F W (Ah F Aa Aa Aa Aa) Aa (Am Aa) (Ad F Aa).q fun a w F W => ?_
   refine Az F W (Ah F Aa Aa Aa Aa) Aa (Am Aa) (Hx F Aa Aa).q fun a w F W => ?_
   refine ls F W Aa (Ao F Aa Aa Aa).q fun a w F W => ?_
   refine ls F W Aa (Af F Aa).q fun a w F W => ?_
   refine Ae (Ac ?_)
   exact ⟨F.re ⟨(DZ (by try rw [hb0]; all_goals simp only [DT])), trivial⟩, W⟩
  rw [hb0] at F
  iterate 2 refine BX F Aa Aa Aa Aa Aa Aa Aa fun a F => ?_
  refine ls F W Aa (Aj F Aa Aa Aa).q fun a w F W => ?_
  refine ls F W Aa (Af F Aa).q fun a w F W => ?_
  refine Ae (Ac ?_)
  exact ⟨F.re ⟨(DZ (by try rw [hb0]; all_goals simp only [DT])), trivial⟩, W⟩
 rintro a w ⟨F, W⟩
 refine AB ?_
 subst H
 refine Bh (.inl Aa) F W Aa (Aq F Aa) ?_
 exact ⟨rfl, W.done⟩
theorem H9 : Has Try.prog 9 := ⟨fun args w => Ak Try.func9 rfl (by decide) args w⟩
theorem Mp : Ty Try.prog 38 true 10 := ⟨by kernel_rfl, by kernel_rfl⟩
noncomputable def EC (p0 : Int × (List (Int × Int × Int × Int × Int × Int)) × (List (Int × Int))) (p1 : Int) (p2 : Int) : Int → Option (Int ⊕ (Unit ⊕ (Int × Int × Int × Bool)))
  | x1 => (if x1 < (p0.2.1.length : Int) then (ix p0.2.1 x1).bind fun x2 => (if (decide (x2.1 = p1) && decide (x2.2.1 = p2)) = true then some (.inr (.inr (x2.2.2.1, x2.2.2.2.1, x1, true))) else (if (decide (x2.2.2.1 = p1) && decide (x2.2.2.2.1 = p2)) = true then some (.inr (.inr (x2.1, x2.2.1, x1, true))) else some (.inl (AD (x1 + 1))))) else some (.inr (.inl ())))
noncomputable def Fh (p0 : Int × (List (Int × Int × Int × Int × Int × Int)) × (List (Int × Int))) (p1 : Int) (p2 : Int) : Option (Int × Int × Int × Bool) := Hd (AU (EC p0 p1 p2) 0) fun _ => some (0, 0, 0, false)
theorem Ik (Y : Nat → Prop) (w0 : World) (v1 : Value) (v2 : Value) (p0 : Int × (List (Int × Int × Int × Int × Int × Int)) × (List (Int × Int))) (p1 : Int) (p2 : Int) (r : Int × Int × Int × Bool) (H : Fh p0 p1 p2 = some r) (h_v1 : Sl w0 (NX []) A6 v1 p0.2.1) (h_v2 : Sl w0 (NX []) Bg v2 p0.2.2) :
    Calls Try.prog 33 #[.agg #[.int .i64 p0.1, v1, v2], .int .i64 p1, .int .i64 p2] w0 fun e w' => e = .returned (.tuple #[.int .i64 r.1, .int .i64 r.2.1, .int .i64 r.2.2.1, .bool r.2.2.2]) ∧ Below w0.heap.size w0 w' := by
 refine enter Try.func33 Aa Try.ntmps33 Aa fun a F => ?_
 have W := Stw.start Y w0
 unfold Fh at H
 refine Ai (Ab ?_)
 refine Dv (cs := [.int .i64 p0.1, v1, v2]) F W Aa Aa Aa fun b1 a w F W => ?_
 iterate 4 refine ls F W Aa (Af F Aa).q fun a w F W => ?_
 refine Ae (Ac ?_)
 obtain ⟨o1, G1, K1, L1⟩ := J2 H
 refine AN (fun a w => some (Sum.inl ()) = some o1 ∧ Fr 54 [] [(6, .int .i64 0), (7, .int .i64 0), (8, .int .i64 0), (9, .bool false)] a ∧ Stw ⟨Y, [], w0⟩ [(b1, [.int .i64 p0.1, v1, v2])] [] w) ?_ ?_
 ·
  have H := G1
  clear G1 K1
  refine Ai (Ab ?_)
  refine ls F W Aa (Af F Aa).q fun a w F W => ?_
  refine Ae (Ac (Ax ?_))
  refine BA H (fun s a w => Fr 54 [] [(1, .int .i64 p1), (2, .int .i64 p2), (3, .pointer (some ⟨b1, 0, none⟩)), (6, .int .i64 0), (7, .int .i64 0), (8, .int .i64 0), (9, .bool false), (10, .int .i64 s)] a ∧ Stw ⟨Y, [], w0⟩ [(b1, [.int .i64 p0.1, v1, v2])] [] w) ⟨F.re ⟨rfl, Aa, Aa, Aa, Aa, Aa, Aa, Aa, trivial⟩, W⟩ fun s o a w H L2 hR => ?_
  obtain ⟨x1, rfl⟩ : ∃ x, x = s := ⟨s, rfl⟩
  obtain ⟨F, W⟩ := hR
  have F : Fr 54 [] [(1, .int .i64 p1), (2, .int .i64 p2), (3, .pointer (some ⟨b1, 0, none⟩)), (6, .int .i64 0), (7, .int .i64 0), (8, .int .i64 0), (9, .bool false), (10, .int .i64 x1)] a := F
  have W : Stw ⟨Y, [], w0⟩ [(b1, [.int .i64 p0.1, v1, v2])] [] w := W
  rw [EC] at H
  refine Ai (Ai (Ab ?_))
  refine ls F W Aa (Ad F Aa).q fun a w F W => ?_
  refine ls F W Aa (Ag C5 Aa Aa Aa Fn F Aa 1 Aa).q fun a w F W => ?_
  refine ls F W Aa (Al (v := v1) 0 F Aa Aa Fn Aa).q fun a w F W => ?_
  refine ls F W Aa (Cg (r := A6) (l := p0.2.1) GZ Aa F Aa (Av h_v1)).q fun a w F W => ?_
  refine ls F W Aa (BD F Aa Aa).q fun a w F W => ?_
  refine Ae (Ac ?_)
  refine Ay F Aa (fun hb => ?_) fun hb => ?_
  ·
   have H := A8 (BI hb) H
   rw [hb] at F
   clear hb
   refine Ap (Ac (Ai (Ax (Ai (Ab ?_)))))
   refine ls F W Aa (Ag C5 Aa Aa Aa Fn F Aa 1 Aa).q fun a w F W => ?_
   refine ls F W Aa (Al (v := v1) 0 F Aa Aa Fn Aa).q fun a w F W => ?_
   refine ls F W Aa (Ad F Aa).q fun a w F W => ?_
   obtain ⟨x2, h1, H⟩ := An H
   refine ls F W Aa (Be (r := A6) Jo F Aa Aa (Av h_v1) h1).q fun a w F W => ?_
   refine ls F W Aa (AE (y := Value.agg #[.int .i64 x2.1, .int .i64 x2.2.1, .int .i64 x2.2.2.1, .int .i64 x2.2.2.2.1, .int .i64 x2.2.2.2.2.1, .int .i64 x2.2.2.2.2.2]) (j := 0) (i := x1) F Aa Aa (Av h_v1) h1 Jq.to I1 Aa).q fun a w F W => ?_
   refine Bx (cs := (I5)) F W Aa KD Aa fun b2 a w F W => ?_
   refine Ba (vs := (GQ x2)) (M' := (GY b2 x2 b1 p0 v1 v2)) 0 F W Aa Aa Aa I1 Aa Aa Aa Aa Aa fun w W => ?_
   refine Ae (Ac (Ai ?_))
   refine AN (fun a w => Fr 54 [] [(1, .int .i64 p1), (2, .int .i64 p2), (3, .pointer (some ⟨b1, 0, none⟩)), (6, .int .i64 0), (7, .int .i64 0), (8, .int .i64 0), (9, .bool false), (10, .int .i64 x1), (11, .pointer (some ⟨b2, 0, none⟩)), (33, .bool (decide (x2.1 = p1) && decide (x2.2.1 = p2)))] a ∧ Stw ⟨Y, [], w0⟩ (GY b2 x2 b1 p0 v1 v2) [] w) ?_ ?_
   ·
    refine Ab ?_
    refine ls F W Aa (Ag Cz Aa Aa Aa T3 F Aa 0 Aa).q fun a w F W => ?_
    refine ls F W Aa (Al (v := Value.int .i64 x2.1) 0 F Aa Aa T3 Aa).q fun a w F W => ?_
    refine ls F W Aa (Ad F Aa).q fun a w F W => ?_
    refine ls F W Aa (BQ F Aa Aa).q fun a w F W => ?_
    refine ls F W Aa (Ad F Aa).q fun a w F W => ?_
    rcases Bool.eq_false_or_eq_true (decide (x2.1 = p1)) with hb0 | hb0
    ·
     rw [hb0] at F
     refine Az F W (Ah F Aa Aa Aa Aa) Aa (Am Aa) (Ag Cz Aa Aa Aa T3 F Aa 1 Aa).q fun a w F W => ?_
     refine Az F W (Ah F Aa Aa Aa Aa) Aa (Am Aa) (Al (v := Value.int .i64 x2.2.1) 0 F Aa Aa T3 Aa).q fun a w F W => ?_
     refine Az F W (Ah F Aa Aa Aa Aa) Aa (Am Aa) (Ad F Aa).q fun a w F W => ?_
     refine Az F W (Ah F Aa Aa Aa Aa) Aa (Am Aa) (BQ F Aa Aa).q fun a w F W => ?_
     refine ls F W Aa (Ao F Aa Aa Aa).q fun a w F W => ?_
     refine Ae (Ac ?_)
     exact ⟨F.re ⟨rfl, Aa, Aa, Aa, Aa, Aa, Aa, Aa, Aa, (DZ (by try rw [hb0]; all_goals simp only [DT])), trivial⟩, W⟩
    rw [hb0] at F
    iterate 4 refine BX F Aa Aa Aa Aa Aa Aa Aa fun a F => ?_
    refine ls F W Aa (Aj F Aa Aa Aa).q fun a w F W => ?_
    refine Ae (Ac ?_)
    exact ⟨F.re ⟨rfl, Aa, Aa, Aa, Aa, Aa, Aa, Aa, Aa, (DZ (by try rw [hb0]; all_goals simp only [DT])), trivial⟩, W⟩
   rintro a w ⟨F, W⟩
   refine Ay F Aa (fun hb => ?_) fun hb => ?_
   ·
    have H := A8 hb H
    rw [hb] at F
    clear hb
    refine Ai ?_
    refine CF W MO (by kernel_rfl) ?_
    refine qs F Aa (Ag Cz Aa Aa Aa T3 F Aa 2 Aa).q fun a F => ?_
    refine qs F Aa (Al (v := Value.int .i64 x2.2.2.1) 0 F Aa Aa T3 Aa).q fun a F => ?_
    refine qs F Aa (Ag Cz Aa Aa Aa T3 F Aa 3 Aa).q fun a F => ?_
    refine qs F Aa (Al (v := Value.int .i64 x2.2.2.2.1) 0 F Aa Aa T3 Aa).q fun a F => ?_
    refine qs F Aa (Ad F Aa).q fun a F => ?_
    iterate 4 refine qs F Aa (Af F Aa).q fun a F => ?_
    refine Cw fun w W => ?_
    refine Ac (AB (AQ (BG ?_)))
    iterate 2 refine AQ ?_
    refine BG (AQ ?_)
    have H := L2 _ H
    have H := L1 _ H
    have H := A3 H
    subst H
    refine Hv (.inl Aa) F W Aa (Aq F Aa) (Aq F Aa) (Aq F Aa) (Aq F Aa) ?_
    exact ⟨rfl, W.done⟩
   have H := A9 (by rw [hb]; decide) H
   rw [hb] at F
   clear hb
   refine Ap (Ac ?_)
   refine AN (fun a w => Fr 54 [] [(1, .int .i64 p1), (2, .int .i64 p2), (3, .pointer (some ⟨b1, 0, none⟩)), (6, .int .i64 0), (7, .int .i64 0), (8, .int .i64 0), (9, .bool false), (10, .int .i64 x1), (11, .pointer (some ⟨b2, 0, none⟩)), (48, .bool (decide (x2.2.2.1 = p1) && decide (x2.2.2.2.1 = p2)))] a ∧ Stw ⟨Y, [], w0⟩ (GY b2 x2 b1 p0 v1 v2) [] w) ?_ ?_
   ·
    refine Ab ?_
    refine ls F W Aa (Ag Cz Aa Aa Aa T3 F Aa 2 Aa).q fun a w F W => ?_
    refine ls F W Aa (Al (v := Value.int .i64 x2.2.2.1) 0 F Aa Aa T3 Aa).q fun a w F W => ?_
    refine ls F W Aa (Ad F Aa).q fun a w F W => ?_
    refine ls F W Aa (BQ F Aa Aa).q fun a w F W => ?_
    refine ls F W Aa (Ad F Aa).q fun a w F W => ?_
    rcases Bool.eq_false_or_eq_true (decide (x2.2.2.1 = p1)) with hb0 | hb0
    ·
     rw [hb0] at F
     refine Az F W (Ah F Aa Aa Aa Aa) Aa (Am Aa) (Ag Cz Aa Aa Aa T3 F Aa 3 Aa).q fun a w F W => ?_
     refine Az F W (Ah F Aa Aa Aa Aa) Aa (Am Aa) (Al (v := Value.int .i64 x2.2.2.2.1) 0 F Aa Aa T3 Aa).q fun a w F W => ?_
     refine Az F W (Ah F Aa Aa Aa Aa) Aa (Am Aa) (Ad F Aa).q fun a w F W => ?_
     refine Az F W (Ah F Aa Aa Aa Aa) Aa (Am Aa) (BQ F Aa Aa).q fun a w F W => ?_
     refine ls F W Aa (Ao F Aa Aa Aa).q fun a w F W => ?_
     refine Ae (Ac ?_)
     exact ⟨F.re ⟨rfl, Aa, Aa, Aa, Aa, Aa, Aa, Aa, Aa, (DZ (by try rw [hb0]; all_goals simp only [DT])), trivial⟩, W⟩
    rw [hb0] at F
    iterate 4 refine BX F Aa Aa Aa Aa Aa Aa Aa fun a F => ?_
    refine ls F W Aa (Aj F Aa Aa Aa).q fun a w F W => ?_
    refine Ae (Ac ?_)
    exact ⟨F.re ⟨rfl, Aa, Aa, Aa, Aa, Aa, Aa, Aa, Aa, (DZ (by try rw [hb0]; all_goals simp only [DT])), trivial⟩, W⟩
   rintro a w ⟨F, W⟩
   refine Ay F Aa (fun hb => ?_) fun hb => ?_
   ·
    have H := A8 hb H
    rw [hb] at F
    clear hb
    refine Ai ?_
    refine CF W MO (by kernel_rfl) ?_
    refine qs F Aa (Ag Cz Aa Aa Aa T3 F Aa 0 Aa).q fun a F => ?_
    refine qs F Aa (Al (v := Value.int .i64 x2.1) 0 F Aa Aa T3 Aa).q fun a F => ?_
    refine qs F Aa (Ag Cz Aa Aa Aa T3 F Aa 1 Aa).q fun a F => ?_
    refine qs F Aa (Al (v := Value.int .i64 x2.2.1) 0 F Aa Aa T3 Aa).q fun a F => ?_
    refine qs F Aa (Ad F Aa).q fun a F => ?_
    iterate 4 refine qs F Aa (Af F Aa).q fun a F => ?_
    refine Cw fun w W => ?_
    refine Ac (AB (BG ?_))
    iterate 2 refine AQ ?_
    refine BG (AQ ?_)
    have H := L2 _ H
    have H := L1 _ H
    have H := A3 H
    subst H
    refine Hv (.inl Aa) F W Aa (Aq F Aa) (Aq F Aa) (Aq F Aa) (Aq F Aa) ?_
    exact ⟨rfl, W.done⟩
   have H := A9 (by rw [hb]; decide) H
   rw [hb] at F
   clear hb
   refine Ap (AV (Ac (Ab ?_)))
   refine ls F W Aa (Ad F Aa).q fun a w F W => ?_
   refine ls F W Aa (BN F Aa Aa Aa).q fun a w F W => ?_
   refine ls F W Aa (Af F Aa).q fun a w F W => ?_
   refine Ae (Ac ?_)
   have W := W.frontM (i := 1) Aa Aa
   have W := W.sub (M' := [(b1, [.int .i64 p0.1, v1, v2])]) (Z' := []) (List.Sublist.cons_cons _ (List.nil_sublist _)) (List.Sublist.refl _)
   exact ⟨_, H, F.re ⟨rfl, Aa, Aa, Aa, Aa, Aa, Aa, Aa, trivial⟩, W⟩
  have H := A9 (BH hb) H
  rw [hb] at F
  clear hb
  refine Bz ?_
  iterate 2 refine B9 ?_
  refine BC (Ac ?_)
  have H := L2 _ H
  exact ⟨H, F.re ⟨rfl, Aa, Aa, Aa, trivial⟩, W⟩
 rintro a w ⟨hj, F, W⟩
 have H := K1 _ hj
 clear hj G1 K1 L1
 refine Ai (Ab ?_)
 iterate 4 refine ls F W Aa (Af F Aa).q fun a w F W => ?_
 refine Ae (Ac (AB ?_))
 have H := A3 H
 subst H
 refine Hv (.inl Aa) F W Aa (Aq F Aa) (Aq F Aa) (Aq F Aa) (Aq F Aa) ?_
 exact ⟨rfl, W.done⟩
theorem Ho : type_of% Try.underlying41 := Try.underlying41
theorem FW : type_of% Try.underlying64 := Try.underlying64
theorem Mw : Has Try.prog 33 := ⟨fun args w => Ak Try.func33 rfl (by decide) args w⟩
theorem E2 : Ty Try.prog 41 false 1 := ⟨by kernel_rfl, by kernel_rfl⟩
theorem LU : Bt Try.prog 64 [.int .i64 0, .int .i64 0, .int .i64 0, .int .i64 0, .int .i64 0, .int .i64 0, .int .i64 0, .int .i64 0, .int .i64 0] [(0, 1), (1, 1), (2, 1), (3, 4), (7, 1), (8, 1)] := ⟨⟨.agg #[.int .i64 0, .int .i64 0, .int .i64 0, .int .i64 0, .int .i64 0, .int .i64 0, .int .i64 0, .int .i64 0, .int .i64 0], by kernel_rfl, rfl⟩, ⟨_, FW, fun w => by kernel_rfl⟩⟩
theorem J3 : (Try.prog.info? 64).bind (·.zero) = some (.agg #[.int .i64 0, .int .i64 0, .int .i64 0, .int .i64 0, .int .i64 0, .int .i64 0, .int .i64 0, .int .i64 0, .int .i64 0]) := by kernel_rfl
theorem GP : Ty Try.prog 64 true 9 := ⟨by kernel_rfl, by kernel_rfl⟩
def M6 (a : Int × Int × Int × (Int × Int × Int × Int) × Int × Int) : List Value := [.int .i64 a.1, .int .i64 a.2.1, .int .i64 a.2.2.1, .int .i64 a.2.2.2.1.1, .int .i64 a.2.2.2.1.2.1, .int .i64 a.2.2.2.1.2.2.1, .int .i64 a.2.2.2.1.2.2.2, .int .i64 a.2.2.2.2.1, .int .i64 a.2.2.2.2.2]
theorem JZ : Fl BM M6 := (Fl.pair Fl.int (Fl.pair Fl.int (Fl.pair Fl.int (Fl.pair Ma (Fl.pair Fl.int Fl.int)))))
theorem IM : Et Try.prog 41 64 9 72 := Et.of Ho (by kernel_rfl) (by kernel_rfl) (by kernel_rfl) (by decide)
abbrev KE (a0 : Int) (a1 : Int × Int × Int × Bool) (a2 : Int × Int × Int × Int) : List Value := [.int .i64 a0, .int .i64 a1.1, .int .i64 a1.2.1, .int .i64 a2.1, .int .i64 a2.2.1, .int .i64 a2.2.2.1, .int .i64 a2.2.2.2, .int .i64 0, .int .i64 0]
noncomputable def Di (p0 : (Int × (List (Int × Int × Int × Int × Int × Int)) × (List (Int × Int))) × (List (Int × Int × Int × (Int × Int × Int × Int) × Int × Int))) (p1 : Int) (p2 : Int) (p3 : Int) (p4 : Int) (p5 : Int × Int × Int × Int) : Option (Int × ((Int × (List (Int × Int × Int × Int × Int × Int)) × (List (Int × Int))) × (List (Int × Int × Int × (Int × Int × Int × Int) × Int × Int)))) := (Fh p0.1 p2 p3).bind fun x1 => (if (!x1.2.2.2) = true then some (7, p0) else (if 255 < (p0.2.length : Int) then some (6, p0) else (ix p0.1.2.1 x1.2.2.1).bind fun x2 => (ix p0.1.2.1 x1.2.2.1).bind fun x3 => (app p0.2 ([(p4, x1.1, x1.2.1, p5, AD (p1 + x2.2.2.2.2.1), AD (p1 + x3.2.2.2.2.2))] : List (Int × Int × Int × (Int × Int × Int × Int) × Int × Int))).bind fun x4 => some (0, (p0.1, x4))))
theorem Gu (Y : Nat → Prop) (X : List Nat) (w0 : World) (q_p0 : Nat) (v1 : Value) (v2 : Value) (v3 : Value) (p0 : (Int × (List (Int × Int × Int × Int × Int × Int)) × (List (Int × Int))) × (List (Int × Int × Int × (Int × Int × Int × Int) × Int × Int))) (p1 : Int) (p2 : Int) (p3 : Int) (p4 : Int) (p5 : Int × Int × Int × Int) (r : Int × ((Int × (List (Int × Int × Int × Int × Int × Int)) × (List (Int × Int))) × (List (Int × Int × Int × (Int × Int × Int × Int) × Int × Int)))) (H : Di p0 p1 p2 p3 p4 p5 = some r) (hL : Stw ⟨Y, X, w0⟩ [(q_p0, [.int .i64 p0.1.1, v1, v2, v3])] [AC v1 A6 p0.1.2.1, AC v2 Bg p0.1.2.2, row v3 64 BM p0.2] w0) :
    Calls Try.prog 22 #[.pointer (some ⟨q_p0, 0, none⟩), .int .i64 p1, .int .i64 p2, .int .i64 p3, .int .i64 p4, .agg #[.int .i64 p5.1, .int .i64 p5.2.1, .int .i64 p5.2.2.1, .int .i64 p5.2.2.2]] w0 fun e w' => ∃ x : Value × Value × Value, e = .returned (.int .i64 r.1) ∧ Stw ⟨Y, X, w0⟩ [(q_p0, [.int .i64 r.2.1.1, x.1, x.2.1, x.2.2])] [AC (x.1) A6 r.2.1.2.1, AC (x.2.1) Bg r.2.1.2.2, row (x.2.2) 64 BM r.2.2] w' := by
 refine enter Try.func22 Aa Try.ntmps22 Aa fun a F => ?_
 have W := hL
 unfold Di at H
 refine Ai (Ab ?_)
 refine Dv (cs := (FB p5)) F W Aa Aa Aa fun b1 a w F W => ?_
 refine ls F W Aa (Af F Aa).q fun a w F W => ?_
 refine Ae (Ac (Ai (Ab ?_)))
 refine ls F W Aa (Ad F Aa).q fun a w F W => ?_
 refine ls F W Aa (AM F Aa).q fun a w F W => ?_
 refine ls F W Aa (Ag Ep Aa Aa Aa HT F Aa 0 Aa).q fun a w F W => ?_
 refine ls F W Aa (Al (v := Value.agg #[.int .i64 p0.1.1, v1, v2]) 1 F Aa Aa HT Aa).q fun a w F W => ?_
 iterate 2 refine ls F W Aa (Ad F Aa).q fun a w F W => ?_
 obtain ⟨x1, h1, H⟩ := An H
 refine ls F W Aa (Bv (v := Value.tuple #[.int .i64 x1.1, .int .i64 x1.2.1, .int .i64 x1.2.2.1, .bool x1.2.2.2]) F Mw Aa (fun w W => Ik any w (v1) (v2) p0.1 p2 p3 _ h1 (((Br 0 Aa) : CY _ _ _ _ _ _) w W).nx (((Br 1 Aa) : CY _ _ _ _ _ _) w W).nx)) fun a w F W => ?_
 refine ls F W Aa (Ad F Aa).q fun a w F W => ?_
 refine ls F W Aa (AK (v := Value.int .i64 x1.1) F Aa Aa).q fun a w F W => ?_
 refine ls F W Aa (AK (v := Value.int .i64 x1.2.1) F Aa Aa).q fun a w F W => ?_
 refine ls F W Aa (AK (v := Value.int .i64 x1.2.2.1) F Aa Aa).q fun a w F W => ?_
 refine ls F W Aa (AK (v := Value.bool x1.2.2.2) F Aa Aa).q fun a w F W => ?_
 iterate 4 refine ls F W Aa (Af F Aa).q fun a w F W => ?_
 refine Ae (Ac (Ai (Ai (Ab ?_))))
 refine ls F W Aa (Ad F Aa).q fun a w F W => ?_
 refine ls F W Aa (EL F Aa).q fun a w F W => ?_
 refine Ae (Ac ?_)
 refine Ay F Aa (fun hb => ?_) fun hb => ?_
 ·
  have H := A8 hb H
  rw [hb] at F
  clear hb
  refine Ai (Ab ?_)
  refine ls F W Aa (Af F Aa).q fun a w F W => ?_
  refine Ae (Ac (AB (AQ ?_)))
  have H := A3 H
  subst H
  refine Bh (.inl Aa) F W Aa (Aq F Aa) ?_
  have W := W.frontZ (i := 2) Aa Aa
  have W := W.frontZ (i := 2) Aa Aa
  have W := W.frontZ (i := 2) Aa Aa
  have W := W.frontM (i := 1) Aa Aa
  have W := W.sub (M' := [(q_p0, [.int .i64 p0.1.1, v1, v2, v3])]) (Z' := [AC v1 A6 p0.1.2.1, AC v2 Bg p0.1.2.2, row v3 64 BM p0.2]) (List.Sublist.cons_cons _ (List.nil_sublist _)) (List.Sublist.refl _)
  exact ⟨((v1), (v2), (v3)), Aa, W⟩
 have H := A9 (by rw [hb]; decide) H
 rw [hb] at F
 clear hb
 refine Ap (Ac (Ai (Ai (Ab ?_))))
 refine ls F W Aa (Ad F Aa).q fun a w F W => ?_
 refine ls F W Aa (AM F Aa).q fun a w F W => ?_
 refine ls F W Aa (Ag Ep Aa Aa Aa E2 F Aa 3 Aa).q fun a w F W => ?_
 refine ls F W Aa (Al (v := v3) 1 F Aa Aa E2 Aa).q fun a w F W => ?_
 refine ls F W Aa (Cg (r := BM) (l := p0.2) Ho Aa F Aa (AA 2 Aa)).q fun a w F W => ?_
 refine ls F W Aa (DF F Aa Aa).q fun a w F W => ?_
 refine Ae (Ac ?_)
 refine Ay F Aa (fun hb => ?_) fun hb => ?_
 ·
  have H := A8 (BI hb) H
  rw [hb] at F
  clear hb
  refine Ai (Ab ?_)
  refine ls F W Aa (Af F Aa).q fun a w F W => ?_
  refine Ae (Ac (AB (AQ ?_)))
  have H := A3 H
  subst H
  refine Bh (.inl Aa) F W Aa (Aq F Aa) ?_
  have W := W.frontZ (i := 2) Aa Aa
  have W := W.frontZ (i := 2) Aa Aa
  have W := W.frontZ (i := 2) Aa Aa
  have W := W.frontM (i := 1) Aa Aa
  have W := W.sub (M' := [(q_p0, [.int .i64 p0.1.1, v1, v2, v3])]) (Z' := [AC v1 A6 p0.1.2.1, AC v2 Bg p0.1.2.2, row v3 64 BM p0.2]) (List.Sublist.cons_cons _ (List.nil_sublist _)) (List.Sublist.refl _)
  exact ⟨((v1), (v2), (v3)), Aa, W⟩
 have H := A9 (BH hb) H
 rw [hb] at F
 clear hb
 refine Ap (Ac (Ai (Ab ?_)))
 iterate 3 refine ls F W Aa (Ad F Aa).q fun a w F W => ?_
 refine ls F W Aa (Al (v := Value.agg #[.int .i64 p5.1, .int .i64 p5.2.1, .int .i64 p5.2.2.1, .int .i64 p5.2.2.2]) 0 F Aa Aa J1 Aa).q fun a w F W => ?_
 refine ls F W Aa (Cr (v := Value.agg #[.int .i64 p4, .int .i64 x1.1, .int .i64 x1.2.1, .int .i64 p5.1, .int .i64 p5.2.1, .int .i64 p5.2.2.1, .int .i64 p5.2.2.2, .int .i64 0, .int .i64 0]) LU F Aa Aa Aa).q fun a w F W => ?_
 refine Bx (cs := (Cm)) F W Aa J3 Aa fun b2 a w F W => ?_
 refine Ba (vs := (KE p4 x1 p5)) (M' := [(b2, (KE p4 x1 p5)), (b1, (FB p5)), (q_p0, [.int .i64 p0.1.1, v1, v2, v3])]) 0 F W Aa Aa Aa GP Aa Aa Aa Aa Aa fun w W => ?_
 refine Ae (Ac (Ai (Ab ?_)))
 iterate 2 refine ls F W Aa (Ad F Aa).q fun a w F W => ?_
 refine ls F W Aa (AM F Aa).q fun a w F W => ?_
 refine ls F W Aa (Ag Ep Aa Aa Aa HT F Aa 0 Aa).q fun a w F W => ?_
 refine ls F W Aa (Ag C5 Aa Aa Aa Fn F Aa 1 Aa).q fun a w F W => ?_
 refine ls F W Aa (Al (v := v1) 2 F Aa Aa Fn Aa).q fun a w F W => ?_
 refine ls F W Aa (Ad F Aa).q fun a w F W => ?_
 obtain ⟨x2, h2, H⟩ := An H
 refine ls F W Aa (Be (r := A6) Jo F Aa Aa (Br 0 Aa) h2).q fun a w F W => ?_
 refine ls F W Aa (Ag Cz Aa Aa Aa T3 F Aa (D8 v1 + (x1.2.2.1).toNat * 6 + 4) Aa).q fun a w F W => ?_
 refine ls F W Aa (AE (y := Value.int .i64 x2.2.2.2.2.1) (j := 4) (i := x1.2.2.1) F Aa Aa (Br 0 Aa) h2 Jq.to T3 Aa).q fun a w F W => ?_
 refine ls F W Aa (BN F Aa Aa Aa).q fun a w F W => ?_
 refine ls F W Aa (Ag FW Aa Aa Aa T3 F Aa 7 Aa).q fun a w F W => ?_
 refine Ba (vs := [.int .i64 (AD (p1 + x2.2.2.2.2.1))]) (M' := [(b2, [.int .i64 p4, .int .i64 x1.1, .int .i64 x1.2.1, .int .i64 p5.1, .int .i64 p5.2.1, .int .i64 p5.2.2.1, .int .i64 p5.2.2.2, .int .i64 (AD (p1 + x2.2.2.2.2.1)), .int .i64 0]), (b1, (FB p5)), (q_p0, [.int .i64 p0.1.1, v1, v2, v3])]) 0 F W Aa Aa Aa T3 Aa Aa Aa Aa Aa fun w W => ?_
 refine Ae (Ac (Ai (Ab ?_)))
 iterate 2 refine ls F W Aa (Ad F Aa).q fun a w F W => ?_
 refine ls F W Aa (AM F Aa).q fun a w F W => ?_
 refine ls F W Aa (Ag Ep Aa Aa Aa HT F Aa 0 Aa).q fun a w F W => ?_
 refine ls F W Aa (Ag C5 Aa Aa Aa Fn F Aa 1 Aa).q fun a w F W => ?_
 refine ls F W Aa (Al (v := v1) 2 F Aa Aa Fn Aa).q fun a w F W => ?_
 refine ls F W Aa (Ad F Aa).q fun a w F W => ?_
 obtain ⟨x3, h3, H⟩ := An H
 refine ls F W Aa (Be (r := A6) Jo F Aa Aa (Br 0 Aa) h3).q fun a w F W => ?_
 refine ls F W Aa (Ag Cz Aa Aa Aa T3 F Aa (D8 v1 + (x1.2.2.1).toNat * 6 + 5) Aa).q fun a w F W => ?_
 refine ls F W Aa (AE (y := Value.int .i64 x3.2.2.2.2.2) (j := 5) (i := x1.2.2.1) F Aa Aa (Br 0 Aa) h3 Jq.to T3 Aa).q fun a w F W => ?_
 refine ls F W Aa (BN F Aa Aa Aa).q fun a w F W => ?_
 refine ls F W Aa (Ag FW Aa Aa Aa T3 F Aa 8 Aa).q fun a w F W => ?_
 refine Ba (vs := [.int .i64 (AD (p1 + x3.2.2.2.2.2))]) (M' := [(b2, [.int .i64 p4, .int .i64 x1.1, .int .i64 x1.2.1, .int .i64 p5.1, .int .i64 p5.2.1, .int .i64 p5.2.2.1, .int .i64 p5.2.2.2, .int .i64 (AD (p1 + x2.2.2.2.2.1)), .int .i64 (AD (p1 + x3.2.2.2.2.2))]), (b1, (FB p5)), (q_p0, [.int .i64 p0.1.1, v1, v2, v3])]) 0 F W Aa Aa Aa T3 Aa Aa Aa Aa Aa fun w W => ?_
 refine Ae (Ac (Ai ?_))
 refine DJ [(true, 0), (true, 1), (true, 2), (true, 3), (true, 4), (true, 5), (false, 6), (false, 7), (true, 8), (true, 9), (false, 10)] (CN ⟨Y, X, w0⟩ [(some 7, q_p0, [.int .i64 p0.1.1, v1, v2, v3]), (some 6, b2, [.int .i64 p4, .int .i64 x1.1, .int .i64 x1.2.1, .int .i64 p5.1, .int .i64 p5.2.1, .int .i64 p5.2.2.1, .int .i64 p5.2.2.2, .int .i64 (AD (p1 + x2.2.2.2.2.1)), .int .i64 (AD (p1 + x3.2.2.2.2.2))])] []) (fun ch a d v w h => by cases d <;> exact h) MO (by kernel_rfl) W (fun w W => ⟨_, _, W, (all_cons (fun _ => (.tail _ (.tail _ (.head _)))) (all_cons (fun _ => (.head _)) As)), As⟩) fun w W => ?_
 iterate 2 refine A5 (R := []) F Aa Aa (yC fun M Z hN hZ => Ad F Aa) Aa Aa fun a F => ?_
 refine A5 (R := []) F Aa Aa (yC fun M Z hN hZ => AM F Aa) Aa Aa fun a F => ?_
 refine A5 (R := []) F Aa Aa (yC fun M Z hN hZ => Ag Ep Aa Aa Aa E2 F Aa 3 Aa) Aa Aa fun a F => ?_
 refine A5 (R := [7]) F Aa Aa (yC fun M Z hN hZ => Cc (cs := [.int .i64 p0.1.1, v1, v2, v3]) (v := v3) F Aa (hN ((some 7), q_p0, [.int .i64 p0.1.1, v1, v2, v3]) (.head _) Aa) E2 Aa) (by kernel_rfl) Aa fun a F => ?_
 refine A5 (R := [6]) F Aa Aa (yC fun M Z hN hZ => Cc (cs := [.int .i64 p4, .int .i64 x1.1, .int .i64 x1.2.1, .int .i64 p5.1, .int .i64 p5.2.1, .int .i64 p5.2.2.1, .int .i64 p5.2.2.2, .int .i64 (AD (p1 + x2.2.2.2.2.1)), .int .i64 (AD (p1 + x3.2.2.2.2.2))]) (v := Value.agg #[.int .i64 p4, .int .i64 x1.1, .int .i64 x1.2.1, .int .i64 p5.1, .int .i64 p5.2.1, .int .i64 p5.2.2.1, .int .i64 p5.2.2.2, .int .i64 (AD (p1 + x2.2.2.2.2.1)), .int .i64 (AD (p1 + x3.2.2.2.2.2))]) F Aa (hN ((some 6), b2, [.int .i64 p4, .int .i64 x1.1, .int .i64 x1.2.1, .int .i64 p5.1, .int .i64 p5.2.1, .int .i64 p5.2.2.1, .int .i64 p5.2.2.2, .int .i64 (AD (p1 + x2.2.2.2.2.1)), .int .i64 (AD (p1 + x3.2.2.2.2.2))]) (.tail _ (.head _)) Aa) GP Aa) (by kernel_rfl) Aa fun a F => ?_
 refine DB Aa ?_
 refine Fy (z := Value.agg #[.int .i64 0, .int .i64 0, .int .i64 0, .int .i64 0, .int .i64 0, .int .i64 0, .int .i64 0, .int .i64 0, .int .i64 0]) (cs := [.int .i64 p4, .int .i64 x1.1, .int .i64 x1.2.1, .int .i64 p5.1, .int .i64 p5.2.1, .int .i64 p5.2.2.1, .int .i64 p5.2.2.2, .int .i64 (AD (p1 + x2.2.2.2.2.1)), .int .i64 (AD (p1 + x3.2.2.2.2.2))]) BM ([(p4, x1.1, x1.2.1, p5, AD (p1 + x2.2.2.2.2.1), AD (p1 + x3.2.2.2.2.2))] : List (Int × Int × Int × (Int × Int × Int × Int) × Int × Int)) F W Aa IM J3 Aa Aa Aa Aa Aa Aa (JZ.repL _ _ ([(p4, x1.1, x1.2.1, p5, AD (p1 + x2.2.2.2.2.1), AD (p1 + x3.2.2.2.2.2))] : List (Int × Int × Int × (Int × Int × Int × Int) × Int × Int))) fun v4 a w F W => ?_
 refine BB (N2 := []) (NZ2 := []) (N3 := [(some 7, q_p0, [.int .i64 p0.1.1, v1, v2, v3]), (some 6, b2, [.int .i64 p4, .int .i64 x1.1, .int .i64 x1.2.1, .int .i64 p5.1, .int .i64 p5.2.1, .int .i64 p5.2.2.1, .int .i64 p5.2.2.2, .int .i64 (AD (p1 + x2.2.2.2.2.1)), .int .i64 (AD (p1 + x3.2.2.2.2.2))])]) (NZ3 := []) W Aa Aa (all_cons (fun _ => (.tail _ (.tail _ (.head _)))) (all_cons (fun h => AO (by kernel_rfl) h) As)) As ?_
 refine DB Aa ?_
 obtain ⟨x4, h4, H⟩ := An H
 refine DO (r := BM) (i := 3) F W Aa IM Aa Aa Aa Aa (Ef W 0 Aa) h4 Aa fun v5 a w F W => ?_
 have W : Stw ⟨Y, X, w0⟩ [(b2, [.int .i64 p4, .int .i64 x1.1, .int .i64 x1.2.1, .int .i64 p5.1, .int .i64 p5.2.1, .int .i64 p5.2.2.1, .int .i64 p5.2.2.2, .int .i64 (AD (p1 + x2.2.2.2.2.1)), .int .i64 (AD (p1 + x3.2.2.2.2.2))]), (b1, (FB p5)), (q_p0, [.int .i64 p0.1.1, v1, v2, v3])] [row v5 64 BM x4, row v4 64 BM ([(p4, x1.1, x1.2.1, p5, AD (p1 + x2.2.2.2.2.1), AD (p1 + x3.2.2.2.2.2))] : List (Int × Int × Int × (Int × Int × Int × Int) × Int × Int)), AC v1 A6 p0.1.2.1, AC v2 Bg p0.1.2.2] w := W
 refine BB (N2 := []) (NZ2 := []) (N3 := [(some 7, q_p0, [.int .i64 p0.1.1, v1, v2, v3]), (some 6, b2, [.int .i64 p4, .int .i64 x1.1, .int .i64 x1.2.1, .int .i64 p5.1, .int .i64 p5.2.1, .int .i64 p5.2.2.1, .int .i64 p5.2.2.2, .int .i64 (AD (p1 + x2.2.2.2.2.1)), .int .i64 (AD (p1 + x3.2.2.2.2.2))])]) (NZ3 := []) W Aa Aa (all_cons (fun h => AO (by kernel_rfl) h) (all_cons (fun h => AO (by kernel_rfl) h) As)) As ?_
 refine A5 (R := []) F Aa Aa (yC fun M Z hN hZ => AM F Aa) Aa Aa fun a F => ?_
 refine A5 (R := []) F Aa Aa (yC fun M Z hN hZ => Ag Ep Aa Aa Aa E2 F Aa 3 Aa) Aa Aa fun a F => ?_
 refine DB Aa ?_
 refine EM (M' := [(b2, [.int .i64 p4, .int .i64 x1.1, .int .i64 x1.2.1, .int .i64 p5.1, .int .i64 p5.2.1, .int .i64 p5.2.2.1, .int .i64 p5.2.2.2, .int .i64 (AD (p1 + x2.2.2.2.2.1)), .int .i64 (AD (p1 + x3.2.2.2.2.2))]), (b1, (FB p5)), (q_p0, [.int .i64 p0.1.1, v1, v2, v5])]) 2 F W Aa Aa Aa E2 (W.one (k := 0) Aa) Aa Aa fun w W => ?_
 refine BB (N2 := []) (NZ2 := []) (N3 := [(some 7, q_p0, [.int .i64 p0.1.1, v1, v2, v3]), (some 6, b2, [.int .i64 p4, .int .i64 x1.1, .int .i64 x1.2.1, .int .i64 p5.1, .int .i64 p5.2.1, .int .i64 p5.2.2.1, .int .i64 p5.2.2.2, .int .i64 (AD (p1 + x2.2.2.2.2.1)), .int .i64 (AD (p1 + x3.2.2.2.2.2))])]) (NZ3 := []) W Aa Aa (all_cons (fun h => AO (by kernel_rfl) h) (all_cons (fun h => AO (by kernel_rfl) h) As)) As ?_
 refine Ej (Ac (Ai (Ab ?_)))
 refine ls F W Aa (Af F Aa).q fun a w F W => ?_
 refine Ae (Ac (AB ?_))
 have H := A3 H
 subst H
 refine Bh (.inl Aa) F W Aa (Aq F Aa) ?_
 have W := W.frontZ (i := 3) Aa Aa
 have W := W.frontZ (i := 3) Aa Aa
 have W := W.frontM (i := 2) Aa Aa
 have W := W.sub (M' := [(q_p0, [.int .i64 p0.1.1, v1, v2, v5])]) (Z' := [AC v1 A6 p0.1.2.1, AC v2 Bg p0.1.2.2, row v5 64 BM x4]) (List.Sublist.cons_cons _ (List.nil_sublist _)) (List.Sublist.cons_cons _ (List.Sublist.cons_cons _ (List.Sublist.cons_cons _ (List.nil_sublist _))))
 exact ⟨((v1), (v2), (v5)), Aa, W⟩
theorem Mm : Has Try.prog 22 := ⟨fun args w => Ak Try.func22 rfl (by decide) args w⟩
noncomputable def C2 (p0 : (Int × (List (Int × Int × Int × Int × Int × Int)) × (List (Int × Int))) × (List (Int × Int × Int × (Int × Int × Int × Int) × Int × Int))) (p1 : Int) : Option ((Int × Int × Int × (Int × Int × Int × Int) × Int × Int) × Int) := (if (decide (p1 < 0) || decide ((p0.2.length : Int) ≤ p1)) = true then some ((0, 0, 0, (0, 0, 0, 0), 0, 0), 7) else (ix p0.2 p1).bind fun x1 => some (x1, 0))
theorem EK (Y : Nat → Prop) (w0 : World) (q_p0 : Nat) (v1 : Value) (v2 : Value) (v3 : Value) (p0 : (Int × (List (Int × Int × Int × Int × Int × Int)) × (List (Int × Int))) × (List (Int × Int × Int × (Int × Int × Int × Int) × Int × Int))) (p1 : Int) (r : (Int × Int × Int × (Int × Int × Int × Int) × Int × Int) × Int) (H : C2 p0 p1 = some r) (h_v1 : Sl w0 (NX []) A6 v1 p0.1.2.1) (h_v2 : Sl w0 (NX []) Bg v2 p0.1.2.2) (h_v3 : Sl w0 (NX []) BM v3 p0.2) (a_q_p0 : At ⟨Y, [], w0⟩ q_p0 0 [.int .i64 p0.1.1, v1, v2, v3]) :
    Calls Try.prog 27 #[.pointer (some ⟨q_p0, 0, none⟩), .int .i64 p1] w0 fun e w' => e = .returned (.tuple #[.agg #[.int .i64 r.1.1, .int .i64 r.1.2.1, .int .i64 r.1.2.2.1, .int .i64 r.1.2.2.2.1.1, .int .i64 r.1.2.2.2.1.2.1, .int .i64 r.1.2.2.2.1.2.2.1, .int .i64 r.1.2.2.2.1.2.2.2, .int .i64 r.1.2.2.2.2.1, .int .i64 r.1.2.2.2.2.2], .int .i64 r.2]) ∧ Below w0.heap.size w0 w' := by
 refine enter Try.func27 Aa Try.ntmps27 Aa fun a F => ?_
 have W := Stw.start Y w0
 unfold C2 at H
 refine Ai (Ab ?_)
 refine Bx (cs := (Cm)) F W Aa J3 Aa fun b1 a w F W => ?_
 refine ls F W Aa (Af F Aa).q fun a w F W => ?_
 refine Ae (Ac (Ai ?_))
 refine AN (fun a w => Fr 25 [] [(0, .pointer (some ⟨q_p0, 0, none⟩)), (1, .int .i64 p1), (4, .pointer (some ⟨b1, 0, none⟩)), (5, .int .i64 0), (16, .bool (decide (p1 < 0) || decide ((p0.2.length : Int) ≤ p1)))] a ∧ Stw ⟨Y, [], w0⟩ (Hs b1) [] w) ?_ ?_
 ·
  refine Ab ?_
  refine ls F W Aa (Ad F Aa).q fun a w F W => ?_
  refine ls F W Aa (BD F Aa Aa).q fun a w F W => ?_
  refine ls F W Aa (Ad F Aa).q fun a w F W => ?_
  rcases Bool.eq_false_or_eq_true (decide (p1 < 0)) with hb0 | hb0
  ·
   rw [hb0] at F
   iterate 7 refine BX F Aa Aa Aa Aa Aa Aa Aa fun a F => ?_
   refine ls F W Aa (Ao F Aa Aa Aa).q fun a w F W => ?_
   refine Ae (Ac ?_)
   exact ⟨F.re ⟨rfl, Aa, Aa, Aa, (DZ (by try rw [hb0]; all_goals simp only [DT])), trivial⟩, W⟩
  rw [hb0] at F
  iterate 2 refine Az F W (Ah F Aa Aa Aa Aa) Aa (Am Aa) (Ad F Aa).q fun a w F W => ?_
  refine Az F W (Ah F Aa Aa Aa Aa) Aa (Am Aa) (AM F Aa).q fun a w F W => ?_
  refine Az F W (Ah F Aa Aa Aa Aa) Aa (Am Aa) (Ag Ep Aa Aa Aa E2 F Aa 3 Aa).q fun a w F W => ?_
  refine Az F W (Ah F Aa Aa Aa Aa) Aa (Am Aa) (CD (y := v3) (j := 3) F Aa (Nat.zero_add _).symm a_q_p0 E2 Aa).q fun a w F W => ?_
  refine Az F W (Ah F Aa Aa Aa Aa) Aa (Am Aa) (Cg (r := BM) (l := p0.2) Ho Aa F Aa (Av h_v3)).q fun a w F W => ?_
  refine Az F W (Ah F Aa Aa Aa Aa) Aa (Am Aa) (FC F Aa Aa).q fun a w F W => ?_
  refine ls F W Aa (Aj F Aa Aa Aa).q fun a w F W => ?_
  refine Ae (Ac ?_)
  exact ⟨F.re ⟨rfl, Aa, Aa, Aa, (DZ (by try rw [hb0]; all_goals simp only [DT])), trivial⟩, W⟩
 rintro a w ⟨F, W⟩
 refine Ay F Aa (fun hb => ?_) fun hb => ?_
 ·
  have H := A8 hb H
  rw [hb] at F
  clear hb
  refine Ai (Ab ?_)
  refine ls F W Aa (Cr (v := Value.agg #[.int .i64 0, .int .i64 0, .int .i64 0, .int .i64 0, .int .i64 0, .int .i64 0, .int .i64 0, .int .i64 0, .int .i64 0]) LU F Aa Aa Aa).q fun a w F W => ?_
  refine Ba (vs := (Cm)) (M' := (Hs b1)) 0 F W Aa Aa Aa GP Aa Aa Aa Aa Aa fun w W => ?_
  refine ls F W Aa (Af F Aa).q fun a w F W => ?_
  refine Ae (Ac (AB (AQ ?_)))
  have H := A3 H
  subst H
  refine Ez (.inl Aa) F W Aa (Dc 0 F Aa Aa GP Aa) (Aq F Aa) ?_
  exact ⟨rfl, W.done⟩
 have H := A9 (by rw [hb]; decide) H
 rw [hb] at F
 clear hb
 refine Ap (Ac (Ai (Ab ?_)))
 refine ls F W Aa (Ad F Aa).q fun a w F W => ?_
 refine ls F W Aa (AM F Aa).q fun a w F W => ?_
 refine ls F W Aa (Ag Ep Aa Aa Aa E2 F Aa 3 Aa).q fun a w F W => ?_
 refine ls F W Aa (CD (y := v3) (j := 3) F Aa (Nat.zero_add _).symm a_q_p0 E2 Aa).q fun a w F W => ?_
 refine ls F W Aa (Ad F Aa).q fun a w F W => ?_
 obtain ⟨x1, h1, H⟩ := An H
 refine ls F W Aa (Be (r := BM) IM F Aa Aa (Av h_v3) h1).q fun a w F W => ?_
 refine ls F W Aa (AE (y := Value.agg #[.int .i64 x1.1, .int .i64 x1.2.1, .int .i64 x1.2.2.1, .int .i64 x1.2.2.2.1.1, .int .i64 x1.2.2.2.1.2.1, .int .i64 x1.2.2.2.1.2.2.1, .int .i64 x1.2.2.2.1.2.2.2, .int .i64 x1.2.2.2.2.1, .int .i64 x1.2.2.2.2.2]) (j := 0) (i := p1) F Aa Aa (Av h_v3) h1 JZ.to GP Aa).q fun a w F W => ?_
 refine Ba (vs := (Dl x1)) (M' := (KB b1 x1)) 0 F W Aa Aa Aa GP Aa Aa Aa Aa Aa fun w W => ?_
 refine ls F W Aa (Af F Aa).q fun a w F W => ?_
 refine Ae (Ac (AB ?_))
 have H := A3 H
 subst H
 refine Ez (.inl Aa) F W Aa (Dc 0 F Aa Aa GP Aa) (Aq F Aa) ?_
 exact ⟨rfl, W.done⟩
theorem Me : Has Try.prog 27 := ⟨fun args w => Ak Try.func27 rfl (by decide) args w⟩
noncomputable def CC (p0 : (Int × (List (Int × Int × Int × Int × Int × Int)) × (List (Int × Int))) × (List (Int × Int × Int × (Int × Int × Int × Int) × Int × Int))) (p1 : Int) : ((List (Int × Int × Int × (Int × Int × Int × Int) × Int × Int)) × Int) → Option (((List (Int × Int × Int × (Int × Int × Int × Int) × Int × Int)) × Int) ⊕ (List (Int × Int × Int × (Int × Int × Int × Int) × Int × Int)))
  | (x2, x3) => (if x3 < (p0.2.length : Int) then (if x3 ≠ p1 then (ix p0.2 x3).bind fun x5 => (app x2 ([x5] : List (Int × Int × Int × (Int × Int × Int × Int) × Int × Int))).bind fun x6 => some x6 else some x2).bind fun x4 => some (.inl (x4, AD (x3 + 1))) else some (.inr x2))
noncomputable def Ce (p0 : (Int × (List (Int × Int × Int × Int × Int × Int)) × (List (Int × Int))) × (List (Int × Int × Int × (Int × Int × Int × Int) × Int × Int))) (p1 : Int) : Option ((Int × (List (Int × Int × Int × Int × Int × Int)) × (List (Int × Int))) × (List (Int × Int × Int × (Int × Int × Int × Int) × Int × Int))) := (AU (CC p0 p1) ([], 0)).bind fun x1 => some (p0.1, x1)
theorem Ea (Y : Nat → Prop) (X : List Nat) (w0 : World) (q_p0 : Nat) (v1 : Value) (v2 : Value) (v3 : Value) (p0 : (Int × (List (Int × Int × Int × Int × Int × Int)) × (List (Int × Int))) × (List (Int × Int × Int × (Int × Int × Int × Int) × Int × Int))) (p1 : Int) (r : ((Int × (List (Int × Int × Int × Int × Int × Int)) × (List (Int × Int))) × (List (Int × Int × Int × (Int × Int × Int × Int) × Int × Int)))) (H : Ce p0 p1 = some r) (hL : Stw ⟨Y, X, w0⟩ [(q_p0, [.int .i64 p0.1.1, v1, v2, v3])] [AC v1 A6 p0.1.2.1, AC v2 Bg p0.1.2.2, row v3 64 BM p0.2] w0) :
    Calls Try.prog 38 #[.pointer (some ⟨q_p0, 0, none⟩), .int .i64 p1] w0 fun e w' => ∃ x : Value × Value × Value, e = .returned (.tuple #[]) ∧ Stw ⟨Y, X, w0⟩ [(q_p0, [.int .i64 r.1.1, x.1, x.2.1, x.2.2])] [AC (x.1) A6 r.1.2.1, AC (x.2.1) Bg r.1.2.2, row (x.2.2) 64 BM r.2] w' := by
 refine enter Try.func38 Aa Try.ntmps38 Aa fun a F => ?_
 have W := hL
 unfold Ce at H
 refine Ai (Ab ?_)
 refine ls F W Aa (Af F Aa).q fun a w F W => ?_
 refine Ae (Ac ?_)
 obtain ⟨o1, G1, K1⟩ := An H
 refine AN (fun a w => ∃ x1 : List (Int × Int × Int × (Int × Int × Int × Int) × Int × Int), ∃ v4 : Value, some (x1) = some o1 ∧ Fr 32 [] [(0, .pointer (some ⟨q_p0, 0, none⟩)), (4, v4)] a ∧ Stw ⟨Y, X, w0⟩ [(q_p0, [.int .i64 p0.1.1, v1, v2, v3])] [row v4 64 BM x1, AC v1 A6 p0.1.2.1, AC v2 Bg p0.1.2.2, row v3 64 BM p0.2] w) ?_ ?_
 ·
  have H := G1
  clear G1 K1
  refine Ai (Ab ?_)
  refine ls F W Aa (Af F Aa).q fun a w F W => ?_
  refine Ae (Ac (Ax ?_))
  have W := W.nilRow 64 BM
  have W := W.frontZ (i := 3) Aa Aa
  have W := W.frontZ (i := 3) Aa Aa
  have W := W.frontZ (i := 3) Aa Aa
  have W := W.frontZ (i := 3) Aa Aa
  refine BA H (fun s a w => ∃ v5 : Value, Fr 32 [] [(0, .pointer (some ⟨q_p0, 0, none⟩)), (1, .int .i64 p1), (4, v5), (5, .int .i64 s.2)] a ∧ Stw ⟨Y, X, w0⟩ [(q_p0, [.int .i64 p0.1.1, v1, v2, v3])] [row v5 64 BM s.1, AC v1 A6 p0.1.2.1, AC v2 Bg p0.1.2.2, row v3 64 BM p0.2] w) ⟨(Value.slice none 0 0), F.re ⟨rfl, Aa, Aa, Aa, trivial⟩, W⟩ fun s o a w H L2 hR => ?_
  obtain ⟨x2, x3⟩ := s
  obtain ⟨v5, F, W⟩ := hR
  have F : Fr 32 [] [(0, .pointer (some ⟨q_p0, 0, none⟩)), (1, .int .i64 p1), (4, v5), (5, .int .i64 x3)] a := F
  have W : Stw ⟨Y, X, w0⟩ [(q_p0, [.int .i64 p0.1.1, v1, v2, v3])] [row v5 64 BM x2, AC v1 A6 p0.1.2.1, AC v2 Bg p0.1.2.2, row v3 64 BM p0.2] w := W
  rw [CC] at H
  refine Ai (Ai (Ab ?_))
  iterate 2 refine ls F W Aa (Ad F Aa).q fun a w F W => ?_
  refine ls F W Aa (AM F Aa).q fun a w F W => ?_
  refine ls F W Aa (Ag Ep Aa Aa Aa E2 F Aa 3 Aa).q fun a w F W => ?_
  refine ls F W Aa (Al (v := v3) 0 F Aa Aa E2 Aa).q fun a w F W => ?_
  refine ls F W Aa (Cg (r := BM) (l := p0.2) Ho Aa F Aa (AA 3 Aa)).q fun a w F W => ?_
  refine ls F W Aa (BD F Aa Aa).q fun a w F W => ?_
  refine Ae (Ac ?_)
  refine Ay F Aa (fun hb => ?_) fun hb => ?_
  ·
   have H := A8 (BI hb) H
   rw [hb] at F
   clear hb
   refine Ap (Ac ?_)
   obtain ⟨o3, G3, K3⟩ := An H
   refine AN (fun a w => ∃ x4 : List (Int × Int × Int × (Int × Int × Int × Int) × Int × Int), ∃ v6 : Value, some (x4) = some o3 ∧ Fr 32 [] [(0, .pointer (some ⟨q_p0, 0, none⟩)), (1, .int .i64 p1), (4, v6), (5, .int .i64 x3)] a ∧ Stw ⟨Y, X, w0⟩ [(q_p0, [.int .i64 p0.1.1, v1, v2, v3])] [row v6 64 BM x4, AC v1 A6 p0.1.2.1, AC v2 Bg p0.1.2.2, row v3 64 BM p0.2] w) ?_ ?_
   ·
    have H := G3
    clear G3 K3
    refine Ax (Ai (Ab ?_))
    iterate 2 refine ls F W Aa (Ad F Aa).q fun a w F W => ?_
    refine ls F W Aa (Fk F Aa Aa).q fun a w F W => ?_
    refine Ae (Ac ?_)
    refine Ay F Aa (fun hb => ?_) fun hb => ?_
    ·
     have H := A8 (BI hb) H
     rw [hb] at F
     clear hb
     refine Ab ?_
     iterate 2 refine ls F W Aa (Ad F Aa).q fun a w F W => ?_
     refine ls F W Aa (AM F Aa).q fun a w F W => ?_
     refine ls F W Aa (Ag Ep Aa Aa Aa E2 F Aa 3 Aa).q fun a w F W => ?_
     refine ls F W Aa (Al (v := v3) 0 F Aa Aa E2 Aa).q fun a w F W => ?_
     refine ls F W Aa (Ad F Aa).q fun a w F W => ?_
     obtain ⟨x5, h1, H⟩ := An H
     refine ls F W Aa (Be (r := BM) IM F Aa Aa (AA 3 Aa) h1).q fun a w F W => ?_
     refine ls F W Aa (AE (y := Value.agg #[.int .i64 x5.1, .int .i64 x5.2.1, .int .i64 x5.2.2.1, .int .i64 x5.2.2.2.1.1, .int .i64 x5.2.2.2.1.2.1, .int .i64 x5.2.2.2.1.2.2.1, .int .i64 x5.2.2.2.1.2.2.2, .int .i64 x5.2.2.2.2.1, .int .i64 x5.2.2.2.2.2]) (j := 0) (i := x3) F Aa Aa (AA 3 Aa) h1 JZ.to GP Aa).q fun a w F W => ?_
     refine Fy (z := Value.agg #[.int .i64 0, .int .i64 0, .int .i64 0, .int .i64 0, .int .i64 0, .int .i64 0, .int .i64 0, .int .i64 0, .int .i64 0]) (cs := (Dl x5)) BM ([x5] : List (Int × Int × Int × (Int × Int × Int × Int) × Int × Int)) F W Aa IM J3 Aa Aa Aa Aa Aa Aa (JZ.repL _ _ ([x5] : List (Int × Int × Int × (Int × Int × Int × Int) × Int × Int))) fun v7 a w F W => ?_
     obtain ⟨x6, h2, H⟩ := An H
     refine DO (r := BM) (i := 1) F W Aa IM Aa Aa Aa Aa (Ef W 0 Aa) h2 Aa fun v8 a w F W => ?_
     have W : Stw ⟨Y, X, w0⟩ [(q_p0, [.int .i64 p0.1.1, v1, v2, v3])] [row v8 64 BM x6, row v7 64 BM ([x5] : List (Int × Int × Int × (Int × Int × Int × Int) × Int × Int)), AC v1 A6 p0.1.2.1, AC v2 Bg p0.1.2.2, row v3 64 BM p0.2] w := W
     refine ls F W Aa (Af F Aa).q fun a w F W => ?_
     refine Ae (AV (Ac ?_))
     have W := W.frontZ (i := 4) Aa Aa
     have W := W.frontZ (i := 4) Aa Aa
     have W := W.frontZ (i := 4) Aa Aa
     have W := W.frontZ (i := 3) Aa Aa
     have W := W.sub (M' := [(q_p0, [.int .i64 p0.1.1, v1, v2, v3])]) (Z' := [row v8 64 BM x6, AC v1 A6 p0.1.2.1, AC v2 Bg p0.1.2.2, row v3 64 BM p0.2]) (List.Sublist.refl _) (List.Sublist.cons_cons _ (List.Sublist.cons_cons _ (List.Sublist.cons_cons _ (List.Sublist.cons_cons _ (List.nil_sublist _)))))
     exact ⟨_, (v8), H, F.re ⟨rfl, Aa, Aa, Aa, trivial⟩, W⟩
    have H := A9 (BH hb) H
    rw [hb] at F
    clear hb
    refine Ap (AV (Ac ?_))
    have W := W.frontZ (i := 3) Aa Aa
    have W := W.frontZ (i := 3) Aa Aa
    have W := W.frontZ (i := 3) Aa Aa
    have W := W.frontZ (i := 3) Aa Aa
    exact ⟨_, (v5), H, F.re ⟨rfl, Aa, Aa, Aa, trivial⟩, W⟩
   rintro a w ⟨x4, v6, hj, F, W⟩
   have hj := A3 hj
   subst hj
   have H := K3
   clear G3 K3
   refine Ab ?_
   refine ls F W Aa (Ad F Aa).q fun a w F W => ?_
   refine ls F W Aa (BN F Aa Aa Aa).q fun a w F W => ?_
   refine ls F W Aa (Af F Aa).q fun a w F W => ?_
   refine Ae (Ac ?_)
   have W := W.frontZ (i := 3) Aa Aa
   have W := W.frontZ (i := 3) Aa Aa
   have W := W.frontZ (i := 3) Aa Aa
   have W := W.frontZ (i := 3) Aa Aa
   exact ⟨_, H, (v6), F.re ⟨rfl, Aa, Aa, Aa, trivial⟩, W⟩
  have H := A9 (BH hb) H
  rw [hb] at F
  clear hb
  refine Bz ?_
  iterate 2 refine B9 ?_
  refine BC (Ac ?_)
  have W := W.frontZ (i := 3) Aa Aa
  have W := W.frontZ (i := 3) Aa Aa
  have W := W.frontZ (i := 3) Aa Aa
  have W := W.frontZ (i := 3) Aa Aa
  have H := L2 _ H
  exact ⟨_, (v5), H, F.re ⟨rfl, Aa, trivial⟩, W⟩
 rintro a w ⟨x1, v4, hj, F, W⟩
 have hj := A3 hj
 subst hj
 have H := K1
 clear G1 K1
 refine Ab ?_
 iterate 2 refine ls F W Aa (Ad F Aa).q fun a w F W => ?_
 refine ls F W Aa (AM F Aa).q fun a w F W => ?_
 refine ls F W Aa (Ag Ep Aa Aa Aa E2 F Aa 3 Aa).q fun a w F W => ?_
 refine EM (M' := [(q_p0, [.int .i64 p0.1.1, v1, v2, v4])]) 0 F W Aa Aa Aa E2 (W.one (k := 0) Aa) Aa Aa fun w W => ?_
 refine Ae ?_
 have H := A3 H
 subst H
 refine Fx (.inr Aa) F Aa ?_
 have W := W.frontZ (i := 2) Aa Aa
 have W := W.frontZ (i := 2) Aa Aa
 have W := W.sub (M' := [(q_p0, [.int .i64 p0.1.1, v1, v2, v4])]) (Z' := [AC v1 A6 p0.1.2.1, AC v2 Bg p0.1.2.2, row v4 64 BM x1]) (List.Sublist.refl _) (List.Sublist.cons_cons _ (List.Sublist.cons_cons _ (List.Sublist.cons_cons _ (List.nil_sublist _))))
 exact ⟨((v1), (v2), (v4)), Aa, W⟩
theorem Mk : Has Try.prog 38 := ⟨fun args w => Ak Try.func38 rfl (by decide) args w⟩
noncomputable def C7 (p0 : (Int × (List (Int × Int × Int × Int × Int × Int)) × (List (Int × Int))) × (List (Int × Int × Int × (Int × Int × Int × Int) × Int × Int))) (p1 : Int) (p2 : Int) : Option ((Int × Int × Int × (Int × Int × Int × Int) × Int × Int) × Int × ((Int × (List (Int × Int × Int × Int × Int × Int)) × (List (Int × Int))) × (List (Int × Int × Int × (Int × Int × Int × Int) × Int × Int)))) := (C2 p0 p2).bind fun x1 => (if x1.2 ≠ 0 then some (x1.1, x1.2, p0) else (if p1 < x1.1.2.2.2.2.1 then some ((0, 0, 0, (0, 0, 0, 0), 0, 0), 15, p0) else (Ce p0 p2).bind fun x2 => some (x1.1, 0, x2)))
theorem Gb (Y : Nat → Prop) (X : List Nat) (w0 : World) (q_p0 : Nat) (v1 : Value) (v2 : Value) (v3 : Value) (p0 : (Int × (List (Int × Int × Int × Int × Int × Int)) × (List (Int × Int))) × (List (Int × Int × Int × (Int × Int × Int × Int) × Int × Int))) (p1 : Int) (p2 : Int) (r : (Int × Int × Int × (Int × Int × Int × Int) × Int × Int) × Int × ((Int × (List (Int × Int × Int × Int × Int × Int)) × (List (Int × Int))) × (List (Int × Int × Int × (Int × Int × Int × Int) × Int × Int)))) (H : C7 p0 p1 p2 = some r) (hL : Stw ⟨Y, X, w0⟩ [(q_p0, [.int .i64 p0.1.1, v1, v2, v3])] [AC v1 A6 p0.1.2.1, AC v2 Bg p0.1.2.2, row v3 64 BM p0.2] w0) :
    Calls Try.prog 23 #[.pointer (some ⟨q_p0, 0, none⟩), .int .i64 p1, .int .i64 p2] w0 fun e w' => ∃ x : Value × Value × Value, e = .returned (.tuple #[.agg #[.int .i64 r.1.1, .int .i64 r.1.2.1, .int .i64 r.1.2.2.1, .int .i64 r.1.2.2.2.1.1, .int .i64 r.1.2.2.2.1.2.1, .int .i64 r.1.2.2.2.1.2.2.1, .int .i64 r.1.2.2.2.1.2.2.2, .int .i64 r.1.2.2.2.2.1, .int .i64 r.1.2.2.2.2.2], .int .i64 r.2.1]) ∧ Stw ⟨Y, X, w0⟩ [(q_p0, [.int .i64 r.2.2.1.1, x.1, x.2.1, x.2.2])] [AC (x.1) A6 r.2.2.1.2.1, AC (x.2.1) Bg r.2.2.1.2.2, row (x.2.2) 64 BM r.2.2.2] w' := by
 refine enter Try.func23 Aa Try.ntmps23 Aa fun a F => ?_
 have W := hL
 unfold C7 at H
 refine Ai (Ab ?_)
 refine Bx (cs := (Cm)) F W Aa J3 Aa fun b1 a w F W => ?_
 refine ls F W Aa (Af F Aa).q fun a w F W => ?_
 refine Ae (Ac (Ai (Ab ?_)))
 iterate 2 refine ls F W Aa (Ad F Aa).q fun a w F W => ?_
 obtain ⟨x1, h1, H⟩ := An H
 refine ls F W Aa (Bv (v := Value.tuple #[.agg #[.int .i64 x1.1.1, .int .i64 x1.1.2.1, .int .i64 x1.1.2.2.1, .int .i64 x1.1.2.2.2.1.1, .int .i64 x1.1.2.2.2.1.2.1, .int .i64 x1.1.2.2.2.1.2.2.1, .int .i64 x1.1.2.2.2.1.2.2.2, .int .i64 x1.1.2.2.2.2.1, .int .i64 x1.1.2.2.2.2.2], .int .i64 x1.2]) F Me Aa (fun w W => EK any w q_p0 (v1) (v2) (v3) p0 p2 _ h1 (((Br 0 Aa) : CY _ _ _ _ _ _) w W).nx (((Br 1 Aa) : CY _ _ _ _ _ _) w W).nx (((AA 2 Aa) : CY _ _ _ _ _ _) w W).nx (GD W 1 Aa))) fun a w F W => ?_
 refine ls F W Aa (Ad F Aa).q fun a w F W => ?_
 refine ls F W Aa (AK (v := Value.agg #[.int .i64 x1.1.1, .int .i64 x1.1.2.1, .int .i64 x1.1.2.2.1, .int .i64 x1.1.2.2.2.1.1, .int .i64 x1.1.2.2.2.1.2.1, .int .i64 x1.1.2.2.2.1.2.2.1, .int .i64 x1.1.2.2.2.1.2.2.2, .int .i64 x1.1.2.2.2.2.1, .int .i64 x1.1.2.2.2.2.2]) F Aa Aa).q fun a w F W => ?_
 refine ls F W Aa (AK (v := Value.int .i64 x1.2) F Aa Aa).q fun a w F W => ?_
 refine Bx (cs := (Cm)) F W Aa J3 Aa fun b2 a w F W => ?_
 refine Ba (vs := (El x1)) (M' := (Gm b2 x1 b1 q_p0 p0 v1 v2 v3)) 0 F W Aa Aa Aa GP Aa Aa Aa Aa Aa fun w W => ?_
 refine ls F W Aa (Af F Aa).q fun a w F W => ?_
 refine Ae (Ac (Ai (Ai (Ab ?_))))
 refine ls F W Aa (Ad F Aa).q fun a w F W => ?_
 refine ls F W Aa (Fk F Aa Aa).q fun a w F W => ?_
 refine Ae (Ac ?_)
 refine Ay F Aa (fun hb => ?_) fun hb => ?_
 ·
  have H := A8 (BI hb) H
  rw [hb] at F
  clear hb
  refine Ai (Ab ?_)
  refine ls F W Aa (Al (v := Value.agg #[.int .i64 x1.1.1, .int .i64 x1.1.2.1, .int .i64 x1.1.2.2.1, .int .i64 x1.1.2.2.2.1.1, .int .i64 x1.1.2.2.2.1.2.1, .int .i64 x1.1.2.2.2.1.2.2.1, .int .i64 x1.1.2.2.2.1.2.2.2, .int .i64 x1.1.2.2.2.2.1, .int .i64 x1.1.2.2.2.2.2]) 0 F Aa Aa GP Aa).q fun a w F W => ?_
  refine ls F W Aa (Ad F Aa).q fun a w F W => ?_
  refine Ba (vs := (El x1)) (M' := (KF b2 x1 b1 q_p0 p0 v1 v2 v3)) 1 F W Aa Aa Aa GP Aa Aa Aa Aa Aa fun w W => ?_
  refine ls F W Aa (Af F Aa).q fun a w F W => ?_
  refine Ae (Ac (AB (AQ ?_)))
  have H := A3 H
  subst H
  refine Ez (.inl Aa) F W Aa (Dc 1 F Aa Aa GP Aa) (Aq F Aa) ?_
  have W := W.frontZ (i := 2) Aa Aa
  have W := W.frontZ (i := 2) Aa Aa
  have W := W.frontZ (i := 2) Aa Aa
  have W := W.frontM (i := 2) Aa Aa
  have W := W.sub (M' := [(q_p0, [.int .i64 p0.1.1, v1, v2, v3])]) (Z' := [AC v1 A6 p0.1.2.1, AC v2 Bg p0.1.2.2, row v3 64 BM p0.2]) (List.Sublist.cons_cons _ (List.nil_sublist _)) (List.Sublist.refl _)
  exact ⟨((v1), (v2), (v3)), Aa, W⟩
 have H := A9 (BH hb) H
 rw [hb] at F
 clear hb
 refine Ap (Ac (Ai (Ai (Ab ?_))))
 refine ls F W Aa (Ag FW Aa Aa Aa T3 F Aa 7 Aa).q fun a w F W => ?_
 refine ls F W Aa (Al (v := Value.int .i64 x1.1.2.2.2.2.1) 0 F Aa Aa T3 Aa).q fun a w F W => ?_
 refine ls F W Aa (Ad F Aa).q fun a w F W => ?_
 refine ls F W Aa (DF F Aa Aa).q fun a w F W => ?_
 refine Ae (Ac ?_)
 refine Ay F Aa (fun hb => ?_) fun hb => ?_
 ·
  have H := A8 (BI hb) H
  rw [hb] at F
  clear hb
  refine Ai (Ab ?_)
  refine ls F W Aa (Cr (v := Value.agg #[.int .i64 0, .int .i64 0, .int .i64 0, .int .i64 0, .int .i64 0, .int .i64 0, .int .i64 0, .int .i64 0, .int .i64 0]) LU F Aa Aa Aa).q fun a w F W => ?_
  refine Ba (vs := (Cm)) (M' := (Gm b2 x1 b1 q_p0 p0 v1 v2 v3)) 1 F W Aa Aa Aa GP Aa Aa Aa Aa Aa fun w W => ?_
  refine ls F W Aa (Af F Aa).q fun a w F W => ?_
  refine Ae (Ac (AB (AQ ?_)))
  have H := A3 H
  subst H
  refine Ez (.inl Aa) F W Aa (Dc 1 F Aa Aa GP Aa) (Aq F Aa) ?_
  have W := W.frontZ (i := 2) Aa Aa
  have W := W.frontZ (i := 2) Aa Aa
  have W := W.frontZ (i := 2) Aa Aa
  have W := W.frontM (i := 2) Aa Aa
  have W := W.sub (M' := [(q_p0, [.int .i64 p0.1.1, v1, v2, v3])]) (Z' := [AC v1 A6 p0.1.2.1, AC v2 Bg p0.1.2.2, row v3 64 BM p0.2]) (List.Sublist.cons_cons _ (List.nil_sublist _)) (List.Sublist.refl _)
  exact ⟨((v1), (v2), (v3)), Aa, W⟩
 have H := A9 (BH hb) H
 rw [hb] at F
 clear hb
 refine Ap (Ac (Ai (Ab ?_)))
 iterate 2 refine ls F W Aa (Ad F Aa).q fun a w F W => ?_
 obtain ⟨x2, h2, H⟩ := An H
 have W := W.frontZ (i := 2) Aa Aa
 have W := W.frontZ (i := 2) Aa Aa
 have W := W.frontZ (i := 2) Aa Aa
 have W := W.frontM (i := 2) Aa Aa
 refine Bq (Ml := [(q_p0, [.int .i64 p0.1.1, v1, v2, v3])]) (Zl := [AC v1 A6 p0.1.2.1, AC v2 Bg p0.1.2.2, row v3 64 BM p0.2]) (M := [(b2, [.int .i64 x1.1.1, .int .i64 x1.1.2.1, .int .i64 x1.1.2.2.1, .int .i64 x1.1.2.2.2.1.1, .int .i64 x1.1.2.2.2.1.2.1, .int .i64 x1.1.2.2.2.1.2.2.1, .int .i64 x1.1.2.2.2.1.2.2.2, .int .i64 x1.1.2.2.2.2.1, .int .i64 x1.1.2.2.2.2.2]), (b1, [.int .i64 0, .int .i64 0, .int .i64 0, .int .i64 0, .int .i64 0, .int .i64 0, .int .i64 0, .int .i64 0, .int .i64 0])]) (Z := []) (β := Value × Value × Value) (rv := fun x => .tuple #[]) (MM := fun x => [(q_p0, [.int .i64 x2.1.1, x.1, x.2.1, x.2.2])]) (ZZ := fun x => [AC x.1 A6 x2.1.2.1, AC x.2.1 Bg x2.1.2.2, row x.2.2 64 BM x2.2]) F W Mk Aa Aa (fun hL => Ea _ _ w q_p0 (v1) (v2) (v3) p0 p2 _ h2 hL) fun x a w F W => ?_
 obtain ⟨v4, v5, v6⟩ := x
 have W : Stw ⟨Y, X, w0⟩ [(q_p0, [.int .i64 x2.1.1, v4, v5, v6]), (b2, (El x1)), (b1, (Cm))] [AC v4 A6 x2.1.2.1, AC v5 Bg x2.1.2.2, row v6 64 BM x2.2] w := W
 refine Ae (Ac (Ai (Ab ?_)))
 refine ls F W Aa (Al (v := Value.agg #[.int .i64 x1.1.1, .int .i64 x1.1.2.1, .int .i64 x1.1.2.2.1, .int .i64 x1.1.2.2.2.1.1, .int .i64 x1.1.2.2.2.1.2.1, .int .i64 x1.1.2.2.2.1.2.2.1, .int .i64 x1.1.2.2.2.1.2.2.2, .int .i64 x1.1.2.2.2.2.1, .int .i64 x1.1.2.2.2.2.2]) 1 F Aa Aa GP Aa).q fun a w F W => ?_
 refine Ba (vs := (El x1)) (M' := [(q_p0, [.int .i64 x2.1.1, v4, v5, v6]), (b2, (El x1)), (b1, (El x1))]) 2 F W Aa Aa Aa GP Aa Aa Aa Aa Aa fun w W => ?_
 refine ls F W Aa (Af F Aa).q fun a w F W => ?_
 refine Ae (Ac (AB ?_))
 have H := A3 H
 subst H
 refine Ez (.inl Aa) F W Aa (Dc 2 F Aa Aa GP Aa) (Aq F Aa) ?_
 have W := W.frontZ (i := 2) Aa Aa
 have W := W.frontZ (i := 2) Aa Aa
 have W := W.frontZ (i := 2) Aa Aa
 have W := W.sub (M' := [(q_p0, [.int .i64 x2.1.1, v4, v5, v6])]) (Z' := [AC v4 A6 x2.1.2.1, AC v5 Bg x2.1.2.2, row v6 64 BM x2.2]) (List.Sublist.cons_cons _ (List.nil_sublist _)) (List.Sublist.refl _)
 exact ⟨((v4), (v5), (v6)), Aa, W⟩
theorem M0 : Has Try.prog 23 := ⟨fun args w => Ak Try.func23 rfl (by decide) args w⟩
theorem LR (d : Nat) (x0 x1 x2 x3 y0 y1 y2 y3 : Int) (w : World) : (Op.equalIn (d + 2) 36 (.agg #[.int .i64 x0, .int .i64 x1, .int .i64 x2, .int .i64 x3]) (.agg #[.int .i64 y0, .int .i64 y1, .int .i64 y2, .int .i64 y3])).run Try.prog w = .ok (decide (x0 = y0 ∧ x1 = y1 ∧ x2 = y2 ∧ x3 = y3)) w :=
  (KW (d := d) (k := .i64) KR Jl T3 [x0, x1, x2, x3] [y0, y1, y2, y3] rfl rfl w).trans (by congr 1; exact decide_eq_decide.2 (by simp))
theorem Mq : Try.prog.eqGuardType Try.prog.depth 36 = false := by kernel_rfl
theorem MX (x0 : Int) (x1 : Int) (x2 : Int) (x3 : Int) (y0 : Int) (y1 : Int) (y2 : Int) (y3 : Int) (w : World) : (Op.equalIn 10000 36 (.agg #[.int .i64 x0, .int .i64 x1, .int .i64 x2, .int .i64 x3]) (.agg #[.int .i64 y0, .int .i64 y1, .int .i64 y2, .int .i64 y3])).run Try.prog w = .ok (decide (x0 = y0 ∧ x1 = y1 ∧ x2 = y2 ∧ x3 = y3)) w := LR 9998 x0 x1 x2 x3 y0 y1 y2 y3 w
def CB (p0 : Int × Int × Int × (Int × Int × Int × Int) × Int × Int) (p1 : Int × Int × Int × (Int × Int × Int × Int) × Int × Int) : Bool := (decide (p0.1 = p1.1) && (decide (p0.2.1 = p1.2.1) && (decide (p0.2.2.1 = p1.2.2.1) && (decide (p0.2.2.2.1.1 = p1.2.2.2.1.1 ∧ p0.2.2.2.1.2.1 = p1.2.2.2.1.2.1 ∧ p0.2.2.2.1.2.2.1 = p1.2.2.2.1.2.2.1 ∧ p0.2.2.2.1.2.2.2 = p1.2.2.2.1.2.2.2) && (decide (p0.2.2.2.2.1 = p1.2.2.2.2.1) && decide (p0.2.2.2.2.2 = p1.2.2.2.2.2))))))
theorem FE (Y : Nat → Prop) (w0 : World)  (p0 : Int × Int × Int × (Int × Int × Int × Int) × Int × Int) (p1 : Int × Int × Int × (Int × Int × Int × Int) × Int × Int) (r : Bool) (H : CB p0 p1 = r)  :
    Calls Try.prog 24 #[.agg #[.int .i64 p0.1, .int .i64 p0.2.1, .int .i64 p0.2.2.1, .int .i64 p0.2.2.2.1.1, .int .i64 p0.2.2.2.1.2.1, .int .i64 p0.2.2.2.1.2.2.1, .int .i64 p0.2.2.2.1.2.2.2, .int .i64 p0.2.2.2.2.1, .int .i64 p0.2.2.2.2.2], .agg #[.int .i64 p1.1, .int .i64 p1.2.1, .int .i64 p1.2.2.1, .int .i64 p1.2.2.2.1.1, .int .i64 p1.2.2.2.1.2.1, .int .i64 p1.2.2.2.1.2.2.1, .int .i64 p1.2.2.2.1.2.2.2, .int .i64 p1.2.2.2.2.1, .int .i64 p1.2.2.2.2.2]] w0 fun e w' => e = .returned (.bool r) ∧ Below w0.heap.size w0 w' := by
 refine enter Try.func24 Aa Try.ntmps24 Aa fun a F => ?_
 have W := Stw.start Y w0
 unfold CB at H
 refine Ai (Ab ?_)
 refine Dv (cs := (Dl p0)) F W Aa Aa Aa fun b1 a w F W => ?_
 refine Dv (cs := (Dl p1)) F W Aa Aa Aa fun b2 a w F W => ?_
 refine ls F W Aa (Af F Aa).q fun a w F W => ?_
 refine Ae (Ac ?_)
 refine AN (fun a w => Fr 45 [] [(4, .bool (decide (p0.1 = p1.1) && (decide (p0.2.1 = p1.2.1) && (decide (p0.2.2.1 = p1.2.2.1) && (decide (p0.2.2.2.1.1 = p1.2.2.2.1.1 ∧ p0.2.2.2.1.2.1 = p1.2.2.2.1.2.1 ∧ p0.2.2.2.1.2.2.1 = p1.2.2.2.1.2.2.1 ∧ p0.2.2.2.1.2.2.2 = p1.2.2.2.1.2.2.2) && (decide (p0.2.2.2.2.1 = p1.2.2.2.2.1) && decide (p0.2.2.2.2.2 = p1.2.2.2.2.2)))))))] a ∧ Stw ⟨Y, [], w0⟩ [(b2, [.int .i64 p1.1, .int .i64 p1.2.1, .int .i64 p1.2.2.1, .int .i64 p1.2.2.2.1.1, .int .i64 p1.2.2.2.1.2.1, .int .i64 p1.2.2.2.1.2.2.1, .int .i64 p1.2.2.2.1.2.2.2, .int .i64 p1.2.2.2.2.1, .int .i64 p1.2.2.2.2.2]), (b1, [.int .i64 p0.1, .int .i64 p0.2.1, .int .i64 p0.2.2.1, .int .i64 p0.2.2.2.1.1, .int .i64 p0.2.2.2.1.2.1, .int .i64 p0.2.2.2.1.2.2.1, .int .i64 p0.2.2.2.1.2.2.2, .int .i64 p0.2.2.2.2.1, .int .i64 p0.2.2.2.2.2])] [] w) ?_ ?_
 ·
  refine Ab ?_
  refine ls F W Aa (Ag FL Aa Aa Aa T3 F Aa 0 Aa).q fun a w F W => ?_
  refine ls F W Aa (Al (v := Value.int .i64 p0.1) 1 F Aa Aa T3 Aa).q fun a w F W => ?_
  refine ls F W Aa (Ag FW Aa Aa Aa T3 F Aa 0 Aa).q fun a w F W => ?_
  refine ls F W Aa (Al (v := Value.int .i64 p1.1) 0 F Aa Aa T3 Aa).q fun a w F W => ?_
  refine ls F W Aa (BQ F Aa Aa).q fun a w F W => ?_
  refine ls F W Aa (Ad F Aa).q fun a w F W => ?_
  rcases Bool.eq_false_or_eq_true (decide (p0.1 = p1.1)) with hb0 | hb0
  ·
   rw [hb0] at F
   refine Az F W (Ah F Aa Aa Aa Aa) Aa (Am Aa) (Ag FL Aa Aa Aa T3 F Aa 1 Aa).q fun a w F W => ?_
   refine Az F W (Ah F Aa Aa Aa Aa) Aa (Am Aa) (Al (v := Value.int .i64 p0.2.1) 1 F Aa Aa T3 Aa).q fun a w F W => ?_
   refine Az F W (Ah F Aa Aa Aa Aa) Aa (Am Aa) (Ag FW Aa Aa Aa T3 F Aa 1 Aa).q fun a w F W => ?_
   refine Az F W (Ah F Aa Aa Aa Aa) Aa (Am Aa) (Al (v := Value.int .i64 p1.2.1) 0 F Aa Aa T3 Aa).q fun a w F W => ?_
   refine Az F W (Ah F Aa Aa Aa Aa) Aa (Am Aa) (BQ F Aa Aa).q fun a w F W => ?_
   refine ls F W Aa (Ao F Aa Aa Aa).q fun a w F W => ?_
   refine ls F W Aa (Ad F Aa).q fun a w F W => ?_
   rcases Bool.eq_false_or_eq_true (decide (p0.2.1 = p1.2.1)) with hb1 | hb1
   ·
    rw [hb1] at F
    refine Az F W (Ah F Aa Aa Aa Aa) Aa (Am Aa) (Ag FL Aa Aa Aa T3 F Aa 2 Aa).q fun a w F W => ?_
    refine Az F W (Ah F Aa Aa Aa Aa) Aa (Am Aa) (Al (v := Value.int .i64 p0.2.2.1) 1 F Aa Aa T3 Aa).q fun a w F W => ?_
    refine Az F W (Ah F Aa Aa Aa Aa) Aa (Am Aa) (Ag FW Aa Aa Aa T3 F Aa 2 Aa).q fun a w F W => ?_
    refine Az F W (Ah F Aa Aa Aa Aa) Aa (Am Aa) (Al (v := Value.int .i64 p1.2.2.1) 0 F Aa Aa T3 Aa).q fun a w F W => ?_
    refine Az F W (Ah F Aa Aa Aa Aa) Aa (Am Aa) (BQ F Aa Aa).q fun a w F W => ?_
    refine ls F W Aa (Ao F Aa Aa Aa).q fun a w F W => ?_
    refine ls F W Aa (Ad F Aa).q fun a w F W => ?_
    rcases Bool.eq_false_or_eq_true (decide (p0.2.2.1 = p1.2.2.1)) with hb2 | hb2
    ·
     rw [hb2] at F
     refine Az F W (Ah F Aa Aa Aa Aa) Aa (Am Aa) (Ag FL Aa Aa Aa J1 F Aa 3 Aa).q fun a w F W => ?_
     refine Az F W (Ah F Aa Aa Aa Aa) Aa (Am Aa) (Al (v := Value.agg #[.int .i64 p0.2.2.2.1.1, .int .i64 p0.2.2.2.1.2.1, .int .i64 p0.2.2.2.1.2.2.1, .int .i64 p0.2.2.2.1.2.2.2]) 1 F Aa Aa J1 Aa).q fun a w F W => ?_
     refine Az F W (Ah F Aa Aa Aa Aa) Aa (Am Aa) (Ag FW Aa Aa Aa J1 F Aa 3 Aa).q fun a w F W => ?_
     refine Az F W (Ah F Aa Aa Aa Aa) Aa (Am Aa) (Al (v := Value.agg #[.int .i64 p1.2.2.2.1.1, .int .i64 p1.2.2.2.1.2.1, .int .i64 p1.2.2.2.1.2.2.1, .int .i64 p1.2.2.2.1.2.2.2]) 0 F Aa Aa J1 Aa).q fun a w F W => ?_
     refine Az F W (Ah F Aa Aa Aa Aa) Aa (Am Aa) (JY (t := decide (p0.2.2.2.1.1 = p1.2.2.2.1.1 ∧ p0.2.2.2.1.2.1 = p1.2.2.2.1.2.1 ∧ p0.2.2.2.1.2.2.1 = p1.2.2.2.1.2.2.1 ∧ p0.2.2.2.1.2.2.2 = p1.2.2.2.1.2.2.2)) Mq (MX _ _ _ _ _ _ _ _) F Aa Aa).q fun a w F W => ?_
     refine ls F W Aa (Ao F Aa Aa Aa).q fun a w F W => ?_
     refine ls F W Aa (Ad F Aa).q fun a w F W => ?_
     rcases Bool.eq_false_or_eq_true (decide (p0.2.2.2.1.1 = p1.2.2.2.1.1 ∧ p0.2.2.2.1.2.1 = p1.2.2.2.1.2.1 ∧ p0.2.2.2.1.2.2.1 = p1.2.2.2.1.2.2.1 ∧ p0.2.2.2.1.2.2.2 = p1.2.2.2.1.2.2.2)) with hb3 | hb3
     ·
      rw [hb3] at F
      refine Az F W (Ah F Aa Aa Aa Aa) Aa (Am Aa) (Ag FL Aa Aa Aa T3 F Aa 7 Aa).q fun a w F W => ?_
      refine Az F W (Ah F Aa Aa Aa Aa) Aa (Am Aa) (Al (v := Value.int .i64 p0.2.2.2.2.1) 1 F Aa Aa T3 Aa).q fun a w F W => ?_
      refine Az F W (Ah F Aa Aa Aa Aa) Aa (Am Aa) (Ag FW Aa Aa Aa T3 F Aa 7 Aa).q fun a w F W => ?_
      refine Az F W (Ah F Aa Aa Aa Aa) Aa (Am Aa) (Al (v := Value.int .i64 p1.2.2.2.2.1) 0 F Aa Aa T3 Aa).q fun a w F W => ?_
      refine Az F W (Ah F Aa Aa Aa Aa) Aa (Am Aa) (BQ F Aa Aa).q fun a w F W => ?_
      refine ls F W Aa (Ao F Aa Aa Aa).q fun a w F W => ?_
      refine ls F W Aa (Ad F Aa).q fun a w F W => ?_
      rcases Bool.eq_false_or_eq_true (decide (p0.2.2.2.2.1 = p1.2.2.2.2.1)) with hb4 | hb4
      ·
       rw [hb4] at F
       refine Az F W (Ah F Aa Aa Aa Aa) Aa (Am Aa) (Ag FL Aa Aa Aa T3 F Aa 8 Aa).q fun a w F W => ?_
       refine Az F W (Ah F Aa Aa Aa Aa) Aa (Am Aa) (Al (v := Value.int .i64 p0.2.2.2.2.2) 1 F Aa Aa T3 Aa).q fun a w F W => ?_
       refine Az F W (Ah F Aa Aa Aa Aa) Aa (Am Aa) (Ag FW Aa Aa Aa T3 F Aa 8 Aa).q fun a w F W => ?_
       refine Az F W (Ah F Aa Aa Aa Aa) Aa (Am Aa) (Al (v := Value.int .i64 p1.2.2.2.2.2) 0 F Aa Aa T3 Aa).q fun a w F W => ?_
       refine Az F W (Ah F Aa Aa Aa Aa) Aa (Am Aa) (BQ F Aa Aa).q fun a w F W => ?_
       refine ls F W Aa (Ao F Aa Aa Aa).q fun a w F W => ?_
       refine ls F W Aa (Af F Aa).q fun a w F W => ?_
       refine Ae (Ac ?_)
       exact ⟨F.re ⟨(DZ (by try rw [hb3]; try rw [hb4]; try rw [hb2]; try rw [hb1]; try rw [hb0]; all_goals simp only [DT])), trivial⟩, W⟩
      rw [hb4] at F
      iterate 5 refine BX F Aa Aa Aa Aa Aa Aa Aa fun a F => ?_
      refine ls F W Aa (Aj F Aa Aa Aa).q fun a w F W => ?_
      refine ls F W Aa (Af F Aa).q fun a w F W => ?_
      refine Ae (Ac ?_)
      exact ⟨F.re ⟨(DZ (by try rw [hb3]; try rw [hb4]; try rw [hb2]; try rw [hb1]; try rw [hb0]; all_goals simp only [DT])), trivial⟩, W⟩
     rw [hb3] at F
     iterate 5 refine BX F Aa Aa Aa Aa Aa Aa Aa fun a F => ?_
     refine ls F W Aa (Aj F Aa Aa Aa).q fun a w F W => ?_
     refine ls F W Aa (Ad F Aa).q fun a w F W => ?_
     iterate 5 refine BX F Aa Aa Aa Aa Aa Aa Aa fun a F => ?_
     refine ls F W Aa (Aj F Aa Aa Aa).q fun a w F W => ?_
     refine ls F W Aa (Af F Aa).q fun a w F W => ?_
     refine Ae (Ac ?_)
     exact ⟨F.re ⟨(DZ (by try rw [hb3]; try rw [hb2]; try rw [hb1]; try rw [hb0]; all_goals simp only [DT])), trivial⟩, W⟩
    rw [hb2] at F
    iterate 5 refine BX F Aa Aa Aa Aa Aa Aa Aa fun a F => ?_
    refine ls F W Aa (Aj F Aa Aa Aa).q fun a w F W => ?_
    refine ls F W Aa (Ad F Aa).q fun a w F W => ?_
    iterate 5 refine BX F Aa Aa Aa Aa Aa Aa Aa fun a F => ?_
    refine ls F W Aa (Aj F Aa Aa Aa).q fun a w F W => ?_
    refine ls F W Aa (Ad F Aa).q fun a w F W => ?_
    iterate 5 refine BX F Aa Aa Aa Aa Aa Aa Aa fun a F => ?_
    refine ls F W Aa (Aj F Aa Aa Aa).q fun a w F W => ?_
    refine ls F W Aa (Af F Aa).q fun a w F W => ?_
    refine Ae (Ac ?_)
    exact ⟨F.re ⟨(DZ (by try rw [hb2]; try rw [hb1]; try rw [hb0]; all_goals simp only [DT])), trivial⟩, W⟩
   rw [hb1] at F
   iterate 5 refine BX F Aa Aa Aa Aa Aa Aa Aa fun a F => ?_
   refine ls F W Aa (Aj F Aa Aa Aa).q fun a w F W => ?_
   refine ls F W Aa (Ad F Aa).q fun a w F W => ?_
   iterate 5 refine BX F Aa Aa Aa Aa Aa Aa Aa fun a F => ?_
   refine ls F W Aa (Aj F Aa Aa Aa).q fun a w F W => ?_
   refine ls F W Aa (Ad F Aa).q fun a w F W => ?_
   iterate 5 refine BX F Aa Aa Aa Aa Aa Aa Aa fun a F => ?_
   refine ls F W Aa (Aj F Aa Aa Aa).q fun a w F W => ?_
   refine ls F W Aa (Ad F Aa).q fun a w F W => ?_
   iterate 5 refine BX F Aa Aa Aa Aa Aa Aa Aa fun a F => ?_
   refine ls F W Aa (Aj F Aa Aa Aa).q fun a w F W => ?_
   refine ls F W Aa (Af F Aa).q fun a w F W => ?_
   refine Ae (Ac ?_)
   exact ⟨F.re ⟨(DZ (by try rw [hb1]; try rw [hb0]; all_goals simp only [DT])), trivial⟩, W⟩
  rw [hb0] at F
  iterate 5 refine BX F Aa Aa Aa Aa Aa Aa Aa fun a F => ?_
  refine ls F W Aa (Aj F Aa Aa Aa).q fun a w F W => ?_
  refine ls F W Aa (Ad F Aa).q fun a w F W => ?_
  iterate 5 refine BX F Aa Aa Aa Aa Aa Aa Aa fun a F => ?_
  refine ls F W Aa (Aj F Aa Aa Aa).q fun a w F W => ?_
  refine ls F W Aa (Ad F Aa).q fun a w F W => ?_
  iterate 5 refine BX F Aa Aa Aa Aa Aa Aa Aa fun a F => ?_
  refine ls F W Aa (Aj F Aa Aa Aa).q fun a w F W => ?_
  refine ls F W Aa (Ad F Aa).q fun a w F W => ?_
  iterate 5 refine BX F Aa Aa Aa Aa Aa Aa Aa fun a F => ?_
  refine ls F W Aa (Aj F Aa Aa Aa).q fun a w F W => ?_
  refine ls F W Aa (Ad F Aa).q fun a w F W => ?_
  iterate 5 refine BX F Aa Aa Aa Aa Aa Aa Aa fun a F => ?_
  refine ls F W Aa (Aj F Aa Aa Aa).q fun a w F W => ?_
  refine ls F W Aa (Af F Aa).q fun a w F W => ?_
  refine Ae (Ac ?_)
  exact ⟨F.re ⟨(DZ (by try rw [hb0]; all_goals simp only [DT])), trivial⟩, W⟩
 rintro a w ⟨F, W⟩
 refine AB ?_
 subst H
 refine Bh (.inl Aa) F W Aa (Aq F Aa) ?_
 exact ⟨rfl, W.done⟩
end Go.Proofs.Ytemacefkdopgaaa
