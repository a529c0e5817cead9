/- The functions of layer 23, HZ. Conditions: none. -/
import Derived.Test.YthiejmoddfenlaaRows
import Derived.Test.YthiejmoddfenlaahA3
import Derived.Test.YthiejmoddfenlaahOC
import Derived.Test.YthiejmoddfenlaahOM
import Derived.Test.YthiejmoddfenlaahDR
import Derived.Test.YthiejmoddfenlaahOX
namespace Go.Proofs.Ythiejmoddfenlaa
open Go Go.RowKit
set_option linter.unusedVariables false
set_option linter.unusedSimpArgs false
set_option maxRecDepth 20000
noncomputable def GM (p1 : List (List Int)) : Int → Option (Int ⊕ (Unit ⊕ Bool))
  | x1 => (if x1 < (p1.length : Int) then (ix p1 x1).bind fun x2 => (if 12 < (x2.length : Int) then some (.inr (.inr false)) else some (.inl (AB (x1 + 1)))) else some (.inr (.inl ())))
noncomputable def HQ (p0 : Int × (List (Int × Int × Int × Int × Int × Int)) × (List (Int × Int))) (p1 : List (List Int)) : Option Bool := FB (AG (GM p1) 0) fun _ => some (decide ((p0.2.1.length : Int) ≤ 30) && (decide ((p0.2.2.length : Int) ≤ 12) && decide ((p1.length : Int) ≤ 12)))
theorem KO (Y : Nat → Prop) (w0 : World) (v1 : Value) (v2 : Value) (v3 : Value) (p0 : Int × (List (Int × Int × Int × Int × Int × Int)) × (List (Int × Int))) (p1 : List (List Int)) (r : Bool) (H : HQ p0 p1 = some r) (h_v1 : Sl w0 (NX []) Hu v1 p0.2.1) (h_v2 : Sl w0 (NX []) Gz v2 p0.2.2) (h_v3 : Sl w0 (NX []) (Rp.slice (Rp.int .i64)) v3 p1) :
    Calls Try.prog 7 #[.agg #[.int .i64 p0.1, v1, v2], v3] w0 fun e w' => e = .returned (.bool r) ∧ Below w0.heap.size w0 w' := by
 refine enter Try.func7 Aa Try.ntmps7 Aa fun a F => ?_
 have W := Stw.start Y w0
 obtain ⟨v4, h1, h_v3⟩ := h_v3.ex Do
 unfold HQ at H
 refine Ah (Ac ?_)
 refine E5 (cs := [.int .i64 p0.1, v1, v2]) F W Aa Aa Aa fun b1 a w F W => ?_
 refine ls F W Aa (Ag F Aa).q fun a w F W => ?_
 refine Ae (Ab ?_)
 obtain ⟨o1, G1, K1, L1⟩ := Jx H
 refine AM (fun a w => some (Sum.inl ()) = some o1 ∧ Fr 33 [] [(1, v3), (2, .pointer (some ⟨b1, 0, none⟩)), (4, .bool false)] a ∧ Stw ⟨Y, [], w0⟩ [(b1, [.int .i64 p0.1, v1, v2])] [] w) ?_ ?_
 ·
  have H := G1
  clear G1 K1
  refine Ah (Ac ?_)
  refine ls F W Aa (Ag F Aa).q fun a w F W => ?_
  refine Ae (Ab (As ?_))
  refine Bb H (fun s a w => Fr 33 [] [(1, v3), (2, .pointer (some ⟨b1, 0, none⟩)), (4, .bool false), (5, .int .i64 s)] a ∧ Stw ⟨Y, [], w0⟩ [(b1, [.int .i64 p0.1, v1, v2])] [] w) ⟨F.re ⟨rfl, Aa, Aa, Aa, trivial⟩, W⟩ fun s o a w H L2 hR => ?_
  obtain ⟨x1, rfl⟩ : ∃ x, x = s := ⟨s, rfl⟩
  obtain ⟨F, W⟩ := hR
  have F : Fr 33 [] [(1, v3), (2, .pointer (some ⟨b1, 0, none⟩)), (4, .bool false), (5, .int .i64 x1)] a := F
  have W : Stw ⟨Y, [], w0⟩ [(b1, [.int .i64 p0.1, v1, v2])] [] w := W
  rw [GM] at H
  refine Ah (Ah (Ac ?_))
  iterate 2 refine ls F W Aa (Ad F Aa).q fun a w F W => ?_
  refine ls F W Aa (B0 (r := (Rp.slice (Rp.int .i64))) (l := p1) Ju Aa F Aa (B8 Do h1 (Am h_v3))).q fun a w F W => ?_
  refine ls F W Aa (Bu F Aa Aa).q fun a w F W => ?_
  refine Ae (Ab ?_)
  refine AA F Aa (fun hb => ?_) fun hb => ?_
  ·
   have H := AS (BD hb) H
   rw [hb] at F
   clear hb
   refine Av (Ab (Ah (As (Ah (Ac ?_)))))
   iterate 2 refine ls F W Aa (Ad F Aa).q fun a w F W => ?_
   obtain ⟨x2, h2, H⟩ := Ak H
   obtain ⟨v5, h3, h4⟩ := DQ h1 h2
   have h5 : EN v5 = [(v5.1)] := congrArg (fun q : List Int => ([(v5.1)] : List Value)) h4
   refine ls F W Aa (Ax (r := (Rp.vsl (Rp.int .i64))) Lm F Aa Aa (Am h_v3) h3).q fun a w F W => ?_
   refine ls F W Aa (Ao (y := (v5.1)) (j := 0) (i := x1) (enc := EN) F Aa Aa (Am h_v3) h3 Im JO (by rw [h5]; rfl)).q fun a w F W => ?_
   refine ls F W Aa (B0 (r := (Rp.int .i64)) (l := x2) Hr Aa F Aa (Du (Am h_v3) h3 EK.here (congrArg (fun q : List Int => q) h4))).q fun a w F W => ?_
   refine ls F W Aa (Ga F Aa Aa).q fun a w F W => ?_
   refine Ae (Ab ?_)
   refine AA F Aa (fun hb => ?_) fun hb => ?_
   ·
    have H := AS (BD hb) H
    rw [hb] at F
    clear hb
    refine Ah (Ac ?_)
    refine ls F W Aa (Ag F Aa).q fun a w F W => ?_
    refine Ae (Ab (AF (AQ ?_)))
    iterate 2 refine AH ?_
    refine AQ (AH ?_)
    have H := L2 _ H
    have H := L1 _ H
    have H := AV H
    subst H
    refine BK (.inl Aa) F W Aa (Ay F Aa) ?_
    exact ⟨rfl, W.done⟩
   have H := AR (BB hb) H
   rw [hb] at F
   clear hb
   refine Av (AP (Ab (Ac ?_)))
   refine ls F W Aa (Ad F Aa).q fun a w F W => ?_
   refine ls F W Aa (BC F Aa Aa Aa).q fun a w F W => ?_
   refine ls F W Aa (Ag F Aa).q fun a w F W => ?_
   refine Ae (Ab ?_)
   exact ⟨_, H, F.re ⟨rfl, Aa, Aa, Aa, trivial⟩, W⟩
  have H := AR (BB hb) H
  rw [hb] at F
  clear hb
  refine A8 ?_
  iterate 2 refine Bq ?_
  refine A9 (Ab ?_)
  have H := L2 _ H
  exact ⟨H, F.re ⟨rfl, Aa, Aa, trivial⟩, W⟩
 rintro a w ⟨hj, F, W⟩
 have H := K1 _ hj
 clear hj G1 K1 L1
 refine AM (fun a w => Fr 33 [] [(4, .bool (decide ((p0.2.1.length : Int) ≤ 30) && (decide ((p0.2.2.length : Int) ≤ 12) && decide ((p1.length : Int) ≤ 12))))] a ∧ Stw ⟨Y, [], w0⟩ [(b1, [.int .i64 p0.1, v1, v2])] [] w) ?_ ?_
 ·
  refine Ac ?_
  refine ls F W Aa (Aj D1 Aa Aa Aa Lp F Aa 1 Aa).q fun a w F W => ?_
  refine ls F W Aa (Aw (v := v1) 0 F Aa Aa Lp Aa).q fun a w F W => ?_
  refine ls F W Aa (B0 (r := Hu) (l := p0.2.1) Md Aa F Aa (Am h_v1)).q fun a w F W => ?_
  refine ls F W Aa (Ie F Aa Aa).q fun a w F W => ?_
  refine ls F W Aa (Ad F Aa).q fun a w F W => ?_
  rcases Bool.eq_false_or_eq_true (decide ((p0.2.1.length : Int) ≤ 30)) with hb0 | hb0
  ·
   rw [hb0] at F
   refine AJ F W (Af F Aa Aa Aa Aa) Aa (Ai Aa) (Aj D1 Aa Aa Aa H4 F Aa 2 Aa).q fun a w F W => ?_
   refine AJ F W (Af F Aa Aa Aa Aa) Aa (Ai Aa) (Aw (v := v2) 0 F Aa Aa H4 Aa).q fun a w F W => ?_
   refine AJ F W (Af F Aa Aa Aa Aa) Aa (Ai Aa) (B0 (r := Gz) (l := p0.2.2) JG Aa F Aa (Am h_v2)).q fun a w F W => ?_
   refine AJ F W (Af F Aa Aa Aa Aa) Aa (Ai Aa) (Ie F Aa Aa).q fun a w F W => ?_
   refine ls F W Aa (Aq F Aa Aa Aa).q fun a w F W => ?_
   refine ls F W Aa (Ad F Aa).q fun a w F W => ?_
   rcases Bool.eq_false_or_eq_true (decide ((p0.2.2.length : Int) ≤ 12)) with hb1 | hb1
   ·
    rw [hb1] at F
    refine AJ F W (Af F Aa Aa Aa Aa) Aa (Ai Aa) (Ad F Aa).q fun a w F W => ?_
    refine AJ F W (Af F Aa Aa Aa Aa) Aa (Ai Aa) (B0 (r := (Rp.slice (Rp.int .i64))) (l := p1) Ju Aa F Aa (B8 Do h1 (Am h_v3))).q fun a w F W => ?_
    refine AJ F W (Af F Aa Aa Aa Aa) Aa (Ai Aa) (Ie F Aa Aa).q fun a w F W => ?_
    refine ls F W Aa (Aq F Aa Aa Aa).q fun a w F W => ?_
    refine ls F W Aa (Ag F Aa).q fun a w F W => ?_
    refine Ae (Ab ?_)
    exact ⟨F.re ⟨(by show some (Value.bool (decide ((p1.length : Int) ≤ 12))) = some (Value.bool (decide ((p0.2.1.length : Int) ≤ 30) && (decide ((p0.2.2.length : Int) ≤ 12) && decide ((p1.length : Int) ≤ 12)))); try rw [hb0]; try rw [hb1]; all_goals simp only [Bool.not_true, Bool.not_false, Bool.true_and, Bool.false_and, Bool.true_or, Bool.false_or, Bool.and_true, Bool.or_false, cond_true, cond_false]), trivial⟩, W⟩
   rw [hb1] at F
   iterate 3 refine Dd F Aa Aa Aa Aa Aa Aa Aa fun a F => ?_
   refine ls F W Aa (Az F Aa Aa Aa).q fun a w F W => ?_
   refine ls F W Aa (Ag F Aa).q fun a w F W => ?_
   refine Ae (Ab ?_)
   exact ⟨F.re ⟨(by show some (Value.bool false) = some (Value.bool (decide ((p0.2.1.length : Int) ≤ 30) && (decide ((p0.2.2.length : Int) ≤ 12) && decide ((p1.length : Int) ≤ 12)))); try rw [hb0]; try rw [hb1]; all_goals simp only [Bool.not_true, Bool.not_false, Bool.true_and, Bool.false_and, Bool.true_or, Bool.false_or, Bool.and_true, Bool.or_false, cond_true, cond_false]), trivial⟩, W⟩
  rw [hb0] at F
  iterate 4 refine Dd F Aa Aa Aa Aa Aa Aa Aa fun a F => ?_
  refine ls F W Aa (Az F Aa Aa Aa).q fun a w F W => ?_
  refine ls F W Aa (Ad F Aa).q fun a w F W => ?_
  iterate 3 refine Dd F Aa Aa Aa Aa Aa Aa Aa fun a F => ?_
  refine ls F W Aa (Az F Aa Aa Aa).q fun a w F W => ?_
  refine ls F W Aa (Ag F Aa).q fun a w F W => ?_
  refine Ae (Ab ?_)
  exact ⟨F.re ⟨(by show some (Value.bool false) = some (Value.bool (decide ((p0.2.1.length : Int) ≤ 30) && (decide ((p0.2.2.length : Int) ≤ 12) && decide ((p1.length : Int) ≤ 12)))); try rw [hb0]; all_goals simp only [Bool.not_true, Bool.not_false, Bool.true_and, Bool.false_and, Bool.true_or, Bool.false_or, Bool.and_true, Bool.or_false, cond_true, cond_false]), trivial⟩, W⟩
 rintro a w ⟨F, W⟩
 refine AF ?_
 have H := AV H
 subst H
 refine BK (.inl Aa) F W Aa (Ay F Aa) ?_
 exact ⟨rfl, W.done⟩
theorem H7 : Has Try.prog 7 := ⟨fun args w => Al Try.func7 rfl (by decide) args w⟩
noncomputable def Gx (p0 : Int × (List (Int × Int × Int × Int × Int × Int)) × (List (Int × Int))) (p1 : Int) (p2 : Int) : (Int × Int) → Option ((Int × Int) ⊕ Int)
  | (x2, x3) => (if x3 < (p0.2.1.length : Int) then ((ix p0.2.1 x3).bind fun x5 => (if (decide (x5.1 = p1) && decide (x5.2.1 = p2)) = true then some (AB (x2 + 1)) else some x2).bind fun x6 => (if (decide (x5.2.2.1 = p1) && decide (x5.2.2.2.1 = p2)) = true then some (AB (x6 + 1)) else some x6)).bind fun x4 => some (.inl (x4, AB (x3 + 1))) else some (.inr x2))
noncomputable def Gt (p0 : Int × (List (Int × Int × Int × Int × Int × Int)) × (List (Int × Int))) (p1 : Int) (p2 : Int) : (Int × Int) → Option ((Int × Int) ⊕ Int)
  | (x8, x9) => (if x9 < (p0.2.2.length : Int) then (((ix p0.2.2 x9).bind fun x12 => (if x12.1 = p1 then (ix p0.2.2 x9).bind fun x13 => some (decide (x13.2 = p2)) else some false)).bind fun x11 => (if x11 = true then some (AB (x8 + 1)) else some x8)).bind fun x10 => some (.inl (x10, AB (x9 + 1))) else some (.inr x8))
noncomputable def HW (p0 : Int × (List (Int × Int × Int × Int × Int × Int)) × (List (Int × Int))) (p1 : Int) (p2 : Int) : Option Bool := (AG (Gx p0 p1 p2) (0, 0)).bind fun x1 => (AG (Gt p0 p1 p2) (x1, 0)).bind fun x7 => some (decide (0 ≤ p1) && (decide (p1 < p0.1) && (decide (0 ≤ p2) && (decide (p2 ≤ 7) && decide (x7 = 1)))))
theorem JQ (Y : Nat → Prop) (w0 : World) (v1 : Value) (v2 : Value) (p0 : Int × (List (Int × Int × Int × Int × Int × Int)) × (List (Int × Int))) (p1 : Int) (p2 : Int) (r : Bool) (H : HW p0 p1 p2 = some r) (h_v1 : Sl w0 (NX []) Hu v1 p0.2.1) (h_v2 : Sl w0 (NX []) Gz v2 p0.2.2) :
    Calls Try.prog 57 #[.agg #[.int .i64 p0.1, v1, v2], .int .i64 p1, .int .i64 p2] w0 fun e w' => e = .returned (.bool r) ∧ Below w0.heap.size w0 w' := by
 refine enter Try.func57 Aa Try.ntmps57 Aa fun a F => ?_
 have W := Stw.start Y w0
 unfold HW at H
 refine Ah (Ac ?_)
 refine E5 (cs := [.int .i64 p0.1, v1, v2]) F W Aa Aa Aa fun b1 a w F W => ?_
 refine ls F W Aa (Ag F Aa).q fun a w F W => ?_
 refine Ae (Ab (Ah (Ac ?_)))
 refine ls F W Aa (Ag F Aa).q fun a w F W => ?_
 refine Ae (Ab ?_)
 obtain ⟨o1, G1, K1⟩ := Ak H
 refine AM (fun a w => ∃ x1 : Int, some (x1) = some o1 ∧ Fr 94 [] [(1, .int .i64 p1), (2, .int .i64 p2), (3, .pointer (some ⟨b1, 0, none⟩)), (6, .bool false), (7, .int .i64 x1)] a ∧ Stw ⟨Y, [], w0⟩ [(b1, [.int .i64 p0.1, v1, v2])] [] w) ?_ ?_
 ·
  have H := G1
  clear G1 K1
  refine Ah (Ac ?_)
  refine ls F W Aa (Ag F Aa).q fun a w F W => ?_
  refine Ae (Ab (As ?_))
  refine Bb H (fun s a w => Fr 94 [] [(1, .int .i64 p1), (2, .int .i64 p2), (3, .pointer (some ⟨b1, 0, none⟩)), (6, .bool false), (7, .int .i64 s.1), (8, .int .i64 s.2)] a ∧ Stw ⟨Y, [], w0⟩ [(b1, [.int .i64 p0.1, v1, v2])] [] w) ⟨F.re ⟨rfl, Aa, Aa, Aa, Aa, Aa, trivial⟩, W⟩ fun s o a w H L2 hR => ?_
  obtain ⟨x2, x3⟩ := s
  obtain ⟨F, W⟩ := hR
  have F : Fr 94 [] [(1, .int .i64 p1), (2, .int .i64 p2), (3, .pointer (some ⟨b1, 0, none⟩)), (6, .bool false), (7, .int .i64 x2), (8, .int .i64 x3)] a := F
  have W : Stw ⟨Y, [], w0⟩ [(b1, [.int .i64 p0.1, v1, v2])] [] w := W
  rw [Gx] at H
  refine Ah (Ah (Ac ?_))
  refine ls F W Aa (Ad F Aa).q fun a w F W => ?_
  refine ls F W Aa (Aj D1 Aa Aa Aa Lp F Aa 1 Aa).q fun a w F W => ?_
  refine ls F W Aa (Aw (v := v1) 0 F Aa Aa Lp Aa).q fun a w F W => ?_
  refine ls F W Aa (B0 (r := Hu) (l := p0.2.1) Md Aa F Aa (Am h_v1)).q fun a w F W => ?_
  refine ls F W Aa (Bu F Aa Aa).q fun a w F W => ?_
  refine Ae (Ab ?_)
  refine AA F Aa (fun hb => ?_) fun hb => ?_
  ·
   have H := AS (BD hb) H
   rw [hb] at F
   clear hb
   refine Av (Ab ?_)
   obtain ⟨o3, G3, K3⟩ := Ak H
   refine AM (fun a w => ∃ x4 : Int, some (x4) = some o3 ∧ Fr 94 [] [(1, .int .i64 p1), (2, .int .i64 p2), (3, .pointer (some ⟨b1, 0, none⟩)), (6, .bool false), (7, .int .i64 x4), (8, .int .i64 x3)] a ∧ Stw ⟨Y, [], w0⟩ [(b1, [.int .i64 p0.1, v1, v2])] [] w) ?_ ?_
   ·
    have H := G3
    clear G3 K3
    refine As (Ah (Ac ?_))
    refine ls F W Aa (Aj D1 Aa Aa Aa Lp F Aa 1 Aa).q fun a w F W => ?_
    refine ls F W Aa (Aw (v := v1) 0 F Aa Aa Lp Aa).q fun a w F W => ?_
    refine ls F W Aa (Ad F Aa).q fun a w F W => ?_
    obtain ⟨x5, h1, H⟩ := Ak H
    refine ls F W Aa (Ax (r := Hu) RF F Aa Aa (Am h_v1) h1).q fun a w F W => ?_
    refine ls F W Aa (Ao (y := Value.agg #[.int .i64 x5.1, .int .i64 x5.2.1, .int .i64 x5.2.2.1, .int .i64 x5.2.2.2.1, .int .i64 x5.2.2.2.2.1, .int .i64 x5.2.2.2.2.2]) (j := 0) (i := x3) F Aa Aa (Am h_v1) h1 RN.to PO Aa).q fun a w F W => ?_
    refine DX (cs := [.int .i64 0, .int .i64 0, .int .i64 0, .int .i64 0, .int .i64 0, .int .i64 0]) F W Aa RW Aa fun b2 a w F W => ?_
    refine DC (vs := [.int .i64 x5.1, .int .i64 x5.2.1, .int .i64 x5.2.2.1, .int .i64 x5.2.2.2.1, .int .i64 x5.2.2.2.2.1, .int .i64 x5.2.2.2.2.2]) (M' := [(b2, [.int .i64 x5.1, .int .i64 x5.2.1, .int .i64 x5.2.2.1, .int .i64 x5.2.2.2.1, .int .i64 x5.2.2.2.2.1, .int .i64 x5.2.2.2.2.2]), (b1, [.int .i64 p0.1, v1, v2])]) 0 F W Aa Aa Aa PO Aa Aa Aa Aa Aa fun w W => ?_
    refine Ae (Ab ?_)
    obtain ⟨o4, G4, K4⟩ := Ak H
    refine AM (fun a w => ∃ x6 : Int, some (x6) = some o4 ∧ Fr 94 [] [(1, .int .i64 p1), (2, .int .i64 p2), (3, .pointer (some ⟨b1, 0, none⟩)), (6, .bool false), (7, .int .i64 x6), (8, .int .i64 x3), (9, .pointer (some ⟨b2, 0, none⟩))] a ∧ Stw ⟨Y, [], w0⟩ [(b2, [.int .i64 x5.1, .int .i64 x5.2.1, .int .i64 x5.2.2.1, .int .i64 x5.2.2.2.1, .int .i64 x5.2.2.2.2.1, .int .i64 x5.2.2.2.2.2]), (b1, [.int .i64 p0.1, v1, v2])] [] w) ?_ ?_
    ·
     have H := G4
     clear G4 K4
     refine AM (fun a w => Fr 94 [] [(1, .int .i64 p1), (2, .int .i64 p2), (3, .pointer (some ⟨b1, 0, none⟩)), (6, .bool false), (7, .int .i64 x2), (8, .int .i64 x3), (9, .pointer (some ⟨b2, 0, none⟩)), (32, .bool (decide (x5.1 = p1) && decide (x5.2.1 = p2)))] a ∧ Stw ⟨Y, [], w0⟩ [(b2, [.int .i64 x5.1, .int .i64 x5.2.1, .int .i64 x5.2.2.1, .int .i64 x5.2.2.2.1, .int .i64 x5.2.2.2.2.1, .int .i64 x5.2.2.2.2.2]), (b1, [.int .i64 p0.1, v1, v2])] [] w) ?_ ?_
     ·
      refine Ac ?_
      refine ls F W Aa (Aj EW Aa Aa Aa T3 F Aa 0 Aa).q fun a w F W => ?_
      refine ls F W Aa (Aw (v := Value.int .i64 x5.1) 0 F Aa Aa T3 Aa).q fun a w F W => ?_
      refine ls F W Aa (Ad F Aa).q fun a w F W => ?_
      refine ls F W Aa (DP F Aa Aa).q fun a w F W => ?_
      refine ls F W Aa (Ad F Aa).q fun a w F W => ?_
      rcases Bool.eq_false_or_eq_true (decide (x5.1 = p1)) with hb0 | hb0
      ·
       rw [hb0] at F
       refine AJ F W (Af F Aa Aa Aa Aa) Aa (Ai Aa) (Aj EW Aa Aa Aa T3 F Aa 1 Aa).q fun a w F W => ?_
       refine AJ F W (Af F Aa Aa Aa Aa) Aa (Ai Aa) (Aw (v := Value.int .i64 x5.2.1) 0 F Aa Aa T3 Aa).q fun a w F W => ?_
       refine AJ F W (Af F Aa Aa Aa Aa) Aa (Ai Aa) (Ad F Aa).q fun a w F W => ?_
       refine AJ F W (Af F Aa Aa Aa Aa) Aa (Ai Aa) (DP F Aa Aa).q fun a w F W => ?_
       refine ls F W Aa (Aq F Aa Aa Aa).q fun a w F W => ?_
       refine Ae (Ab ?_)
       exact ⟨F.re ⟨rfl, Aa, Aa, Aa, Aa, Aa, Aa, (by show some (Value.bool (decide (x5.2.1 = p2))) = some (Value.bool (decide (x5.1 = p1) && decide (x5.2.1 = p2))); try rw [hb0]; all_goals simp only [Bool.not_true, Bool.not_false, Bool.true_and, Bool.false_and, Bool.true_or, Bool.false_or, Bool.and_true, Bool.or_false, cond_true, cond_false]), trivial⟩, W⟩
      rw [hb0] at F
      iterate 4 refine Dd F Aa Aa Aa Aa Aa Aa Aa fun a F => ?_
      refine ls F W Aa (Az F Aa Aa Aa).q fun a w F W => ?_
      refine Ae (Ab ?_)
      exact ⟨F.re ⟨rfl, Aa, Aa, Aa, Aa, Aa, Aa, (by show some (Value.bool false) = some (Value.bool (decide (x5.1 = p1) && decide (x5.2.1 = p2))); try rw [hb0]; all_goals simp only [Bool.not_true, Bool.not_false, Bool.true_and, Bool.false_and, Bool.true_or, Bool.false_or, Bool.and_true, Bool.or_false, cond_true, cond_false]), trivial⟩, W⟩
     rintro a w ⟨F, W⟩
     refine AA F Aa (fun hb => ?_) fun hb => ?_
     ·
      have H := AS hb H
      rw [hb] at F
      clear hb
      refine Ac ?_
      refine ls F W Aa (Ad F Aa).q fun a w F W => ?_
      refine ls F W Aa (BC F Aa Aa Aa).q fun a w F W => ?_
      refine ls F W Aa (Ag F Aa).q fun a w F W => ?_
      refine Ae (Ab ?_)
      have W := W.frontM (i := 1) Aa Aa
      have W := W.frontM (i := 1) Aa Aa
      exact ⟨_, H, F.re ⟨rfl, Aa, Aa, Aa, Aa, Aa, Aa, trivial⟩, W⟩
     have H := AR (by rw [hb]; decide) H
     rw [hb] at F
     clear hb
     refine Av (Ab ?_)
     have W := W.frontM (i := 1) Aa Aa
     have W := W.frontM (i := 1) Aa Aa
     exact ⟨_, H, F.re ⟨rfl, Aa, Aa, Aa, Aa, Aa, Aa, trivial⟩, W⟩
    rintro a w ⟨x6, hj, F, W⟩
    have hj := AV hj
    subst hj
    have H := K4
    clear G4 K4
    refine AM (fun a w => Fr 94 [] [(1, .int .i64 p1), (2, .int .i64 p2), (3, .pointer (some ⟨b1, 0, none⟩)), (6, .bool false), (7, .int .i64 x6), (8, .int .i64 x3), (44, .bool (decide (x5.2.2.1 = p1) && decide (x5.2.2.2.1 = p2)))] a ∧ Stw ⟨Y, [], w0⟩ [(b2, [.int .i64 x5.1, .int .i64 x5.2.1, .int .i64 x5.2.2.1, .int .i64 x5.2.2.2.1, .int .i64 x5.2.2.2.2.1, .int .i64 x5.2.2.2.2.2]), (b1, [.int .i64 p0.1, v1, v2])] [] w) ?_ ?_
    ·
     refine Ac ?_
     refine ls F W Aa (Aj EW Aa Aa Aa T3 F Aa 2 Aa).q fun a w F W => ?_
     refine ls F W Aa (Aw (v := Value.int .i64 x5.2.2.1) 0 F Aa Aa T3 Aa).q fun a w F W => ?_
     refine ls F W Aa (Ad F Aa).q fun a w F W => ?_
     refine ls F W Aa (DP F Aa Aa).q fun a w F W => ?_
     refine ls F W Aa (Ad F Aa).q fun a w F W => ?_
     rcases Bool.eq_false_or_eq_true (decide (x5.2.2.1 = p1)) with hb0 | hb0
     ·
      rw [hb0] at F
      refine AJ F W (Af F Aa Aa Aa Aa) Aa (Ai Aa) (Aj EW Aa Aa Aa T3 F Aa 3 Aa).q fun a w F W => ?_
      refine AJ F W (Af F Aa Aa Aa Aa) Aa (Ai Aa) (Aw (v := Value.int .i64 x5.2.2.2.1) 0 F Aa Aa T3 Aa).q fun a w F W => ?_
      refine AJ F W (Af F Aa Aa Aa Aa) Aa (Ai Aa) (Ad F Aa).q fun a w F W => ?_
      refine AJ F W (Af F Aa Aa Aa Aa) Aa (Ai Aa) (DP F Aa Aa).q fun a w F W => ?_
      refine ls F W Aa (Aq F Aa Aa Aa).q fun a w F W => ?_
      refine Ae (Ab ?_)
      exact ⟨F.re ⟨rfl, Aa, Aa, Aa, Aa, Aa, (by show some (Value.bool (decide (x5.2.2.2.1 = p2))) = some (Value.bool (decide (x5.2.2.1 = p1) && decide (x5.2.2.2.1 = p2))); try rw [hb0]; all_goals simp only [Bool.not_true, Bool.not_false, Bool.true_and, Bool.false_and, Bool.true_or, Bool.false_or, Bool.and_true, Bool.or_false, cond_true, cond_false]), trivial⟩, W⟩
     rw [hb0] at F
     iterate 4 refine Dd F Aa Aa Aa Aa Aa Aa Aa fun a F => ?_
     refine ls F W Aa (Az F Aa Aa Aa).q fun a w F W => ?_
     refine Ae (Ab ?_)
     exact ⟨F.re ⟨rfl, Aa, Aa, Aa, Aa, Aa, (by show some (Value.bool false) = some (Value.bool (decide (x5.2.2.1 = p1) && decide (x5.2.2.2.1 = p2))); try rw [hb0]; all_goals simp only [Bool.not_true, Bool.not_false, Bool.true_and, Bool.false_and, Bool.true_or, Bool.false_or, Bool.and_true, Bool.or_false, cond_true, cond_false]), trivial⟩, W⟩
    rintro a w ⟨F, W⟩
    refine AA F Aa (fun hb => ?_) fun hb => ?_
    ·
     have H := AS hb H
     rw [hb] at F
     clear hb
     refine Ac ?_
     refine ls F W Aa (Ad F Aa).q fun a w F W => ?_
     refine ls F W Aa (BC F Aa Aa Aa).q fun a w F W => ?_
     refine ls F W Aa (Ag F Aa).q fun a w F W => ?_
     refine Ae (AP (Ab ?_))
     have W := W.frontM (i := 1) Aa Aa
     have W := W.sub (M' := [(b1, [.int .i64 p0.1, v1, v2])]) (Z' := []) (List.Sublist.cons_cons _ (List.nil_sublist _)) (List.Sublist.refl _)
     exact ⟨_, H, F.re ⟨rfl, Aa, Aa, Aa, Aa, Aa, trivial⟩, W⟩
    have H := AR (by rw [hb]; decide) H
    rw [hb] at F
    clear hb
    refine Av (AP (Ab ?_))
    have W := W.frontM (i := 1) Aa Aa
    have W := W.sub (M' := [(b1, [.int .i64 p0.1, v1, v2])]) (Z' := []) (List.Sublist.cons_cons _ (List.nil_sublist _)) (List.Sublist.refl _)
    exact ⟨_, H, F.re ⟨rfl, Aa, Aa, Aa, Aa, Aa, trivial⟩, W⟩
   rintro a w ⟨x4, hj, F, W⟩
   have hj := AV hj
   subst hj
   have H := K3
   clear G3 K3
   refine Ac ?_
   refine ls F W Aa (Ad F Aa).q fun a w F W => ?_
   refine ls F W Aa (BC F Aa Aa Aa).q fun a w F W => ?_
   refine ls F W Aa (Ag F Aa).q fun a w F W => ?_
   refine Ae (Ab ?_)
   exact ⟨_, H, F.re ⟨rfl, Aa, Aa, Aa, Aa, Aa, trivial⟩, W⟩
  have H := AR (BB hb) H
  rw [hb] at F
  clear hb
  refine A8 ?_
  iterate 2 refine Bq ?_
  refine A9 (Ab ?_)
  have H := L2 _ H
  exact ⟨_, H, F.re ⟨rfl, Aa, Aa, Aa, Aa, trivial⟩, W⟩
 rintro a w ⟨x1, hj, F, W⟩
 have hj := AV hj
 subst hj
 have H := K1
 clear G1 K1
 obtain ⟨o5, G5, K5⟩ := Ak H
 refine AM (fun a w => ∃ x7 : Int, some (x7) = some o5 ∧ Fr 94 [] [(1, .int .i64 p1), (2, .int .i64 p2), (3, .pointer (some ⟨b1, 0, none⟩)), (6, .bool false), (7, .int .i64 x7)] a ∧ Stw ⟨Y, [], w0⟩ [(b1, [.int .i64 p0.1, v1, v2])] [] w) ?_ ?_
 ·
  have H := G5
  clear G5 K5
  refine Ah (Ac ?_)
  refine ls F W Aa (Ag F Aa).q fun a w F W => ?_
  refine Ae (Ab (As ?_))
  refine Bb H (fun s a w => Fr 94 [] [(1, .int .i64 p1), (2, .int .i64 p2), (3, .pointer (some ⟨b1, 0, none⟩)), (6, .bool false), (7, .int .i64 s.1), (10, .int .i64 s.2)] a ∧ Stw ⟨Y, [], w0⟩ [(b1, [.int .i64 p0.1, v1, v2])] [] w) ⟨F.re ⟨rfl, Aa, Aa, Aa, Aa, Aa, trivial⟩, W⟩ fun s o a w H L6 hR => ?_
  obtain ⟨x8, x9⟩ := s
  obtain ⟨F, W⟩ := hR
  have F : Fr 94 [] [(1, .int .i64 p1), (2, .int .i64 p2), (3, .pointer (some ⟨b1, 0, none⟩)), (6, .bool false), (7, .int .i64 x8), (10, .int .i64 x9)] a := F
  have W : Stw ⟨Y, [], w0⟩ [(b1, [.int .i64 p0.1, v1, v2])] [] w := W
  rw [Gt] at H
  refine Ah (Ah (Ac ?_))
  refine ls F W Aa (Ad F Aa).q fun a w F W => ?_
  refine ls F W Aa (Aj D1 Aa Aa Aa H4 F Aa 2 Aa).q fun a w F W => ?_
  refine ls F W Aa (Aw (v := v2) 0 F Aa Aa H4 Aa).q fun a w F W => ?_
  refine ls F W Aa (B0 (r := Gz) (l := p0.2.2) JG Aa F Aa (Am h_v2)).q fun a w F W => ?_
  refine ls F W Aa (Bu F Aa Aa).q fun a w F W => ?_
  refine Ae (Ab ?_)
  refine AA F Aa (fun hb => ?_) fun hb => ?_
  ·
   have H := AS (BD hb) H
   rw [hb] at F
   clear hb
   refine Av (Ab ?_)
   obtain ⟨o7, G7, K7⟩ := Ak H
   refine AM (fun a w => ∃ x10 : Int, some (x10) = some o7 ∧ Fr 94 [] [(1, .int .i64 p1), (2, .int .i64 p2), (3, .pointer (some ⟨b1, 0, none⟩)), (6, .bool false), (7, .int .i64 x10), (10, .int .i64 x9)] a ∧ Stw ⟨Y, [], w0⟩ [(b1, [.int .i64 p0.1, v1, v2])] [] w) ?_ ?_
   ·
    have H := G7
    clear G7 K7
    refine As ?_
    obtain ⟨o8, G8, K8⟩ := Ak H
    refine AM (fun a w => ∃ x11 : Bool, some (x11) = some o8 ∧ Fr 94 [] [(1, .int .i64 p1), (2, .int .i64 p2), (3, .pointer (some ⟨b1, 0, none⟩)), (6, .bool false), (7, .int .i64 x8), (10, .int .i64 x9), (71, .bool x11)] a ∧ Stw ⟨Y, [], w0⟩ [(b1, [.int .i64 p0.1, v1, v2])] [] w) ?_ ?_
    ·
     have H := G8
     clear G8 K8
     refine Ac ?_
     refine ls F W Aa (Aj D1 Aa Aa Aa H4 F Aa 2 Aa).q fun a w F W => ?_
     refine ls F W Aa (Aw (v := v2) 0 F Aa Aa H4 Aa).q fun a w F W => ?_
     refine ls F W Aa (Ad F Aa).q fun a w F W => ?_
     obtain ⟨x12, h2, H⟩ := Ak H
     refine ls F W Aa (Ax (r := Gz) Py F Aa Aa (Am h_v2) h2).q fun a w F W => ?_
     refine ls F W Aa (Aj KZ Aa Aa Aa T3 F Aa (Hl v2 + (x9).toNat * 2) Aa).q fun a w F W => ?_
     refine ls F W Aa (Ao (y := Value.int .i64 x12.1) (j := 0) (i := x9) F Aa Aa (Am h_v2) h2 Pw.to T3 Aa).q fun a w F W => ?_
     refine ls F W Aa (Ad F Aa).q fun a w F W => ?_
     refine ls F W Aa (DP F Aa Aa).q fun a w F W => ?_
     refine ls F W Aa (Ad F Aa).q fun a w F W => ?_
     rcases Bool.eq_false_or_eq_true (decide (x12.1 = p1)) with hb | hb
     ·
      have H := AS (BD hb) H
      rw [hb] at F
      clear hb
      refine AJ F W (Af F Aa Aa Aa Aa) Aa (Ai Aa) (Aj D1 Aa Aa Aa H4 F Aa 2 Aa).q fun a w F W => ?_
      refine AJ F W (Af F Aa Aa Aa Aa) Aa (Ai Aa) (Aw (v := v2) 0 F Aa Aa H4 Aa).q fun a w F W => ?_
      refine AJ F W (Af F Aa Aa Aa Aa) Aa (Ai Aa) (Ad F Aa).q fun a w F W => ?_
      obtain ⟨x13, h3, H⟩ := Ak H
      refine AJ F W (Af F Aa Aa Aa Aa) Aa (Ai Aa) (Ax (r := Gz) Py F Aa Aa (Am h_v2) h3).q fun a w F W => ?_
      refine AJ F W (Af F Aa Aa Aa Aa) Aa (Ai Aa) (Aj KZ Aa Aa Aa T3 F Aa (Hl v2 + (x9).toNat * 2 + 1) Aa).q fun a w F W => ?_
      refine AJ F W (Af F Aa Aa Aa Aa) Aa (Ai Aa) (Ao (y := Value.int .i64 x13.2) (j := 1) (i := x9) F Aa Aa (Am h_v2) h3 Pw.to T3 Aa).q fun a w F W => ?_
      refine AJ F W (Af F Aa Aa Aa Aa) Aa (Ai Aa) (Ad F Aa).q fun a w F W => ?_
      refine AJ F W (Af F Aa Aa Aa Aa) Aa (Ai Aa) (DP F Aa Aa).q fun a w F W => ?_
      refine ls F W Aa (Aq F Aa Aa Aa).q fun a w F W => ?_
      refine Ae (Ab ?_)
      exact ⟨_, H, F.re ⟨rfl, Aa, Aa, Aa, Aa, Aa, Aa, trivial⟩, W⟩
     have H := AR (BB hb) H
     rw [hb] at F
     clear hb
     iterate 8 refine Dd F Aa Aa Aa Aa Aa Aa Aa fun a F => ?_
     refine ls F W Aa (Az F Aa Aa Aa).q fun a w F W => ?_
     refine Ae (Ab ?_)
     exact ⟨_, H, F.re ⟨rfl, Aa, Aa, Aa, Aa, Aa, Aa, trivial⟩, W⟩
    rintro a w ⟨x11, hj, F, W⟩
    have hj := AV hj
    subst hj
    have H := K8
    clear G8 K8
    refine AA F Aa (fun hb => ?_) fun hb => ?_
    ·
     have H := AS hb H
     rw [hb] at F
     clear hb
     refine Ac ?_
     refine ls F W Aa (Ad F Aa).q fun a w F W => ?_
     refine ls F W Aa (BC F Aa Aa Aa).q fun a w F W => ?_
     refine ls F W Aa (Ag F Aa).q fun a w F W => ?_
     refine Ae (AP (Ab ?_))
     exact ⟨_, H, F.re ⟨rfl, Aa, Aa, Aa, Aa, Aa, trivial⟩, W⟩
    have H := AR (by rw [hb]; decide) H
    rw [hb] at F
    clear hb
    refine Av (AP (Ab ?_))
    exact ⟨_, H, F.re ⟨rfl, Aa, Aa, Aa, Aa, Aa, trivial⟩, W⟩
   rintro a w ⟨x10, hj, F, W⟩
   have hj := AV hj
   subst hj
   have H := K7
   clear G7 K7
   refine Ac ?_
   refine ls F W Aa (Ad F Aa).q fun a w F W => ?_
   refine ls F W Aa (BC F Aa Aa Aa).q fun a w F W => ?_
   refine ls F W Aa (Ag F Aa).q fun a w F W => ?_
   refine Ae (Ab ?_)
   exact ⟨_, H, F.re ⟨rfl, Aa, Aa, Aa, Aa, Aa, trivial⟩, W⟩
  have H := AR (BB hb) H
  rw [hb] at F
  clear hb
  refine A8 ?_
  iterate 2 refine Bq ?_
  refine A9 (Ab ?_)
  have H := L6 _ H
  exact ⟨_, H, F.re ⟨rfl, Aa, Aa, Aa, Aa, trivial⟩, W⟩
 rintro a w ⟨x7, hj, F, W⟩
 have hj := AV hj
 subst hj
 have H := K5
 clear G5 K5
 refine AM (fun a w => Fr 94 [] [(6, .bool (decide (0 ≤ p1) && (decide (p1 < p0.1) && (decide (0 ≤ p2) && (decide (p2 ≤ 7) && decide (x7 = 1))))))] a ∧ Stw ⟨Y, [], w0⟩ [(b1, [.int .i64 p0.1, v1, v2])] [] w) ?_ ?_
 ·
  refine Ac ?_
  refine ls F W Aa (Ad F Aa).q fun a w F W => ?_
  refine ls F W Aa (DH F Aa Aa).q fun a w F W => ?_
  refine ls F W Aa (Ad F Aa).q fun a w F W => ?_
  rcases Bool.eq_false_or_eq_true (decide (0 ≤ p1)) with hb0 | hb0
  ·
   rw [hb0] at F
   refine AJ F W (Af F Aa Aa Aa Aa) Aa (Ai Aa) (Ad F Aa).q fun a w F W => ?_
   refine AJ F W (Af F Aa Aa Aa Aa) Aa (Ai Aa) (Aj D1 Aa Aa Aa T3 F Aa 0 Aa).q fun a w F W => ?_
   refine AJ F W (Af F Aa Aa Aa Aa) Aa (Ai Aa) (Aw (v := Value.int .i64 p0.1) 0 F Aa Aa T3 Aa).q fun a w F W => ?_
   refine AJ F W (Af F Aa Aa Aa Aa) Aa (Ai Aa) (Bu F Aa Aa).q fun a w F W => ?_
   refine ls F W Aa (Aq F Aa Aa Aa).q fun a w F W => ?_
   refine ls F W Aa (Ad F Aa).q fun a w F W => ?_
   rcases Bool.eq_false_or_eq_true (decide (p1 < p0.1)) with hb1 | hb1
   ·
    rw [hb1] at F
    refine AJ F W (Af F Aa Aa Aa Aa) Aa (Ai Aa) (Ad F Aa).q fun a w F W => ?_
    refine AJ F W (Af F Aa Aa Aa Aa) Aa (Ai Aa) (DH F Aa Aa).q fun a w F W => ?_
    refine ls F W Aa (Aq F Aa Aa Aa).q fun a w F W => ?_
    refine ls F W Aa (Ad F Aa).q fun a w F W => ?_
    rcases Bool.eq_false_or_eq_true (decide (0 ≤ p2)) with hb2 | hb2
    ·
     rw [hb2] at F
     refine AJ F W (Af F Aa Aa Aa Aa) Aa (Ai Aa) (Ad F Aa).q fun a w F W => ?_
     refine AJ F W (Af F Aa Aa Aa Aa) Aa (Ai Aa) (Ie F Aa Aa).q fun a w F W => ?_
     refine ls F W Aa (Aq F Aa Aa Aa).q fun a w F W => ?_
     refine ls F W Aa (Ad F Aa).q fun a w F W => ?_
     rcases Bool.eq_false_or_eq_true (decide (p2 ≤ 7)) with hb3 | hb3
     ·
      rw [hb3] at F
      refine AJ F W (Af F Aa Aa Aa Aa) Aa (Ai Aa) (Ad F Aa).q fun a w F W => ?_
      refine AJ F W (Af F Aa Aa Aa Aa) Aa (Ai Aa) (DP F Aa Aa).q fun a w F W => ?_
      refine ls F W Aa (Aq F Aa Aa Aa).q fun a w F W => ?_
      refine ls F W Aa (Ag F Aa).q fun a w F W => ?_
      refine Ae (Ab ?_)
      exact ⟨F.re ⟨(by show some (Value.bool (decide (x7 = 1))) = some (Value.bool (decide (0 ≤ p1) && (decide (p1 < p0.1) && (decide (0 ≤ p2) && (decide (p2 ≤ 7) && decide (x7 = 1)))))); try rw [hb1]; try rw [hb0]; try rw [hb2]; try rw [hb3]; all_goals simp only [Bool.not_true, Bool.not_false, Bool.true_and, Bool.false_and, Bool.true_or, Bool.false_or, Bool.and_true, Bool.or_false, cond_true, cond_false]), trivial⟩, W⟩
     rw [hb3] at F
     iterate 2 refine Dd F Aa Aa Aa Aa Aa Aa Aa fun a F => ?_
     refine ls F W Aa (Az F Aa Aa Aa).q fun a w F W => ?_
     refine ls F W Aa (Ag F Aa).q fun a w F W => ?_
     refine Ae (Ab ?_)
     exact ⟨F.re ⟨(by show some (Value.bool false) = some (Value.bool (decide (0 ≤ p1) && (decide (p1 < p0.1) && (decide (0 ≤ p2) && (decide (p2 ≤ 7) && decide (x7 = 1)))))); try rw [hb1]; try rw [hb0]; try rw [hb2]; try rw [hb3]; all_goals simp only [Bool.not_true, Bool.not_false, Bool.true_and, Bool.false_and, Bool.true_or, Bool.false_or, Bool.and_true, Bool.or_false, cond_true, cond_false]), trivial⟩, W⟩
    rw [hb2] at F
    iterate 2 refine Dd F Aa Aa Aa Aa Aa Aa Aa fun a F => ?_
    refine ls F W Aa (Az F Aa Aa Aa).q fun a w F W => ?_
    refine ls F W Aa (Ad F Aa).q fun a w F W => ?_
    iterate 2 refine Dd F Aa Aa Aa Aa Aa Aa Aa fun a F => ?_
    refine ls F W Aa (Az F Aa Aa Aa).q fun a w F W => ?_
    refine ls F W Aa (Ag F Aa).q fun a w F W => ?_
    refine Ae (Ab ?_)
    exact ⟨F.re ⟨(by show some (Value.bool false) = some (Value.bool (decide (0 ≤ p1) && (decide (p1 < p0.1) && (decide (0 ≤ p2) && (decide (p2 ≤ 7) && decide (x7 = 1)))))); try rw [hb1]; try rw [hb0]; try rw [hb2]; all_goals simp only [Bool.not_true, Bool.not_false, Bool.true_and, Bool.false_and, Bool.true_or, Bool.false_or, Bool.and_true, Bool.or_false, cond_true, cond_false]), trivial⟩, W⟩
   rw [hb1] at F
   iterate 2 refine Dd F Aa Aa Aa Aa Aa Aa Aa fun a F => ?_
   refine ls F W Aa (Az F Aa Aa Aa).q fun a w F W => ?_
   refine ls F W Aa (Ad F Aa).q fun a w F W => ?_
   iterate 2 refine Dd F Aa Aa Aa Aa Aa Aa Aa fun a F => ?_
   refine ls F W Aa (Az F Aa Aa Aa).q fun a w F W => ?_
   refine ls F W Aa (Ad F Aa).q fun a w F W => ?_
   iterate 2 refine Dd F Aa Aa Aa Aa Aa Aa Aa fun a F => ?_
   refine ls F W Aa (Az F Aa Aa Aa).q fun a w F W => ?_
   refine ls F W Aa (Ag F Aa).q fun a w F W => ?_
   refine Ae (Ab ?_)
   exact ⟨F.re ⟨(by show some (Value.bool false) = some (Value.bool (decide (0 ≤ p1) && (decide (p1 < p0.1) && (decide (0 ≤ p2) && (decide (p2 ≤ 7) && decide (x7 = 1)))))); try rw [hb1]; try rw [hb0]; all_goals simp only [Bool.not_true, Bool.not_false, Bool.true_and, Bool.false_and, Bool.true_or, Bool.false_or, Bool.and_true, Bool.or_false, cond_true, cond_false]), trivial⟩, W⟩
  rw [hb0] at F
  iterate 4 refine Dd F Aa Aa Aa Aa Aa Aa Aa fun a F => ?_
  refine ls F W Aa (Az F Aa Aa Aa).q fun a w F W => ?_
  refine ls F W Aa (Ad F Aa).q fun a w F W => ?_
  iterate 2 refine Dd F Aa Aa Aa Aa Aa Aa Aa fun a F => ?_
  refine ls F W Aa (Az F Aa Aa Aa).q fun a w F W => ?_
  refine ls F W Aa (Ad F Aa).q fun a w F W => ?_
  iterate 2 refine Dd F Aa Aa Aa Aa Aa Aa Aa fun a F => ?_
  refine ls F W Aa (Az F Aa Aa Aa).q fun a w F W => ?_
  refine ls F W Aa (Ad F Aa).q fun a w F W => ?_
  iterate 2 refine Dd F Aa Aa Aa Aa Aa Aa Aa fun a F => ?_
  refine ls F W Aa (Az F Aa Aa Aa).q fun a w F W => ?_
  refine ls F W Aa (Ag F Aa).q fun a w F W => ?_
  refine Ae (Ab ?_)
  exact ⟨F.re ⟨(by show some (Value.bool false) = some (Value.bool (decide (0 ≤ p1) && (decide (p1 < p0.1) && (decide (0 ≤ p2) && (decide (p2 ≤ 7) && decide (x7 = 1)))))); try rw [hb0]; all_goals simp only [Bool.not_true, Bool.not_false, Bool.true_and, Bool.false_and, Bool.true_or, Bool.false_or, Bool.and_true, Bool.or_false, cond_true, cond_false]), trivial⟩, W⟩
 rintro a w ⟨F, W⟩
 refine AF ?_
 have H := AV H
 subst H
 refine BK (.inl Aa) F W Aa (Ay F Aa) ?_
 exact ⟨rfl, W.done⟩
theorem SF : Has Try.prog 57 := ⟨fun args w => Al Try.func57 rfl (by decide) args w⟩
noncomputable def GQ (p0 : Int × (List (Int × Int × Int × Int × Int × Int)) × (List (Int × Int))) : Int → Option (Int ⊕ (Unit ⊕ Bool))
  | x1 => (if x1 < (p0.2.1.length : Int) then (ix p0.2.1 x1).bind fun x2 => (if x2.1 = x2.2.2.1 then some true else (if x2.2.2.2.2.1 < 1 then some true else (if x2.2.2.2.2.2 < x2.2.2.2.2.1 then some true else (if 1000 < x2.2.2.2.2.2 then some true else (HW p0 x2.1 x2.2.1).bind fun x4 => (if (!x4) = true then some true else (HW p0 x2.2.2.1 x2.2.2.2.1).bind fun x5 => some (!x5)))))).bind fun x3 => (if x3 = true then some (.inr (.inr false)) else some (.inl (AB (x1 + 1)))) else some (.inr (.inl ())))
noncomputable def GO (p0 : Int × (List (Int × Int × Int × Int × Int × Int)) × (List (Int × Int))) : Int → Option (Int ⊕ (Unit ⊕ Bool))
  | x6 => (if x6 < (p0.2.2.length : Int) then (ix p0.2.2 x6).bind fun x7 => (ix p0.2.2 x6).bind fun x8 => (HW p0 x7.1 x8.2).bind fun x9 => (if (!x9) = true then some (.inr (.inr false)) else some (.inl (AB (x6 + 1)))) else some (.inr (.inl ())))
noncomputable def IQ (p0 : Int × (List (Int × Int × Int × Int × Int × Int)) × (List (Int × Int))) : Option Bool := (if (decide (p0.1 < 1) || (decide (8 < p0.1) || (decide (24 < (p0.2.1.length : Int)) || decide (8 < (p0.2.2.length : Int))))) = true then some false else FB (AG (GQ p0) 0) fun _ => FB (AG (GO p0) 0) fun _ => some true)
theorem Nt (Y : Nat → Prop) (w0 : World) (v1 : Value) (v2 : Value) (p0 : Int × (List (Int × Int × Int × Int × Int × Int)) × (List (Int × Int))) (r : Bool) (H : IQ p0 = some r) (h_v1 : Sl w0 (NX []) Hu v1 p0.2.1) (h_v2 : Sl w0 (NX []) Gz v2 p0.2.2) :
    Calls Try.prog 40 #[.agg #[.int .i64 p0.1, v1, v2]] w0 fun e w' => e = .returned (.bool r) ∧ Below w0.heap.size w0 w' := by
 refine enter Try.func40 Aa Try.ntmps40 Aa fun a F => ?_
 have W := Stw.start Y w0
 unfold IQ at H
 refine Ah (Ac ?_)
 refine E5 (cs := [.int .i64 p0.1, v1, v2]) F W Aa Aa Aa fun b1 a w F W => ?_
 refine ls F W Aa (Ag F Aa).q fun a w F W => ?_
 refine Ae (Ab (Ah ?_))
 refine AM (fun a w => Fr 100 [] [(1, .pointer (some ⟨b1, 0, none⟩)), (2, .bool false), (25, .bool (decide (p0.1 < 1) || (decide (8 < p0.1) || (decide (24 < (p0.2.1.length : Int)) || decide (8 < (p0.2.2.length : Int))))))] a ∧ Stw ⟨Y, [], w0⟩ [(b1, [.int .i64 p0.1, v1, v2])] [] w) ?_ ?_
 ·
  refine Ac ?_
  refine ls F W Aa (Aj D1 Aa Aa Aa T3 F Aa 0 Aa).q fun a w F W => ?_
  refine ls F W Aa (Aw (v := Value.int .i64 p0.1) 0 F Aa Aa T3 Aa).q fun a w F W => ?_
  refine ls F W Aa (Bu F Aa Aa).q fun a w F W => ?_
  refine ls F W Aa (Ad F Aa).q fun a w F W => ?_
  rcases Bool.eq_false_or_eq_true (decide (p0.1 < 1)) with hb0 | hb0
  ·
   rw [hb0] at F
   iterate 3 refine Dd F Aa Aa Aa Aa Aa Aa Aa fun a F => ?_
   refine ls F W Aa (Aq F Aa Aa Aa).q fun a w F W => ?_
   refine ls F W Aa (Ad F Aa).q fun a w F W => ?_
   iterate 4 refine Dd F Aa Aa Aa Aa Aa Aa Aa fun a F => ?_
   refine ls F W Aa (Aq F Aa Aa Aa).q fun a w F W => ?_
   refine ls F W Aa (Ad F Aa).q fun a w F W => ?_
   iterate 4 refine Dd F Aa Aa Aa Aa Aa Aa Aa fun a F => ?_
   refine ls F W Aa (Aq F Aa Aa Aa).q fun a w F W => ?_
   refine Ae (Ab ?_)
   exact ⟨F.re ⟨rfl, Aa, (by show some (Value.bool true) = some (Value.bool (decide (p0.1 < 1) || (decide (8 < p0.1) || (decide (24 < (p0.2.1.length : Int)) || decide (8 < (p0.2.2.length : Int)))))); try rw [hb0]; all_goals simp only [Bool.not_true, Bool.not_false, Bool.true_and, Bool.false_and, Bool.true_or, Bool.false_or, Bool.and_true, Bool.or_false, cond_true, cond_false]), trivial⟩, W⟩
  rw [hb0] at F
  refine AJ F W (Af F Aa Aa Aa Aa) Aa (Ai Aa) (Aj D1 Aa Aa Aa T3 F Aa 0 Aa).q fun a w F W => ?_
  refine AJ F W (Af F Aa Aa Aa Aa) Aa (Ai Aa) (Aw (v := Value.int .i64 p0.1) 0 F Aa Aa T3 Aa).q fun a w F W => ?_
  refine AJ F W (Af F Aa Aa Aa Aa) Aa (Ai Aa) (Ga F Aa Aa).q fun a w F W => ?_
  refine ls F W Aa (Az F Aa Aa Aa).q fun a w F W => ?_
  refine ls F W Aa (Ad F Aa).q fun a w F W => ?_
  rcases Bool.eq_false_or_eq_true (decide (8 < p0.1)) with hb1 | hb1
  ·
   rw [hb1] at F
   iterate 4 refine Dd F Aa Aa Aa Aa Aa Aa Aa fun a F => ?_
   refine ls F W Aa (Aq F Aa Aa Aa).q fun a w F W => ?_
   refine ls F W Aa (Ad F Aa).q fun a w F W => ?_
   iterate 4 refine Dd F Aa Aa Aa Aa Aa Aa Aa fun a F => ?_
   refine ls F W Aa (Aq F Aa Aa Aa).q fun a w F W => ?_
   refine Ae (Ab ?_)
   exact ⟨F.re ⟨rfl, Aa, (by show some (Value.bool true) = some (Value.bool (decide (p0.1 < 1) || (decide (8 < p0.1) || (decide (24 < (p0.2.1.length : Int)) || decide (8 < (p0.2.2.length : Int)))))); try rw [hb0]; try rw [hb1]; all_goals simp only [Bool.not_true, Bool.not_false, Bool.true_and, Bool.false_and, Bool.true_or, Bool.false_or, Bool.and_true, Bool.or_false, cond_true, cond_false]), trivial⟩, W⟩
  rw [hb1] at F
  refine AJ F W (Af F Aa Aa Aa Aa) Aa (Ai Aa) (Aj D1 Aa Aa Aa Lp F Aa 1 Aa).q fun a w F W => ?_
  refine AJ F W (Af F Aa Aa Aa Aa) Aa (Ai Aa) (Aw (v := v1) 0 F Aa Aa Lp Aa).q fun a w F W => ?_
  refine AJ F W (Af F Aa Aa Aa Aa) Aa (Ai Aa) (B0 (r := Hu) (l := p0.2.1) Md Aa F Aa (Am h_v1)).q fun a w F W => ?_
  refine AJ F W (Af F Aa Aa Aa Aa) Aa (Ai Aa) (Ga F Aa Aa).q fun a w F W => ?_
  refine ls F W Aa (Az F Aa Aa Aa).q fun a w F W => ?_
  refine ls F W Aa (Ad F Aa).q fun a w F W => ?_
  rcases Bool.eq_false_or_eq_true (decide (24 < (p0.2.1.length : Int))) with hb2 | hb2
  ·
   rw [hb2] at F
   iterate 4 refine Dd F Aa Aa Aa Aa Aa Aa Aa fun a F => ?_
   refine ls F W Aa (Aq F Aa Aa Aa).q fun a w F W => ?_
   refine Ae (Ab ?_)
   exact ⟨F.re ⟨rfl, Aa, (by show some (Value.bool true) = some (Value.bool (decide (p0.1 < 1) || (decide (8 < p0.1) || (decide (24 < (p0.2.1.length : Int)) || decide (8 < (p0.2.2.length : Int)))))); try rw [hb2]; try rw [hb0]; try rw [hb1]; all_goals simp only [Bool.not_true, Bool.not_false, Bool.true_and, Bool.false_and, Bool.true_or, Bool.false_or, Bool.and_true, Bool.or_false, cond_true, cond_false]), trivial⟩, W⟩
  rw [hb2] at F
  refine AJ F W (Af F Aa Aa Aa Aa) Aa (Ai Aa) (Aj D1 Aa Aa Aa H4 F Aa 2 Aa).q fun a w F W => ?_
  refine AJ F W (Af F Aa Aa Aa Aa) Aa (Ai Aa) (Aw (v := v2) 0 F Aa Aa H4 Aa).q fun a w F W => ?_
  refine AJ F W (Af F Aa Aa Aa Aa) Aa (Ai Aa) (B0 (r := Gz) (l := p0.2.2) JG Aa F Aa (Am h_v2)).q fun a w F W => ?_
  refine AJ F W (Af F Aa Aa Aa Aa) Aa (Ai Aa) (Ga F Aa Aa).q fun a w F W => ?_
  refine ls F W Aa (Az F Aa Aa Aa).q fun a w F W => ?_
  refine Ae (Ab ?_)
  exact ⟨F.re ⟨rfl, Aa, (by show some (Value.bool (decide (8 < (p0.2.2.length : Int)))) = some (Value.bool (decide (p0.1 < 1) || (decide (8 < p0.1) || (decide (24 < (p0.2.1.length : Int)) || decide (8 < (p0.2.2.length : Int)))))); try rw [hb2]; try rw [hb0]; try rw [hb1]; all_goals simp only [Bool.not_true, Bool.not_false, Bool.true_and, Bool.false_and, Bool.true_or, Bool.false_or, Bool.and_true, Bool.or_false, cond_true, cond_false]), trivial⟩, W⟩
 rintro a w ⟨F, W⟩
 refine AA F Aa (fun hb => ?_) fun hb => ?_
 ·
  have H := AS hb H
  rw [hb] at F
  clear hb
  refine Ah (Ac ?_)
  refine ls F W Aa (Ag F Aa).q fun a w F W => ?_
  refine Ae (Ab (AF (AH ?_)))
  have H := AV H
  subst H
  refine BK (.inl Aa) F W Aa (Ay F Aa) ?_
  exact ⟨rfl, W.done⟩
 have H := AR (by rw [hb]; decide) H
 rw [hb] at F
 clear hb
 refine Av (Ab ?_)
 obtain ⟨o1, G1, K1, L1⟩ := Jx H
 refine AM (fun a w => some (Sum.inl ()) = some o1 ∧ Fr 100 [] [(1, .pointer (some ⟨b1, 0, none⟩)), (2, .bool false)] a ∧ Stw ⟨Y, [], w0⟩ [(b1, [.int .i64 p0.1, v1, v2])] [] w) ?_ ?_
 ·
  have H := G1
  clear G1 K1
  refine Ah (Ac ?_)
  refine ls F W Aa (Ag F Aa).q fun a w F W => ?_
  refine Ae (Ab (As ?_))
  refine Bb H (fun s a w => Fr 100 [] [(1, .pointer (some ⟨b1, 0, none⟩)), (2, .bool false), (3, .int .i64 s)] a ∧ Stw ⟨Y, [], w0⟩ [(b1, [.int .i64 p0.1, v1, v2])] [] w) ⟨F.re ⟨rfl, Aa, Aa, trivial⟩, W⟩ fun s o a w H L2 hR => ?_
  obtain ⟨x1, rfl⟩ : ∃ x, x = s := ⟨s, rfl⟩
  obtain ⟨F, W⟩ := hR
  have F : Fr 100 [] [(1, .pointer (some ⟨b1, 0, none⟩)), (2, .bool false), (3, .int .i64 x1)] a := F
  have W : Stw ⟨Y, [], w0⟩ [(b1, [.int .i64 p0.1, v1, v2])] [] w := W
  rw [GQ] at H
  refine Ah (Ah (Ac ?_))
  refine ls F W Aa (Ad F Aa).q fun a w F W => ?_
  refine ls F W Aa (Aj D1 Aa Aa Aa Lp F Aa 1 Aa).q fun a w F W => ?_
  refine ls F W Aa (Aw (v := v1) 0 F Aa Aa Lp Aa).q fun a w F W => ?_
  refine ls F W Aa (B0 (r := Hu) (l := p0.2.1) Md Aa F Aa (Am h_v1)).q fun a w F W => ?_
  refine ls F W Aa (Bu F Aa Aa).q fun a w F W => ?_
  refine Ae (Ab ?_)
  refine AA F Aa (fun hb => ?_) fun hb => ?_
  ·
   have H := AS (BD hb) H
   rw [hb] at F
   clear hb
   refine Av (Ab (Ah (As (Ah (Ac ?_)))))
   refine ls F W Aa (Aj D1 Aa Aa Aa Lp F Aa 1 Aa).q fun a w F W => ?_
   refine ls F W Aa (Aw (v := v1) 0 F Aa Aa Lp Aa).q fun a w F W => ?_
   refine ls F W Aa (Ad F Aa).q fun a w F W => ?_
   obtain ⟨x2, h1, H⟩ := Ak H
   refine ls F W Aa (Ax (r := Hu) RF F Aa Aa (Am h_v1) h1).q fun a w F W => ?_
   refine ls F W Aa (Ao (y := Value.agg #[.int .i64 x2.1, .int .i64 x2.2.1, .int .i64 x2.2.2.1, .int .i64 x2.2.2.2.1, .int .i64 x2.2.2.2.2.1, .int .i64 x2.2.2.2.2.2]) (j := 0) (i := x1) F Aa Aa (Am h_v1) h1 RN.to PO Aa).q fun a w F W => ?_
   refine DX (cs := [.int .i64 0, .int .i64 0, .int .i64 0, .int .i64 0, .int .i64 0, .int .i64 0]) F W Aa RW Aa fun b2 a w F W => ?_
   refine DC (vs := [.int .i64 x2.1, .int .i64 x2.2.1, .int .i64 x2.2.2.1, .int .i64 x2.2.2.2.1, .int .i64 x2.2.2.2.2.1, .int .i64 x2.2.2.2.2.2]) (M' := [(b2, [.int .i64 x2.1, .int .i64 x2.2.1, .int .i64 x2.2.2.1, .int .i64 x2.2.2.2.1, .int .i64 x2.2.2.2.2.1, .int .i64 x2.2.2.2.2.2]), (b1, [.int .i64 p0.1, v1, v2])]) 0 F W Aa Aa Aa PO Aa Aa Aa Aa Aa fun w W => ?_
   refine Ae (Ab ?_)
   obtain ⟨o3, G3, K3⟩ := Ak H
   refine AM (fun a w => ∃ x3 : Bool, some (x3) = some o3 ∧ Fr 100 [] [(1, .pointer (some ⟨b1, 0, none⟩)), (2, .bool false), (3, .int .i64 x1), (77, .bool x3)] a ∧ Stw ⟨Y, [], w0⟩ [(b2, [.int .i64 x2.1, .int .i64 x2.2.1, .int .i64 x2.2.2.1, .int .i64 x2.2.2.2.1, .int .i64 x2.2.2.2.2.1, .int .i64 x2.2.2.2.2.2]), (b1, [.int .i64 p0.1, v1, v2])] [] w) ?_ ?_
   ·
    have H := G3
    clear G3 K3
    refine Ac ?_
    refine ls F W Aa (Aj EW Aa Aa Aa T3 F Aa 0 Aa).q fun a w F W => ?_
    refine ls F W Aa (Aw (v := Value.int .i64 x2.1) 0 F Aa Aa T3 Aa).q fun a w F W => ?_
    refine ls F W Aa (Aj EW Aa Aa Aa T3 F Aa 2 Aa).q fun a w F W => ?_
    refine ls F W Aa (Aw (v := Value.int .i64 x2.2.2.1) 0 F Aa Aa T3 Aa).q fun a w F W => ?_
    refine ls F W Aa (DP F Aa Aa).q fun a w F W => ?_
    refine ls F W Aa (Ad F Aa).q fun a w F W => ?_
    rcases Bool.eq_false_or_eq_true (decide (x2.1 = x2.2.2.1)) with hb | hb
    ·
     have H := AS (BD hb) H
     rw [hb] at F
     clear hb
     iterate 3 refine Dd F Aa Aa Aa Aa Aa Aa Aa fun a F => ?_
     refine ls F W Aa (Aq F Aa Aa Aa).q fun a w F W => ?_
     refine ls F W Aa (Ad F Aa).q fun a w F W => ?_
     iterate 5 refine Dd F Aa Aa Aa Aa Aa Aa Aa fun a F => ?_
     refine ls F W Aa (Aq F Aa Aa Aa).q fun a w F W => ?_
     refine ls F W Aa (Ad F Aa).q fun a w F W => ?_
     iterate 3 refine Dd F Aa Aa Aa Aa Aa Aa Aa fun a F => ?_
     refine ls F W Aa (Aq F Aa Aa Aa).q fun a w F W => ?_
     refine ls F W Aa (Ad F Aa).q fun a w F W => ?_
     iterate 7 refine Dd F Aa Aa Aa Aa Aa Aa Aa fun a F => ?_
     refine ls F W Aa (Aq F Aa Aa Aa).q fun a w F W => ?_
     refine ls F W Aa (Ad F Aa).q fun a w F W => ?_
     iterate 7 refine Dd F Aa Aa Aa Aa Aa Aa Aa fun a F => ?_
     refine ls F W Aa (Aq F Aa Aa Aa).q fun a w F W => ?_
     refine Ae (Ab ?_)
     have W := W.frontM (i := 1) Aa Aa
     have W := W.frontM (i := 1) Aa Aa
     exact ⟨_, H, F.re ⟨rfl, Aa, Aa, Aa, trivial⟩, W⟩
    have H := AR (BB hb) H
    rw [hb] at F
    clear hb
    refine AJ F W (Af F Aa Aa Aa Aa) Aa (Ai Aa) (Aj EW Aa Aa Aa T3 F Aa 4 Aa).q fun a w F W => ?_
    refine AJ F W (Af F Aa Aa Aa Aa) Aa (Ai Aa) (Aw (v := Value.int .i64 x2.2.2.2.2.1) 0 F Aa Aa T3 Aa).q fun a w F W => ?_
    refine AJ F W (Af F Aa Aa Aa Aa) Aa (Ai Aa) (Bu F Aa Aa).q fun a w F W => ?_
    refine ls F W Aa (Az F Aa Aa Aa).q fun a w F W => ?_
    refine ls F W Aa (Ad F Aa).q fun a w F W => ?_
    rcases Bool.eq_false_or_eq_true (decide (x2.2.2.2.2.1 < 1)) with hb | hb
    ·
     have H := AS (BD hb) H
     rw [hb] at F
     clear hb
     iterate 5 refine Dd F Aa Aa Aa Aa Aa Aa Aa fun a F => ?_
     refine ls F W Aa (Aq F Aa Aa Aa).q fun a w F W => ?_
     refine ls F W Aa (Ad F Aa).q fun a w F W => ?_
     iterate 3 refine Dd F Aa Aa Aa Aa Aa Aa Aa fun a F => ?_
     refine ls F W Aa (Aq F Aa Aa Aa).q fun a w F W => ?_
     refine ls F W Aa (Ad F Aa).q fun a w F W => ?_
     iterate 7 refine Dd F Aa Aa Aa Aa Aa Aa Aa fun a F => ?_
     refine ls F W Aa (Aq F Aa Aa Aa).q fun a w F W => ?_
     refine ls F W Aa (Ad F Aa).q fun a w F W => ?_
     iterate 7 refine Dd F Aa Aa Aa Aa Aa Aa Aa fun a F => ?_
     refine ls F W Aa (Aq F Aa Aa Aa).q fun a w F W => ?_
     refine Ae (Ab ?_)
     have W := W.frontM (i := 1) Aa Aa
     have W := W.frontM (i := 1) Aa Aa
     exact ⟨_, H, F.re ⟨rfl, Aa, Aa, Aa, trivial⟩, W⟩
    have H := AR (BB hb) H
    rw [hb] at F
    clear hb
    refine AJ F W (Af F Aa Aa Aa Aa) Aa (Ai Aa) (Aj EW Aa Aa Aa T3 F Aa 4 Aa).q fun a w F W => ?_
    refine AJ F W (Af F Aa Aa Aa Aa) Aa (Ai Aa) (Aw (v := Value.int .i64 x2.2.2.2.2.1) 0 F Aa Aa T3 Aa).q fun a w F W => ?_
    refine AJ F W (Af F Aa Aa Aa Aa) Aa (Ai Aa) (Aj EW Aa Aa Aa T3 F Aa 5 Aa).q fun a w F W => ?_
    refine AJ F W (Af F Aa Aa Aa Aa) Aa (Ai Aa) (Aw (v := Value.int .i64 x2.2.2.2.2.2) 0 F Aa Aa T3 Aa).q fun a w F W => ?_
    refine AJ F W (Af F Aa Aa Aa Aa) Aa (Ai Aa) (Ga F Aa Aa).q fun a w F W => ?_
    refine ls F W Aa (Az F Aa Aa Aa).q fun a w F W => ?_
    refine ls F W Aa (Ad F Aa).q fun a w F W => ?_
    rcases Bool.eq_false_or_eq_true (decide (x2.2.2.2.2.2 < x2.2.2.2.2.1)) with hb | hb
    ·
     have H := AS (BD hb) H
     rw [hb] at F
     clear hb
     iterate 3 refine Dd F Aa Aa Aa Aa Aa Aa Aa fun a F => ?_
     refine ls F W Aa (Aq F Aa Aa Aa).q fun a w F W => ?_
     refine ls F W Aa (Ad F Aa).q fun a w F W => ?_
     iterate 7 refine Dd F Aa Aa Aa Aa Aa Aa Aa fun a F => ?_
     refine ls F W Aa (Aq F Aa Aa Aa).q fun a w F W => ?_
     refine ls F W Aa (Ad F Aa).q fun a w F W => ?_
     iterate 7 refine Dd F Aa Aa Aa Aa Aa Aa Aa fun a F => ?_
     refine ls F W Aa (Aq F Aa Aa Aa).q fun a w F W => ?_
     refine Ae (Ab ?_)
     have W := W.frontM (i := 1) Aa Aa
     have W := W.frontM (i := 1) Aa Aa
     exact ⟨_, H, F.re ⟨rfl, Aa, Aa, Aa, trivial⟩, W⟩
    have H := AR (BB hb) H
    rw [hb] at F
    clear hb
    refine AJ F W (Af F Aa Aa Aa Aa) Aa (Ai Aa) (Aj EW Aa Aa Aa T3 F Aa 5 Aa).q fun a w F W => ?_
    refine AJ F W (Af F Aa Aa Aa Aa) Aa (Ai Aa) (Aw (v := Value.int .i64 x2.2.2.2.2.2) 0 F Aa Aa T3 Aa).q fun a w F W => ?_
    refine AJ F W (Af F Aa Aa Aa Aa) Aa (Ai Aa) (Ga F Aa Aa).q fun a w F W => ?_
    refine ls F W Aa (Az F Aa Aa Aa).q fun a w F W => ?_
    refine ls F W Aa (Ad F Aa).q fun a w F W => ?_
    rcases Bool.eq_false_or_eq_true (decide (1000 < x2.2.2.2.2.2)) with hb | hb
    ·
     have H := AS (BD hb) H
     rw [hb] at F
     clear hb
     iterate 7 refine Dd F Aa Aa Aa Aa Aa Aa Aa fun a F => ?_
     refine ls F W Aa (Aq F Aa Aa Aa).q fun a w F W => ?_
     refine ls F W Aa (Ad F Aa).q fun a w F W => ?_
     iterate 7 refine Dd F Aa Aa Aa Aa Aa Aa Aa fun a F => ?_
     refine ls F W Aa (Aq F Aa Aa Aa).q fun a w F W => ?_
     refine Ae (Ab ?_)
     have W := W.frontM (i := 1) Aa Aa
     have W := W.frontM (i := 1) Aa Aa
     exact ⟨_, H, F.re ⟨rfl, Aa, Aa, Aa, trivial⟩, W⟩
    have H := AR (BB hb) H
    rw [hb] at F
    clear hb
    refine AJ F W (Af F Aa Aa Aa Aa) Aa (Ai Aa) (Aw (v := Value.agg #[.int .i64 p0.1, v1, v2]) 1 F Aa Aa JE Aa).q fun a w F W => ?_
    refine AJ F W (Af F Aa Aa Aa Aa) Aa (Ai Aa) (Aj EW Aa Aa Aa T3 F Aa 0 Aa).q fun a w F W => ?_
    refine AJ F W (Af F Aa Aa Aa Aa) Aa (Ai Aa) (Aw (v := Value.int .i64 x2.1) 0 F Aa Aa T3 Aa).q fun a w F W => ?_
    refine AJ F W (Af F Aa Aa Aa Aa) Aa (Ai Aa) (Aj EW Aa Aa Aa T3 F Aa 1 Aa).q fun a w F W => ?_
    refine AJ F W (Af F Aa Aa Aa Aa) Aa (Ai Aa) (Aw (v := Value.int .i64 x2.2.1) 0 F Aa Aa T3 Aa).q fun a w F W => ?_
    refine Kr (Af F Aa Aa Aa Aa) ?_
    obtain ⟨x4, h2, H⟩ := Ak H
    refine ls F W Aa (BX (v := Value.bool x4) F SF Aa (fun w W => JQ any w (v1) (v2) p0 x2.1 x2.2.1 _ h2 (((Am h_v1) : D4 _ _ _ _ _ _) w W).nx (((Am h_v2) : D4 _ _ _ _ _ _) w W).nx)) fun a w F W => ?_
    refine AJ F W (Af F Aa Aa Aa Aa) Aa (Ai Aa) (Eb F Aa).q fun a w F W => ?_
    refine ls F W Aa (Az F Aa Aa Aa).q fun a w F W => ?_
    refine ls F W Aa (Ad F Aa).q fun a w F W => ?_
    rcases Bool.eq_false_or_eq_true (!x4) with hb | hb
    ·
     have H := AS hb H
     rw [hb] at F
     clear hb
     iterate 7 refine Dd F Aa Aa Aa Aa Aa Aa Aa fun a F => ?_
     refine ls F W Aa (Aq F Aa Aa Aa).q fun a w F W => ?_
     refine Ae (Ab ?_)
     have W := W.frontM (i := 1) Aa Aa
     have W := W.frontM (i := 1) Aa Aa
     exact ⟨_, H, F.re ⟨rfl, Aa, Aa, Aa, trivial⟩, W⟩
    have H := AR (by rw [hb]; decide) H
    rw [hb] at F
    clear hb
    refine AJ F W (Af F Aa Aa Aa Aa) Aa (Ai Aa) (Aw (v := Value.agg #[.int .i64 p0.1, v1, v2]) 1 F Aa Aa JE Aa).q fun a w F W => ?_
    refine AJ F W (Af F Aa Aa Aa Aa) Aa (Ai Aa) (Aj EW Aa Aa Aa T3 F Aa 2 Aa).q fun a w F W => ?_
    refine AJ F W (Af F Aa Aa Aa Aa) Aa (Ai Aa) (Aw (v := Value.int .i64 x2.2.2.1) 0 F Aa Aa T3 Aa).q fun a w F W => ?_
    refine AJ F W (Af F Aa Aa Aa Aa) Aa (Ai Aa) (Aj EW Aa Aa Aa T3 F Aa 3 Aa).q fun a w F W => ?_
    refine AJ F W (Af F Aa Aa Aa Aa) Aa (Ai Aa) (Aw (v := Value.int .i64 x2.2.2.2.1) 0 F Aa Aa T3 Aa).q fun a w F W => ?_
    refine Kr (Af F Aa Aa Aa Aa) ?_
    obtain ⟨x5, h3, H⟩ := Ak H
    refine ls F W Aa (BX (v := Value.bool x5) F SF Aa (fun w W => JQ any w (v1) (v2) p0 x2.2.2.1 x2.2.2.2.1 _ h3 (((Am h_v1) : D4 _ _ _ _ _ _) w W).nx (((Am h_v2) : D4 _ _ _ _ _ _) w W).nx)) fun a w F W => ?_
    refine AJ F W (Af F Aa Aa Aa Aa) Aa (Ai Aa) (Eb F Aa).q fun a w F W => ?_
    refine ls F W Aa (Az F Aa Aa Aa).q fun a w F W => ?_
    refine Ae (Ab ?_)
    have W := W.frontM (i := 1) Aa Aa
    have W := W.frontM (i := 1) Aa Aa
    exact ⟨_, H, F.re ⟨rfl, Aa, Aa, Aa, trivial⟩, W⟩
   rintro a w ⟨x3, hj, F, W⟩
   have hj := AV hj
   subst hj
   have H := K3
   clear G3 K3
   refine AA F Aa (fun hb => ?_) fun hb => ?_
   ·
    have H := AS hb H
    rw [hb] at F
    clear hb
    refine Ah (Ac ?_)
    refine ls F W Aa (Ag F Aa).q fun a w F W => ?_
    refine Ae (Ab (AF (AQ ?_)))
    iterate 2 refine AH ?_
    refine AQ (AH ?_)
    have H := L2 _ H
    have H := L1 _ H
    have H := AV H
    subst H
    refine BK (.inl Aa) F W Aa (Ay F Aa) ?_
    exact ⟨rfl, W.done⟩
   have H := AR (by rw [hb]; decide) H
   rw [hb] at F
   clear hb
   refine Av (AP (Ab (Ac ?_)))
   refine ls F W Aa (Ad F Aa).q fun a w F W => ?_
   refine ls F W Aa (BC F Aa Aa Aa).q fun a w F W => ?_
   refine ls F W Aa (Ag F Aa).q fun a w F W => ?_
   refine Ae (Ab ?_)
   have W := W.frontM (i := 1) Aa Aa
   have W := W.sub (M' := [(b1, [.int .i64 p0.1, v1, v2])]) (Z' := []) (List.Sublist.cons_cons _ (List.nil_sublist _)) (List.Sublist.refl _)
   exact ⟨_, H, F.re ⟨rfl, Aa, Aa, trivial⟩, W⟩
  have H := AR (BB hb) H
  rw [hb] at F
  clear hb
  refine A8 ?_
  iterate 2 refine Bq ?_
  refine A9 (Ab ?_)
  have H := L2 _ H
  exact ⟨H, F.re ⟨rfl, Aa, trivial⟩, W⟩
 rintro a w ⟨hj, F, W⟩
 have H := K1 _ hj
 clear hj G1 K1 L1
 obtain ⟨o4, G4, K4, L4⟩ := Jx H
 refine AM (fun a w => some (Sum.inl ()) = some o4 ∧ Fr 100 [] [(2, .bool false)] a ∧ Stw ⟨Y, [], w0⟩ [(b1, [.int .i64 p0.1, v1, v2])] [] w) ?_ ?_
 ·
  have H := G4
  clear G4 K4
  refine Ah (Ac ?_)
  refine ls F W Aa (Ag F Aa).q fun a w F W => ?_
  refine Ae (Ab (As ?_))
  refine Bb H (fun s a w => Fr 100 [] [(1, .pointer (some ⟨b1, 0, none⟩)), (2, .bool false), (5, .int .i64 s)] a ∧ Stw ⟨Y, [], w0⟩ [(b1, [.int .i64 p0.1, v1, v2])] [] w) ⟨F.re ⟨rfl, Aa, Aa, trivial⟩, W⟩ fun s o a w H L5 hR => ?_
  obtain ⟨x6, rfl⟩ : ∃ x, x = s := ⟨s, rfl⟩
  obtain ⟨F, W⟩ := hR
  have F : Fr 100 [] [(1, .pointer (some ⟨b1, 0, none⟩)), (2, .bool false), (5, .int .i64 x6)] a := F
  have W : Stw ⟨Y, [], w0⟩ [(b1, [.int .i64 p0.1, v1, v2])] [] w := W
  rw [GO] at H
  refine Ah (Ah (Ac ?_))
  refine ls F W Aa (Ad F Aa).q fun a w F W => ?_
  refine ls F W Aa (Aj D1 Aa Aa Aa H4 F Aa 2 Aa).q fun a w F W => ?_
  refine ls F W Aa (Aw (v := v2) 0 F Aa Aa H4 Aa).q fun a w F W => ?_
  refine ls F W Aa (B0 (r := Gz) (l := p0.2.2) JG Aa F Aa (Am h_v2)).q fun a w F W => ?_
  refine ls F W Aa (Bu F Aa Aa).q fun a w F W => ?_
  refine Ae (Ab ?_)
  refine AA F Aa (fun hb => ?_) fun hb => ?_
  ·
   have H := AS (BD hb) H
   rw [hb] at F
   clear hb
   refine Av (Ab (Ah (As (Ah ?_))))
   refine BV W MO (by kernel_rfl) ?_
   refine qs F Aa (Aw (v := Value.agg #[.int .i64 p0.1, v1, v2]) 0 F Aa Aa JE Aa).q fun a F => ?_
   refine qs F Aa (Aj D1 Aa Aa Aa H4 F Aa 2 Aa).q fun a F => ?_
   refine qs F Aa (Aw (v := v2) 0 F Aa Aa H4 Aa).q fun a F => ?_
   refine qs F Aa (Ad F Aa).q fun a F => ?_
   obtain ⟨x7, h4, H⟩ := Ak H
   refine qs F Aa (Ax (r := Gz) Py F Aa Aa (Am h_v2) h4).q fun a F => ?_
   refine qs F Aa (Aj KZ Aa Aa Aa T3 F Aa (Hl v2 + (x6).toNat * 2) Aa).q fun a F => ?_
   refine qs F Aa (Ao (y := Value.int .i64 x7.1) (j := 0) (i := x6) F Aa Aa (Am h_v2) h4 Pw.to T3 Aa).q fun a F => ?_
   refine qs F Aa (Aj D1 Aa Aa Aa H4 F Aa 2 Aa).q fun a F => ?_
   refine qs F Aa (Aw (v := v2) 0 F Aa Aa H4 Aa).q fun a F => ?_
   refine qs F Aa (Ad F Aa).q fun a F => ?_
   obtain ⟨x8, h5, H⟩ := Ak H
   refine qs F Aa (Ax (r := Gz) Py F Aa Aa (Am h_v2) h5).q fun a F => ?_
   refine qs F Aa (Aj KZ Aa Aa Aa T3 F Aa (Hl v2 + (x6).toNat * 2 + 1) Aa).q fun a F => ?_
   refine qs F Aa (Ao (y := Value.int .i64 x8.2) (j := 1) (i := x6) F Aa Aa (Am h_v2) h5 Pw.to T3 Aa).q fun a F => ?_
   obtain ⟨x9, h6, H⟩ := Ak H
   refine qs F Aa (BX (v := Value.bool x9) F SF Aa (fun w W => JQ any w (v1) (v2) p0 x7.1 x8.2 _ h6 (((Am h_v1) : D4 _ _ _ _ _ _) w W).nx (((Am h_v2) : D4 _ _ _ _ _ _) w W).nx)) fun a F => ?_
   refine qs F Aa (Eb F Aa).q fun a F => ?_
   refine AY fun w W => ?_
   refine Ab ?_
   refine AA F Aa (fun hb => ?_) fun hb => ?_
   ·
    have H := AS hb H
    rw [hb] at F
    clear hb
    refine Ah (Ac ?_)
    refine ls F W Aa (Ag F Aa).q fun a w F W => ?_
    refine Ae (Ab (AF (AQ ?_)))
    iterate 2 refine AH ?_
    refine AQ (AH ?_)
    have H := L5 _ H
    have H := L4 _ H
    have H := AV H
    subst H
    refine BK (.inl Aa) F W Aa (Ay F Aa) ?_
    exact ⟨rfl, W.done⟩
   have H := AR (by rw [hb]; decide) H
   rw [hb] at F
   clear hb
   refine Av (AP (Ab (Ac ?_)))
   refine ls F W Aa (Ad F Aa).q fun a w F W => ?_
   refine ls F W Aa (BC F Aa Aa Aa).q fun a w F W => ?_
   refine ls F W Aa (Ag F Aa).q fun a w F W => ?_
   refine Ae (Ab ?_)
   exact ⟨_, H, F.re ⟨rfl, Aa, Aa, trivial⟩, W⟩
  have H := AR (BB hb) H
  rw [hb] at F
  clear hb
  refine A8 ?_
  iterate 2 refine Bq ?_
  refine A9 (Ab ?_)
  have H := L5 _ H
  exact ⟨H, F.re ⟨rfl, trivial⟩, W⟩
 rintro a w ⟨hj, F, W⟩
 have H := K4 _ hj
 clear hj G4 K4 L4
 refine Ah (Ac ?_)
 refine ls F W Aa (Ag F Aa).q fun a w F W => ?_
 refine Ae (Ab (AF ?_))
 have H := AV H
 subst H
 refine BK (.inl Aa) F W Aa (Ay F Aa) ?_
 exact ⟨rfl, W.done⟩
theorem Tx : Has Try.prog 40 := ⟨fun args w => Al Try.func40 rfl (by decide) args w⟩
noncomputable def EF (p1 : List (List Int)) (x3 : Int) : Int → Option (Int ⊕ (Unit ⊕ (Int ⊕ (Unit ⊕ Bool))))
  | x5 => (ix p1 x3).bind fun x6 => (if x5 < (x6.length : Int) then ((ix p1 x3).bind fun x8 => (ix x8 x5).bind fun x9 => (if x9 < 0 then some true else (ix p1 x3).bind fun x10 => (ix x10 x5).bind fun x11 => some (decide (7 < x11)))).bind fun x7 => (if x7 = true then some (.inr (.inr (.inr (.inr false)))) else some (.inl (AB (x5 + 1)))) else some (.inr (.inl ())))
noncomputable def GS (p0 : Int × (List (Int × Int × Int × Int × Int × Int)) × (List (Int × Int))) (p1 : List (List Int)) : Int → Option (Int ⊕ (Unit ⊕ Bool))
  | x3 => (if x3 < (p1.length : Int) then FB ((ix p1 x3).bind fun x4 => (if (x4.length : Int) ≠ (p0.2.2.length : Int) then some (.inr (.inr (.inr false))) else AG (EF p1 x3) 0)) fun _ => some (.inl (AB (x3 + 1))) else some (.inr (.inl ())))
noncomputable def HR (p0 : Int × (List (Int × Int × Int × Int × Int × Int)) × (List (Int × Int))) (p1 : List (List Int)) : Option Bool := ((IQ p0).bind fun x2 => (if (!x2) = true then some true else some (decide ((p1.length : Int) ≠ p0.1)))).bind fun x1 => (if x1 = true then some false else FB (AG (GS p0 p1) 0) fun _ => some true)
theorem KL (Y : Nat → Prop) (w0 : World) (v1 : Value) (v2 : Value) (v3 : Value) (p0 : Int × (List (Int × Int × Int × Int × Int × Int)) × (List (Int × Int))) (p1 : List (List Int)) (r : Bool) (H : HR p0 p1 = some r) (h_v1 : Sl w0 (NX []) Hu v1 p0.2.1) (h_v2 : Sl w0 (NX []) Gz v2 p0.2.2) (h_v3 : Sl w0 (NX []) (Rp.slice (Rp.int .i64)) v3 p1) :
    Calls Try.prog 20 #[.agg #[.int .i64 p0.1, v1, v2], v3] w0 fun e w' => e = .returned (.bool r) ∧ Below w0.heap.size w0 w' := by
 refine enter Try.func20 Aa Try.ntmps20 Aa fun a F => ?_
 have W := Stw.start Y w0
 obtain ⟨v4, h1, h_v3⟩ := h_v3.ex Do
 unfold HR at H
 refine Ah (Ac ?_)
 refine E5 (cs := [.int .i64 p0.1, v1, v2]) F W Aa Aa Aa fun b1 a w F W => ?_
 refine ls F W Aa (Ag F Aa).q fun a w F W => ?_
 refine Ae (Ab (Ah ?_))
 obtain ⟨o1, G1, K1⟩ := Ak H
 refine AM (fun a w => ∃ x1 : Bool, some (x1) = some o1 ∧ Fr 59 [] [(1, v3), (2, .pointer (some ⟨b1, 0, none⟩)), (4, .bool false), (16, .bool x1)] a ∧ Stw ⟨Y, [], w0⟩ [(b1, [.int .i64 p0.1, v1, v2])] [] w) ?_ ?_
 ·
  have H := G1
  clear G1 K1
  refine Ac ?_
  refine ls F W Aa (Aw (v := Value.agg #[.int .i64 p0.1, v1, v2]) 0 F Aa Aa JE Aa).q fun a w F W => ?_
  obtain ⟨x2, h2, H⟩ := Ak H
  refine ls F W Aa (BX (v := Value.bool x2) F Tx Aa (fun w W => Nt any w (v1) (v2) p0 _ h2 (((Am h_v1) : D4 _ _ _ _ _ _) w W).nx (((Am h_v2) : D4 _ _ _ _ _ _) w W).nx)) fun a w F W => ?_
  refine ls F W Aa (Eb F Aa).q fun a w F W => ?_
  refine ls F W Aa (Ad F Aa).q fun a w F W => ?_
  rcases Bool.eq_false_or_eq_true (!x2) with hb | hb
  ·
   have H := AS hb H
   rw [hb] at F
   clear hb
   iterate 5 refine Dd F Aa Aa Aa Aa Aa Aa Aa fun a F => ?_
   refine ls F W Aa (Aq F Aa Aa Aa).q fun a w F W => ?_
   refine Ae (Ab ?_)
   exact ⟨_, H, F.re ⟨rfl, Aa, Aa, Aa, trivial⟩, W⟩
  have H := AR (by rw [hb]; decide) H
  rw [hb] at F
  clear hb
  refine AJ F W (Af F Aa Aa Aa Aa) Aa (Ai Aa) (Ad F Aa).q fun a w F W => ?_
  refine AJ F W (Af F Aa Aa Aa Aa) Aa (Ai Aa) (B0 (r := (Rp.slice (Rp.int .i64))) (l := p1) Ju Aa F Aa (B8 Do h1 (Am h_v3))).q fun a w F W => ?_
  refine AJ F W (Af F Aa Aa Aa Aa) Aa (Ai Aa) (Aj D1 Aa Aa Aa T3 F Aa 0 Aa).q fun a w F W => ?_
  refine AJ F W (Af F Aa Aa Aa Aa) Aa (Ai Aa) (Aw (v := Value.int .i64 p0.1) 0 F Aa Aa T3 Aa).q fun a w F W => ?_
  refine AJ F W (Af F Aa Aa Aa Aa) Aa (Ai Aa) (HL F Aa Aa).q fun a w F W => ?_
  refine ls F W Aa (Az F Aa Aa Aa).q fun a w F W => ?_
  refine Ae (Ab ?_)
  exact ⟨_, H, F.re ⟨rfl, Aa, Aa, Aa, trivial⟩, W⟩
 rintro a w ⟨x1, hj, F, W⟩
 have hj := AV hj
 subst hj
 have H := K1
 clear G1 K1
 refine AA F Aa (fun hb => ?_) fun hb => ?_
 ·
  have H := AS hb H
  rw [hb] at F
  clear hb
  refine Ah (Ac ?_)
  refine ls F W Aa (Ag F Aa).q fun a w F W => ?_
  refine Ae (Ab (AF (AH ?_)))
  have H := AV H
  subst H
  refine BK (.inl Aa) F W Aa (Ay F Aa) ?_
  exact ⟨rfl, W.done⟩
 have H := AR (by rw [hb]; decide) H
 rw [hb] at F
 clear hb
 refine Av (Ab ?_)
 obtain ⟨o2, G2, K2, L2⟩ := Jx H
 refine AM (fun a w => some (Sum.inl ()) = some o2 ∧ Fr 59 [] [(4, .bool false)] a ∧ Stw ⟨Y, [], w0⟩ [(b1, [.int .i64 p0.1, v1, v2])] [] w) ?_ ?_
 ·
  have H := G2
  clear G2 K2
  refine Ah (Ac ?_)
  refine ls F W Aa (Ag F Aa).q fun a w F W => ?_
  refine Ae (Ab (As ?_))
  refine Bb H (fun s a w => Fr 59 [] [(1, v3), (2, .pointer (some ⟨b1, 0, none⟩)), (4, .bool false), (5, .int .i64 s)] a ∧ Stw ⟨Y, [], w0⟩ [(b1, [.int .i64 p0.1, v1, v2])] [] w) ⟨F.re ⟨rfl, Aa, Aa, Aa, trivial⟩, W⟩ fun s o a w H L3 hR => ?_
  obtain ⟨x3, rfl⟩ : ∃ x, x = s := ⟨s, rfl⟩
  obtain ⟨F, W⟩ := hR
  have F : Fr 59 [] [(1, v3), (2, .pointer (some ⟨b1, 0, none⟩)), (4, .bool false), (5, .int .i64 x3)] a := F
  have W : Stw ⟨Y, [], w0⟩ [(b1, [.int .i64 p0.1, v1, v2])] [] w := W
  rw [GS] at H
  refine Ah (Ah (Ac ?_))
  iterate 2 refine ls F W Aa (Ad F Aa).q fun a w F W => ?_
  refine ls F W Aa (B0 (r := (Rp.slice (Rp.int .i64))) (l := p1) Ju Aa F Aa (B8 Do h1 (Am h_v3))).q fun a w F W => ?_
  refine ls F W Aa (Bu F Aa Aa).q fun a w F W => ?_
  refine Ae (Ab ?_)
  refine AA F Aa (fun hb => ?_) fun hb => ?_
  ·
   have H := AS (BD hb) H
   rw [hb] at F
   clear hb
   refine Av (Ab ?_)
   obtain ⟨o4, G4, K4, L4⟩ := Jx H
   refine AM (fun a w => some (Sum.inl ()) = some o4 ∧ Fr 59 [] [(1, v3), (2, .pointer (some ⟨b1, 0, none⟩)), (4, .bool false), (5, .int .i64 x3)] a ∧ Stw ⟨Y, [], w0⟩ [(b1, [.int .i64 p0.1, v1, v2])] [] w) ?_ ?_
   ·
    have H := G4
    clear G4 K4
    refine As ?_
    iterate 2 refine Ah ?_
    refine BV W MO (by kernel_rfl) ?_
    iterate 2 refine qs F Aa (Ad F Aa).q fun a F => ?_
    obtain ⟨x4, h3, H⟩ := Ak H
    obtain ⟨v5, h4, h5⟩ := DQ h1 h3
    have h6 : EN v5 = [(v5.1)] := congrArg (fun q : List Int => ([(v5.1)] : List Value)) h5
    refine qs F Aa (Ax (r := (Rp.vsl (Rp.int .i64))) Lm F Aa Aa (Am h_v3) h4).q fun a F => ?_
    refine qs F Aa (Ao (y := (v5.1)) (j := 0) (i := x3) (enc := EN) F Aa Aa (Am h_v3) h4 Im JO (by rw [h6]; rfl)).q fun a F => ?_
    refine qs F Aa (B0 (r := (Rp.int .i64)) (l := x4) Hr Aa F Aa (Du (Am h_v3) h4 EK.here (congrArg (fun q : List Int => q) h5))).q fun a F => ?_
    refine qs F Aa (Aj D1 Aa Aa Aa H4 F Aa 2 Aa).q fun a F => ?_
    refine qs F Aa (Aw (v := v2) 0 F Aa Aa H4 Aa).q fun a F => ?_
    refine qs F Aa (B0 (r := Gz) (l := p0.2.2) JG Aa F Aa (Am h_v2)).q fun a F => ?_
    refine qs F Aa (HL F Aa Aa).q fun a F => ?_
    refine AY fun w W => ?_
    refine Ab ?_
    refine AA F Aa (fun hb => ?_) fun hb => ?_
    ·
     have H := AS (BD hb) H
     rw [hb] at F
     clear hb
     refine Ah (Ac ?_)
     refine ls F W Aa (Ag F Aa).q fun a w F W => ?_
     refine Ae (Ab (AF (AH (AQ ?_))))
     iterate 2 refine AH ?_
     refine AQ (AH ?_)
     have H := L4 _ H
     have H := L3 _ H
     have H := L2 _ H
     have H := AV H
     subst H
     refine BK (.inl Aa) F W Aa (Ay F Aa) ?_
     exact ⟨rfl, W.done⟩
    have H := AR (BB hb) H
    rw [hb] at F
    clear hb
    refine Av (Ab (Ah (Ac ?_)))
    refine ls F W Aa (Ag F Aa).q fun a w F W => ?_
    refine Ae (Ab (As ?_))
    refine Bb H (fun s a w => Fr 59 [] [(1, v3), (2, .pointer (some ⟨b1, 0, none⟩)), (4, .bool false), (5, .int .i64 x3), (6, .int .i64 s)] a ∧ Stw ⟨Y, [], w0⟩ [(b1, [.int .i64 p0.1, v1, v2])] [] w) ⟨F.re ⟨rfl, Aa, Aa, Aa, Aa, trivial⟩, W⟩ fun s o a w H L5 hR => ?_
    obtain ⟨x5, rfl⟩ : ∃ x, x = s := ⟨s, rfl⟩
    obtain ⟨F, W⟩ := hR
    have F : Fr 59 [] [(1, v3), (2, .pointer (some ⟨b1, 0, none⟩)), (4, .bool false), (5, .int .i64 x3), (6, .int .i64 x5)] a := F
    have W : Stw ⟨Y, [], w0⟩ [(b1, [.int .i64 p0.1, v1, v2])] [] w := W
    rw [EF] at H
    refine Ah (Ah (Ac ?_))
    iterate 3 refine ls F W Aa (Ad F Aa).q fun a w F W => ?_
    obtain ⟨x6, h7, H⟩ := Ak H
    obtain ⟨v6, h8, h9⟩ := DQ h1 h7
    have h10 : EN v6 = [(v6.1)] := congrArg (fun q : List Int => ([(v6.1)] : List Value)) h9
    refine ls F W Aa (Ax (r := (Rp.vsl (Rp.int .i64))) Lm F Aa Aa (Am h_v3) h8).q fun a w F W => ?_
    refine ls F W Aa (Ao (y := (v6.1)) (j := 0) (i := x3) (enc := EN) F Aa Aa (Am h_v3) h8 Im JO (by rw [h10]; rfl)).q fun a w F W => ?_
    refine ls F W Aa (B0 (r := (Rp.int .i64)) (l := x6) Hr Aa F Aa (Du (Am h_v3) h8 EK.here (congrArg (fun q : List Int => q) h9))).q fun a w F W => ?_
    refine ls F W Aa (Bu F Aa Aa).q fun a w F W => ?_
    refine Ae (Ab ?_)
    refine AA F Aa (fun hb => ?_) fun hb => ?_
    ·
     have H := AS (BD hb) H
     rw [hb] at F
     clear hb
     refine Av (Ab (Ah (As ?_)))
     obtain ⟨o6, G6, K6⟩ := Ak H
     refine AM (fun a w => ∃ x7 : Bool, some (x7) = some o6 ∧ Fr 59 [] [(1, v3), (2, .pointer (some ⟨b1, 0, none⟩)), (4, .bool false), (5, .int .i64 x3), (6, .int .i64 x5), (58, .bool x7)] a ∧ Stw ⟨Y, [], w0⟩ [(b1, [.int .i64 p0.1, v1, v2])] [] w) ?_ ?_
     ·
      have H := G6
      clear G6 K6
      refine Ac ?_
      iterate 2 refine ls F W Aa (Ad F Aa).q fun a w F W => ?_
      obtain ⟨x8, h11, H⟩ := Ak H
      obtain ⟨v7, h12, h13⟩ := DQ h1 h11
      have h14 : EN v7 = [(v7.1)] := congrArg (fun q : List Int => ([(v7.1)] : List Value)) h13
      refine ls F W Aa (Ax (r := (Rp.vsl (Rp.int .i64))) Lm F Aa Aa (Am h_v3) h12).q fun a w F W => ?_
      refine ls F W Aa (Ao (y := (v7.1)) (j := 0) (i := x3) (enc := EN) F Aa Aa (Am h_v3) h12 Im JO (by rw [h14]; rfl)).q fun a w F W => ?_
      refine ls F W Aa (Ad F Aa).q fun a w F W => ?_
      obtain ⟨x9, h15, H⟩ := Ak H
      refine ls F W Aa (Ax (r := (Rp.int .i64)) GD F Aa Aa (Du (Am h_v3) h12 EK.here (congrArg (fun q : List Int => q) h13)) h15).q fun a w F W => ?_
      refine ls F W Aa (Ao (y := Value.int .i64 x9) (j := 0) (i := x5) F Aa Aa (Du (Am h_v3) h12 EK.here (congrArg (fun q : List Int => q) h13)) h15 Fl.int.to T3 Aa).q fun a w F W => ?_
      refine ls F W Aa (Bu F Aa Aa).q fun a w F W => ?_
      refine ls F W Aa (Ad F Aa).q fun a w F W => ?_
      rcases Bool.eq_false_or_eq_true (decide (x9 < 0)) with hb | hb
      ·
       have H := AS (BD hb) H
       rw [hb] at F
       clear hb
       iterate 8 refine Dd F Aa Aa Aa Aa Aa Aa Aa fun a F => ?_
       refine ls F W Aa (Aq F Aa Aa Aa).q fun a w F W => ?_
       refine Ae (Ab ?_)
       exact ⟨_, H, F.re ⟨rfl, Aa, Aa, Aa, Aa, Aa, trivial⟩, W⟩
      have H := AR (BB hb) H
      rw [hb] at F
      clear hb
      iterate 2 refine AJ F W (Af F Aa Aa Aa Aa) Aa (Ai Aa) (Ad F Aa).q fun a w F W => ?_
      obtain ⟨x10, h16, H⟩ := Ak H
      obtain ⟨v8, h17, h18⟩ := DQ h1 h16
      have h19 : EN v8 = [(v8.1)] := congrArg (fun q : List Int => ([(v8.1)] : List Value)) h18
      refine AJ F W (Af F Aa Aa Aa Aa) Aa (Ai Aa) (Ax (r := (Rp.vsl (Rp.int .i64))) Lm F Aa Aa (Am h_v3) h17).q fun a w F W => ?_
      refine AJ F W (Af F Aa Aa Aa Aa) Aa (Ai Aa) (Ao (y := (v8.1)) (j := 0) (i := x3) (enc := EN) F Aa Aa (Am h_v3) h17 Im JO (by rw [h19]; rfl)).q fun a w F W => ?_
      refine AJ F W (Af F Aa Aa Aa Aa) Aa (Ai Aa) (Ad F Aa).q fun a w F W => ?_
      obtain ⟨x11, h20, H⟩ := Ak H
      refine AJ F W (Af F Aa Aa Aa Aa) Aa (Ai Aa) (Ax (r := (Rp.int .i64)) GD F Aa Aa (Du (Am h_v3) h17 EK.here (congrArg (fun q : List Int => q) h18)) h20).q fun a w F W => ?_
      refine AJ F W (Af F Aa Aa Aa Aa) Aa (Ai Aa) (Ao (y := Value.int .i64 x11) (j := 0) (i := x5) F Aa Aa (Du (Am h_v3) h17 EK.here (congrArg (fun q : List Int => q) h18)) h20 Fl.int.to T3 Aa).q fun a w F W => ?_
      refine AJ F W (Af F Aa Aa Aa Aa) Aa (Ai Aa) (Ga F Aa Aa).q fun a w F W => ?_
      refine ls F W Aa (Az F Aa Aa Aa).q fun a w F W => ?_
      refine Ae (Ab ?_)
      exact ⟨_, H, F.re ⟨rfl, Aa, Aa, Aa, Aa, Aa, trivial⟩, W⟩
     rintro a w ⟨x7, hj, F, W⟩
     have hj := AV hj
     subst hj
     have H := K6
     clear G6 K6
     refine AA F Aa (fun hb => ?_) fun hb => ?_
     ·
      have H := AS hb H
      rw [hb] at F
      clear hb
      refine Ah (Ac ?_)
      refine ls F W Aa (Ag F Aa).q fun a w F W => ?_
      refine Ae (Ab (AF (AQ ?_)))
      iterate 2 refine AH ?_
      iterate 2 refine AQ ?_
      iterate 2 refine AH ?_
      refine AQ (AH ?_)
      have H := L5 _ H
      have H := L4 _ H
      have H := L3 _ H
      have H := L2 _ H
      have H := AV H
      subst H
      refine BK (.inl Aa) F W Aa (Ay F Aa) ?_
      exact ⟨rfl, W.done⟩
     have H := AR (by rw [hb]; decide) H
     rw [hb] at F
     clear hb
     refine Av (AP (Ab (Ac ?_)))
     refine ls F W Aa (Ad F Aa).q fun a w F W => ?_
     refine ls F W Aa (BC F Aa Aa Aa).q fun a w F W => ?_
     refine ls F W Aa (Ag F Aa).q fun a w F W => ?_
     refine Ae (Ab ?_)
     exact ⟨_, H, F.re ⟨rfl, Aa, Aa, Aa, Aa, trivial⟩, W⟩
    have H := AR (BB hb) H
    rw [hb] at F
    clear hb
    refine A8 ?_
    iterate 2 refine Bq ?_
    refine A9 (AP (Ab ?_))
    have H := L5 _ H
    exact ⟨H, F.re ⟨rfl, Aa, Aa, Aa, trivial⟩, W⟩
   rintro a w ⟨hj, F, W⟩
   have H := K4 _ hj
   clear hj G4 K4 L4
   refine Ac ?_
   refine ls F W Aa (Ad F Aa).q fun a w F W => ?_
   refine ls F W Aa (BC F Aa Aa Aa).q fun a w F W => ?_
   refine ls F W Aa (Ag F Aa).q fun a w F W => ?_
   refine Ae (Ab ?_)
   exact ⟨_, H, F.re ⟨rfl, Aa, Aa, Aa, trivial⟩, W⟩
  have H := AR (BB hb) H
  rw [hb] at F
  clear hb
  refine A8 ?_
  iterate 2 refine Bq ?_
  refine A9 (Ab ?_)
  have H := L3 _ H
  exact ⟨H, F.re ⟨rfl, trivial⟩, W⟩
 rintro a w ⟨hj, F, W⟩
 have H := K2 _ hj
 clear hj G2 K2 L2
 refine Ah (Ac ?_)
 refine ls F W Aa (Ag F Aa).q fun a w F W => ?_
 refine Ae (Ab (AF ?_))
 have H := AV H
 subst H
 refine BK (.inl Aa) F W Aa (Ay F Aa) ?_
 exact ⟨rfl, W.done⟩
theorem S5 : Has Try.prog 20 := ⟨fun args w => Al Try.func20 rfl (by decide) args w⟩
noncomputable def Il (p0 : Int × (List (Int × Int × Int × Int × Int × Int)) × (List (Int × Int))) (p1 : Int) (p2 : Int) : Int → Option (Int ⊕ (Unit ⊕ (Int × Int × Int × Bool)))
  | x1 => (if x1 < (p0.2.1.length : Int) then (ix p0.2.1 x1).bind fun x2 => (if (decide (x2.1 = p1) && decide (x2.2.1 = p2)) = true then some (.inr (.inr (x2.2.2.1, x2.2.2.2.1, x1, true))) else (if (decide (x2.2.2.1 = p1) && decide (x2.2.2.2.1 = p2)) = true then some (.inr (.inr (x2.1, x2.2.1, x1, true))) else some (.inl (AB (x1 + 1))))) else some (.inr (.inl ())))
noncomputable def HT (p0 : Int × (List (Int × Int × Int × Int × Int × Int)) × (List (Int × Int))) (p1 : Int) (p2 : Int) : Option (Int × Int × Int × Bool) := FB (AG (Il p0 p1 p2) 0) fun _ => some (0, 0, 0, false)
theorem Lv (Y : Nat → Prop) (w0 : World) (v1 : Value) (v2 : Value) (p0 : Int × (List (Int × Int × Int × Int × Int × Int)) × (List (Int × Int))) (p1 : Int) (p2 : Int) (r : Int × Int × Int × Bool) (H : HT p0 p1 p2 = some r) (h_v1 : Sl w0 (NX []) Hu v1 p0.2.1) (h_v2 : Sl w0 (NX []) Gz v2 p0.2.2) :
    Calls Try.prog 15 #[.agg #[.int .i64 p0.1, v1, v2], .int .i64 p1, .int .i64 p2] w0 fun e w' => e = .returned (.tuple #[.int .i64 r.1, .int .i64 r.2.1, .int .i64 r.2.2.1, .bool r.2.2.2]) ∧ Below w0.heap.size w0 w' := by
 refine enter Try.func15 Aa Try.ntmps15 Aa fun a F => ?_
 have W := Stw.start Y w0
 unfold HT at H
 refine Ah (Ac ?_)
 refine E5 (cs := [.int .i64 p0.1, v1, v2]) F W Aa Aa Aa fun b1 a w F W => ?_
 iterate 4 refine ls F W Aa (Ag F Aa).q fun a w F W => ?_
 refine Ae (Ab ?_)
 obtain ⟨o1, G1, K1, L1⟩ := Jx H
 refine AM (fun a w => some (Sum.inl ()) = some o1 ∧ Fr 54 [] [(6, .int .i64 0), (7, .int .i64 0), (8, .int .i64 0), (9, .bool false)] a ∧ Stw ⟨Y, [], w0⟩ [(b1, [.int .i64 p0.1, v1, v2])] [] w) ?_ ?_
 ·
  have H := G1
  clear G1 K1
  refine Ah (Ac ?_)
  refine ls F W Aa (Ag F Aa).q fun a w F W => ?_
  refine Ae (Ab (As ?_))
  refine Bb H (fun s a w => Fr 54 [] [(1, .int .i64 p1), (2, .int .i64 p2), (3, .pointer (some ⟨b1, 0, none⟩)), (6, .int .i64 0), (7, .int .i64 0), (8, .int .i64 0), (9, .bool false), (10, .int .i64 s)] a ∧ Stw ⟨Y, [], w0⟩ [(b1, [.int .i64 p0.1, v1, v2])] [] w) ⟨F.re ⟨rfl, Aa, Aa, Aa, Aa, Aa, Aa, Aa, trivial⟩, W⟩ fun s o a w H L2 hR => ?_
  obtain ⟨x1, rfl⟩ : ∃ x, x = s := ⟨s, rfl⟩
  obtain ⟨F, W⟩ := hR
  have F : Fr 54 [] [(1, .int .i64 p1), (2, .int .i64 p2), (3, .pointer (some ⟨b1, 0, none⟩)), (6, .int .i64 0), (7, .int .i64 0), (8, .int .i64 0), (9, .bool false), (10, .int .i64 x1)] a := F
  have W : Stw ⟨Y, [], w0⟩ [(b1, [.int .i64 p0.1, v1, v2])] [] w := W
  rw [Il] at H
  refine Ah (Ah (Ac ?_))
  refine ls F W Aa (Ad F Aa).q fun a w F W => ?_
  refine ls F W Aa (Aj D1 Aa Aa Aa Lp F Aa 1 Aa).q fun a w F W => ?_
  refine ls F W Aa (Aw (v := v1) 0 F Aa Aa Lp Aa).q fun a w F W => ?_
  refine ls F W Aa (B0 (r := Hu) (l := p0.2.1) Md Aa F Aa (Am h_v1)).q fun a w F W => ?_
  refine ls F W Aa (Bu F Aa Aa).q fun a w F W => ?_
  refine Ae (Ab ?_)
  refine AA F Aa (fun hb => ?_) fun hb => ?_
  ·
   have H := AS (BD hb) H
   rw [hb] at F
   clear hb
   refine Av (Ab (Ah (As (Ah (Ac ?_)))))
   refine ls F W Aa (Aj D1 Aa Aa Aa Lp F Aa 1 Aa).q fun a w F W => ?_
   refine ls F W Aa (Aw (v := v1) 0 F Aa Aa Lp Aa).q fun a w F W => ?_
   refine ls F W Aa (Ad F Aa).q fun a w F W => ?_
   obtain ⟨x2, h1, H⟩ := Ak H
   refine ls F W Aa (Ax (r := Hu) RF F Aa Aa (Am h_v1) h1).q fun a w F W => ?_
   refine ls F W Aa (Ao (y := Value.agg #[.int .i64 x2.1, .int .i64 x2.2.1, .int .i64 x2.2.2.1, .int .i64 x2.2.2.2.1, .int .i64 x2.2.2.2.2.1, .int .i64 x2.2.2.2.2.2]) (j := 0) (i := x1) F Aa Aa (Am h_v1) h1 RN.to PO Aa).q fun a w F W => ?_
   refine DX (cs := [.int .i64 0, .int .i64 0, .int .i64 0, .int .i64 0, .int .i64 0, .int .i64 0]) F W Aa RW Aa fun b2 a w F W => ?_
   refine DC (vs := [.int .i64 x2.1, .int .i64 x2.2.1, .int .i64 x2.2.2.1, .int .i64 x2.2.2.2.1, .int .i64 x2.2.2.2.2.1, .int .i64 x2.2.2.2.2.2]) (M' := [(b2, [.int .i64 x2.1, .int .i64 x2.2.1, .int .i64 x2.2.2.1, .int .i64 x2.2.2.2.1, .int .i64 x2.2.2.2.2.1, .int .i64 x2.2.2.2.2.2]), (b1, [.int .i64 p0.1, v1, v2])]) 0 F W Aa Aa Aa PO Aa Aa Aa Aa Aa fun w W => ?_
   refine Ae (Ab (Ah ?_))
   refine AM (fun a w => Fr 54 [] [(1, .int .i64 p1), (2, .int .i64 p2), (3, .pointer (some ⟨b1, 0, none⟩)), (6, .int .i64 0), (7, .int .i64 0), (8, .int .i64 0), (9, .bool false), (10, .int .i64 x1), (11, .pointer (some ⟨b2, 0, none⟩)), (33, .bool (decide (x2.1 = p1) && decide (x2.2.1 = p2)))] a ∧ Stw ⟨Y, [], w0⟩ [(b2, [.int .i64 x2.1, .int .i64 x2.2.1, .int .i64 x2.2.2.1, .int .i64 x2.2.2.2.1, .int .i64 x2.2.2.2.2.1, .int .i64 x2.2.2.2.2.2]), (b1, [.int .i64 p0.1, v1, v2])] [] w) ?_ ?_
   ·
    refine Ac ?_
    refine ls F W Aa (Aj EW Aa Aa Aa T3 F Aa 0 Aa).q fun a w F W => ?_
    refine ls F W Aa (Aw (v := Value.int .i64 x2.1) 0 F Aa Aa T3 Aa).q fun a w F W => ?_
    refine ls F W Aa (Ad F Aa).q fun a w F W => ?_
    refine ls F W Aa (DP F Aa Aa).q fun a w F W => ?_
    refine ls F W Aa (Ad F Aa).q fun a w F W => ?_
    rcases Bool.eq_false_or_eq_true (decide (x2.1 = p1)) with hb0 | hb0
    ·
     rw [hb0] at F
     refine AJ F W (Af F Aa Aa Aa Aa) Aa (Ai Aa) (Aj EW Aa Aa Aa T3 F Aa 1 Aa).q fun a w F W => ?_
     refine AJ F W (Af F Aa Aa Aa Aa) Aa (Ai Aa) (Aw (v := Value.int .i64 x2.2.1) 0 F Aa Aa T3 Aa).q fun a w F W => ?_
     refine AJ F W (Af F Aa Aa Aa Aa) Aa (Ai Aa) (Ad F Aa).q fun a w F W => ?_
     refine AJ F W (Af F Aa Aa Aa Aa) Aa (Ai Aa) (DP F Aa Aa).q fun a w F W => ?_
     refine ls F W Aa (Aq F Aa Aa Aa).q fun a w F W => ?_
     refine Ae (Ab ?_)
     exact ⟨F.re ⟨rfl, Aa, Aa, Aa, Aa, Aa, Aa, Aa, Aa, (by show some (Value.bool (decide (x2.2.1 = p2))) = some (Value.bool (decide (x2.1 = p1) && decide (x2.2.1 = p2))); try rw [hb0]; all_goals simp only [Bool.not_true, Bool.not_false, Bool.true_and, Bool.false_and, Bool.true_or, Bool.false_or, Bool.and_true, Bool.or_false, cond_true, cond_false]), trivial⟩, W⟩
    rw [hb0] at F
    iterate 4 refine Dd F Aa Aa Aa Aa Aa Aa Aa fun a F => ?_
    refine ls F W Aa (Az F Aa Aa Aa).q fun a w F W => ?_
    refine Ae (Ab ?_)
    exact ⟨F.re ⟨rfl, Aa, Aa, Aa, Aa, Aa, Aa, Aa, Aa, (by show some (Value.bool false) = some (Value.bool (decide (x2.1 = p1) && decide (x2.2.1 = p2))); try rw [hb0]; all_goals simp only [Bool.not_true, Bool.not_false, Bool.true_and, Bool.false_and, Bool.true_or, Bool.false_or, Bool.and_true, Bool.or_false, cond_true, cond_false]), trivial⟩, W⟩
   rintro a w ⟨F, W⟩
   refine AA F Aa (fun hb => ?_) fun hb => ?_
   ·
    have H := AS hb H
    rw [hb] at F
    clear hb
    refine Ah ?_
    refine BV W MO (by kernel_rfl) ?_
    refine qs F Aa (Aj EW Aa Aa Aa T3 F Aa 2 Aa).q fun a F => ?_
    refine qs F Aa (Aw (v := Value.int .i64 x2.2.2.1) 0 F Aa Aa T3 Aa).q fun a F => ?_
    refine qs F Aa (Aj EW Aa Aa Aa T3 F Aa 3 Aa).q fun a F => ?_
    refine qs F Aa (Aw (v := Value.int .i64 x2.2.2.2.1) 0 F Aa Aa T3 Aa).q fun a F => ?_
    refine qs F Aa (Ad F Aa).q fun a F => ?_
    iterate 4 refine qs F Aa (Ag F Aa).q fun a F => ?_
    refine AY fun w W => ?_
    refine Ab (AF (AH (AQ ?_)))
    iterate 2 refine AH ?_
    refine AQ (AH ?_)
    have H := L2 _ H
    have H := L1 _ H
    have H := AV H
    subst H
    refine MD (.inl Aa) F W Aa (Ay F Aa) (Ay F Aa) (Ay F Aa) (Ay F Aa) ?_
    exact ⟨rfl, W.done⟩
   have H := AR (by rw [hb]; decide) H
   rw [hb] at F
   clear hb
   refine Av (Ab ?_)
   refine AM (fun a w => Fr 54 [] [(1, .int .i64 p1), (2, .int .i64 p2), (3, .pointer (some ⟨b1, 0, none⟩)), (6, .int .i64 0), (7, .int .i64 0), (8, .int .i64 0), (9, .bool false), (10, .int .i64 x1), (11, .pointer (some ⟨b2, 0, none⟩)), (48, .bool (decide (x2.2.2.1 = p1) && decide (x2.2.2.2.1 = p2)))] a ∧ Stw ⟨Y, [], w0⟩ [(b2, [.int .i64 x2.1, .int .i64 x2.2.1, .int .i64 x2.2.2.1, .int .i64 x2.2.2.2.1, .int .i64 x2.2.2.2.2.1, .int .i64 x2.2.2.2.2.2]), (b1, [.int .i64 p0.1, v1, v2])] [] w) ?_ ?_
   ·
    refine Ac ?_
    refine ls F W Aa (Aj EW Aa Aa Aa T3 F Aa 2 Aa).q fun a w F W => ?_
    refine ls F W Aa (Aw (v := Value.int .i64 x2.2.2.1) 0 F Aa Aa T3 Aa).q fun a w F W => ?_
    refine ls F W Aa (Ad F Aa).q fun a w F W => ?_
    refine ls F W Aa (DP F Aa Aa).q fun a w F W => ?_
    refine ls F W Aa (Ad F Aa).q fun a w F W => ?_
    rcases Bool.eq_false_or_eq_true (decide (x2.2.2.1 = p1)) with hb0 | hb0
    ·
     rw [hb0] at F
     refine AJ F W (Af F Aa Aa Aa Aa) Aa (Ai Aa) (Aj EW Aa Aa Aa T3 F Aa 3 Aa).q fun a w F W => ?_
     refine AJ F W (Af F Aa Aa Aa Aa) Aa (Ai Aa) (Aw (v := Value.int .i64 x2.2.2.2.1) 0 F Aa Aa T3 Aa).q fun a w F W => ?_
     refine AJ F W (Af F Aa Aa Aa Aa) Aa (Ai Aa) (Ad F Aa).q fun a w F W => ?_
     refine AJ F W (Af F Aa Aa Aa Aa) Aa (Ai Aa) (DP F Aa Aa).q fun a w F W => ?_
     refine ls F W Aa (Aq F Aa Aa Aa).q fun a w F W => ?_
     refine Ae (Ab ?_)
     exact ⟨F.re ⟨rfl, Aa, Aa, Aa, Aa, Aa, Aa, Aa, Aa, (by show some (Value.bool (decide (x2.2.2.2.1 = p2))) = some (Value.bool (decide (x2.2.2.1 = p1) && decide (x2.2.2.2.1 = p2))); try rw [hb0]; all_goals simp only [Bool.not_true, Bool.not_false, Bool.true_and, Bool.false_and, Bool.true_or, Bool.false_or, Bool.and_true, Bool.or_false, cond_true, cond_false]), trivial⟩, W⟩
    rw [hb0] at F
    iterate 4 refine Dd F Aa Aa Aa Aa Aa Aa Aa fun a F => ?_
    refine ls F W Aa (Az F Aa Aa Aa).q fun a w F W => ?_
    refine Ae (Ab ?_)
    exact ⟨F.re ⟨rfl, Aa, Aa, Aa, Aa, Aa, Aa, Aa, Aa, (by show some (Value.bool false) = some (Value.bool (decide (x2.2.2.1 = p1) && decide (x2.2.2.2.1 = p2))); try rw [hb0]; all_goals simp only [Bool.not_true, Bool.not_false, Bool.true_and, Bool.false_and, Bool.true_or, Bool.false_or, Bool.and_true, Bool.or_false, cond_true, cond_false]), trivial⟩, W⟩
   rintro a w ⟨F, W⟩
   refine AA F Aa (fun hb => ?_) fun hb => ?_
   ·
    have H := AS hb H
    rw [hb] at F
    clear hb
    refine Ah ?_
    refine BV W MO (by kernel_rfl) ?_
    refine qs F Aa (Aj EW Aa Aa Aa T3 F Aa 0 Aa).q fun a F => ?_
    refine qs F Aa (Aw (v := Value.int .i64 x2.1) 0 F Aa Aa T3 Aa).q fun a F => ?_
    refine qs F Aa (Aj EW Aa Aa Aa T3 F Aa 1 Aa).q fun a F => ?_
    refine qs F Aa (Aw (v := Value.int .i64 x2.2.1) 0 F Aa Aa T3 Aa).q fun a F => ?_
    refine qs F Aa (Ad F Aa).q fun a F => ?_
    iterate 4 refine qs F Aa (Ag F Aa).q fun a F => ?_
    refine AY fun w W => ?_
    refine Ab (AF (AQ ?_))
    iterate 2 refine AH ?_
    refine AQ (AH ?_)
    have H := L2 _ H
    have H := L1 _ H
    have H := AV H
    subst H
    refine MD (.inl Aa) F W Aa (Ay F Aa) (Ay F Aa) (Ay F Aa) (Ay F Aa) ?_
    exact ⟨rfl, W.done⟩
   have H := AR (by rw [hb]; decide) H
   rw [hb] at F
   clear hb
   refine Av (AP (Ab (Ac ?_)))
   refine ls F W Aa (Ad F Aa).q fun a w F W => ?_
   refine ls F W Aa (BC F Aa Aa Aa).q fun a w F W => ?_
   refine ls F W Aa (Ag F Aa).q fun a w F W => ?_
   refine Ae (Ab ?_)
   have W := W.frontM (i := 1) Aa Aa
   have W := W.sub (M' := [(b1, [.int .i64 p0.1, v1, v2])]) (Z' := []) (List.Sublist.cons_cons _ (List.nil_sublist _)) (List.Sublist.refl _)
   exact ⟨_, H, F.re ⟨rfl, Aa, Aa, Aa, Aa, Aa, Aa, Aa, trivial⟩, W⟩
  have H := AR (BB hb) H
  rw [hb] at F
  clear hb
  refine A8 ?_
  iterate 2 refine Bq ?_
  refine A9 (Ab ?_)
  have H := L2 _ H
  exact ⟨H, F.re ⟨rfl, Aa, Aa, Aa, trivial⟩, W⟩
 rintro a w ⟨hj, F, W⟩
 have H := K1 _ hj
 clear hj G1 K1 L1
 refine Ah (Ac ?_)
 iterate 4 refine ls F W Aa (Ag F Aa).q fun a w F W => ?_
 refine Ae (Ab (AF ?_))
 have H := AV H
 subst H
 refine MD (.inl Aa) F W Aa (Ay F Aa) (Ay F Aa) (Ay F Aa) (Ay F Aa) ?_
 exact ⟨rfl, W.done⟩
theorem S6 : Has Try.prog 15 := ⟨fun args w => Al Try.func15 rfl (by decide) args w⟩
noncomputable def Jq (p0 : Int × (List (Int × Int × Int × Int × Int × Int)) × (List (Int × Int))) (p1 : List (List Int)) (p2 : Int) (p3 : Int) : Option (Int × Bool) := (if p2 < 0 then some true else (if (p1.length : Int) ≤ p2 then some true else (if p3 < 0 then some true else (ix p1 p2).bind fun x2 => some (decide ((x2.length : Int) ≤ p3))))).bind fun x1 => (if x1 = true then some (0, false) else (ix p1 p2).bind fun x3 => (ix x3 p3).bind fun x4 => (HT p0 p2 x4).bind fun x5 => some (x5.1, x5.2.2.2))
theorem N8 (Y : Nat → Prop) (w0 : World) (v1 : Value) (v2 : Value) (v3 : Value) (p0 : Int × (List (Int × Int × Int × Int × Int × Int)) × (List (Int × Int))) (p1 : List (List Int)) (p2 : Int) (p3 : Int) (r : Int × Bool) (H : Jq p0 p1 p2 p3 = some r) (h_v1 : Sl w0 (NX []) Hu v1 p0.2.1) (h_v2 : Sl w0 (NX []) Gz v2 p0.2.2) (h_v3 : Sl w0 (NX []) (Rp.slice (Rp.int .i64)) v3 p1) :
    Calls Try.prog 58 #[.agg #[.int .i64 p0.1, v1, v2], v3, .int .i64 p2, .int .i64 p3] w0 fun e w' => e = .returned (.tuple #[.int .i64 r.1, .bool r.2]) ∧ Below w0.heap.size w0 w' := by
 refine enter Try.func58 Aa Try.ntmps58 Aa fun a F => ?_
 have W := Stw.start Y w0
 obtain ⟨v4, h1, h_v3⟩ := h_v3.ex Do
 unfold Jq at H
 refine Ah (Ac ?_)
 refine E5 (cs := [.int .i64 p0.1, v1, v2]) F W Aa Aa Aa fun b1 a w F W => ?_
 iterate 2 refine ls F W Aa (Ag F Aa).q fun a w F W => ?_
 refine Ae (Ab (Ah ?_))
 obtain ⟨o1, G1, K1⟩ := Ak H
 refine AM (fun a w => ∃ x1 : Bool, some (x1) = some o1 ∧ Fr 52 [] [(1, v3), (2, .int .i64 p2), (3, .int .i64 p3), (4, .pointer (some ⟨b1, 0, none⟩)), (8, .int .i64 0), (9, .bool false), (34, .bool x1)] a ∧ Stw ⟨Y, [], w0⟩ [(b1, [.int .i64 p0.1, v1, v2])] [] w) ?_ ?_
 ·
  have H := G1
  clear G1 K1
  refine Ac ?_
  refine ls F W Aa (Ad F Aa).q fun a w F W => ?_
  refine ls F W Aa (Bu F Aa Aa).q fun a w F W => ?_
  refine ls F W Aa (Ad F Aa).q fun a w F W => ?_
  rcases Bool.eq_false_or_eq_true (decide (p2 < 0)) with hb | hb
  ·
   have H := AS (BD hb) H
   rw [hb] at F
   clear hb
   iterate 4 refine Dd F Aa Aa Aa Aa Aa Aa Aa fun a F => ?_
   refine ls F W Aa (Aq F Aa Aa Aa).q fun a w F W => ?_
   refine ls F W Aa (Ad F Aa).q fun a w F W => ?_
   iterate 2 refine Dd F Aa Aa Aa Aa Aa Aa Aa fun a F => ?_
   refine ls F W Aa (Aq F Aa Aa Aa).q fun a w F W => ?_
   refine ls F W Aa (Ad F Aa).q fun a w F W => ?_
   iterate 7 refine Dd F Aa Aa Aa Aa Aa Aa Aa fun a F => ?_
   refine ls F W Aa (Aq F Aa Aa Aa).q fun a w F W => ?_
   refine Ae (Ab ?_)
   exact ⟨_, H, F.re ⟨rfl, Aa, Aa, Aa, Aa, Aa, Aa, trivial⟩, W⟩
  have H := AR (BB hb) H
  rw [hb] at F
  clear hb
  iterate 2 refine AJ F W (Af F Aa Aa Aa Aa) Aa (Ai Aa) (Ad F Aa).q fun a w F W => ?_
  refine AJ F W (Af F Aa Aa Aa Aa) Aa (Ai Aa) (B0 (r := (Rp.slice (Rp.int .i64))) (l := p1) Ju Aa F Aa (B8 Do h1 (Am h_v3))).q fun a w F W => ?_
  refine AJ F W (Af F Aa Aa Aa Aa) Aa (Ai Aa) (DH F Aa Aa).q fun a w F W => ?_
  refine ls F W Aa (Az F Aa Aa Aa).q fun a w F W => ?_
  refine ls F W Aa (Ad F Aa).q fun a w F W => ?_
  rcases Bool.eq_false_or_eq_true (decide ((p1.length : Int) ≤ p2)) with hb | hb
  ·
   have H := AS (BD hb) H
   rw [hb] at F
   clear hb
   iterate 2 refine Dd F Aa Aa Aa Aa Aa Aa Aa fun a F => ?_
   refine ls F W Aa (Aq F Aa Aa Aa).q fun a w F W => ?_
   refine ls F W Aa (Ad F Aa).q fun a w F W => ?_
   iterate 7 refine Dd F Aa Aa Aa Aa Aa Aa Aa fun a F => ?_
   refine ls F W Aa (Aq F Aa Aa Aa).q fun a w F W => ?_
   refine Ae (Ab ?_)
   exact ⟨_, H, F.re ⟨rfl, Aa, Aa, Aa, Aa, Aa, Aa, trivial⟩, W⟩
  have H := AR (BB hb) H
  rw [hb] at F
  clear hb
  refine AJ F W (Af F Aa Aa Aa Aa) Aa (Ai Aa) (Ad F Aa).q fun a w F W => ?_
  refine AJ F W (Af F Aa Aa Aa Aa) Aa (Ai Aa) (Bu F Aa Aa).q fun a w F W => ?_
  refine ls F W Aa (Az F Aa Aa Aa).q fun a w F W => ?_
  refine ls F W Aa (Ad F Aa).q fun a w F W => ?_
  rcases Bool.eq_false_or_eq_true (decide (p3 < 0)) with hb | hb
  ·
   have H := AS (BD hb) H
   rw [hb] at F
   clear hb
   iterate 7 refine Dd F Aa Aa Aa Aa Aa Aa Aa fun a F => ?_
   refine ls F W Aa (Aq F Aa Aa Aa).q fun a w F W => ?_
   refine Ae (Ab ?_)
   exact ⟨_, H, F.re ⟨rfl, Aa, Aa, Aa, Aa, Aa, Aa, trivial⟩, W⟩
  have H := AR (BB hb) H
  rw [hb] at F
  clear hb
  iterate 3 refine AJ F W (Af F Aa Aa Aa Aa) Aa (Ai Aa) (Ad F Aa).q fun a w F W => ?_
  obtain ⟨x2, h2, H⟩ := Ak H
  obtain ⟨v5, h3, h4⟩ := DQ h1 h2
  have h5 : EN v5 = [(v5.1)] := congrArg (fun q : List Int => ([(v5.1)] : List Value)) h4
  refine AJ F W (Af F Aa Aa Aa Aa) Aa (Ai Aa) (Ax (r := (Rp.vsl (Rp.int .i64))) Lm F Aa Aa (Am h_v3) h3).q fun a w F W => ?_
  refine AJ F W (Af F Aa Aa Aa Aa) Aa (Ai Aa) (Ao (y := (v5.1)) (j := 0) (i := p2) (enc := EN) F Aa Aa (Am h_v3) h3 Im JO (by rw [h5]; rfl)).q fun a w F W => ?_
  refine AJ F W (Af F Aa Aa Aa Aa) Aa (Ai Aa) (B0 (r := (Rp.int .i64)) (l := x2) Hr Aa F Aa (Du (Am h_v3) h3 EK.here (congrArg (fun q : List Int => q) h4))).q fun a w F W => ?_
  refine AJ F W (Af F Aa Aa Aa Aa) Aa (Ai Aa) (DH F Aa Aa).q fun a w F W => ?_
  refine ls F W Aa (Az F Aa Aa Aa).q fun a w F W => ?_
  refine Ae (Ab ?_)
  exact ⟨_, H, F.re ⟨rfl, Aa, Aa, Aa, Aa, Aa, Aa, trivial⟩, W⟩
 rintro a w ⟨x1, hj, F, W⟩
 have hj := AV hj
 subst hj
 have H := K1
 clear G1 K1
 refine AA F Aa (fun hb => ?_) fun hb => ?_
 ·
  have H := AS hb H
  rw [hb] at F
  clear hb
  refine Ah (Ac ?_)
  iterate 2 refine ls F W Aa (Ag F Aa).q fun a w F W => ?_
  refine Ae (Ab (AF (AH ?_)))
  have H := AV H
  subst H
  refine EO (.inl Aa) F W Aa (Ay F Aa) (Ay F Aa) ?_
  exact ⟨rfl, W.done⟩
 have H := AR (by rw [hb]; decide) H
 rw [hb] at F
 clear hb
 refine Av (Ab (Ah ?_))
 refine BV W MO (by kernel_rfl) ?_
 refine qs F Aa (Aw (v := Value.agg #[.int .i64 p0.1, v1, v2]) 0 F Aa Aa JE Aa).q fun a F => ?_
 iterate 3 refine qs F Aa (Ad F Aa).q fun a F => ?_
 obtain ⟨x3, h6, H⟩ := Ak H
 obtain ⟨v6, h7, h8⟩ := DQ h1 h6
 have h9 : EN v6 = [(v6.1)] := congrArg (fun q : List Int => ([(v6.1)] : List Value)) h8
 refine qs F Aa (Ax (r := (Rp.vsl (Rp.int .i64))) Lm F Aa Aa (Am h_v3) h7).q fun a F => ?_
 refine qs F Aa (Ao (y := (v6.1)) (j := 0) (i := p2) (enc := EN) F Aa Aa (Am h_v3) h7 Im JO (by rw [h9]; rfl)).q fun a F => ?_
 refine qs F Aa (Ad F Aa).q fun a F => ?_
 obtain ⟨x4, h10, H⟩ := Ak H
 refine qs F Aa (Ax (r := (Rp.int .i64)) GD F Aa Aa (Du (Am h_v3) h7 EK.here (congrArg (fun q : List Int => q) h8)) h10).q fun a F => ?_
 refine qs F Aa (Ao (y := Value.int .i64 x4) (j := 0) (i := p3) F Aa Aa (Du (Am h_v3) h7 EK.here (congrArg (fun q : List Int => q) h8)) h10 Fl.int.to T3 Aa).q fun a F => ?_
 obtain ⟨x5, h11, H⟩ := Ak H
 refine qs F Aa (BX (v := Value.tuple #[.int .i64 x5.1, .int .i64 x5.2.1, .int .i64 x5.2.2.1, .bool x5.2.2.2]) F S6 Aa (fun w W => Lv any w (v1) (v2) p0 p2 x4 _ h11 (((Am h_v1) : D4 _ _ _ _ _ _) w W).nx (((Am h_v2) : D4 _ _ _ _ _ _) w W).nx)) fun a F => ?_
 refine qs F Aa (Ad F Aa).q fun a F => ?_
 refine qs F Aa (Bi (v := Value.int .i64 x5.1) F Aa Aa).q fun a F => ?_
 refine qs F Aa (Bi (v := Value.int .i64 x5.2.1) F Aa Aa).q fun a F => ?_
 refine qs F Aa (Bi (v := Value.int .i64 x5.2.2.1) F Aa Aa).q fun a F => ?_
 refine qs F Aa (Bi (v := Value.bool x5.2.2.2) F Aa Aa).q fun a F => ?_
 iterate 4 refine qs F Aa (Ag F Aa).q fun a F => ?_
 refine AY fun w W => ?_
 refine Ab (Ah (Ac ?_))
 iterate 2 refine ls F W Aa (Ad F Aa).q fun a w F W => ?_
 iterate 2 refine ls F W Aa (Ag F Aa).q fun a w F W => ?_
 refine Ae (Ab (AF ?_))
 have H := AV H
 subst H
 refine EO (.inl Aa) F W Aa (Ay F Aa) (Ay F Aa) ?_
 exact ⟨rfl, W.done⟩
end Go.Proofs.Ythiejmoddfenlaa
