/- The functions of layer 11, En. Conditions: none. -/
import Derived.Test.YtkjjioigbpkifaaeA1
namespace Go.Proofs.Ytkjjioigbpkifaa
open Go Go.RowKit
set_option linter.unusedVariables false
set_option linter.unusedSimpArgs false
set_option maxRecDepth 20000
noncomputable def A6 (p0 : List (Int × (Int × (Int × Int × Int × Int) × (Int × Int × Int × Int)) × (List (Int × Int × Int)))) (p1 : Int) (p2 : List (Int × (Int × (Int × Int × Int × Int) × (Int × Int × Int × Int)) × (List (Int × Int × Int)))) : Option (List (Int × (Int × (Int × Int × Int × Int) × (Int × Int × Int × Int)) × (List (Int × Int × Int)))) := (DJ p0 p1 (p0.length : Int)).bind fun x1 => (if (p2.length : Int) = 0 then some p0 else (if p1 = (p0.length : Int) then (M5 p0.length (p0.length + p2.length)).bind fun x2 => (J0 p0 p2).bind fun x3 => some x3 else (if ((p0.length : Nat) : Int) < (CA ((p0.length : Int) + (p2.length : Int))) then (DJ p0 0 p1).bind fun x4 => (mk (CA ((CA ((p0.length : Int) + (p2.length : Int))) - p1)) ((0, (0, (0, 0, 0, 0), (0, 0, 0, 0)), []) : Int × (Int × (Int × Int × Int × Int) × (Int × Int × Int × Int)) × (List (Int × Int × Int)))).bind fun x5 => (M5 p0.length (x4.length + (CA ((CA ((p0.length : Int) + (p2.length : Int))) - p1)).toNat)).bind fun x6 => (J0 x4 x5).bind fun x7 => (DJ x7 p1 (x7.length : Int)).bind fun x8 => (DJ (GM x7 p1 (min p2.length x8.length) p2) (CA (p1 + (p2.length : Int))) ((GM x7 p1 (min p2.length x8.length) p2).length : Int)).bind fun x9 => (DJ p0 p1 (p0.length : Int)).bind fun x10 => some (GM (GM x7 p1 (min p2.length x8.length) p2) (CA (p1 + (p2.length : Int))) (min x10.length x9.length) x10) else none)))
theorem D0 (Y : Nat → Prop) (w0 : World) (v1 : Value) (v2 : Value) (p0 : List (Int × (Int × (Int × Int × Int × Int) × (Int × Int × Int × Int)) × (List (Int × Int × Int)))) (p1 : Int) (p2 : List (Int × (Int × (Int × Int × Int × Int) × (Int × Int × Int × Int)) × (List (Int × Int × Int)))) (r : (List (Int × (Int × (Int × Int × Int × Int) × (Int × Int × Int × Int)) × (List (Int × Int × Int))))) (H : A6 p0 p1 p2 = some r) (s_v1 : Sl w0 Y Bc v1 p0) (c_v1 : HP v1 p0.length) (s_v2 : Sl w0 Y Bc v2 p2) :
    Calls Try.prog 63 #[v1, .int .i64 p1, v2] w0 fun e w' => ∃ x : Value, e = .returned (x) ∧ Stw ⟨Y, [], w0⟩ [] [BM (x) Bc r] w' := by
 refine enter Try.func63 Aa Try.ntmps63 Aa fun a F => ?_
 have W := Stw.start Y w0
 obtain ⟨v3, h1, s_v1⟩ := s_v1.ex Bl
 obtain ⟨v4, h2, s_v2⟩ := s_v2.ex Bl
 have h_v1 := W.nx s_v1
 have h_v2 := W.nx s_v2
 unfold A6 at H
 refine Ak (Ae ?_)
 refine ls F W Aa (Ag F Aa).q fun a w F W => ?_
 refine Af (Ad (Ak (Ae ?_)))
 iterate 2 refine ls F W Aa (Ah F Aa).q fun a w F W => ?_
 obtain ⟨x1, h3, H⟩ := Ap H
 obtain ⟨v5, h4, h5⟩ := Jq h1 h3
 refine ls F W Aa (ET (r := Bc) Fh F Aa Aa Aa (Be Bl h1 (Au h_v1)) h3).q fun a w F W => ?_
 refine Af (Ad (Ak (Ae ?_)))
 refine ls F W Aa (Ah F Aa).q fun a w F W => ?_
 refine ls F W Aa (B1 (r := Bc) (l := p2) DZ Aa F Aa (Be Bl h2 (Au h_v2))).q fun a w F W => ?_
 refine ls F W Aa (Ag F Aa).q fun a w F W => ?_
 refine Af (Ad (Ak (Ak (Ae ?_))))
 refine ls F W Aa (Ah F Aa).q fun a w F W => ?_
 refine ls F W Aa (BJ F Aa Aa).q fun a w F W => ?_
 refine Af (Ad ?_)
 refine AA F Aa (fun hb => ?_) fun hb => ?_
 ·
  have H := AK (Bi hb) H
  rw [hb] at F
  clear hb
  refine Ak (Ae ?_)
  refine ls F W Aa (Ah F Aa).q fun a w F W => ?_
  refine ls F W Aa (Ag F Aa).q fun a w F W => ?_
  refine Af (Ad (Ax (AD ?_)))
  have H := AL H
  subst H
  refine AF (.inl Aa) F W Aa (Av F Aa) ?_
  have W := W.note (Sl.hide Bl h1 (W.old s_v1))
  exact ⟨(v1), Aa, W⟩
 have H := AJ (Bh hb) H
 rw [hb] at F
 clear hb
 refine Ay (Ad (Ak (Ae ?_)))
 refine ls F W Aa (Ah F Aa).q fun a w F W => ?_
 refine ls F W Aa (B1 (r := Bc) (l := p0) DZ Aa F Aa (Be Bl h1 (Au h_v1))).q fun a w F W => ?_
 refine ls F W Aa (Ag F Aa).q fun a w F W => ?_
 refine Af (Ad (Ak (Ak (Ae ?_))))
 iterate 2 refine ls F W Aa (Ah F Aa).q fun a w F W => ?_
 refine ls F W Aa (BJ F Aa Aa).q fun a w F W => ?_
 refine Af (Ad ?_)
 refine AA F Aa (fun hb => ?_) fun hb => ?_
 ·
  have H := AK (Bi hb) H
  rw [hb] at F
  clear hb
  refine Ak (Ae ?_)
  iterate 2 refine ls F W Aa (Ah F Aa).q fun a w F W => ?_
  obtain ⟨x2, h6, H⟩ := Ap H
  obtain ⟨x3, h7, H⟩ := Ap H
  refine KY (r := Bc) F W Aa Fh Aa Aa (GV.hide Bl h1 (F2 W s_v1)) (Mo c_v1 (LG h6)) (GV.hide Bl h2 (F2 W s_v2)) h7 Aa fun v6 a w F W => ?_
  have W : Stw ⟨Y, [], w0⟩ [] [row v6 40 Bc x3] w := W
  refine ls F W Aa (Ag F Aa).q fun a w F W => ?_
  refine Af (Ad (Ax (AD ?_)))
  have H := AL H
  subst H
  refine AF (.inl Aa) F W Aa (Av F Aa) ?_
  have W := W.freeze
  exact ⟨(v6), Aa, W⟩
 have H := AJ (Bh hb) H
 rw [hb] at F
 clear hb
 refine Ay (Ad (Ak (Ak (Ae ?_))))
 iterate 2 refine ls F W Aa (Ah F Aa).q fun a w F W => ?_
 refine ls F W Aa (B7 F Aa Aa Aa).q fun a w F W => ?_
 refine ls F W Aa (Ah F Aa).q fun a w F W => ?_
 refine ls F W Aa (Od DZ Aa F Aa c_v1).q fun a w F W => ?_
 refine ls F W Aa (Gb F Aa Aa).q fun a w F W => ?_
 refine Af (Ad ?_)
 refine AA F Aa (fun hb => ?_) fun hb => ?_
 ·
  have H := AK (Bi hb) H
  rw [hb] at F
  clear hb
  refine Ak (Ae ?_)
  iterate 2 refine ls F W Aa (Ah F Aa).q fun a w F W => ?_
  obtain ⟨x4, h8, H⟩ := Ap H
  obtain ⟨v7, h9, h10⟩ := Jq h1 h8
  refine ls F W Aa (ET (r := Bc) Fh F Aa Aa Aa (Be Bl h1 (Au h_v1)) h8).q fun a w F W => ?_
  iterate 2 refine ls F W Aa (Ah F Aa).q fun a w F W => ?_
  refine ls F W Aa (B7 F Aa Aa Aa).q fun a w F W => ?_
  refine ls F W Aa (Ah F Aa).q fun a w F W => ?_
  refine ls F W Aa (M9 F Aa Aa Aa).q fun a w F W => ?_
  obtain ⟨x5, h11, H⟩ := Ap H
  obtain ⟨x6, h12, H⟩ := Ap H
  obtain ⟨x7, h13, H⟩ := Ap H
  refine Li (r := Bc) ((0, (0, (0, 0, 0, 0), (0, 0, 0, 0)), []) : Int × (Int × (Int × Int × Int × Int) × (Int × Int × Int × Int)) × (List (Int × Int × Int))) F W Aa Fh K0 M4 Aa Aa (GV.sub (GV.hide Bl h1 (F2 W s_v1)) h8) (Mj c_v1 (LG h12)) (fun w A => ⟨[Value.int .i64 0], [Value.int .i64 0, Value.int .i64 0, Value.int .i64 0, Value.int .i64 0, Value.int .i64 0, Value.int .i64 0, Value.int .i64 0, Value.int .i64 0, Value.int .i64 0, Value.slice none 0 0], Aa, Aa, ⟨[Value.int .i64 0, Value.int .i64 0, Value.int .i64 0, Value.int .i64 0, Value.int .i64 0, Value.int .i64 0, Value.int .i64 0, Value.int .i64 0, Value.int .i64 0], [Value.slice none 0 0], Aa, ⟨[Value.int .i64 0], [Value.int .i64 0, Value.int .i64 0, Value.int .i64 0, Value.int .i64 0, Value.int .i64 0, Value.int .i64 0, Value.int .i64 0, Value.int .i64 0], Aa, Aa, ⟨[Value.int .i64 0, Value.int .i64 0, Value.int .i64 0, Value.int .i64 0], [Value.int .i64 0, Value.int .i64 0, Value.int .i64 0, Value.int .i64 0], Aa, ⟨[Value.int .i64 0], [Value.int .i64 0, Value.int .i64 0, Value.int .i64 0], Aa, Aa, ⟨[Value.int .i64 0], [Value.int .i64 0, Value.int .i64 0], Aa, Aa, ⟨[Value.int .i64 0], [Value.int .i64 0], Aa, Aa, Aa⟩⟩⟩, ⟨[Value.int .i64 0], [Value.int .i64 0, Value.int .i64 0, Value.int .i64 0], Aa, Aa, ⟨[Value.int .i64 0], [Value.int .i64 0, Value.int .i64 0], Aa, Aa, ⟨[Value.int .i64 0], [Value.int .i64 0], Aa, Aa, Aa⟩⟩⟩⟩⟩, ⟨_, Aa, Sl.nil⟩⟩⟩) h11 h13 Aa fun v8 a w F W => ?_
  have W : Stw ⟨Y, [], w0⟩ [] [row v8 40 Bc x7] w := W
  refine ls F W Aa (Ag F Aa).q fun a w F W => ?_
  refine Af (Ad (Ak (Ae ?_)))
  iterate 2 refine ls F W Aa (Ah F Aa).q fun a w F W => ?_
  obtain ⟨x8, h14, H⟩ := Ap H
  refine ls F W Aa (ET (r := Bc) Fh F Aa Aa Aa (Bg 0 Aa) h14).q fun a w F W => ?_
  refine ls F W Aa (Ah F Aa).q fun a w F W => ?_
  refine KU (r := Bc) (v := v8) (k := 0) F W Aa Fh Aa Aa Aa Aa h14 (GV.hide Bl h2 (F2 W s_v2)) fun a w F W => ?_
  have W : Stw ⟨Y, [], w0⟩ [] [row v8 40 Bc (GM x7 p1 (min p2.length x8.length) p2)] w := W
  refine Af (Ad (Ak ?_))
  refine FN 8 W MO (by kernel_rfl) ?_
  iterate 3 refine qs F Aa (Ah F Aa).q fun a F => ?_
  refine qs F Aa (B7 F Aa Aa Aa).q fun a F => ?_
  obtain ⟨x9, h15, H⟩ := Ap H
  refine qs F Aa (ET (r := Bc) Fh F Aa Aa Aa (Bg 0 Aa) h15).q fun a F => ?_
  iterate 2 refine qs F Aa (Ah F Aa).q fun a F => ?_
  obtain ⟨x10, h16, H⟩ := Ap H
  obtain ⟨v9, h17, h18⟩ := Jq h1 h16
  refine qs F Aa (ET (r := Bc) Fh F Aa Aa Aa (Be Bl h1 (Au h_v1)) h16).q fun a F => ?_
  refine A9 fun w W => ?_
  refine KU (r := Bc) (v := v8) (k := 0) F W Aa Fh Aa Aa Aa Aa h15 (GV.sub (GV.hide Bl h1 (F2 W s_v1)) h16) fun a w F W => ?_
  have W : Stw ⟨Y, [], w0⟩ [] [row v8 40 Bc (GM (GM x7 p1 (min p2.length x8.length) p2) (CA (p1 + (p2.length : Int))) (min x10.length x9.length) x10)] w := W
  refine Af (Ad (Ak (Ae ?_)))
  refine ls F W Aa (Ah F Aa).q fun a w F W => ?_
  refine ls F W Aa (Ag F Aa).q fun a w F W => ?_
  refine Af (Ad (Ax (AD ?_)))
  have H := AL H
  subst H
  refine AF (.inl Aa) F W Aa (Av F Aa) ?_
  have W := W.freeze
  exact ⟨(v8), Aa, W⟩
 have H := AJ (Bh hb) H
 rw [hb] at F
 clear hb
 exact nomatch H
theorem Po : Has Try.prog 63 := ⟨fun args w => Am Try.func63 rfl (by decide) args w⟩
noncomputable def Eo (p0 : List (Int × (Int × (Int × Int × Int × Int) × (Int × Int × Int × Int)) × (List (Int × Int × Int)))) (p1 : Int × (Int × (Int × (Int × Int × Int × Int) × (Int × Int × Int × Int)) × (List (Int × Int × Int))) × Bool) (p2 : Int) : Option ((List (Int × (Int × (Int × Int × Int × Int) × (Int × Int × Int × Int)) × (List (Int × Int × Int)))) × Int) := (if p1.2.2 = true then (AN p0 (p1.1, p1.2.1, true)).bind fun x3 => some (x3, true) else some (false, false)).bind fun (x1, x2) => (if x1 = true then some (p0, 14) else (Az p0 ((Ab p1.2.1).1, ((Ab p1.2.1).2.1.1, ((Ab p1.2.1).2.1.2.1.1, (Ab p1.2.1).2.1.2.1.2.1, (Ab p1.2.1).2.1.2.1.2.2.1, (Ab p1.2.1).2.1.2.1.2.2.2), ((Ab p1.2.1).2.1.2.2.1, (Ab p1.2.1).2.1.2.2.2.1, (Ab p1.2.1).2.1.2.2.2.2.1, (Ab p1.2.1).2.1.2.2.2.2.2)), (Ab p1.2.1).2.2)).bind fun x4 => (if x4 = true then (B8 p0 p1.2.1 ((Ab p1.2.1).1, ((Ab p1.2.1).2.1.1, ((Ab p1.2.1).2.1.2.1.1, (Ab p1.2.1).2.1.2.1.2.1, (Ab p1.2.1).2.1.2.1.2.2.1, (Ab p1.2.1).2.1.2.1.2.2.2), ((Ab p1.2.1).2.1.2.2.1, (Ab p1.2.1).2.1.2.2.2.1, (Ab p1.2.1).2.1.2.2.2.2.1, (Ab p1.2.1).2.1.2.2.2.2.2)), (Ab p1.2.1).2.2)).bind fun x5 => some (x5, 0) else (if p2 ≤ (p0.length : Int) then some (p0, 6) else (AQ p0 (p1.1, p1.2.1, x2)).bind fun x6 => (if x6 < 0 then some (p0.length : Int) else some x6).bind fun x7 => (Bv p1.2.1).bind fun x8 => (A6 p0 x7 ([x8] : List (Int × (Int × (Int × Int × Int × Int) × (Int × Int × Int × Int)) × (List (Int × Int × Int))))).bind fun x9 => some (x9, 0))))
theorem JJ (Y : Nat → Prop) (X : List Nat) (w0 : World) (v1 : Value) (v2 : Value) (p0 : List (Int × (Int × (Int × Int × Int × Int) × (Int × Int × Int × Int)) × (List (Int × Int × Int)))) (p1 : Int × (Int × (Int × (Int × Int × Int × Int) × (Int × Int × Int × Int)) × (List (Int × Int × Int))) × Bool) (p2 : Int) (r : (List (Int × (Int × (Int × Int × Int × Int) × (Int × Int × Int × Int)) × (List (Int × Int × Int)))) × Int) (H : Eo p0 p1 p2 = some r) (c_v1 : HP v1 p0.length) (s_v2 : Sl w0 Y Bu v2 p1.2.1.2.2) (hL : Stw ⟨Y, X, w0⟩ [] [row v1 40 Bc p0] w0) :
    Calls Try.prog 41 #[v1, .agg #[.int .i64 p1.1, .int .i64 p1.2.1.1, .int .i64 p1.2.1.2.1.1, .int .i64 p1.2.1.2.1.2.1.1, .int .i64 p1.2.1.2.1.2.1.2.1, .int .i64 p1.2.1.2.1.2.1.2.2.1, .int .i64 p1.2.1.2.1.2.1.2.2.2, .int .i64 p1.2.1.2.1.2.2.1, .int .i64 p1.2.1.2.1.2.2.2.1, .int .i64 p1.2.1.2.1.2.2.2.2.1, .int .i64 p1.2.1.2.1.2.2.2.2.2, v2, .bool p1.2.2], .int .i64 p2] w0 fun e w' => ∃ x : Value, e = .returned (.tuple #[x, .int .i64 r.2]) ∧ Stw ⟨Y, X, w0⟩ [] [BM (x) Bc r.1] w' := by
 refine enter Try.func41 Aa Try.ntmps41 Aa fun a F => ?_
 have W := hL
 have h_v2 := W.nx s_v2
 unfold Eo at H
 refine Ak (Ae ?_)
 refine BS (cs := [.int .i64 p1.1, .int .i64 p1.2.1.1, .int .i64 p1.2.1.2.1.1, .int .i64 p1.2.1.2.1.2.1.1, .int .i64 p1.2.1.2.1.2.1.2.1, .int .i64 p1.2.1.2.1.2.1.2.2.1, .int .i64 p1.2.1.2.1.2.1.2.2.2, .int .i64 p1.2.1.2.1.2.2.1, .int .i64 p1.2.1.2.1.2.2.2.1, .int .i64 p1.2.1.2.1.2.2.2.2.1, .int .i64 p1.2.1.2.1.2.2.2.2.2, v2, .bool p1.2.2]) F W Aa Aa Aa fun b1 a w F W => ?_
 iterate 2 refine ls F W Aa (Ag F Aa).q fun a w F W => ?_
 refine Af (Ad (Ak ?_))
 obtain ⟨o1, G1, K1⟩ := Ap H
 refine AH (fun a w => ∃ x1 : Bool, ∃ x2 : Bool, some ((x1, x2)) = some o1 ∧ Fr 48 [] [(0, v1), (2, .int .i64 p2), (4, .pointer (some ⟨b1, 0, none⟩)), (6, .slice none 0 0), (7, .int .i64 0), (15, .bool x1)] a ∧ Stw ⟨Y, X, w0⟩ [(b1, [.int .i64 p1.1, .int .i64 p1.2.1.1, .int .i64 p1.2.1.2.1.1, .int .i64 p1.2.1.2.1.2.1.1, .int .i64 p1.2.1.2.1.2.1.2.1, .int .i64 p1.2.1.2.1.2.1.2.2.1, .int .i64 p1.2.1.2.1.2.1.2.2.2, .int .i64 p1.2.1.2.1.2.2.1, .int .i64 p1.2.1.2.1.2.2.2.1, .int .i64 p1.2.1.2.1.2.2.2.2.1, .int .i64 p1.2.1.2.1.2.2.2.2.2, v2, .bool x2])] [row v1 40 Bc p0] w) ?_ ?_
 ·
  have H := G1
  clear G1 K1
  refine Ae ?_
  refine ls F W Aa (Al Gf Aa Aa Aa T4 F Aa 12 Aa).q fun a w F W => ?_
  refine ls F W Aa (As (v := Value.bool p1.2.2) 0 F Aa Aa T4 Aa).q fun a w F W => ?_
  refine ls F W Aa (Ah F Aa).q fun a w F W => ?_
  rcases Bool.eq_false_or_eq_true p1.2.2 with hb | hb
  ·
   have H := AK hb H
   rw [hb] at F
   rw [hb] at W
   clear hb
   refine AG F W (Ai F Aa Aa Aa Aa) Aa (Ao Aa) (Ah F Aa).q fun a w F W => ?_
   refine AG F W (Ai F Aa Aa Aa Aa) Aa (Ao Aa) (Ff (us := []) (vs := [.pointer (some ⟨b1, 0, none⟩)]) F Aa Aa).q fun a w F W => ?_
   refine FD (Ai F Aa Aa Aa Aa) ?_
   obtain ⟨x3, h1, H⟩ := Ap H
   refine ls F W Aa (AY (v := Value.bool x3) F Ol Aa (fun w W => Dl any w (v1) b1 (v2) p0 (p1.1, p1.2.1, true) _ h1 (((Bg 0 Aa) : CV _ _ _ _ _ _) w W).nx (((Au h_v2) : CV _ _ _ _ _ _) w W).nx (Ki W 0 Aa))) fun a w F W => ?_
   refine ls F W Aa (Aw F Aa Aa Aa).q fun a w F W => ?_
   refine Af (Ad ?_)
   exact ⟨_, _, H, F.re ⟨rfl, Aa, Aa, Aa, Aa, Aa, trivial⟩, W⟩
  have H := AJ (by rw [hb]; decide) H
  rw [hb] at F
  rw [hb] at W
  clear hb
  iterate 3 refine Cs F Aa Aa Aa Aa Aa Aa Aa fun a F => ?_
  refine ls F W Aa (Aq F Aa Aa Aa).q fun a w F W => ?_
  refine Af (Ad ?_)
  exact ⟨_, _, H, F.re ⟨rfl, Aa, Aa, Aa, Aa, Aa, trivial⟩, W⟩
 rintro a w ⟨x1, x2, hj, F, W⟩
 have hj := AL hj
 subst hj
 have H := K1
 clear G1 K1
 refine AA F Aa (fun hb => ?_) fun hb => ?_
 ·
  have H := AK hb H
  rw [hb] at F
  clear hb
  refine Ak (Ae ?_)
  refine ls F W Aa (Ah F Aa).q fun a w F W => ?_
  iterate 2 refine ls F W Aa (Ag F Aa).q fun a w F W => ?_
  refine Af (Ad (Ax (AD ?_)))
  have H := AL H
  subst H
  refine ER (.inl Aa) F W Aa (Av F Aa) (Av F Aa) ?_
  have W := W.freeze
  have W := W.sub (M' := []) (Z' := [BM v1 Bc p0]) (List.nil_sublist _) (List.Sublist.refl _)
  exact ⟨(v1), Aa, W⟩
 have H := AJ (by rw [hb]; decide) H
 rw [hb] at F
 clear hb
 refine Ay (Ad (Ak (Ak (Ae ?_))))
 refine ls F W Aa (Ah F Aa).q fun a w F W => ?_
 refine ls F W Aa (Al Gf Aa Aa Aa C6 F Aa 1 Aa).q fun a w F W => ?_
 refine ls F W Aa (As (v := Value.agg #[.int .i64 p1.2.1.1, .int .i64 p1.2.1.2.1.1, .int .i64 p1.2.1.2.1.2.1.1, .int .i64 p1.2.1.2.1.2.1.2.1, .int .i64 p1.2.1.2.1.2.1.2.2.1, .int .i64 p1.2.1.2.1.2.1.2.2.2, .int .i64 p1.2.1.2.1.2.2.1, .int .i64 p1.2.1.2.1.2.2.2.1, .int .i64 p1.2.1.2.1.2.2.2.2.1, .int .i64 p1.2.1.2.1.2.2.2.2.2, v2]) 0 F Aa Aa C6 Aa).q fun a w F W => ?_
 refine Bp (Ml := []) (Zl := []) (M := [(b1, [.int .i64 p1.1, .int .i64 p1.2.1.1, .int .i64 p1.2.1.2.1.1, .int .i64 p1.2.1.2.1.2.1.1, .int .i64 p1.2.1.2.1.2.1.2.1, .int .i64 p1.2.1.2.1.2.1.2.2.1, .int .i64 p1.2.1.2.1.2.1.2.2.2, .int .i64 p1.2.1.2.1.2.2.1, .int .i64 p1.2.1.2.1.2.2.2.1, .int .i64 p1.2.1.2.1.2.2.2.2.1, .int .i64 p1.2.1.2.1.2.2.2.2.2, v2, .bool x2])]) (Z := [row v1 40 Bc p0]) (β := Nat × Value) (rv := fun x => .func (.func 66) #[] #[.pointer (some ⟨x.1, 0, none⟩)]) (MM := fun x => [(x.1, [.int .i64 ((Ab p1.2.1).1), .int .i64 ((Ab p1.2.1).2.1.1), .int .i64 ((Ab p1.2.1).2.1.2.1.1), .int .i64 ((Ab p1.2.1).2.1.2.1.2.1), .int .i64 ((Ab p1.2.1).2.1.2.1.2.2.1), .int .i64 ((Ab p1.2.1).2.1.2.1.2.2.2), .int .i64 ((Ab p1.2.1).2.1.2.2.1), .int .i64 ((Ab p1.2.1).2.1.2.2.2.1), .int .i64 ((Ab p1.2.1).2.1.2.2.2.2.1), .int .i64 ((Ab p1.2.1).2.1.2.2.2.2.2), x.2])]) (ZZ := fun x => [BM x.2 Bu ((Ab p1.2.1).2.2)]) F W NO Aa Aa (fun hL => Db _ w (v2) p1.2.1 _ Aa (W.old s_v2)) fun x a w F W => ?_
 obtain ⟨b2, v3⟩ := x
 have W : Stw ⟨Y, X, w0⟩ [(b2, [.int .i64 ((Ab p1.2.1).1), .int .i64 ((Ab p1.2.1).2.1.1), .int .i64 ((Ab p1.2.1).2.1.2.1.1), .int .i64 ((Ab p1.2.1).2.1.2.1.2.1), .int .i64 ((Ab p1.2.1).2.1.2.1.2.2.1), .int .i64 ((Ab p1.2.1).2.1.2.1.2.2.2), .int .i64 ((Ab p1.2.1).2.1.2.2.1), .int .i64 ((Ab p1.2.1).2.1.2.2.2.1), .int .i64 ((Ab p1.2.1).2.1.2.2.2.2.1), .int .i64 ((Ab p1.2.1).2.1.2.2.2.2.2), v3]), (b1, [.int .i64 p1.1, .int .i64 p1.2.1.1, .int .i64 p1.2.1.2.1.1, .int .i64 p1.2.1.2.1.2.1.1, .int .i64 p1.2.1.2.1.2.1.2.1, .int .i64 p1.2.1.2.1.2.1.2.2.1, .int .i64 p1.2.1.2.1.2.1.2.2.2, .int .i64 p1.2.1.2.1.2.2.1, .int .i64 p1.2.1.2.1.2.2.2.1, .int .i64 p1.2.1.2.1.2.2.2.2.1, .int .i64 p1.2.1.2.1.2.2.2.2.2, v2, .bool x2])] [BM v3 Bu ((Ab p1.2.1).2.2), row v1 40 Bc p0] w := W
 obtain ⟨x4, h2, H⟩ := Ap H
 refine ls F W Aa (AY (v := Value.bool x4) F Ol Aa (fun w W => BE any w (v1) b2 (v3) p0 ((Ab p1.2.1).1, ((Ab p1.2.1).2.1.1, ((Ab p1.2.1).2.1.2.1.1, (Ab p1.2.1).2.1.2.1.2.1, (Ab p1.2.1).2.1.2.1.2.2.1, (Ab p1.2.1).2.1.2.1.2.2.2), ((Ab p1.2.1).2.1.2.2.1, (Ab p1.2.1).2.1.2.2.2.1, (Ab p1.2.1).2.1.2.2.2.2.1, (Ab p1.2.1).2.1.2.2.2.2.2)), (Ab p1.2.1).2.2) _ h2 (((Bg 1 Aa) : CV _ _ _ _ _ _) w W).nx (((CH 0 Aa) : CV _ _ _ _ _ _) w W).nx (Ki W 0 Aa))) fun a w F W => ?_
 refine Af (Ad ?_)
 refine AA F Aa (fun hb => ?_) fun hb => ?_
 ·
  have H := AK hb H
  rw [hb] at F
  clear hb
  refine Ak ?_
  refine E8 [(true, 0), (true, 1), (true, 2), (true, 3), (true, 4), (false, 5), (false, 6), (false, 7), (false, 8)] (CN ⟨Y, X, w0⟩ [(some 6, b1, [.int .i64 p1.1, .int .i64 p1.2.1.1, .int .i64 p1.2.1.2.1.1, .int .i64 p1.2.1.2.1.2.1.1, .int .i64 p1.2.1.2.1.2.1.2.1, .int .i64 p1.2.1.2.1.2.1.2.2.1, .int .i64 p1.2.1.2.1.2.1.2.2.2, .int .i64 p1.2.1.2.1.2.2.1, .int .i64 p1.2.1.2.1.2.2.2.1, .int .i64 p1.2.1.2.1.2.2.2.2.1, .int .i64 p1.2.1.2.1.2.2.2.2.2, v2, .bool x2]), (some 5, b1, [.int .i64 p1.1, .int .i64 p1.2.1.1, .int .i64 p1.2.1.2.1.1, .int .i64 p1.2.1.2.1.2.1.1, .int .i64 p1.2.1.2.1.2.1.2.1, .int .i64 p1.2.1.2.1.2.1.2.2.1, .int .i64 p1.2.1.2.1.2.1.2.2.2, .int .i64 p1.2.1.2.1.2.2.1, .int .i64 p1.2.1.2.1.2.2.2.1, .int .i64 p1.2.1.2.1.2.2.2.2.1, .int .i64 p1.2.1.2.1.2.2.2.2.2, v2, .bool x2])] []) (fun ch a d v w h => by cases d <;> exact h) MO (by kernel_rfl) W (fun w W => ⟨_, _, W, (all_cons (fun _ => (.tail _ (.head _))) (all_cons (fun _ => (.tail _ (.head _))) AB)), AB⟩) fun w W => ?_
  refine CK (R := []) F Aa Aa (yC fun M Z hN hZ => Ah F Aa) Aa Aa fun a F => ?_
  refine CK (R := []) F Aa Aa (yC fun M Z hN hZ => Al Gf Aa Aa Aa C6 F Aa 1 Aa) Aa Aa fun a F => ?_
  refine CK (R := [6]) F Aa Aa (yC fun M Z hN hZ => C8 (cs := [.int .i64 p1.1, .int .i64 p1.2.1.1, .int .i64 p1.2.1.2.1.1, .int .i64 p1.2.1.2.1.2.1.1, .int .i64 p1.2.1.2.1.2.1.2.1, .int .i64 p1.2.1.2.1.2.1.2.2.1, .int .i64 p1.2.1.2.1.2.1.2.2.2, .int .i64 p1.2.1.2.1.2.2.1, .int .i64 p1.2.1.2.1.2.2.2.1, .int .i64 p1.2.1.2.1.2.2.2.2.1, .int .i64 p1.2.1.2.1.2.2.2.2.2, v2, .bool x2]) (v := Value.agg #[.int .i64 p1.2.1.1, .int .i64 p1.2.1.2.1.1, .int .i64 p1.2.1.2.1.2.1.1, .int .i64 p1.2.1.2.1.2.1.2.1, .int .i64 p1.2.1.2.1.2.1.2.2.1, .int .i64 p1.2.1.2.1.2.1.2.2.2, .int .i64 p1.2.1.2.1.2.2.1, .int .i64 p1.2.1.2.1.2.2.2.1, .int .i64 p1.2.1.2.1.2.2.2.2.1, .int .i64 p1.2.1.2.1.2.2.2.2.2, v2]) F Aa (hN ((some 6), b1, [.int .i64 p1.1, .int .i64 p1.2.1.1, .int .i64 p1.2.1.2.1.1, .int .i64 p1.2.1.2.1.2.1.1, .int .i64 p1.2.1.2.1.2.1.2.1, .int .i64 p1.2.1.2.1.2.1.2.2.1, .int .i64 p1.2.1.2.1.2.1.2.2.2, .int .i64 p1.2.1.2.1.2.2.1, .int .i64 p1.2.1.2.1.2.2.2.1, .int .i64 p1.2.1.2.1.2.2.2.2.1, .int .i64 p1.2.1.2.1.2.2.2.2.2, v2, .bool x2]) (.head _) Aa) C6 Aa) (by kernel_rfl) Aa fun a F => ?_
  refine CK (R := []) F Aa Aa (yC fun M Z hN hZ => Al Gf Aa Aa Aa C6 F Aa 1 Aa) Aa Aa fun a F => ?_
  refine CK (R := [5]) F Aa Aa (yC fun M Z hN hZ => C8 (cs := [.int .i64 p1.1, .int .i64 p1.2.1.1, .int .i64 p1.2.1.2.1.1, .int .i64 p1.2.1.2.1.2.1.1, .int .i64 p1.2.1.2.1.2.1.2.1, .int .i64 p1.2.1.2.1.2.1.2.2.1, .int .i64 p1.2.1.2.1.2.1.2.2.2, .int .i64 p1.2.1.2.1.2.2.1, .int .i64 p1.2.1.2.1.2.2.2.1, .int .i64 p1.2.1.2.1.2.2.2.2.1, .int .i64 p1.2.1.2.1.2.2.2.2.2, v2, .bool x2]) (v := Value.agg #[.int .i64 p1.2.1.1, .int .i64 p1.2.1.2.1.1, .int .i64 p1.2.1.2.1.2.1.1, .int .i64 p1.2.1.2.1.2.1.2.1, .int .i64 p1.2.1.2.1.2.1.2.2.1, .int .i64 p1.2.1.2.1.2.1.2.2.2, .int .i64 p1.2.1.2.1.2.2.1, .int .i64 p1.2.1.2.1.2.2.2.1, .int .i64 p1.2.1.2.1.2.2.2.2.1, .int .i64 p1.2.1.2.1.2.2.2.2.2, v2]) F Aa (hN ((some 5), b1, [.int .i64 p1.1, .int .i64 p1.2.1.1, .int .i64 p1.2.1.2.1.1, .int .i64 p1.2.1.2.1.2.1.1, .int .i64 p1.2.1.2.1.2.1.2.1, .int .i64 p1.2.1.2.1.2.1.2.2.1, .int .i64 p1.2.1.2.1.2.1.2.2.2, .int .i64 p1.2.1.2.1.2.2.1, .int .i64 p1.2.1.2.1.2.2.2.1, .int .i64 p1.2.1.2.1.2.2.2.2.1, .int .i64 p1.2.1.2.1.2.2.2.2.2, v2, .bool x2]) (.tail _ (.head _)) Aa) C6 Aa) (by kernel_rfl) Aa fun a F => ?_
  refine DE Aa ?_
  refine Bp (Ml := []) (Zl := []) (M := [(b2, [.int .i64 ((Ab p1.2.1).1), .int .i64 ((Ab p1.2.1).2.1.1), .int .i64 ((Ab p1.2.1).2.1.2.1.1), .int .i64 ((Ab p1.2.1).2.1.2.1.2.1), .int .i64 ((Ab p1.2.1).2.1.2.1.2.2.1), .int .i64 ((Ab p1.2.1).2.1.2.1.2.2.2), .int .i64 ((Ab p1.2.1).2.1.2.2.1), .int .i64 ((Ab p1.2.1).2.1.2.2.2.1), .int .i64 ((Ab p1.2.1).2.1.2.2.2.2.1), .int .i64 ((Ab p1.2.1).2.1.2.2.2.2.2), v3]), (b1, [.int .i64 p1.1, .int .i64 p1.2.1.1, .int .i64 p1.2.1.2.1.1, .int .i64 p1.2.1.2.1.2.1.1, .int .i64 p1.2.1.2.1.2.1.2.1, .int .i64 p1.2.1.2.1.2.1.2.2.1, .int .i64 p1.2.1.2.1.2.1.2.2.2, .int .i64 p1.2.1.2.1.2.2.1, .int .i64 p1.2.1.2.1.2.2.2.1, .int .i64 p1.2.1.2.1.2.2.2.2.1, .int .i64 p1.2.1.2.1.2.2.2.2.2, v2, .bool x2])]) (Z := [BM v3 Bu ((Ab p1.2.1).2.2), row v1 40 Bc p0]) (β := Nat × Value) (rv := fun x => .func (.func 66) #[] #[.pointer (some ⟨x.1, 0, none⟩)]) (MM := fun x => [(x.1, [.int .i64 ((Ab p1.2.1).1), .int .i64 ((Ab p1.2.1).2.1.1), .int .i64 ((Ab p1.2.1).2.1.2.1.1), .int .i64 ((Ab p1.2.1).2.1.2.1.2.1), .int .i64 ((Ab p1.2.1).2.1.2.1.2.2.1), .int .i64 ((Ab p1.2.1).2.1.2.1.2.2.2), .int .i64 ((Ab p1.2.1).2.1.2.2.1), .int .i64 ((Ab p1.2.1).2.1.2.2.2.1), .int .i64 ((Ab p1.2.1).2.1.2.2.2.2.1), .int .i64 ((Ab p1.2.1).2.1.2.2.2.2.2), x.2])]) (ZZ := fun x => [BM x.2 Bu ((Ab p1.2.1).2.2)]) F W NO Aa Aa (fun hL => Db _ w (v2) p1.2.1 _ Aa (W.old s_v2)) fun x a w F W => ?_
  obtain ⟨b3, v4⟩ := x
  have W : Stw ⟨Y, X, w0⟩ [(b3, [.int .i64 ((Ab p1.2.1).1), .int .i64 ((Ab p1.2.1).2.1.1), .int .i64 ((Ab p1.2.1).2.1.2.1.1), .int .i64 ((Ab p1.2.1).2.1.2.1.2.1), .int .i64 ((Ab p1.2.1).2.1.2.1.2.2.1), .int .i64 ((Ab p1.2.1).2.1.2.1.2.2.2), .int .i64 ((Ab p1.2.1).2.1.2.2.1), .int .i64 ((Ab p1.2.1).2.1.2.2.2.1), .int .i64 ((Ab p1.2.1).2.1.2.2.2.2.1), .int .i64 ((Ab p1.2.1).2.1.2.2.2.2.2), v4]), (b2, [.int .i64 ((Ab p1.2.1).1), .int .i64 ((Ab p1.2.1).2.1.1), .int .i64 ((Ab p1.2.1).2.1.2.1.1), .int .i64 ((Ab p1.2.1).2.1.2.1.2.1), .int .i64 ((Ab p1.2.1).2.1.2.1.2.2.1), .int .i64 ((Ab p1.2.1).2.1.2.1.2.2.2), .int .i64 ((Ab p1.2.1).2.1.2.2.1), .int .i64 ((Ab p1.2.1).2.1.2.2.2.1), .int .i64 ((Ab p1.2.1).2.1.2.2.2.2.1), .int .i64 ((Ab p1.2.1).2.1.2.2.2.2.2), v3]), (b1, [.int .i64 p1.1, .int .i64 p1.2.1.1, .int .i64 p1.2.1.2.1.1, .int .i64 p1.2.1.2.1.2.1.1, .int .i64 p1.2.1.2.1.2.1.2.1, .int .i64 p1.2.1.2.1.2.1.2.2.1, .int .i64 p1.2.1.2.1.2.1.2.2.2, .int .i64 p1.2.1.2.1.2.2.1, .int .i64 p1.2.1.2.1.2.2.2.1, .int .i64 p1.2.1.2.1.2.2.2.2.1, .int .i64 p1.2.1.2.1.2.2.2.2.2, v2, .bool x2])] [BM v4 Bu ((Ab p1.2.1).2.2), BM v3 Bu ((Ab p1.2.1).2.2), row v1 40 Bc p0] w := W
  refine Bq (N2 := []) (NZ2 := []) (N3 := [(some 6, b1, [.int .i64 p1.1, .int .i64 p1.2.1.1, .int .i64 p1.2.1.2.1.1, .int .i64 p1.2.1.2.1.2.1.1, .int .i64 p1.2.1.2.1.2.1.2.1, .int .i64 p1.2.1.2.1.2.1.2.2.1, .int .i64 p1.2.1.2.1.2.1.2.2.2, .int .i64 p1.2.1.2.1.2.2.1, .int .i64 p1.2.1.2.1.2.2.2.1, .int .i64 p1.2.1.2.1.2.2.2.2.1, .int .i64 p1.2.1.2.1.2.2.2.2.2, v2, .bool x2]), (some 5, b1, [.int .i64 p1.1, .int .i64 p1.2.1.1, .int .i64 p1.2.1.2.1.1, .int .i64 p1.2.1.2.1.2.1.1, .int .i64 p1.2.1.2.1.2.1.2.1, .int .i64 p1.2.1.2.1.2.1.2.2.1, .int .i64 p1.2.1.2.1.2.1.2.2.2, .int .i64 p1.2.1.2.1.2.2.1, .int .i64 p1.2.1.2.1.2.2.2.1, .int .i64 p1.2.1.2.1.2.2.2.2.1, .int .i64 p1.2.1.2.1.2.2.2.2.2, v2, .bool x2])]) (NZ3 := []) W Aa Aa (all_cons (fun _ => (.tail _ (.tail _ (.head _)))) (all_cons (fun h => AE (by kernel_rfl) h) AB)) AB ?_
  refine DE Aa ?_
  obtain ⟨x5, h3, H⟩ := Ap H
  have W := W.frontZ (i := 2) Aa Aa
  refine Bp (Ml := []) (Zl := [row v1 40 Bc p0]) (M := [(b3, [.int .i64 ((Ab p1.2.1).1), .int .i64 ((Ab p1.2.1).2.1.1), .int .i64 ((Ab p1.2.1).2.1.2.1.1), .int .i64 ((Ab p1.2.1).2.1.2.1.2.1), .int .i64 ((Ab p1.2.1).2.1.2.1.2.2.1), .int .i64 ((Ab p1.2.1).2.1.2.1.2.2.2), .int .i64 ((Ab p1.2.1).2.1.2.2.1), .int .i64 ((Ab p1.2.1).2.1.2.2.2.1), .int .i64 ((Ab p1.2.1).2.1.2.2.2.2.1), .int .i64 ((Ab p1.2.1).2.1.2.2.2.2.2), v4]), (b2, [.int .i64 ((Ab p1.2.1).1), .int .i64 ((Ab p1.2.1).2.1.1), .int .i64 ((Ab p1.2.1).2.1.2.1.1), .int .i64 ((Ab p1.2.1).2.1.2.1.2.1), .int .i64 ((Ab p1.2.1).2.1.2.1.2.2.1), .int .i64 ((Ab p1.2.1).2.1.2.1.2.2.2), .int .i64 ((Ab p1.2.1).2.1.2.2.1), .int .i64 ((Ab p1.2.1).2.1.2.2.2.1), .int .i64 ((Ab p1.2.1).2.1.2.2.2.2.1), .int .i64 ((Ab p1.2.1).2.1.2.2.2.2.2), v3]), (b1, [.int .i64 p1.1, .int .i64 p1.2.1.1, .int .i64 p1.2.1.2.1.1, .int .i64 p1.2.1.2.1.2.1.1, .int .i64 p1.2.1.2.1.2.1.2.1, .int .i64 p1.2.1.2.1.2.1.2.2.1, .int .i64 p1.2.1.2.1.2.1.2.2.2, .int .i64 p1.2.1.2.1.2.2.1, .int .i64 p1.2.1.2.1.2.2.2.1, .int .i64 p1.2.1.2.1.2.2.2.2.1, .int .i64 p1.2.1.2.1.2.2.2.2.2, v2, .bool x2])]) (Z := [BM v4 Bu ((Ab p1.2.1).2.2), BM v3 Bu ((Ab p1.2.1).2.2)]) (β := Value) (rv := fun x => x) (MM := fun x => []) (ZZ := fun x => [row x 40 Bc x5]) F W OC Aa Aa (fun hL => Ga _ _ w (v1) (v2) b3 (v4) p0 p1.2.1 ((Ab p1.2.1).1, ((Ab p1.2.1).2.1.1, ((Ab p1.2.1).2.1.2.1.1, (Ab p1.2.1).2.1.2.1.2.1, (Ab p1.2.1).2.1.2.1.2.2.1, (Ab p1.2.1).2.1.2.1.2.2.2), ((Ab p1.2.1).2.1.2.2.1, (Ab p1.2.1).2.1.2.2.2.1, (Ab p1.2.1).2.1.2.2.2.2.1, (Ab p1.2.1).2.1.2.2.2.2.2)), (Ab p1.2.1).2.2) _ h3 (W.old s_v2) (Sl.nxF (W.item (i := 1) Aa) (fun g hg => Ha hg)) (JD (Ml := []) (Zl := [row v1 40 Bc p0]) W 0 Aa) hL) fun x a w F W => ?_
  obtain ⟨v5, rfl⟩ : ∃ y, y = x := ⟨x, rfl⟩
  have W : Stw ⟨Y, X, w0⟩ [(b3, [.int .i64 ((Ab p1.2.1).1), .int .i64 ((Ab p1.2.1).2.1.1), .int .i64 ((Ab p1.2.1).2.1.2.1.1), .int .i64 ((Ab p1.2.1).2.1.2.1.2.1), .int .i64 ((Ab p1.2.1).2.1.2.1.2.2.1), .int .i64 ((Ab p1.2.1).2.1.2.1.2.2.2), .int .i64 ((Ab p1.2.1).2.1.2.2.1), .int .i64 ((Ab p1.2.1).2.1.2.2.2.1), .int .i64 ((Ab p1.2.1).2.1.2.2.2.2.1), .int .i64 ((Ab p1.2.1).2.1.2.2.2.2.2), v4]), (b2, [.int .i64 ((Ab p1.2.1).1), .int .i64 ((Ab p1.2.1).2.1.1), .int .i64 ((Ab p1.2.1).2.1.2.1.1), .int .i64 ((Ab p1.2.1).2.1.2.1.2.1), .int .i64 ((Ab p1.2.1).2.1.2.1.2.2.1), .int .i64 ((Ab p1.2.1).2.1.2.1.2.2.2), .int .i64 ((Ab p1.2.1).2.1.2.2.1), .int .i64 ((Ab p1.2.1).2.1.2.2.2.1), .int .i64 ((Ab p1.2.1).2.1.2.2.2.2.1), .int .i64 ((Ab p1.2.1).2.1.2.2.2.2.2), v3]), (b1, [.int .i64 p1.1, .int .i64 p1.2.1.1, .int .i64 p1.2.1.2.1.1, .int .i64 p1.2.1.2.1.2.1.1, .int .i64 p1.2.1.2.1.2.1.2.1, .int .i64 p1.2.1.2.1.2.1.2.2.1, .int .i64 p1.2.1.2.1.2.1.2.2.2, .int .i64 p1.2.1.2.1.2.2.1, .int .i64 p1.2.1.2.1.2.2.2.1, .int .i64 p1.2.1.2.1.2.2.2.2.1, .int .i64 p1.2.1.2.1.2.2.2.2.2, v2, .bool x2])] [row v5 40 Bc x5, BM v4 Bu ((Ab p1.2.1).2.2), BM v3 Bu ((Ab p1.2.1).2.2)] w := W
  refine Bq (N2 := []) (NZ2 := []) (N3 := [(some 6, b1, [.int .i64 p1.1, .int .i64 p1.2.1.1, .int .i64 p1.2.1.2.1.1, .int .i64 p1.2.1.2.1.2.1.1, .int .i64 p1.2.1.2.1.2.1.2.1, .int .i64 p1.2.1.2.1.2.1.2.2.1, .int .i64 p1.2.1.2.1.2.1.2.2.2, .int .i64 p1.2.1.2.1.2.2.1, .int .i64 p1.2.1.2.1.2.2.2.1, .int .i64 p1.2.1.2.1.2.2.2.2.1, .int .i64 p1.2.1.2.1.2.2.2.2.2, v2, .bool x2]), (some 5, b1, [.int .i64 p1.1, .int .i64 p1.2.1.1, .int .i64 p1.2.1.2.1.1, .int .i64 p1.2.1.2.1.2.1.1, .int .i64 p1.2.1.2.1.2.1.2.1, .int .i64 p1.2.1.2.1.2.1.2.2.1, .int .i64 p1.2.1.2.1.2.1.2.2.2, .int .i64 p1.2.1.2.1.2.2.1, .int .i64 p1.2.1.2.1.2.2.2.1, .int .i64 p1.2.1.2.1.2.2.2.2.1, .int .i64 p1.2.1.2.1.2.2.2.2.2, v2, .bool x2])]) (NZ3 := []) W Aa Aa (all_cons (fun h => AE (by kernel_rfl) h) (all_cons (fun h => AE (by kernel_rfl) h) AB)) AB ?_
  refine DE Aa ?_
  refine ls F W Aa (Ag F Aa).q fun a w F W => ?_
  refine Bq (N2 := []) (NZ2 := []) (N3 := [(some 6, b1, [.int .i64 p1.1, .int .i64 p1.2.1.1, .int .i64 p1.2.1.2.1.1, .int .i64 p1.2.1.2.1.2.1.1, .int .i64 p1.2.1.2.1.2.1.2.1, .int .i64 p1.2.1.2.1.2.1.2.2.1, .int .i64 p1.2.1.2.1.2.1.2.2.2, .int .i64 p1.2.1.2.1.2.2.1, .int .i64 p1.2.1.2.1.2.2.2.1, .int .i64 p1.2.1.2.1.2.2.2.2.1, .int .i64 p1.2.1.2.1.2.2.2.2.2, v2, .bool x2]), (some 5, b1, [.int .i64 p1.1, .int .i64 p1.2.1.1, .int .i64 p1.2.1.2.1.1, .int .i64 p1.2.1.2.1.2.1.1, .int .i64 p1.2.1.2.1.2.1.2.1, .int .i64 p1.2.1.2.1.2.1.2.2.1, .int .i64 p1.2.1.2.1.2.1.2.2.2, .int .i64 p1.2.1.2.1.2.2.1, .int .i64 p1.2.1.2.1.2.2.2.1, .int .i64 p1.2.1.2.1.2.2.2.2.1, .int .i64 p1.2.1.2.1.2.2.2.2.2, v2, .bool x2])]) (NZ3 := []) W Aa Aa (all_cons (fun h => AE (by kernel_rfl) h) (all_cons (fun h => AE (by kernel_rfl) h) AB)) AB ?_
  refine DE Aa ?_
  refine ls F W Aa (Ag F Aa).q fun a w F W => ?_
  refine Bq (N2 := []) (NZ2 := []) (N3 := [(some 6, b1, [.int .i64 p1.1, .int .i64 p1.2.1.1, .int .i64 p1.2.1.2.1.1, .int .i64 p1.2.1.2.1.2.1.1, .int .i64 p1.2.1.2.1.2.1.2.1, .int .i64 p1.2.1.2.1.2.1.2.2.1, .int .i64 p1.2.1.2.1.2.1.2.2.2, .int .i64 p1.2.1.2.1.2.2.1, .int .i64 p1.2.1.2.1.2.2.2.1, .int .i64 p1.2.1.2.1.2.2.2.2.1, .int .i64 p1.2.1.2.1.2.2.2.2.2, v2, .bool x2]), (some 5, b1, [.int .i64 p1.1, .int .i64 p1.2.1.1, .int .i64 p1.2.1.2.1.1, .int .i64 p1.2.1.2.1.2.1.1, .int .i64 p1.2.1.2.1.2.1.2.1, .int .i64 p1.2.1.2.1.2.1.2.2.1, .int .i64 p1.2.1.2.1.2.1.2.2.2, .int .i64 p1.2.1.2.1.2.2.1, .int .i64 p1.2.1.2.1.2.2.2.1, .int .i64 p1.2.1.2.1.2.2.2.2.1, .int .i64 p1.2.1.2.1.2.2.2.2.2, v2, .bool x2])]) (NZ3 := []) W Aa Aa (all_cons (fun h => AE (by kernel_rfl) h) (all_cons (fun h => AE (by kernel_rfl) h) AB)) AB ?_
  refine F7 (Ad (Ax (AD ?_)))
  have H := AL H
  subst H
  refine ER (.inl Aa) F W Aa (Av F Aa) (Av F Aa) ?_
  have W := W.freeze
  have W := W.sub (M' := []) (Z' := [BM v5 Bc x5]) (List.nil_sublist _) (List.Sublist.cons_cons _ (List.nil_sublist _))
  exact ⟨(v5), Aa, W⟩
 have H := AJ (by rw [hb]; decide) H
 rw [hb] at F
 clear hb
 refine Ay (Ad (Ak (Ak (Ae ?_))))
 refine ls F W Aa (Ah F Aa).q fun a w F W => ?_
 refine ls F W Aa (B1 (r := Bc) (l := p0) DZ Aa F Aa (Bg 1 Aa)).q fun a w F W => ?_
 refine ls F W Aa (Ah F Aa).q fun a w F W => ?_
 refine ls F W Aa (D7 F Aa Aa).q fun a w F W => ?_
 refine Af (Ad ?_)
 refine AA F Aa (fun hb => ?_) fun hb => ?_
 ·
  have H := AK (Bi hb) H
  rw [hb] at F
  clear hb
  refine Ak (Ae ?_)
  refine ls F W Aa (Ah F Aa).q fun a w F W => ?_
  iterate 2 refine ls F W Aa (Ag F Aa).q fun a w F W => ?_
  refine Af (Ad (Ax (AD ?_)))
  have H := AL H
  subst H
  refine ER (.inl Aa) F W Aa (Av F Aa) (Av F Aa) ?_
  have W := W.frontZ (i := 1) Aa Aa
  have W := W.freeze
  have W := W.sub (M' := []) (Z' := [BM v1 Bc p0]) (List.nil_sublist _) (List.Sublist.cons_cons _ (List.nil_sublist _))
  exact ⟨(v1), Aa, W⟩
 have H := AJ (Bh hb) H
 rw [hb] at F
 clear hb
 refine Ay (Ad (Ak (Ae ?_)))
 refine ls F W Aa (Ah F Aa).q fun a w F W => ?_
 refine ls F W Aa (Ff (us := []) (vs := [.pointer (some ⟨b1, 0, none⟩)]) F Aa Aa).q fun a w F W => ?_
 obtain ⟨x6, h4, H⟩ := Ap H
 refine ls F W Aa (AY (v := Value.int .i64 x6) F NR Aa (fun w W => DD any w (v1) b1 (v2) p0 (p1.1, p1.2.1, x2) _ h4 (((Bg 1 Aa) : CV _ _ _ _ _ _) w W).nx (((Au h_v2) : CV _ _ _ _ _ _) w W).nx (Ki W 1 Aa))) fun a w F W => ?_
 refine ls F W Aa (Ag F Aa).q fun a w F W => ?_
 refine Af (Ad ?_)
 obtain ⟨o2, G2, K2⟩ := Ap H
 refine AH (fun a w => ∃ x7 : Int, some (x7) = some o2 ∧ Fr 48 [] [(0, v1), (4, .pointer (some ⟨b1, 0, none⟩)), (6, .slice none 0 0), (7, .int .i64 0), (8, .int .i64 x7)] a ∧ Stw ⟨Y, X, w0⟩ [(b2, [.int .i64 ((Ab p1.2.1).1), .int .i64 ((Ab p1.2.1).2.1.1), .int .i64 ((Ab p1.2.1).2.1.2.1.1), .int .i64 ((Ab p1.2.1).2.1.2.1.2.1), .int .i64 ((Ab p1.2.1).2.1.2.1.2.2.1), .int .i64 ((Ab p1.2.1).2.1.2.1.2.2.2), .int .i64 ((Ab p1.2.1).2.1.2.2.1), .int .i64 ((Ab p1.2.1).2.1.2.2.2.1), .int .i64 ((Ab p1.2.1).2.1.2.2.2.2.1), .int .i64 ((Ab p1.2.1).2.1.2.2.2.2.2), v3]), (b1, [.int .i64 p1.1, .int .i64 p1.2.1.1, .int .i64 p1.2.1.2.1.1, .int .i64 p1.2.1.2.1.2.1.1, .int .i64 p1.2.1.2.1.2.1.2.1, .int .i64 p1.2.1.2.1.2.1.2.2.1, .int .i64 p1.2.1.2.1.2.1.2.2.2, .int .i64 p1.2.1.2.1.2.2.1, .int .i64 p1.2.1.2.1.2.2.2.1, .int .i64 p1.2.1.2.1.2.2.2.2.1, .int .i64 p1.2.1.2.1.2.2.2.2.2, v2, .bool x2])] [row v1 40 Bc p0, BM v3 Bu ((Ab p1.2.1).2.2)] w) ?_ ?_
 ·
  have H := G2
  clear G2 K2
  refine Ak (Ae ?_)
  refine ls F W Aa (Ah F Aa).q fun a w F W => ?_
  refine ls F W Aa (BN F Aa Aa).q fun a w F W => ?_
  refine Af (Ad ?_)
  refine AA F Aa (fun hb => ?_) fun hb => ?_
  ·
   have H := AK (Bi hb) H
   rw [hb] at F
   clear hb
   refine Ae ?_
   refine ls F W Aa (Ah F Aa).q fun a w F W => ?_
   refine ls F W Aa (B1 (r := Bc) (l := p0) DZ Aa F Aa (Bg 1 Aa)).q fun a w F W => ?_
   refine ls F W Aa (Ag F Aa).q fun a w F W => ?_
   refine Af (Ad ?_)
   have W := W.frontZ (i := 1) Aa Aa
   have W := W.frontM (i := 1) Aa Aa
   have W := W.frontM (i := 1) Aa Aa
   exact ⟨_, H, F.re ⟨rfl, Aa, Aa, Aa, Aa, trivial⟩, W⟩
  have H := AJ (Bh hb) H
  rw [hb] at F
  clear hb
  refine Ay (Ad ?_)
  have W := W.frontZ (i := 1) Aa Aa
  have W := W.frontM (i := 1) Aa Aa
  have W := W.frontM (i := 1) Aa Aa
  exact ⟨_, H, F.re ⟨rfl, Aa, Aa, Aa, Aa, trivial⟩, W⟩
 rintro a w ⟨x7, hj, F, W⟩
 have hj := AL hj
 subst hj
 have H := K2
 clear G2 K2
 refine Ak (Ae ?_)
 iterate 2 refine ls F W Aa (Ah F Aa).q fun a w F W => ?_
 refine ls F W Aa (Al Gf Aa Aa Aa C6 F Aa 1 Aa).q fun a w F W => ?_
 refine ls F W Aa (As (v := Value.agg #[.int .i64 p1.2.1.1, .int .i64 p1.2.1.2.1.1, .int .i64 p1.2.1.2.1.2.1.1, .int .i64 p1.2.1.2.1.2.1.2.1, .int .i64 p1.2.1.2.1.2.1.2.2.1, .int .i64 p1.2.1.2.1.2.1.2.2.2, .int .i64 p1.2.1.2.1.2.2.1, .int .i64 p1.2.1.2.1.2.2.2.1, .int .i64 p1.2.1.2.1.2.2.2.2.1, .int .i64 p1.2.1.2.1.2.2.2.2.2, v2]) 1 F Aa Aa C6 Aa).q fun a w F W => ?_
 obtain ⟨x8, h5, H⟩ := Ap H
 refine Bp (Ml := []) (Zl := []) (M := [(b2, [.int .i64 ((Ab p1.2.1).1), .int .i64 ((Ab p1.2.1).2.1.1), .int .i64 ((Ab p1.2.1).2.1.2.1.1), .int .i64 ((Ab p1.2.1).2.1.2.1.2.1), .int .i64 ((Ab p1.2.1).2.1.2.1.2.2.1), .int .i64 ((Ab p1.2.1).2.1.2.1.2.2.2), .int .i64 ((Ab p1.2.1).2.1.2.2.1), .int .i64 ((Ab p1.2.1).2.1.2.2.2.1), .int .i64 ((Ab p1.2.1).2.1.2.2.2.2.1), .int .i64 ((Ab p1.2.1).2.1.2.2.2.2.2), v3]), (b1, [.int .i64 p1.1, .int .i64 p1.2.1.1, .int .i64 p1.2.1.2.1.1, .int .i64 p1.2.1.2.1.2.1.1, .int .i64 p1.2.1.2.1.2.1.2.1, .int .i64 p1.2.1.2.1.2.1.2.2.1, .int .i64 p1.2.1.2.1.2.1.2.2.2, .int .i64 p1.2.1.2.1.2.2.1, .int .i64 p1.2.1.2.1.2.2.2.1, .int .i64 p1.2.1.2.1.2.2.2.2.1, .int .i64 p1.2.1.2.1.2.2.2.2.2, v2, .bool x2])]) (Z := [row v1 40 Bc p0, BM v3 Bu ((Ab p1.2.1).2.2)]) (β := Value) (rv := fun x => .agg #[.int .i64 x8.1, .int .i64 x8.2.1.1, .int .i64 x8.2.1.2.1.1, .int .i64 x8.2.1.2.1.2.1, .int .i64 x8.2.1.2.1.2.2.1, .int .i64 x8.2.1.2.1.2.2.2, .int .i64 x8.2.1.2.2.1, .int .i64 x8.2.1.2.2.2.1, .int .i64 x8.2.1.2.2.2.2.1, .int .i64 x8.2.1.2.2.2.2.2, x]) (MM := fun x => []) (ZZ := fun x => [row x 61 Bu x8.2.2]) F W Oq Aa Aa (fun hL => CY _ w (v2) p1.2.1 _ h5 (W.old s_v2)) fun x a w F W => ?_
 obtain ⟨v6, rfl⟩ : ∃ y, y = x := ⟨x, rfl⟩
 have W : Stw ⟨Y, X, w0⟩ [(b2, [.int .i64 ((Ab p1.2.1).1), .int .i64 ((Ab p1.2.1).2.1.1), .int .i64 ((Ab p1.2.1).2.1.2.1.1), .int .i64 ((Ab p1.2.1).2.1.2.1.2.1), .int .i64 ((Ab p1.2.1).2.1.2.1.2.2.1), .int .i64 ((Ab p1.2.1).2.1.2.1.2.2.2), .int .i64 ((Ab p1.2.1).2.1.2.2.1), .int .i64 ((Ab p1.2.1).2.1.2.2.2.1), .int .i64 ((Ab p1.2.1).2.1.2.2.2.2.1), .int .i64 ((Ab p1.2.1).2.1.2.2.2.2.2), v3]), (b1, [.int .i64 p1.1, .int .i64 p1.2.1.1, .int .i64 p1.2.1.2.1.1, .int .i64 p1.2.1.2.1.2.1.1, .int .i64 p1.2.1.2.1.2.1.2.1, .int .i64 p1.2.1.2.1.2.1.2.2.1, .int .i64 p1.2.1.2.1.2.1.2.2.2, .int .i64 p1.2.1.2.1.2.2.1, .int .i64 p1.2.1.2.1.2.2.2.1, .int .i64 p1.2.1.2.1.2.2.2.2.1, .int .i64 p1.2.1.2.1.2.2.2.2.2, v2, .bool x2])] [row v6 61 Bu x8.2.2, row v1 40 Bc p0, BM v3 Bu ((Ab p1.2.1).2.2)] w := W
 have W := W.freeze
 refine IA (z := Value.agg #[.int .i64 0, .int .i64 0, .int .i64 0, .int .i64 0, .int .i64 0, .int .i64 0, .int .i64 0, .int .i64 0, .int .i64 0, .int .i64 0, .slice none 0 0]) (cs := [.int .i64 x8.1, .int .i64 x8.2.1.1, .int .i64 x8.2.1.2.1.1, .int .i64 x8.2.1.2.1.2.1, .int .i64 x8.2.1.2.1.2.2.1, .int .i64 x8.2.1.2.1.2.2.2, .int .i64 x8.2.1.2.2.1, .int .i64 x8.2.1.2.2.2.1, .int .i64 x8.2.1.2.2.2.2.1, .int .i64 x8.2.1.2.2.2.2.2, v6]) Bc ([x8] : List (Int × (Int × (Int × Int × Int × Int) × (Int × Int × Int × Int)) × (List (Int × Int × Int)))) F W Aa Fh K0 Aa Aa Aa (B5 Aa Aa Aa EH) Aa Aa ⟨[Value.int .i64 x8.1, Value.int .i64 x8.2.1.1, Value.int .i64 x8.2.1.2.1.1, Value.int .i64 x8.2.1.2.1.2.1, Value.int .i64 x8.2.1.2.1.2.2.1, Value.int .i64 x8.2.1.2.1.2.2.2, Value.int .i64 x8.2.1.2.2.1, Value.int .i64 x8.2.1.2.2.2.1, Value.int .i64 x8.2.1.2.2.2.2.1, Value.int .i64 x8.2.1.2.2.2.2.2, v6], _, Aa, ⟨[Value.int .i64 x8.1], [Value.int .i64 x8.2.1.1, Value.int .i64 x8.2.1.2.1.1, Value.int .i64 x8.2.1.2.1.2.1, Value.int .i64 x8.2.1.2.1.2.2.1, Value.int .i64 x8.2.1.2.1.2.2.2, Value.int .i64 x8.2.1.2.2.1, Value.int .i64 x8.2.1.2.2.2.1, Value.int .i64 x8.2.1.2.2.2.2.1, Value.int .i64 x8.2.1.2.2.2.2.2, v6], Aa, Aa, ⟨[Value.int .i64 x8.2.1.1, Value.int .i64 x8.2.1.2.1.1, Value.int .i64 x8.2.1.2.1.2.1, Value.int .i64 x8.2.1.2.1.2.2.1, Value.int .i64 x8.2.1.2.1.2.2.2, Value.int .i64 x8.2.1.2.2.1, Value.int .i64 x8.2.1.2.2.2.1, Value.int .i64 x8.2.1.2.2.2.2.1, Value.int .i64 x8.2.1.2.2.2.2.2], [v6], Aa, ⟨[Value.int .i64 x8.2.1.1], [Value.int .i64 x8.2.1.2.1.1, Value.int .i64 x8.2.1.2.1.2.1, Value.int .i64 x8.2.1.2.1.2.2.1, Value.int .i64 x8.2.1.2.1.2.2.2, Value.int .i64 x8.2.1.2.2.1, Value.int .i64 x8.2.1.2.2.2.1, Value.int .i64 x8.2.1.2.2.2.2.1, Value.int .i64 x8.2.1.2.2.2.2.2], Aa, Aa, ⟨[Value.int .i64 x8.2.1.2.1.1, Value.int .i64 x8.2.1.2.1.2.1, Value.int .i64 x8.2.1.2.1.2.2.1, Value.int .i64 x8.2.1.2.1.2.2.2], [Value.int .i64 x8.2.1.2.2.1, Value.int .i64 x8.2.1.2.2.2.1, Value.int .i64 x8.2.1.2.2.2.2.1, Value.int .i64 x8.2.1.2.2.2.2.2], Aa, ⟨[Value.int .i64 x8.2.1.2.1.1], [Value.int .i64 x8.2.1.2.1.2.1, Value.int .i64 x8.2.1.2.1.2.2.1, Value.int .i64 x8.2.1.2.1.2.2.2], Aa, Aa, ⟨[Value.int .i64 x8.2.1.2.1.2.1], [Value.int .i64 x8.2.1.2.1.2.2.1, Value.int .i64 x8.2.1.2.1.2.2.2], Aa, Aa, ⟨[Value.int .i64 x8.2.1.2.1.2.2.1], [Value.int .i64 x8.2.1.2.1.2.2.2], Aa, Aa, Aa⟩⟩⟩, ⟨[Value.int .i64 x8.2.1.2.2.1], [Value.int .i64 x8.2.1.2.2.2.1, Value.int .i64 x8.2.1.2.2.2.2.1, Value.int .i64 x8.2.1.2.2.2.2.2], Aa, Aa, ⟨[Value.int .i64 x8.2.1.2.2.2.1], [Value.int .i64 x8.2.1.2.2.2.2.1, Value.int .i64 x8.2.1.2.2.2.2.2], Aa, Aa, ⟨[Value.int .i64 x8.2.1.2.2.2.2.1], [Value.int .i64 x8.2.1.2.2.2.2.2], Aa, Aa, Aa⟩⟩⟩⟩⟩, ⟨_, Aa, (W.item (i := 0) Aa)⟩⟩⟩, Aa⟩ fun v7 a w F W => ?_
 obtain ⟨x9, h6, H⟩ := Ap H
 have W := W.frontZ (i := 2) Aa Aa
 have W := W.freeze
 have W := W.frontZ (i := 1) Aa Aa
 have W := W.freeze
 refine Bp (Ml := []) (Zl := []) (M := [(b2, [.int .i64 ((Ab p1.2.1).1), .int .i64 ((Ab p1.2.1).2.1.1), .int .i64 ((Ab p1.2.1).2.1.2.1.1), .int .i64 ((Ab p1.2.1).2.1.2.1.2.1), .int .i64 ((Ab p1.2.1).2.1.2.1.2.2.1), .int .i64 ((Ab p1.2.1).2.1.2.1.2.2.2), .int .i64 ((Ab p1.2.1).2.1.2.2.1), .int .i64 ((Ab p1.2.1).2.1.2.2.2.1), .int .i64 ((Ab p1.2.1).2.1.2.2.2.2.1), .int .i64 ((Ab p1.2.1).2.1.2.2.2.2.2), v3]), (b1, [.int .i64 p1.1, .int .i64 p1.2.1.1, .int .i64 p1.2.1.2.1.1, .int .i64 p1.2.1.2.1.2.1.1, .int .i64 p1.2.1.2.1.2.1.2.1, .int .i64 p1.2.1.2.1.2.1.2.2.1, .int .i64 p1.2.1.2.1.2.1.2.2.2, .int .i64 p1.2.1.2.1.2.2.1, .int .i64 p1.2.1.2.1.2.2.2.1, .int .i64 p1.2.1.2.1.2.2.2.2.1, .int .i64 p1.2.1.2.1.2.2.2.2.2, v2, .bool x2])]) (Z := [BM v7 Bc ([x8] : List (Int × (Int × (Int × Int × Int × Int) × (Int × Int × Int × Int)) × (List (Int × Int × Int)))), BM v1 Bc p0, BM v6 Bu x8.2.2, BM v3 Bu ((Ab p1.2.1).2.2)]) (β := Value) (rv := fun x => x) (MM := fun x => []) (ZZ := fun x => [BM x Bc x9]) F W Po Aa Aa (fun hL => D0 _ w (v1) (v7) p0 x7 ([x8] : List (Int × (Int × (Int × Int × Int × Int) × (Int × Int × Int × Int)) × (List (Int × Int × Int)))) _ h6 (W.item (i := 1) Aa) c_v1 (W.item (i := 0) Aa)) fun x a w F W => ?_
 obtain ⟨v8, rfl⟩ : ∃ y, y = x := ⟨x, rfl⟩
 have W : Stw ⟨Y, X, w0⟩ [(b2, [.int .i64 ((Ab p1.2.1).1), .int .i64 ((Ab p1.2.1).2.1.1), .int .i64 ((Ab p1.2.1).2.1.2.1.1), .int .i64 ((Ab p1.2.1).2.1.2.1.2.1), .int .i64 ((Ab p1.2.1).2.1.2.1.2.2.1), .int .i64 ((Ab p1.2.1).2.1.2.1.2.2.2), .int .i64 ((Ab p1.2.1).2.1.2.2.1), .int .i64 ((Ab p1.2.1).2.1.2.2.2.1), .int .i64 ((Ab p1.2.1).2.1.2.2.2.2.1), .int .i64 ((Ab p1.2.1).2.1.2.2.2.2.2), v3]), (b1, [.int .i64 p1.1, .int .i64 p1.2.1.1, .int .i64 p1.2.1.2.1.1, .int .i64 p1.2.1.2.1.2.1.1, .int .i64 p1.2.1.2.1.2.1.2.1, .int .i64 p1.2.1.2.1.2.1.2.2.1, .int .i64 p1.2.1.2.1.2.1.2.2.2, .int .i64 p1.2.1.2.1.2.2.1, .int .i64 p1.2.1.2.1.2.2.2.1, .int .i64 p1.2.1.2.1.2.2.2.2.1, .int .i64 p1.2.1.2.1.2.2.2.2.2, v2, .bool x2])] [BM v8 Bc x9, BM v7 Bc ([x8] : List (Int × (Int × (Int × Int × Int × Int) × (Int × Int × Int × Int)) × (List (Int × Int × Int)))), BM v1 Bc p0, BM v6 Bu x8.2.2, BM v3 Bu ((Ab p1.2.1).2.2)] w := W
 iterate 2 refine ls F W Aa (Ag F Aa).q fun a w F W => ?_
 refine Af (Ad (Ax ?_))
 have H := AL H
 subst H
 refine ER (.inl Aa) F W Aa (Av F Aa) (Av F Aa) ?_
 have W := W.sub (M' := []) (Z' := [BM v8 Bc x9]) (List.nil_sublist _) (List.Sublist.cons_cons _ (List.nil_sublist _))
 exact ⟨(v8), Aa, W⟩
theorem PN : Has Try.prog 41 := ⟨fun args w => Am Try.func41 rfl (by decide) args w⟩
def Aj (p0 : Int × (Int × (Int × Int × Int × Int) × (Int × Int × Int × Int)) × (List (Int × Int × Int))) : (Int × (Int × (Int × Int × Int × Int) × (Int × Int × Int × Int)) × (List (Int × Int × Int))) := p0
theorem Gu (Y : Nat → Prop) (w0 : World) (v1 : Value) (p0 : Int × (Int × (Int × Int × Int × Int) × (Int × Int × Int × Int)) × (List (Int × Int × Int))) (r : (Int × (Int × (Int × Int × Int × Int) × (Int × Int × Int × Int)) × (List (Int × Int × Int)))) (H : Aj p0 = r) (s_v1 : Sl w0 Y Bu v1 p0.2.2) :
    Calls Try.prog 43 #[.agg #[.int .i64 p0.1, .int .i64 p0.2.1.1, .int .i64 p0.2.1.2.1.1, .int .i64 p0.2.1.2.1.2.1, .int .i64 p0.2.1.2.1.2.2.1, .int .i64 p0.2.1.2.1.2.2.2, .int .i64 p0.2.1.2.2.1, .int .i64 p0.2.1.2.2.2.1, .int .i64 p0.2.1.2.2.2.2.1, .int .i64 p0.2.1.2.2.2.2.2, v1]] w0 fun e w' => ∃ x : Nat × Value, e = .returned (.func (.func 64) #[] #[.pointer (some ⟨x.1, 0, none⟩)]) ∧ Stw ⟨Y, [], w0⟩ [(x.1, [.int .i64 r.1, .int .i64 r.2.1.1, .int .i64 r.2.1.2.1.1, .int .i64 r.2.1.2.1.2.1, .int .i64 r.2.1.2.1.2.2.1, .int .i64 r.2.1.2.1.2.2.2, .int .i64 r.2.1.2.2.1, .int .i64 r.2.1.2.2.2.1, .int .i64 r.2.1.2.2.2.2.1, .int .i64 r.2.1.2.2.2.2.2, x.2])] [BM (x.2) Bu r.2.2] w' := by
 refine enter Try.func43 Aa Try.ntmps43 Aa fun a F => ?_
 have W := Stw.start Y w0
 have h_v1 := W.nx s_v1
 unfold Aj at H
 refine Ak (Ae ?_)
 refine BS (cs := [.int .i64 p0.1, .int .i64 p0.2.1.1, .int .i64 p0.2.1.2.1.1, .int .i64 p0.2.1.2.1.2.1, .int .i64 p0.2.1.2.1.2.2.1, .int .i64 p0.2.1.2.1.2.2.2, .int .i64 p0.2.1.2.2.1, .int .i64 p0.2.1.2.2.2.1, .int .i64 p0.2.1.2.2.2.2.1, .int .i64 p0.2.1.2.2.2.2.2, v1]) F W Aa Aa Aa fun b1 a w F W => ?_
 refine ls F W Aa (Ag F Aa).q fun a w F W => ?_
 refine Af (Ad (Ak (Ae ?_)))
 refine ls F W Aa (Ff (us := []) (vs := [.pointer (some ⟨b1, 0, none⟩)]) F Aa Aa).q fun a w F W => ?_
 refine ls F W Aa (Ag F Aa).q fun a w F W => ?_
 refine Af (Ad (Ax ?_))
 subst H
 refine AF (.inl Aa) F W Aa (Av F Aa) ?_
 have W := W.note (W.old s_v1)
 exact ⟨(b1, (v1)), Aa, W⟩
theorem OY : Has Try.prog 43 := ⟨fun args w => Am Try.func43 rfl (by decide) args w⟩
noncomputable def C3 (p0 : Int × (Int × Int × Int × Int) × (Int × Int × Int × Int)) (p1 : Int × (Int × Int × Int × Int) × (Int × Int × Int × Int)) : Option Bool := (Ds p0 p1).bind fun x1 => some (x1.2 && decide (x1.1.1 = p0.1 ∧ x1.1.2.1.1 = p0.2.1.1 ∧ x1.1.2.1.2.1 = p0.2.1.2.1 ∧ x1.1.2.1.2.2.1 = p0.2.1.2.2.1 ∧ x1.1.2.1.2.2.2 = p0.2.1.2.2.2 ∧ x1.1.2.2.1 = p0.2.2.1 ∧ x1.1.2.2.2.1 = p0.2.2.2.1 ∧ x1.1.2.2.2.2.1 = p0.2.2.2.2.1 ∧ x1.1.2.2.2.2.2 = p0.2.2.2.2.2))
theorem Is (Y : Nat → Prop) (w0 : World)  (p0 : Int × (Int × Int × Int × Int) × (Int × Int × Int × Int)) (p1 : Int × (Int × Int × Int × Int) × (Int × Int × Int × Int)) (r : Bool) (H : C3 p0 p1 = some r)  :
    Calls Try.prog 65 #[.agg #[.int .i64 p0.1, .int .i64 p0.2.1.1, .int .i64 p0.2.1.2.1, .int .i64 p0.2.1.2.2.1, .int .i64 p0.2.1.2.2.2, .int .i64 p0.2.2.1, .int .i64 p0.2.2.2.1, .int .i64 p0.2.2.2.2.1, .int .i64 p0.2.2.2.2.2], .agg #[.int .i64 p1.1, .int .i64 p1.2.1.1, .int .i64 p1.2.1.2.1, .int .i64 p1.2.1.2.2.1, .int .i64 p1.2.1.2.2.2, .int .i64 p1.2.2.1, .int .i64 p1.2.2.2.1, .int .i64 p1.2.2.2.2.1, .int .i64 p1.2.2.2.2.2]] w0 fun e w' => e = .returned (.bool r) ∧ Below w0.heap.size w0 w' := by
 refine enter Try.func65 Aa Try.ntmps65 Aa fun a F => ?_
 have W := Stw.start Y w0
 unfold C3 at H
 refine Ak (Ae ?_)
 refine BS (cs := [.int .i64 p0.1, .int .i64 p0.2.1.1, .int .i64 p0.2.1.2.1, .int .i64 p0.2.1.2.2.1, .int .i64 p0.2.1.2.2.2, .int .i64 p0.2.2.1, .int .i64 p0.2.2.2.1, .int .i64 p0.2.2.2.2.1, .int .i64 p0.2.2.2.2.2]) F W Aa Aa Aa fun b1 a w F W => ?_
 refine BS (cs := [.int .i64 p1.1, .int .i64 p1.2.1.1, .int .i64 p1.2.1.2.1, .int .i64 p1.2.1.2.2.1, .int .i64 p1.2.1.2.2.2, .int .i64 p1.2.2.1, .int .i64 p1.2.2.2.1, .int .i64 p1.2.2.2.2.1, .int .i64 p1.2.2.2.2.2]) F W Aa Aa Aa fun b2 a w F W => ?_
 refine ls F W Aa (Ag F Aa).q fun a w F W => ?_
 refine Af (Ad (Ak (Ae ?_)))
 refine ls F W Aa (As (v := Value.agg #[.int .i64 p0.1, .int .i64 p0.2.1.1, .int .i64 p0.2.1.2.1, .int .i64 p0.2.1.2.2.1, .int .i64 p0.2.1.2.2.2, .int .i64 p0.2.2.1, .int .i64 p0.2.2.2.1, .int .i64 p0.2.2.2.2.1, .int .i64 p0.2.2.2.2.2]) 1 F Aa Aa Ef Aa).q fun a w F W => ?_
 refine ls F W Aa (As (v := Value.agg #[.int .i64 p1.1, .int .i64 p1.2.1.1, .int .i64 p1.2.1.2.1, .int .i64 p1.2.1.2.2.1, .int .i64 p1.2.1.2.2.2, .int .i64 p1.2.2.1, .int .i64 p1.2.2.2.1, .int .i64 p1.2.2.2.2.1, .int .i64 p1.2.2.2.2.2]) 0 F Aa Aa Ef Aa).q fun a w F W => ?_
 obtain ⟨x1, h1, H⟩ := Ap H
 refine ls F W Aa (AY (v := Value.tuple #[.agg #[.int .i64 x1.1.1, .int .i64 x1.1.2.1.1, .int .i64 x1.1.2.1.2.1, .int .i64 x1.1.2.1.2.2.1, .int .i64 x1.1.2.1.2.2.2, .int .i64 x1.1.2.2.1, .int .i64 x1.1.2.2.2.1, .int .i64 x1.1.2.2.2.2.1, .int .i64 x1.1.2.2.2.2.2], .bool x1.2]) F Pk Aa (fun w W => Hp any w p0 p1 _ h1)) fun a w F W => ?_
 refine ls F W Aa (Ah F Aa).q fun a w F W => ?_
 refine ls F W Aa (Ck (v := Value.agg #[.int .i64 x1.1.1, .int .i64 x1.1.2.1.1, .int .i64 x1.1.2.1.2.1, .int .i64 x1.1.2.1.2.2.1, .int .i64 x1.1.2.1.2.2.2, .int .i64 x1.1.2.2.1, .int .i64 x1.1.2.2.2.1, .int .i64 x1.1.2.2.2.2.1, .int .i64 x1.1.2.2.2.2.2]) F Aa Aa).q fun a w F W => ?_
 refine ls F W Aa (Ck (v := Value.bool x1.2) F Aa Aa).q fun a w F W => ?_
 refine Cp (cs := [.int .i64 0, .int .i64 0, .int .i64 0, .int .i64 0, .int .i64 0, .int .i64 0, .int .i64 0, .int .i64 0, .int .i64 0]) F W Aa NQ Aa fun b3 a w F W => ?_
 refine BB (vs := [.int .i64 x1.1.1, .int .i64 x1.1.2.1.1, .int .i64 x1.1.2.1.2.1, .int .i64 x1.1.2.1.2.2.1, .int .i64 x1.1.2.1.2.2.2, .int .i64 x1.1.2.2.1, .int .i64 x1.1.2.2.2.1, .int .i64 x1.1.2.2.2.2.1, .int .i64 x1.1.2.2.2.2.2]) (M' := [(b3, [.int .i64 x1.1.1, .int .i64 x1.1.2.1.1, .int .i64 x1.1.2.1.2.1, .int .i64 x1.1.2.1.2.2.1, .int .i64 x1.1.2.1.2.2.2, .int .i64 x1.1.2.2.1, .int .i64 x1.1.2.2.2.1, .int .i64 x1.1.2.2.2.2.1, .int .i64 x1.1.2.2.2.2.2]), (b2, [.int .i64 p1.1, .int .i64 p1.2.1.1, .int .i64 p1.2.1.2.1, .int .i64 p1.2.1.2.2.1, .int .i64 p1.2.1.2.2.2, .int .i64 p1.2.2.1, .int .i64 p1.2.2.2.1, .int .i64 p1.2.2.2.2.1, .int .i64 p1.2.2.2.2.2]), (b1, [.int .i64 p0.1, .int .i64 p0.2.1.1, .int .i64 p0.2.1.2.1, .int .i64 p0.2.1.2.2.1, .int .i64 p0.2.1.2.2.2, .int .i64 p0.2.2.1, .int .i64 p0.2.2.2.1, .int .i64 p0.2.2.2.2.1, .int .i64 p0.2.2.2.2.2])]) 0 F W Aa Aa Aa Ef Aa Aa Aa Aa Aa fun w W => ?_
 refine ls F W Aa (Ag F Aa).q fun a w F W => ?_
 refine Af (Ad ?_)
 refine AH (fun a w => Fr 19 [] [(4, .bool (x1.2 && decide (x1.1.1 = p0.1 ∧ x1.1.2.1.1 = p0.2.1.1 ∧ x1.1.2.1.2.1 = p0.2.1.2.1 ∧ x1.1.2.1.2.2.1 = p0.2.1.2.2.1 ∧ x1.1.2.1.2.2.2 = p0.2.1.2.2.2 ∧ x1.1.2.2.1 = p0.2.2.1 ∧ x1.1.2.2.2.1 = p0.2.2.2.1 ∧ x1.1.2.2.2.2.1 = p0.2.2.2.2.1 ∧ x1.1.2.2.2.2.2 = p0.2.2.2.2.2)))] a ∧ Stw ⟨Y, [], w0⟩ [(b3, [.int .i64 x1.1.1, .int .i64 x1.1.2.1.1, .int .i64 x1.1.2.1.2.1, .int .i64 x1.1.2.1.2.2.1, .int .i64 x1.1.2.1.2.2.2, .int .i64 x1.1.2.2.1, .int .i64 x1.1.2.2.2.1, .int .i64 x1.1.2.2.2.2.1, .int .i64 x1.1.2.2.2.2.2]), (b2, [.int .i64 p1.1, .int .i64 p1.2.1.1, .int .i64 p1.2.1.2.1, .int .i64 p1.2.1.2.2.1, .int .i64 p1.2.1.2.2.2, .int .i64 p1.2.2.1, .int .i64 p1.2.2.2.1, .int .i64 p1.2.2.2.2.1, .int .i64 p1.2.2.2.2.2]), (b1, [.int .i64 p0.1, .int .i64 p0.2.1.1, .int .i64 p0.2.1.2.1, .int .i64 p0.2.1.2.2.1, .int .i64 p0.2.1.2.2.2, .int .i64 p0.2.2.1, .int .i64 p0.2.2.2.1, .int .i64 p0.2.2.2.2.1, .int .i64 p0.2.2.2.2.2])] [] w) ?_ ?_
 ·
  refine Ae ?_
  iterate 2 refine ls F W Aa (Ah F Aa).q fun a w F W => ?_
  rcases Bool.eq_false_or_eq_true x1.2 with hb0 | hb0
  ·
   rw [hb0] at F
   refine AG F W (Ai F Aa Aa Aa Aa) Aa (Ao Aa) (As (v := Value.agg #[.int .i64 x1.1.1, .int .i64 x1.1.2.1.1, .int .i64 x1.1.2.1.2.1, .int .i64 x1.1.2.1.2.2.1, .int .i64 x1.1.2.1.2.2.2, .int .i64 x1.1.2.2.1, .int .i64 x1.1.2.2.2.1, .int .i64 x1.1.2.2.2.2.1, .int .i64 x1.1.2.2.2.2.2]) 0 F Aa Aa Ef Aa).q fun a w F W => ?_
   refine AG F W (Ai F Aa Aa Aa Aa) Aa (Ao Aa) (As (v := Value.agg #[.int .i64 p0.1, .int .i64 p0.2.1.1, .int .i64 p0.2.1.2.1, .int .i64 p0.2.1.2.2.1, .int .i64 p0.2.1.2.2.2, .int .i64 p0.2.2.1, .int .i64 p0.2.2.2.1, .int .i64 p0.2.2.2.2.1, .int .i64 p0.2.2.2.2.2]) 2 F Aa Aa Ef Aa).q fun a w F W => ?_
   refine AG F W (Ai F Aa Aa Aa Aa) Aa (Ao Aa) (KQ (t := decide (x1.1.1 = p0.1 ∧ x1.1.2.1.1 = p0.2.1.1 ∧ x1.1.2.1.2.1 = p0.2.1.2.1 ∧ x1.1.2.1.2.2.1 = p0.2.1.2.2.1 ∧ x1.1.2.1.2.2.2 = p0.2.1.2.2.2 ∧ x1.1.2.2.1 = p0.2.2.1 ∧ x1.1.2.2.2.1 = p0.2.2.2.1 ∧ x1.1.2.2.2.2.1 = p0.2.2.2.2.1 ∧ x1.1.2.2.2.2.2 = p0.2.2.2.2.2)) N1 (N9 _ _ _ _ _ _ _ _ _ _ _ _ _ _ _ _ _ _) F Aa Aa).q fun a w F W => ?_
   refine ls F W Aa (Aw F Aa Aa Aa).q fun a w F W => ?_
   refine ls F W Aa (Ag F Aa).q fun a w F W => ?_
   refine Af (Ad ?_)
   exact ⟨F.re ⟨(by show some (Value.bool (decide (x1.1.1 = p0.1 ∧ x1.1.2.1.1 = p0.2.1.1 ∧ x1.1.2.1.2.1 = p0.2.1.2.1 ∧ x1.1.2.1.2.2.1 = p0.2.1.2.2.1 ∧ x1.1.2.1.2.2.2 = p0.2.1.2.2.2 ∧ x1.1.2.2.1 = p0.2.2.1 ∧ x1.1.2.2.2.1 = p0.2.2.2.1 ∧ x1.1.2.2.2.2.1 = p0.2.2.2.2.1 ∧ x1.1.2.2.2.2.2 = p0.2.2.2.2.2))) = some (Value.bool (x1.2 && decide (x1.1.1 = p0.1 ∧ x1.1.2.1.1 = p0.2.1.1 ∧ x1.1.2.1.2.1 = p0.2.1.2.1 ∧ x1.1.2.1.2.2.1 = p0.2.1.2.2.1 ∧ x1.1.2.1.2.2.2 = p0.2.1.2.2.2 ∧ x1.1.2.2.1 = p0.2.2.1 ∧ x1.1.2.2.2.1 = p0.2.2.2.1 ∧ x1.1.2.2.2.2.1 = p0.2.2.2.2.1 ∧ x1.1.2.2.2.2.2 = p0.2.2.2.2.2))); try rw [hb0]; all_goals simp only [Bool.not_true, Bool.not_false, Bool.true_and, Bool.false_and, Bool.true_or, Bool.false_or, Bool.and_true, Bool.or_false, cond_true, cond_false]), trivial⟩, W⟩
  rw [hb0] at F
  iterate 3 refine Cs F Aa Aa Aa Aa Aa Aa Aa fun a F => ?_
  refine ls F W Aa (Aq F Aa Aa Aa).q fun a w F W => ?_
  refine ls F W Aa (Ag F Aa).q fun a w F W => ?_
  refine Af (Ad ?_)
  exact ⟨F.re ⟨(by show some (Value.bool false) = some (Value.bool (x1.2 && decide (x1.1.1 = p0.1 ∧ x1.1.2.1.1 = p0.2.1.1 ∧ x1.1.2.1.2.1 = p0.2.1.2.1 ∧ x1.1.2.1.2.2.1 = p0.2.1.2.2.1 ∧ x1.1.2.1.2.2.2 = p0.2.1.2.2.2 ∧ x1.1.2.2.1 = p0.2.2.1 ∧ x1.1.2.2.2.1 = p0.2.2.2.1 ∧ x1.1.2.2.2.2.1 = p0.2.2.2.2.1 ∧ x1.1.2.2.2.2.2 = p0.2.2.2.2.2))); try rw [hb0]; all_goals simp only [Bool.not_true, Bool.not_false, Bool.true_and, Bool.false_and, Bool.true_or, Bool.false_or, Bool.and_true, Bool.or_false, cond_true, cond_false]), trivial⟩, W⟩
 rintro a w ⟨F, W⟩
 refine Ax ?_
 have H := AL H
 subst H
 refine AF (.inl Aa) F W Aa (Av F Aa) ?_
 exact ⟨rfl, W.done⟩
theorem PB : Has Try.prog 65 := ⟨fun args w => Am Try.func65 rfl (by decide) args w⟩
noncomputable def Ca (p0 : Int × (Int × (Int × Int × Int × Int) × (Int × Int × Int × Int)) × (List (Int × Int × Int))) (p1 : Int × (Int × (Int × Int × Int × Int) × (Int × Int × Int × Int)) × (List (Int × Int × Int))) : Option Bool := (C3 p0.2.1 p1.2.1).bind fun x1 => some x1
theorem Ej (Y : Nat → Prop) (w0 : World) (v1 : Value) (q_p1 : Nat) (v2 : Value) (p0 : Int × (Int × (Int × Int × Int × Int) × (Int × Int × Int × Int)) × (List (Int × Int × Int))) (p1 : Int × (Int × (Int × Int × Int × Int) × (Int × Int × Int × Int)) × (List (Int × Int × Int))) (r : Bool) (H : Ca p0 p1 = some r) (h_v1 : Sl w0 (NX []) Bu v1 p0.2.2) (h_v2 : Sl w0 (NX []) Bu v2 p1.2.2) (a_q_p1 : At ⟨Y, [], w0⟩ q_p1 0 [.int .i64 p1.1, .int .i64 p1.2.1.1, .int .i64 p1.2.1.2.1.1, .int .i64 p1.2.1.2.1.2.1, .int .i64 p1.2.1.2.1.2.2.1, .int .i64 p1.2.1.2.1.2.2.2, .int .i64 p1.2.1.2.2.1, .int .i64 p1.2.1.2.2.2.1, .int .i64 p1.2.1.2.2.2.2.1, .int .i64 p1.2.1.2.2.2.2.2, v2]) :
    Calls Try.prog 64 #[.agg #[.int .i64 p0.1, .int .i64 p0.2.1.1, .int .i64 p0.2.1.2.1.1, .int .i64 p0.2.1.2.1.2.1, .int .i64 p0.2.1.2.1.2.2.1, .int .i64 p0.2.1.2.1.2.2.2, .int .i64 p0.2.1.2.2.1, .int .i64 p0.2.1.2.2.2.1, .int .i64 p0.2.1.2.2.2.2.1, .int .i64 p0.2.1.2.2.2.2.2, v1], .pointer (some ⟨q_p1, 0, none⟩)] w0 fun e w' => e = .returned (.bool r) ∧ Below w0.heap.size w0 w' := by
 refine enter Try.func64 Aa Try.ntmps64 Aa fun a F => ?_
 have W := Stw.start Y w0
 unfold Ca at H
 refine Ak (Ae ?_)
 refine BS (cs := [.int .i64 p0.1, .int .i64 p0.2.1.1, .int .i64 p0.2.1.2.1.1, .int .i64 p0.2.1.2.1.2.1, .int .i64 p0.2.1.2.1.2.2.1, .int .i64 p0.2.1.2.1.2.2.2, .int .i64 p0.2.1.2.2.1, .int .i64 p0.2.1.2.2.2.1, .int .i64 p0.2.1.2.2.2.2.1, .int .i64 p0.2.1.2.2.2.2.2, v1]) F W Aa Aa Aa fun b1 a w F W => ?_
 refine ls F W Aa (Ag F Aa).q fun a w F W => ?_
 refine Af (Ad (Ak (Ae ?_)))
 refine ls F W Aa (Al Ct Aa Aa Aa Ef F Aa 1 Aa).q fun a w F W => ?_
 refine ls F W Aa (As (v := Value.agg #[.int .i64 p0.2.1.1, .int .i64 p0.2.1.2.1.1, .int .i64 p0.2.1.2.1.2.1, .int .i64 p0.2.1.2.1.2.2.1, .int .i64 p0.2.1.2.1.2.2.2, .int .i64 p0.2.1.2.2.1, .int .i64 p0.2.1.2.2.2.1, .int .i64 p0.2.1.2.2.2.2.1, .int .i64 p0.2.1.2.2.2.2.2]) 0 F Aa Aa Ef Aa).q fun a w F W => ?_
 refine ls F W Aa (Al Ct Aa Aa Aa Ef F Aa 1 Aa).q fun a w F W => ?_
 refine ls F W Aa (E3 (y := Value.agg #[.int .i64 p1.2.1.1, .int .i64 p1.2.1.2.1.1, .int .i64 p1.2.1.2.1.2.1, .int .i64 p1.2.1.2.1.2.2.1, .int .i64 p1.2.1.2.1.2.2.2, .int .i64 p1.2.1.2.2.1, .int .i64 p1.2.1.2.2.2.1, .int .i64 p1.2.1.2.2.2.2.1, .int .i64 p1.2.1.2.2.2.2.2]) (j := 1) F Aa (Nat.zero_add _).symm a_q_p1 Ef Aa).q fun a w F W => ?_
 obtain ⟨x1, h1, H⟩ := Ap H
 refine ls F W Aa (AY (v := Value.bool x1) F PB Aa (fun w W => Is any w p0.2.1 p1.2.1 _ h1)) fun a w F W => ?_
 refine ls F W Aa (Ag F Aa).q fun a w F W => ?_
 refine Af (Ad (Ax ?_))
 have H := AL H
 subst H
 refine AF (.inl Aa) F W Aa (Av F Aa) ?_
 exact ⟨rfl, W.done⟩
theorem OJ : Has Try.prog 64 := ⟨fun args w => Am Try.func64 rfl (by decide) args w⟩
noncomputable def Cj (p0 : List (Int × (Int × (Int × Int × Int × Int) × (Int × Int × Int × Int)) × (List (Int × Int × Int)))) (p1 : Int × (Int × (Int × Int × Int × Int) × (Int × Int × Int × Int)) × (List (Int × Int × Int))) (p2c0 : Int × (Int × (Int × Int × Int × Int) × (Int × Int × Int × Int)) × (List (Int × Int × Int))) : ((List (Int × (Int × (Int × Int × Int × Int) × (Int × Int × Int × Int)) × (List (Int × Int × Int)))) × Int) → Option (((List (Int × (Int × (Int × Int × Int × Int) × (Int × Int × Int × Int)) × (List (Int × Int × Int)))) × Int) ⊕ (List (Int × (Int × (Int × Int × Int × Int) × (Int × Int × Int × Int)) × (List (Int × Int × Int)))))
  | (x2, x3) => (if x3 < (p0.length : Int) then ((ix x2 x3).bind fun x5 => (Ca x5 p2c0).bind fun x6 => (if x6 = true then (Bv p1).bind fun x7 => (ix x2 x3).bind fun x8 => some (Dq x2 x3 (x8.1, x8.2.1, x7.2.2)) else some x2)).bind fun x4 => some (.inl (x4, CA (x3 + 1))) else some (.inr x2))
noncomputable def Cf (p0 : List (Int × (Int × (Int × Int × Int × Int) × (Int × Int × Int × Int)) × (List (Int × Int × Int)))) (p1 : Int × (Int × (Int × Int × Int × Int) × (Int × Int × Int × Int)) × (List (Int × Int × Int))) (p2c0 : Int × (Int × (Int × Int × Int × Int) × (Int × Int × Int × Int)) × (List (Int × Int × Int))) : Option (List (Int × (Int × (Int × Int × Int × Int) × (Int × Int × Int × Int)) × (List (Int × Int × Int)))) := (Bk (Cj p0 p1 p2c0) (p0, 0)).bind fun x1 => some x1
theorem GY (Y : Nat → Prop) (X : List Nat) (w0 : World) (v1 : Value) (v2 : Value) (q_p2c0 : Nat) (v3 : Value) (p0 : List (Int × (Int × (Int × Int × Int × Int) × (Int × Int × Int × Int)) × (List (Int × Int × Int)))) (p1 : Int × (Int × (Int × Int × Int × Int) × (Int × Int × Int × Int)) × (List (Int × Int × Int))) (p2c0 : Int × (Int × (Int × Int × Int × Int) × (Int × Int × Int × Int)) × (List (Int × Int × Int))) (r : (List (Int × (Int × (Int × Int × Int × Int) × (Int × Int × Int × Int)) × (List (Int × Int × Int))))) (H : Cf p0 p1 p2c0 = some r) (s_v2 : Sl w0 Y Bu v2 p1.2.2) (h_v3 : Sl w0 (NX X) Bu v3 p2c0.2.2) (a_q_p2c0 : At ⟨Y, X, w0⟩ q_p2c0 0 [.int .i64 p2c0.1, .int .i64 p2c0.2.1.1, .int .i64 p2c0.2.1.2.1.1, .int .i64 p2c0.2.1.2.1.2.1, .int .i64 p2c0.2.1.2.1.2.2.1, .int .i64 p2c0.2.1.2.1.2.2.2, .int .i64 p2c0.2.1.2.2.1, .int .i64 p2c0.2.1.2.2.2.1, .int .i64 p2c0.2.1.2.2.2.2.1, .int .i64 p2c0.2.1.2.2.2.2.2, v3]) (hL : Stw ⟨Y, X, w0⟩ [] [row v1 40 Bc p0] w0) :
    Calls Try.prog 42 #[v1, .agg #[.int .i64 p1.1, .int .i64 p1.2.1.1, .int .i64 p1.2.1.2.1.1, .int .i64 p1.2.1.2.1.2.1, .int .i64 p1.2.1.2.1.2.2.1, .int .i64 p1.2.1.2.1.2.2.2, .int .i64 p1.2.1.2.2.1, .int .i64 p1.2.1.2.2.2.1, .int .i64 p1.2.1.2.2.2.2.1, .int .i64 p1.2.1.2.2.2.2.2, v2], .func (.func 64) #[] #[.pointer (some ⟨q_p2c0, 0, none⟩)]] w0 fun e w' => ∃ x : Value, e = .returned (x) ∧ Stw ⟨Y, X, w0⟩ [] [row (x) 40 Bc r] w' := by
 refine enter Try.func42 Aa Try.ntmps42 Aa fun a F => ?_
 have W := hL
 have h_v2 := W.nx s_v2
 unfold Cf at H
 refine Ak (Ae ?_)
 refine BS (cs := [.int .i64 p1.1, .int .i64 p1.2.1.1, .int .i64 p1.2.1.2.1.1, .int .i64 p1.2.1.2.1.2.1, .int .i64 p1.2.1.2.1.2.2.1, .int .i64 p1.2.1.2.1.2.2.2, .int .i64 p1.2.1.2.2.1, .int .i64 p1.2.1.2.2.2.1, .int .i64 p1.2.1.2.2.2.2.1, .int .i64 p1.2.1.2.2.2.2.2, v2]) F W Aa Aa Aa fun b1 a w F W => ?_
 refine ls F W Aa (Ag F Aa).q fun a w F W => ?_
 refine Af (Ad ?_)
 obtain ⟨o1, G1, K1⟩ := Ap H
 refine AH (fun a w => ∃ x1 : List (Int × (Int × (Int × Int × Int × Int) × (Int × Int × Int × Int)) × (List (Int × Int × Int))), some (x1) = some o1 ∧ Fr 28 [] [(0, v1), (6, .slice none 0 0)] a ∧ Stw ⟨Y, X, w0⟩ [(b1, [.int .i64 p1.1, .int .i64 p1.2.1.1, .int .i64 p1.2.1.2.1.1, .int .i64 p1.2.1.2.1.2.1, .int .i64 p1.2.1.2.1.2.2.1, .int .i64 p1.2.1.2.1.2.2.2, .int .i64 p1.2.1.2.2.1, .int .i64 p1.2.1.2.2.2.1, .int .i64 p1.2.1.2.2.2.2.1, .int .i64 p1.2.1.2.2.2.2.2, v2])] [row v1 40 Bc x1] w) ?_ ?_
 ·
  have H := G1
  clear G1 K1
  refine Ak (Ae ?_)
  refine ls F W Aa (Ah F Aa).q fun a w F W => ?_
  refine ls F W Aa (B1 (r := Bc) (l := p0) DZ Aa F Aa (Bg 0 Aa)).q fun a w F W => ?_
  refine ls F W Aa (Ah F Aa).q fun a w F W => ?_
  refine Af (Ad (AC ?_))
  refine Bz H (fun s a w => Fr 28 [] [(0, v1), (2, .func (.func 64) #[] #[.pointer (some ⟨q_p2c0, 0, none⟩)]), (4, .pointer (some ⟨b1, 0, none⟩)), (6, .slice none 0 0), (9, v1), (10, .int .i64 (p0.length : Int)), (11, .int .i64 s.2)] a ∧ Stw ⟨Y, X, w0⟩ [(b1, [.int .i64 p1.1, .int .i64 p1.2.1.1, .int .i64 p1.2.1.2.1.1, .int .i64 p1.2.1.2.1.2.1, .int .i64 p1.2.1.2.1.2.2.1, .int .i64 p1.2.1.2.1.2.2.2, .int .i64 p1.2.1.2.2.1, .int .i64 p1.2.1.2.2.2.1, .int .i64 p1.2.1.2.2.2.2.1, .int .i64 p1.2.1.2.2.2.2.2, v2])] [row v1 40 Bc s.1] w) ⟨F.re ⟨rfl, Aa, Aa, Aa, Aa, Aa, Aa, trivial⟩, W⟩ fun s o a w H L2 hR => ?_
  obtain ⟨x2, x3⟩ := s
  obtain ⟨F, W⟩ := hR
  have F : Fr 28 [] [(0, v1), (2, .func (.func 64) #[] #[.pointer (some ⟨q_p2c0, 0, none⟩)]), (4, .pointer (some ⟨b1, 0, none⟩)), (6, .slice none 0 0), (9, v1), (10, .int .i64 (p0.length : Int)), (11, .int .i64 x3)] a := F
  have W : Stw ⟨Y, X, w0⟩ [(b1, [.int .i64 p1.1, .int .i64 p1.2.1.1, .int .i64 p1.2.1.2.1.1, .int .i64 p1.2.1.2.1.2.1, .int .i64 p1.2.1.2.1.2.2.1, .int .i64 p1.2.1.2.1.2.2.2, .int .i64 p1.2.1.2.2.1, .int .i64 p1.2.1.2.2.2.1, .int .i64 p1.2.1.2.2.2.2.1, .int .i64 p1.2.1.2.2.2.2.2, v2])] [row v1 40 Bc x2] w := W
  rw [Cj] at H
  refine Ak (Ae ?_)
  refine ls F W Aa (BN F Aa Aa).q fun a w F W => ?_
  refine Af (Ad (Ak ?_))
  refine AA F Aa (fun hb => ?_) fun hb => ?_
  ·
   have H := AK (Bi hb) H
   rw [hb] at F
   clear hb
   refine Ay (Ad ?_)
   obtain ⟨o3, G3, K3⟩ := Ap H
   refine AH (fun a w => ∃ x4 : List (Int × (Int × (Int × Int × Int × Int) × (Int × Int × Int × Int)) × (List (Int × Int × Int))), some (x4) = some o3 ∧ Fr 28 [] [(0, v1), (2, .func (.func 64) #[] #[.pointer (some ⟨q_p2c0, 0, none⟩)]), (4, .pointer (some ⟨b1, 0, none⟩)), (6, .slice none 0 0), (9, v1), (10, .int .i64 (p0.length : Int)), (11, .int .i64 x3)] a ∧ Stw ⟨Y, X, w0⟩ [(b1, [.int .i64 p1.1, .int .i64 p1.2.1.1, .int .i64 p1.2.1.2.1.1, .int .i64 p1.2.1.2.1.2.1, .int .i64 p1.2.1.2.1.2.2.1, .int .i64 p1.2.1.2.1.2.2.2, .int .i64 p1.2.1.2.2.1, .int .i64 p1.2.1.2.2.2.1, .int .i64 p1.2.1.2.2.2.2.1, .int .i64 p1.2.1.2.2.2.2.2, v2])] [row v1 40 Bc x4] w) ?_ ?_
   ·
    have H := G3
    clear G3 K3
    refine AC (Ak ?_)
    obtain ⟨v4, h1, W⟩ := W.exR Bl
    refine Ae ?_
    refine ls F W Aa (Ah F Aa).q fun a w F W => ?_
    obtain ⟨x5, h2, H⟩ := Ap H
    obtain ⟨v5, h3, h4⟩ := CE h1 h2
    have h5 : B9 v5 = [.int .i64 x5.1, .int .i64 x5.2.1.1, .int .i64 x5.2.1.2.1.1, .int .i64 x5.2.1.2.1.2.1, .int .i64 x5.2.1.2.1.2.2.1, .int .i64 x5.2.1.2.1.2.2.2, .int .i64 x5.2.1.2.2.1, .int .i64 x5.2.1.2.2.2.1, .int .i64 x5.2.1.2.2.2.2.1, .int .i64 x5.2.1.2.2.2.2.2, (v5.2.2.1)] := congrArg (fun q : Int × (Int × (Int × Int × Int × Int) × (Int × Int × Int × Int)) × (List (Int × Int × Int)) => ([.int .i64 q.1, .int .i64 q.2.1.1, .int .i64 q.2.1.2.1.1, .int .i64 q.2.1.2.1.2.1, .int .i64 q.2.1.2.1.2.2.1, .int .i64 q.2.1.2.1.2.2.2, .int .i64 q.2.1.2.2.1, .int .i64 q.2.1.2.2.2.1, .int .i64 q.2.1.2.2.2.2.1, .int .i64 q.2.1.2.2.2.2.2, (v5.2.2.1)] : List Value)) h4
    refine ls F W Aa (Bd (r := CM) Fh F Aa Aa (Bg 0 Aa) h3).q fun a w F W => ?_
    refine ls F W Aa (A1 (y := Value.agg #[.int .i64 x5.1, .int .i64 x5.2.1.1, .int .i64 x5.2.1.2.1.1, .int .i64 x5.2.1.2.1.2.1, .int .i64 x5.2.1.2.1.2.2.1, .int .i64 x5.2.1.2.1.2.2.2, .int .i64 x5.2.1.2.2.1, .int .i64 x5.2.1.2.2.2.1, .int .i64 x5.2.1.2.2.2.2.1, .int .i64 x5.2.1.2.2.2.2.2, (v5.2.2.1)]) (j := 0) (i := x3) (enc := B9) F Aa Aa (Bg 0 Aa) h3 D8 C6 (by rw [h5]; rfl)).q fun a w F W => ?_
    have W := W.note (W.rowAt (k := 0) Aa h3 (BC.snd (BC.snd BC.here)) (congrArg (fun q : Int × (Int × (Int × Int × Int × Int) × (Int × Int × Int × Int)) × (List (Int × Int × Int)) => q.2.2) h4))
    refine Cp (cs := [.int .i64 0, .int .i64 0, .int .i64 0, .int .i64 0, .int .i64 0, .int .i64 0, .int .i64 0, .int .i64 0, .int .i64 0, .int .i64 0, .slice none 0 0]) F W Aa K0 Aa fun b2 a w F W => ?_
    refine ls F W Aa (Ag F Aa).q fun a w F W => ?_
    refine BB (vs := [.int .i64 x5.1, .int .i64 x5.2.1.1, .int .i64 x5.2.1.2.1.1, .int .i64 x5.2.1.2.1.2.1, .int .i64 x5.2.1.2.1.2.2.1, .int .i64 x5.2.1.2.1.2.2.2, .int .i64 x5.2.1.2.2.1, .int .i64 x5.2.1.2.2.2.1, .int .i64 x5.2.1.2.2.2.2.1, .int .i64 x5.2.1.2.2.2.2.2, (v5.2.2.1)]) (M' := [(b2, [.int .i64 x5.1, .int .i64 x5.2.1.1, .int .i64 x5.2.1.2.1.1, .int .i64 x5.2.1.2.1.2.1, .int .i64 x5.2.1.2.1.2.2.1, .int .i64 x5.2.1.2.1.2.2.2, .int .i64 x5.2.1.2.2.1, .int .i64 x5.2.1.2.2.2.1, .int .i64 x5.2.1.2.2.2.2.1, .int .i64 x5.2.1.2.2.2.2.2, (v5.2.2.1)]), (b1, [.int .i64 p1.1, .int .i64 p1.2.1.1, .int .i64 p1.2.1.2.1.1, .int .i64 p1.2.1.2.1.2.1, .int .i64 p1.2.1.2.1.2.2.1, .int .i64 p1.2.1.2.1.2.2.2, .int .i64 p1.2.1.2.2.1, .int .i64 p1.2.1.2.2.2.1, .int .i64 p1.2.1.2.2.2.2.1, .int .i64 p1.2.1.2.2.2.2.2, v2])]) 0 F W Aa Aa Aa C6 Aa Aa Aa (An Aa (An Aa (An Aa (An Aa (An Aa (An Aa (An Aa (An Aa (An Aa (An Aa (An (W.oneF (k := 0) Aa) Di))))))))))) Aa fun w W => ?_
    refine Af (Ad (Ak (Ae ?_)))
    refine ls F W Aa (Ah F Aa).q fun a w F W => ?_
    refine ls F W Aa (As (v := Value.agg #[.int .i64 x5.1, .int .i64 x5.2.1.1, .int .i64 x5.2.1.2.1.1, .int .i64 x5.2.1.2.1.2.1, .int .i64 x5.2.1.2.1.2.2.1, .int .i64 x5.2.1.2.1.2.2.2, .int .i64 x5.2.1.2.2.1, .int .i64 x5.2.1.2.2.2.1, .int .i64 x5.2.1.2.2.2.2.1, .int .i64 x5.2.1.2.2.2.2.2, (v5.2.2.1)]) 0 F Aa Aa C6 Aa).q fun a w F W => ?_
    obtain ⟨x6, h6, H⟩ := Ap H
    refine ls F W Aa (EY (ws := [.agg #[.int .i64 x5.1, .int .i64 x5.2.1.1, .int .i64 x5.2.1.2.1.1, .int .i64 x5.2.1.2.1.2.1, .int .i64 x5.2.1.2.1.2.2.1, .int .i64 x5.2.1.2.1.2.2.2, .int .i64 x5.2.1.2.2.1, .int .i64 x5.2.1.2.2.2.1, .int .i64 x5.2.1.2.2.2.2.1, .int .i64 x5.2.1.2.2.2.2.2, (v5.2.2.1)], .pointer (some ⟨q_p2c0, 0, none⟩)]) (v := Value.bool x6) F OJ Aa (fun w W => Ej any w ((v5.2.2.1)) q_p2c0 (v3) x5 p2c0 _ h6 (((CH 0 Aa) : CV _ _ _ _ _ _) w W).nx (((Au h_v3) : CV _ _ _ _ _ _) w W).nx (At.re a_q_p2c0 W))) fun a w F W => ?_
    refine Af (Ad ?_)
    refine AA F Aa (fun hb => ?_) fun hb => ?_
    ·
     have H := AK hb H
     rw [hb] at F
     clear hb
     refine Ae ?_
     iterate 2 refine ls F W Aa (Ah F Aa).q fun a w F W => ?_
     refine ls F W Aa (As (v := Value.agg #[.int .i64 p1.1, .int .i64 p1.2.1.1, .int .i64 p1.2.1.2.1.1, .int .i64 p1.2.1.2.1.2.1, .int .i64 p1.2.1.2.1.2.2.1, .int .i64 p1.2.1.2.1.2.2.2, .int .i64 p1.2.1.2.2.1, .int .i64 p1.2.1.2.2.2.1, .int .i64 p1.2.1.2.2.2.2.1, .int .i64 p1.2.1.2.2.2.2.2, v2]) 1 F Aa Aa C6 Aa).q fun a w F W => ?_
     obtain ⟨x7, h7, H⟩ := Ap H
     refine Bp (Ml := []) (Zl := []) (M := [(b2, [.int .i64 x5.1, .int .i64 x5.2.1.1, .int .i64 x5.2.1.2.1.1, .int .i64 x5.2.1.2.1.2.1, .int .i64 x5.2.1.2.1.2.2.1, .int .i64 x5.2.1.2.1.2.2.2, .int .i64 x5.2.1.2.2.1, .int .i64 x5.2.1.2.2.2.1, .int .i64 x5.2.1.2.2.2.2.1, .int .i64 x5.2.1.2.2.2.2.2, (v5.2.2.1)]), (b1, [.int .i64 p1.1, .int .i64 p1.2.1.1, .int .i64 p1.2.1.2.1.1, .int .i64 p1.2.1.2.1.2.1, .int .i64 p1.2.1.2.1.2.2.1, .int .i64 p1.2.1.2.1.2.2.2, .int .i64 p1.2.1.2.2.1, .int .i64 p1.2.1.2.2.2.1, .int .i64 p1.2.1.2.2.2.2.1, .int .i64 p1.2.1.2.2.2.2.2, v2])]) (Z := [BM (v5.2.2.1) Bu x5.2.2, row v1 40 CM v4]) (β := Value) (rv := fun x => .agg #[.int .i64 x7.1, .int .i64 x7.2.1.1, .int .i64 x7.2.1.2.1.1, .int .i64 x7.2.1.2.1.2.1, .int .i64 x7.2.1.2.1.2.2.1, .int .i64 x7.2.1.2.1.2.2.2, .int .i64 x7.2.1.2.2.1, .int .i64 x7.2.1.2.2.2.1, .int .i64 x7.2.1.2.2.2.2.1, .int .i64 x7.2.1.2.2.2.2.2, x]) (MM := fun x => []) (ZZ := fun x => [row x 61 Bu x7.2.2]) F W Oq Aa Aa (fun hL => CY _ w (v2) p1 _ h7 (W.old s_v2)) fun x a w F W => ?_
     obtain ⟨v6, rfl⟩ : ∃ y, y = x := ⟨x, rfl⟩
     have W : Stw ⟨Y, X, w0⟩ [(b2, [.int .i64 x5.1, .int .i64 x5.2.1.1, .int .i64 x5.2.1.2.1.1, .int .i64 x5.2.1.2.1.2.1, .int .i64 x5.2.1.2.1.2.2.1, .int .i64 x5.2.1.2.1.2.2.2, .int .i64 x5.2.1.2.2.1, .int .i64 x5.2.1.2.2.2.1, .int .i64 x5.2.1.2.2.2.2.1, .int .i64 x5.2.1.2.2.2.2.2, (v5.2.2.1)]), (b1, [.int .i64 p1.1, .int .i64 p1.2.1.1, .int .i64 p1.2.1.2.1.1, .int .i64 p1.2.1.2.1.2.1, .int .i64 p1.2.1.2.1.2.2.1, .int .i64 p1.2.1.2.1.2.2.2, .int .i64 p1.2.1.2.2.1, .int .i64 p1.2.1.2.2.2.1, .int .i64 p1.2.1.2.2.2.2.1, .int .i64 p1.2.1.2.2.2.2.2, v2])] [row v6 61 Bu x7.2.2, BM (v5.2.2.1) Bu x5.2.2, row v1 40 CM v4] w := W
     refine ls F W Aa (KE (v := v6) Ct Aa Aa Aa Hr F Aa Aa).q fun a w F W => ?_
     obtain ⟨x8, h8, H⟩ := Ap H
     obtain ⟨v7, h9, h10⟩ := CE h1 h8
     have h11 : B9 v7 = [.int .i64 x8.1, .int .i64 x8.2.1.1, .int .i64 x8.2.1.2.1.1, .int .i64 x8.2.1.2.1.2.1, .int .i64 x8.2.1.2.1.2.2.1, .int .i64 x8.2.1.2.1.2.2.2, .int .i64 x8.2.1.2.2.1, .int .i64 x8.2.1.2.2.2.1, .int .i64 x8.2.1.2.2.2.2.1, .int .i64 x8.2.1.2.2.2.2.2, (v7.2.2.1)] := congrArg (fun q : Int × (Int × (Int × Int × Int × Int) × (Int × Int × Int × Int)) × (List (Int × Int × Int)) => ([.int .i64 q.1, .int .i64 q.2.1.1, .int .i64 q.2.1.2.1.1, .int .i64 q.2.1.2.1.2.1, .int .i64 q.2.1.2.1.2.2.1, .int .i64 q.2.1.2.1.2.2.2, .int .i64 q.2.1.2.2.1, .int .i64 q.2.1.2.2.2.1, .int .i64 q.2.1.2.2.2.2.1, .int .i64 q.2.1.2.2.2.2.2, (v7.2.2.1)] : List Value)) h10
     refine ls F W Aa (Bd (r := CM) Fh F Aa Aa (Bg 2 Aa) h9).q fun a w F W => ?_
     refine ls F W Aa (Al Ct Aa Aa Aa Hr F Aa (DS v1 + (x3).toNat * 11 + 10) Aa).q fun a w F W => ?_
     have W := W.freeze
     have W := W.frontZ (i := 2) Aa Aa
     have W := W.hideR Bl h1
     refine Fj (r := Bc) (i := x3) (j := 10) (vs := [v6]) (x' := (x8.1, x8.2.1, x7.2.2)) F W rfl rfl rfl (k := 0) rfl rfl h8 Hr (FF (W.oneF (k := 1) rfl)) rfl rfl (An (W.oneF (k := 1) rfl) Di) (fun A cs hA hc => by obtain ⟨z, hz, hc⟩ := Bl.to hc; have e1 := D8 hc; have e2 : B9 z = [.int .i64 x8.1, .int .i64 x8.2.1.1, .int .i64 x8.2.1.2.1.1, .int .i64 x8.2.1.2.1.2.1, .int .i64 x8.2.1.2.1.2.2.1, .int .i64 x8.2.1.2.1.2.2.2, .int .i64 x8.2.1.2.2.1, .int .i64 x8.2.1.2.2.2.1, .int .i64 x8.2.1.2.2.2.2.1, .int .i64 x8.2.1.2.2.2.2.2, (z.2.2.1)] := (congrArg (fun q : Int × (Int × (Int × Int × Int × Int) × (Int × Int × Int × Int)) × (List (Int × Int × Int)) => ([.int .i64 q.1, .int .i64 q.2.1.1, .int .i64 q.2.1.2.1.1, .int .i64 q.2.1.2.1.2.1, .int .i64 q.2.1.2.1.2.2.1, .int .i64 q.2.1.2.1.2.2.2, .int .i64 q.2.1.2.2.1, .int .i64 q.2.1.2.2.2.1, .int .i64 q.2.1.2.2.2.2.1, .int .i64 q.2.1.2.2.2.2.2, (z.2.2.1)] : List Value)) hz); rw [e1, e2]; exact ⟨[Value.int .i64 x8.1], [Value.int .i64 x8.2.1.1, Value.int .i64 x8.2.1.2.1.1, Value.int .i64 x8.2.1.2.1.2.1, Value.int .i64 x8.2.1.2.1.2.2.1, Value.int .i64 x8.2.1.2.1.2.2.2, Value.int .i64 x8.2.1.2.2.1, Value.int .i64 x8.2.1.2.2.2.1, Value.int .i64 x8.2.1.2.2.2.2.1, Value.int .i64 x8.2.1.2.2.2.2.2, v6], rfl, rfl, ⟨[Value.int .i64 x8.2.1.1, Value.int .i64 x8.2.1.2.1.1, Value.int .i64 x8.2.1.2.1.2.1, Value.int .i64 x8.2.1.2.1.2.2.1, Value.int .i64 x8.2.1.2.1.2.2.2, Value.int .i64 x8.2.1.2.2.1, Value.int .i64 x8.2.1.2.2.2.1, Value.int .i64 x8.2.1.2.2.2.2.1, Value.int .i64 x8.2.1.2.2.2.2.2], [v6], rfl, ⟨[Value.int .i64 x8.2.1.1], [Value.int .i64 x8.2.1.2.1.1, Value.int .i64 x8.2.1.2.1.2.1, Value.int .i64 x8.2.1.2.1.2.2.1, Value.int .i64 x8.2.1.2.1.2.2.2, Value.int .i64 x8.2.1.2.2.1, Value.int .i64 x8.2.1.2.2.2.1, Value.int .i64 x8.2.1.2.2.2.2.1, Value.int .i64 x8.2.1.2.2.2.2.2], rfl, rfl, ⟨[Value.int .i64 x8.2.1.2.1.1, Value.int .i64 x8.2.1.2.1.2.1, Value.int .i64 x8.2.1.2.1.2.2.1, Value.int .i64 x8.2.1.2.1.2.2.2], [Value.int .i64 x8.2.1.2.2.1, Value.int .i64 x8.2.1.2.2.2.1, Value.int .i64 x8.2.1.2.2.2.2.1, Value.int .i64 x8.2.1.2.2.2.2.2], rfl, ⟨[Value.int .i64 x8.2.1.2.1.1], [Value.int .i64 x8.2.1.2.1.2.1, Value.int .i64 x8.2.1.2.1.2.2.1, Value.int .i64 x8.2.1.2.1.2.2.2], rfl, rfl, ⟨[Value.int .i64 x8.2.1.2.1.2.1], [Value.int .i64 x8.2.1.2.1.2.2.1, Value.int .i64 x8.2.1.2.1.2.2.2], rfl, rfl, ⟨[Value.int .i64 x8.2.1.2.1.2.2.1], [Value.int .i64 x8.2.1.2.1.2.2.2], rfl, rfl, rfl⟩⟩⟩, ⟨[Value.int .i64 x8.2.1.2.2.1], [Value.int .i64 x8.2.1.2.2.2.1, Value.int .i64 x8.2.1.2.2.2.2.1, Value.int .i64 x8.2.1.2.2.2.2.2], rfl, rfl, ⟨[Value.int .i64 x8.2.1.2.2.2.1], [Value.int .i64 x8.2.1.2.2.2.2.1, Value.int .i64 x8.2.1.2.2.2.2.2], rfl, rfl, ⟨[Value.int .i64 x8.2.1.2.2.2.2.1], [Value.int .i64 x8.2.1.2.2.2.2.2], rfl, rfl, rfl⟩⟩⟩⟩⟩, ⟨_, rfl, (Sl.stab (W.item (i := 1) rfl) (fun b hb _ => ⟨hA b hb, rfl⟩))⟩⟩⟩) fun w W => ?_
     refine Af (A5 (Ad ?_))
     have W := W.frontM (i := 1) Aa Aa
     have W := W.sub (M' := [(b1, [.int .i64 p1.1, .int .i64 p1.2.1.1, .int .i64 p1.2.1.2.1.1, .int .i64 p1.2.1.2.1.2.1, .int .i64 p1.2.1.2.1.2.2.1, .int .i64 p1.2.1.2.1.2.2.2, .int .i64 p1.2.1.2.2.1, .int .i64 p1.2.1.2.2.2.1, .int .i64 p1.2.1.2.2.2.2.1, .int .i64 p1.2.1.2.2.2.2.2, v2])]) (Z' := [row v1 40 Bc (Dq x2 x3 (x8.1, x8.2.1, x7.2.2))]) (List.Sublist.cons_cons _ (List.nil_sublist _)) (List.Sublist.cons_cons _ (List.nil_sublist _))
     exact ⟨_, H, F.re ⟨rfl, Aa, Aa, Aa, Aa, Aa, Aa, trivial⟩, W⟩
    have H := AJ (by rw [hb]; decide) H
    rw [hb] at F
    clear hb
    refine Ay (A5 (Ad ?_))
    have W := W.frontZ (i := 1) Aa Aa
    have W := W.hideR Bl h1
    have W := W.frontM (i := 1) Aa Aa
    have W := W.sub (M' := [(b1, [.int .i64 p1.1, .int .i64 p1.2.1.1, .int .i64 p1.2.1.2.1.1, .int .i64 p1.2.1.2.1.2.1, .int .i64 p1.2.1.2.1.2.2.1, .int .i64 p1.2.1.2.1.2.2.2, .int .i64 p1.2.1.2.2.1, .int .i64 p1.2.1.2.2.2.1, .int .i64 p1.2.1.2.2.2.2.1, .int .i64 p1.2.1.2.2.2.2.2, v2])]) (Z' := [row v1 40 Bc x2]) (List.Sublist.cons_cons _ (List.nil_sublist _)) (List.Sublist.cons_cons _ (List.nil_sublist _))
    exact ⟨_, H, F.re ⟨rfl, Aa, Aa, Aa, Aa, Aa, Aa, trivial⟩, W⟩
   rintro a w ⟨x4, hj, F, W⟩
   have hj := AL hj
   subst hj
   have H := K3
   clear G3 K3
   refine Ae ?_
   refine ls F W Aa (B7 F Aa Aa Aa).q fun a w F W => ?_
   refine ls F W Aa (Ah F Aa).q fun a w F W => ?_
   refine Af (Ad ?_)
   exact ⟨_, H, F.re ⟨rfl, Aa, Aa, Aa, Aa, Aa, Aa, trivial⟩, W⟩
  have H := AJ (Bh hb) H
  rw [hb] at F
  clear hb
  refine Bw ?_
  iterate 2 refine B3 ?_
  refine Bx (Ad ?_)
  have H := L2 _ H
  exact ⟨_, H, F.re ⟨rfl, Aa, trivial⟩, W⟩
 rintro a w ⟨x1, hj, F, W⟩
 have hj := AL hj
 subst hj
 have H := K1
 clear G1 K1
 refine Ak (Ae ?_)
 refine ls F W Aa (Ah F Aa).q fun a w F W => ?_
 refine ls F W Aa (Ag F Aa).q fun a w F W => ?_
 refine Af (Ad (Ax ?_))
 have H := AL H
 subst H
 refine AF (.inl Aa) F W Aa (Av F Aa) ?_
 have W := W.sub (M' := []) (Z' := [row v1 40 Bc x1]) (List.nil_sublist _) (List.Sublist.refl _)
 exact ⟨(v1), Aa, W⟩
noncomputable def AW (p0 : List (Int × (Int × (Int × Int × Int × Int) × (Int × Int × Int × Int)) × (List (Int × Int × Int)))) (p1c0 : Int × (Int × (Int × Int × Int × Int) × (Int × Int × Int × Int)) × (List (Int × Int × Int))) : Int → Option (Int ⊕ (Unit ⊕ Int))
  | x1 => (if x1 < (p0.length : Int) then (ix p0 x1).bind fun x2 => (Ca x2 p1c0).bind fun x3 => (if x3 = true then some (.inr (.inr x1)) else some (.inl (CA (x1 + 1)))) else some (.inr (.inl ())))
noncomputable def A4 (p0 : List (Int × (Int × (Int × Int × Int × Int) × (Int × Int × Int × Int)) × (List (Int × Int × Int)))) (p1c0 : Int × (Int × (Int × Int × Int × Int) × (Int × Int × Int × Int)) × (List (Int × Int × Int))) : Option Int := Fp (Bk (AW p0 p1c0) 0) fun _ => some (-1)
theorem DC (Y : Nat → Prop) (w0 : World) (v1 : Value) (q_p1c0 : Nat) (v2 : Value) (p0 : List (Int × (Int × (Int × Int × Int × Int) × (Int × Int × Int × Int)) × (List (Int × Int × Int)))) (p1c0 : Int × (Int × (Int × Int × Int × Int) × (Int × Int × Int × Int)) × (List (Int × Int × Int))) (r : Int) (H : A4 p0 p1c0 = some r) (h_v1 : Sl w0 (NX []) Bc v1 p0) (h_v2 : Sl w0 (NX []) Bu v2 p1c0.2.2) (a_q_p1c0 : At ⟨Y, [], w0⟩ q_p1c0 0 [.int .i64 p1c0.1, .int .i64 p1c0.2.1.1, .int .i64 p1c0.2.1.2.1.1, .int .i64 p1c0.2.1.2.1.2.1, .int .i64 p1c0.2.1.2.1.2.2.1, .int .i64 p1c0.2.1.2.1.2.2.2, .int .i64 p1c0.2.1.2.2.1, .int .i64 p1c0.2.1.2.2.2.1, .int .i64 p1c0.2.1.2.2.2.2.1, .int .i64 p1c0.2.1.2.2.2.2.2, v2]) :
    Calls Try.prog 36 #[v1, .func (.func 64) #[] #[.pointer (some ⟨q_p1c0, 0, none⟩)]] w0 fun e w' => e = .returned (.int .i64 r) ∧ Below w0.heap.size w0 w' := by
 refine enter Try.func36 Aa Try.ntmps36 Aa fun a F => ?_
 have W := Stw.start Y w0
 obtain ⟨v3, h1, h_v1⟩ := h_v1.ex Bl
 unfold A4 at H
 refine Ak (Ae ?_)
 refine ls F W Aa (Ag F Aa).q fun a w F W => ?_
 refine Af (Ad ?_)
 obtain ⟨o1, G1, K1, L1⟩ := HZ H
 refine AH (fun a w => some (Sum.inl ()) = some o1 ∧ Fr 19 [] [(4, .int .i64 0)] a ∧ Stw ⟨Y, [], w0⟩ [] [] w) ?_ ?_
 ·
  have H := G1
  clear G1 K1
  refine Ak (Ae ?_)
  refine ls F W Aa (Ah F Aa).q fun a w F W => ?_
  refine ls F W Aa (B1 (r := Bc) (l := p0) DZ Aa F Aa (Be Bl h1 (Au h_v1))).q fun a w F W => ?_
  refine ls F W Aa (Ah F Aa).q fun a w F W => ?_
  refine Af (Ad (AC ?_))
  refine Bz H (fun s a w => Fr 19 [] [(0, v1), (1, .func (.func 64) #[] #[.pointer (some ⟨q_p1c0, 0, none⟩)]), (4, .int .i64 0), (7, .int .i64 (p0.length : Int)), (8, .int .i64 s)] a ∧ Stw ⟨Y, [], w0⟩ [] [] w) ⟨F.re ⟨rfl, Aa, Aa, Aa, Aa, trivial⟩, W⟩ fun s o a w H L2 hR => ?_
  obtain ⟨x1, rfl⟩ : ∃ x, x = s := ⟨s, rfl⟩
  obtain ⟨F, W⟩ := hR
  have F : Fr 19 [] [(0, v1), (1, .func (.func 64) #[] #[.pointer (some ⟨q_p1c0, 0, none⟩)]), (4, .int .i64 0), (7, .int .i64 (p0.length : Int)), (8, .int .i64 x1)] a := F
  have W : Stw ⟨Y, [], w0⟩ [] [] w := W
  rw [AW] at H
  refine Ak (Ae ?_)
  refine ls F W Aa (BN F Aa Aa).q fun a w F W => ?_
  refine Af (Ad (Ak ?_))
  refine AA F Aa (fun hb => ?_) fun hb => ?_
  ·
   have H := AK (Bi hb) H
   rw [hb] at F
   clear hb
   refine Ay (Ad (Ak (AC (Ak (Ae ?_)))))
   refine ls F W Aa (Ah F Aa).q fun a w F W => ?_
   refine ls F W Aa (Ag F Aa).q fun a w F W => ?_
   refine Af (Ad (Ak (Ae ?_)))
   iterate 3 refine ls F W Aa (Ah F Aa).q fun a w F W => ?_
   obtain ⟨x2, h2, H⟩ := Ap H
   obtain ⟨v4, h3, h4⟩ := CE h1 h2
   have h5 : B9 v4 = [.int .i64 x2.1, .int .i64 x2.2.1.1, .int .i64 x2.2.1.2.1.1, .int .i64 x2.2.1.2.1.2.1, .int .i64 x2.2.1.2.1.2.2.1, .int .i64 x2.2.1.2.1.2.2.2, .int .i64 x2.2.1.2.2.1, .int .i64 x2.2.1.2.2.2.1, .int .i64 x2.2.1.2.2.2.2.1, .int .i64 x2.2.1.2.2.2.2.2, (v4.2.2.1)] := congrArg (fun q : Int × (Int × (Int × Int × Int × Int) × (Int × Int × Int × Int)) × (List (Int × Int × Int)) => ([.int .i64 q.1, .int .i64 q.2.1.1, .int .i64 q.2.1.2.1.1, .int .i64 q.2.1.2.1.2.1, .int .i64 q.2.1.2.1.2.2.1, .int .i64 q.2.1.2.1.2.2.2, .int .i64 q.2.1.2.2.1, .int .i64 q.2.1.2.2.2.1, .int .i64 q.2.1.2.2.2.2.1, .int .i64 q.2.1.2.2.2.2.2, (v4.2.2.1)] : List Value)) h4
   refine ls F W Aa (Bd (r := CM) Fh F Aa Aa (Au h_v1) h3).q fun a w F W => ?_
   refine ls F W Aa (A1 (y := Value.agg #[.int .i64 x2.1, .int .i64 x2.2.1.1, .int .i64 x2.2.1.2.1.1, .int .i64 x2.2.1.2.1.2.1, .int .i64 x2.2.1.2.1.2.2.1, .int .i64 x2.2.1.2.1.2.2.2, .int .i64 x2.2.1.2.2.1, .int .i64 x2.2.1.2.2.2.1, .int .i64 x2.2.1.2.2.2.2.1, .int .i64 x2.2.1.2.2.2.2.2, (v4.2.2.1)]) (j := 0) (i := x1) (enc := B9) F Aa Aa (Au h_v1) h3 D8 C6 (by rw [h5]; rfl)).q fun a w F W => ?_
   obtain ⟨x3, h6, H⟩ := Ap H
   refine ls F W Aa (EY (ws := [.agg #[.int .i64 x2.1, .int .i64 x2.2.1.1, .int .i64 x2.2.1.2.1.1, .int .i64 x2.2.1.2.1.2.1, .int .i64 x2.2.1.2.1.2.2.1, .int .i64 x2.2.1.2.1.2.2.2, .int .i64 x2.2.1.2.2.1, .int .i64 x2.2.1.2.2.2.1, .int .i64 x2.2.1.2.2.2.2.1, .int .i64 x2.2.1.2.2.2.2.2, (v4.2.2.1)], .pointer (some ⟨q_p1c0, 0, none⟩)]) (v := Value.bool x3) F OJ Aa (fun w W => Ej any w ((v4.2.2.1)) q_p1c0 (v2) x2 p1c0 _ h6 (((DU (Au h_v1) h3 (BC.snd (BC.snd BC.here)) (congrArg (fun q : Int × (Int × (Int × Int × Int × Int) × (Int × Int × Int × Int)) × (List (Int × Int × Int)) => q.2.2) h4)) : CV _ _ _ _ _ _) w W).nx (((Au h_v2) : CV _ _ _ _ _ _) w W).nx (At.re a_q_p1c0 W))) fun a w F W => ?_
   refine Af (Ad ?_)
   refine AA F Aa (fun hb => ?_) fun hb => ?_
   ·
    have H := AK hb H
    rw [hb] at F
    clear hb
    refine Ak (Ae ?_)
    refine ls F W Aa (Ah F Aa).q fun a w F W => ?_
    refine ls F W Aa (Ag F Aa).q fun a w F W => ?_
    refine Af (Ad (Ax (AO ?_)))
    iterate 2 refine AD ?_
    refine AO (AD ?_)
    have H := L2 _ H
    have H := L1 _ H
    have H := AL H
    subst H
    refine AF (.inl Aa) F W Aa (Av F Aa) ?_
    exact ⟨rfl, W.done⟩
   have H := AJ (by rw [hb]; decide) H
   rw [hb] at F
   clear hb
   refine Ay (A5 (Ad (Ae ?_)))
   refine ls F W Aa (B7 F Aa Aa Aa).q fun a w F W => ?_
   refine ls F W Aa (Ah F Aa).q fun a w F W => ?_
   refine Af (Ad ?_)
   exact ⟨_, H, F.re ⟨rfl, Aa, Aa, Aa, Aa, trivial⟩, W⟩
  have H := AJ (Bh hb) H
  rw [hb] at F
  clear hb
  refine Bw ?_
  iterate 2 refine B3 ?_
  refine Bx (Ad ?_)
  have H := L2 _ H
  exact ⟨H, F.re ⟨rfl, trivial⟩, W⟩
 rintro a w ⟨hj, F, W⟩
 have H := K1 _ hj
 clear hj G1 K1 L1
 refine Ak (Ae ?_)
 refine ls F W Aa (Ag F Aa).q fun a w F W => ?_
 refine Af (Ad (Ax ?_))
 have H := AL H
 subst H
 refine AF (.inl Aa) F W Aa (Av F Aa) ?_
 exact ⟨rfl, W.done⟩
noncomputable def AZ (p1c0 : Int × (Int × (Int × Int × Int × Int) × (Int × Int × Int × Int)) × (List (Int × Int × Int))) : ((List (Int × (Int × (Int × Int × Int × Int) × (Int × Int × Int × Int)) × (List (Int × Int × Int)))) × Int × Int) → Option (((List (Int × (Int × (Int × Int × Int × Int) × (Int × Int × Int × Int)) × (List (Int × Int × Int)))) × Int × Int) ⊕ ((List (Int × (Int × (Int × Int × Int × Int) × (Int × Int × Int × Int)) × (List (Int × Int × Int)))) × Int))
  | (x4, x5, x6) => (if x6 < (x4.length : Int) then ((ix x4 x6).bind fun x9 => (Ca x9 p1c0).bind fun x10 => (if (!x10) = true then (ix x4 x5).bind fun x11 => some ((Dq x4 x5 x9), CA (x5 + 1)) else some (x4, x5))).bind fun (x7, x8) => some (.inl (x7, x8, CA (x6 + 1))) else some (.inr (x4, x5)))
noncomputable def AS (p0 : List (Int × (Int × (Int × Int × Int × Int) × (Int × Int × Int × Int)) × (List (Int × Int × Int)))) (p1c0 : Int × (Int × (Int × Int × Int × Int) × (Int × Int × Int × Int)) × (List (Int × Int × Int))) : Option (List (Int × (Int × (Int × Int × Int × Int) × (Int × Int × Int × Int)) × (List (Int × Int × Int)))) := (A4 p0 p1c0).bind fun x1 => (if x1 = (-1) then some p0 else (Bk (AZ p1c0) (p0, x1, CA (x1 + 1))).bind fun (x2, x3) => (DJ x2 x3 (x2.length : Int)).bind fun x12 => (Mw x2 x3 (List.replicate (x12.length) ((0, (0, (0, 0, 0, 0), (0, 0, 0, 0)), []) : Int × (Int × (Int × Int × Int × Int) × (Int × Int × Int × Int)) × (List (Int × Int × Int))))).bind fun x13 => (DJ x13 0 x3).bind fun x14 => some x14)
theorem DF (Y : Nat → Prop) (X : List Nat) (w0 : World) (v1 : Value) (q_p1c0 : Nat) (v2 : Value) (p0 : List (Int × (Int × (Int × Int × Int × Int) × (Int × Int × Int × Int)) × (List (Int × Int × Int)))) (p1c0 : Int × (Int × (Int × Int × Int × Int) × (Int × Int × Int × Int)) × (List (Int × Int × Int))) (r : (List (Int × (Int × (Int × Int × Int × Int) × (Int × Int × Int × Int)) × (List (Int × Int × Int))))) (H : AS p0 p1c0 = some r) (h_v2 : Sl w0 (NX X) Bu v2 p1c0.2.2) (a_q_p1c0 : At ⟨Y, X, w0⟩ q_p1c0 0 [.int .i64 p1c0.1, .int .i64 p1c0.2.1.1, .int .i64 p1c0.2.1.2.1.1, .int .i64 p1c0.2.1.2.1.2.1, .int .i64 p1c0.2.1.2.1.2.2.1, .int .i64 p1c0.2.1.2.1.2.2.2, .int .i64 p1c0.2.1.2.2.1, .int .i64 p1c0.2.1.2.2.2.1, .int .i64 p1c0.2.1.2.2.2.2.1, .int .i64 p1c0.2.1.2.2.2.2.2, v2]) (hL : Stw ⟨Y, X, w0⟩ [] [row v1 40 Bc p0] w0) :
    Calls Try.prog 46 #[v1, .func (.func 64) #[] #[.pointer (some ⟨q_p1c0, 0, none⟩)]] w0 fun e w' => ∃ x : Value, e = .returned (x) ∧ Stw ⟨Y, X, w0⟩ [] [row (x) 40 Bc r] w' := by
 refine enter Try.func46 Aa Try.ntmps46 Aa fun a F => ?_
 have W := hL
 unfold AS at H
 refine Ak (Ae ?_)
 refine ls F W Aa (Ag F Aa).q fun a w F W => ?_
 refine Af (Ad (Ak (Ae ?_)))
 iterate 2 refine ls F W Aa (Ah F Aa).q fun a w F W => ?_
 obtain ⟨x1, h1, H⟩ := Ap H
 refine ls F W Aa (AY (v := Value.int .i64 x1) F NR Aa (fun w W => DC any w (v1) q_p1c0 (v2) p0 p1c0 _ h1 (((Bg 0 Aa) : CV _ _ _ _ _ _) w W).nx (((Au h_v2) : CV _ _ _ _ _ _) w W).nx (At.re a_q_p1c0 W))) fun a w F W => ?_
 refine ls F W Aa (Ag F Aa).q fun a w F W => ?_
 refine Af (Ad (Ak (Ak (Ae ?_))))
 refine ls F W Aa (Ah F Aa).q fun a w F W => ?_
 refine ls F W Aa (BJ F Aa Aa).q fun a w F W => ?_
 refine Af (Ad ?_)
 refine AA F Aa (fun hb => ?_) fun hb => ?_
 ·
  have H := AK (Bi hb) H
  rw [hb] at F
  clear hb
  refine Ak (Ae ?_)
  refine ls F W Aa (Ah F Aa).q fun a w F W => ?_
  refine ls F W Aa (Ag F Aa).q fun a w F W => ?_
  refine Af (Ad (Ax (AD ?_)))
  have H := AL H
  subst H
  refine AF (.inl Aa) F W Aa (Av F Aa) ?_
  exact ⟨(v1), Aa, W⟩
 have H := AJ (Bh hb) H
 rw [hb] at F
 clear hb
 refine Ay (Ad ?_)
 obtain ⟨o1, G1, K1⟩ := Ap H
 refine AH (fun a w => ∃ x2 : List (Int × (Int × (Int × Int × Int × Int) × (Int × Int × Int × Int)) × (List (Int × Int × Int))), ∃ x3 : Int, some ((x2, x3)) = some o1 ∧ Fr 42 [] [(0, v1), (4, .slice none 0 0), (5, .int .i64 x3)] a ∧ Stw ⟨Y, X, w0⟩ [] [row v1 40 Bc x2] w) ?_ ?_
 ·
  have H := G1
  clear G1 K1
  refine Ak (Ae ?_)
  refine ls F W Aa (Ah F Aa).q fun a w F W => ?_
  refine ls F W Aa (B7 F Aa Aa Aa).q fun a w F W => ?_
  refine ls F W Aa (Ag F Aa).q fun a w F W => ?_
  refine Af (Ad (AC ?_))
  refine Bz H (fun s a w => Fr 42 [] [(0, v1), (1, .func (.func 64) #[] #[.pointer (some ⟨q_p1c0, 0, none⟩)]), (4, .slice none 0 0), (5, .int .i64 s.2.1), (6, .int .i64 s.2.2)] a ∧ Stw ⟨Y, X, w0⟩ [] [row v1 40 Bc s.1] w) ⟨F.re ⟨rfl, Aa, Aa, Aa, Aa, trivial⟩, W⟩ fun s o a w H L2 hR => ?_
  obtain ⟨x4, x5, x6⟩ := s
  obtain ⟨F, W⟩ := hR
  have F : Fr 42 [] [(0, v1), (1, .func (.func 64) #[] #[.pointer (some ⟨q_p1c0, 0, none⟩)]), (4, .slice none 0 0), (5, .int .i64 x5), (6, .int .i64 x6)] a := F
  have W : Stw ⟨Y, X, w0⟩ [] [row v1 40 Bc x4] w := W
  rw [AZ] at H
  refine Ak (Ak (Ae ?_))
  iterate 2 refine ls F W Aa (Ah F Aa).q fun a w F W => ?_
  refine ls F W Aa (B1 (r := Bc) (l := x4) DZ Aa F Aa (Bg 0 Aa)).q fun a w F W => ?_
  refine ls F W Aa (BN F Aa Aa).q fun a w F W => ?_
  refine Af (Ad ?_)
  refine AA F Aa (fun hb => ?_) fun hb => ?_
  ·
   have H := AK (Bi hb) H
   rw [hb] at F
   clear hb
   refine Ay (Ad ?_)
   obtain ⟨o3, G3, K3⟩ := Ap H
   refine AH (fun a w => ∃ x7 : List (Int × (Int × (Int × Int × Int × Int) × (Int × Int × Int × Int)) × (List (Int × Int × Int))), ∃ x8 : Int, some ((x7, x8)) = some o3 ∧ Fr 42 [] [(0, v1), (1, .func (.func 64) #[] #[.pointer (some ⟨q_p1c0, 0, none⟩)]), (4, .slice none 0 0), (5, .int .i64 x8), (6, .int .i64 x6)] a ∧ Stw ⟨Y, X, w0⟩ [] [row v1 40 Bc x7] w) ?_ ?_
   ·
    have H := G3
    clear G3 K3
    refine AC (Ak ?_)
    obtain ⟨v3, h2, W⟩ := W.exR Bl
    refine Ae ?_
    iterate 2 refine ls F W Aa (Ah F Aa).q fun a w F W => ?_
    obtain ⟨x9, h3, H⟩ := Ap H
    obtain ⟨v4, h4, h5⟩ := CE h2 h3
    have h6 : B9 v4 = [.int .i64 x9.1, .int .i64 x9.2.1.1, .int .i64 x9.2.1.2.1.1, .int .i64 x9.2.1.2.1.2.1, .int .i64 x9.2.1.2.1.2.2.1, .int .i64 x9.2.1.2.1.2.2.2, .int .i64 x9.2.1.2.2.1, .int .i64 x9.2.1.2.2.2.1, .int .i64 x9.2.1.2.2.2.2.1, .int .i64 x9.2.1.2.2.2.2.2, (v4.2.2.1)] := congrArg (fun q : Int × (Int × (Int × Int × Int × Int) × (Int × Int × Int × Int)) × (List (Int × Int × Int)) => ([.int .i64 q.1, .int .i64 q.2.1.1, .int .i64 q.2.1.2.1.1, .int .i64 q.2.1.2.1.2.1, .int .i64 q.2.1.2.1.2.2.1, .int .i64 q.2.1.2.1.2.2.2, .int .i64 q.2.1.2.2.1, .int .i64 q.2.1.2.2.2.1, .int .i64 q.2.1.2.2.2.2.1, .int .i64 q.2.1.2.2.2.2.2, (v4.2.2.1)] : List Value)) h5
    refine ls F W Aa (Bd (r := CM) Fh F Aa Aa (Bg 0 Aa) h4).q fun a w F W => ?_
    refine ls F W Aa (A1 (y := Value.agg #[.int .i64 x9.1, .int .i64 x9.2.1.1, .int .i64 x9.2.1.2.1.1, .int .i64 x9.2.1.2.1.2.1, .int .i64 x9.2.1.2.1.2.2.1, .int .i64 x9.2.1.2.1.2.2.2, .int .i64 x9.2.1.2.2.1, .int .i64 x9.2.1.2.2.2.1, .int .i64 x9.2.1.2.2.2.2.1, .int .i64 x9.2.1.2.2.2.2.2, (v4.2.2.1)]) (j := 0) (i := x6) (enc := B9) F Aa Aa (Bg 0 Aa) h4 D8 C6 (by rw [h6]; rfl)).q fun a w F W => ?_
    have W := W.note (W.rowAt (k := 0) Aa h4 (BC.snd (BC.snd BC.here)) (congrArg (fun q : Int × (Int × (Int × Int × Int × Int) × (Int × Int × Int × Int)) × (List (Int × Int × Int)) => q.2.2) h5))
    refine Cp (cs := [.int .i64 0, .int .i64 0, .int .i64 0, .int .i64 0, .int .i64 0, .int .i64 0, .int .i64 0, .int .i64 0, .int .i64 0, .int .i64 0, .slice none 0 0]) F W Aa K0 Aa fun b1 a w F W => ?_
    refine BB (vs := [.int .i64 x9.1, .int .i64 x9.2.1.1, .int .i64 x9.2.1.2.1.1, .int .i64 x9.2.1.2.1.2.1, .int .i64 x9.2.1.2.1.2.2.1, .int .i64 x9.2.1.2.1.2.2.2, .int .i64 x9.2.1.2.2.1, .int .i64 x9.2.1.2.2.2.1, .int .i64 x9.2.1.2.2.2.2.1, .int .i64 x9.2.1.2.2.2.2.2, (v4.2.2.1)]) (M' := [(b1, [.int .i64 x9.1, .int .i64 x9.2.1.1, .int .i64 x9.2.1.2.1.1, .int .i64 x9.2.1.2.1.2.1, .int .i64 x9.2.1.2.1.2.2.1, .int .i64 x9.2.1.2.1.2.2.2, .int .i64 x9.2.1.2.2.1, .int .i64 x9.2.1.2.2.2.1, .int .i64 x9.2.1.2.2.2.2.1, .int .i64 x9.2.1.2.2.2.2.2, (v4.2.2.1)])]) 0 F W Aa Aa Aa C6 Aa Aa Aa (An Aa (An Aa (An Aa (An Aa (An Aa (An Aa (An Aa (An Aa (An Aa (An Aa (An (W.oneF (k := 0) Aa) Di))))))))))) Aa fun w W => ?_
    refine Af (Ad (Ak (Ae ?_)))
    refine ls F W Aa (Ah F Aa).q fun a w F W => ?_
    refine ls F W Aa (As (v := Value.agg #[.int .i64 x9.1, .int .i64 x9.2.1.1, .int .i64 x9.2.1.2.1.1, .int .i64 x9.2.1.2.1.2.1, .int .i64 x9.2.1.2.1.2.2.1, .int .i64 x9.2.1.2.1.2.2.2, .int .i64 x9.2.1.2.2.1, .int .i64 x9.2.1.2.2.2.1, .int .i64 x9.2.1.2.2.2.2.1, .int .i64 x9.2.1.2.2.2.2.2, (v4.2.2.1)]) 0 F Aa Aa C6 Aa).q fun a w F W => ?_
    obtain ⟨x10, h7, H⟩ := Ap H
    refine ls F W Aa (EY (ws := [.agg #[.int .i64 x9.1, .int .i64 x9.2.1.1, .int .i64 x9.2.1.2.1.1, .int .i64 x9.2.1.2.1.2.1, .int .i64 x9.2.1.2.1.2.2.1, .int .i64 x9.2.1.2.1.2.2.2, .int .i64 x9.2.1.2.2.1, .int .i64 x9.2.1.2.2.2.1, .int .i64 x9.2.1.2.2.2.2.1, .int .i64 x9.2.1.2.2.2.2.2, (v4.2.2.1)], .pointer (some ⟨q_p1c0, 0, none⟩)]) (v := Value.bool x10) F OJ Aa (fun w W => Ej any w ((v4.2.2.1)) q_p1c0 (v2) x9 p1c0 _ h7 (((CH 0 Aa) : CV _ _ _ _ _ _) w W).nx (((Au h_v2) : CV _ _ _ _ _ _) w W).nx (At.re a_q_p1c0 W))) fun a w F W => ?_
    refine ls F W Aa (E9 F Aa).q fun a w F W => ?_
    refine Af (Ad ?_)
    refine AA F Aa (fun hb => ?_) fun hb => ?_
    ·
     have H := AK hb H
     rw [hb] at F
     clear hb
     refine Ak (Ae ?_)
     iterate 2 refine ls F W Aa (Ah F Aa).q fun a w F W => ?_
     refine ls F W Aa (As (v := Value.agg #[.int .i64 x9.1, .int .i64 x9.2.1.1, .int .i64 x9.2.1.2.1.1, .int .i64 x9.2.1.2.1.2.1, .int .i64 x9.2.1.2.1.2.2.1, .int .i64 x9.2.1.2.1.2.2.2, .int .i64 x9.2.1.2.2.1, .int .i64 x9.2.1.2.2.2.1, .int .i64 x9.2.1.2.2.2.2.1, .int .i64 x9.2.1.2.2.2.2.2, (v4.2.2.1)]) 0 F Aa Aa C6 Aa).q fun a w F W => ?_
     obtain ⟨x11, h8, H⟩ := Ap H
     obtain ⟨v5, h9, h10⟩ := CE h2 h8
     have h11 : B9 v5 = [.int .i64 x11.1, .int .i64 x11.2.1.1, .int .i64 x11.2.1.2.1.1, .int .i64 x11.2.1.2.1.2.1, .int .i64 x11.2.1.2.1.2.2.1, .int .i64 x11.2.1.2.1.2.2.2, .int .i64 x11.2.1.2.2.1, .int .i64 x11.2.1.2.2.2.1, .int .i64 x11.2.1.2.2.2.2.1, .int .i64 x11.2.1.2.2.2.2.2, (v5.2.2.1)] := congrArg (fun q : Int × (Int × (Int × Int × Int × Int) × (Int × Int × Int × Int)) × (List (Int × Int × Int)) => ([.int .i64 q.1, .int .i64 q.2.1.1, .int .i64 q.2.1.2.1.1, .int .i64 q.2.1.2.1.2.1, .int .i64 q.2.1.2.1.2.2.1, .int .i64 q.2.1.2.1.2.2.2, .int .i64 q.2.1.2.2.1, .int .i64 q.2.1.2.2.2.1, .int .i64 q.2.1.2.2.2.2.1, .int .i64 q.2.1.2.2.2.2.2, (v5.2.2.1)] : List Value)) h10
     refine ls F W Aa (Bd (r := CM) Fh F Aa Aa (Bg 1 Aa) h9).q fun a w F W => ?_
     have W := W.frontZ (i := 1) Aa Aa
     have W := W.hideR Bl h2
     refine Fj (r := Bc) (i := x5) (j := 0) (vs := [.int .i64 x9.1, .int .i64 x9.2.1.1, .int .i64 x9.2.1.2.1.1, .int .i64 x9.2.1.2.1.2.1, .int .i64 x9.2.1.2.1.2.2.1, .int .i64 x9.2.1.2.1.2.2.2, .int .i64 x9.2.1.2.2.1, .int .i64 x9.2.1.2.2.2.1, .int .i64 x9.2.1.2.2.2.2.1, .int .i64 x9.2.1.2.2.2.2.2, (v4.2.2.1)]) (x' := x9) F W rfl rfl rfl (k := 0) rfl rfl h8 C6 rfl rfl rfl (An rfl (An rfl (An rfl (An rfl (An rfl (An rfl (An rfl (An rfl (An rfl (An rfl (An (W.oneF (k := 1) rfl) Di))))))))))) (fun A cs hA hc => by obtain ⟨z, hz, hc⟩ := Bl.to hc; have e1 := D8 hc; have e2 : B9 z = [.int .i64 x11.1, .int .i64 x11.2.1.1, .int .i64 x11.2.1.2.1.1, .int .i64 x11.2.1.2.1.2.1, .int .i64 x11.2.1.2.1.2.2.1, .int .i64 x11.2.1.2.1.2.2.2, .int .i64 x11.2.1.2.2.1, .int .i64 x11.2.1.2.2.2.1, .int .i64 x11.2.1.2.2.2.2.1, .int .i64 x11.2.1.2.2.2.2.2, (z.2.2.1)] := (congrArg (fun q : Int × (Int × (Int × Int × Int × Int) × (Int × Int × Int × Int)) × (List (Int × Int × Int)) => ([.int .i64 q.1, .int .i64 q.2.1.1, .int .i64 q.2.1.2.1.1, .int .i64 q.2.1.2.1.2.1, .int .i64 q.2.1.2.1.2.2.1, .int .i64 q.2.1.2.1.2.2.2, .int .i64 q.2.1.2.2.1, .int .i64 q.2.1.2.2.2.1, .int .i64 q.2.1.2.2.2.2.1, .int .i64 q.2.1.2.2.2.2.2, (z.2.2.1)] : List Value)) hz); rw [e1, e2]; exact ⟨[Value.int .i64 x9.1], [Value.int .i64 x9.2.1.1, Value.int .i64 x9.2.1.2.1.1, Value.int .i64 x9.2.1.2.1.2.1, Value.int .i64 x9.2.1.2.1.2.2.1, Value.int .i64 x9.2.1.2.1.2.2.2, Value.int .i64 x9.2.1.2.2.1, Value.int .i64 x9.2.1.2.2.2.1, Value.int .i64 x9.2.1.2.2.2.2.1, Value.int .i64 x9.2.1.2.2.2.2.2, (v4.2.2.1)], rfl, rfl, ⟨[Value.int .i64 x9.2.1.1, Value.int .i64 x9.2.1.2.1.1, Value.int .i64 x9.2.1.2.1.2.1, Value.int .i64 x9.2.1.2.1.2.2.1, Value.int .i64 x9.2.1.2.1.2.2.2, Value.int .i64 x9.2.1.2.2.1, Value.int .i64 x9.2.1.2.2.2.1, Value.int .i64 x9.2.1.2.2.2.2.1, Value.int .i64 x9.2.1.2.2.2.2.2], [(v4.2.2.1)], rfl, ⟨[Value.int .i64 x9.2.1.1], [Value.int .i64 x9.2.1.2.1.1, Value.int .i64 x9.2.1.2.1.2.1, Value.int .i64 x9.2.1.2.1.2.2.1, Value.int .i64 x9.2.1.2.1.2.2.2, Value.int .i64 x9.2.1.2.2.1, Value.int .i64 x9.2.1.2.2.2.1, Value.int .i64 x9.2.1.2.2.2.2.1, Value.int .i64 x9.2.1.2.2.2.2.2], rfl, rfl, ⟨[Value.int .i64 x9.2.1.2.1.1, Value.int .i64 x9.2.1.2.1.2.1, Value.int .i64 x9.2.1.2.1.2.2.1, Value.int .i64 x9.2.1.2.1.2.2.2], [Value.int .i64 x9.2.1.2.2.1, Value.int .i64 x9.2.1.2.2.2.1, Value.int .i64 x9.2.1.2.2.2.2.1, Value.int .i64 x9.2.1.2.2.2.2.2], rfl, ⟨[Value.int .i64 x9.2.1.2.1.1], [Value.int .i64 x9.2.1.2.1.2.1, Value.int .i64 x9.2.1.2.1.2.2.1, Value.int .i64 x9.2.1.2.1.2.2.2], rfl, rfl, ⟨[Value.int .i64 x9.2.1.2.1.2.1], [Value.int .i64 x9.2.1.2.1.2.2.1, Value.int .i64 x9.2.1.2.1.2.2.2], rfl, rfl, ⟨[Value.int .i64 x9.2.1.2.1.2.2.1], [Value.int .i64 x9.2.1.2.1.2.2.2], rfl, rfl, rfl⟩⟩⟩, ⟨[Value.int .i64 x9.2.1.2.2.1], [Value.int .i64 x9.2.1.2.2.2.1, Value.int .i64 x9.2.1.2.2.2.2.1, Value.int .i64 x9.2.1.2.2.2.2.2], rfl, rfl, ⟨[Value.int .i64 x9.2.1.2.2.2.1], [Value.int .i64 x9.2.1.2.2.2.2.1, Value.int .i64 x9.2.1.2.2.2.2.2], rfl, rfl, ⟨[Value.int .i64 x9.2.1.2.2.2.2.1], [Value.int .i64 x9.2.1.2.2.2.2.2], rfl, rfl, rfl⟩⟩⟩⟩⟩, ⟨_, rfl, (Sl.stab (W.item (i := 1) rfl) (fun b hb _ => ⟨hA b hb, rfl⟩))⟩⟩⟩) fun w W => ?_
     refine Af (Ad (Ae ?_))
     refine ls F W Aa (Ah F Aa).q fun a w F W => ?_
     refine ls F W Aa (B7 F Aa Aa Aa).q fun a w F W => ?_
     refine ls F W Aa (Ag F Aa).q fun a w F W => ?_
     refine Af (A5 (Ad ?_))
     have W := W.sub (M' := []) (Z' := [row v1 40 Bc (Dq x4 x5 x9)]) (List.nil_sublist _) (List.Sublist.cons_cons _ (List.nil_sublist _))
     exact ⟨_, _, H, F.re ⟨rfl, Aa, Aa, Aa, Aa, trivial⟩, W⟩
    have H := AJ (by rw [hb]; decide) H
    rw [hb] at F
    clear hb
    refine Ay (A5 (Ad ?_))
    have W := W.frontZ (i := 1) Aa Aa
    have W := W.hideR Bl h2
    have W := W.sub (M' := []) (Z' := [row v1 40 Bc x4]) (List.nil_sublist _) (List.Sublist.cons_cons _ (List.nil_sublist _))
    exact ⟨_, _, H, F.re ⟨rfl, Aa, Aa, Aa, Aa, trivial⟩, W⟩
   rintro a w ⟨x7, x8, hj, F, W⟩
   have hj := AL hj
   subst hj
   have H := K3
   clear G3 K3
   refine Ae ?_
   refine ls F W Aa (Ah F Aa).q fun a w F W => ?_
   refine ls F W Aa (B7 F Aa Aa Aa).q fun a w F W => ?_
   refine ls F W Aa (Ag F Aa).q fun a w F W => ?_
   refine Af (Ad ?_)
   exact ⟨_, H, F.re ⟨rfl, Aa, Aa, Aa, Aa, trivial⟩, W⟩
  have H := AJ (Bh hb) H
  rw [hb] at F
  clear hb
  refine Bw ?_
  iterate 2 refine B3 ?_
  refine Bx (Ad ?_)
  have H := L2 _ H
  exact ⟨_, _, H, F.re ⟨rfl, Aa, Aa, trivial⟩, W⟩
 rintro a w ⟨x2, x3, hj, F, W⟩
 have hj := AL hj
 subst hj
 have H := K1
 clear G1 K1
 refine Ak (Ae ?_)
 iterate 2 refine ls F W Aa (Ah F Aa).q fun a w F W => ?_
 obtain ⟨x12, h12, H⟩ := Ap H
 refine ls F W Aa (ET (r := Bc) Fh F Aa Aa Aa (Bg 0 Aa) h12).q fun a w F W => ?_
 obtain ⟨x13, h13, H⟩ := Ap H
 refine KR (r := Bc) (v := v1) (k := 0) ((0, (0, (0, 0, 0, 0), (0, 0, 0, 0)), []) : Int × (Int × (Int × Int × Int × Int) × (Int × Int × Int × Int)) × (List (Int × Int × Int))) F W Fh K0 Aa Aa Aa h12 (fun w A => ⟨[Value.int .i64 0], [Value.int .i64 0, Value.int .i64 0, Value.int .i64 0, Value.int .i64 0, Value.int .i64 0, Value.int .i64 0, Value.int .i64 0, Value.int .i64 0, Value.int .i64 0, Value.slice none 0 0], Aa, Aa, ⟨[Value.int .i64 0, Value.int .i64 0, Value.int .i64 0, Value.int .i64 0, Value.int .i64 0, Value.int .i64 0, Value.int .i64 0, Value.int .i64 0, Value.int .i64 0], [Value.slice none 0 0], Aa, ⟨[Value.int .i64 0], [Value.int .i64 0, Value.int .i64 0, Value.int .i64 0, Value.int .i64 0, Value.int .i64 0, Value.int .i64 0, Value.int .i64 0, Value.int .i64 0], Aa, Aa, ⟨[Value.int .i64 0, Value.int .i64 0, Value.int .i64 0, Value.int .i64 0], [Value.int .i64 0, Value.int .i64 0, Value.int .i64 0, Value.int .i64 0], Aa, ⟨[Value.int .i64 0], [Value.int .i64 0, Value.int .i64 0, Value.int .i64 0], Aa, Aa, ⟨[Value.int .i64 0], [Value.int .i64 0, Value.int .i64 0], Aa, Aa, ⟨[Value.int .i64 0], [Value.int .i64 0], Aa, Aa, Aa⟩⟩⟩, ⟨[Value.int .i64 0], [Value.int .i64 0, Value.int .i64 0, Value.int .i64 0], Aa, Aa, ⟨[Value.int .i64 0], [Value.int .i64 0, Value.int .i64 0], Aa, Aa, ⟨[Value.int .i64 0], [Value.int .i64 0], Aa, Aa, Aa⟩⟩⟩⟩⟩, ⟨_, Aa, Sl.nil⟩⟩⟩) h13 fun w W => ?_
 have W : Stw ⟨Y, X, w0⟩ [] [row v1 40 Bc x13] w := W
 refine Af (Ad (Ak (Ae ?_)))
 iterate 2 refine ls F W Aa (Ah F Aa).q fun a w F W => ?_
 obtain ⟨x14, h14, H⟩ := Ap H
 refine ls F W Aa (ET (r := Bc) Fh F Aa Aa Aa (Bg 0 Aa) h14).q fun a w F W => ?_
 refine ls F W Aa (Ag F Aa).q fun a w F W => ?_
 refine Af (Ad (Ax ?_))
 have H := AL H
 subst H
 refine AF (.inl Aa) F W Aa (Av F Aa) ?_
 have W := W.subRow (k := 0) Aa Aa h14
 exact ⟨((CC v1 (0 : Int) x3 11)), Aa, W⟩
end Go.Proofs.Ytkjjioigbpkifaa
