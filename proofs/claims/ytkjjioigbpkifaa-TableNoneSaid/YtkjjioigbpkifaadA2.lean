/- The functions of layer 11, D5. Conditions: none. -/
import Derived.Test.YtkjjioigbpkifaadA1
namespace Go.Proofs.Ytkjjioigbpkifaa
open Go Go.RowKit
set_option linter.unusedVariables false
set_option linter.unusedSimpArgs false
set_option maxRecDepth 20000
noncomputable def A0 (p0 : List (Int × (Int × (Int × Int × Int × Int) × (Int × Int × Int × Int)) × (List (Int × Int × Int)))) (p1 : Int) (p2 : List (Int × (Int × (Int × Int × Int × Int) × (Int × Int × Int × Int)) × (List (Int × Int × Int)))) : Option (List (Int × (Int × (Int × Int × Int × Int) × (Int × Int × Int × Int)) × (List (Int × Int × Int)))) := (Dd p0 p1 (p0.length : Int)).bind fun x1 => (if (p2.length : Int) = 0 then some p0 else (if p1 = (p0.length : Int) then (LX p0.length (p0.length + p2.length)).bind fun x2 => (JE p0 p2).bind fun x3 => some x3 else (if ((p0.length : Nat) : Int) < (CG ((p0.length : Int) + (p2.length : Int))) then (Dd p0 0 p1).bind fun x4 => (mk (CG ((CG ((p0.length : Int) + (p2.length : Int))) - p1)) ((0, (0, (0, 0, 0, 0), (0, 0, 0, 0)), []) : Int × (Int × (Int × Int × Int × Int) × (Int × Int × Int × Int)) × (List (Int × Int × Int)))).bind fun x5 => (LX p0.length (x4.length + (CG ((CG ((p0.length : Int) + (p2.length : Int))) - p1)).toNat)).bind fun x6 => (JE x4 x5).bind fun x7 => (Dd x7 p1 (x7.length : Int)).bind fun x8 => (Dd (Gm x7 p1 (min p2.length x8.length) p2) (CG (p1 + (p2.length : Int))) ((Gm x7 p1 (min p2.length x8.length) p2).length : Int)).bind fun x9 => (Dd p0 p1 (p0.length : Int)).bind fun x10 => some (Gm (Gm x7 p1 (min p2.length x8.length) p2) (CG (p1 + (p2.length : Int))) (min x10.length x9.length) x10) else none)))
theorem DK (Y : Nat → Prop) (w0 : World) (v1 : Value) (v2 : Value) (p0 : List (Int × (Int × (Int × Int × Int × Int) × (Int × Int × Int × Int)) × (List (Int × Int × Int)))) (p1 : Int) (p2 : List (Int × (Int × (Int × Int × Int × Int) × (Int × Int × Int × Int)) × (List (Int × Int × Int)))) (r : (List (Int × (Int × (Int × Int × Int × Int) × (Int × Int × Int × Int)) × (List (Int × Int × Int))))) (H : A0 p0 p1 p2 = some r) (s_v1 : Sl w0 Y A6 v1 p0) (c_v1 : Hh v1 p0.length) (s_v2 : Sl w0 Y A6 v2 p2) :
    Calls Try.prog 63 #[v1, .int .i64 p1, v2] w0 fun e w' => ∃ x : Value, e = .returned (x) ∧ Stw ⟨Y, [], w0⟩ [] [BP (x) A6 r] w' := by
 refine enter Try.func63 Aa Try.ntmps63 Aa fun a F => ?_
 have W := Stw.start Y w0
 obtain ⟨v3, h1, s_v1⟩ := s_v1.ex Bo
 obtain ⟨v4, h2, s_v2⟩ := s_v2.ex Bo
 have h_v1 := W.nx s_v1
 have h_v2 := W.nx s_v2
 unfold A0 at H
 refine Ak (Ae ?_)
 refine ls F W Aa (Af F Aa).q fun a w F W => ?_
 refine Ag (Ad (Ak (Ae ?_)))
 iterate 2 refine ls F W Aa (Ah F Aa).q fun a w F W => ?_
 obtain ⟨x1, h3, H⟩ := Aq H
 obtain ⟨v5, h4, h5⟩ := GC h1 h3
 refine ls F W Aa (DL (r := A6) Fa F Aa Aa Aa (A7 Bo h1 (Av h_v1)) h3).q fun a w F W => ?_
 refine Ag (Ad (Ak (Ae ?_)))
 refine ls F W Aa (Ah F Aa).q fun a w F W => ?_
 refine ls F W Aa (B4 (r := A6) (l := p2) Em Aa F Aa (A7 Bo h2 (Av h_v2))).q fun a w F W => ?_
 refine ls F W Aa (Af F Aa).q fun a w F W => ?_
 refine Ag (Ad (Ak (Ak (Ae ?_))))
 refine ls F W Aa (Ah F Aa).q fun a w F W => ?_
 refine ls F W Aa (BJ F Aa Aa).q fun a w F W => ?_
 refine Ag (Ad ?_)
 refine AA F Aa (fun hb => ?_) fun hb => ?_
 ·
  have H := AU (Bd hb) H
  rw [hb] at F
  clear hb
  refine Ak (Ae ?_)
  refine ls F W Aa (Ah F Aa).q fun a w F W => ?_
  refine ls F W Aa (Af F Aa).q fun a w F W => ?_
  refine Ag (Ad (Ay (AC ?_)))
  have H := AZ H
  subst H
  refine AO (.inl Aa) F W Aa (Au F Aa) ?_
  have W := W.note (Sl.hide Bo h1 (W.old s_v1))
  exact ⟨(v1), Aa, W⟩
 have H := AV (Be hb) H
 rw [hb] at F
 clear hb
 refine Az (Ad (Ak (Ae ?_)))
 refine ls F W Aa (Ah F Aa).q fun a w F W => ?_
 refine ls F W Aa (B4 (r := A6) (l := p0) Em Aa F Aa (A7 Bo h1 (Av h_v1))).q fun a w F W => ?_
 refine ls F W Aa (Af F Aa).q fun a w F W => ?_
 refine Ag (Ad (Ak (Ak (Ae ?_))))
 iterate 2 refine ls F W Aa (Ah F Aa).q fun a w F W => ?_
 refine ls F W Aa (BJ F Aa Aa).q fun a w F W => ?_
 refine Ag (Ad ?_)
 refine AA F Aa (fun hb => ?_) fun hb => ?_
 ·
  have H := AU (Bd hb) H
  rw [hb] at F
  clear hb
  refine Ak (Ae ?_)
  iterate 2 refine ls F W Aa (Ah F Aa).q fun a w F W => ?_
  obtain ⟨x2, h6, H⟩ := Aq H
  obtain ⟨x3, h7, H⟩ := Aq H
  refine Kk (r := A6) F W Aa Fa Aa Aa (Gt.hide Bo h1 (FE W s_v1)) (KZ c_v1 (Lh h6)) (Gt.hide Bo h2 (FE W s_v2)) h7 Aa fun v6 a w F W => ?_
  have W : Stw ⟨Y, [], w0⟩ [] [row v6 40 A6 x3] w := W
  refine ls F W Aa (Af F Aa).q fun a w F W => ?_
  refine Ag (Ad (Ay (AC ?_)))
  have H := AZ H
  subst H
  refine AO (.inl Aa) F W Aa (Au F Aa) ?_
  have W := W.freeze
  exact ⟨(v6), Aa, W⟩
 have H := AV (Be hb) H
 rw [hb] at F
 clear hb
 refine Az (Ad (Ak (Ak (Ae ?_))))
 iterate 2 refine ls F W Aa (Ah F Aa).q fun a w F W => ?_
 refine ls F W Aa (Co F Aa Aa Aa).q fun a w F W => ?_
 refine ls F W Aa (Ah F Aa).q fun a w F W => ?_
 refine ls F W Aa (MS Em Aa F Aa c_v1).q fun a w F W => ?_
 refine ls F W Aa (Fu F Aa Aa).q fun a w F W => ?_
 refine Ag (Ad ?_)
 refine AA F Aa (fun hb => ?_) fun hb => ?_
 ·
  have H := AU (Bd hb) H
  rw [hb] at F
  clear hb
  refine Ak (Ae ?_)
  iterate 2 refine ls F W Aa (Ah F Aa).q fun a w F W => ?_
  obtain ⟨x4, h8, H⟩ := Aq H
  obtain ⟨v7, h9, h10⟩ := GC h1 h8
  refine ls F W Aa (DL (r := A6) Fa F Aa Aa Aa (A7 Bo h1 (Av h_v1)) h8).q fun a w F W => ?_
  iterate 2 refine ls F W Aa (Ah F Aa).q fun a w F W => ?_
  refine ls F W Aa (Co F Aa Aa Aa).q fun a w F W => ?_
  refine ls F W Aa (Ah F Aa).q fun a w F W => ?_
  refine ls F W Aa (LQ F Aa Aa Aa).q fun a w F W => ?_
  obtain ⟨x5, h11, H⟩ := Aq H
  obtain ⟨x6, h12, H⟩ := Aq H
  obtain ⟨x7, h13, H⟩ := Aq H
  refine Km (r := A6) ((0, (0, (0, 0, 0, 0), (0, 0, 0, 0)), []) : Int × (Int × (Int × Int × Int × Int) × (Int × Int × Int × Int)) × (List (Int × Int × Int))) F W Aa Fa Kn Mz Aa Aa (Gt.sub (Gt.hide Bo h1 (FE W s_v1)) h8) (KA c_v1 (Lh h12)) (fun w A => ⟨[Value.int .i64 0], [Value.int .i64 0, Value.int .i64 0, Value.int .i64 0, Value.int .i64 0, Value.int .i64 0, Value.int .i64 0, Value.int .i64 0, Value.int .i64 0, Value.int .i64 0, Value.slice none 0 0], Aa, Aa, ⟨[Value.int .i64 0, Value.int .i64 0, Value.int .i64 0, Value.int .i64 0, Value.int .i64 0, Value.int .i64 0, Value.int .i64 0, Value.int .i64 0, Value.int .i64 0], [Value.slice none 0 0], Aa, ⟨[Value.int .i64 0], [Value.int .i64 0, Value.int .i64 0, Value.int .i64 0, Value.int .i64 0, Value.int .i64 0, Value.int .i64 0, Value.int .i64 0, Value.int .i64 0], Aa, Aa, ⟨[Value.int .i64 0, Value.int .i64 0, Value.int .i64 0, Value.int .i64 0], [Value.int .i64 0, Value.int .i64 0, Value.int .i64 0, Value.int .i64 0], Aa, ⟨[Value.int .i64 0], [Value.int .i64 0, Value.int .i64 0, Value.int .i64 0], Aa, Aa, ⟨[Value.int .i64 0], [Value.int .i64 0, Value.int .i64 0], Aa, Aa, ⟨[Value.int .i64 0], [Value.int .i64 0], Aa, Aa, Aa⟩⟩⟩, ⟨[Value.int .i64 0], [Value.int .i64 0, Value.int .i64 0, Value.int .i64 0], Aa, Aa, ⟨[Value.int .i64 0], [Value.int .i64 0, Value.int .i64 0], Aa, Aa, ⟨[Value.int .i64 0], [Value.int .i64 0], Aa, Aa, Aa⟩⟩⟩⟩⟩, ⟨_, Aa, Sl.nil⟩⟩⟩) h11 h13 Aa fun v8 a w F W => ?_
  have W : Stw ⟨Y, [], w0⟩ [] [row v8 40 A6 x7] w := W
  refine ls F W Aa (Af F Aa).q fun a w F W => ?_
  refine Ag (Ad (Ak (Ae ?_)))
  iterate 2 refine ls F W Aa (Ah F Aa).q fun a w F W => ?_
  obtain ⟨x8, h14, H⟩ := Aq H
  refine ls F W Aa (DL (r := A6) Fa F Aa Aa Aa (Bc 0 Aa) h14).q fun a w F W => ?_
  refine ls F W Aa (Ah F Aa).q fun a w F W => ?_
  refine JL (r := A6) (v := v8) (k := 0) F W Aa Fa Aa Aa Aa Aa h14 (Gt.hide Bo h2 (FE W s_v2)) fun a w F W => ?_
  have W : Stw ⟨Y, [], w0⟩ [] [row v8 40 A6 (Gm x7 p1 (min p2.length x8.length) p2)] w := W
  refine Ag (Ad (Ak ?_))
  refine GK 8 W MO (by kernel_rfl) ?_
  iterate 3 refine qs F Aa (Ah F Aa).q fun a F => ?_
  refine qs F Aa (Co F Aa Aa Aa).q fun a F => ?_
  obtain ⟨x9, h15, H⟩ := Aq H
  refine qs F Aa (DL (r := A6) Fa F Aa Aa Aa (Bc 0 Aa) h15).q fun a F => ?_
  iterate 2 refine qs F Aa (Ah F Aa).q fun a F => ?_
  obtain ⟨x10, h16, H⟩ := Aq H
  obtain ⟨v9, h17, h18⟩ := GC h1 h16
  refine qs F Aa (DL (r := A6) Fa F Aa Aa Aa (A7 Bo h1 (Av h_v1)) h16).q fun a F => ?_
  refine Bm fun w W => ?_
  refine JL (r := A6) (v := v8) (k := 0) F W Aa Fa Aa Aa Aa Aa h15 (Gt.sub (Gt.hide Bo h1 (FE W s_v1)) h16) fun a w F W => ?_
  have W : Stw ⟨Y, [], w0⟩ [] [row v8 40 A6 (Gm (Gm x7 p1 (min p2.length x8.length) p2) (CG (p1 + (p2.length : Int))) (min x10.length x9.length) x10)] w := W
  refine Ag (Ad (Ak (Ae ?_)))
  refine ls F W Aa (Ah F Aa).q fun a w F W => ?_
  refine ls F W Aa (Af F Aa).q fun a w F W => ?_
  refine Ag (Ad (Ay (AC ?_)))
  have H := AZ H
  subst H
  refine AO (.inl Aa) F W Aa (Au F Aa) ?_
  have W := W.freeze
  exact ⟨(v8), Aa, W⟩
 have H := AV (Be hb) H
 rw [hb] at F
 clear hb
 exact nomatch H
theorem N6 : Has Try.prog 63 := ⟨fun args w => An Try.func63 rfl (by decide) args w⟩
noncomputable def D0 (p0 : List (Int × (Int × (Int × Int × Int × Int) × (Int × Int × Int × Int)) × (List (Int × Int × Int)))) (p1 : Int × (Int × (Int × (Int × Int × Int × Int) × (Int × Int × Int × Int)) × (List (Int × Int × Int))) × Bool) (p2 : Int) : Option ((List (Int × (Int × (Int × Int × Int × Int) × (Int × Int × Int × Int)) × (List (Int × Int × Int)))) × Int) := (if p1.2.2 = true then (AF p0 (p1.1, p1.2.1, true)).bind fun x3 => some (x3, true) else some (false, false)).bind fun (x1, x2) => (if x1 = true then some (p0, 14) else (Ax p0 ((Ab p1.2.1).1, ((Ab p1.2.1).2.1.1, ((Ab p1.2.1).2.1.2.1.1, (Ab p1.2.1).2.1.2.1.2.1, (Ab p1.2.1).2.1.2.1.2.2.1, (Ab p1.2.1).2.1.2.1.2.2.2), ((Ab p1.2.1).2.1.2.2.1, (Ab p1.2.1).2.1.2.2.2.1, (Ab p1.2.1).2.1.2.2.2.2.1, (Ab p1.2.1).2.1.2.2.2.2.2)), (Ab p1.2.1).2.2)).bind fun x4 => (if x4 = true then (B0 p0 p1.2.1 ((Ab p1.2.1).1, ((Ab p1.2.1).2.1.1, ((Ab p1.2.1).2.1.2.1.1, (Ab p1.2.1).2.1.2.1.2.1, (Ab p1.2.1).2.1.2.1.2.2.1, (Ab p1.2.1).2.1.2.1.2.2.2), ((Ab p1.2.1).2.1.2.2.1, (Ab p1.2.1).2.1.2.2.2.1, (Ab p1.2.1).2.1.2.2.2.2.1, (Ab p1.2.1).2.1.2.2.2.2.2)), (Ab p1.2.1).2.2)).bind fun x5 => some (x5, 0) else (if p2 ≤ (p0.length : Int) then some (p0, 6) else (AH p0 (p1.1, p1.2.1, x2)).bind fun x6 => (if x6 < 0 then some (p0.length : Int) else some x6).bind fun x7 => (Bn p1.2.1).bind fun x8 => (A0 p0 x7 ([x8] : List (Int × (Int × (Int × Int × Int × Int) × (Int × Int × Int × Int)) × (List (Int × Int × Int))))).bind fun x9 => some (x9, 0))))
theorem Js (Y : Nat → Prop) (X : List Nat) (w0 : World) (v1 : Value) (v2 : Value) (p0 : List (Int × (Int × (Int × Int × Int × Int) × (Int × Int × Int × Int)) × (List (Int × Int × Int)))) (p1 : Int × (Int × (Int × (Int × Int × Int × Int) × (Int × Int × Int × Int)) × (List (Int × Int × Int))) × Bool) (p2 : Int) (r : (List (Int × (Int × (Int × Int × Int × Int) × (Int × Int × Int × Int)) × (List (Int × Int × Int)))) × Int) (H : D0 p0 p1 p2 = some r) (c_v1 : Hh v1 p0.length) (s_v2 : Sl w0 Y Br v2 p1.2.1.2.2) (hL : Stw ⟨Y, X, w0⟩ [] [row v1 40 A6 p0] w0) :
    Calls Try.prog 41 #[v1, .agg #[.int .i64 p1.1, .int .i64 p1.2.1.1, .int .i64 p1.2.1.2.1.1, .int .i64 p1.2.1.2.1.2.1.1, .int .i64 p1.2.1.2.1.2.1.2.1, .int .i64 p1.2.1.2.1.2.1.2.2.1, .int .i64 p1.2.1.2.1.2.1.2.2.2, .int .i64 p1.2.1.2.1.2.2.1, .int .i64 p1.2.1.2.1.2.2.2.1, .int .i64 p1.2.1.2.1.2.2.2.2.1, .int .i64 p1.2.1.2.1.2.2.2.2.2, v2, .bool p1.2.2], .int .i64 p2] w0 fun e w' => ∃ x : Value, e = .returned (.tuple #[x, .int .i64 r.2]) ∧ Stw ⟨Y, X, w0⟩ [] [BP (x) A6 r.1] w' := by
 refine enter Try.func41 Aa Try.ntmps41 Aa fun a F => ?_
 have W := hL
 have h_v2 := W.nx s_v2
 unfold D0 at H
 refine Ak (Ae ?_)
 refine B2 (cs := [.int .i64 p1.1, .int .i64 p1.2.1.1, .int .i64 p1.2.1.2.1.1, .int .i64 p1.2.1.2.1.2.1.1, .int .i64 p1.2.1.2.1.2.1.2.1, .int .i64 p1.2.1.2.1.2.1.2.2.1, .int .i64 p1.2.1.2.1.2.1.2.2.2, .int .i64 p1.2.1.2.1.2.2.1, .int .i64 p1.2.1.2.1.2.2.2.1, .int .i64 p1.2.1.2.1.2.2.2.2.1, .int .i64 p1.2.1.2.1.2.2.2.2.2, v2, .bool p1.2.2]) F W Aa Aa Aa fun b1 a w F W => ?_
 iterate 2 refine ls F W Aa (Af F Aa).q fun a w F W => ?_
 refine Ag (Ad (Ak ?_))
 obtain ⟨o1, G1, K1⟩ := Aq H
 refine AY (fun a w => ∃ x1 : Bool, ∃ x2 : Bool, some ((x1, x2)) = some o1 ∧ Fr 48 [] [(0, v1), (2, .int .i64 p2), (4, .pointer (some ⟨b1, 0, none⟩)), (6, .slice none 0 0), (7, .int .i64 0), (15, .bool x1)] a ∧ Stw ⟨Y, X, w0⟩ [(b1, [.int .i64 p1.1, .int .i64 p1.2.1.1, .int .i64 p1.2.1.2.1.1, .int .i64 p1.2.1.2.1.2.1.1, .int .i64 p1.2.1.2.1.2.1.2.1, .int .i64 p1.2.1.2.1.2.1.2.2.1, .int .i64 p1.2.1.2.1.2.1.2.2.2, .int .i64 p1.2.1.2.1.2.2.1, .int .i64 p1.2.1.2.1.2.2.2.1, .int .i64 p1.2.1.2.1.2.2.2.2.1, .int .i64 p1.2.1.2.1.2.2.2.2.2, v2, .bool x2])] [row v1 40 A6 p0] w) ?_ ?_
 ·
  have H := G1
  clear G1 K1
  refine Ae ?_
  refine ls F W Aa (Al FB Aa Aa Aa T4 F Aa 12 Aa).q fun a w F W => ?_
  refine ls F W Aa (As (v := Value.bool p1.2.2) 0 F Aa Aa T4 Aa).q fun a w F W => ?_
  refine ls F W Aa (Ah F Aa).q fun a w F W => ?_
  rcases Bool.eq_false_or_eq_true p1.2.2 with hb | hb
  ·
   have H := AU hb H
   rw [hb] at F
   rw [hb] at W
   clear hb
   refine AD F W (Aj F Aa Aa Aa Aa) Aa (Ap Aa) (Ah F Aa).q fun a w F W => ?_
   refine AD F W (Aj F Aa Aa Aa Aa) Aa (Ap Aa) (ES (us := []) (vs := [.pointer (some ⟨b1, 0, none⟩)]) F Aa Aa).q fun a w F W => ?_
   refine Gg (Aj F Aa Aa Aa Aa) ?_
   obtain ⟨x3, h1, H⟩ := Aq H
   refine ls F W Aa (A4 (v := Value.bool x3) F M4 Aa (fun w W => Db any w (v1) b1 (v2) p0 (p1.1, p1.2.1, true) _ h1 (((Bc 0 Aa) : Dc _ _ _ _ _ _) w W).nx (((Av h_v2) : Dc _ _ _ _ _ _) w W).nx (JF W 0 Aa))) fun a w F W => ?_
   refine ls F W Aa (Aw F Aa Aa Aa).q fun a w F W => ?_
   refine Ag (Ad ?_)
   exact ⟨_, _, H, F.re ⟨rfl, Aa, Aa, Aa, Aa, Aa, trivial⟩, W⟩
  have H := AV (by rw [hb]; decide) H
  rw [hb] at F
  rw [hb] at W
  clear hb
  iterate 3 refine Ci F Aa Aa Aa Aa Aa Aa Aa fun a F => ?_
  refine ls F W Aa (Ao F Aa Aa Aa).q fun a w F W => ?_
  refine Ag (Ad ?_)
  exact ⟨_, _, H, F.re ⟨rfl, Aa, Aa, Aa, Aa, Aa, trivial⟩, W⟩
 rintro a w ⟨x1, x2, hj, F, W⟩
 have hj := AZ hj
 subst hj
 have H := K1
 clear G1 K1
 refine AA F Aa (fun hb => ?_) fun hb => ?_
 ·
  have H := AU hb H
  rw [hb] at F
  clear hb
  refine Ak (Ae ?_)
  refine ls F W Aa (Ah F Aa).q fun a w F W => ?_
  iterate 2 refine ls F W Aa (Af F Aa).q fun a w F W => ?_
  refine Ag (Ad (Ay (AC ?_)))
  have H := AZ H
  subst H
  refine Ey (.inl Aa) F W Aa (Au F Aa) (Au F Aa) ?_
  have W := W.freeze
  have W := W.sub (M' := []) (Z' := [BP v1 A6 p0]) (List.nil_sublist _) (List.Sublist.refl _)
  exact ⟨(v1), Aa, W⟩
 have H := AV (by rw [hb]; decide) H
 rw [hb] at F
 clear hb
 refine Az (Ad (Ak (Ak (Ae ?_))))
 refine ls F W Aa (Ah F Aa).q fun a w F W => ?_
 refine ls F W Aa (Al FB Aa Aa Aa Da F Aa 1 Aa).q fun a w F W => ?_
 refine ls F W Aa (As (v := Value.agg #[.int .i64 p1.2.1.1, .int .i64 p1.2.1.2.1.1, .int .i64 p1.2.1.2.1.2.1.1, .int .i64 p1.2.1.2.1.2.1.2.1, .int .i64 p1.2.1.2.1.2.1.2.2.1, .int .i64 p1.2.1.2.1.2.1.2.2.2, .int .i64 p1.2.1.2.1.2.2.1, .int .i64 p1.2.1.2.1.2.2.2.1, .int .i64 p1.2.1.2.1.2.2.2.2.1, .int .i64 p1.2.1.2.1.2.2.2.2.2, v2]) 0 F Aa Aa Da Aa).q fun a w F W => ?_
 refine Bq (Ml := []) (Zl := []) (M := [(b1, [.int .i64 p1.1, .int .i64 p1.2.1.1, .int .i64 p1.2.1.2.1.1, .int .i64 p1.2.1.2.1.2.1.1, .int .i64 p1.2.1.2.1.2.1.2.1, .int .i64 p1.2.1.2.1.2.1.2.2.1, .int .i64 p1.2.1.2.1.2.1.2.2.2, .int .i64 p1.2.1.2.1.2.2.1, .int .i64 p1.2.1.2.1.2.2.2.1, .int .i64 p1.2.1.2.1.2.2.2.2.1, .int .i64 p1.2.1.2.1.2.2.2.2.2, v2, .bool x2])]) (Z := [row v1 40 A6 p0]) (β := Nat × Value) (rv := fun x => .func (.func 66) #[] #[.pointer (some ⟨x.1, 0, none⟩)]) (MM := fun x => [(x.1, [.int .i64 ((Ab p1.2.1).1), .int .i64 ((Ab p1.2.1).2.1.1), .int .i64 ((Ab p1.2.1).2.1.2.1.1), .int .i64 ((Ab p1.2.1).2.1.2.1.2.1), .int .i64 ((Ab p1.2.1).2.1.2.1.2.2.1), .int .i64 ((Ab p1.2.1).2.1.2.1.2.2.2), .int .i64 ((Ab p1.2.1).2.1.2.2.1), .int .i64 ((Ab p1.2.1).2.1.2.2.2.1), .int .i64 ((Ab p1.2.1).2.1.2.2.2.2.1), .int .i64 ((Ab p1.2.1).2.1.2.2.2.2.2), x.2])]) (ZZ := fun x => [BP x.2 Br ((Ab p1.2.1).2.2)]) F W My Aa Aa (fun hL => C4 _ w (v2) p1.2.1 _ Aa (W.old s_v2)) fun x a w F W => ?_
 obtain ⟨b2, v3⟩ := x
 have W : Stw ⟨Y, X, w0⟩ [(b2, [.int .i64 ((Ab p1.2.1).1), .int .i64 ((Ab p1.2.1).2.1.1), .int .i64 ((Ab p1.2.1).2.1.2.1.1), .int .i64 ((Ab p1.2.1).2.1.2.1.2.1), .int .i64 ((Ab p1.2.1).2.1.2.1.2.2.1), .int .i64 ((Ab p1.2.1).2.1.2.1.2.2.2), .int .i64 ((Ab p1.2.1).2.1.2.2.1), .int .i64 ((Ab p1.2.1).2.1.2.2.2.1), .int .i64 ((Ab p1.2.1).2.1.2.2.2.2.1), .int .i64 ((Ab p1.2.1).2.1.2.2.2.2.2), v3]), (b1, [.int .i64 p1.1, .int .i64 p1.2.1.1, .int .i64 p1.2.1.2.1.1, .int .i64 p1.2.1.2.1.2.1.1, .int .i64 p1.2.1.2.1.2.1.2.1, .int .i64 p1.2.1.2.1.2.1.2.2.1, .int .i64 p1.2.1.2.1.2.1.2.2.2, .int .i64 p1.2.1.2.1.2.2.1, .int .i64 p1.2.1.2.1.2.2.2.1, .int .i64 p1.2.1.2.1.2.2.2.2.1, .int .i64 p1.2.1.2.1.2.2.2.2.2, v2, .bool x2])] [BP v3 Br ((Ab p1.2.1).2.2), row v1 40 A6 p0] w := W
 obtain ⟨x4, h2, H⟩ := Aq H
 refine ls F W Aa (A4 (v := Value.bool x4) F M4 Aa (fun w W => Bw any w (v1) b2 (v3) p0 ((Ab p1.2.1).1, ((Ab p1.2.1).2.1.1, ((Ab p1.2.1).2.1.2.1.1, (Ab p1.2.1).2.1.2.1.2.1, (Ab p1.2.1).2.1.2.1.2.2.1, (Ab p1.2.1).2.1.2.1.2.2.2), ((Ab p1.2.1).2.1.2.2.1, (Ab p1.2.1).2.1.2.2.2.1, (Ab p1.2.1).2.1.2.2.2.2.1, (Ab p1.2.1).2.1.2.2.2.2.2)), (Ab p1.2.1).2.2) _ h2 (((Bc 1 Aa) : Dc _ _ _ _ _ _) w W).nx (((CT 0 Aa) : Dc _ _ _ _ _ _) w W).nx (JF W 0 Aa))) fun a w F W => ?_
 refine Ag (Ad ?_)
 refine AA F Aa (fun hb => ?_) fun hb => ?_
 ·
  have H := AU hb H
  rw [hb] at F
  clear hb
  refine Ak ?_
  refine F0 [(true, 0), (true, 1), (true, 2), (true, 3), (true, 4), (false, 5), (false, 6), (false, 7), (false, 8)] (CN ⟨Y, X, w0⟩ [(some 6, b1, [.int .i64 p1.1, .int .i64 p1.2.1.1, .int .i64 p1.2.1.2.1.1, .int .i64 p1.2.1.2.1.2.1.1, .int .i64 p1.2.1.2.1.2.1.2.1, .int .i64 p1.2.1.2.1.2.1.2.2.1, .int .i64 p1.2.1.2.1.2.1.2.2.2, .int .i64 p1.2.1.2.1.2.2.1, .int .i64 p1.2.1.2.1.2.2.2.1, .int .i64 p1.2.1.2.1.2.2.2.2.1, .int .i64 p1.2.1.2.1.2.2.2.2.2, v2, .bool x2]), (some 5, b1, [.int .i64 p1.1, .int .i64 p1.2.1.1, .int .i64 p1.2.1.2.1.1, .int .i64 p1.2.1.2.1.2.1.1, .int .i64 p1.2.1.2.1.2.1.2.1, .int .i64 p1.2.1.2.1.2.1.2.2.1, .int .i64 p1.2.1.2.1.2.1.2.2.2, .int .i64 p1.2.1.2.1.2.2.1, .int .i64 p1.2.1.2.1.2.2.2.1, .int .i64 p1.2.1.2.1.2.2.2.2.1, .int .i64 p1.2.1.2.1.2.2.2.2.2, v2, .bool x2])] []) (fun ch a d v w h => by cases d <;> exact h) MO (by kernel_rfl) W (fun w W => ⟨_, _, W, (all_cons (fun _ => (.tail _ (.head _))) (all_cons (fun _ => (.tail _ (.head _))) AX)), AX⟩) fun w W => ?_
  refine D7 (R := []) F Aa Aa (yC fun M Z hN hZ => Ah F Aa) Aa Aa fun a F => ?_
  refine D7 (R := []) F Aa Aa (yC fun M Z hN hZ => Al FB Aa Aa Aa Da F Aa 1 Aa) Aa Aa fun a F => ?_
  refine D7 (R := [6]) F Aa Aa (yC fun M Z hN hZ => EW (cs := [.int .i64 p1.1, .int .i64 p1.2.1.1, .int .i64 p1.2.1.2.1.1, .int .i64 p1.2.1.2.1.2.1.1, .int .i64 p1.2.1.2.1.2.1.2.1, .int .i64 p1.2.1.2.1.2.1.2.2.1, .int .i64 p1.2.1.2.1.2.1.2.2.2, .int .i64 p1.2.1.2.1.2.2.1, .int .i64 p1.2.1.2.1.2.2.2.1, .int .i64 p1.2.1.2.1.2.2.2.2.1, .int .i64 p1.2.1.2.1.2.2.2.2.2, v2, .bool x2]) (v := Value.agg #[.int .i64 p1.2.1.1, .int .i64 p1.2.1.2.1.1, .int .i64 p1.2.1.2.1.2.1.1, .int .i64 p1.2.1.2.1.2.1.2.1, .int .i64 p1.2.1.2.1.2.1.2.2.1, .int .i64 p1.2.1.2.1.2.1.2.2.2, .int .i64 p1.2.1.2.1.2.2.1, .int .i64 p1.2.1.2.1.2.2.2.1, .int .i64 p1.2.1.2.1.2.2.2.2.1, .int .i64 p1.2.1.2.1.2.2.2.2.2, v2]) F Aa (hN ((some 6), b1, [.int .i64 p1.1, .int .i64 p1.2.1.1, .int .i64 p1.2.1.2.1.1, .int .i64 p1.2.1.2.1.2.1.1, .int .i64 p1.2.1.2.1.2.1.2.1, .int .i64 p1.2.1.2.1.2.1.2.2.1, .int .i64 p1.2.1.2.1.2.1.2.2.2, .int .i64 p1.2.1.2.1.2.2.1, .int .i64 p1.2.1.2.1.2.2.2.1, .int .i64 p1.2.1.2.1.2.2.2.2.1, .int .i64 p1.2.1.2.1.2.2.2.2.2, v2, .bool x2]) (.head _) Aa) Da Aa) (by kernel_rfl) Aa fun a F => ?_
  refine D7 (R := []) F Aa Aa (yC fun M Z hN hZ => Al FB Aa Aa Aa Da F Aa 1 Aa) Aa Aa fun a F => ?_
  refine D7 (R := [5]) F Aa Aa (yC fun M Z hN hZ => EW (cs := [.int .i64 p1.1, .int .i64 p1.2.1.1, .int .i64 p1.2.1.2.1.1, .int .i64 p1.2.1.2.1.2.1.1, .int .i64 p1.2.1.2.1.2.1.2.1, .int .i64 p1.2.1.2.1.2.1.2.2.1, .int .i64 p1.2.1.2.1.2.1.2.2.2, .int .i64 p1.2.1.2.1.2.2.1, .int .i64 p1.2.1.2.1.2.2.2.1, .int .i64 p1.2.1.2.1.2.2.2.2.1, .int .i64 p1.2.1.2.1.2.2.2.2.2, v2, .bool x2]) (v := Value.agg #[.int .i64 p1.2.1.1, .int .i64 p1.2.1.2.1.1, .int .i64 p1.2.1.2.1.2.1.1, .int .i64 p1.2.1.2.1.2.1.2.1, .int .i64 p1.2.1.2.1.2.1.2.2.1, .int .i64 p1.2.1.2.1.2.1.2.2.2, .int .i64 p1.2.1.2.1.2.2.1, .int .i64 p1.2.1.2.1.2.2.2.1, .int .i64 p1.2.1.2.1.2.2.2.2.1, .int .i64 p1.2.1.2.1.2.2.2.2.2, v2]) F Aa (hN ((some 5), b1, [.int .i64 p1.1, .int .i64 p1.2.1.1, .int .i64 p1.2.1.2.1.1, .int .i64 p1.2.1.2.1.2.1.1, .int .i64 p1.2.1.2.1.2.1.2.1, .int .i64 p1.2.1.2.1.2.1.2.2.1, .int .i64 p1.2.1.2.1.2.1.2.2.2, .int .i64 p1.2.1.2.1.2.2.1, .int .i64 p1.2.1.2.1.2.2.2.1, .int .i64 p1.2.1.2.1.2.2.2.2.1, .int .i64 p1.2.1.2.1.2.2.2.2.2, v2, .bool x2]) (.tail _ (.head _)) Aa) Da Aa) (by kernel_rfl) Aa fun a F => ?_
  refine Fb Aa ?_
  refine Bq (Ml := []) (Zl := []) (M := [(b2, [.int .i64 ((Ab p1.2.1).1), .int .i64 ((Ab p1.2.1).2.1.1), .int .i64 ((Ab p1.2.1).2.1.2.1.1), .int .i64 ((Ab p1.2.1).2.1.2.1.2.1), .int .i64 ((Ab p1.2.1).2.1.2.1.2.2.1), .int .i64 ((Ab p1.2.1).2.1.2.1.2.2.2), .int .i64 ((Ab p1.2.1).2.1.2.2.1), .int .i64 ((Ab p1.2.1).2.1.2.2.2.1), .int .i64 ((Ab p1.2.1).2.1.2.2.2.2.1), .int .i64 ((Ab p1.2.1).2.1.2.2.2.2.2), v3]), (b1, [.int .i64 p1.1, .int .i64 p1.2.1.1, .int .i64 p1.2.1.2.1.1, .int .i64 p1.2.1.2.1.2.1.1, .int .i64 p1.2.1.2.1.2.1.2.1, .int .i64 p1.2.1.2.1.2.1.2.2.1, .int .i64 p1.2.1.2.1.2.1.2.2.2, .int .i64 p1.2.1.2.1.2.2.1, .int .i64 p1.2.1.2.1.2.2.2.1, .int .i64 p1.2.1.2.1.2.2.2.2.1, .int .i64 p1.2.1.2.1.2.2.2.2.2, v2, .bool x2])]) (Z := [BP v3 Br ((Ab p1.2.1).2.2), row v1 40 A6 p0]) (β := Nat × Value) (rv := fun x => .func (.func 66) #[] #[.pointer (some ⟨x.1, 0, none⟩)]) (MM := fun x => [(x.1, [.int .i64 ((Ab p1.2.1).1), .int .i64 ((Ab p1.2.1).2.1.1), .int .i64 ((Ab p1.2.1).2.1.2.1.1), .int .i64 ((Ab p1.2.1).2.1.2.1.2.1), .int .i64 ((Ab p1.2.1).2.1.2.1.2.2.1), .int .i64 ((Ab p1.2.1).2.1.2.1.2.2.2), .int .i64 ((Ab p1.2.1).2.1.2.2.1), .int .i64 ((Ab p1.2.1).2.1.2.2.2.1), .int .i64 ((Ab p1.2.1).2.1.2.2.2.2.1), .int .i64 ((Ab p1.2.1).2.1.2.2.2.2.2), x.2])]) (ZZ := fun x => [BP x.2 Br ((Ab p1.2.1).2.2)]) F W My Aa Aa (fun hL => C4 _ w (v2) p1.2.1 _ Aa (W.old s_v2)) fun x a w F W => ?_
  obtain ⟨b3, v4⟩ := x
  have W : Stw ⟨Y, X, w0⟩ [(b3, [.int .i64 ((Ab p1.2.1).1), .int .i64 ((Ab p1.2.1).2.1.1), .int .i64 ((Ab p1.2.1).2.1.2.1.1), .int .i64 ((Ab p1.2.1).2.1.2.1.2.1), .int .i64 ((Ab p1.2.1).2.1.2.1.2.2.1), .int .i64 ((Ab p1.2.1).2.1.2.1.2.2.2), .int .i64 ((Ab p1.2.1).2.1.2.2.1), .int .i64 ((Ab p1.2.1).2.1.2.2.2.1), .int .i64 ((Ab p1.2.1).2.1.2.2.2.2.1), .int .i64 ((Ab p1.2.1).2.1.2.2.2.2.2), v4]), (b2, [.int .i64 ((Ab p1.2.1).1), .int .i64 ((Ab p1.2.1).2.1.1), .int .i64 ((Ab p1.2.1).2.1.2.1.1), .int .i64 ((Ab p1.2.1).2.1.2.1.2.1), .int .i64 ((Ab p1.2.1).2.1.2.1.2.2.1), .int .i64 ((Ab p1.2.1).2.1.2.1.2.2.2), .int .i64 ((Ab p1.2.1).2.1.2.2.1), .int .i64 ((Ab p1.2.1).2.1.2.2.2.1), .int .i64 ((Ab p1.2.1).2.1.2.2.2.2.1), .int .i64 ((Ab p1.2.1).2.1.2.2.2.2.2), v3]), (b1, [.int .i64 p1.1, .int .i64 p1.2.1.1, .int .i64 p1.2.1.2.1.1, .int .i64 p1.2.1.2.1.2.1.1, .int .i64 p1.2.1.2.1.2.1.2.1, .int .i64 p1.2.1.2.1.2.1.2.2.1, .int .i64 p1.2.1.2.1.2.1.2.2.2, .int .i64 p1.2.1.2.1.2.2.1, .int .i64 p1.2.1.2.1.2.2.2.1, .int .i64 p1.2.1.2.1.2.2.2.2.1, .int .i64 p1.2.1.2.1.2.2.2.2.2, v2, .bool x2])] [BP v4 Br ((Ab p1.2.1).2.2), BP v3 Br ((Ab p1.2.1).2.2), row v1 40 A6 p0] w := W
  refine Cc (N2 := []) (NZ2 := []) (N3 := [(some 6, b1, [.int .i64 p1.1, .int .i64 p1.2.1.1, .int .i64 p1.2.1.2.1.1, .int .i64 p1.2.1.2.1.2.1.1, .int .i64 p1.2.1.2.1.2.1.2.1, .int .i64 p1.2.1.2.1.2.1.2.2.1, .int .i64 p1.2.1.2.1.2.1.2.2.2, .int .i64 p1.2.1.2.1.2.2.1, .int .i64 p1.2.1.2.1.2.2.2.1, .int .i64 p1.2.1.2.1.2.2.2.2.1, .int .i64 p1.2.1.2.1.2.2.2.2.2, v2, .bool x2]), (some 5, b1, [.int .i64 p1.1, .int .i64 p1.2.1.1, .int .i64 p1.2.1.2.1.1, .int .i64 p1.2.1.2.1.2.1.1, .int .i64 p1.2.1.2.1.2.1.2.1, .int .i64 p1.2.1.2.1.2.1.2.2.1, .int .i64 p1.2.1.2.1.2.1.2.2.2, .int .i64 p1.2.1.2.1.2.2.1, .int .i64 p1.2.1.2.1.2.2.2.1, .int .i64 p1.2.1.2.1.2.2.2.2.1, .int .i64 p1.2.1.2.1.2.2.2.2.2, v2, .bool x2])]) (NZ3 := []) W Aa Aa (all_cons (fun _ => (.tail _ (.tail _ (.head _)))) (all_cons (fun h => Bp (by kernel_rfl) h) AX)) AX ?_
  refine Fb Aa ?_
  obtain ⟨x5, h3, H⟩ := Aq H
  have W := W.frontZ (i := 2) Aa Aa
  refine Bq (Ml := []) (Zl := [row v1 40 A6 p0]) (M := [(b3, [.int .i64 ((Ab p1.2.1).1), .int .i64 ((Ab p1.2.1).2.1.1), .int .i64 ((Ab p1.2.1).2.1.2.1.1), .int .i64 ((Ab p1.2.1).2.1.2.1.2.1), .int .i64 ((Ab p1.2.1).2.1.2.1.2.2.1), .int .i64 ((Ab p1.2.1).2.1.2.1.2.2.2), .int .i64 ((Ab p1.2.1).2.1.2.2.1), .int .i64 ((Ab p1.2.1).2.1.2.2.2.1), .int .i64 ((Ab p1.2.1).2.1.2.2.2.2.1), .int .i64 ((Ab p1.2.1).2.1.2.2.2.2.2), v4]), (b2, [.int .i64 ((Ab p1.2.1).1), .int .i64 ((Ab p1.2.1).2.1.1), .int .i64 ((Ab p1.2.1).2.1.2.1.1), .int .i64 ((Ab p1.2.1).2.1.2.1.2.1), .int .i64 ((Ab p1.2.1).2.1.2.1.2.2.1), .int .i64 ((Ab p1.2.1).2.1.2.1.2.2.2), .int .i64 ((Ab p1.2.1).2.1.2.2.1), .int .i64 ((Ab p1.2.1).2.1.2.2.2.1), .int .i64 ((Ab p1.2.1).2.1.2.2.2.2.1), .int .i64 ((Ab p1.2.1).2.1.2.2.2.2.2), v3]), (b1, [.int .i64 p1.1, .int .i64 p1.2.1.1, .int .i64 p1.2.1.2.1.1, .int .i64 p1.2.1.2.1.2.1.1, .int .i64 p1.2.1.2.1.2.1.2.1, .int .i64 p1.2.1.2.1.2.1.2.2.1, .int .i64 p1.2.1.2.1.2.1.2.2.2, .int .i64 p1.2.1.2.1.2.2.1, .int .i64 p1.2.1.2.1.2.2.2.1, .int .i64 p1.2.1.2.1.2.2.2.2.1, .int .i64 p1.2.1.2.1.2.2.2.2.2, v2, .bool x2])]) (Z := [BP v4 Br ((Ab p1.2.1).2.2), BP v3 Br ((Ab p1.2.1).2.2)]) (β := Value) (rv := fun x => x) (MM := fun x => []) (ZZ := fun x => [row x 40 A6 x5]) F W Nl Aa Aa (fun hL => FN _ _ w (v1) (v2) b3 (v4) p0 p1.2.1 ((Ab p1.2.1).1, ((Ab p1.2.1).2.1.1, ((Ab p1.2.1).2.1.2.1.1, (Ab p1.2.1).2.1.2.1.2.1, (Ab p1.2.1).2.1.2.1.2.2.1, (Ab p1.2.1).2.1.2.1.2.2.2), ((Ab p1.2.1).2.1.2.2.1, (Ab p1.2.1).2.1.2.2.2.1, (Ab p1.2.1).2.1.2.2.2.2.1, (Ab p1.2.1).2.1.2.2.2.2.2)), (Ab p1.2.1).2.2) _ h3 (W.old s_v2) (Sl.nxF (W.item (i := 1) Aa) (fun g hg => Gy hg)) (Jc (Ml := []) (Zl := [row v1 40 A6 p0]) W 0 Aa) hL) fun x a w F W => ?_
  obtain ⟨v5, rfl⟩ : ∃ y, y = x := ⟨x, rfl⟩
  have W : Stw ⟨Y, X, w0⟩ [(b3, [.int .i64 ((Ab p1.2.1).1), .int .i64 ((Ab p1.2.1).2.1.1), .int .i64 ((Ab p1.2.1).2.1.2.1.1), .int .i64 ((Ab p1.2.1).2.1.2.1.2.1), .int .i64 ((Ab p1.2.1).2.1.2.1.2.2.1), .int .i64 ((Ab p1.2.1).2.1.2.1.2.2.2), .int .i64 ((Ab p1.2.1).2.1.2.2.1), .int .i64 ((Ab p1.2.1).2.1.2.2.2.1), .int .i64 ((Ab p1.2.1).2.1.2.2.2.2.1), .int .i64 ((Ab p1.2.1).2.1.2.2.2.2.2), v4]), (b2, [.int .i64 ((Ab p1.2.1).1), .int .i64 ((Ab p1.2.1).2.1.1), .int .i64 ((Ab p1.2.1).2.1.2.1.1), .int .i64 ((Ab p1.2.1).2.1.2.1.2.1), .int .i64 ((Ab p1.2.1).2.1.2.1.2.2.1), .int .i64 ((Ab p1.2.1).2.1.2.1.2.2.2), .int .i64 ((Ab p1.2.1).2.1.2.2.1), .int .i64 ((Ab p1.2.1).2.1.2.2.2.1), .int .i64 ((Ab p1.2.1).2.1.2.2.2.2.1), .int .i64 ((Ab p1.2.1).2.1.2.2.2.2.2), v3]), (b1, [.int .i64 p1.1, .int .i64 p1.2.1.1, .int .i64 p1.2.1.2.1.1, .int .i64 p1.2.1.2.1.2.1.1, .int .i64 p1.2.1.2.1.2.1.2.1, .int .i64 p1.2.1.2.1.2.1.2.2.1, .int .i64 p1.2.1.2.1.2.1.2.2.2, .int .i64 p1.2.1.2.1.2.2.1, .int .i64 p1.2.1.2.1.2.2.2.1, .int .i64 p1.2.1.2.1.2.2.2.2.1, .int .i64 p1.2.1.2.1.2.2.2.2.2, v2, .bool x2])] [row v5 40 A6 x5, BP v4 Br ((Ab p1.2.1).2.2), BP v3 Br ((Ab p1.2.1).2.2)] w := W
  refine Cc (N2 := []) (NZ2 := []) (N3 := [(some 6, b1, [.int .i64 p1.1, .int .i64 p1.2.1.1, .int .i64 p1.2.1.2.1.1, .int .i64 p1.2.1.2.1.2.1.1, .int .i64 p1.2.1.2.1.2.1.2.1, .int .i64 p1.2.1.2.1.2.1.2.2.1, .int .i64 p1.2.1.2.1.2.1.2.2.2, .int .i64 p1.2.1.2.1.2.2.1, .int .i64 p1.2.1.2.1.2.2.2.1, .int .i64 p1.2.1.2.1.2.2.2.2.1, .int .i64 p1.2.1.2.1.2.2.2.2.2, v2, .bool x2]), (some 5, b1, [.int .i64 p1.1, .int .i64 p1.2.1.1, .int .i64 p1.2.1.2.1.1, .int .i64 p1.2.1.2.1.2.1.1, .int .i64 p1.2.1.2.1.2.1.2.1, .int .i64 p1.2.1.2.1.2.1.2.2.1, .int .i64 p1.2.1.2.1.2.1.2.2.2, .int .i64 p1.2.1.2.1.2.2.1, .int .i64 p1.2.1.2.1.2.2.2.1, .int .i64 p1.2.1.2.1.2.2.2.2.1, .int .i64 p1.2.1.2.1.2.2.2.2.2, v2, .bool x2])]) (NZ3 := []) W Aa Aa (all_cons (fun h => Bp (by kernel_rfl) h) (all_cons (fun h => Bp (by kernel_rfl) h) AX)) AX ?_
  refine Fb Aa ?_
  refine ls F W Aa (Af F Aa).q fun a w F W => ?_
  refine Cc (N2 := []) (NZ2 := []) (N3 := [(some 6, b1, [.int .i64 p1.1, .int .i64 p1.2.1.1, .int .i64 p1.2.1.2.1.1, .int .i64 p1.2.1.2.1.2.1.1, .int .i64 p1.2.1.2.1.2.1.2.1, .int .i64 p1.2.1.2.1.2.1.2.2.1, .int .i64 p1.2.1.2.1.2.1.2.2.2, .int .i64 p1.2.1.2.1.2.2.1, .int .i64 p1.2.1.2.1.2.2.2.1, .int .i64 p1.2.1.2.1.2.2.2.2.1, .int .i64 p1.2.1.2.1.2.2.2.2.2, v2, .bool x2]), (some 5, b1, [.int .i64 p1.1, .int .i64 p1.2.1.1, .int .i64 p1.2.1.2.1.1, .int .i64 p1.2.1.2.1.2.1.1, .int .i64 p1.2.1.2.1.2.1.2.1, .int .i64 p1.2.1.2.1.2.1.2.2.1, .int .i64 p1.2.1.2.1.2.1.2.2.2, .int .i64 p1.2.1.2.1.2.2.1, .int .i64 p1.2.1.2.1.2.2.2.1, .int .i64 p1.2.1.2.1.2.2.2.2.1, .int .i64 p1.2.1.2.1.2.2.2.2.2, v2, .bool x2])]) (NZ3 := []) W Aa Aa (all_cons (fun h => Bp (by kernel_rfl) h) (all_cons (fun h => Bp (by kernel_rfl) h) AX)) AX ?_
  refine Fb Aa ?_
  refine ls F W Aa (Af F Aa).q fun a w F W => ?_
  refine Cc (N2 := []) (NZ2 := []) (N3 := [(some 6, b1, [.int .i64 p1.1, .int .i64 p1.2.1.1, .int .i64 p1.2.1.2.1.1, .int .i64 p1.2.1.2.1.2.1.1, .int .i64 p1.2.1.2.1.2.1.2.1, .int .i64 p1.2.1.2.1.2.1.2.2.1, .int .i64 p1.2.1.2.1.2.1.2.2.2, .int .i64 p1.2.1.2.1.2.2.1, .int .i64 p1.2.1.2.1.2.2.2.1, .int .i64 p1.2.1.2.1.2.2.2.2.1, .int .i64 p1.2.1.2.1.2.2.2.2.2, v2, .bool x2]), (some 5, b1, [.int .i64 p1.1, .int .i64 p1.2.1.1, .int .i64 p1.2.1.2.1.1, .int .i64 p1.2.1.2.1.2.1.1, .int .i64 p1.2.1.2.1.2.1.2.1, .int .i64 p1.2.1.2.1.2.1.2.2.1, .int .i64 p1.2.1.2.1.2.1.2.2.2, .int .i64 p1.2.1.2.1.2.2.1, .int .i64 p1.2.1.2.1.2.2.2.1, .int .i64 p1.2.1.2.1.2.2.2.2.1, .int .i64 p1.2.1.2.1.2.2.2.2.2, v2, .bool x2])]) (NZ3 := []) W Aa Aa (all_cons (fun h => Bp (by kernel_rfl) h) (all_cons (fun h => Bp (by kernel_rfl) h) AX)) AX ?_
  refine Hy (Ad (Ay (AC ?_)))
  have H := AZ H
  subst H
  refine Ey (.inl Aa) F W Aa (Au F Aa) (Au F Aa) ?_
  have W := W.freeze
  have W := W.sub (M' := []) (Z' := [BP v5 A6 x5]) (List.nil_sublist _) (List.Sublist.cons_cons _ (List.nil_sublist _))
  exact ⟨(v5), Aa, W⟩
 have H := AV (by rw [hb]; decide) H
 rw [hb] at F
 clear hb
 refine Az (Ad (Ak (Ak (Ae ?_))))
 refine ls F W Aa (Ah F Aa).q fun a w F W => ?_
 refine ls F W Aa (B4 (r := A6) (l := p0) Em Aa F Aa (Bc 1 Aa)).q fun a w F W => ?_
 refine ls F W Aa (Ah F Aa).q fun a w F W => ?_
 refine ls F W Aa (Ez F Aa Aa).q fun a w F W => ?_
 refine Ag (Ad ?_)
 refine AA F Aa (fun hb => ?_) fun hb => ?_
 ·
  have H := AU (Bd hb) H
  rw [hb] at F
  clear hb
  refine Ak (Ae ?_)
  refine ls F W Aa (Ah F Aa).q fun a w F W => ?_
  iterate 2 refine ls F W Aa (Af F Aa).q fun a w F W => ?_
  refine Ag (Ad (Ay (AC ?_)))
  have H := AZ H
  subst H
  refine Ey (.inl Aa) F W Aa (Au F Aa) (Au F Aa) ?_
  have W := W.frontZ (i := 1) Aa Aa
  have W := W.freeze
  have W := W.sub (M' := []) (Z' := [BP v1 A6 p0]) (List.nil_sublist _) (List.Sublist.cons_cons _ (List.nil_sublist _))
  exact ⟨(v1), Aa, W⟩
 have H := AV (Be hb) H
 rw [hb] at F
 clear hb
 refine Az (Ad (Ak (Ae ?_)))
 refine ls F W Aa (Ah F Aa).q fun a w F W => ?_
 refine ls F W Aa (ES (us := []) (vs := [.pointer (some ⟨b1, 0, none⟩)]) F Aa Aa).q fun a w F W => ?_
 obtain ⟨x6, h4, H⟩ := Aq H
 refine ls F W Aa (A4 (v := Value.int .i64 x6) F Mw Aa (fun w W => Dl any w (v1) b1 (v2) p0 (p1.1, p1.2.1, x2) _ h4 (((Bc 1 Aa) : Dc _ _ _ _ _ _) w W).nx (((Av h_v2) : Dc _ _ _ _ _ _) w W).nx (JF W 1 Aa))) fun a w F W => ?_
 refine ls F W Aa (Af F Aa).q fun a w F W => ?_
 refine Ag (Ad ?_)
 obtain ⟨o2, G2, K2⟩ := Aq H
 refine AY (fun a w => ∃ x7 : Int, some (x7) = some o2 ∧ Fr 48 [] [(0, v1), (4, .pointer (some ⟨b1, 0, none⟩)), (6, .slice none 0 0), (7, .int .i64 0), (8, .int .i64 x7)] a ∧ Stw ⟨Y, X, w0⟩ [(b2, [.int .i64 ((Ab p1.2.1).1), .int .i64 ((Ab p1.2.1).2.1.1), .int .i64 ((Ab p1.2.1).2.1.2.1.1), .int .i64 ((Ab p1.2.1).2.1.2.1.2.1), .int .i64 ((Ab p1.2.1).2.1.2.1.2.2.1), .int .i64 ((Ab p1.2.1).2.1.2.1.2.2.2), .int .i64 ((Ab p1.2.1).2.1.2.2.1), .int .i64 ((Ab p1.2.1).2.1.2.2.2.1), .int .i64 ((Ab p1.2.1).2.1.2.2.2.2.1), .int .i64 ((Ab p1.2.1).2.1.2.2.2.2.2), v3]), (b1, [.int .i64 p1.1, .int .i64 p1.2.1.1, .int .i64 p1.2.1.2.1.1, .int .i64 p1.2.1.2.1.2.1.1, .int .i64 p1.2.1.2.1.2.1.2.1, .int .i64 p1.2.1.2.1.2.1.2.2.1, .int .i64 p1.2.1.2.1.2.1.2.2.2, .int .i64 p1.2.1.2.1.2.2.1, .int .i64 p1.2.1.2.1.2.2.2.1, .int .i64 p1.2.1.2.1.2.2.2.2.1, .int .i64 p1.2.1.2.1.2.2.2.2.2, v2, .bool x2])] [row v1 40 A6 p0, BP v3 Br ((Ab p1.2.1).2.2)] w) ?_ ?_
 ·
  have H := G2
  clear G2 K2
  refine Ak (Ae ?_)
  refine ls F W Aa (Ah F Aa).q fun a w F W => ?_
  refine ls F W Aa (BS F Aa Aa).q fun a w F W => ?_
  refine Ag (Ad ?_)
  refine AA F Aa (fun hb => ?_) fun hb => ?_
  ·
   have H := AU (Bd hb) H
   rw [hb] at F
   clear hb
   refine Ae ?_
   refine ls F W Aa (Ah F Aa).q fun a w F W => ?_
   refine ls F W Aa (B4 (r := A6) (l := p0) Em Aa F Aa (Bc 1 Aa)).q fun a w F W => ?_
   refine ls F W Aa (Af F Aa).q fun a w F W => ?_
   refine Ag (Ad ?_)
   have W := W.frontZ (i := 1) Aa Aa
   have W := W.frontM (i := 1) Aa Aa
   have W := W.frontM (i := 1) Aa Aa
   exact ⟨_, H, F.re ⟨rfl, Aa, Aa, Aa, Aa, trivial⟩, W⟩
  have H := AV (Be hb) H
  rw [hb] at F
  clear hb
  refine Az (Ad ?_)
  have W := W.frontZ (i := 1) Aa Aa
  have W := W.frontM (i := 1) Aa Aa
  have W := W.frontM (i := 1) Aa Aa
  exact ⟨_, H, F.re ⟨rfl, Aa, Aa, Aa, Aa, trivial⟩, W⟩
 rintro a w ⟨x7, hj, F, W⟩
 have hj := AZ hj
 subst hj
 have H := K2
 clear G2 K2
 refine Ak (Ae ?_)
 iterate 2 refine ls F W Aa (Ah F Aa).q fun a w F W => ?_
 refine ls F W Aa (Al FB Aa Aa Aa Da F Aa 1 Aa).q fun a w F W => ?_
 refine ls F W Aa (As (v := Value.agg #[.int .i64 p1.2.1.1, .int .i64 p1.2.1.2.1.1, .int .i64 p1.2.1.2.1.2.1.1, .int .i64 p1.2.1.2.1.2.1.2.1, .int .i64 p1.2.1.2.1.2.1.2.2.1, .int .i64 p1.2.1.2.1.2.1.2.2.2, .int .i64 p1.2.1.2.1.2.2.1, .int .i64 p1.2.1.2.1.2.2.2.1, .int .i64 p1.2.1.2.1.2.2.2.2.1, .int .i64 p1.2.1.2.1.2.2.2.2.2, v2]) 1 F Aa Aa Da Aa).q fun a w F W => ?_
 obtain ⟨x8, h5, H⟩ := Aq H
 refine Bq (Ml := []) (Zl := []) (M := [(b2, [.int .i64 ((Ab p1.2.1).1), .int .i64 ((Ab p1.2.1).2.1.1), .int .i64 ((Ab p1.2.1).2.1.2.1.1), .int .i64 ((Ab p1.2.1).2.1.2.1.2.1), .int .i64 ((Ab p1.2.1).2.1.2.1.2.2.1), .int .i64 ((Ab p1.2.1).2.1.2.1.2.2.2), .int .i64 ((Ab p1.2.1).2.1.2.2.1), .int .i64 ((Ab p1.2.1).2.1.2.2.2.1), .int .i64 ((Ab p1.2.1).2.1.2.2.2.2.1), .int .i64 ((Ab p1.2.1).2.1.2.2.2.2.2), v3]), (b1, [.int .i64 p1.1, .int .i64 p1.2.1.1, .int .i64 p1.2.1.2.1.1, .int .i64 p1.2.1.2.1.2.1.1, .int .i64 p1.2.1.2.1.2.1.2.1, .int .i64 p1.2.1.2.1.2.1.2.2.1, .int .i64 p1.2.1.2.1.2.1.2.2.2, .int .i64 p1.2.1.2.1.2.2.1, .int .i64 p1.2.1.2.1.2.2.2.1, .int .i64 p1.2.1.2.1.2.2.2.2.1, .int .i64 p1.2.1.2.1.2.2.2.2.2, v2, .bool x2])]) (Z := [row v1 40 A6 p0, BP v3 Br ((Ab p1.2.1).2.2)]) (β := Value) (rv := fun x => .agg #[.int .i64 x8.1, .int .i64 x8.2.1.1, .int .i64 x8.2.1.2.1.1, .int .i64 x8.2.1.2.1.2.1, .int .i64 x8.2.1.2.1.2.2.1, .int .i64 x8.2.1.2.1.2.2.2, .int .i64 x8.2.1.2.2.1, .int .i64 x8.2.1.2.2.2.1, .int .i64 x8.2.1.2.2.2.2.1, .int .i64 x8.2.1.2.2.2.2.2, x]) (MM := fun x => []) (ZZ := fun x => [row x 61 Br x8.2.2]) F W M7 Aa Aa (fun hL => CR _ w (v2) p1.2.1 _ h5 (W.old s_v2)) fun x a w F W => ?_
 obtain ⟨v6, rfl⟩ : ∃ y, y = x := ⟨x, rfl⟩
 have W : Stw ⟨Y, X, w0⟩ [(b2, [.int .i64 ((Ab p1.2.1).1), .int .i64 ((Ab p1.2.1).2.1.1), .int .i64 ((Ab p1.2.1).2.1.2.1.1), .int .i64 ((Ab p1.2.1).2.1.2.1.2.1), .int .i64 ((Ab p1.2.1).2.1.2.1.2.2.1), .int .i64 ((Ab p1.2.1).2.1.2.1.2.2.2), .int .i64 ((Ab p1.2.1).2.1.2.2.1), .int .i64 ((Ab p1.2.1).2.1.2.2.2.1), .int .i64 ((Ab p1.2.1).2.1.2.2.2.2.1), .int .i64 ((Ab p1.2.1).2.1.2.2.2.2.2), v3]), (b1, [.int .i64 p1.1, .int .i64 p1.2.1.1, .int .i64 p1.2.1.2.1.1, .int .i64 p1.2.1.2.1.2.1.1, .int .i64 p1.2.1.2.1.2.1.2.1, .int .i64 p1.2.1.2.1.2.1.2.2.1, .int .i64 p1.2.1.2.1.2.1.2.2.2, .int .i64 p1.2.1.2.1.2.2.1, .int .i64 p1.2.1.2.1.2.2.2.1, .int .i64 p1.2.1.2.1.2.2.2.2.1, .int .i64 p1.2.1.2.1.2.2.2.2.2, v2, .bool x2])] [row v6 61 Br x8.2.2, row v1 40 A6 p0, BP v3 Br ((Ab p1.2.1).2.2)] w := W
 have W := W.freeze
 refine Iv (z := Value.agg #[.int .i64 0, .int .i64 0, .int .i64 0, .int .i64 0, .int .i64 0, .int .i64 0, .int .i64 0, .int .i64 0, .int .i64 0, .int .i64 0, .slice none 0 0]) (cs := [.int .i64 x8.1, .int .i64 x8.2.1.1, .int .i64 x8.2.1.2.1.1, .int .i64 x8.2.1.2.1.2.1, .int .i64 x8.2.1.2.1.2.2.1, .int .i64 x8.2.1.2.1.2.2.2, .int .i64 x8.2.1.2.2.1, .int .i64 x8.2.1.2.2.2.1, .int .i64 x8.2.1.2.2.2.2.1, .int .i64 x8.2.1.2.2.2.2.2, v6]) A6 ([x8] : List (Int × (Int × (Int × Int × Int × Int) × (Int × Int × Int × Int)) × (List (Int × Int × Int)))) F W Aa Fa Kn Aa Aa Aa (Ct Aa Aa Aa Fm) Aa Aa ⟨[Value.int .i64 x8.1, Value.int .i64 x8.2.1.1, Value.int .i64 x8.2.1.2.1.1, Value.int .i64 x8.2.1.2.1.2.1, Value.int .i64 x8.2.1.2.1.2.2.1, Value.int .i64 x8.2.1.2.1.2.2.2, Value.int .i64 x8.2.1.2.2.1, Value.int .i64 x8.2.1.2.2.2.1, Value.int .i64 x8.2.1.2.2.2.2.1, Value.int .i64 x8.2.1.2.2.2.2.2, v6], _, Aa, ⟨[Value.int .i64 x8.1], [Value.int .i64 x8.2.1.1, Value.int .i64 x8.2.1.2.1.1, Value.int .i64 x8.2.1.2.1.2.1, Value.int .i64 x8.2.1.2.1.2.2.1, Value.int .i64 x8.2.1.2.1.2.2.2, Value.int .i64 x8.2.1.2.2.1, Value.int .i64 x8.2.1.2.2.2.1, Value.int .i64 x8.2.1.2.2.2.2.1, Value.int .i64 x8.2.1.2.2.2.2.2, v6], Aa, Aa, ⟨[Value.int .i64 x8.2.1.1, Value.int .i64 x8.2.1.2.1.1, Value.int .i64 x8.2.1.2.1.2.1, Value.int .i64 x8.2.1.2.1.2.2.1, Value.int .i64 x8.2.1.2.1.2.2.2, Value.int .i64 x8.2.1.2.2.1, Value.int .i64 x8.2.1.2.2.2.1, Value.int .i64 x8.2.1.2.2.2.2.1, Value.int .i64 x8.2.1.2.2.2.2.2], [v6], Aa, ⟨[Value.int .i64 x8.2.1.1], [Value.int .i64 x8.2.1.2.1.1, Value.int .i64 x8.2.1.2.1.2.1, Value.int .i64 x8.2.1.2.1.2.2.1, Value.int .i64 x8.2.1.2.1.2.2.2, Value.int .i64 x8.2.1.2.2.1, Value.int .i64 x8.2.1.2.2.2.1, Value.int .i64 x8.2.1.2.2.2.2.1, Value.int .i64 x8.2.1.2.2.2.2.2], Aa, Aa, ⟨[Value.int .i64 x8.2.1.2.1.1, Value.int .i64 x8.2.1.2.1.2.1, Value.int .i64 x8.2.1.2.1.2.2.1, Value.int .i64 x8.2.1.2.1.2.2.2], [Value.int .i64 x8.2.1.2.2.1, Value.int .i64 x8.2.1.2.2.2.1, Value.int .i64 x8.2.1.2.2.2.2.1, Value.int .i64 x8.2.1.2.2.2.2.2], Aa, ⟨[Value.int .i64 x8.2.1.2.1.1], [Value.int .i64 x8.2.1.2.1.2.1, Value.int .i64 x8.2.1.2.1.2.2.1, Value.int .i64 x8.2.1.2.1.2.2.2], Aa, Aa, ⟨[Value.int .i64 x8.2.1.2.1.2.1], [Value.int .i64 x8.2.1.2.1.2.2.1, Value.int .i64 x8.2.1.2.1.2.2.2], Aa, Aa, ⟨[Value.int .i64 x8.2.1.2.1.2.2.1], [Value.int .i64 x8.2.1.2.1.2.2.2], Aa, Aa, Aa⟩⟩⟩, ⟨[Value.int .i64 x8.2.1.2.2.1], [Value.int .i64 x8.2.1.2.2.2.1, Value.int .i64 x8.2.1.2.2.2.2.1, Value.int .i64 x8.2.1.2.2.2.2.2], Aa, Aa, ⟨[Value.int .i64 x8.2.1.2.2.2.1], [Value.int .i64 x8.2.1.2.2.2.2.1, Value.int .i64 x8.2.1.2.2.2.2.2], Aa, Aa, ⟨[Value.int .i64 x8.2.1.2.2.2.2.1], [Value.int .i64 x8.2.1.2.2.2.2.2], Aa, Aa, Aa⟩⟩⟩⟩⟩, ⟨_, Aa, (W.item (i := 0) Aa)⟩⟩⟩, Aa⟩ fun v7 a w F W => ?_
 obtain ⟨x9, h6, H⟩ := Aq H
 have W := W.frontZ (i := 2) Aa Aa
 have W := W.freeze
 have W := W.frontZ (i := 1) Aa Aa
 have W := W.freeze
 refine Bq (Ml := []) (Zl := []) (M := [(b2, [.int .i64 ((Ab p1.2.1).1), .int .i64 ((Ab p1.2.1).2.1.1), .int .i64 ((Ab p1.2.1).2.1.2.1.1), .int .i64 ((Ab p1.2.1).2.1.2.1.2.1), .int .i64 ((Ab p1.2.1).2.1.2.1.2.2.1), .int .i64 ((Ab p1.2.1).2.1.2.1.2.2.2), .int .i64 ((Ab p1.2.1).2.1.2.2.1), .int .i64 ((Ab p1.2.1).2.1.2.2.2.1), .int .i64 ((Ab p1.2.1).2.1.2.2.2.2.1), .int .i64 ((Ab p1.2.1).2.1.2.2.2.2.2), v3]), (b1, [.int .i64 p1.1, .int .i64 p1.2.1.1, .int .i64 p1.2.1.2.1.1, .int .i64 p1.2.1.2.1.2.1.1, .int .i64 p1.2.1.2.1.2.1.2.1, .int .i64 p1.2.1.2.1.2.1.2.2.1, .int .i64 p1.2.1.2.1.2.1.2.2.2, .int .i64 p1.2.1.2.1.2.2.1, .int .i64 p1.2.1.2.1.2.2.2.1, .int .i64 p1.2.1.2.1.2.2.2.2.1, .int .i64 p1.2.1.2.1.2.2.2.2.2, v2, .bool x2])]) (Z := [BP v7 A6 ([x8] : List (Int × (Int × (Int × Int × Int × Int) × (Int × Int × Int × Int)) × (List (Int × Int × Int)))), BP v1 A6 p0, BP v6 Br x8.2.2, BP v3 Br ((Ab p1.2.1).2.2)]) (β := Value) (rv := fun x => x) (MM := fun x => []) (ZZ := fun x => [BP x A6 x9]) F W N6 Aa Aa (fun hL => DK _ w (v1) (v7) p0 x7 ([x8] : List (Int × (Int × (Int × Int × Int × Int) × (Int × Int × Int × Int)) × (List (Int × Int × Int)))) _ h6 (W.item (i := 1) Aa) c_v1 (W.item (i := 0) Aa)) fun x a w F W => ?_
 obtain ⟨v8, rfl⟩ : ∃ y, y = x := ⟨x, rfl⟩
 have W : Stw ⟨Y, X, w0⟩ [(b2, [.int .i64 ((Ab p1.2.1).1), .int .i64 ((Ab p1.2.1).2.1.1), .int .i64 ((Ab p1.2.1).2.1.2.1.1), .int .i64 ((Ab p1.2.1).2.1.2.1.2.1), .int .i64 ((Ab p1.2.1).2.1.2.1.2.2.1), .int .i64 ((Ab p1.2.1).2.1.2.1.2.2.2), .int .i64 ((Ab p1.2.1).2.1.2.2.1), .int .i64 ((Ab p1.2.1).2.1.2.2.2.1), .int .i64 ((Ab p1.2.1).2.1.2.2.2.2.1), .int .i64 ((Ab p1.2.1).2.1.2.2.2.2.2), v3]), (b1, [.int .i64 p1.1, .int .i64 p1.2.1.1, .int .i64 p1.2.1.2.1.1, .int .i64 p1.2.1.2.1.2.1.1, .int .i64 p1.2.1.2.1.2.1.2.1, .int .i64 p1.2.1.2.1.2.1.2.2.1, .int .i64 p1.2.1.2.1.2.1.2.2.2, .int .i64 p1.2.1.2.1.2.2.1, .int .i64 p1.2.1.2.1.2.2.2.1, .int .i64 p1.2.1.2.1.2.2.2.2.1, .int .i64 p1.2.1.2.1.2.2.2.2.2, v2, .bool x2])] [BP v8 A6 x9, BP v7 A6 ([x8] : List (Int × (Int × (Int × Int × Int × Int) × (Int × Int × Int × Int)) × (List (Int × Int × Int)))), BP v1 A6 p0, BP v6 Br x8.2.2, BP v3 Br ((Ab p1.2.1).2.2)] w := W
 iterate 2 refine ls F W Aa (Af F Aa).q fun a w F W => ?_
 refine Ag (Ad (Ay ?_))
 have H := AZ H
 subst H
 refine Ey (.inl Aa) F W Aa (Au F Aa) (Au F Aa) ?_
 have W := W.sub (M' := []) (Z' := [BP v8 A6 x9]) (List.nil_sublist _) (List.Sublist.cons_cons _ (List.nil_sublist _))
 exact ⟨(v8), Aa, W⟩
theorem OM : Has Try.prog 41 := ⟨fun args w => An Try.func41 rfl (by decide) args w⟩
def Ai (p0 : Int × (Int × (Int × Int × Int × Int) × (Int × Int × Int × Int)) × (List (Int × Int × Int))) : (Int × (Int × (Int × Int × Int × Int) × (Int × Int × Int × Int)) × (List (Int × Int × Int))) := p0
theorem FV (Y : Nat → Prop) (w0 : World) (v1 : Value) (p0 : Int × (Int × (Int × Int × Int × Int) × (Int × Int × Int × Int)) × (List (Int × Int × Int))) (r : (Int × (Int × (Int × Int × Int × Int) × (Int × Int × Int × Int)) × (List (Int × Int × Int)))) (H : Ai p0 = r) (s_v1 : Sl w0 Y Br v1 p0.2.2) :
    Calls Try.prog 43 #[.agg #[.int .i64 p0.1, .int .i64 p0.2.1.1, .int .i64 p0.2.1.2.1.1, .int .i64 p0.2.1.2.1.2.1, .int .i64 p0.2.1.2.1.2.2.1, .int .i64 p0.2.1.2.1.2.2.2, .int .i64 p0.2.1.2.2.1, .int .i64 p0.2.1.2.2.2.1, .int .i64 p0.2.1.2.2.2.2.1, .int .i64 p0.2.1.2.2.2.2.2, v1]] w0 fun e w' => ∃ x : Nat × Value, e = .returned (.func (.func 64) #[] #[.pointer (some ⟨x.1, 0, none⟩)]) ∧ Stw ⟨Y, [], w0⟩ [(x.1, [.int .i64 r.1, .int .i64 r.2.1.1, .int .i64 r.2.1.2.1.1, .int .i64 r.2.1.2.1.2.1, .int .i64 r.2.1.2.1.2.2.1, .int .i64 r.2.1.2.1.2.2.2, .int .i64 r.2.1.2.2.1, .int .i64 r.2.1.2.2.2.1, .int .i64 r.2.1.2.2.2.2.1, .int .i64 r.2.1.2.2.2.2.2, x.2])] [BP (x.2) Br r.2.2] w' := by
 refine enter Try.func43 Aa Try.ntmps43 Aa fun a F => ?_
 have W := Stw.start Y w0
 have h_v1 := W.nx s_v1
 unfold Ai at H
 refine Ak (Ae ?_)
 refine B2 (cs := [.int .i64 p0.1, .int .i64 p0.2.1.1, .int .i64 p0.2.1.2.1.1, .int .i64 p0.2.1.2.1.2.1, .int .i64 p0.2.1.2.1.2.2.1, .int .i64 p0.2.1.2.1.2.2.2, .int .i64 p0.2.1.2.2.1, .int .i64 p0.2.1.2.2.2.1, .int .i64 p0.2.1.2.2.2.2.1, .int .i64 p0.2.1.2.2.2.2.2, v1]) F W Aa Aa Aa fun b1 a w F W => ?_
 refine ls F W Aa (Af F Aa).q fun a w F W => ?_
 refine Ag (Ad (Ak (Ae ?_)))
 refine ls F W Aa (ES (us := []) (vs := [.pointer (some ⟨b1, 0, none⟩)]) F Aa Aa).q fun a w F W => ?_
 refine ls F W Aa (Af F Aa).q fun a w F W => ?_
 refine Ag (Ad (Ay ?_))
 subst H
 refine AO (.inl Aa) F W Aa (Au F Aa) ?_
 have W := W.note (W.old s_v1)
 exact ⟨(b1, (v1)), Aa, W⟩
theorem NH : Has Try.prog 43 := ⟨fun args w => An Try.func43 rfl (by decide) args w⟩
noncomputable def CV (p0 : Int × (Int × Int × Int × Int) × (Int × Int × Int × Int)) (p1 : Int × (Int × Int × Int × Int) × (Int × Int × Int × Int)) : Option Bool := (Do p0 p1).bind fun x1 => some (x1.2 && decide (x1.1.1 = p0.1 ∧ x1.1.2.1.1 = p0.2.1.1 ∧ x1.1.2.1.2.1 = p0.2.1.2.1 ∧ x1.1.2.1.2.2.1 = p0.2.1.2.2.1 ∧ x1.1.2.1.2.2.2 = p0.2.1.2.2.2 ∧ x1.1.2.2.1 = p0.2.2.1 ∧ x1.1.2.2.2.1 = p0.2.2.2.1 ∧ x1.1.2.2.2.2.1 = p0.2.2.2.2.1 ∧ x1.1.2.2.2.2.2 = p0.2.2.2.2.2))
theorem Hz (Y : Nat → Prop) (w0 : World)  (p0 : Int × (Int × Int × Int × Int) × (Int × Int × Int × Int)) (p1 : Int × (Int × Int × Int × Int) × (Int × Int × Int × Int)) (r : Bool) (H : CV p0 p1 = some r)  :
    Calls Try.prog 65 #[.agg #[.int .i64 p0.1, .int .i64 p0.2.1.1, .int .i64 p0.2.1.2.1, .int .i64 p0.2.1.2.2.1, .int .i64 p0.2.1.2.2.2, .int .i64 p0.2.2.1, .int .i64 p0.2.2.2.1, .int .i64 p0.2.2.2.2.1, .int .i64 p0.2.2.2.2.2], .agg #[.int .i64 p1.1, .int .i64 p1.2.1.1, .int .i64 p1.2.1.2.1, .int .i64 p1.2.1.2.2.1, .int .i64 p1.2.1.2.2.2, .int .i64 p1.2.2.1, .int .i64 p1.2.2.2.1, .int .i64 p1.2.2.2.2.1, .int .i64 p1.2.2.2.2.2]] w0 fun e w' => e = .returned (.bool r) ∧ Below w0.heap.size w0 w' := by
 refine enter Try.func65 Aa Try.ntmps65 Aa fun a F => ?_
 have W := Stw.start Y w0
 unfold CV at H
 refine Ak (Ae ?_)
 refine B2 (cs := [.int .i64 p0.1, .int .i64 p0.2.1.1, .int .i64 p0.2.1.2.1, .int .i64 p0.2.1.2.2.1, .int .i64 p0.2.1.2.2.2, .int .i64 p0.2.2.1, .int .i64 p0.2.2.2.1, .int .i64 p0.2.2.2.2.1, .int .i64 p0.2.2.2.2.2]) F W Aa Aa Aa fun b1 a w F W => ?_
 refine B2 (cs := [.int .i64 p1.1, .int .i64 p1.2.1.1, .int .i64 p1.2.1.2.1, .int .i64 p1.2.1.2.2.1, .int .i64 p1.2.1.2.2.2, .int .i64 p1.2.2.1, .int .i64 p1.2.2.2.1, .int .i64 p1.2.2.2.2.1, .int .i64 p1.2.2.2.2.2]) F W Aa Aa Aa fun b2 a w F W => ?_
 refine ls F W Aa (Af F Aa).q fun a w F W => ?_
 refine Ag (Ad (Ak (Ae ?_)))
 refine ls F W Aa (As (v := Value.agg #[.int .i64 p0.1, .int .i64 p0.2.1.1, .int .i64 p0.2.1.2.1, .int .i64 p0.2.1.2.2.1, .int .i64 p0.2.1.2.2.2, .int .i64 p0.2.2.1, .int .i64 p0.2.2.2.1, .int .i64 p0.2.2.2.2.1, .int .i64 p0.2.2.2.2.2]) 1 F Aa Aa El Aa).q fun a w F W => ?_
 refine ls F W Aa (As (v := Value.agg #[.int .i64 p1.1, .int .i64 p1.2.1.1, .int .i64 p1.2.1.2.1, .int .i64 p1.2.1.2.2.1, .int .i64 p1.2.1.2.2.2, .int .i64 p1.2.2.1, .int .i64 p1.2.2.2.1, .int .i64 p1.2.2.2.2.1, .int .i64 p1.2.2.2.2.2]) 0 F Aa Aa El Aa).q fun a w F W => ?_
 obtain ⟨x1, h1, H⟩ := Aq H
 refine ls F W Aa (A4 (v := Value.tuple #[.agg #[.int .i64 x1.1.1, .int .i64 x1.1.2.1.1, .int .i64 x1.1.2.1.2.1, .int .i64 x1.1.2.1.2.2.1, .int .i64 x1.1.2.1.2.2.2, .int .i64 x1.1.2.2.1, .int .i64 x1.1.2.2.2.1, .int .i64 x1.1.2.2.2.2.1, .int .i64 x1.1.2.2.2.2.2], .bool x1.2]) F NK Aa (fun w W => GG any w p0 p1 _ h1)) fun a w F W => ?_
 refine ls F W Aa (Ah F Aa).q fun a w F W => ?_
 refine ls F W Aa (BH (v := Value.agg #[.int .i64 x1.1.1, .int .i64 x1.1.2.1.1, .int .i64 x1.1.2.1.2.1, .int .i64 x1.1.2.1.2.2.1, .int .i64 x1.1.2.1.2.2.2, .int .i64 x1.1.2.2.1, .int .i64 x1.1.2.2.2.1, .int .i64 x1.1.2.2.2.2.1, .int .i64 x1.1.2.2.2.2.2]) F Aa Aa).q fun a w F W => ?_
 refine ls F W Aa (BH (v := Value.bool x1.2) F Aa Aa).q fun a w F W => ?_
 refine Cp (cs := [.int .i64 0, .int .i64 0, .int .i64 0, .int .i64 0, .int .i64 0, .int .i64 0, .int .i64 0, .int .i64 0, .int .i64 0]) F W Aa Mv Aa fun b3 a w F W => ?_
 refine BN (vs := [.int .i64 x1.1.1, .int .i64 x1.1.2.1.1, .int .i64 x1.1.2.1.2.1, .int .i64 x1.1.2.1.2.2.1, .int .i64 x1.1.2.1.2.2.2, .int .i64 x1.1.2.2.1, .int .i64 x1.1.2.2.2.1, .int .i64 x1.1.2.2.2.2.1, .int .i64 x1.1.2.2.2.2.2]) (M' := [(b3, [.int .i64 x1.1.1, .int .i64 x1.1.2.1.1, .int .i64 x1.1.2.1.2.1, .int .i64 x1.1.2.1.2.2.1, .int .i64 x1.1.2.1.2.2.2, .int .i64 x1.1.2.2.1, .int .i64 x1.1.2.2.2.1, .int .i64 x1.1.2.2.2.2.1, .int .i64 x1.1.2.2.2.2.2]), (b2, [.int .i64 p1.1, .int .i64 p1.2.1.1, .int .i64 p1.2.1.2.1, .int .i64 p1.2.1.2.2.1, .int .i64 p1.2.1.2.2.2, .int .i64 p1.2.2.1, .int .i64 p1.2.2.2.1, .int .i64 p1.2.2.2.2.1, .int .i64 p1.2.2.2.2.2]), (b1, [.int .i64 p0.1, .int .i64 p0.2.1.1, .int .i64 p0.2.1.2.1, .int .i64 p0.2.1.2.2.1, .int .i64 p0.2.1.2.2.2, .int .i64 p0.2.2.1, .int .i64 p0.2.2.2.1, .int .i64 p0.2.2.2.2.1, .int .i64 p0.2.2.2.2.2])]) 0 F W Aa Aa Aa El Aa Aa Aa Aa Aa fun w W => ?_
 refine ls F W Aa (Af F Aa).q fun a w F W => ?_
 refine Ag (Ad ?_)
 refine AY (fun a w => Fr 19 [] [(4, .bool (x1.2 && decide (x1.1.1 = p0.1 ∧ x1.1.2.1.1 = p0.2.1.1 ∧ x1.1.2.1.2.1 = p0.2.1.2.1 ∧ x1.1.2.1.2.2.1 = p0.2.1.2.2.1 ∧ x1.1.2.1.2.2.2 = p0.2.1.2.2.2 ∧ x1.1.2.2.1 = p0.2.2.1 ∧ x1.1.2.2.2.1 = p0.2.2.2.1 ∧ x1.1.2.2.2.2.1 = p0.2.2.2.2.1 ∧ x1.1.2.2.2.2.2 = p0.2.2.2.2.2)))] a ∧ Stw ⟨Y, [], w0⟩ [(b3, [.int .i64 x1.1.1, .int .i64 x1.1.2.1.1, .int .i64 x1.1.2.1.2.1, .int .i64 x1.1.2.1.2.2.1, .int .i64 x1.1.2.1.2.2.2, .int .i64 x1.1.2.2.1, .int .i64 x1.1.2.2.2.1, .int .i64 x1.1.2.2.2.2.1, .int .i64 x1.1.2.2.2.2.2]), (b2, [.int .i64 p1.1, .int .i64 p1.2.1.1, .int .i64 p1.2.1.2.1, .int .i64 p1.2.1.2.2.1, .int .i64 p1.2.1.2.2.2, .int .i64 p1.2.2.1, .int .i64 p1.2.2.2.1, .int .i64 p1.2.2.2.2.1, .int .i64 p1.2.2.2.2.2]), (b1, [.int .i64 p0.1, .int .i64 p0.2.1.1, .int .i64 p0.2.1.2.1, .int .i64 p0.2.1.2.2.1, .int .i64 p0.2.1.2.2.2, .int .i64 p0.2.2.1, .int .i64 p0.2.2.2.1, .int .i64 p0.2.2.2.2.1, .int .i64 p0.2.2.2.2.2])] [] w) ?_ ?_
 ·
  refine Ae ?_
  iterate 2 refine ls F W Aa (Ah F Aa).q fun a w F W => ?_
  rcases Bool.eq_false_or_eq_true x1.2 with hb0 | hb0
  ·
   rw [hb0] at F
   refine AD F W (Aj F Aa Aa Aa Aa) Aa (Ap Aa) (As (v := Value.agg #[.int .i64 x1.1.1, .int .i64 x1.1.2.1.1, .int .i64 x1.1.2.1.2.1, .int .i64 x1.1.2.1.2.2.1, .int .i64 x1.1.2.1.2.2.2, .int .i64 x1.1.2.2.1, .int .i64 x1.1.2.2.2.1, .int .i64 x1.1.2.2.2.2.1, .int .i64 x1.1.2.2.2.2.2]) 0 F Aa Aa El Aa).q fun a w F W => ?_
   refine AD F W (Aj F Aa Aa Aa Aa) Aa (Ap Aa) (As (v := Value.agg #[.int .i64 p0.1, .int .i64 p0.2.1.1, .int .i64 p0.2.1.2.1, .int .i64 p0.2.1.2.2.1, .int .i64 p0.2.1.2.2.2, .int .i64 p0.2.2.1, .int .i64 p0.2.2.2.1, .int .i64 p0.2.2.2.2.1, .int .i64 p0.2.2.2.2.2]) 2 F Aa Aa El Aa).q fun a w F W => ?_
   refine AD F W (Aj F Aa Aa Aa Aa) Aa (Ap Aa) (JS (t := decide (x1.1.1 = p0.1 ∧ x1.1.2.1.1 = p0.2.1.1 ∧ x1.1.2.1.2.1 = p0.2.1.2.1 ∧ x1.1.2.1.2.2.1 = p0.2.1.2.2.1 ∧ x1.1.2.1.2.2.2 = p0.2.1.2.2.2 ∧ x1.1.2.2.1 = p0.2.2.1 ∧ x1.1.2.2.2.1 = p0.2.2.2.1 ∧ x1.1.2.2.2.2.1 = p0.2.2.2.2.1 ∧ x1.1.2.2.2.2.2 = p0.2.2.2.2.2)) MI (MQ _ _ _ _ _ _ _ _ _ _ _ _ _ _ _ _ _ _) F Aa Aa).q fun a w F W => ?_
   refine ls F W Aa (Aw F Aa Aa Aa).q fun a w F W => ?_
   refine ls F W Aa (Af F Aa).q fun a w F W => ?_
   refine Ag (Ad ?_)
   exact ⟨F.re ⟨(by show some (Value.bool (decide (x1.1.1 = p0.1 ∧ x1.1.2.1.1 = p0.2.1.1 ∧ x1.1.2.1.2.1 = p0.2.1.2.1 ∧ x1.1.2.1.2.2.1 = p0.2.1.2.2.1 ∧ x1.1.2.1.2.2.2 = p0.2.1.2.2.2 ∧ x1.1.2.2.1 = p0.2.2.1 ∧ x1.1.2.2.2.1 = p0.2.2.2.1 ∧ x1.1.2.2.2.2.1 = p0.2.2.2.2.1 ∧ x1.1.2.2.2.2.2 = p0.2.2.2.2.2))) = some (Value.bool (x1.2 && decide (x1.1.1 = p0.1 ∧ x1.1.2.1.1 = p0.2.1.1 ∧ x1.1.2.1.2.1 = p0.2.1.2.1 ∧ x1.1.2.1.2.2.1 = p0.2.1.2.2.1 ∧ x1.1.2.1.2.2.2 = p0.2.1.2.2.2 ∧ x1.1.2.2.1 = p0.2.2.1 ∧ x1.1.2.2.2.1 = p0.2.2.2.1 ∧ x1.1.2.2.2.2.1 = p0.2.2.2.2.1 ∧ x1.1.2.2.2.2.2 = p0.2.2.2.2.2))); try rw [hb0]; all_goals simp only [Bool.not_true, Bool.not_false, Bool.true_and, Bool.false_and, Bool.true_or, Bool.false_or, Bool.and_true, Bool.or_false, cond_true, cond_false]), trivial⟩, W⟩
  rw [hb0] at F
  iterate 3 refine Ci F Aa Aa Aa Aa Aa Aa Aa fun a F => ?_
  refine ls F W Aa (Ao F Aa Aa Aa).q fun a w F W => ?_
  refine ls F W Aa (Af F Aa).q fun a w F W => ?_
  refine Ag (Ad ?_)
  exact ⟨F.re ⟨(by show some (Value.bool false) = some (Value.bool (x1.2 && decide (x1.1.1 = p0.1 ∧ x1.1.2.1.1 = p0.2.1.1 ∧ x1.1.2.1.2.1 = p0.2.1.2.1 ∧ x1.1.2.1.2.2.1 = p0.2.1.2.2.1 ∧ x1.1.2.1.2.2.2 = p0.2.1.2.2.2 ∧ x1.1.2.2.1 = p0.2.2.1 ∧ x1.1.2.2.2.1 = p0.2.2.2.1 ∧ x1.1.2.2.2.2.1 = p0.2.2.2.2.1 ∧ x1.1.2.2.2.2.2 = p0.2.2.2.2.2))); try rw [hb0]; all_goals simp only [Bool.not_true, Bool.not_false, Bool.true_and, Bool.false_and, Bool.true_or, Bool.false_or, Bool.and_true, Bool.or_false, cond_true, cond_false]), trivial⟩, W⟩
 rintro a w ⟨F, W⟩
 refine Ay ?_
 have H := AZ H
 subst H
 refine AO (.inl Aa) F W Aa (Au F Aa) ?_
 exact ⟨rfl, W.done⟩
theorem OG : Has Try.prog 65 := ⟨fun args w => An Try.func65 rfl (by decide) args w⟩
noncomputable def B3 (p0 : Int × (Int × (Int × Int × Int × Int) × (Int × Int × Int × Int)) × (List (Int × Int × Int))) (p1 : Int × (Int × (Int × Int × Int × Int) × (Int × Int × Int × Int)) × (List (Int × Int × Int))) : Option Bool := (CV p0.2.1 p1.2.1).bind fun x1 => some x1
theorem D8 (Y : Nat → Prop) (w0 : World) (v1 : Value) (q_p1 : Nat) (v2 : Value) (p0 : Int × (Int × (Int × Int × Int × Int) × (Int × Int × Int × Int)) × (List (Int × Int × Int))) (p1 : Int × (Int × (Int × Int × Int × Int) × (Int × Int × Int × Int)) × (List (Int × Int × Int))) (r : Bool) (H : B3 p0 p1 = some r) (h_v1 : Sl w0 (NX []) Br v1 p0.2.2) (h_v2 : Sl w0 (NX []) Br v2 p1.2.2) (a_q_p1 : At ⟨Y, [], w0⟩ q_p1 0 [.int .i64 p1.1, .int .i64 p1.2.1.1, .int .i64 p1.2.1.2.1.1, .int .i64 p1.2.1.2.1.2.1, .int .i64 p1.2.1.2.1.2.2.1, .int .i64 p1.2.1.2.1.2.2.2, .int .i64 p1.2.1.2.2.1, .int .i64 p1.2.1.2.2.2.1, .int .i64 p1.2.1.2.2.2.2.1, .int .i64 p1.2.1.2.2.2.2.2, v2]) :
    Calls Try.prog 64 #[.agg #[.int .i64 p0.1, .int .i64 p0.2.1.1, .int .i64 p0.2.1.2.1.1, .int .i64 p0.2.1.2.1.2.1, .int .i64 p0.2.1.2.1.2.2.1, .int .i64 p0.2.1.2.1.2.2.2, .int .i64 p0.2.1.2.2.1, .int .i64 p0.2.1.2.2.2.1, .int .i64 p0.2.1.2.2.2.2.1, .int .i64 p0.2.1.2.2.2.2.2, v1], .pointer (some ⟨q_p1, 0, none⟩)] w0 fun e w' => e = .returned (.bool r) ∧ Below w0.heap.size w0 w' := by
 refine enter Try.func64 Aa Try.ntmps64 Aa fun a F => ?_
 have W := Stw.start Y w0
 unfold B3 at H
 refine Ak (Ae ?_)
 refine B2 (cs := [.int .i64 p0.1, .int .i64 p0.2.1.1, .int .i64 p0.2.1.2.1.1, .int .i64 p0.2.1.2.1.2.1, .int .i64 p0.2.1.2.1.2.2.1, .int .i64 p0.2.1.2.1.2.2.2, .int .i64 p0.2.1.2.2.1, .int .i64 p0.2.1.2.2.2.1, .int .i64 p0.2.1.2.2.2.2.1, .int .i64 p0.2.1.2.2.2.2.2, v1]) F W Aa Aa Aa fun b1 a w F W => ?_
 refine ls F W Aa (Af F Aa).q fun a w F W => ?_
 refine Ag (Ad (Ak (Ae ?_)))
 refine ls F W Aa (Al CA Aa Aa Aa El F Aa 1 Aa).q fun a w F W => ?_
 refine ls F W Aa (As (v := Value.agg #[.int .i64 p0.2.1.1, .int .i64 p0.2.1.2.1.1, .int .i64 p0.2.1.2.1.2.1, .int .i64 p0.2.1.2.1.2.2.1, .int .i64 p0.2.1.2.1.2.2.2, .int .i64 p0.2.1.2.2.1, .int .i64 p0.2.1.2.2.2.1, .int .i64 p0.2.1.2.2.2.2.1, .int .i64 p0.2.1.2.2.2.2.2]) 0 F Aa Aa El Aa).q fun a w F W => ?_
 refine ls F W Aa (Al CA Aa Aa Aa El F Aa 1 Aa).q fun a w F W => ?_
 refine ls F W Aa (EN (y := Value.agg #[.int .i64 p1.2.1.1, .int .i64 p1.2.1.2.1.1, .int .i64 p1.2.1.2.1.2.1, .int .i64 p1.2.1.2.1.2.2.1, .int .i64 p1.2.1.2.1.2.2.2, .int .i64 p1.2.1.2.2.1, .int .i64 p1.2.1.2.2.2.1, .int .i64 p1.2.1.2.2.2.2.1, .int .i64 p1.2.1.2.2.2.2.2]) (j := 1) F Aa (Nat.zero_add _).symm a_q_p1 El Aa).q fun a w F W => ?_
 obtain ⟨x1, h1, H⟩ := Aq H
 refine ls F W Aa (A4 (v := Value.bool x1) F OG Aa (fun w W => Hz any w p0.2.1 p1.2.1 _ h1)) fun a w F W => ?_
 refine ls F W Aa (Af F Aa).q fun a w F W => ?_
 refine Ag (Ad (Ay ?_))
 have H := AZ H
 subst H
 refine AO (.inl Aa) F W Aa (Au F Aa) ?_
 exact ⟨rfl, W.done⟩
theorem Nt : Has Try.prog 64 := ⟨fun args w => An Try.func64 rfl (by decide) args w⟩
noncomputable def B8 (p0 : List (Int × (Int × (Int × Int × Int × Int) × (Int × Int × Int × Int)) × (List (Int × Int × Int)))) (p1 : Int × (Int × (Int × Int × Int × Int) × (Int × Int × Int × Int)) × (List (Int × Int × Int))) (p2c0 : Int × (Int × (Int × Int × Int × Int) × (Int × Int × Int × Int)) × (List (Int × Int × Int))) : ((List (Int × (Int × (Int × Int × Int × Int) × (Int × Int × Int × Int)) × (List (Int × Int × Int)))) × Int) → Option (((List (Int × (Int × (Int × Int × Int × Int) × (Int × Int × Int × Int)) × (List (Int × Int × Int)))) × Int) ⊕ (List (Int × (Int × (Int × Int × Int × Int) × (Int × Int × Int × Int)) × (List (Int × Int × Int)))))
  | (x2, x3) => (if x3 < (p0.length : Int) then ((ix x2 x3).bind fun x5 => (B3 x5 p2c0).bind fun x6 => (if x6 = true then (Bn p1).bind fun x7 => (ix x2 x3).bind fun x8 => some (Dk x2 x3 (x8.1, x8.2.1, x7.2.2)) else some x2)).bind fun x4 => some (.inl (x4, CG (x3 + 1))) else some (.inr x2))
noncomputable def B5 (p0 : List (Int × (Int × (Int × Int × Int × Int) × (Int × Int × Int × Int)) × (List (Int × Int × Int)))) (p1 : Int × (Int × (Int × Int × Int × Int) × (Int × Int × Int × Int)) × (List (Int × Int × Int))) (p2c0 : Int × (Int × (Int × Int × Int × Int) × (Int × Int × Int × Int)) × (List (Int × Int × Int))) : Option (List (Int × (Int × (Int × Int × Int × Int) × (Int × Int × Int × Int)) × (List (Int × Int × Int)))) := (Bh (B8 p0 p1 p2c0) (p0, 0)).bind fun x1 => some x1
theorem GH (Y : Nat → Prop) (X : List Nat) (w0 : World) (v1 : Value) (v2 : Value) (q_p2c0 : Nat) (v3 : Value) (p0 : List (Int × (Int × (Int × Int × Int × Int) × (Int × Int × Int × Int)) × (List (Int × Int × Int)))) (p1 : Int × (Int × (Int × Int × Int × Int) × (Int × Int × Int × Int)) × (List (Int × Int × Int))) (p2c0 : Int × (Int × (Int × Int × Int × Int) × (Int × Int × Int × Int)) × (List (Int × Int × Int))) (r : (List (Int × (Int × (Int × Int × Int × Int) × (Int × Int × Int × Int)) × (List (Int × Int × Int))))) (H : B5 p0 p1 p2c0 = some r) (s_v2 : Sl w0 Y Br v2 p1.2.2) (h_v3 : Sl w0 (NX X) Br v3 p2c0.2.2) (a_q_p2c0 : At ⟨Y, X, w0⟩ q_p2c0 0 [.int .i64 p2c0.1, .int .i64 p2c0.2.1.1, .int .i64 p2c0.2.1.2.1.1, .int .i64 p2c0.2.1.2.1.2.1, .int .i64 p2c0.2.1.2.1.2.2.1, .int .i64 p2c0.2.1.2.1.2.2.2, .int .i64 p2c0.2.1.2.2.1, .int .i64 p2c0.2.1.2.2.2.1, .int .i64 p2c0.2.1.2.2.2.2.1, .int .i64 p2c0.2.1.2.2.2.2.2, v3]) (hL : Stw ⟨Y, X, w0⟩ [] [row v1 40 A6 p0] w0) :
    Calls Try.prog 42 #[v1, .agg #[.int .i64 p1.1, .int .i64 p1.2.1.1, .int .i64 p1.2.1.2.1.1, .int .i64 p1.2.1.2.1.2.1, .int .i64 p1.2.1.2.1.2.2.1, .int .i64 p1.2.1.2.1.2.2.2, .int .i64 p1.2.1.2.2.1, .int .i64 p1.2.1.2.2.2.1, .int .i64 p1.2.1.2.2.2.2.1, .int .i64 p1.2.1.2.2.2.2.2, v2], .func (.func 64) #[] #[.pointer (some ⟨q_p2c0, 0, none⟩)]] w0 fun e w' => ∃ x : Value, e = .returned (x) ∧ Stw ⟨Y, X, w0⟩ [] [row (x) 40 A6 r] w' := by
 refine enter Try.func42 Aa Try.ntmps42 Aa fun a F => ?_
 have W := hL
 have h_v2 := W.nx s_v2
 unfold B5 at H
 refine Ak (Ae ?_)
 refine B2 (cs := [.int .i64 p1.1, .int .i64 p1.2.1.1, .int .i64 p1.2.1.2.1.1, .int .i64 p1.2.1.2.1.2.1, .int .i64 p1.2.1.2.1.2.2.1, .int .i64 p1.2.1.2.1.2.2.2, .int .i64 p1.2.1.2.2.1, .int .i64 p1.2.1.2.2.2.1, .int .i64 p1.2.1.2.2.2.2.1, .int .i64 p1.2.1.2.2.2.2.2, v2]) F W Aa Aa Aa fun b1 a w F W => ?_
 refine ls F W Aa (Af F Aa).q fun a w F W => ?_
 refine Ag (Ad ?_)
 obtain ⟨o1, G1, K1⟩ := Aq H
 refine AY (fun a w => ∃ x1 : List (Int × (Int × (Int × Int × Int × Int) × (Int × Int × Int × Int)) × (List (Int × Int × Int))), some (x1) = some o1 ∧ Fr 28 [] [(0, v1), (6, .slice none 0 0)] a ∧ Stw ⟨Y, X, w0⟩ [(b1, [.int .i64 p1.1, .int .i64 p1.2.1.1, .int .i64 p1.2.1.2.1.1, .int .i64 p1.2.1.2.1.2.1, .int .i64 p1.2.1.2.1.2.2.1, .int .i64 p1.2.1.2.1.2.2.2, .int .i64 p1.2.1.2.2.1, .int .i64 p1.2.1.2.2.2.1, .int .i64 p1.2.1.2.2.2.2.1, .int .i64 p1.2.1.2.2.2.2.2, v2])] [row v1 40 A6 x1] w) ?_ ?_
 ·
  have H := G1
  clear G1 K1
  refine Ak (Ae ?_)
  refine ls F W Aa (Ah F Aa).q fun a w F W => ?_
  refine ls F W Aa (B4 (r := A6) (l := p0) Em Aa F Aa (Bc 0 Aa)).q fun a w F W => ?_
  refine ls F W Aa (Ah F Aa).q fun a w F W => ?_
  refine Ag (Ad (AB ?_))
  refine BU H (fun s a w => Fr 28 [] [(0, v1), (2, .func (.func 64) #[] #[.pointer (some ⟨q_p2c0, 0, none⟩)]), (4, .pointer (some ⟨b1, 0, none⟩)), (6, .slice none 0 0), (9, v1), (10, .int .i64 (p0.length : Int)), (11, .int .i64 s.2)] a ∧ Stw ⟨Y, X, w0⟩ [(b1, [.int .i64 p1.1, .int .i64 p1.2.1.1, .int .i64 p1.2.1.2.1.1, .int .i64 p1.2.1.2.1.2.1, .int .i64 p1.2.1.2.1.2.2.1, .int .i64 p1.2.1.2.1.2.2.2, .int .i64 p1.2.1.2.2.1, .int .i64 p1.2.1.2.2.2.1, .int .i64 p1.2.1.2.2.2.2.1, .int .i64 p1.2.1.2.2.2.2.2, v2])] [row v1 40 A6 s.1] w) ⟨F.re ⟨rfl, Aa, Aa, Aa, Aa, Aa, Aa, trivial⟩, W⟩ fun s o a w H L2 hR => ?_
  obtain ⟨x2, x3⟩ := s
  obtain ⟨F, W⟩ := hR
  have F : Fr 28 [] [(0, v1), (2, .func (.func 64) #[] #[.pointer (some ⟨q_p2c0, 0, none⟩)]), (4, .pointer (some ⟨b1, 0, none⟩)), (6, .slice none 0 0), (9, v1), (10, .int .i64 (p0.length : Int)), (11, .int .i64 x3)] a := F
  have W : Stw ⟨Y, X, w0⟩ [(b1, [.int .i64 p1.1, .int .i64 p1.2.1.1, .int .i64 p1.2.1.2.1.1, .int .i64 p1.2.1.2.1.2.1, .int .i64 p1.2.1.2.1.2.2.1, .int .i64 p1.2.1.2.1.2.2.2, .int .i64 p1.2.1.2.2.1, .int .i64 p1.2.1.2.2.2.1, .int .i64 p1.2.1.2.2.2.2.1, .int .i64 p1.2.1.2.2.2.2.2, v2])] [row v1 40 A6 x2] w := W
  rw [B8] at H
  refine Ak (Ae ?_)
  refine ls F W Aa (BS F Aa Aa).q fun a w F W => ?_
  refine Ag (Ad (Ak ?_))
  refine AA F Aa (fun hb => ?_) fun hb => ?_
  ·
   have H := AU (Bd hb) H
   rw [hb] at F
   clear hb
   refine Az (Ad ?_)
   obtain ⟨o3, G3, K3⟩ := Aq H
   refine AY (fun a w => ∃ x4 : List (Int × (Int × (Int × Int × Int × Int) × (Int × Int × Int × Int)) × (List (Int × Int × Int))), some (x4) = some o3 ∧ Fr 28 [] [(0, v1), (2, .func (.func 64) #[] #[.pointer (some ⟨q_p2c0, 0, none⟩)]), (4, .pointer (some ⟨b1, 0, none⟩)), (6, .slice none 0 0), (9, v1), (10, .int .i64 (p0.length : Int)), (11, .int .i64 x3)] a ∧ Stw ⟨Y, X, w0⟩ [(b1, [.int .i64 p1.1, .int .i64 p1.2.1.1, .int .i64 p1.2.1.2.1.1, .int .i64 p1.2.1.2.1.2.1, .int .i64 p1.2.1.2.1.2.2.1, .int .i64 p1.2.1.2.1.2.2.2, .int .i64 p1.2.1.2.2.1, .int .i64 p1.2.1.2.2.2.1, .int .i64 p1.2.1.2.2.2.2.1, .int .i64 p1.2.1.2.2.2.2.2, v2])] [row v1 40 A6 x4] w) ?_ ?_
   ·
    have H := G3
    clear G3 K3
    refine AB (Ak ?_)
    obtain ⟨v4, h1, W⟩ := W.exR Bo
    refine Ae ?_
    refine ls F W Aa (Ah F Aa).q fun a w F W => ?_
    obtain ⟨x5, h2, H⟩ := Aq H
    obtain ⟨v5, h3, h4⟩ := CO h1 h2
    have h5 : Cm v5 = [.int .i64 x5.1, .int .i64 x5.2.1.1, .int .i64 x5.2.1.2.1.1, .int .i64 x5.2.1.2.1.2.1, .int .i64 x5.2.1.2.1.2.2.1, .int .i64 x5.2.1.2.1.2.2.2, .int .i64 x5.2.1.2.2.1, .int .i64 x5.2.1.2.2.2.1, .int .i64 x5.2.1.2.2.2.2.1, .int .i64 x5.2.1.2.2.2.2.2, (v5.2.2.1)] := congrArg (fun q : Int × (Int × (Int × Int × Int × Int) × (Int × Int × Int × Int)) × (List (Int × Int × Int)) => ([.int .i64 q.1, .int .i64 q.2.1.1, .int .i64 q.2.1.2.1.1, .int .i64 q.2.1.2.1.2.1, .int .i64 q.2.1.2.1.2.2.1, .int .i64 q.2.1.2.1.2.2.2, .int .i64 q.2.1.2.2.1, .int .i64 q.2.1.2.2.2.1, .int .i64 q.2.1.2.2.2.2.1, .int .i64 q.2.1.2.2.2.2.2, (v5.2.2.1)] : List Value)) h4
    refine ls F W Aa (Bl (r := C1) Fa F Aa Aa (Bc 0 Aa) h3).q fun a w F W => ?_
    refine ls F W Aa (Ba (y := Value.agg #[.int .i64 x5.1, .int .i64 x5.2.1.1, .int .i64 x5.2.1.2.1.1, .int .i64 x5.2.1.2.1.2.1, .int .i64 x5.2.1.2.1.2.2.1, .int .i64 x5.2.1.2.1.2.2.2, .int .i64 x5.2.1.2.2.1, .int .i64 x5.2.1.2.2.2.1, .int .i64 x5.2.1.2.2.2.2.1, .int .i64 x5.2.1.2.2.2.2.2, (v5.2.2.1)]) (j := 0) (i := x3) (enc := Cm) F Aa Aa (Bc 0 Aa) h3 Es Da (by rw [h5]; rfl)).q fun a w F W => ?_
    have W := W.note (W.rowAt (k := 0) Aa h3 (Bv.snd (Bv.snd Bv.here)) (congrArg (fun q : Int × (Int × (Int × Int × Int × Int) × (Int × Int × Int × Int)) × (List (Int × Int × Int)) => q.2.2) h4))
    refine Cp (cs := [.int .i64 0, .int .i64 0, .int .i64 0, .int .i64 0, .int .i64 0, .int .i64 0, .int .i64 0, .int .i64 0, .int .i64 0, .int .i64 0, .slice none 0 0]) F W Aa Kn Aa fun b2 a w F W => ?_
    refine ls F W Aa (Af F Aa).q fun a w F W => ?_
    refine BN (vs := [.int .i64 x5.1, .int .i64 x5.2.1.1, .int .i64 x5.2.1.2.1.1, .int .i64 x5.2.1.2.1.2.1, .int .i64 x5.2.1.2.1.2.2.1, .int .i64 x5.2.1.2.1.2.2.2, .int .i64 x5.2.1.2.2.1, .int .i64 x5.2.1.2.2.2.1, .int .i64 x5.2.1.2.2.2.2.1, .int .i64 x5.2.1.2.2.2.2.2, (v5.2.2.1)]) (M' := [(b2, [.int .i64 x5.1, .int .i64 x5.2.1.1, .int .i64 x5.2.1.2.1.1, .int .i64 x5.2.1.2.1.2.1, .int .i64 x5.2.1.2.1.2.2.1, .int .i64 x5.2.1.2.1.2.2.2, .int .i64 x5.2.1.2.2.1, .int .i64 x5.2.1.2.2.2.1, .int .i64 x5.2.1.2.2.2.2.1, .int .i64 x5.2.1.2.2.2.2.2, (v5.2.2.1)]), (b1, [.int .i64 p1.1, .int .i64 p1.2.1.1, .int .i64 p1.2.1.2.1.1, .int .i64 p1.2.1.2.1.2.1, .int .i64 p1.2.1.2.1.2.2.1, .int .i64 p1.2.1.2.1.2.2.2, .int .i64 p1.2.1.2.2.1, .int .i64 p1.2.1.2.2.2.1, .int .i64 p1.2.1.2.2.2.2.1, .int .i64 p1.2.1.2.2.2.2.2, v2])]) 0 F W Aa Aa Aa Da Aa Aa Aa (Am Aa (Am Aa (Am Aa (Am Aa (Am Aa (Am Aa (Am Aa (Am Aa (Am Aa (Am Aa (Am (W.oneF (k := 0) Aa) C9))))))))))) Aa fun w W => ?_
    refine Ag (Ad (Ak (Ae ?_)))
    refine ls F W Aa (Ah F Aa).q fun a w F W => ?_
    refine ls F W Aa (As (v := Value.agg #[.int .i64 x5.1, .int .i64 x5.2.1.1, .int .i64 x5.2.1.2.1.1, .int .i64 x5.2.1.2.1.2.1, .int .i64 x5.2.1.2.1.2.2.1, .int .i64 x5.2.1.2.1.2.2.2, .int .i64 x5.2.1.2.2.1, .int .i64 x5.2.1.2.2.2.1, .int .i64 x5.2.1.2.2.2.2.1, .int .i64 x5.2.1.2.2.2.2.2, (v5.2.2.1)]) 0 F Aa Aa Da Aa).q fun a w F W => ?_
    obtain ⟨x6, h6, H⟩ := Aq H
    refine ls F W Aa (EH (ws := [.agg #[.int .i64 x5.1, .int .i64 x5.2.1.1, .int .i64 x5.2.1.2.1.1, .int .i64 x5.2.1.2.1.2.1, .int .i64 x5.2.1.2.1.2.2.1, .int .i64 x5.2.1.2.1.2.2.2, .int .i64 x5.2.1.2.2.1, .int .i64 x5.2.1.2.2.2.1, .int .i64 x5.2.1.2.2.2.2.1, .int .i64 x5.2.1.2.2.2.2.2, (v5.2.2.1)], .pointer (some ⟨q_p2c0, 0, none⟩)]) (v := Value.bool x6) F Nt Aa (fun w W => D8 any w ((v5.2.2.1)) q_p2c0 (v3) x5 p2c0 _ h6 (((CT 0 Aa) : Dc _ _ _ _ _ _) w W).nx (((Av h_v3) : Dc _ _ _ _ _ _) w W).nx (At.re a_q_p2c0 W))) fun a w F W => ?_
    refine Ag (Ad ?_)
    refine AA F Aa (fun hb => ?_) fun hb => ?_
    ·
     have H := AU hb H
     rw [hb] at F
     clear hb
     refine Ae ?_
     iterate 2 refine ls F W Aa (Ah F Aa).q fun a w F W => ?_
     refine ls F W Aa (As (v := Value.agg #[.int .i64 p1.1, .int .i64 p1.2.1.1, .int .i64 p1.2.1.2.1.1, .int .i64 p1.2.1.2.1.2.1, .int .i64 p1.2.1.2.1.2.2.1, .int .i64 p1.2.1.2.1.2.2.2, .int .i64 p1.2.1.2.2.1, .int .i64 p1.2.1.2.2.2.1, .int .i64 p1.2.1.2.2.2.2.1, .int .i64 p1.2.1.2.2.2.2.2, v2]) 1 F Aa Aa Da Aa).q fun a w F W => ?_
     obtain ⟨x7, h7, H⟩ := Aq H
     refine Bq (Ml := []) (Zl := []) (M := [(b2, [.int .i64 x5.1, .int .i64 x5.2.1.1, .int .i64 x5.2.1.2.1.1, .int .i64 x5.2.1.2.1.2.1, .int .i64 x5.2.1.2.1.2.2.1, .int .i64 x5.2.1.2.1.2.2.2, .int .i64 x5.2.1.2.2.1, .int .i64 x5.2.1.2.2.2.1, .int .i64 x5.2.1.2.2.2.2.1, .int .i64 x5.2.1.2.2.2.2.2, (v5.2.2.1)]), (b1, [.int .i64 p1.1, .int .i64 p1.2.1.1, .int .i64 p1.2.1.2.1.1, .int .i64 p1.2.1.2.1.2.1, .int .i64 p1.2.1.2.1.2.2.1, .int .i64 p1.2.1.2.1.2.2.2, .int .i64 p1.2.1.2.2.1, .int .i64 p1.2.1.2.2.2.1, .int .i64 p1.2.1.2.2.2.2.1, .int .i64 p1.2.1.2.2.2.2.2, v2])]) (Z := [BP (v5.2.2.1) Br x5.2.2, row v1 40 C1 v4]) (β := Value) (rv := fun x => .agg #[.int .i64 x7.1, .int .i64 x7.2.1.1, .int .i64 x7.2.1.2.1.1, .int .i64 x7.2.1.2.1.2.1, .int .i64 x7.2.1.2.1.2.2.1, .int .i64 x7.2.1.2.1.2.2.2, .int .i64 x7.2.1.2.2.1, .int .i64 x7.2.1.2.2.2.1, .int .i64 x7.2.1.2.2.2.2.1, .int .i64 x7.2.1.2.2.2.2.2, x]) (MM := fun x => []) (ZZ := fun x => [row x 61 Br x7.2.2]) F W M7 Aa Aa (fun hL => CR _ w (v2) p1 _ h7 (W.old s_v2)) fun x a w F W => ?_
     obtain ⟨v6, rfl⟩ : ∃ y, y = x := ⟨x, rfl⟩
     have W : Stw ⟨Y, X, w0⟩ [(b2, [.int .i64 x5.1, .int .i64 x5.2.1.1, .int .i64 x5.2.1.2.1.1, .int .i64 x5.2.1.2.1.2.1, .int .i64 x5.2.1.2.1.2.2.1, .int .i64 x5.2.1.2.1.2.2.2, .int .i64 x5.2.1.2.2.1, .int .i64 x5.2.1.2.2.2.1, .int .i64 x5.2.1.2.2.2.2.1, .int .i64 x5.2.1.2.2.2.2.2, (v5.2.2.1)]), (b1, [.int .i64 p1.1, .int .i64 p1.2.1.1, .int .i64 p1.2.1.2.1.1, .int .i64 p1.2.1.2.1.2.1, .int .i64 p1.2.1.2.1.2.2.1, .int .i64 p1.2.1.2.1.2.2.2, .int .i64 p1.2.1.2.2.1, .int .i64 p1.2.1.2.2.2.1, .int .i64 p1.2.1.2.2.2.2.1, .int .i64 p1.2.1.2.2.2.2.2, v2])] [row v6 61 Br x7.2.2, BP (v5.2.2.1) Br x5.2.2, row v1 40 C1 v4] w := W
     refine ls F W Aa (JQ (v := v6) CA Aa Aa Aa Hv F Aa Aa).q fun a w F W => ?_
     obtain ⟨x8, h8, H⟩ := Aq H
     obtain ⟨v7, h9, h10⟩ := CO h1 h8
     have h11 : Cm v7 = [.int .i64 x8.1, .int .i64 x8.2.1.1, .int .i64 x8.2.1.2.1.1, .int .i64 x8.2.1.2.1.2.1, .int .i64 x8.2.1.2.1.2.2.1, .int .i64 x8.2.1.2.1.2.2.2, .int .i64 x8.2.1.2.2.1, .int .i64 x8.2.1.2.2.2.1, .int .i64 x8.2.1.2.2.2.2.1, .int .i64 x8.2.1.2.2.2.2.2, (v7.2.2.1)] := congrArg (fun q : Int × (Int × (Int × Int × Int × Int) × (Int × Int × Int × Int)) × (List (Int × Int × Int)) => ([.int .i64 q.1, .int .i64 q.2.1.1, .int .i64 q.2.1.2.1.1, .int .i64 q.2.1.2.1.2.1, .int .i64 q.2.1.2.1.2.2.1, .int .i64 q.2.1.2.1.2.2.2, .int .i64 q.2.1.2.2.1, .int .i64 q.2.1.2.2.2.1, .int .i64 q.2.1.2.2.2.2.1, .int .i64 q.2.1.2.2.2.2.2, (v7.2.2.1)] : List Value)) h10
     refine ls F W Aa (Bl (r := C1) Fa F Aa Aa (Bc 2 Aa) h9).q fun a w F W => ?_
     refine ls F W Aa (Al CA Aa Aa Aa Hv F Aa (EI v1 + (x3).toNat * 11 + 10) Aa).q fun a w F W => ?_
     have W := W.freeze
     have W := W.frontZ (i := 2) Aa Aa
     have W := W.hideR Bo h1
     refine EY (r := A6) (i := x3) (j := 10) (vs := [v6]) (x' := (x8.1, x8.2.1, x7.2.2)) F W rfl rfl rfl (k := 0) rfl rfl h8 Hv (Fe (W.oneF (k := 1) rfl)) rfl rfl (Am (W.oneF (k := 1) rfl) C9) (fun A cs hA hc => by obtain ⟨z, hz, hc⟩ := Bo.to hc; have e1 := Es hc; have e2 : Cm z = [.int .i64 x8.1, .int .i64 x8.2.1.1, .int .i64 x8.2.1.2.1.1, .int .i64 x8.2.1.2.1.2.1, .int .i64 x8.2.1.2.1.2.2.1, .int .i64 x8.2.1.2.1.2.2.2, .int .i64 x8.2.1.2.2.1, .int .i64 x8.2.1.2.2.2.1, .int .i64 x8.2.1.2.2.2.2.1, .int .i64 x8.2.1.2.2.2.2.2, (z.2.2.1)] := (congrArg (fun q : Int × (Int × (Int × Int × Int × Int) × (Int × Int × Int × Int)) × (List (Int × Int × Int)) => ([.int .i64 q.1, .int .i64 q.2.1.1, .int .i64 q.2.1.2.1.1, .int .i64 q.2.1.2.1.2.1, .int .i64 q.2.1.2.1.2.2.1, .int .i64 q.2.1.2.1.2.2.2, .int .i64 q.2.1.2.2.1, .int .i64 q.2.1.2.2.2.1, .int .i64 q.2.1.2.2.2.2.1, .int .i64 q.2.1.2.2.2.2.2, (z.2.2.1)] : List Value)) hz); rw [e1, e2]; exact ⟨[Value.int .i64 x8.1], [Value.int .i64 x8.2.1.1, Value.int .i64 x8.2.1.2.1.1, Value.int .i64 x8.2.1.2.1.2.1, Value.int .i64 x8.2.1.2.1.2.2.1, Value.int .i64 x8.2.1.2.1.2.2.2, Value.int .i64 x8.2.1.2.2.1, Value.int .i64 x8.2.1.2.2.2.1, Value.int .i64 x8.2.1.2.2.2.2.1, Value.int .i64 x8.2.1.2.2.2.2.2, v6], rfl, rfl, ⟨[Value.int .i64 x8.2.1.1, Value.int .i64 x8.2.1.2.1.1, Value.int .i64 x8.2.1.2.1.2.1, Value.int .i64 x8.2.1.2.1.2.2.1, Value.int .i64 x8.2.1.2.1.2.2.2, Value.int .i64 x8.2.1.2.2.1, Value.int .i64 x8.2.1.2.2.2.1, Value.int .i64 x8.2.1.2.2.2.2.1, Value.int .i64 x8.2.1.2.2.2.2.2], [v6], rfl, ⟨[Value.int .i64 x8.2.1.1], [Value.int .i64 x8.2.1.2.1.1, Value.int .i64 x8.2.1.2.1.2.1, Value.int .i64 x8.2.1.2.1.2.2.1, Value.int .i64 x8.2.1.2.1.2.2.2, Value.int .i64 x8.2.1.2.2.1, Value.int .i64 x8.2.1.2.2.2.1, Value.int .i64 x8.2.1.2.2.2.2.1, Value.int .i64 x8.2.1.2.2.2.2.2], rfl, rfl, ⟨[Value.int .i64 x8.2.1.2.1.1, Value.int .i64 x8.2.1.2.1.2.1, Value.int .i64 x8.2.1.2.1.2.2.1, Value.int .i64 x8.2.1.2.1.2.2.2], [Value.int .i64 x8.2.1.2.2.1, Value.int .i64 x8.2.1.2.2.2.1, Value.int .i64 x8.2.1.2.2.2.2.1, Value.int .i64 x8.2.1.2.2.2.2.2], rfl, ⟨[Value.int .i64 x8.2.1.2.1.1], [Value.int .i64 x8.2.1.2.1.2.1, Value.int .i64 x8.2.1.2.1.2.2.1, Value.int .i64 x8.2.1.2.1.2.2.2], rfl, rfl, ⟨[Value.int .i64 x8.2.1.2.1.2.1], [Value.int .i64 x8.2.1.2.1.2.2.1, Value.int .i64 x8.2.1.2.1.2.2.2], rfl, rfl, ⟨[Value.int .i64 x8.2.1.2.1.2.2.1], [Value.int .i64 x8.2.1.2.1.2.2.2], rfl, rfl, rfl⟩⟩⟩, ⟨[Value.int .i64 x8.2.1.2.2.1], [Value.int .i64 x8.2.1.2.2.2.1, Value.int .i64 x8.2.1.2.2.2.2.1, Value.int .i64 x8.2.1.2.2.2.2.2], rfl, rfl, ⟨[Value.int .i64 x8.2.1.2.2.2.1], [Value.int .i64 x8.2.1.2.2.2.2.1, Value.int .i64 x8.2.1.2.2.2.2.2], rfl, rfl, ⟨[Value.int .i64 x8.2.1.2.2.2.2.1], [Value.int .i64 x8.2.1.2.2.2.2.2], rfl, rfl, rfl⟩⟩⟩⟩⟩, ⟨_, rfl, (Sl.stab (W.item (i := 1) rfl) (fun b hb _ => ⟨hA b hb, rfl⟩))⟩⟩⟩) fun w W => ?_
     refine Ag (A5 (Ad ?_))
     have W := W.frontM (i := 1) Aa Aa
     have W := W.sub (M' := [(b1, [.int .i64 p1.1, .int .i64 p1.2.1.1, .int .i64 p1.2.1.2.1.1, .int .i64 p1.2.1.2.1.2.1, .int .i64 p1.2.1.2.1.2.2.1, .int .i64 p1.2.1.2.1.2.2.2, .int .i64 p1.2.1.2.2.1, .int .i64 p1.2.1.2.2.2.1, .int .i64 p1.2.1.2.2.2.2.1, .int .i64 p1.2.1.2.2.2.2.2, v2])]) (Z' := [row v1 40 A6 (Dk x2 x3 (x8.1, x8.2.1, x7.2.2))]) (List.Sublist.cons_cons _ (List.nil_sublist _)) (List.Sublist.cons_cons _ (List.nil_sublist _))
     exact ⟨_, H, F.re ⟨rfl, Aa, Aa, Aa, Aa, Aa, Aa, trivial⟩, W⟩
    have H := AV (by rw [hb]; decide) H
    rw [hb] at F
    clear hb
    refine Az (A5 (Ad ?_))
    have W := W.frontZ (i := 1) Aa Aa
    have W := W.hideR Bo h1
    have W := W.frontM (i := 1) Aa Aa
    have W := W.sub (M' := [(b1, [.int .i64 p1.1, .int .i64 p1.2.1.1, .int .i64 p1.2.1.2.1.1, .int .i64 p1.2.1.2.1.2.1, .int .i64 p1.2.1.2.1.2.2.1, .int .i64 p1.2.1.2.1.2.2.2, .int .i64 p1.2.1.2.2.1, .int .i64 p1.2.1.2.2.2.1, .int .i64 p1.2.1.2.2.2.2.1, .int .i64 p1.2.1.2.2.2.2.2, v2])]) (Z' := [row v1 40 A6 x2]) (List.Sublist.cons_cons _ (List.nil_sublist _)) (List.Sublist.cons_cons _ (List.nil_sublist _))
    exact ⟨_, H, F.re ⟨rfl, Aa, Aa, Aa, Aa, Aa, Aa, trivial⟩, W⟩
   rintro a w ⟨x4, hj, F, W⟩
   have hj := AZ hj
   subst hj
   have H := K3
   clear G3 K3
   refine Ae ?_
   refine ls F W Aa (Co F Aa Aa Aa).q fun a w F W => ?_
   refine ls F W Aa (Ah F Aa).q fun a w F W => ?_
   refine Ag (Ad ?_)
   exact ⟨_, H, F.re ⟨rfl, Aa, Aa, Aa, Aa, Aa, Aa, trivial⟩, W⟩
  have H := AV (Be hb) H
  rw [hb] at F
  clear hb
  refine BV ?_
  iterate 2 refine Ce ?_
  refine BT (Ad ?_)
  have H := L2 _ H
  exact ⟨_, H, F.re ⟨rfl, Aa, trivial⟩, W⟩
 rintro a w ⟨x1, hj, F, W⟩
 have hj := AZ hj
 subst hj
 have H := K1
 clear G1 K1
 refine Ak (Ae ?_)
 refine ls F W Aa (Ah F Aa).q fun a w F W => ?_
 refine ls F W Aa (Af F Aa).q fun a w F W => ?_
 refine Ag (Ad (Ay ?_))
 have H := AZ H
 subst H
 refine AO (.inl Aa) F W Aa (Au F Aa) ?_
 have W := W.sub (M' := []) (Z' := [row v1 40 A6 x1]) (List.nil_sublist _) (List.Sublist.refl _)
 exact ⟨(v1), Aa, W⟩
noncomputable def AN (p0 : List (Int × (Int × (Int × Int × Int × Int) × (Int × Int × Int × Int)) × (List (Int × Int × Int)))) (p1c0 : Int × (Int × (Int × Int × Int × Int) × (Int × Int × Int × Int)) × (List (Int × Int × Int))) : Int → Option (Int ⊕ (Unit ⊕ Int))
  | x1 => (if x1 < (p0.length : Int) then (ix p0 x1).bind fun x2 => (B3 x2 p1c0).bind fun x3 => (if x3 = true then some (.inr (.inr x1)) else some (.inl (CG (x1 + 1)))) else some (.inr (.inl ())))
noncomputable def AS (p0 : List (Int × (Int × (Int × Int × Int × Int) × (Int × Int × Int × Int)) × (List (Int × Int × Int)))) (p1c0 : Int × (Int × (Int × Int × Int × Int) × (Int × Int × Int × Int)) × (List (Int × Int × Int))) : Option Int := FL (Bh (AN p0 p1c0) 0) fun _ => some (-1)
theorem Di (Y : Nat → Prop) (w0 : World) (v1 : Value) (q_p1c0 : Nat) (v2 : Value) (p0 : List (Int × (Int × (Int × Int × Int × Int) × (Int × Int × Int × Int)) × (List (Int × Int × Int)))) (p1c0 : Int × (Int × (Int × Int × Int × Int) × (Int × Int × Int × Int)) × (List (Int × Int × Int))) (r : Int) (H : AS p0 p1c0 = some r) (h_v1 : Sl w0 (NX []) A6 v1 p0) (h_v2 : Sl w0 (NX []) Br v2 p1c0.2.2) (a_q_p1c0 : At ⟨Y, [], w0⟩ q_p1c0 0 [.int .i64 p1c0.1, .int .i64 p1c0.2.1.1, .int .i64 p1c0.2.1.2.1.1, .int .i64 p1c0.2.1.2.1.2.1, .int .i64 p1c0.2.1.2.1.2.2.1, .int .i64 p1c0.2.1.2.1.2.2.2, .int .i64 p1c0.2.1.2.2.1, .int .i64 p1c0.2.1.2.2.2.1, .int .i64 p1c0.2.1.2.2.2.2.1, .int .i64 p1c0.2.1.2.2.2.2.2, v2]) :
    Calls Try.prog 36 #[v1, .func (.func 64) #[] #[.pointer (some ⟨q_p1c0, 0, none⟩)]] w0 fun e w' => e = .returned (.int .i64 r) ∧ Below w0.heap.size w0 w' := by
 refine enter Try.func36 Aa Try.ntmps36 Aa fun a F => ?_
 have W := Stw.start Y w0
 obtain ⟨v3, h1, h_v1⟩ := h_v1.ex Bo
 unfold AS at H
 refine Ak (Ae ?_)
 refine ls F W Aa (Af F Aa).q fun a w F W => ?_
 refine Ag (Ad ?_)
 obtain ⟨o1, G1, K1, L1⟩ := IA H
 refine AY (fun a w => some (Sum.inl ()) = some o1 ∧ Fr 19 [] [(4, .int .i64 0)] a ∧ Stw ⟨Y, [], w0⟩ [] [] w) ?_ ?_
 ·
  have H := G1
  clear G1 K1
  refine Ak (Ae ?_)
  refine ls F W Aa (Ah F Aa).q fun a w F W => ?_
  refine ls F W Aa (B4 (r := A6) (l := p0) Em Aa F Aa (A7 Bo h1 (Av h_v1))).q fun a w F W => ?_
  refine ls F W Aa (Ah F Aa).q fun a w F W => ?_
  refine Ag (Ad (AB ?_))
  refine BU H (fun s a w => Fr 19 [] [(0, v1), (1, .func (.func 64) #[] #[.pointer (some ⟨q_p1c0, 0, none⟩)]), (4, .int .i64 0), (7, .int .i64 (p0.length : Int)), (8, .int .i64 s)] a ∧ Stw ⟨Y, [], w0⟩ [] [] w) ⟨F.re ⟨rfl, Aa, Aa, Aa, Aa, trivial⟩, W⟩ fun s o a w H L2 hR => ?_
  obtain ⟨x1, rfl⟩ : ∃ x, x = s := ⟨s, rfl⟩
  obtain ⟨F, W⟩ := hR
  have F : Fr 19 [] [(0, v1), (1, .func (.func 64) #[] #[.pointer (some ⟨q_p1c0, 0, none⟩)]), (4, .int .i64 0), (7, .int .i64 (p0.length : Int)), (8, .int .i64 x1)] a := F
  have W : Stw ⟨Y, [], w0⟩ [] [] w := W
  rw [AN] at H
  refine Ak (Ae ?_)
  refine ls F W Aa (BS F Aa Aa).q fun a w F W => ?_
  refine Ag (Ad (Ak ?_))
  refine AA F Aa (fun hb => ?_) fun hb => ?_
  ·
   have H := AU (Bd hb) H
   rw [hb] at F
   clear hb
   refine Az (Ad (Ak (AB (Ak (Ae ?_)))))
   refine ls F W Aa (Ah F Aa).q fun a w F W => ?_
   refine ls F W Aa (Af F Aa).q fun a w F W => ?_
   refine Ag (Ad (Ak (Ae ?_)))
   iterate 3 refine ls F W Aa (Ah F Aa).q fun a w F W => ?_
   obtain ⟨x2, h2, H⟩ := Aq H
   obtain ⟨v4, h3, h4⟩ := CO h1 h2
   have h5 : Cm v4 = [.int .i64 x2.1, .int .i64 x2.2.1.1, .int .i64 x2.2.1.2.1.1, .int .i64 x2.2.1.2.1.2.1, .int .i64 x2.2.1.2.1.2.2.1, .int .i64 x2.2.1.2.1.2.2.2, .int .i64 x2.2.1.2.2.1, .int .i64 x2.2.1.2.2.2.1, .int .i64 x2.2.1.2.2.2.2.1, .int .i64 x2.2.1.2.2.2.2.2, (v4.2.2.1)] := congrArg (fun q : Int × (Int × (Int × Int × Int × Int) × (Int × Int × Int × Int)) × (List (Int × Int × Int)) => ([.int .i64 q.1, .int .i64 q.2.1.1, .int .i64 q.2.1.2.1.1, .int .i64 q.2.1.2.1.2.1, .int .i64 q.2.1.2.1.2.2.1, .int .i64 q.2.1.2.1.2.2.2, .int .i64 q.2.1.2.2.1, .int .i64 q.2.1.2.2.2.1, .int .i64 q.2.1.2.2.2.2.1, .int .i64 q.2.1.2.2.2.2.2, (v4.2.2.1)] : List Value)) h4
   refine ls F W Aa (Bl (r := C1) Fa F Aa Aa (Av h_v1) h3).q fun a w F W => ?_
   refine ls F W Aa (Ba (y := Value.agg #[.int .i64 x2.1, .int .i64 x2.2.1.1, .int .i64 x2.2.1.2.1.1, .int .i64 x2.2.1.2.1.2.1, .int .i64 x2.2.1.2.1.2.2.1, .int .i64 x2.2.1.2.1.2.2.2, .int .i64 x2.2.1.2.2.1, .int .i64 x2.2.1.2.2.2.1, .int .i64 x2.2.1.2.2.2.2.1, .int .i64 x2.2.1.2.2.2.2.2, (v4.2.2.1)]) (j := 0) (i := x1) (enc := Cm) F Aa Aa (Av h_v1) h3 Es Da (by rw [h5]; rfl)).q fun a w F W => ?_
   obtain ⟨x3, h6, H⟩ := Aq H
   refine ls F W Aa (EH (ws := [.agg #[.int .i64 x2.1, .int .i64 x2.2.1.1, .int .i64 x2.2.1.2.1.1, .int .i64 x2.2.1.2.1.2.1, .int .i64 x2.2.1.2.1.2.2.1, .int .i64 x2.2.1.2.1.2.2.2, .int .i64 x2.2.1.2.2.1, .int .i64 x2.2.1.2.2.2.1, .int .i64 x2.2.1.2.2.2.2.1, .int .i64 x2.2.1.2.2.2.2.2, (v4.2.2.1)], .pointer (some ⟨q_p1c0, 0, none⟩)]) (v := Value.bool x3) F Nt Aa (fun w W => D8 any w ((v4.2.2.1)) q_p1c0 (v2) x2 p1c0 _ h6 (((DN (Av h_v1) h3 (Bv.snd (Bv.snd Bv.here)) (congrArg (fun q : Int × (Int × (Int × Int × Int × Int) × (Int × Int × Int × Int)) × (List (Int × Int × Int)) => q.2.2) h4)) : Dc _ _ _ _ _ _) w W).nx (((Av h_v2) : Dc _ _ _ _ _ _) w W).nx (At.re a_q_p1c0 W))) fun a w F W => ?_
   refine Ag (Ad ?_)
   refine AA F Aa (fun hb => ?_) fun hb => ?_
   ·
    have H := AU hb H
    rw [hb] at F
    clear hb
    refine Ak (Ae ?_)
    refine ls F W Aa (Ah F Aa).q fun a w F W => ?_
    refine ls F W Aa (Af F Aa).q fun a w F W => ?_
    refine Ag (Ad (Ay (AW ?_)))
    iterate 2 refine AC ?_
    refine AW (AC ?_)
    have H := L2 _ H
    have H := L1 _ H
    have H := AZ H
    subst H
    refine AO (.inl Aa) F W Aa (Au F Aa) ?_
    exact ⟨rfl, W.done⟩
   have H := AV (by rw [hb]; decide) H
   rw [hb] at F
   clear hb
   refine Az (A5 (Ad (Ae ?_)))
   refine ls F W Aa (Co F Aa Aa Aa).q fun a w F W => ?_
   refine ls F W Aa (Ah F Aa).q fun a w F W => ?_
   refine Ag (Ad ?_)
   exact ⟨_, H, F.re ⟨rfl, Aa, Aa, Aa, Aa, trivial⟩, W⟩
  have H := AV (Be hb) H
  rw [hb] at F
  clear hb
  refine BV ?_
  iterate 2 refine Ce ?_
  refine BT (Ad ?_)
  have H := L2 _ H
  exact ⟨H, F.re ⟨rfl, trivial⟩, W⟩
 rintro a w ⟨hj, F, W⟩
 have H := K1 _ hj
 clear hj G1 K1 L1
 refine Ak (Ae ?_)
 refine ls F W Aa (Af F Aa).q fun a w F W => ?_
 refine Ag (Ad (Ay ?_))
 have H := AZ H
 subst H
 refine AO (.inl Aa) F W Aa (Au F Aa) ?_
 exact ⟨rfl, W.done⟩
noncomputable def AP (p1c0 : Int × (Int × (Int × Int × Int × Int) × (Int × Int × Int × Int)) × (List (Int × Int × Int))) : ((List (Int × (Int × (Int × Int × Int × Int) × (Int × Int × Int × Int)) × (List (Int × Int × Int)))) × Int × Int) → Option (((List (Int × (Int × (Int × Int × Int × Int) × (Int × Int × Int × Int)) × (List (Int × Int × Int)))) × Int × Int) ⊕ ((List (Int × (Int × (Int × Int × Int × Int) × (Int × Int × Int × Int)) × (List (Int × Int × Int)))) × Int))
  | (x4, x5, x6) => (if x6 < (x4.length : Int) then ((ix x4 x6).bind fun x9 => (B3 x9 p1c0).bind fun x10 => (if (!x10) = true then (ix x4 x5).bind fun x11 => some ((Dk x4 x5 x9), CG (x5 + 1)) else some (x4, x5))).bind fun (x7, x8) => some (.inl (x7, x8, CG (x6 + 1))) else some (.inr (x4, x5)))
noncomputable def AK (p0 : List (Int × (Int × (Int × Int × Int × Int) × (Int × Int × Int × Int)) × (List (Int × Int × Int)))) (p1c0 : Int × (Int × (Int × Int × Int × Int) × (Int × Int × Int × Int)) × (List (Int × Int × Int))) : Option (List (Int × (Int × (Int × Int × Int × Int) × (Int × Int × Int × Int)) × (List (Int × Int × Int)))) := (AS p0 p1c0).bind fun x1 => (if x1 = (-1) then some p0 else (Bh (AP p1c0) (p0, x1, CG (x1 + 1))).bind fun (x2, x3) => (Dd x2 x3 (x2.length : Int)).bind fun x12 => (Lj x2 x3 (List.replicate (x12.length) ((0, (0, (0, 0, 0, 0), (0, 0, 0, 0)), []) : Int × (Int × (Int × Int × Int × Int) × (Int × Int × Int × Int)) × (List (Int × Int × Int))))).bind fun x13 => (Dd x13 0 x3).bind fun x14 => some x14)
theorem Dw (Y : Nat → Prop) (X : List Nat) (w0 : World) (v1 : Value) (q_p1c0 : Nat) (v2 : Value) (p0 : List (Int × (Int × (Int × Int × Int × Int) × (Int × Int × Int × Int)) × (List (Int × Int × Int)))) (p1c0 : Int × (Int × (Int × Int × Int × Int) × (Int × Int × Int × Int)) × (List (Int × Int × Int))) (r : (List (Int × (Int × (Int × Int × Int × Int) × (Int × Int × Int × Int)) × (List (Int × Int × Int))))) (H : AK p0 p1c0 = some r) (h_v2 : Sl w0 (NX X) Br v2 p1c0.2.2) (a_q_p1c0 : At ⟨Y, X, w0⟩ q_p1c0 0 [.int .i64 p1c0.1, .int .i64 p1c0.2.1.1, .int .i64 p1c0.2.1.2.1.1, .int .i64 p1c0.2.1.2.1.2.1, .int .i64 p1c0.2.1.2.1.2.2.1, .int .i64 p1c0.2.1.2.1.2.2.2, .int .i64 p1c0.2.1.2.2.1, .int .i64 p1c0.2.1.2.2.2.1, .int .i64 p1c0.2.1.2.2.2.2.1, .int .i64 p1c0.2.1.2.2.2.2.2, v2]) (hL : Stw ⟨Y, X, w0⟩ [] [row v1 40 A6 p0] w0) :
    Calls Try.prog 46 #[v1, .func (.func 64) #[] #[.pointer (some ⟨q_p1c0, 0, none⟩)]] w0 fun e w' => ∃ x : Value, e = .returned (x) ∧ Stw ⟨Y, X, w0⟩ [] [row (x) 40 A6 r] w' := by
 refine enter Try.func46 Aa Try.ntmps46 Aa fun a F => ?_
 have W := hL
 unfold AK at H
 refine Ak (Ae ?_)
 refine ls F W Aa (Af F Aa).q fun a w F W => ?_
 refine Ag (Ad (Ak (Ae ?_)))
 iterate 2 refine ls F W Aa (Ah F Aa).q fun a w F W => ?_
 obtain ⟨x1, h1, H⟩ := Aq H
 refine ls F W Aa (A4 (v := Value.int .i64 x1) F Mw Aa (fun w W => Di any w (v1) q_p1c0 (v2) p0 p1c0 _ h1 (((Bc 0 Aa) : Dc _ _ _ _ _ _) w W).nx (((Av h_v2) : Dc _ _ _ _ _ _) w W).nx (At.re a_q_p1c0 W))) fun a w F W => ?_
 refine ls F W Aa (Af F Aa).q fun a w F W => ?_
 refine Ag (Ad (Ak (Ak (Ae ?_))))
 refine ls F W Aa (Ah F Aa).q fun a w F W => ?_
 refine ls F W Aa (BJ F Aa Aa).q fun a w F W => ?_
 refine Ag (Ad ?_)
 refine AA F Aa (fun hb => ?_) fun hb => ?_
 ·
  have H := AU (Bd hb) H
  rw [hb] at F
  clear hb
  refine Ak (Ae ?_)
  refine ls F W Aa (Ah F Aa).q fun a w F W => ?_
  refine ls F W Aa (Af F Aa).q fun a w F W => ?_
  refine Ag (Ad (Ay (AC ?_)))
  have H := AZ H
  subst H
  refine AO (.inl Aa) F W Aa (Au F Aa) ?_
  exact ⟨(v1), Aa, W⟩
 have H := AV (Be hb) H
 rw [hb] at F
 clear hb
 refine Az (Ad ?_)
 obtain ⟨o1, G1, K1⟩ := Aq H
 refine AY (fun a w => ∃ x2 : List (Int × (Int × (Int × Int × Int × Int) × (Int × Int × Int × Int)) × (List (Int × Int × Int))), ∃ x3 : Int, some ((x2, x3)) = some o1 ∧ Fr 42 [] [(0, v1), (4, .slice none 0 0), (5, .int .i64 x3)] a ∧ Stw ⟨Y, X, w0⟩ [] [row v1 40 A6 x2] w) ?_ ?_
 ·
  have H := G1
  clear G1 K1
  refine Ak (Ae ?_)
  refine ls F W Aa (Ah F Aa).q fun a w F W => ?_
  refine ls F W Aa (Co F Aa Aa Aa).q fun a w F W => ?_
  refine ls F W Aa (Af F Aa).q fun a w F W => ?_
  refine Ag (Ad (AB ?_))
  refine BU H (fun s a w => Fr 42 [] [(0, v1), (1, .func (.func 64) #[] #[.pointer (some ⟨q_p1c0, 0, none⟩)]), (4, .slice none 0 0), (5, .int .i64 s.2.1), (6, .int .i64 s.2.2)] a ∧ Stw ⟨Y, X, w0⟩ [] [row v1 40 A6 s.1] w) ⟨F.re ⟨rfl, Aa, Aa, Aa, Aa, trivial⟩, W⟩ fun s o a w H L2 hR => ?_
  obtain ⟨x4, x5, x6⟩ := s
  obtain ⟨F, W⟩ := hR
  have F : Fr 42 [] [(0, v1), (1, .func (.func 64) #[] #[.pointer (some ⟨q_p1c0, 0, none⟩)]), (4, .slice none 0 0), (5, .int .i64 x5), (6, .int .i64 x6)] a := F
  have W : Stw ⟨Y, X, w0⟩ [] [row v1 40 A6 x4] w := W
  rw [AP] at H
  refine Ak (Ak (Ae ?_))
  iterate 2 refine ls F W Aa (Ah F Aa).q fun a w F W => ?_
  refine ls F W Aa (B4 (r := A6) (l := x4) Em Aa F Aa (Bc 0 Aa)).q fun a w F W => ?_
  refine ls F W Aa (BS F Aa Aa).q fun a w F W => ?_
  refine Ag (Ad ?_)
  refine AA F Aa (fun hb => ?_) fun hb => ?_
  ·
   have H := AU (Bd hb) H
   rw [hb] at F
   clear hb
   refine Az (Ad ?_)
   obtain ⟨o3, G3, K3⟩ := Aq H
   refine AY (fun a w => ∃ x7 : List (Int × (Int × (Int × Int × Int × Int) × (Int × Int × Int × Int)) × (List (Int × Int × Int))), ∃ x8 : Int, some ((x7, x8)) = some o3 ∧ Fr 42 [] [(0, v1), (1, .func (.func 64) #[] #[.pointer (some ⟨q_p1c0, 0, none⟩)]), (4, .slice none 0 0), (5, .int .i64 x8), (6, .int .i64 x6)] a ∧ Stw ⟨Y, X, w0⟩ [] [row v1 40 A6 x7] w) ?_ ?_
   ·
    have H := G3
    clear G3 K3
    refine AB (Ak ?_)
    obtain ⟨v3, h2, W⟩ := W.exR Bo
    refine Ae ?_
    iterate 2 refine ls F W Aa (Ah F Aa).q fun a w F W => ?_
    obtain ⟨x9, h3, H⟩ := Aq H
    obtain ⟨v4, h4, h5⟩ := CO h2 h3
    have h6 : Cm v4 = [.int .i64 x9.1, .int .i64 x9.2.1.1, .int .i64 x9.2.1.2.1.1, .int .i64 x9.2.1.2.1.2.1, .int .i64 x9.2.1.2.1.2.2.1, .int .i64 x9.2.1.2.1.2.2.2, .int .i64 x9.2.1.2.2.1, .int .i64 x9.2.1.2.2.2.1, .int .i64 x9.2.1.2.2.2.2.1, .int .i64 x9.2.1.2.2.2.2.2, (v4.2.2.1)] := congrArg (fun q : Int × (Int × (Int × Int × Int × Int) × (Int × Int × Int × Int)) × (List (Int × Int × Int)) => ([.int .i64 q.1, .int .i64 q.2.1.1, .int .i64 q.2.1.2.1.1, .int .i64 q.2.1.2.1.2.1, .int .i64 q.2.1.2.1.2.2.1, .int .i64 q.2.1.2.1.2.2.2, .int .i64 q.2.1.2.2.1, .int .i64 q.2.1.2.2.2.1, .int .i64 q.2.1.2.2.2.2.1, .int .i64 q.2.1.2.2.2.2.2, (v4.2.2.1)] : List Value)) h5
    refine ls F W Aa (Bl (r := C1) Fa F Aa Aa (Bc 0 Aa) h4).q fun a w F W => ?_
    refine ls F W Aa (Ba (y := Value.agg #[.int .i64 x9.1, .int .i64 x9.2.1.1, .int .i64 x9.2.1.2.1.1, .int .i64 x9.2.1.2.1.2.1, .int .i64 x9.2.1.2.1.2.2.1, .int .i64 x9.2.1.2.1.2.2.2, .int .i64 x9.2.1.2.2.1, .int .i64 x9.2.1.2.2.2.1, .int .i64 x9.2.1.2.2.2.2.1, .int .i64 x9.2.1.2.2.2.2.2, (v4.2.2.1)]) (j := 0) (i := x6) (enc := Cm) F Aa Aa (Bc 0 Aa) h4 Es Da (by rw [h6]; rfl)).q fun a w F W => ?_
    have W := W.note (W.rowAt (k := 0) Aa h4 (Bv.snd (Bv.snd Bv.here)) (congrArg (fun q : Int × (Int × (Int × Int × Int × Int) × (Int × Int × Int × Int)) × (List (Int × Int × Int)) => q.2.2) h5))
    refine Cp (cs := [.int .i64 0, .int .i64 0, .int .i64 0, .int .i64 0, .int .i64 0, .int .i64 0, .int .i64 0, .int .i64 0, .int .i64 0, .int .i64 0, .slice none 0 0]) F W Aa Kn Aa fun b1 a w F W => ?_
    refine BN (vs := [.int .i64 x9.1, .int .i64 x9.2.1.1, .int .i64 x9.2.1.2.1.1, .int .i64 x9.2.1.2.1.2.1, .int .i64 x9.2.1.2.1.2.2.1, .int .i64 x9.2.1.2.1.2.2.2, .int .i64 x9.2.1.2.2.1, .int .i64 x9.2.1.2.2.2.1, .int .i64 x9.2.1.2.2.2.2.1, .int .i64 x9.2.1.2.2.2.2.2, (v4.2.2.1)]) (M' := [(b1, [.int .i64 x9.1, .int .i64 x9.2.1.1, .int .i64 x9.2.1.2.1.1, .int .i64 x9.2.1.2.1.2.1, .int .i64 x9.2.1.2.1.2.2.1, .int .i64 x9.2.1.2.1.2.2.2, .int .i64 x9.2.1.2.2.1, .int .i64 x9.2.1.2.2.2.1, .int .i64 x9.2.1.2.2.2.2.1, .int .i64 x9.2.1.2.2.2.2.2, (v4.2.2.1)])]) 0 F W Aa Aa Aa Da Aa Aa Aa (Am Aa (Am Aa (Am Aa (Am Aa (Am Aa (Am Aa (Am Aa (Am Aa (Am Aa (Am Aa (Am (W.oneF (k := 0) Aa) C9))))))))))) Aa fun w W => ?_
    refine Ag (Ad (Ak (Ae ?_)))
    refine ls F W Aa (Ah F Aa).q fun a w F W => ?_
    refine ls F W Aa (As (v := Value.agg #[.int .i64 x9.1, .int .i64 x9.2.1.1, .int .i64 x9.2.1.2.1.1, .int .i64 x9.2.1.2.1.2.1, .int .i64 x9.2.1.2.1.2.2.1, .int .i64 x9.2.1.2.1.2.2.2, .int .i64 x9.2.1.2.2.1, .int .i64 x9.2.1.2.2.2.1, .int .i64 x9.2.1.2.2.2.2.1, .int .i64 x9.2.1.2.2.2.2.2, (v4.2.2.1)]) 0 F Aa Aa Da Aa).q fun a w F W => ?_
    obtain ⟨x10, h7, H⟩ := Aq H
    refine ls F W Aa (EH (ws := [.agg #[.int .i64 x9.1, .int .i64 x9.2.1.1, .int .i64 x9.2.1.2.1.1, .int .i64 x9.2.1.2.1.2.1, .int .i64 x9.2.1.2.1.2.2.1, .int .i64 x9.2.1.2.1.2.2.2, .int .i64 x9.2.1.2.2.1, .int .i64 x9.2.1.2.2.2.1, .int .i64 x9.2.1.2.2.2.2.1, .int .i64 x9.2.1.2.2.2.2.2, (v4.2.2.1)], .pointer (some ⟨q_p1c0, 0, none⟩)]) (v := Value.bool x10) F Nt Aa (fun w W => D8 any w ((v4.2.2.1)) q_p1c0 (v2) x9 p1c0 _ h7 (((CT 0 Aa) : Dc _ _ _ _ _ _) w W).nx (((Av h_v2) : Dc _ _ _ _ _ _) w W).nx (At.re a_q_p1c0 W))) fun a w F W => ?_
    refine ls F W Aa (F3 F Aa).q fun a w F W => ?_
    refine Ag (Ad ?_)
    refine AA F Aa (fun hb => ?_) fun hb => ?_
    ·
     have H := AU hb H
     rw [hb] at F
     clear hb
     refine Ak (Ae ?_)
     iterate 2 refine ls F W Aa (Ah F Aa).q fun a w F W => ?_
     refine ls F W Aa (As (v := Value.agg #[.int .i64 x9.1, .int .i64 x9.2.1.1, .int .i64 x9.2.1.2.1.1, .int .i64 x9.2.1.2.1.2.1, .int .i64 x9.2.1.2.1.2.2.1, .int .i64 x9.2.1.2.1.2.2.2, .int .i64 x9.2.1.2.2.1, .int .i64 x9.2.1.2.2.2.1, .int .i64 x9.2.1.2.2.2.2.1, .int .i64 x9.2.1.2.2.2.2.2, (v4.2.2.1)]) 0 F Aa Aa Da Aa).q fun a w F W => ?_
     obtain ⟨x11, h8, H⟩ := Aq H
     obtain ⟨v5, h9, h10⟩ := CO h2 h8
     have h11 : Cm v5 = [.int .i64 x11.1, .int .i64 x11.2.1.1, .int .i64 x11.2.1.2.1.1, .int .i64 x11.2.1.2.1.2.1, .int .i64 x11.2.1.2.1.2.2.1, .int .i64 x11.2.1.2.1.2.2.2, .int .i64 x11.2.1.2.2.1, .int .i64 x11.2.1.2.2.2.1, .int .i64 x11.2.1.2.2.2.2.1, .int .i64 x11.2.1.2.2.2.2.2, (v5.2.2.1)] := congrArg (fun q : Int × (Int × (Int × Int × Int × Int) × (Int × Int × Int × Int)) × (List (Int × Int × Int)) => ([.int .i64 q.1, .int .i64 q.2.1.1, .int .i64 q.2.1.2.1.1, .int .i64 q.2.1.2.1.2.1, .int .i64 q.2.1.2.1.2.2.1, .int .i64 q.2.1.2.1.2.2.2, .int .i64 q.2.1.2.2.1, .int .i64 q.2.1.2.2.2.1, .int .i64 q.2.1.2.2.2.2.1, .int .i64 q.2.1.2.2.2.2.2, (v5.2.2.1)] : List Value)) h10
     refine ls F W Aa (Bl (r := C1) Fa F Aa Aa (Bc 1 Aa) h9).q fun a w F W => ?_
     have W := W.frontZ (i := 1) Aa Aa
     have W := W.hideR Bo h2
     refine EY (r := A6) (i := x5) (j := 0) (vs := [.int .i64 x9.1, .int .i64 x9.2.1.1, .int .i64 x9.2.1.2.1.1, .int .i64 x9.2.1.2.1.2.1, .int .i64 x9.2.1.2.1.2.2.1, .int .i64 x9.2.1.2.1.2.2.2, .int .i64 x9.2.1.2.2.1, .int .i64 x9.2.1.2.2.2.1, .int .i64 x9.2.1.2.2.2.2.1, .int .i64 x9.2.1.2.2.2.2.2, (v4.2.2.1)]) (x' := x9) F W rfl rfl rfl (k := 0) rfl rfl h8 Da rfl rfl rfl (Am rfl (Am rfl (Am rfl (Am rfl (Am rfl (Am rfl (Am rfl (Am rfl (Am rfl (Am rfl (Am (W.oneF (k := 1) rfl) C9))))))))))) (fun A cs hA hc => by obtain ⟨z, hz, hc⟩ := Bo.to hc; have e1 := Es hc; have e2 : Cm z = [.int .i64 x11.1, .int .i64 x11.2.1.1, .int .i64 x11.2.1.2.1.1, .int .i64 x11.2.1.2.1.2.1, .int .i64 x11.2.1.2.1.2.2.1, .int .i64 x11.2.1.2.1.2.2.2, .int .i64 x11.2.1.2.2.1, .int .i64 x11.2.1.2.2.2.1, .int .i64 x11.2.1.2.2.2.2.1, .int .i64 x11.2.1.2.2.2.2.2, (z.2.2.1)] := (congrArg (fun q : Int × (Int × (Int × Int × Int × Int) × (Int × Int × Int × Int)) × (List (Int × Int × Int)) => ([.int .i64 q.1, .int .i64 q.2.1.1, .int .i64 q.2.1.2.1.1, .int .i64 q.2.1.2.1.2.1, .int .i64 q.2.1.2.1.2.2.1, .int .i64 q.2.1.2.1.2.2.2, .int .i64 q.2.1.2.2.1, .int .i64 q.2.1.2.2.2.1, .int .i64 q.2.1.2.2.2.2.1, .int .i64 q.2.1.2.2.2.2.2, (z.2.2.1)] : List Value)) hz); rw [e1, e2]; exact ⟨[Value.int .i64 x9.1], [Value.int .i64 x9.2.1.1, Value.int .i64 x9.2.1.2.1.1, Value.int .i64 x9.2.1.2.1.2.1, Value.int .i64 x9.2.1.2.1.2.2.1, Value.int .i64 x9.2.1.2.1.2.2.2, Value.int .i64 x9.2.1.2.2.1, Value.int .i64 x9.2.1.2.2.2.1, Value.int .i64 x9.2.1.2.2.2.2.1, Value.int .i64 x9.2.1.2.2.2.2.2, (v4.2.2.1)], rfl, rfl, ⟨[Value.int .i64 x9.2.1.1, Value.int .i64 x9.2.1.2.1.1, Value.int .i64 x9.2.1.2.1.2.1, Value.int .i64 x9.2.1.2.1.2.2.1, Value.int .i64 x9.2.1.2.1.2.2.2, Value.int .i64 x9.2.1.2.2.1, Value.int .i64 x9.2.1.2.2.2.1, Value.int .i64 x9.2.1.2.2.2.2.1, Value.int .i64 x9.2.1.2.2.2.2.2], [(v4.2.2.1)], rfl, ⟨[Value.int .i64 x9.2.1.1], [Value.int .i64 x9.2.1.2.1.1, Value.int .i64 x9.2.1.2.1.2.1, Value.int .i64 x9.2.1.2.1.2.2.1, Value.int .i64 x9.2.1.2.1.2.2.2, Value.int .i64 x9.2.1.2.2.1, Value.int .i64 x9.2.1.2.2.2.1, Value.int .i64 x9.2.1.2.2.2.2.1, Value.int .i64 x9.2.1.2.2.2.2.2], rfl, rfl, ⟨[Value.int .i64 x9.2.1.2.1.1, Value.int .i64 x9.2.1.2.1.2.1, Value.int .i64 x9.2.1.2.1.2.2.1, Value.int .i64 x9.2.1.2.1.2.2.2], [Value.int .i64 x9.2.1.2.2.1, Value.int .i64 x9.2.1.2.2.2.1, Value.int .i64 x9.2.1.2.2.2.2.1, Value.int .i64 x9.2.1.2.2.2.2.2], rfl, ⟨[Value.int .i64 x9.2.1.2.1.1], [Value.int .i64 x9.2.1.2.1.2.1, Value.int .i64 x9.2.1.2.1.2.2.1, Value.int .i64 x9.2.1.2.1.2.2.2], rfl, rfl, ⟨[Value.int .i64 x9.2.1.2.1.2.1], [Value.int .i64 x9.2.1.2.1.2.2.1, Value.int .i64 x9.2.1.2.1.2.2.2], rfl, rfl, ⟨[Value.int .i64 x9.2.1.2.1.2.2.1], [Value.int .i64 x9.2.1.2.1.2.2.2], rfl, rfl, rfl⟩⟩⟩, ⟨[Value.int .i64 x9.2.1.2.2.1], [Value.int .i64 x9.2.1.2.2.2.1, Value.int .i64 x9.2.1.2.2.2.2.1, Value.int .i64 x9.2.1.2.2.2.2.2], rfl, rfl, ⟨[Value.int .i64 x9.2.1.2.2.2.1], [Value.int .i64 x9.2.1.2.2.2.2.1, Value.int .i64 x9.2.1.2.2.2.2.2], rfl, rfl, ⟨[Value.int .i64 x9.2.1.2.2.2.2.1], [Value.int .i64 x9.2.1.2.2.2.2.2], rfl, rfl, rfl⟩⟩⟩⟩⟩, ⟨_, rfl, (Sl.stab (W.item (i := 1) rfl) (fun b hb _ => ⟨hA b hb, rfl⟩))⟩⟩⟩) fun w W => ?_
     refine Ag (Ad (Ae ?_))
     refine ls F W Aa (Ah F Aa).q fun a w F W => ?_
     refine ls F W Aa (Co F Aa Aa Aa).q fun a w F W => ?_
     refine ls F W Aa (Af F Aa).q fun a w F W => ?_
     refine Ag (A5 (Ad ?_))
     have W := W.sub (M' := []) (Z' := [row v1 40 A6 (Dk x4 x5 x9)]) (List.nil_sublist _) (List.Sublist.cons_cons _ (List.nil_sublist _))
     exact ⟨_, _, H, F.re ⟨rfl, Aa, Aa, Aa, Aa, trivial⟩, W⟩
    have H := AV (by rw [hb]; decide) H
    rw [hb] at F
    clear hb
    refine Az (A5 (Ad ?_))
    have W := W.frontZ (i := 1) Aa Aa
    have W := W.hideR Bo h2
    have W := W.sub (M' := []) (Z' := [row v1 40 A6 x4]) (List.nil_sublist _) (List.Sublist.cons_cons _ (List.nil_sublist _))
    exact ⟨_, _, H, F.re ⟨rfl, Aa, Aa, Aa, Aa, trivial⟩, W⟩
   rintro a w ⟨x7, x8, hj, F, W⟩
   have hj := AZ hj
   subst hj
   have H := K3
   clear G3 K3
   refine Ae ?_
   refine ls F W Aa (Ah F Aa).q fun a w F W => ?_
   refine ls F W Aa (Co F Aa Aa Aa).q fun a w F W => ?_
   refine ls F W Aa (Af F Aa).q fun a w F W => ?_
   refine Ag (Ad ?_)
   exact ⟨_, H, F.re ⟨rfl, Aa, Aa, Aa, Aa, trivial⟩, W⟩
  have H := AV (Be hb) H
  rw [hb] at F
  clear hb
  refine BV ?_
  iterate 2 refine Ce ?_
  refine BT (Ad ?_)
  have H := L2 _ H
  exact ⟨_, _, H, F.re ⟨rfl, Aa, Aa, trivial⟩, W⟩
 rintro a w ⟨x2, x3, hj, F, W⟩
 have hj := AZ hj
 subst hj
 have H := K1
 clear G1 K1
 refine Ak (Ae ?_)
 iterate 2 refine ls F W Aa (Ah F Aa).q fun a w F W => ?_
 obtain ⟨x12, h12, H⟩ := Aq H
 refine ls F W Aa (DL (r := A6) Fa F Aa Aa Aa (Bc 0 Aa) h12).q fun a w F W => ?_
 obtain ⟨x13, h13, H⟩ := Aq H
 refine J4 (r := A6) (v := v1) (k := 0) ((0, (0, (0, 0, 0, 0), (0, 0, 0, 0)), []) : Int × (Int × (Int × Int × Int × Int) × (Int × Int × Int × Int)) × (List (Int × Int × Int))) F W Fa Kn Aa Aa Aa h12 (fun w A => ⟨[Value.int .i64 0], [Value.int .i64 0, Value.int .i64 0, Value.int .i64 0, Value.int .i64 0, Value.int .i64 0, Value.int .i64 0, Value.int .i64 0, Value.int .i64 0, Value.int .i64 0, Value.slice none 0 0], Aa, Aa, ⟨[Value.int .i64 0, Value.int .i64 0, Value.int .i64 0, Value.int .i64 0, Value.int .i64 0, Value.int .i64 0, Value.int .i64 0, Value.int .i64 0, Value.int .i64 0], [Value.slice none 0 0], Aa, ⟨[Value.int .i64 0], [Value.int .i64 0, Value.int .i64 0, Value.int .i64 0, Value.int .i64 0, Value.int .i64 0, Value.int .i64 0, Value.int .i64 0, Value.int .i64 0], Aa, Aa, ⟨[Value.int .i64 0, Value.int .i64 0, Value.int .i64 0, Value.int .i64 0], [Value.int .i64 0, Value.int .i64 0, Value.int .i64 0, Value.int .i64 0], Aa, ⟨[Value.int .i64 0], [Value.int .i64 0, Value.int .i64 0, Value.int .i64 0], Aa, Aa, ⟨[Value.int .i64 0], [Value.int .i64 0, Value.int .i64 0], Aa, Aa, ⟨[Value.int .i64 0], [Value.int .i64 0], Aa, Aa, Aa⟩⟩⟩, ⟨[Value.int .i64 0], [Value.int .i64 0, Value.int .i64 0, Value.int .i64 0], Aa, Aa, ⟨[Value.int .i64 0], [Value.int .i64 0, Value.int .i64 0], Aa, Aa, ⟨[Value.int .i64 0], [Value.int .i64 0], Aa, Aa, Aa⟩⟩⟩⟩⟩, ⟨_, Aa, Sl.nil⟩⟩⟩) h13 fun w W => ?_
 have W : Stw ⟨Y, X, w0⟩ [] [row v1 40 A6 x13] w := W
 refine Ag (Ad (Ak (Ae ?_)))
 iterate 2 refine ls F W Aa (Ah F Aa).q fun a w F W => ?_
 obtain ⟨x14, h14, H⟩ := Aq H
 refine ls F W Aa (DL (r := A6) Fa F Aa Aa Aa (Bc 0 Aa) h14).q fun a w F W => ?_
 refine ls F W Aa (Af F Aa).q fun a w F W => ?_
 refine Ag (Ad (Ay ?_))
 have H := AZ H
 subst H
 refine AO (.inl Aa) F W Aa (Au F Aa) ?_
 have W := W.subRow (k := 0) Aa Aa h14
 exact ⟨((Cn v1 (0 : Int) x3 11)), Aa, W⟩
end Go.Proofs.Ytkjjioigbpkifaa
