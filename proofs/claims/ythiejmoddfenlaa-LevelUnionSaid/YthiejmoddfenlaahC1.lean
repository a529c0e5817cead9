/- The functions of layer 23, HZ. Conditions: none. -/
import Derived.Test.YthiejmoddfenlaahC0
namespace Go.Proofs.Ythiejmoddfenlaa
open Go Go.RowKit
set_option linter.unusedVariables false
set_option linter.unusedSimpArgs false
set_option maxRecDepth 20000
theorem TW : Has Try.prog 58 := ⟨fun args w => Al Try.func58 rfl (by decide) args w⟩
noncomputable def Fd (p0 : Int × (List (Int × Int × Int × Int × Int × Int)) × (List (Int × Int))) (p1 : List (List Int)) (p3 : Int) (p4 : Int) : (Int × Int) → Option ((Int × Int) ⊕ (Int ⊕ (Int × Bool)))
  | (x2, x3) => (if x3 ≤ p4 then ((ix p0.2.2 p3).bind fun x5 => (if x5.1 = x2 then (ix p0.2.2 p3).bind fun x6 => (ix p1 x2).bind fun x7 => (ix x7 p3).bind fun x8 => some (decide (x6.2 = x8)) else some false)).bind fun x4 => (if x4 = true then some (.inr (.inr (x2, decide (x3 = p4)))) else (if x3 = p4 then some (.inr (.inr (x2, false))) else (Jq p0 p1 x2 p3).bind fun x9 => (if (!x9.2) = true then some (.inr (.inr ((-1), false))) else some (.inl (x9.1, AB (x3 + 1)))))) else some (.inr (.inl x2)))
noncomputable def FY (p0 : Int × (List (Int × Int × Int × Int × Int × Int)) × (List (Int × Int))) (p1 : List (List Int)) (p2 : Int) (p3 : Int) (p4 : Int) : Option (Int × Bool) := FB (AG (Fd p0 p1 p3 p4) (p2, 0)) fun x1 => some (x1, false)
theorem KF (Y : Nat → Prop) (w0 : World) (v1 : Value) (v2 : Value) (v3 : Value) (p0 : Int × (List (Int × Int × Int × Int × Int × Int)) × (List (Int × Int))) (p1 : List (List Int)) (p2 : Int) (p3 : Int) (p4 : Int) (r : Int × Bool) (H : FY p0 p1 p2 p3 p4 = some r) (h_v1 : Sl w0 (NX []) Hu v1 p0.2.1) (h_v2 : Sl w0 (NX []) Gz v2 p0.2.2) (h_v3 : Sl w0 (NX []) (Rp.slice (Rp.int .i64)) v3 p1) :
    Calls Try.prog 41 #[.agg #[.int .i64 p0.1, v1, v2], v3, .int .i64 p2, .int .i64 p3, .int .i64 p4] w0 fun e w' => e = .returned (.tuple #[.int .i64 r.1, .bool r.2]) ∧ Below w0.heap.size w0 w' := by
 refine enter Try.func41 Aa Try.ntmps41 Aa fun a F => ?_
 have W := Stw.start Y w0
 obtain ⟨v4, h1, h_v3⟩ := h_v3.ex Do
 unfold FY at H
 refine Ah (Ac ?_)
 refine E5 (cs := [.int .i64 p0.1, v1, v2]) F W Aa Aa Aa fun b1 a w F W => ?_
 iterate 2 refine ls F W Aa (Ag F Aa).q fun a w F W => ?_
 refine Ae (Ab (Ah (Ac ?_)))
 refine ls F W Aa (Ad F Aa).q fun a w F W => ?_
 refine ls F W Aa (Ag F Aa).q fun a w F W => ?_
 refine Ae (Ab ?_)
 obtain ⟨o1, G1, K1, L1⟩ := Jx H
 refine AM (fun a w => ∃ x1 : Int, some (Sum.inl x1) = some o1 ∧ Fr 66 [] [(10, .int .i64 0), (11, .bool false), (12, .int .i64 x1)] a ∧ Stw ⟨Y, [], w0⟩ [(b1, [.int .i64 p0.1, v1, v2])] [] w) ?_ ?_
 ·
  have H := G1
  clear G1 K1
  refine Ah (Ac ?_)
  refine ls F W Aa (Ag F Aa).q fun a w F W => ?_
  refine Ae (Ab (As ?_))
  refine Bb H (fun s a w => Fr 66 [] [(1, v3), (3, .int .i64 p3), (4, .int .i64 p4), (5, .pointer (some ⟨b1, 0, none⟩)), (10, .int .i64 0), (11, .bool false), (12, .int .i64 s.1), (13, .int .i64 s.2)] a ∧ Stw ⟨Y, [], w0⟩ [(b1, [.int .i64 p0.1, v1, v2])] [] w) ⟨F.re ⟨rfl, Aa, Aa, Aa, Aa, Aa, Aa, Aa, trivial⟩, W⟩ fun s o a w H L2 hR => ?_
  obtain ⟨x2, x3⟩ := s
  obtain ⟨F, W⟩ := hR
  have F : Fr 66 [] [(1, v3), (3, .int .i64 p3), (4, .int .i64 p4), (5, .pointer (some ⟨b1, 0, none⟩)), (10, .int .i64 0), (11, .bool false), (12, .int .i64 x2), (13, .int .i64 x3)] a := F
  have W : Stw ⟨Y, [], w0⟩ [(b1, [.int .i64 p0.1, v1, v2])] [] w := W
  rw [Fd] at H
  refine Ah (Ah (Ac ?_))
  iterate 2 refine ls F W Aa (Ad F Aa).q fun a w F W => ?_
  refine ls F W Aa (Ie F Aa Aa).q fun a w F W => ?_
  refine Ae (Ab ?_)
  refine AA F Aa (fun hb => ?_) fun hb => ?_
  ·
   have H := AS (BD hb) H
   rw [hb] at F
   clear hb
   refine Av (Ab (Ah (As (Ah ?_))))
   obtain ⟨o3, G3, K3⟩ := Ak H
   refine AM (fun a w => ∃ x4 : Bool, some (x4) = some o3 ∧ Fr 66 [] [(1, v3), (3, .int .i64 p3), (4, .int .i64 p4), (5, .pointer (some ⟨b1, 0, none⟩)), (10, .int .i64 0), (11, .bool false), (12, .int .i64 x2), (13, .int .i64 x3), (45, .bool x4)] a ∧ Stw ⟨Y, [], w0⟩ [(b1, [.int .i64 p0.1, v1, v2])] [] w) ?_ ?_
   ·
    have H := G3
    clear G3 K3
    refine BV W MO (by kernel_rfl) ?_
    refine qs F Aa (Aj D1 Aa Aa Aa H4 F Aa 2 Aa).q fun a F => ?_
    refine qs F Aa (Aw (v := v2) 0 F Aa Aa H4 Aa).q fun a F => ?_
    refine qs F Aa (Ad F Aa).q fun a F => ?_
    obtain ⟨x5, h2, H⟩ := Ak H
    refine qs F Aa (Ax (r := Gz) Py F Aa Aa (Am h_v2) h2).q fun a F => ?_
    refine qs F Aa (Aj KZ Aa Aa Aa T3 F Aa (Hl v2 + (p3).toNat * 2) Aa).q fun a F => ?_
    refine qs F Aa (Ao (y := Value.int .i64 x5.1) (j := 0) (i := p3) F Aa Aa (Am h_v2) h2 Pw.to T3 Aa).q fun a F => ?_
    refine qs F Aa (Ad F Aa).q fun a F => ?_
    refine qs F Aa (DP F Aa Aa).q fun a F => ?_
    refine qs F Aa (Ad F Aa).q fun a F => ?_
    rcases Bool.eq_false_or_eq_true (decide (x5.1 = x2)) with hb | hb
    ·
     have H := AS (BD hb) H
     rw [hb] at F
     clear hb
     refine Bc F (Af F Aa Aa Aa Aa) Aa (Ai Aa) (Aj D1 Aa Aa Aa H4 F Aa 2 Aa).q fun a F => ?_
     refine Bc F (Af F Aa Aa Aa Aa) Aa (Ai Aa) (Aw (v := v2) 0 F Aa Aa H4 Aa).q fun a F => ?_
     refine Bc F (Af F Aa Aa Aa Aa) Aa (Ai Aa) (Ad F Aa).q fun a F => ?_
     obtain ⟨x6, h3, H⟩ := Ak H
     refine Bc F (Af F Aa Aa Aa Aa) Aa (Ai Aa) (Ax (r := Gz) Py F Aa Aa (Am h_v2) h3).q fun a F => ?_
     refine Bc F (Af F Aa Aa Aa Aa) Aa (Ai Aa) (Aj KZ Aa Aa Aa T3 F Aa (Hl v2 + (p3).toNat * 2 + 1) Aa).q fun a F => ?_
     refine Bc F (Af F Aa Aa Aa Aa) Aa (Ai Aa) (Ao (y := Value.int .i64 x6.2) (j := 1) (i := p3) F Aa Aa (Am h_v2) h3 Pw.to T3 Aa).q fun a F => ?_
     iterate 2 refine Bc F (Af F Aa Aa Aa Aa) Aa (Ai Aa) (Ad F Aa).q fun a F => ?_
     obtain ⟨x7, h4, H⟩ := Ak H
     obtain ⟨v5, h5, h6⟩ := DQ h1 h4
     have h7 : EN v5 = [(v5.1)] := congrArg (fun q : List Int => ([(v5.1)] : List Value)) h6
     refine Bc F (Af F Aa Aa Aa Aa) Aa (Ai Aa) (Ax (r := (Rp.vsl (Rp.int .i64))) Lm F Aa Aa (Am h_v3) h5).q fun a F => ?_
     refine Bc F (Af F Aa Aa Aa Aa) Aa (Ai Aa) (Ao (y := (v5.1)) (j := 0) (i := x2) (enc := EN) F Aa Aa (Am h_v3) h5 Im JO (by rw [h7]; rfl)).q fun a F => ?_
     refine Bc F (Af F Aa Aa Aa Aa) Aa (Ai Aa) (Ad F Aa).q fun a F => ?_
     obtain ⟨x8, h8, H⟩ := Ak H
     refine Bc F (Af F Aa Aa Aa Aa) Aa (Ai Aa) (Ax (r := (Rp.int .i64)) GD F Aa Aa (Du (Am h_v3) h5 EK.here (congrArg (fun q : List Int => q) h6)) h8).q fun a F => ?_
     refine Bc F (Af F Aa Aa Aa Aa) Aa (Ai Aa) (Ao (y := Value.int .i64 x8) (j := 0) (i := p3) F Aa Aa (Du (Am h_v3) h5 EK.here (congrArg (fun q : List Int => q) h6)) h8 Fl.int.to T3 Aa).q fun a F => ?_
     refine Bc F (Af F Aa Aa Aa Aa) Aa (Ai Aa) (DP F Aa Aa).q fun a F => ?_
     refine qs F Aa (Aq F Aa Aa Aa).q fun a F => ?_
     refine AY fun w W => ?_
     refine Ab ?_
     exact ⟨_, H, F.re ⟨rfl, Aa, Aa, Aa, Aa, Aa, Aa, Aa, Aa, trivial⟩, W⟩
    have H := AR (BB hb) H
    rw [hb] at F
    clear hb
    iterate 14 refine Ds F (CM F Aa Aa Aa Aa Aa) Aa Aa fun a F => ?_
    refine qs F Aa (Az F Aa Aa Aa).q fun a F => ?_
    refine AY fun w W => ?_
    refine Ab ?_
    exact ⟨_, H, F.re ⟨rfl, Aa, Aa, Aa, Aa, Aa, Aa, Aa, Aa, trivial⟩, W⟩
   rintro a w ⟨x4, hj, F, W⟩
   have hj := AV hj
   subst hj
   have H := K3
   clear G3 K3
   refine AA F Aa (fun hb => ?_) fun hb => ?_
   ·
    have H := AS hb H
    rw [hb] at F
    clear hb
    refine Ah (Ac ?_)
    iterate 3 refine ls F W Aa (Ad F Aa).q fun a w F W => ?_
    refine ls F W Aa (DP F Aa Aa).q fun a w F W => ?_
    iterate 2 refine ls F W Aa (Ag F Aa).q fun a w F W => ?_
    refine Ae (Ab (AF (AH (AQ ?_))))
    iterate 2 refine AH ?_
    refine AQ (AH ?_)
    have H := L2 _ H
    have H := L1 _ H
    have H := AV H
    subst H
    refine EO (.inl Aa) F W Aa (Ay F Aa) (Ay F Aa) ?_
    exact ⟨rfl, W.done⟩
   have H := AR (by rw [hb]; decide) H
   rw [hb] at F
   clear hb
   refine Av (Ab (Ah (Ah (Ac ?_))))
   iterate 2 refine ls F W Aa (Ad F Aa).q fun a w F W => ?_
   refine ls F W Aa (DP F Aa Aa).q fun a w F W => ?_
   refine Ae (Ab ?_)
   refine AA F Aa (fun hb => ?_) fun hb => ?_
   ·
    have H := AS (BD hb) H
    rw [hb] at F
    clear hb
    refine Ah (Ac ?_)
    refine ls F W Aa (Ad F Aa).q fun a w F W => ?_
    iterate 2 refine ls F W Aa (Ag F Aa).q fun a w F W => ?_
    refine Ae (Ab (AF (AH (AQ ?_))))
    iterate 2 refine AH ?_
    refine AQ (AH ?_)
    have H := L2 _ H
    have H := L1 _ H
    have H := AV H
    subst H
    refine EO (.inl Aa) F W Aa (Ay F Aa) (Ay F Aa) ?_
    exact ⟨rfl, W.done⟩
   have H := AR (BB hb) H
   rw [hb] at F
   clear hb
   refine Av (Ab (Ah (Ac ?_)))
   refine ls F W Aa (Aw (v := Value.agg #[.int .i64 p0.1, v1, v2]) 0 F Aa Aa JE Aa).q fun a w F W => ?_
   iterate 3 refine ls F W Aa (Ad F Aa).q fun a w F W => ?_
   obtain ⟨x9, h9, H⟩ := Ak H
   refine ls F W Aa (BX (v := Value.tuple #[.int .i64 x9.1, .bool x9.2]) F TW Aa (fun w W => N8 any w (v1) (v2) (v3) p0 p1 x2 p3 _ h9 (((Am h_v1) : D4 _ _ _ _ _ _) w W).nx (((Am h_v2) : D4 _ _ _ _ _ _) w W).nx (((B8 Do h1 (Am h_v3)) : D4 _ _ _ _ _ _) w W).nx)) fun a w F W => ?_
   refine ls F W Aa (Ad F Aa).q fun a w F W => ?_
   refine ls F W Aa (Bi (v := Value.int .i64 x9.1) F Aa Aa).q fun a w F W => ?_
   refine ls F W Aa (Bi (v := Value.bool x9.2) F Aa Aa).q fun a w F W => ?_
   iterate 2 refine ls F W Aa (Ag F Aa).q fun a w F W => ?_
   refine Ae (Ab (Ah (Ah (Ac ?_))))
   refine ls F W Aa (Ad F Aa).q fun a w F W => ?_
   refine ls F W Aa (Eb F Aa).q fun a w F W => ?_
   refine Ae (Ab ?_)
   refine AA F Aa (fun hb => ?_) fun hb => ?_
   ·
    have H := AS hb H
    rw [hb] at F
    clear hb
    refine Ah (Ac ?_)
    iterate 2 refine ls F W Aa (Ag F Aa).q fun a w F W => ?_
    refine Ae (Ab (AF (AH (AQ ?_))))
    iterate 2 refine AH ?_
    refine AQ (AH ?_)
    have H := L2 _ H
    have H := L1 _ H
    have H := AV H
    subst H
    refine EO (.inl Aa) F W Aa (Ay F Aa) (Ay F Aa) ?_
    exact ⟨rfl, W.done⟩
   have H := AR (by rw [hb]; decide) H
   rw [hb] at F
   clear hb
   refine Av (Ab (Ac ?_))
   refine ls F W Aa (Ad F Aa).q fun a w F W => ?_
   refine ls F W Aa (Ag F Aa).q fun a w F W => ?_
   refine Ae (AP (Ab (Ac ?_)))
   refine ls F W Aa (Ad F Aa).q fun a w F W => ?_
   refine ls F W Aa (BC F Aa Aa Aa).q fun a w F W => ?_
   refine ls F W Aa (Ag F Aa).q fun a w F W => ?_
   refine Ae (Ab ?_)
   exact ⟨_, H, F.re ⟨rfl, Aa, Aa, Aa, Aa, Aa, Aa, Aa, trivial⟩, W⟩
  have H := AR (BB hb) H
  rw [hb] at F
  clear hb
  refine A8 ?_
  iterate 2 refine Bq ?_
  refine A9 (Ab ?_)
  have H := L2 _ H
  exact ⟨_, H, F.re ⟨rfl, Aa, Aa, trivial⟩, W⟩
 rintro a w ⟨x1, hj, F, W⟩
 have H := K1 _ hj
 clear hj G1 K1 L1
 refine Ah (Ac ?_)
 refine ls F W Aa (Ad F Aa).q fun a w F W => ?_
 iterate 2 refine ls F W Aa (Ag F Aa).q fun a w F W => ?_
 refine Ae (Ab (AF ?_))
 have H := AV H
 subst H
 refine EO (.inl Aa) F W Aa (Ay F Aa) (Ay F Aa) ?_
 exact ⟨rfl, W.done⟩
theorem Tf : Has Try.prog 41 := ⟨fun args w => Al Try.func41 rfl (by decide) args w⟩
noncomputable def DO (p0 : Int × (List (Int × Int × Int × Int × Int × Int)) × (List (Int × Int))) (p1 : List (List Int)) (p2 : Int) (p3 : Int) : (List Int × Int) → Option ((List Int × Int) ⊕ (Unit ⊕ (List Int × Int)))
  | (x3, x4) => (if x4 < p0.1 then (FY p0 p1 p2 p3 x4).bind fun x5 => (if x5.1 = (-1) then some (.inr (.inr (([] : List Int), 13))) else (Ld x3 ([x5.1] : List Int)).bind fun x6 => (if x5.2 = true then some (.inr (.inr (x6, 0))) else some (.inl (x6, AB (x4 + 1))))) else some (.inr (.inl ())))
noncomputable def IM (p0 : Int × (List (Int × Int × Int × Int × Int × Int)) × (List (Int × Int))) (p1 : List (List Int)) (p2 : Int) (p3 : Int) : Option (List Int × Int) := ((HR p0 p1).bind fun x2 => (if (!x2) = true then some true else (if p2 < 0 then some true else (if (p1.length : Int) ≤ p2 then some true else (if p3 < 0 then some true else some (decide ((p0.2.2.length : Int) ≤ p3))))))).bind fun x1 => (if x1 = true then some (([] : List Int), 2) else FB (AG (DO p0 p1 p2 p3) ([], 0)) fun _ => (FY p0 p1 p2 p3 p0.1).bind fun x7 => (if x7.1 = (-1) then some (([] : List Int), 13) else some (([] : List Int), 12)))
theorem Od (Y : Nat → Prop) (w0 : World) (v1 : Value) (v2 : Value) (v3 : Value) (p0 : Int × (List (Int × Int × Int × Int × Int × Int)) × (List (Int × Int))) (p1 : List (List Int)) (p2 : Int) (p3 : Int) (r : List Int × Int) (H : IM p0 p1 p2 p3 = some r) (h_v1 : Sl w0 (NX []) Hu v1 p0.2.1) (h_v2 : Sl w0 (NX []) Gz v2 p0.2.2) (h_v3 : Sl w0 (NX []) (Rp.slice (Rp.int .i64)) v3 p1) :
    Calls Try.prog 21 #[.agg #[.int .i64 p0.1, v1, v2], v3, .int .i64 p2, .int .i64 p3] w0 fun e w' => ∃ x : Value, e = .returned (.tuple #[x, .int .i64 r.2]) ∧ Stw ⟨Y, [], w0⟩ [] [row (x) 3 (Rp.int .i64) r.1] w' := by
 refine enter Try.func21 Aa Try.ntmps21 Aa fun a F => ?_
 have W := Stw.start Y w0
 obtain ⟨v4, h1, h_v3⟩ := h_v3.ex Do
 unfold IM at H
 refine Ah (Ac ?_)
 refine E5 (cs := [.int .i64 p0.1, v1, v2]) F W Aa Aa Aa fun b1 a w F W => ?_
 iterate 2 refine ls F W Aa (Ag F Aa).q fun a w F W => ?_
 refine Ae (Ab (Ah ?_))
 obtain ⟨o1, G1, K1⟩ := Ak H
 refine AM (fun a w => ∃ x1 : Bool, some (x1) = some o1 ∧ Fr 76 [] [(1, v3), (2, .int .i64 p2), (3, .int .i64 p3), (4, .pointer (some ⟨b1, 0, none⟩)), (8, .slice none 0 0), (9, .int .i64 0), (40, .bool x1)] a ∧ Stw ⟨Y, [], w0⟩ [(b1, [.int .i64 p0.1, v1, v2])] [] w) ?_ ?_
 ·
  have H := G1
  clear G1 K1
  refine Ac ?_
  refine ls F W Aa (Aw (v := Value.agg #[.int .i64 p0.1, v1, v2]) 0 F Aa Aa JE Aa).q fun a w F W => ?_
  refine ls F W Aa (Ad F Aa).q fun a w F W => ?_
  obtain ⟨x2, h2, H⟩ := Ak H
  refine ls F W Aa (BX (v := Value.bool x2) F S5 Aa (fun w W => KL any w (v1) (v2) (v3) p0 p1 _ h2 (((Am h_v1) : D4 _ _ _ _ _ _) w W).nx (((Am h_v2) : D4 _ _ _ _ _ _) w W).nx (((B8 Do h1 (Am h_v3)) : D4 _ _ _ _ _ _) w W).nx)) fun a w F W => ?_
  refine ls F W Aa (Eb F Aa).q fun a w F W => ?_
  refine ls F W Aa (Ad F Aa).q fun a w F W => ?_
  rcases Bool.eq_false_or_eq_true (!x2) with hb | hb
  ·
   have H := AS hb H
   rw [hb] at F
   clear hb
   iterate 2 refine Dd F Aa Aa Aa Aa Aa Aa Aa fun a F => ?_
   refine ls F W Aa (Aq F Aa Aa Aa).q fun a w F W => ?_
   refine ls F W Aa (Ad F Aa).q fun a w F W => ?_
   iterate 4 refine Dd F Aa Aa Aa Aa Aa Aa Aa fun a F => ?_
   refine ls F W Aa (Aq F Aa Aa Aa).q fun a w F W => ?_
   refine ls F W Aa (Ad F Aa).q fun a w F W => ?_
   iterate 2 refine Dd F Aa Aa Aa Aa Aa Aa Aa fun a F => ?_
   refine ls F W Aa (Aq F Aa Aa Aa).q fun a w F W => ?_
   refine ls F W Aa (Ad F Aa).q fun a w F W => ?_
   iterate 5 refine Dd F Aa Aa Aa Aa Aa Aa Aa fun a F => ?_
   refine ls F W Aa (Aq F Aa Aa Aa).q fun a w F W => ?_
   refine Ae (Ab ?_)
   exact ⟨_, H, F.re ⟨rfl, Aa, Aa, Aa, Aa, Aa, Aa, trivial⟩, W⟩
  have H := AR (by rw [hb]; decide) H
  rw [hb] at F
  clear hb
  refine AJ F W (Af F Aa Aa Aa Aa) Aa (Ai Aa) (Ad F Aa).q fun a w F W => ?_
  refine AJ F W (Af F Aa Aa Aa Aa) Aa (Ai Aa) (Bu F Aa Aa).q fun a w F W => ?_
  refine ls F W Aa (Az F Aa Aa Aa).q fun a w F W => ?_
  refine ls F W Aa (Ad F Aa).q fun a w F W => ?_
  rcases Bool.eq_false_or_eq_true (decide (p2 < 0)) with hb | hb
  ·
   have H := AS (BD hb) H
   rw [hb] at F
   clear hb
   iterate 4 refine Dd F Aa Aa Aa Aa Aa Aa Aa fun a F => ?_
   refine ls F W Aa (Aq F Aa Aa Aa).q fun a w F W => ?_
   refine ls F W Aa (Ad F Aa).q fun a w F W => ?_
   iterate 2 refine Dd F Aa Aa Aa Aa Aa Aa Aa fun a F => ?_
   refine ls F W Aa (Aq F Aa Aa Aa).q fun a w F W => ?_
   refine ls F W Aa (Ad F Aa).q fun a w F W => ?_
   iterate 5 refine Dd F Aa Aa Aa Aa Aa Aa Aa fun a F => ?_
   refine ls F W Aa (Aq F Aa Aa Aa).q fun a w F W => ?_
   refine Ae (Ab ?_)
   exact ⟨_, H, F.re ⟨rfl, Aa, Aa, Aa, Aa, Aa, Aa, trivial⟩, W⟩
  have H := AR (BB hb) H
  rw [hb] at F
  clear hb
  iterate 2 refine AJ F W (Af F Aa Aa Aa Aa) Aa (Ai Aa) (Ad F Aa).q fun a w F W => ?_
  refine AJ F W (Af F Aa Aa Aa Aa) Aa (Ai Aa) (B0 (r := (Rp.slice (Rp.int .i64))) (l := p1) Ju Aa F Aa (B8 Do h1 (Am h_v3))).q fun a w F W => ?_
  refine AJ F W (Af F Aa Aa Aa Aa) Aa (Ai Aa) (DH F Aa Aa).q fun a w F W => ?_
  refine ls F W Aa (Az F Aa Aa Aa).q fun a w F W => ?_
  refine ls F W Aa (Ad F Aa).q fun a w F W => ?_
  rcases Bool.eq_false_or_eq_true (decide ((p1.length : Int) ≤ p2)) with hb | hb
  ·
   have H := AS (BD hb) H
   rw [hb] at F
   clear hb
   iterate 2 refine Dd F Aa Aa Aa Aa Aa Aa Aa fun a F => ?_
   refine ls F W Aa (Aq F Aa Aa Aa).q fun a w F W => ?_
   refine ls F W Aa (Ad F Aa).q fun a w F W => ?_
   iterate 5 refine Dd F Aa Aa Aa Aa Aa Aa Aa fun a F => ?_
   refine ls F W Aa (Aq F Aa Aa Aa).q fun a w F W => ?_
   refine Ae (Ab ?_)
   exact ⟨_, H, F.re ⟨rfl, Aa, Aa, Aa, Aa, Aa, Aa, trivial⟩, W⟩
  have H := AR (BB hb) H
  rw [hb] at F
  clear hb
  refine AJ F W (Af F Aa Aa Aa Aa) Aa (Ai Aa) (Ad F Aa).q fun a w F W => ?_
  refine AJ F W (Af F Aa Aa Aa Aa) Aa (Ai Aa) (Bu F Aa Aa).q fun a w F W => ?_
  refine ls F W Aa (Az F Aa Aa Aa).q fun a w F W => ?_
  refine ls F W Aa (Ad F Aa).q fun a w F W => ?_
  rcases Bool.eq_false_or_eq_true (decide (p3 < 0)) with hb | hb
  ·
   have H := AS (BD hb) H
   rw [hb] at F
   clear hb
   iterate 5 refine Dd F Aa Aa Aa Aa Aa Aa Aa fun a F => ?_
   refine ls F W Aa (Aq F Aa Aa Aa).q fun a w F W => ?_
   refine Ae (Ab ?_)
   exact ⟨_, H, F.re ⟨rfl, Aa, Aa, Aa, Aa, Aa, Aa, trivial⟩, W⟩
  have H := AR (BB hb) H
  rw [hb] at F
  clear hb
  refine AJ F W (Af F Aa Aa Aa Aa) Aa (Ai Aa) (Ad F Aa).q fun a w F W => ?_
  refine AJ F W (Af F Aa Aa Aa Aa) Aa (Ai Aa) (Aj D1 Aa Aa Aa H4 F Aa 2 Aa).q fun a w F W => ?_
  refine AJ F W (Af F Aa Aa Aa Aa) Aa (Ai Aa) (Aw (v := v2) 0 F Aa Aa H4 Aa).q fun a w F W => ?_
  refine AJ F W (Af F Aa Aa Aa Aa) Aa (Ai Aa) (B0 (r := Gz) (l := p0.2.2) JG Aa F Aa (Am h_v2)).q fun a w F W => ?_
  refine AJ F W (Af F Aa Aa Aa Aa) Aa (Ai Aa) (DH F Aa Aa).q fun a w F W => ?_
  refine ls F W Aa (Az F Aa Aa Aa).q fun a w F W => ?_
  refine Ae (Ab ?_)
  exact ⟨_, H, F.re ⟨rfl, Aa, Aa, Aa, Aa, Aa, Aa, trivial⟩, W⟩
 rintro a w ⟨x1, hj, F, W⟩
 have hj := AV hj
 subst hj
 have H := K1
 clear G1 K1
 refine AA F Aa (fun hb => ?_) fun hb => ?_
 ·
  have H := AS hb H
  rw [hb] at F
  clear hb
  refine Ah (Ac ?_)
  iterate 2 refine ls F W Aa (Ag F Aa).q fun a w F W => ?_
  refine Ae (Ab (AF (AH ?_)))
  have H := AV H
  subst H
  refine EO (.inl Aa) F W Aa (Ay F Aa) (Ay F Aa) ?_
  have W := W.nilRow 3 (Rp.int .i64)
  have W := W.sub (M' := []) (Z' := [row (Value.slice none 0 0) 3 (Rp.int .i64) ([])]) (List.nil_sublist _) (List.Sublist.refl _)
  exact ⟨(Value.slice none 0 0), Aa, W⟩
 have H := AR (by rw [hb]; decide) H
 rw [hb] at F
 clear hb
 refine Av (Ab (Ah (Ac ?_)))
 refine ls F W Aa (Ag F Aa).q fun a w F W => ?_
 refine Ae (Ab ?_)
 obtain ⟨o2, G2, K2, L2⟩ := Jx H
 refine AM (fun a w => some (Sum.inl ()) = some o2 ∧ Fr 76 [] [(1, v3), (2, .int .i64 p2), (3, .int .i64 p3), (4, .pointer (some ⟨b1, 0, none⟩)), (8, .slice none 0 0), (9, .int .i64 0)] a ∧ Stw ⟨Y, [], w0⟩ [(b1, [.int .i64 p0.1, v1, v2])] [] w) ?_ ?_
 ·
  have H := G2
  clear G2 K2
  refine Ah (Ac ?_)
  refine ls F W Aa (Ag F Aa).q fun a w F W => ?_
  refine Ae (Ab (As ?_))
  have W := W.nilRow 3 (Rp.int .i64)
  refine Bb H (fun s a w => ∃ v5 : Value, Fr 76 [] [(1, v3), (2, .int .i64 p2), (3, .int .i64 p3), (4, .pointer (some ⟨b1, 0, none⟩)), (8, .slice none 0 0), (9, .int .i64 0), (10, v5), (11, .int .i64 s.2)] a ∧ Stw ⟨Y, [], w0⟩ [(b1, [.int .i64 p0.1, v1, v2])] [row v5 3 (Rp.int .i64) s.1] w) ⟨(Value.slice none 0 0), F.re ⟨rfl, Aa, Aa, Aa, Aa, Aa, Aa, Aa, trivial⟩, W⟩ fun s o a w H L3 hR => ?_
  obtain ⟨x3, x4⟩ := s
  obtain ⟨v5, F, W⟩ := hR
  have F : Fr 76 [] [(1, v3), (2, .int .i64 p2), (3, .int .i64 p3), (4, .pointer (some ⟨b1, 0, none⟩)), (8, .slice none 0 0), (9, .int .i64 0), (10, v5), (11, .int .i64 x4)] a := F
  have W : Stw ⟨Y, [], w0⟩ [(b1, [.int .i64 p0.1, v1, v2])] [row v5 3 (Rp.int .i64) x3] w := W
  rw [DO] at H
  refine Ah (Ah (Ac ?_))
  refine ls F W Aa (Ad F Aa).q fun a w F W => ?_
  refine ls F W Aa (Aj D1 Aa Aa Aa T3 F Aa 0 Aa).q fun a w F W => ?_
  refine ls F W Aa (Aw (v := Value.int .i64 p0.1) 0 F Aa Aa T3 Aa).q fun a w F W => ?_
  refine ls F W Aa (Bu F Aa Aa).q fun a w F W => ?_
  refine Ae (Ab ?_)
  refine AA F Aa (fun hb => ?_) fun hb => ?_
  ·
   have H := AS (BD hb) H
   rw [hb] at F
   clear hb
   refine Av (Ab (Ah (As (Ah (Ac ?_)))))
   refine ls F W Aa (Aw (v := Value.agg #[.int .i64 p0.1, v1, v2]) 0 F Aa Aa JE Aa).q fun a w F W => ?_
   iterate 4 refine ls F W Aa (Ad F Aa).q fun a w F W => ?_
   obtain ⟨x5, h3, H⟩ := Ak H
   refine ls F W Aa (BX (v := Value.tuple #[.int .i64 x5.1, .bool x5.2]) F Tf Aa (fun w W => KF any w (v1) (v2) (v3) p0 p1 p2 p3 x4 _ h3 (((Am h_v1) : D4 _ _ _ _ _ _) w W).nx (((Am h_v2) : D4 _ _ _ _ _ _) w W).nx (((B8 Do h1 (Am h_v3)) : D4 _ _ _ _ _ _) w W).nx)) fun a w F W => ?_
   refine ls F W Aa (Ad F Aa).q fun a w F W => ?_
   refine ls F W Aa (Bi (v := Value.int .i64 x5.1) F Aa Aa).q fun a w F W => ?_
   refine ls F W Aa (Bi (v := Value.bool x5.2) F Aa Aa).q fun a w F W => ?_
   iterate 2 refine ls F W Aa (Ag F Aa).q fun a w F W => ?_
   refine Ae (Ab (Ah (Ah (Ac ?_))))
   refine ls F W Aa (Ad F Aa).q fun a w F W => ?_
   refine ls F W Aa (DP F Aa Aa).q fun a w F W => ?_
   refine Ae (Ab ?_)
   refine AA F Aa (fun hb => ?_) fun hb => ?_
   ·
    have H := AS (BD hb) H
    rw [hb] at F
    clear hb
    refine Ah (Ac ?_)
    iterate 2 refine ls F W Aa (Ag F Aa).q fun a w F W => ?_
    refine Ae (Ab (AF (AH (AQ ?_))))
    iterate 2 refine AH ?_
    refine AQ (AH ?_)
    have H := L3 _ H
    have H := L2 _ H
    have H := AV H
    subst H
    refine EO (.inl Aa) F W Aa (Ay F Aa) (Ay F Aa) ?_
    have W := W.nilRow 3 (Rp.int .i64)
    have W := W.sub (M' := []) (Z' := [row (Value.slice none 0 0) 3 (Rp.int .i64) ([])]) (List.nil_sublist _) (List.Sublist.cons_cons _ (List.nil_sublist _))
    exact ⟨(Value.slice none 0 0), Aa, W⟩
   have H := AR (BB hb) H
   rw [hb] at F
   clear hb
   refine Av (Ab (Ah (Ac ?_)))
   iterate 2 refine ls F W Aa (Ad F Aa).q fun a w F W => ?_
   refine Fm (z := Value.int .i64 0) (cs := [.int .i64 x5.1]) (Rp.int .i64) ([x5.1] : List Int) F W Aa GD Z3 Aa Aa Aa Aa Aa Aa (Fl.int.repL _ _ ([x5.1] : List Int)) fun v6 a w F W => ?_
   obtain ⟨x6, h4, H⟩ := Ak H
   refine Fj (r := (Rp.int .i64)) (i := 1) F W Aa GD Aa Aa Aa Aa (GP W 0 Aa) h4 Aa fun v7 a w F W => ?_
   have W : Stw ⟨Y, [], w0⟩ [(b1, [.int .i64 p0.1, v1, v2])] [row v7 3 (Rp.int .i64) x6, row v6 3 (Rp.int .i64) ([x5.1] : List Int)] w := W
   refine ls F W Aa (Ag F Aa).q fun a w F W => ?_
   refine Ae (Ab (Ah (Ac ?_)))
   refine ls F W Aa (Ad F Aa).q fun a w F W => ?_
   refine Ae (Ab ?_)
   refine AA F Aa (fun hb => ?_) fun hb => ?_
   ·
    have H := AS hb H
    rw [hb] at F
    clear hb
    refine Ah (Ac ?_)
    refine ls F W Aa (Ad F Aa).q fun a w F W => ?_
    iterate 2 refine ls F W Aa (Ag F Aa).q fun a w F W => ?_
    refine Ae (Ab (AF (AQ ?_)))
    iterate 2 refine AH ?_
    refine AQ (AH ?_)
    have H := L3 _ H
    have H := L2 _ H
    have H := AV H
    subst H
    refine EO (.inl Aa) F W Aa (Ay F Aa) (Ay F Aa) ?_
    have W := W.sub (M' := []) (Z' := [row v7 3 (Rp.int .i64) x6]) (List.nil_sublist _) (List.Sublist.cons_cons _ (List.nil_sublist _))
    exact ⟨(v7), Aa, W⟩
   have H := AR (by rw [hb]; decide) H
   rw [hb] at F
   clear hb
   refine Av (AP (Ab (Ac ?_)))
   refine ls F W Aa (Ad F Aa).q fun a w F W => ?_
   refine ls F W Aa (BC F Aa Aa Aa).q fun a w F W => ?_
   refine ls F W Aa (Ag F Aa).q fun a w F W => ?_
   refine Ae (Ab ?_)
   have W := W.sub (M' := [(b1, [.int .i64 p0.1, v1, v2])]) (Z' := [row v7 3 (Rp.int .i64) x6]) (List.Sublist.refl _) (List.Sublist.cons_cons _ (List.nil_sublist _))
   exact ⟨_, H, (v7), F.re ⟨rfl, Aa, Aa, Aa, Aa, Aa, Aa, Aa, trivial⟩, W⟩
  have H := AR (BB hb) H
  rw [hb] at F
  clear hb
  refine A8 ?_
  iterate 2 refine Bq ?_
  refine A9 (Ab ?_)
  have W := W.sub (M' := [(b1, [.int .i64 p0.1, v1, v2])]) (Z' := []) (List.Sublist.refl _) (List.nil_sublist _)
  have H := L3 _ H
  exact ⟨H, F.re ⟨rfl, Aa, Aa, Aa, Aa, Aa, trivial⟩, W⟩
 rintro a w ⟨hj, F, W⟩
 have H := K2 _ hj
 clear hj G2 K2 L2
 refine Ah (Ac ?_)
 refine ls F W Aa (Aw (v := Value.agg #[.int .i64 p0.1, v1, v2]) 0 F Aa Aa JE Aa).q fun a w F W => ?_
 iterate 3 refine ls F W Aa (Ad F Aa).q fun a w F W => ?_
 refine ls F W Aa (Aj D1 Aa Aa Aa T3 F Aa 0 Aa).q fun a w F W => ?_
 refine ls F W Aa (Aw (v := Value.int .i64 p0.1) 0 F Aa Aa T3 Aa).q fun a w F W => ?_
 obtain ⟨x7, h5, H⟩ := Ak H
 refine ls F W Aa (BX (v := Value.tuple #[.int .i64 x7.1, .bool x7.2]) F Tf Aa (fun w W => KF any w (v1) (v2) (v3) p0 p1 p2 p3 p0.1 _ h5 (((Am h_v1) : D4 _ _ _ _ _ _) w W).nx (((Am h_v2) : D4 _ _ _ _ _ _) w W).nx (((B8 Do h1 (Am h_v3)) : D4 _ _ _ _ _ _) w W).nx)) fun a w F W => ?_
 refine ls F W Aa (Ad F Aa).q fun a w F W => ?_
 refine ls F W Aa (Bi (v := Value.int .i64 x7.1) F Aa Aa).q fun a w F W => ?_
 refine ls F W Aa (Bi (v := Value.bool x7.2) F Aa Aa).q fun a w F W => ?_
 iterate 2 refine ls F W Aa (Ag F Aa).q fun a w F W => ?_
 refine Ae (Ab (Ah (Ah (Ac ?_))))
 refine ls F W Aa (Ad F Aa).q fun a w F W => ?_
 refine ls F W Aa (DP F Aa Aa).q fun a w F W => ?_
 refine Ae (Ab ?_)
 refine AA F Aa (fun hb => ?_) fun hb => ?_
 ·
  have H := AS (BD hb) H
  rw [hb] at F
  clear hb
  refine Ah (Ac ?_)
  iterate 2 refine ls F W Aa (Ag F Aa).q fun a w F W => ?_
  refine Ae (Ab (AF (AH ?_)))
  have H := AV H
  subst H
  refine EO (.inl Aa) F W Aa (Ay F Aa) (Ay F Aa) ?_
  have W := W.nilRow 3 (Rp.int .i64)
  have W := W.sub (M' := []) (Z' := [row (Value.slice none 0 0) 3 (Rp.int .i64) ([])]) (List.nil_sublist _) (List.Sublist.refl _)
  exact ⟨(Value.slice none 0 0), Aa, W⟩
 have H := AR (BB hb) H
 rw [hb] at F
 clear hb
 refine Av (Ab (Ah (Ac ?_)))
 iterate 2 refine ls F W Aa (Ag F Aa).q fun a w F W => ?_
 refine Ae (Ab (AF ?_))
 have H := AV H
 subst H
 refine EO (.inl Aa) F W Aa (Ay F Aa) (Ay F Aa) ?_
 have W := W.nilRow 3 (Rp.int .i64)
 have W := W.sub (M' := []) (Z' := [row (Value.slice none 0 0) 3 (Rp.int .i64) ([])]) (List.nil_sublist _) (List.Sublist.refl _)
 exact ⟨(Value.slice none 0 0), Aa, W⟩
theorem Uh : Has Try.prog 21 := ⟨fun args w => Al Try.func21 rfl (by decide) args w⟩
noncomputable def Gu (p0 : Int × (List (Int × Int × Int × Int × Int × Int)) × (List (Int × Int))) (p1 : List (List Int)) (x2 : Int) : Int → Option (Int ⊕ (Unit ⊕ (Int ⊕ (Unit ⊕ Bool))))
  | x3 => (if x3 < (p0.2.2.length : Int) then (IM p0 p1 x2 x3).bind fun x4 => (if x4.2 ≠ 0 then some (.inr (.inr (.inr (.inr false)))) else some (.inl (AB (x3 + 1)))) else some (.inr (.inl ())))
noncomputable def Ht (p0 : Int × (List (Int × Int × Int × Int × Int × Int)) × (List (Int × Int))) (p1 : List (List Int)) : Int → Option (Int ⊕ (Unit ⊕ Bool))
  | x2 => (if x2 < (p1.length : Int) then FB (AG (Gu p0 p1 x2) 0) fun _ => some (.inl (AB (x2 + 1))) else some (.inr (.inl ())))
noncomputable def IP (p0 : Int × (List (Int × Int × Int × Int × Int × Int)) × (List (Int × Int))) (p1 : List (List Int)) : Option Bool := (HR p0 p1).bind fun x1 => (if (!x1) = true then some false else FB (AG (Ht p0 p1) 0) fun _ => some true)
theorem LV (Y : Nat → Prop) (w0 : World) (v1 : Value) (v2 : Value) (v3 : Value) (p0 : Int × (List (Int × Int × Int × Int × Int × Int)) × (List (Int × Int))) (p1 : List (List Int)) (r : Bool) (H : IP p0 p1 = some r) (h_v1 : Sl w0 (NX []) Hu v1 p0.2.1) (h_v2 : Sl w0 (NX []) Gz v2 p0.2.2) (h_v3 : Sl w0 (NX []) (Rp.slice (Rp.int .i64)) v3 p1) :
    Calls Try.prog 8 #[.agg #[.int .i64 p0.1, v1, v2], v3] w0 fun e w' => e = .returned (.bool r) ∧ Below w0.heap.size w0 w' := by
 refine enter Try.func8 Aa Try.ntmps8 Aa fun a F => ?_
 have W := Stw.start Y w0
 obtain ⟨v4, h1, h_v3⟩ := h_v3.ex Do
 unfold IP at H
 refine Ah (Ac ?_)
 refine E5 (cs := [.int .i64 p0.1, v1, v2]) F W Aa Aa Aa fun b1 a w F W => ?_
 refine ls F W Aa (Ag F Aa).q fun a w F W => ?_
 refine Ae (Ab (Ah (Ah (Ac ?_))))
 refine ls F W Aa (Aw (v := Value.agg #[.int .i64 p0.1, v1, v2]) 0 F Aa Aa JE Aa).q fun a w F W => ?_
 refine ls F W Aa (Ad F Aa).q fun a w F W => ?_
 obtain ⟨x1, h2, H⟩ := Ak H
 refine ls F W Aa (BX (v := Value.bool x1) F S5 Aa (fun w W => KL any w (v1) (v2) (v3) p0 p1 _ h2 (((Am h_v1) : D4 _ _ _ _ _ _) w W).nx (((Am h_v2) : D4 _ _ _ _ _ _) w W).nx (((B8 Do h1 (Am h_v3)) : D4 _ _ _ _ _ _) w W).nx)) fun a w F W => ?_
 refine ls F W Aa (Eb F Aa).q fun a w F W => ?_
 refine Ae (Ab ?_)
 refine AA F Aa (fun hb => ?_) fun hb => ?_
 ·
  have H := AS hb H
  rw [hb] at F
  clear hb
  refine Ah (Ac ?_)
  refine ls F W Aa (Ag F Aa).q fun a w F W => ?_
  refine Ae (Ab (AF (AH ?_)))
  have H := AV H
  subst H
  refine BK (.inl Aa) F W Aa (Ay F Aa) ?_
  exact ⟨rfl, W.done⟩
 have H := AR (by rw [hb]; decide) H
 rw [hb] at F
 clear hb
 refine Av (Ab ?_)
 obtain ⟨o1, G1, K1, L1⟩ := Jx H
 refine AM (fun a w => some (Sum.inl ()) = some o1 ∧ Fr 36 [] [(4, .bool false)] a ∧ Stw ⟨Y, [], w0⟩ [(b1, [.int .i64 p0.1, v1, v2])] [] w) ?_ ?_
 ·
  have H := G1
  clear G1 K1
  refine Ah (Ac ?_)
  refine ls F W Aa (Ag F Aa).q fun a w F W => ?_
  refine Ae (Ab (As ?_))
  refine Bb H (fun s a w => Fr 36 [] [(1, v3), (2, .pointer (some ⟨b1, 0, none⟩)), (4, .bool false), (5, .int .i64 s)] a ∧ Stw ⟨Y, [], w0⟩ [(b1, [.int .i64 p0.1, v1, v2])] [] w) ⟨F.re ⟨rfl, Aa, Aa, Aa, trivial⟩, W⟩ fun s o a w H L2 hR => ?_
  obtain ⟨x2, rfl⟩ : ∃ x, x = s := ⟨s, rfl⟩
  obtain ⟨F, W⟩ := hR
  have F : Fr 36 [] [(1, v3), (2, .pointer (some ⟨b1, 0, none⟩)), (4, .bool false), (5, .int .i64 x2)] a := F
  have W : Stw ⟨Y, [], w0⟩ [(b1, [.int .i64 p0.1, v1, v2])] [] w := W
  rw [Ht] at H
  refine Ah (Ah (Ac ?_))
  iterate 2 refine ls F W Aa (Ad F Aa).q fun a w F W => ?_
  refine ls F W Aa (B0 (r := (Rp.slice (Rp.int .i64))) (l := p1) Ju Aa F Aa (B8 Do h1 (Am h_v3))).q fun a w F W => ?_
  refine ls F W Aa (Bu F Aa Aa).q fun a w F W => ?_
  refine Ae (Ab ?_)
  refine AA F Aa (fun hb => ?_) fun hb => ?_
  ·
   have H := AS (BD hb) H
   rw [hb] at F
   clear hb
   refine Av (Ab ?_)
   obtain ⟨o3, G3, K3, L3⟩ := Jx H
   refine AM (fun a w => some (Sum.inl ()) = some o3 ∧ Fr 36 [] [(1, v3), (2, .pointer (some ⟨b1, 0, none⟩)), (4, .bool false), (5, .int .i64 x2)] a ∧ Stw ⟨Y, [], w0⟩ [(b1, [.int .i64 p0.1, v1, v2])] [] w) ?_ ?_
   ·
    have H := G3
    clear G3 K3
    refine As (Ah (Ac ?_))
    refine ls F W Aa (Ag F Aa).q fun a w F W => ?_
    refine Ae (Ab (As ?_))
    refine Bb H (fun s a w => Fr 36 [] [(1, v3), (2, .pointer (some ⟨b1, 0, none⟩)), (4, .bool false), (5, .int .i64 x2), (6, .int .i64 s)] a ∧ Stw ⟨Y, [], w0⟩ [(b1, [.int .i64 p0.1, v1, v2])] [] w) ⟨F.re ⟨rfl, Aa, Aa, Aa, Aa, trivial⟩, W⟩ fun s o a w H L4 hR => ?_
    obtain ⟨x3, rfl⟩ : ∃ x, x = s := ⟨s, rfl⟩
    obtain ⟨F, W⟩ := hR
    have F : Fr 36 [] [(1, v3), (2, .pointer (some ⟨b1, 0, none⟩)), (4, .bool false), (5, .int .i64 x2), (6, .int .i64 x3)] a := F
    have W : Stw ⟨Y, [], w0⟩ [(b1, [.int .i64 p0.1, v1, v2])] [] w := W
    rw [Gu] at H
    refine Ah (Ah (Ac ?_))
    refine ls F W Aa (Ad F Aa).q fun a w F W => ?_
    refine ls F W Aa (Aj D1 Aa Aa Aa H4 F Aa 2 Aa).q fun a w F W => ?_
    refine ls F W Aa (Aw (v := v2) 0 F Aa Aa H4 Aa).q fun a w F W => ?_
    refine ls F W Aa (B0 (r := Gz) (l := p0.2.2) JG Aa F Aa (Am h_v2)).q fun a w F W => ?_
    refine ls F W Aa (Bu F Aa Aa).q fun a w F W => ?_
    refine Ae (Ab ?_)
    refine AA F Aa (fun hb => ?_) fun hb => ?_
    ·
     have H := AS (BD hb) H
     rw [hb] at F
     clear hb
     refine Av (Ab (Ah (As (Ah (Ac ?_)))))
     refine ls F W Aa (Aw (v := Value.agg #[.int .i64 p0.1, v1, v2]) 0 F Aa Aa JE Aa).q fun a w F W => ?_
     iterate 3 refine ls F W Aa (Ad F Aa).q fun a w F W => ?_
     obtain ⟨x4, h3, H⟩ := Ak H
     refine B7 (Ml := []) (Zl := []) (M := [(b1, [.int .i64 p0.1, v1, v2])]) (Z := []) (β := Value) (rv := fun x => .tuple #[x, .int .i64 x4.2]) (MM := fun x => []) (ZZ := fun x => [row x 3 (Rp.int .i64) x4.1]) F W Uh Aa Aa (fun hL => Od _ w (v1) (v2) (v3) p0 p1 x2 x3 _ h3 ((Am h_v1) w W).nx ((Am h_v2) w W).nx ((B8 Do h1 (Am h_v3)) w W).nx) fun x a w F W => ?_
     obtain ⟨v5, rfl⟩ : ∃ y, y = x := ⟨x, rfl⟩
     have W : Stw ⟨Y, [], w0⟩ [(b1, [.int .i64 p0.1, v1, v2])] [row v5 3 (Rp.int .i64) x4.1] w := W
     refine ls F W Aa (Ad F Aa).q fun a w F W => ?_
     refine ls F W Aa (Bi (v := v5) F Aa Aa).q fun a w F W => ?_
     refine ls F W Aa (Bi (v := Value.int .i64 x4.2) F Aa Aa).q fun a w F W => ?_
     iterate 2 refine ls F W Aa (Ag F Aa).q fun a w F W => ?_
     refine Ae (Ab (Ah (Ac ?_)))
     refine ls F W Aa (Ad F Aa).q fun a w F W => ?_
     refine ls F W Aa (HL F Aa Aa).q fun a w F W => ?_
     refine Ae (Ab ?_)
     refine AA F Aa (fun hb => ?_) fun hb => ?_
     ·
      have H := AS (BD hb) H
      rw [hb] at F
      clear hb
      refine Ah (Ac ?_)
      refine ls F W Aa (Ag F Aa).q fun a w F W => ?_
      refine Ae (Ab (AF (AQ ?_)))
      iterate 2 refine AH ?_
      iterate 2 refine AQ ?_
      iterate 2 refine AH ?_
      refine AQ (AH ?_)
      have H := L4 _ H
      have H := L3 _ H
      have H := L2 _ H
      have H := L1 _ H
      have H := AV H
      subst H
      refine BK (.inl Aa) F W Aa (Ay F Aa) ?_
      exact ⟨rfl, W.done⟩
     have H := AR (BB hb) H
     rw [hb] at F
     clear hb
     refine Av (AP (Ab (Ac ?_)))
     refine ls F W Aa (Ad F Aa).q fun a w F W => ?_
     refine ls F W Aa (BC F Aa Aa Aa).q fun a w F W => ?_
     refine ls F W Aa (Ag F Aa).q fun a w F W => ?_
     refine Ae (Ab ?_)
     have W := W.sub (M' := [(b1, [.int .i64 p0.1, v1, v2])]) (Z' := []) (List.Sublist.refl _) (List.nil_sublist _)
     exact ⟨_, H, F.re ⟨rfl, Aa, Aa, Aa, Aa, trivial⟩, W⟩
    have H := AR (BB hb) H
    rw [hb] at F
    clear hb
    refine A8 ?_
    iterate 2 refine Bq ?_
    refine A9 (AP (Ab ?_))
    have H := L4 _ H
    exact ⟨H, F.re ⟨rfl, Aa, Aa, Aa, trivial⟩, W⟩
   rintro a w ⟨hj, F, W⟩
   have H := K3 _ hj
   clear hj G3 K3 L3
   refine Ac ?_
   refine ls F W Aa (Ad F Aa).q fun a w F W => ?_
   refine ls F W Aa (BC F Aa Aa Aa).q fun a w F W => ?_
   refine ls F W Aa (Ag F Aa).q fun a w F W => ?_
   refine Ae (Ab ?_)
   exact ⟨_, H, F.re ⟨rfl, Aa, Aa, Aa, trivial⟩, W⟩
  have H := AR (BB hb) H
  rw [hb] at F
  clear hb
  refine A8 ?_
  iterate 2 refine Bq ?_
  refine A9 (Ab ?_)
  have H := L2 _ H
  exact ⟨H, F.re ⟨rfl, trivial⟩, W⟩
 rintro a w ⟨hj, F, W⟩
 have H := K1 _ hj
 clear hj G1 K1 L1
 refine Ah (Ac ?_)
 refine ls F W Aa (Ag F Aa).q fun a w F W => ?_
 refine Ae (Ab (AF ?_))
 have H := AV H
 subst H
 refine BK (.inl Aa) F W Aa (Ay F Aa) ?_
 exact ⟨rfl, W.done⟩
theorem H8 : Has Try.prog 8 := ⟨fun args w => Al Try.func8 rfl (by decide) args w⟩
theorem SO : Bt Try.prog 69 [.int .i64 0, .int .i64 0, .int .i64 0, .int .i64 0, .int .i64 0, .int .i64 0] [(0, 1), (1, 1), (2, 1), (3, 1), (4, 1), (5, 1)] := ⟨⟨.agg #[.int .i64 0, .int .i64 0, .int .i64 0, .int .i64 0, .int .i64 0, .int .i64 0], by kernel_rfl, rfl⟩, ⟨_, EW, fun w => by kernel_rfl⟩⟩
theorem TB : Bt Try.prog 25 [.int .i64 0, .slice none 0 0, .slice none 0 0] [(0, 1), (1, 1), (2, 1)] := ⟨⟨.agg #[.int .i64 0, .slice none 0 0, .slice none 0 0], by kernel_rfl, rfl⟩, ⟨_, D1, fun w => by kernel_rfl⟩⟩
theorem T9 : (Try.prog.info? 25).bind (·.zero) = some (.agg #[.int .i64 0, .slice none 0 0, .slice none 0 0]) := by kernel_rfl
theorem Su : (Try.prog.info? 28).bind (·.zero) = some (.slice none 0 0) := by kernel_rfl
theorem Ti : Has Try.prog 10 := ⟨fun args w => Al Try.func10 rfl (by decide) args w⟩
theorem SS (dd : Nat) (x0 : Int) (x1 : Int) (x2 : Int) (x3 : Int) (y0 : Int) (y1 : Int) (y2 : Int) (y3 : Int) (w : World) : (Op.equalIn (dd + 2) 62 (.agg #[.int .i64 x0, .int .i64 x1, .int .i64 x2, .int .i64 x3]) (.agg #[.int .i64 y0, .int .i64 y1, .int .i64 y2, .int .i64 y3])).run Try.prog w = .ok (decide (x0 = y0 ∧ x1 = y1 ∧ x2 = y2 ∧ x3 = y3)) w :=
  Ku (d := dd + 1) (rs := [decide (x0 = y0), decide (x1 = y1), decide (x2 = y2), decide (x3 = y3)]) G0 (by kernel_rfl) ⟨rfl, Ih (d := dd + 0) rfl rfl NV T3 rfl rfl, rfl, Ih (d := dd + 0) rfl rfl NV T3 rfl rfl, rfl, Ih (d := dd + 0) rfl rfl NV T3 rfl rfl, rfl, Ih (d := dd + 0) rfl rfl NV T3 rfl rfl, trivial⟩ (by simp) w
theorem TE : Try.prog.eqGuardType Try.prog.depth 62 = false := by kernel_rfl
theorem Ts (x0 : Int) (x1 : Int) (x2 : Int) (x3 : Int) (y0 : Int) (y1 : Int) (y2 : Int) (y3 : Int) (w : World) : (Op.equalIn 10000 62 (.agg #[.int .i64 x0, .int .i64 x1, .int .i64 x2, .int .i64 x3]) (.agg #[.int .i64 y0, .int .i64 y1, .int .i64 y2, .int .i64 y3])).run Try.prog w = .ok (decide (x0 = y0 ∧ x1 = y1 ∧ x2 = y2 ∧ x3 = y3)) w := SS 9998 x0 x1 x2 x3 y0 y1 y2 y3 w
theorem Ue : Has Try.prog 23 := ⟨fun args w => Al Try.func23 rfl (by decide) args w⟩
noncomputable def Ii (p0 : List Int) (p1 : List Int) : Int → Option (Int ⊕ (Unit ⊕ Bool))
  | x1 => (if x1 < (p0.length : Int) then (ix p0 x1).bind fun x2 => (ix p1 x1).bind fun x3 => (if x2 ≠ x3 then some (.inr (.inr false)) else some (.inl (AB (x1 + 1)))) else some (.inr (.inl ())))
noncomputable def Jg (p0 : List Int) (p1 : List Int) : Option Bool := (if (p0.length : Int) ≠ (p1.length : Int) then some false else FB (AG (Ii p0 p1) 0) fun _ => some true)
theorem Oj (Y : Nat → Prop) (w0 : World) (v1 : Value) (v2 : Value) (p0 : List Int) (p1 : List Int) (r : Bool) (H : Jg p0 p1 = some r) (h_v1 : Sl w0 (NX []) (Rp.int .i64) v1 p0) (h_v2 : Sl w0 (NX []) (Rp.int .i64) v2 p1) :
    Calls Try.prog 22 #[v1, v2] w0 fun e w' => e = .returned (.bool r) ∧ Below w0.heap.size w0 w' := by
 refine enter Try.func22 Aa Try.ntmps22 Aa fun a F => ?_
 have W := Stw.start Y w0
 unfold Jg at H
 refine Ah (Ac ?_)
 refine ls F W Aa (Ag F Aa).q fun a w F W => ?_
 refine Ae (Ab (Ah (Ah (Ac ?_))))
 refine ls F W Aa (Ad F Aa).q fun a w F W => ?_
 refine ls F W Aa (B0 (r := (Rp.int .i64)) (l := p0) Hr Aa F Aa (Am h_v1)).q fun a w F W => ?_
 refine ls F W Aa (Ad F Aa).q fun a w F W => ?_
 refine ls F W Aa (B0 (r := (Rp.int .i64)) (l := p1) Hr Aa F Aa (Am h_v2)).q fun a w F W => ?_
 refine ls F W Aa (HL F Aa Aa).q fun a w F W => ?_
 refine Ae (Ab ?_)
 refine AA F Aa (fun hb => ?_) fun hb => ?_
 ·
  have H := AS (BD hb) H
  rw [hb] at F
  clear hb
  refine Ah (Ac ?_)
  refine ls F W Aa (Ag F Aa).q fun a w F W => ?_
  refine Ae (Ab (AF (AH ?_)))
  have H := AV H
  subst H
  refine BK (.inl Aa) F W Aa (Ay F Aa) ?_
  exact ⟨rfl, W.done⟩
 have H := AR (BB hb) H
 rw [hb] at F
 clear hb
 refine Av (Ab ?_)
 obtain ⟨o1, G1, K1, L1⟩ := Jx H
 refine AM (fun a w => some (Sum.inl ()) = some o1 ∧ Fr 26 [] [(4, .bool false)] a ∧ Stw ⟨Y, [], w0⟩ [] [] w) ?_ ?_
 ·
  have H := G1
  clear G1 K1
  refine Ah (Ac ?_)
  refine ls F W Aa (Ag F Aa).q fun a w F W => ?_
  refine Ae (Ab (As ?_))
  refine Bb H (fun s a w => Fr 26 [] [(0, v1), (1, v2), (4, .bool false), (5, .int .i64 s)] a ∧ Stw ⟨Y, [], w0⟩ [] [] w) ⟨F.re ⟨rfl, Aa, Aa, Aa, trivial⟩, W⟩ fun s o a w H L2 hR => ?_
  obtain ⟨x1, rfl⟩ : ∃ x, x = s := ⟨s, rfl⟩
  obtain ⟨F, W⟩ := hR
  have F : Fr 26 [] [(0, v1), (1, v2), (4, .bool false), (5, .int .i64 x1)] a := F
  have W : Stw ⟨Y, [], w0⟩ [] [] w := W
  rw [Ii] at H
  refine Ah (Ah (Ac ?_))
  iterate 2 refine ls F W Aa (Ad F Aa).q fun a w F W => ?_
  refine ls F W Aa (B0 (r := (Rp.int .i64)) (l := p0) Hr Aa F Aa (Am h_v1)).q fun a w F W => ?_
  refine ls F W Aa (Bu F Aa Aa).q fun a w F W => ?_
  refine Ae (Ab ?_)
  refine AA F Aa (fun hb => ?_) fun hb => ?_
  ·
   have H := AS (BD hb) H
   rw [hb] at F
   clear hb
   refine Av (Ab (Ah (As (Ah ?_))))
   refine BV W MO (by kernel_rfl) ?_
   iterate 2 refine qs F Aa (Ad F Aa).q fun a F => ?_
   obtain ⟨x2, h1, H⟩ := Ak H
   refine qs F Aa (Ax (r := (Rp.int .i64)) GD F Aa Aa (Am h_v1) h1).q fun a F => ?_
   refine qs F Aa (Ao (y := Value.int .i64 x2) (j := 0) (i := x1) F Aa Aa (Am h_v1) h1 Fl.int.to T3 Aa).q fun a F => ?_
   iterate 2 refine qs F Aa (Ad F Aa).q fun a F => ?_
   obtain ⟨x3, h2, H⟩ := Ak H
   refine qs F Aa (Ax (r := (Rp.int .i64)) GD F Aa Aa (Am h_v2) h2).q fun a F => ?_
   refine qs F Aa (Ao (y := Value.int .i64 x3) (j := 0) (i := x1) F Aa Aa (Am h_v2) h2 Fl.int.to T3 Aa).q fun a F => ?_
   refine qs F Aa (HL F Aa Aa).q fun a F => ?_
   refine AY fun w W => ?_
   refine Ab ?_
   refine AA F Aa (fun hb => ?_) fun hb => ?_
   ·
    have H := AS (BD hb) H
    rw [hb] at F
    clear hb
    refine Ah (Ac ?_)
    refine ls F W Aa (Ag F Aa).q fun a w F W => ?_
    refine Ae (Ab (AF (AQ ?_)))
    iterate 2 refine AH ?_
    refine AQ (AH ?_)
    have H := L2 _ H
    have H := L1 _ H
    have H := AV H
    subst H
    refine BK (.inl Aa) F W Aa (Ay F Aa) ?_
    exact ⟨rfl, W.done⟩
   have H := AR (BB hb) H
   rw [hb] at F
   clear hb
   refine Av (AP (Ab (Ac ?_)))
   refine ls F W Aa (Ad F Aa).q fun a w F W => ?_
   refine ls F W Aa (BC F Aa Aa Aa).q fun a w F W => ?_
   refine ls F W Aa (Ag F Aa).q fun a w F W => ?_
   refine Ae (Ab ?_)
   exact ⟨_, H, F.re ⟨rfl, Aa, Aa, Aa, trivial⟩, W⟩
  have H := AR (BB hb) H
  rw [hb] at F
  clear hb
  refine A8 ?_
  iterate 2 refine Bq ?_
  refine A9 (Ab ?_)
  have H := L2 _ H
  exact ⟨H, F.re ⟨rfl, trivial⟩, W⟩
 rintro a w ⟨hj, F, W⟩
 have H := K1 _ hj
 clear hj G1 K1 L1
 refine Ah (Ac ?_)
 refine ls F W Aa (Ag F Aa).q fun a w F W => ?_
 refine Ae (Ab (AF ?_))
 have H := AV H
 subst H
 refine BK (.inl Aa) F W Aa (Ay F Aa) ?_
 exact ⟨rfl, W.done⟩
theorem TI : Has Try.prog 22 := ⟨fun args w => Al Try.func22 rfl (by decide) args w⟩
noncomputable def GY  : Option Bool := (E8 (3, ([(0, 0, 1, 0, 1, 1), (1, 1, 2, 0, 1, 1), (0, 1, 2, 1, 1, 1)] : List (Int × Int × Int × Int × Int × Int)), ([(2, 7)] : List (Int × Int))) ([([0] : List Int), ([1] : List Int), ([7] : List Int)] : List (List Int)) ([([1] : List Int), ([1] : List Int), ([7] : List Int)] : List (List Int))).bind fun x1 => (if x1.2 = 0 then (if (x1.1.length : Int) = 1 then (ix x1.1 0).bind fun x3 => (if x3.1 = 0 ∧ x3.2.1 = 0 ∧ x3.2.2.1 = 1 ∧ x3.2.2.2 = 1 then (GN x1.1).bind fun x4 => (Jg x4 ([1] : List Int)).bind fun x5 => some x5 else some false) else some false) else some false).bind fun x2 => some x2
theorem KQ (Y : Nat → Prop) (w0 : World)   (r : Bool) (H : GY  = some r)  :
    Calls Try.prog 9 #[] w0 fun e w' => e = .returned (.bool r) ∧ Below w0.heap.size w0 w' := by
 refine enter Try.func9 Aa Try.ntmps9 Aa fun a F => ?_
 have W := Stw.start Y w0
 unfold GY at H
 refine Ah (Ac ?_)
 refine ls F W Aa (Ag F Aa).q fun a w F W => ?_
 refine Ae (Ab (Ah (Ac ?_)))
 refine ls F W Aa (ET (v := Value.agg #[.int .i64 0, .int .i64 0, .int .i64 1, .int .i64 0, .int .i64 1, .int .i64 1]) SO F Aa Aa Aa).q fun a w F W => ?_
 refine ls F W Aa (ET (v := Value.agg #[.int .i64 1, .int .i64 1, .int .i64 2, .int .i64 0, .int .i64 1, .int .i64 1]) SO F Aa Aa Aa).q fun a w F W => ?_
 refine ls F W Aa (ET (v := Value.agg #[.int .i64 0, .int .i64 1, .int .i64 2, .int .i64 1, .int .i64 1, .int .i64 1]) SO F Aa Aa Aa).q fun a w F W => ?_
 refine Fm (z := Value.agg #[.int .i64 0, .int .i64 0, .int .i64 0, .int .i64 0, .int .i64 0, .int .i64 0]) (cs := [.int .i64 0, .int .i64 0, .int .i64 1, .int .i64 0, .int .i64 1, .int .i64 1, .int .i64 1, .int .i64 1, .int .i64 2, .int .i64 0, .int .i64 1, .int .i64 1, .int .i64 0, .int .i64 1, .int .i64 2, .int .i64 1, .int .i64 1, .int .i64 1]) Hu ([(0, 0, 1, 0, 1, 1), (1, 1, 2, 0, 1, 1), (0, 1, 2, 1, 1, 1)] : List (Int × Int × Int × Int × Int × Int)) F W Aa RF RW Aa Aa Aa Aa Aa Aa (RN.repL _ _ ([(0, 0, 1, 0, 1, 1), (1, 1, 2, 0, 1, 1), (0, 1, 2, 1, 1, 1)] : List (Int × Int × Int × Int × Int × Int))) fun v1 a w F W => ?_
 refine ls F W Aa (ET (v := Value.agg #[.int .i64 2, .int .i64 7]) Ta F Aa Aa Aa).q fun a w F W => ?_
 refine Fm (z := Value.agg #[.int .i64 0, .int .i64 0]) (cs := [.int .i64 2, .int .i64 7]) Gz ([(2, 7)] : List (Int × Int)) F W Aa Py Td Aa Aa Aa Aa Aa Aa (Pw.repL _ _ ([(2, 7)] : List (Int × Int))) fun v2 a w F W => ?_
 refine ls F W Aa (ET (v := Value.agg #[.int .i64 3, v1, v2]) TB F Aa (F1 Aa Aa Aa (F1 Aa (EC (W.one (k := 1) Aa)) Aa (F1 Aa (EC (W.one (k := 0) Aa)) Aa LF))) Aa).q fun a w F W => ?_
 refine DX (cs := [.int .i64 0, .slice none 0 0, .slice none 0 0]) F W Aa T9 Aa fun b1 a w F W => ?_
 refine DC (vs := [.int .i64 3, v1, v2]) (M' := [(b1, [.int .i64 3, v1, v2])]) 0 F W Aa Aa Aa JE Aa Aa Aa (Ma Aa (Ma (W.one (k := 1) Aa) (Ma (W.one (k := 0) Aa) QF))) Aa fun w W => ?_
 refine Ae (Ab (Ah (Ac ?_)))
 refine ls F W Aa (Aw (v := Value.agg #[.int .i64 3, v1, v2]) 0 F Aa Aa JE Aa).q fun a w F W => ?_
 refine Fm (z := Value.int .i64 0) (cs := [.int .i64 0]) (Rp.int .i64) ([0] : List Int) F W Aa GD Z3 Aa Aa Aa Aa Aa Aa (Fl.int.repL _ _ ([0] : List Int)) fun v3 a w F W => ?_
 refine Fm (z := Value.int .i64 0) (cs := [.int .i64 1]) (Rp.int .i64) ([1] : List Int) F W Aa GD Z3 Aa Aa Aa Aa Aa Aa (Fl.int.repL _ _ ([1] : List Int)) fun v4 a w F W => ?_
 refine Fm (z := Value.int .i64 0) (cs := [.int .i64 7]) (Rp.int .i64) ([7] : List Int) F W Aa GD Z3 Aa Aa Aa Aa Aa Aa (Fl.int.repL _ _ ([7] : List Int)) fun v5 a w F W => ?_
 have W := W.frontZ (i := 2) Aa Aa
 have W := W.freeze
 have W := W.frontZ (i := 2) Aa Aa
 have W := W.freeze
 have W := W.frontZ (i := 2) Aa Aa
 have W := W.freeze
 refine Fm (z := Value.slice none 0 0) (cs := [v3, v4, v5]) (Rp.slice (Rp.int .i64)) ([([0] : List Int), ([1] : List Int), ([7] : List Int)] : List (List Int)) F W Aa Lm Su Aa Aa Aa (F1 Aa (EC (W.oneF (k := 2) Aa)) Aa (F1 Aa (EC (W.oneF (k := 1) Aa)) Aa (F1 Aa (EC (W.oneF (k := 0) Aa)) Aa LF))) Aa Aa ⟨[v3], _, Aa, ⟨_, Aa, (W.item (i := 2) Aa)⟩, ⟨[v4], _, Aa, ⟨_, Aa, (W.item (i := 1) Aa)⟩, ⟨[v5], _, Aa, ⟨_, Aa, (W.item (i := 0) Aa)⟩, Aa⟩⟩⟩ fun v6 a w F W => ?_
 refine Fm (z := Value.int .i64 0) (cs := [.int .i64 1]) (Rp.int .i64) ([1] : List Int) F W Aa GD Z3 Aa Aa Aa Aa Aa Aa (Fl.int.repL _ _ ([1] : List Int)) fun v7 a w F W => ?_
 refine Fm (z := Value.int .i64 0) (cs := [.int .i64 1]) (Rp.int .i64) ([1] : List Int) F W Aa GD Z3 Aa Aa Aa Aa Aa Aa (Fl.int.repL _ _ ([1] : List Int)) fun v8 a w F W => ?_
 refine Fm (z := Value.int .i64 0) (cs := [.int .i64 7]) (Rp.int .i64) ([7] : List Int) F W Aa GD Z3 Aa Aa Aa Aa Aa Aa (Fl.int.repL _ _ ([7] : List Int)) fun v9 a w F W => ?_
 have W := W.frontZ (i := 2) Aa Aa
 have W := W.freeze
 have W := W.frontZ (i := 2) Aa Aa
 have W := W.freeze
 have W := W.frontZ (i := 2) Aa Aa
 have W := W.freeze
 refine Fm (z := Value.slice none 0 0) (cs := [v7, v8, v9]) (Rp.slice (Rp.int .i64)) ([([1] : List Int), ([1] : List Int), ([7] : List Int)] : List (List Int)) F W Aa Lm Su Aa Aa Aa (F1 Aa (EC (W.oneF (k := 2) Aa)) Aa (F1 Aa (EC (W.oneF (k := 1) Aa)) Aa (F1 Aa (EC (W.oneF (k := 0) Aa)) Aa LF))) Aa Aa ⟨[v7], _, Aa, ⟨_, Aa, (W.item (i := 2) Aa)⟩, ⟨[v8], _, Aa, ⟨_, Aa, (W.item (i := 1) Aa)⟩, ⟨[v9], _, Aa, ⟨_, Aa, (W.item (i := 0) Aa)⟩, Aa⟩⟩⟩ fun v10 a w F W => ?_
 obtain ⟨x1, h1, H⟩ := Ak H
 refine B7 (Ml := []) (Zl := []) (M := [(b1, [.int .i64 3, v1, v2])]) (Z := [row v10 28 (Rp.slice (Rp.int .i64)) ([([1] : List Int), ([1] : List Int), ([7] : List Int)] : List (List Int)), IB v9 (Rp.int .i64) ([7] : List Int), IB v8 (Rp.int .i64) ([1] : List Int), IB v7 (Rp.int .i64) ([1] : List Int), row v6 28 (Rp.slice (Rp.int .i64)) ([([0] : List Int), ([1] : List Int), ([7] : List Int)] : List (List Int)), IB v5 (Rp.int .i64) ([7] : List Int), IB v4 (Rp.int .i64) ([1] : List Int), IB v3 (Rp.int .i64) ([0] : List Int), row v2 43 Gz ([(2, 7)] : List (Int × Int)), row v1 69 Hu ([(0, 0, 1, 0, 1, 1), (1, 1, 2, 0, 1, 1), (0, 1, 2, 1, 1, 1)] : List (Int × Int × Int × Int × Int × Int))]) (β := Value) (rv := fun x => .tuple #[x, .int .i64 x1.2]) (MM := fun x => []) (ZZ := fun x => [row x 62 Bj x1.1]) F W Ti Aa Aa (fun hL => JI _ w (v1) (v2) (v6) (v10) (3, ([(0, 0, 1, 0, 1, 1), (1, 1, 2, 0, 1, 1), (0, 1, 2, 1, 1, 1)] : List (Int × Int × Int × Int × Int × Int)), ([(2, 7)] : List (Int × Int))) ([([0] : List Int), ([1] : List Int), ([7] : List Int)] : List (List Int)) ([([1] : List Int), ([1] : List Int), ([7] : List Int)] : List (List Int)) _ h1 ((An 9 Aa) w W).nx ((An 8 Aa) w W).nx ((An 4 Aa) w W).nx ((An 0 Aa) w W).nx) fun x a w F W => ?_
 obtain ⟨v11, rfl⟩ : ∃ y, y = x := ⟨x, rfl⟩
 have W : Stw ⟨Y, [], w0⟩ [(b1, [.int .i64 3, v1, v2])] [row v11 62 Bj x1.1, row v10 28 (Rp.slice (Rp.int .i64)) ([([1] : List Int), ([1] : List Int), ([7] : List Int)] : List (List Int)), IB v9 (Rp.int .i64) ([7] : List Int), IB v8 (Rp.int .i64) ([1] : List Int), IB v7 (Rp.int .i64) ([1] : List Int), row v6 28 (Rp.slice (Rp.int .i64)) ([([0] : List Int), ([1] : List Int), ([7] : List Int)] : List (List Int)), IB v5 (Rp.int .i64) ([7] : List Int), IB v4 (Rp.int .i64) ([1] : List Int), IB v3 (Rp.int .i64) ([0] : List Int), row v2 43 Gz ([(2, 7)] : List (Int × Int)), row v1 69 Hu ([(0, 0, 1, 0, 1, 1), (1, 1, 2, 0, 1, 1), (0, 1, 2, 1, 1, 1)] : List (Int × Int × Int × Int × Int × Int))] w := W
 refine ls F W Aa (Ad F Aa).q fun a w F W => ?_
 refine ls F W Aa (Bi (v := v11) F Aa Aa).q fun a w F W => ?_
 refine ls F W Aa (Bi (v := Value.int .i64 x1.2) F Aa Aa).q fun a w F W => ?_
 iterate 2 refine ls F W Aa (Ag F Aa).q fun a w F W => ?_
 refine Ae (Ab ?_)
 obtain ⟨o1, G1, K1⟩ := Ak H
 refine AM (fun a w => ∃ x2 : Bool, some (x2) = some o1 ∧ Fr 44 [] [(0, .bool x2)] a ∧ Stw ⟨Y, [], w0⟩ [(b1, [.int .i64 3, v1, v2])] [row v1 69 Hu ([(0, 0, 1, 0, 1, 1), (1, 1, 2, 0, 1, 1), (0, 1, 2, 1, 1, 1)] : List (Int × Int × Int × Int × Int × Int)), row v2 43 Gz ([(2, 7)] : List (Int × Int))] w) ?_ ?_
 ·
  have H := G1
  clear G1 K1
  refine Ac ?_
  refine ls F W Aa (Ad F Aa).q fun a w F W => ?_
  refine ls F W Aa (DP F Aa Aa).q fun a w F W => ?_
  refine ls F W Aa (Ad F Aa).q fun a w F W => ?_
  rcases Bool.eq_false_or_eq_true (decide (x1.2 = 0)) with hb | hb
  ·
   have H := AS (BD hb) H
   rw [hb] at F
   clear hb
   refine AJ F W (Af F Aa Aa Aa Aa) Aa (Ai Aa) (Ad F Aa).q fun a w F W => ?_
   refine AJ F W (Af F Aa Aa Aa Aa) Aa (Ai Aa) (B0 (r := Bj) (l := x1.1) Pa Aa F Aa (An 0 Aa)).q fun a w F W => ?_
   refine AJ F W (Af F Aa Aa Aa Aa) Aa (Ai Aa) (DP F Aa Aa).q fun a w F W => ?_
   refine ls F W Aa (Aq F Aa Aa Aa).q fun a w F W => ?_
   refine ls F W Aa (Ad F Aa).q fun a w F W => ?_
   rcases Bool.eq_false_or_eq_true (decide ((x1.1.length : Int) = 1)) with hb | hb
   ·
    have H := AS (BD hb) H
    rw [hb] at F
    clear hb
    refine AJ F W (Af F Aa Aa Aa Aa) Aa (Ai Aa) (Ad F Aa).q fun a w F W => ?_
    obtain ⟨x3, h2, H⟩ := Ak H
    refine AJ F W (Af F Aa Aa Aa Aa) Aa (Ai Aa) (Ax (r := Bj) Ew F Aa Aa (An 0 Aa) h2).q fun a w F W => ?_
    refine AJ F W (Af F Aa Aa Aa Aa) Aa (Ai Aa) (Ao (y := Value.agg #[.int .i64 x3.1, .int .i64 x3.2.1, .int .i64 x3.2.2.1, .int .i64 x3.2.2.2]) (j := 0) (i := 0) F Aa Aa (An 0 Aa) h2 Ez.to Eh Aa).q fun a w F W => ?_
    refine AJ F W (Af F Aa Aa Aa Aa) Aa (Ai Aa) (ET (v := Value.agg #[.int .i64 0, .int .i64 0, .int .i64 1, .int .i64 1]) S8 F Aa Aa Aa).q fun a w F W => ?_
    refine AJ F W (Af F Aa Aa Aa Aa) Aa (Ai Aa) (OX (t := decide (x3.1 = 0 ∧ x3.2.1 = 0 ∧ x3.2.2.1 = 1 ∧ x3.2.2.2 = 1)) TE (Ts _ _ _ _ _ _ _ _) F Aa Aa).q fun a w F W => ?_
    refine ls F W Aa (Aq F Aa Aa Aa).q fun a w F W => ?_
    refine ls F W Aa (Ad F Aa).q fun a w F W => ?_
    rcases Bool.eq_false_or_eq_true (decide (x3.1 = 0 ∧ x3.2.1 = 0 ∧ x3.2.2.1 = 1 ∧ x3.2.2.2 = 1)) with hb | hb
    ·
     have H := AS (BD hb) H
     rw [hb] at F
     clear hb
     refine AJ F W (Af F Aa Aa Aa Aa) Aa (Ai Aa) (Ad F Aa).q fun a w F W => ?_
     refine Kr (Af F Aa Aa Aa Aa) ?_
     obtain ⟨x4, h3, H⟩ := Ak H
     refine B7 (Ml := []) (Zl := []) (M := [(b1, [.int .i64 3, v1, v2])]) (Z := [row v11 62 Bj x1.1, row v10 28 (Rp.slice (Rp.int .i64)) ([([1] : List Int), ([1] : List Int), ([7] : List Int)] : List (List Int)), IB v9 (Rp.int .i64) ([7] : List Int), IB v8 (Rp.int .i64) ([1] : List Int), IB v7 (Rp.int .i64) ([1] : List Int), row v6 28 (Rp.slice (Rp.int .i64)) ([([0] : List Int), ([1] : List Int), ([7] : List Int)] : List (List Int)), IB v5 (Rp.int .i64) ([7] : List Int), IB v4 (Rp.int .i64) ([1] : List Int), IB v3 (Rp.int .i64) ([0] : List Int), row v2 43 Gz ([(2, 7)] : List (Int × Int)), row v1 69 Hu ([(0, 0, 1, 0, 1, 1), (1, 1, 2, 0, 1, 1), (0, 1, 2, 1, 1, 1)] : List (Int × Int × Int × Int × Int × Int))]) (β := Value) (rv := fun x => x) (MM := fun x => []) (ZZ := fun x => [row x 3 (Rp.int .i64) x4]) F W Ue Aa Aa (fun hL => Ly _ w (v11) x1.1 _ h3 ((An 0 Aa) w W).nx) fun x a w F W => ?_
     obtain ⟨v12, rfl⟩ : ∃ y, y = x := ⟨x, rfl⟩
     have W : Stw ⟨Y, [], w0⟩ [(b1, [.int .i64 3, v1, v2])] [row v12 3 (Rp.int .i64) x4, row v11 62 Bj x1.1, row v10 28 (Rp.slice (Rp.int .i64)) ([([1] : List Int), ([1] : List Int), ([7] : List Int)] : List (List Int)), IB v9 (Rp.int .i64) ([7] : List Int), IB v8 (Rp.int .i64) ([1] : List Int), IB v7 (Rp.int .i64) ([1] : List Int), row v6 28 (Rp.slice (Rp.int .i64)) ([([0] : List Int), ([1] : List Int), ([7] : List Int)] : List (List Int)), IB v5 (Rp.int .i64) ([7] : List Int), IB v4 (Rp.int .i64) ([1] : List Int), IB v3 (Rp.int .i64) ([0] : List Int), row v2 43 Gz ([(2, 7)] : List (Int × Int)), row v1 69 Hu ([(0, 0, 1, 0, 1, 1), (1, 1, 2, 0, 1, 1), (0, 1, 2, 1, 1, 1)] : List (Int × Int × Int × Int × Int × Int))] w := W
     refine Kr (Af F Aa Aa Aa Aa) ?_
     refine Fm (z := Value.int .i64 0) (cs := [.int .i64 1]) (Rp.int .i64) ([1] : List Int) F W Aa GD Z3 Aa Aa Aa Aa Aa Aa (Fl.int.repL _ _ ([1] : List Int)) fun v13 a w F W => ?_
     refine Kr (Af F Aa Aa Aa Aa) ?_
     obtain ⟨x5, h4, H⟩ := Ak H
     refine ls F W Aa (BX (v := Value.bool x5) F TI Aa (fun w W => Oj any w (v12) (v13) x4 ([1] : List Int) _ h4 (((An 1 Aa) : D4 _ _ _ _ _ _) w W).nx (((An 0 Aa) : D4 _ _ _ _ _ _) w W).nx)) fun a w F W => ?_
     refine ls F W Aa (Aq F Aa Aa Aa).q fun a w F W => ?_
     refine ls F W Aa (Ag F Aa).q fun a w F W => ?_
     refine Ae (Ab ?_)
     have W := W.frontZ (i := 11) Aa Aa
     have W := W.frontZ (i := 12) Aa Aa
     have W := W.sub (M' := [(b1, [.int .i64 3, v1, v2])]) (Z' := [row v1 69 Hu ([(0, 0, 1, 0, 1, 1), (1, 1, 2, 0, 1, 1), (0, 1, 2, 1, 1, 1)] : List (Int × Int × Int × Int × Int × Int)), row v2 43 Gz ([(2, 7)] : List (Int × Int))]) (List.Sublist.refl _) (List.Sublist.cons_cons _ (List.Sublist.cons_cons _ (List.nil_sublist _)))
     exact ⟨_, H, F.re ⟨rfl, trivial⟩, W⟩
    have H := AR (BB hb) H
    rw [hb] at F
    clear hb
    iterate 4 refine Dd F Aa Aa Aa Aa Aa Aa Aa fun a F => ?_
    refine ls F W Aa (Az F Aa Aa Aa).q fun a w F W => ?_
    refine ls F W Aa (Ag F Aa).q fun a w F W => ?_
    refine Ae (Ab ?_)
    have W := W.frontZ (i := 9) Aa Aa
    have W := W.frontZ (i := 10) Aa Aa
    have W := W.sub (M' := [(b1, [.int .i64 3, v1, v2])]) (Z' := [row v1 69 Hu ([(0, 0, 1, 0, 1, 1), (1, 1, 2, 0, 1, 1), (0, 1, 2, 1, 1, 1)] : List (Int × Int × Int × Int × Int × Int)), row v2 43 Gz ([(2, 7)] : List (Int × Int))]) (List.Sublist.refl _) (List.Sublist.cons_cons _ (List.Sublist.cons_cons _ (List.nil_sublist _)))
    exact ⟨_, H, F.re ⟨rfl, trivial⟩, W⟩
   have H := AR (BB hb) H
   rw [hb] at F
   clear hb
   iterate 5 refine Dd F Aa Aa Aa Aa Aa Aa Aa fun a F => ?_
   refine ls F W Aa (Az F Aa Aa Aa).q fun a w F W => ?_
   refine ls F W Aa (Ad F Aa).q fun a w F W => ?_
   iterate 4 refine Dd F Aa Aa Aa Aa Aa Aa Aa fun a F => ?_
   refine ls F W Aa (Az F Aa Aa Aa).q fun a w F W => ?_
   refine ls F W Aa (Ag F Aa).q fun a w F W => ?_
   refine Ae (Ab ?_)
   have W := W.frontZ (i := 9) Aa Aa
   have W := W.frontZ (i := 10) Aa Aa
   have W := W.sub (M' := [(b1, [.int .i64 3, v1, v2])]) (Z' := [row v1 69 Hu ([(0, 0, 1, 0, 1, 1), (1, 1, 2, 0, 1, 1), (0, 1, 2, 1, 1, 1)] : List (Int × Int × Int × Int × Int × Int)), row v2 43 Gz ([(2, 7)] : List (Int × Int))]) (List.Sublist.refl _) (List.Sublist.cons_cons _ (List.Sublist.cons_cons _ (List.nil_sublist _)))
   exact ⟨_, H, F.re ⟨rfl, trivial⟩, W⟩
  have H := AR (BB hb) H
  rw [hb] at F
  clear hb
  iterate 3 refine Dd F Aa Aa Aa Aa Aa Aa Aa fun a F => ?_
  refine ls F W Aa (Az F Aa Aa Aa).q fun a w F W => ?_
  refine ls F W Aa (Ad F Aa).q fun a w F W => ?_
  iterate 5 refine Dd F Aa Aa Aa Aa Aa Aa Aa fun a F => ?_
  refine ls F W Aa (Az F Aa Aa Aa).q fun a w F W => ?_
  refine ls F W Aa (Ad F Aa).q fun a w F W => ?_
  iterate 4 refine Dd F Aa Aa Aa Aa Aa Aa Aa fun a F => ?_
  refine ls F W Aa (Az F Aa Aa Aa).q fun a w F W => ?_
  refine ls F W Aa (Ag F Aa).q fun a w F W => ?_
  refine Ae (Ab ?_)
  have W := W.frontZ (i := 9) Aa Aa
  have W := W.frontZ (i := 10) Aa Aa
  have W := W.sub (M' := [(b1, [.int .i64 3, v1, v2])]) (Z' := [row v1 69 Hu ([(0, 0, 1, 0, 1, 1), (1, 1, 2, 0, 1, 1), (0, 1, 2, 1, 1, 1)] : List (Int × Int × Int × Int × Int × Int)), row v2 43 Gz ([(2, 7)] : List (Int × Int))]) (List.Sublist.refl _) (List.Sublist.cons_cons _ (List.Sublist.cons_cons _ (List.nil_sublist _)))
  exact ⟨_, H, F.re ⟨rfl, trivial⟩, W⟩
 rintro a w ⟨x2, hj, F, W⟩
 have hj := AV hj
 subst hj
 have H := K1
 clear G1 K1
 refine AF ?_
 have H := AV H
 subst H
 refine BK (.inl Aa) F W Aa (Ay F Aa) ?_
 exact ⟨rfl, W.done⟩
theorem H9 : Has Try.prog 9 := ⟨fun args w => Al Try.func9 rfl (by decide) args w⟩
abbrev Ca : Dp (Value × Nat × List Int) := (Dp.sl 3 (Rp.int .i64))
abbrev CO (p : Value × Nat × List Int) : Nat × List Int := p.2
abbrev PY : (Nat × List Int) → Option (List Int) := Sx
theorem R2 : Rst Ca (Rp.slice (Rp.int .i64)) CO PY := Rst.sl
noncomputable def DT (p0 : List Int) : Option (List Int) := (Ld ([] : List Int) p0).bind fun x1 => some x1
theorem I7 (Y : Nat → Prop) (w0 : World) (v1 : Value) (p0 : List Int) (r : List Int) (H : DT p0 = some r) (h_v1 : Sl w0 (NX []) (Rp.int .i64) v1 p0) :
    Calls Try.prog 51 #[v1] w0 fun e w' => ∃ x : Value, e = .returned (x) ∧ Stw ⟨Y, [], w0⟩ [] [row (x) 3 (Rp.int .i64) r] w' := by
 refine enter Try.func51 Aa Try.ntmps51 Aa fun a F => ?_
 have W := Stw.start Y w0
 unfold DT at H
 refine Ah (Ac ?_)
 refine ls F W Aa (Ag F Aa).q fun a w F W => ?_
 refine Ae (Ab (Ah (Ah (Ac ?_))))
 refine ls F W Aa (Ad F Aa).q fun a w F W => ?_
 refine ls F W Aa (Pq (r := (Rp.int .i64)) Hr F Aa (Am h_v1)).q fun a w F W => ?_
 refine Ae (Ab ?_)
 rcases Pk (Am h_v1) W with ⟨hb, hl⟩ | hb
 ·
  rw [hl] at H
  change some ([] : List Int) = _ at H
  rw [hb] at F
  refine Qj F Aa ?_
  refine Ah (Ac ?_)
  refine ls F W Aa (Ag F Aa).q fun a w F W => ?_
  refine Ae (Ab (AF (AH ?_)))
  have H := AV H
  subst H
  refine BK (.inl Aa) F W Aa (Ay F Aa) ?_
  have W := W.nilRow 3 (Rp.int .i64)
  exact ⟨(Value.slice none 0 0), Aa, W⟩
 rw [hb] at F
 refine Nw F Aa ?_
 refine Av (Ab (Ah (Ac ?_)))
 refine Fm (z := Value.int .i64 0) (cs := []) (Rp.int .i64) ([] : List Int) F W Aa GD Z3 Aa Aa Aa Aa Aa Aa (Fl.int.repL _ _ ([] : List Int)) fun v2 a w F W => ?_
 refine ls F W Aa (Ad F Aa).q fun a w F W => ?_
 obtain ⟨x1, h1, H⟩ := Ak H
 refine Fj (r := (Rp.int .i64)) (i := 0) F W Aa GD Aa Aa Aa Aa (Ps Fl.int (Am h_v1) W) h1 Aa fun v3 a w F W => ?_
 have W : Stw ⟨Y, [], w0⟩ [] [row v3 3 (Rp.int .i64) x1] w := W
 refine ls F W Aa (Ag F Aa).q fun a w F W => ?_
 refine Ae (Ab (AF ?_))
 have H := AV H
 subst H
 refine BK (.inl Aa) F W Aa (Ay F Aa) ?_
 exact ⟨(v3), Aa, W⟩
theorem TH : Has Try.prog 51 := ⟨fun args w => Al Try.func51 rfl (by decide) args w⟩
noncomputable def D0 (p0 : List (List Int)) (x1 : List (Nat × List Int)) : ((List (Nat × List Int)) × Int) → Option (((List (Nat × List Int)) × Int) ⊕ (List (Nat × List Int)))
  | (x3, x4) => (if x4 < ((Mc x1 0 (min p0.length x1.length) (p0.map fun q => (1, q))).length : Int) then (ix x3 x4).bind fun x5 => (DT x5.2).bind fun x6 => (Nx x5.1).bind fun x7 => (ix x3 x4).bind fun x8 => (ix x3 x4).bind fun x9 => some (.inl ((Ap x3 x4 (2, x6)), AB (x4 + 1))) else some (.inr x3))
noncomputable def GG (p0 : List (List Int)) : Option (List (Nat × List Int)) := (mk (p0.length : Int) ((2, []) : Nat × List Int)).bind fun x1 => (AG (D0 p0 x1) ((Mc x1 0 (min p0.length x1.length) (p0.map fun q => (1, q))), 0)).bind fun x2 => some x2
theorem LR (Y : Nat → Prop) (w0 : World) (v1 : Value) (p0 : List (List Int)) (r : (List (Nat × List Int))) (H : GG p0 = some r) (s_v1 : Sl w0 Y (Rp.slice (Rp.int .i64)) v1 p0) :
    Calls Try.prog 31 #[v1] w0 fun e w' => ∃ x : Value × ({x : List (Value × Nat × List Int) // x.map CO = r}), e = .returned (x.1) ∧ Stw ⟨Y, [], w0⟩ [] [B9 (x.1) 28 Ca (x.2.1)] w' := by
 refine enter Try.func31 Aa Try.ntmps31 Aa fun a F => ?_
 have W := Stw.start Y w0
 obtain ⟨v2, h1, s_v1⟩ := s_v1.ex Do
 have h_v1 := W.nx s_v1
 unfold GG at H
 refine Ah (Ac ?_)
 refine ls F W Aa (Ag F Aa).q fun a w F W => ?_
 refine Ae (Ab (Ah (Ac ?_)))
 refine ls F W Aa (Ad F Aa).q fun a w F W => ?_
 refine ls F W Aa (B0 (r := (Rp.slice (Rp.int .i64))) (l := p0) Ju Aa F Aa (B8 Do h1 (Am h_v1))).q fun a w F W => ?_
 obtain ⟨x1, h2, H⟩ := Ak H
 have h3 := Rl (er := CO) (z := (Value.slice none 0 0, 2, [])) h2
 refine Qa (r := Ca.hr) (Value.slice none 0 0, 2, []) F W Aa Lm Su Aa Aa (fun w A => ⟨rfl, Aa⟩) h3.1 Aa fun v3 a w F W => ?_
 have W := Stw.dNew (D := Ca) Nl.sl W
 have h4 : List.map CO (List.replicate ((p0.length : Int)).toNat ((Value.slice none 0 0, 2, []) : Value × Nat × List Int)) = x1 := h3.2
 have W : Stw ⟨Y, [], w0⟩ [] [B9 v3 28 Ca (List.replicate ((p0.length : Int)).toNat ((Value.slice none 0 0, 2, []) : Value × Nat × List Int))] w := W
 refine ls F W Aa (Ag F Aa).q fun a w F W => ?_
 refine Ae (Ab (Ah (Ac ?_)))
 iterate 2 refine ls F W Aa (Ad F Aa).q fun a w F W => ?_
 have h5 := RB (lx := (List.replicate ((p0.length : Int)).toNat ((Value.slice none 0 0, 2, []) : Value × Nat × List Int))) (ly := v2) h4 h1
 have h6 : min v2.length (List.replicate ((p0.length : Int)).toNat ((Value.slice none 0 0, 2, []) : Value × Nat × List Int)).length = min p0.length x1.length := by rw [← h4, ← h1, List.length_map, List.length_map]
 refine P5 (r := (Rp.int .i64)) F W Aa Lm Aa Aa (W.old s_v1) fun a w F W => ?_
 rw [h6] at F W h5
 have W : Stw ⟨Y, [], w0⟩ [] [B9 v3 28 Ca (Mc (List.replicate ((p0.length : Int)).toNat ((Value.slice none 0 0, 2, []) : Value × Nat × List Int)) 0 (min p0.length x1.length) (v2.map fun p => ((p.1, 1, p.2) : De Int)))] w := W
 refine Ae (Ab ?_)
 obtain ⟨o1, G1, K1⟩ := Ak H
 refine AM (fun a w => ∃ x2 : List (Nat × List Int), ∃ g_x2 : {x : List (Value × Nat × List Int) // x.map CO = x2}, some (x2) = some o1 ∧ Fr 26 [] [(2, .slice none 0 0), (3, v3)] a ∧ Stw ⟨Y, [], w0⟩ [] [B9 v3 28 Ca g_x2.1] w) ?_ ?_
 ·
  have H := G1
  clear G1 K1
  refine Ah (Ac ?_)
  refine ls F W Aa (Ad F Aa).q fun a w F W => ?_
  refine ls F W Aa (MH (er := CO) h5 Ju Aa F Aa (JL.hd (DM 0 Aa))).q fun a w F W => ?_
  refine ls F W Aa (Ad F Aa).q fun a w F W => ?_
  refine Ae (Ab (As ?_))
  refine Bb H (fun s a w => ∃ g_x3 : {x : List (Value × Nat × List Int) // x.map CO = s.1}, Fr 26 [] [(2, .slice none 0 0), (3, v3), (12, v3), (13, .int .i64 ((Mc x1 0 (min p0.length x1.length) (p0.map fun q => (1, q))).length : Int)), (14, .int .i64 s.2)] a ∧ Stw ⟨Y, [], w0⟩ [] [B9 v3 28 Ca g_x3.1] w) ⟨⟨(Mc (List.replicate ((p0.length : Int)).toNat ((Value.slice none 0 0, 2, []) : Value × Nat × List Int)) 0 (min p0.length x1.length) (v2.map fun p => ((p.1, 1, p.2) : De Int))), h5⟩, F.re ⟨rfl, Aa, Aa, Aa, Aa, trivial⟩, W⟩ fun s o a w H L2 hR => ?_
  obtain ⟨x3, x4⟩ := s
  obtain ⟨g_x3, F, W⟩ := hR
  have F : Fr 26 [] [(2, .slice none 0 0), (3, v3), (12, v3), (13, .int .i64 ((Mc x1 0 (min p0.length x1.length) (p0.map fun q => (1, q))).length : Int)), (14, .int .i64 x4)] a := F
  have W : Stw ⟨Y, [], w0⟩ [] [B9 v3 28 Ca g_x3.1] w := W
  rw [D0] at H
  refine Ah (Ac ?_)
  refine ls F W Aa (Bu F Aa Aa).q fun a w F W => ?_
  refine Ae (Ab (Ah ?_))
  refine AA F Aa (fun hb => ?_) fun hb => ?_
  ·
   have H := AS (BD hb) H
   rw [hb] at F
   clear hb
   refine Av (Ab (Ah (As (Ah (Ac ?_)))))
   refine ls F W Aa (Ad F Aa).q fun a w F W => ?_
   obtain ⟨x5, h7, H⟩ := Ak H
   obtain ⟨v4, h8, h9⟩ := DQ (er := CO) g_x3.2 h7
   refine ls F W Aa (Ax (r := Ca.hr) Lm F Aa Aa (JL.hd (DM 0 Aa)) h8).q fun a w F W => ?_
   have h10 : Ca.cells v4 = [(v4.1)] := congrArg (fun q : Nat × List Int => ([(v4.1)] : List Value)) h9
   refine ls F W Aa (Ao (y := (v4.1)) (j := 0) (i := x4) (enc := Ca.cells) F Aa Aa (JL.hd (DM 0 Aa)) h8 Ca.flat JO (by rw [h10]; rfl)).q fun a w F W => ?_
   iterate 2 refine ls F W Aa (Ag F Aa).q fun a w F W => ?_
   refine Ae (Ab (Ac ?_))
   iterate 3 refine ls F W Aa (Ad F Aa).q fun a w F W => ?_
   obtain ⟨x6, h11, H⟩ := Ak H
   obtain ⟨x7, h12, H⟩ := Ak H
   refine B7 (Ml := []) (Zl := []) (M := []) (Z := [B9 v3 28 Ca g_x3.1]) (β := Value) (rv := fun x => x) (MM := fun x => []) (ZZ := fun x => [row x 3 (Rp.int .i64) x6]) F W TH Aa Aa (fun hL => I7 _ w ((v4.1)) x5.2 _ h11 ((JL.sl (k := x5.1) (l := x5.2) (DM 0 Aa) h8 Foc.here (congrArg (fun q : Nat × List Int => q) h9) (MU h12)) w W).nx) fun x a w F W => ?_
   obtain ⟨v5, rfl⟩ : ∃ y, y = x := ⟨x, rfl⟩
   have W : Stw ⟨Y, [], w0⟩ [] [row v5 3 (Rp.int .i64) x6, B9 v3 28 Ca g_x3.1] w := W
   obtain ⟨x8, h13, H⟩ := Ak H
   obtain ⟨v6, h14, h15⟩ := DQ (er := CO) g_x3.2 h13
   refine ls F W Aa (Ax (r := Ca.hr) Lm F Aa Aa (JL.hd (DM 1 Aa)) h14).q fun a w F W => ?_
   obtain ⟨x9, h16, H⟩ := Ak H
   obtain ⟨v7, h17, h18⟩ := DQ (er := CO) g_x3.2 h16
   have h19 : Value.oneCell' v5 = true := (W.one (k := 0) Aa)
   have W := W.frontZ (i := 1) Aa Aa
   have W := W.frontZ (i := 1) Aa Aa
   have W := W.toR
   refine I8 (D := Ca) (S := (Dp.sl 3 (Rp.int .i64))) (b := (v5, 2, x6)) (i := x4) (j := 0) Foc.here F W Aa Aa Aa h17 JO (EC h19) Aa h19 Aa fun w W => ?_
   have h20 : List.map CO (Ap g_x3.1 x4 (v5, 2, x6)) = (Ap x3 x4 (2, x6)) := (IX g_x3.2 (congrArg (fun q : Nat × List Int => (2, x6)) h18))
   have W : Stw ⟨Y, [], w0⟩ [] [B9 v3 28 Ca (Ap g_x3.1 x4 (v5, 2, x6))] w := W
   refine Ae (AP (Ab (Ac ?_)))
   refine ls F W Aa (BC F Aa Aa Aa).q fun a w F W => ?_
   refine ls F W Aa (Ad F Aa).q fun a w F W => ?_
   refine Ae (Ab ?_)
   exact ⟨_, H, ⟨(Ap g_x3.1 x4 (v5, 2, x6)), h20⟩, F.re ⟨rfl, Aa, Aa, Aa, Aa, trivial⟩, W⟩
  have H := AR (BB hb) H
  rw [hb] at F
  clear hb
  refine A8 ?_
  iterate 2 refine Bq ?_
  refine A9 (Ab ?_)
  have H := L2 _ H
  exact ⟨_, ⟨g_x3.1, g_x3.2⟩, H, F.re ⟨rfl, Aa, trivial⟩, W⟩
 rintro a w ⟨x2, g_x2, hj, F, W⟩
 have hj := AV hj
 subst hj
 have H := K1
 clear G1 K1
 refine Ah (Ac ?_)
 refine ls F W Aa (Ad F Aa).q fun a w F W => ?_
 refine ls F W Aa (Ag F Aa).q fun a w F W => ?_
 refine Ae (Ab (AF ?_))
 have H := AV H
 subst H
 refine BK (.inl Aa) F W Aa (Ay F Aa) ?_
 exact ⟨((v3), ⟨g_x2.1, g_x2.2⟩), Aa, W⟩
theorem Uj : Has Try.prog 31 := ⟨fun args w => Al Try.func31 rfl (by decide) args w⟩
noncomputable def Dr (p0 : List Int) (p1 : Int) : Int → Option (Int ⊕ (Unit ⊕ Int))
  | x1 => (if x1 < (p0.length : Int) then (ix p0 x1).bind fun x2 => (if p1 = x2 then some (.inr (.inr x1)) else some (.inl (AB (x1 + 1)))) else some (.inr (.inl ())))
noncomputable def EG (p0 : List Int) (p1 : Int) : Option Int := FB (AG (Dr p0 p1) 0) fun _ => some (-1)
theorem IZ (Y : Nat → Prop) (w0 : World) (v1 : Value) (p0 : List Int) (p1 : Int) (r : Int) (H : EG p0 p1 = some r) (h_v1 : Sl w0 (NX []) (Rp.int .i64) v1 p0) :
    Calls Try.prog 52 #[v1, .int .i64 p1] w0 fun e w' => e = .returned (.int .i64 r) ∧ Below w0.heap.size w0 w' := by
 refine enter Try.func52 Aa Try.ntmps52 Aa fun a F => ?_
 have W := Stw.start Y w0
 unfold EG at H
 refine Ah (Ac ?_)
 refine ls F W Aa (Ag F Aa).q fun a w F W => ?_
 refine Ae (Ab ?_)
 obtain ⟨o1, G1, K1, L1⟩ := Jx H
 refine AM (fun a w => some (Sum.inl ()) = some o1 ∧ Fr 19 [] [(4, .int .i64 0)] a ∧ Stw ⟨Y, [], w0⟩ [] [] w) ?_ ?_
 ·
  have H := G1
  clear G1 K1
  refine Ah (Ac ?_)
  refine ls F W Aa (Ad F Aa).q fun a w F W => ?_
  refine ls F W Aa (B0 (r := (Rp.int .i64)) (l := p0) Hr Aa F Aa (Am h_v1)).q fun a w F W => ?_
  refine ls F W Aa (Ad F Aa).q fun a w F W => ?_
  refine Ae (Ab (As ?_))
  refine Bb H (fun s a w => Fr 19 [] [(0, v1), (1, .int .i64 p1), (4, .int .i64 0), (7, .int .i64 (p0.length : Int)), (8, .int .i64 s)] a ∧ Stw ⟨Y, [], w0⟩ [] [] w) ⟨F.re ⟨rfl, Aa, Aa, Aa, Aa, trivial⟩, W⟩ fun s o a w H L2 hR => ?_
  obtain ⟨x1, rfl⟩ : ∃ x, x = s := ⟨s, rfl⟩
  obtain ⟨F, W⟩ := hR
  have F : Fr 19 [] [(0, v1), (1, .int .i64 p1), (4, .int .i64 0), (7, .int .i64 (p0.length : Int)), (8, .int .i64 x1)] a := F
  have W : Stw ⟨Y, [], w0⟩ [] [] w := W
  rw [Dr] at H
  refine Ah (Ac ?_)
  refine ls F W Aa (Bu F Aa Aa).q fun a w F W => ?_
  refine Ae (Ab (Ah ?_))
  refine AA F Aa (fun hb => ?_) fun hb => ?_
  ·
   have H := AS (BD hb) H
   rw [hb] at F
   clear hb
   refine Av (Ab (Ah (As (Ah (Ac ?_)))))
   refine ls F W Aa (Ad F Aa).q fun a w F W => ?_
   refine ls F W Aa (Ag F Aa).q fun a w F W => ?_
   refine Ae (Ab (Ah (Ac ?_)))
   iterate 3 refine ls F W Aa (Ad F Aa).q fun a w F W => ?_
   obtain ⟨x2, h1, H⟩ := Ak H
   refine ls F W Aa (Ax (r := (Rp.int .i64)) GD F Aa Aa (Am h_v1) h1).q fun a w F W => ?_
   refine ls F W Aa (Ao (y := Value.int .i64 x2) (j := 0) (i := x1) F Aa Aa (Am h_v1) h1 Fl.int.to T3 Aa).q fun a w F W => ?_
   refine ls F W Aa (DP F Aa Aa).q fun a w F W => ?_
   refine Ae (Ab ?_)
   refine AA F Aa (fun hb => ?_) fun hb => ?_
   ·
    have H := AS (BD hb) H
    rw [hb] at F
    clear hb
    refine Ah (Ac ?_)
    refine ls F W Aa (Ad F Aa).q fun a w F W => ?_
    refine ls F W Aa (Ag F Aa).q fun a w F W => ?_
    refine Ae (Ab (AF (AQ ?_)))
    iterate 2 refine AH ?_
    refine AQ (AH ?_)
    have H := L2 _ H
    have H := L1 _ H
    have H := AV H
    subst H
    refine BK (.inl Aa) F W Aa (Ay F Aa) ?_
    exact ⟨rfl, W.done⟩
   have H := AR (BB hb) H
   rw [hb] at F
   clear hb
   refine Av (AP (Ab (Ac ?_)))
   refine ls F W Aa (BC F Aa Aa Aa).q fun a w F W => ?_
   refine ls F W Aa (Ad F Aa).q fun a w F W => ?_
   refine Ae (Ab ?_)
   exact ⟨_, H, F.re ⟨rfl, Aa, Aa, Aa, Aa, trivial⟩, W⟩
  have H := AR (BB hb) H
  rw [hb] at F
  clear hb
  refine A8 ?_
  iterate 2 refine Bq ?_
  refine A9 (Ab ?_)
  have H := L2 _ H
  exact ⟨H, F.re ⟨rfl, trivial⟩, W⟩
 rintro a w ⟨hj, F, W⟩
 have H := K1 _ hj
 clear hj G1 K1 L1
 refine Ah (Ac ?_)
 refine ls F W Aa (Ag F Aa).q fun a w F W => ?_
 refine Ae (Ab (AF ?_))
 have H := AV H
 subst H
 refine BK (.inl Aa) F W Aa (Ay F Aa) ?_
 exact ⟨rfl, W.done⟩
theorem Tz : Has Try.prog 52 := ⟨fun args w => Al Try.func52 rfl (by decide) args w⟩
noncomputable def CZ (p0 : List Int) (p1 : Int) : Option Bool := (EG p0 p1).bind fun x1 => some (decide (0 ≤ x1))
theorem H5 (Y : Nat → Prop) (w0 : World) (v1 : Value) (p0 : List Int) (p1 : Int) (r : Bool) (H : CZ p0 p1 = some r) (h_v1 : Sl w0 (NX []) (Rp.int .i64) v1 p0) :
    Calls Try.prog 32 #[v1, .int .i64 p1] w0 fun e w' => e = .returned (.bool r) ∧ Below w0.heap.size w0 w' := by
 refine enter Try.func32 Aa Try.ntmps32 Aa fun a F => ?_
 have W := Stw.start Y w0
 unfold CZ at H
 refine Ah (Ac ?_)
 refine ls F W Aa (Ag F Aa).q fun a w F W => ?_
 refine Ae (Ab (Ah (Ac ?_)))
 iterate 2 refine ls F W Aa (Ad F Aa).q fun a w F W => ?_
 obtain ⟨x1, h1, H⟩ := Ak H
 refine ls F W Aa (BX (v := Value.int .i64 x1) F Tz Aa (fun w W => IZ any w (v1) p0 p1 _ h1 (((Am h_v1) : D4 _ _ _ _ _ _) w W).nx)) fun a w F W => ?_
 refine ls F W Aa (DH F Aa Aa).q fun a w F W => ?_
 refine ls F W Aa (Ag F Aa).q fun a w F W => ?_
 refine Ae (Ab (AF ?_))
 have H := AV H
 subst H
 refine BK (.inl Aa) F W Aa (Ay F Aa) ?_
 exact ⟨rfl, W.done⟩
theorem T2 : Has Try.prog 32 := ⟨fun args w => Al Try.func32 rfl (by decide) args w⟩
noncomputable def IG (p0 : List (Nat × List Int)) (p1 : Int × Int × Int × Int) : Option (List (Nat × List Int)) := (if 0 ≤ p1.1 then (if p1.1 < (p0.length : Int) then (if 0 ≤ p1.2.1 then (ix p0 p1.1).bind fun x2 => (Nx x2.1).bind fun x3 => some (decide (p1.2.1 < (x2.2.length : Int))) else some false) else some false) else some false).bind fun x1 => (if x1 = true then (ix p0 p1.1).bind fun x4 => (ix x4.2 p1.2.1).bind fun x5 => (Nx x4.1).bind fun x6 => (LL x4.1).bind fun x7 => some (Ap p0 p1.1 (2, (Ap x4.2 p1.2.1 p1.2.2.1))) else some p0)
theorem Nu (Y : Nat → Prop) (X : List Nat) (w0 : World) (v1 : Value) (p0 : List (Nat × List Int)) (p1 : Int × Int × Int × Int) (d_v1 : {x : List (Value × Nat × List Int) // x.map CO = p0}) (r : (List (Nat × List Int))) (H : IG p0 p1 = some r) (hL : Stw ⟨Y, X, w0⟩ [] [B9 v1 28 Ca d_v1.1] w0) :
    Calls Try.prog 33 #[v1, .agg #[.int .i64 p1.1, .int .i64 p1.2.1, .int .i64 p1.2.2.1, .int .i64 p1.2.2.2]] w0 fun e w' => ∃ x : ({x : List (Value × Nat × List Int) // x.map CO = r}), e = .returned (.tuple #[]) ∧ Stw ⟨Y, X, w0⟩ [] [B9 v1 28 Ca (x.1)] w' := by
 refine enter Try.func33 Aa Try.ntmps33 Aa fun a F => ?_
 have W := hL
 unfold IG at H
 refine Ah (Ac ?_)
 refine E5 (cs := [.int .i64 p1.1, .int .i64 p1.2.1, .int .i64 p1.2.2.1, .int .i64 p1.2.2.2]) F W Aa Aa Aa fun b1 a w F W => ?_
 refine Ae (Ab ?_)
 obtain ⟨o1, G1, K1⟩ := Ak H
 refine AM (fun a w => ∃ x1 : Bool, some (x1) = some o1 ∧ Fr 40 [] [(0, v1), (3, .pointer (some ⟨b1, 0, none⟩)), (29, .bool x1)] a ∧ Stw ⟨Y, X, w0⟩ [(b1, [.int .i64 p1.1, .int .i64 p1.2.1, .int .i64 p1.2.2.1, .int .i64 p1.2.2.2])] [B9 v1 28 Ca d_v1.1] w) ?_ ?_
 ·
  have H := G1
  clear G1 K1
  refine BV W MO (by kernel_rfl) ?_
  refine qs F Aa (Aj G0 Aa Aa Aa T3 F Aa 0 Aa).q fun a F => ?_
  refine qs F Aa (Aw (v := Value.int .i64 p1.1) 0 F Aa Aa T3 Aa).q fun a F => ?_
  refine qs F Aa (DH F Aa Aa).q fun a F => ?_
  refine qs F Aa (Ad F Aa).q fun a F => ?_
  rcases Bool.eq_false_or_eq_true (decide (0 ≤ p1.1)) with hb | hb
  ·
   have H := AS (BD hb) H
   rw [hb] at F
   clear hb
   refine Bc F (Af F Aa Aa Aa Aa) Aa (Ai Aa) (Aj G0 Aa Aa Aa T3 F Aa 0 Aa).q fun a F => ?_
   refine Bc F (Af F Aa Aa Aa Aa) Aa (Ai Aa) (Aw (v := Value.int .i64 p1.1) 0 F Aa Aa T3 Aa).q fun a F => ?_
   refine Bc F (Af F Aa Aa Aa Aa) Aa (Ai Aa) (Ad F Aa).q fun a F => ?_
   refine Bc F (Af F Aa Aa Aa Aa) Aa (Ai Aa) (MH (er := CO) d_v1.2 Ju Aa F Aa (JL.hd (DM 0 Aa))).q fun a F => ?_
   refine Bc F (Af F Aa Aa Aa Aa) Aa (Ai Aa) (Bu F Aa Aa).q fun a F => ?_
   refine qs F Aa (Aq F Aa Aa Aa).q fun a F => ?_
   refine qs F Aa (Ad F Aa).q fun a F => ?_
   rcases Bool.eq_false_or_eq_true (decide (p1.1 < (p0.length : Int))) with hb | hb
   ·
    have H := AS (BD hb) H
    rw [hb] at F
    clear hb
    refine Bc F (Af F Aa Aa Aa Aa) Aa (Ai Aa) (Aj G0 Aa Aa Aa T3 F Aa 1 Aa).q fun a F => ?_
    refine Bc F (Af F Aa Aa Aa Aa) Aa (Ai Aa) (Aw (v := Value.int .i64 p1.2.1) 0 F Aa Aa T3 Aa).q fun a F => ?_
    refine Bc F (Af F Aa Aa Aa Aa) Aa (Ai Aa) (DH F Aa Aa).q fun a F => ?_
    refine qs F Aa (Aq F Aa Aa Aa).q fun a F => ?_
    refine qs F Aa (Ad F Aa).q fun a F => ?_
    rcases Bool.eq_false_or_eq_true (decide (0 ≤ p1.2.1)) with hb | hb
    ·
     have H := AS (BD hb) H
     rw [hb] at F
     clear hb
     refine Bc F (Af F Aa Aa Aa Aa) Aa (Ai Aa) (Aj G0 Aa Aa Aa T3 F Aa 1 Aa).q fun a F => ?_
     refine Bc F (Af F Aa Aa Aa Aa) Aa (Ai Aa) (Aw (v := Value.int .i64 p1.2.1) 0 F Aa Aa T3 Aa).q fun a F => ?_
     refine Bc F (Af F Aa Aa Aa Aa) Aa (Ai Aa) (Ad F Aa).q fun a F => ?_
     refine Bc F (Af F Aa Aa Aa Aa) Aa (Ai Aa) (Aj G0 Aa Aa Aa T3 F Aa 0 Aa).q fun a F => ?_
     refine Bc F (Af F Aa Aa Aa Aa) Aa (Ai Aa) (Aw (v := Value.int .i64 p1.1) 0 F Aa Aa T3 Aa).q fun a F => ?_
     obtain ⟨x2, h1, H⟩ := Ak H
     obtain ⟨v2, h2, h3⟩ := DQ (er := CO) d_v1.2 h1
     refine Bc F (Af F Aa Aa Aa Aa) Aa (Ai Aa) (Ax (r := Ca.hr) Lm F Aa Aa (JL.hd (DM 0 Aa)) h2).q fun a F => ?_
     have h4 : Ca.cells v2 = [(v2.1)] := congrArg (fun q : Nat × List Int => ([(v2.1)] : List Value)) h3
     refine Bc F (Af F Aa Aa Aa Aa) Aa (Ai Aa) (Ao (y := (v2.1)) (j := 0) (i := p1.1) (enc := Ca.cells) F Aa Aa (JL.hd (DM 0 Aa)) h2 Ca.flat JO (by rw [h4]; rfl)).q fun a F => ?_
     obtain ⟨x3, h5, H⟩ := Ak H
     refine Bc F (Af F Aa Aa Aa Aa) Aa (Ai Aa) (B0 (r := (Rp.int .i64)) (l := x2.2) Hr Aa F Aa (JL.sl (k := x2.1) (l := x2.2) (DM 0 Aa) h2 Foc.here (congrArg (fun q : Nat × List Int => q) h3) (MU h5))).q fun a F => ?_
     refine Bc F (Af F Aa Aa Aa Aa) Aa (Ai Aa) (Bu F Aa Aa).q fun a F => ?_
     refine qs F Aa (Aq F Aa Aa Aa).q fun a F => ?_
     refine AY fun w W => ?_
     refine Ab ?_
     exact ⟨_, H, F.re ⟨rfl, Aa, Aa, trivial⟩, W⟩
    have H := AR (BB hb) H
    rw [hb] at F
    clear hb
    iterate 9 refine Ds F (CM F Aa Aa Aa Aa Aa) Aa Aa fun a F => ?_
    refine qs F Aa (Az F Aa Aa Aa).q fun a F => ?_
    refine AY fun w W => ?_
    refine Ab ?_
    exact ⟨_, H, F.re ⟨rfl, Aa, Aa, trivial⟩, W⟩
   have H := AR (BB hb) H
   rw [hb] at F
   clear hb
   iterate 3 refine Ds F (CM F Aa Aa Aa Aa Aa) Aa Aa fun a F => ?_
   refine qs F Aa (Az F Aa Aa Aa).q fun a F => ?_
   refine qs F Aa (Ad F Aa).q fun a F => ?_
   iterate 9 refine Ds F (CM F Aa Aa Aa Aa Aa) Aa Aa fun a F => ?_
   refine qs F Aa (Az F Aa Aa Aa).q fun a F => ?_
   refine AY fun w W => ?_
   refine Ab ?_
   exact ⟨_, H, F.re ⟨rfl, Aa, Aa, trivial⟩, W⟩
  have H := AR (BB hb) H
  rw [hb] at F
  clear hb
  iterate 5 refine Ds F (CM F Aa Aa Aa Aa Aa) Aa Aa fun a F => ?_
  refine qs F Aa (Az F Aa Aa Aa).q fun a F => ?_
  refine qs F Aa (Ad F Aa).q fun a F => ?_
  iterate 3 refine Ds F (CM F Aa Aa Aa Aa Aa) Aa Aa fun a F => ?_
  refine qs F Aa (Az F Aa Aa Aa).q fun a F => ?_
  refine qs F Aa (Ad F Aa).q fun a F => ?_
  iterate 9 refine Ds F (CM F Aa Aa Aa Aa Aa) Aa Aa fun a F => ?_
  refine qs F Aa (Az F Aa Aa Aa).q fun a F => ?_
  refine AY fun w W => ?_
  refine Ab ?_
  exact ⟨_, H, F.re ⟨rfl, Aa, Aa, trivial⟩, W⟩
 rintro a w ⟨x1, hj, F, W⟩
 have hj := AV hj
 subst hj
 have H := K1
 clear G1 K1
 refine AA F Aa (fun hb => ?_) fun hb => ?_
 ·
  have H := AS hb H
  rw [hb] at F
  clear hb
  refine ID 10 W MO (by kernel_rfl) ?_
  refine qs F Aa (Ad F Aa).q fun a F => ?_
  refine qs F Aa (Aj G0 Aa Aa Aa T3 F Aa 0 Aa).q fun a F => ?_
  refine qs F Aa (Aw (v := Value.int .i64 p1.1) 0 F Aa Aa T3 Aa).q fun a F => ?_
  obtain ⟨x4, h6, H⟩ := Ak H
  obtain ⟨v3, h7, h8⟩ := DQ (er := CO) d_v1.2 h6
  refine qs F Aa (Ax (r := Ca.hr) Lm F Aa Aa (JL.hd (DM 0 Aa)) h7).q fun a F => ?_
  have h9 : Ca.cells v3 = [(v3.1)] := congrArg (fun q : Nat × List Int => ([(v3.1)] : List Value)) h8
  refine qs F Aa (Ao (y := (v3.1)) (j := 0) (i := p1.1) (enc := Ca.cells) F Aa Aa (JL.hd (DM 0 Aa)) h7 Ca.flat JO (by rw [h9]; rfl)).q fun a F => ?_
  refine qs F Aa (Aj G0 Aa Aa Aa T3 F Aa 1 Aa).q fun a F => ?_
  refine qs F Aa (Aw (v := Value.int .i64 p1.2.1) 0 F Aa Aa T3 Aa).q fun a F => ?_
  refine qs F Aa (Aj G0 Aa Aa Aa T3 F Aa 2 Aa).q fun a F => ?_
  refine qs F Aa (Aw (v := Value.int .i64 p1.2.2.1) 0 F Aa Aa T3 Aa).q fun a F => ?_
  obtain ⟨x5, h10, H⟩ := Ak H
  obtain ⟨x6, h11, H⟩ := Ak H
  refine qs F Aa (Ax (r := (Rp.int .i64)) GD F Aa Aa (JL.sl (k := x4.1) (l := x4.2) (DM 0 Aa) h7 Foc.here (congrArg (fun q : Nat × List Int => q) h8) (MU h11)) h10).q fun a F => ?_
  refine AY fun w W => ?_
  obtain ⟨x7, h12, H⟩ := Ak H
  have W := W.dTakeR h7 Foc.here ((congrArg (fun q : Nat × List Int => q) h8).trans (Prod.ext (Ln h12) Aa))
  have h13 : List.map CO (Ap d_v1.1 p1.1 ((v3.1), 0, [])) = (Ap p0 p1.1 (0, [])) := (IX d_v1.2 (congrArg (fun q : Nat × List Int => (0, [])) h8))
  have W : Stw ⟨Y, X, w0⟩ [(b1, [.int .i64 p1.1, .int .i64 p1.2.1, .int .i64 p1.2.2.1, .int .i64 p1.2.2.2])] [row (v3.1) 3 (Rp.int .i64) x4.2, B9 v1 28 Ca (Ap d_v1.1 p1.1 ((v3.1), 0, []))] w := W
  refine Bz (i := p1.2.1) (j := 0) (vs := [.int .i64 p1.2.2.1]) (x' := p1.2.2.1) F W Aa Aa Aa (k := 0) Aa Aa h10 T3 Aa Aa Aa Aa (fun A cs _ => Fl.int.sto (by rfl) _ _ _) fun w W => ?_
  have W := W.frontZ (i := 1) Aa Aa
  have W := W.frontZ (i := 1) Aa Aa
  have W := W.dBackR (x2 := ((v3.1), 2, (Ap x4.2 p1.2.1 p1.2.2.1))) h7 Foc.here Aa Aa
  have h14 : List.map CO (Ap d_v1.1 p1.1 ((v3.1), 2, (Ap x4.2 p1.2.1 p1.2.2.1))) = (Ap p0 p1.1 (2, (Ap x4.2 p1.2.1 p1.2.2.1))) := (IX d_v1.2 (congrArg (fun q : Nat × List Int => (2, (Ap x4.2 p1.2.1 p1.2.2.1))) h8))
  have W : Stw ⟨Y, X, w0⟩ [(b1, [.int .i64 p1.1, .int .i64 p1.2.1, .int .i64 p1.2.2.1, .int .i64 p1.2.2.2])] [B9 v1 28 Ca (Ap d_v1.1 p1.1 ((v3.1), 2, (Ap x4.2 p1.2.1 p1.2.2.1)))] w := W
  refine Ae ?_
  have H := AV H
  subst H
  refine HI (.inr Aa) F Aa ?_
  have W := W.sub (M' := []) (Z' := [B9 v1 28 Ca (Ap d_v1.1 p1.1 ((v3.1), 2, (Ap x4.2 p1.2.1 p1.2.2.1)))]) (List.nil_sublist _) (List.Sublist.refl _)
  exact ⟨⟨(Ap d_v1.1 p1.1 ((v3.1), 2, (Ap x4.2 p1.2.1 p1.2.2.1))), h14⟩, Aa, W⟩
 have H := AR (by rw [hb]; decide) H
 rw [hb] at F
 clear hb
 refine Av ?_
 have H := AV H
 subst H
 refine HI (.inr Aa) F Aa ?_
 have W := W.sub (M' := []) (Z' := [B9 v1 28 Ca d_v1.1]) (List.nil_sublist _) (List.Sublist.refl _)
 exact ⟨⟨d_v1.1, d_v1.2⟩, Aa, W⟩
theorem Ui : Has Try.prog 33 := ⟨fun args w => Al Try.func33 rfl (by decide) args w⟩
noncomputable def EJ (p1 : List (Int × Int × Int × Int)) (p2 : Int) (p3 : List Int) : ((List (Nat × List Int)) × Int) → Option (((List (Nat × List Int)) × Int) ⊕ (List (Nat × List Int)))
  | (x3, x4) => (if x4 < (p1.length : Int) then ((ix p1 x4).bind fun x6 => (if x6.2.2.2 < p2 then some (x3, true) else (if x6.2.2.2 = p2 then (CZ p3 x6.1).bind fun x9 => some (x3, x9) else some (x3, false))).bind fun (x7, x8) => (if x8 = true then (IG x7 x6).bind fun x10 => some x10 else some x7)).bind fun x5 => some (.inl (x5, AB (x4 + 1))) else some (.inr x3))
noncomputable def Gq (p0 : List (List Int)) (p1 : List (Int × Int × Int × Int)) (p2 : Int) (p3 : List Int) : Option (List (List Int)) := (GG p0).bind fun x1 => (AG (EJ p1 p2 p3) (x1, 0)).bind fun x2 => (Jw PY x2).bind fun x11 => some x11
theorem MT (Y : Nat → Prop) (w0 : World) (v1 : Value) (v2 : Value) (v3 : Value) (p0 : List (List Int)) (p1 : List (Int × Int × Int × Int)) (p2 : Int) (p3 : List Int) (r : List (List Int)) (H : Gq p0 p1 p2 p3 = some r) (s_v1 : Sl w0 Y (Rp.slice (Rp.int .i64)) v1 p0) (h_v2 : Sl w0 (NX []) Bj v2 p1) (h_v3 : Sl w0 (NX []) (Rp.int .i64) v3 p3) :
    Calls Try.prog 12 #[v1, v2, .int .i64 p2, v3] w0 fun e w' => ∃ x : Value, e = .returned (x) ∧ Stw ⟨Y, [], w0⟩ [] [row (x) 28 (Rp.slice (Rp.int .i64)) r] w' := by
 refine enter Try.func12 Aa Try.ntmps12 Aa fun a F => ?_
 have W := Stw.start Y w0
 obtain ⟨v4, h1, s_v1⟩ := s_v1.ex Do
 have h_v1 := W.nx s_v1
 unfold Gq at H
 refine Ah (Ac ?_)
 refine ls F W Aa (Ag F Aa).q fun a w F W => ?_
 refine Ae (Ab (Ah (Ac ?_)))
 refine ls F W Aa (Ad F Aa).q fun a w F W => ?_
 obtain ⟨x1, h2, H⟩ := Ak H
 refine B7 (Ml := []) (Zl := []) (M := []) (Z := []) (β := Value × ({x : List (Value × Nat × List Int) // x.map CO = x1})) (rv := fun x => x.1) (MM := fun x => []) (ZZ := fun x => [B9 x.1 28 Ca x.2.1]) F W Uj Aa Aa (fun hL => LR _ w (v1) p0 _ h2 (Sl.hide Do h1 (W.old s_v1))) fun x a w F W => ?_
 obtain ⟨v5, v6⟩ := x
 have W : Stw ⟨Y, [], w0⟩ [] [B9 v5 28 Ca v6.1] w := W
 refine ls F W Aa (Ag F Aa).q fun a w F W => ?_
 refine Ae (Ab ?_)
 obtain ⟨o1, G1, K1⟩ := Ak H
 refine AM (fun a w => ∃ x2 : List (Nat × List Int), ∃ g_x2 : {x : List (Value × Nat × List Int) // x.map CO = x2}, some (x2) = some o1 ∧ Fr 41 [] [(8, .slice none 0 0), (9, v5)] a ∧ Stw ⟨Y, [], w0⟩ [] [B9 v5 28 Ca g_x2.1] w) ?_ ?_
 ·
  have H := G1
  clear G1 K1
  refine Ah (Ac ?_)
  refine ls F W Aa (Ad F Aa).q fun a w F W => ?_
  refine ls F W Aa (B0 (r := Bj) (l := p1) Pa Aa F Aa (Am h_v2)).q fun a w F W => ?_
  refine ls F W Aa (Ad F Aa).q fun a w F W => ?_
  refine Ae (Ab (As ?_))
  refine Bb H (fun s a w => ∃ g_x3 : {x : List (Value × Nat × List Int) // x.map CO = s.1}, Fr 41 [] [(2, .int .i64 p2), (3, v3), (8, .slice none 0 0), (9, v5), (14, v2), (15, .int .i64 (p1.length : Int)), (16, .int .i64 s.2)] a ∧ Stw ⟨Y, [], w0⟩ [] [B9 v5 28 Ca g_x3.1] w) ⟨⟨v6.1, v6.2⟩, F.re ⟨rfl, Aa, Aa, Aa, Aa, Aa, Aa, trivial⟩, W⟩ fun s o a w H L2 hR => ?_
  obtain ⟨x3, x4⟩ := s
  obtain ⟨g_x3, F, W⟩ := hR
  have F : Fr 41 [] [(2, .int .i64 p2), (3, v3), (8, .slice none 0 0), (9, v5), (14, v2), (15, .int .i64 (p1.length : Int)), (16, .int .i64 x4)] a := F
  have W : Stw ⟨Y, [], w0⟩ [] [B9 v5 28 Ca g_x3.1] w := W
  rw [EJ] at H
  refine Ah (Ac ?_)
  refine ls F W Aa (Bu F Aa Aa).q fun a w F W => ?_
  refine Ae (Ab (Ah ?_))
  refine AA F Aa (fun hb => ?_) fun hb => ?_
  ·
   have H := AS (BD hb) H
   rw [hb] at F
   clear hb
   refine Av (Ab ?_)
   obtain ⟨o3, G3, K3⟩ := Ak H
   refine AM (fun a w => ∃ x5 : List (Nat × List Int), ∃ g_x5 : {x : List (Value × Nat × List Int) // x.map CO = x5}, some (x5) = some o3 ∧ Fr 41 [] [(2, .int .i64 p2), (3, v3), (8, .slice none 0 0), (9, v5), (14, v2), (15, .int .i64 (p1.length : Int)), (16, .int .i64 x4)] a ∧ Stw ⟨Y, [], w0⟩ [] [B9 v5 28 Ca g_x5.1] w) ?_ ?_
   ·
    have H := G3
    clear G3 K3
    refine As (Ah (Ac ?_))
    obtain ⟨x6, h3, H⟩ := Ak H
    refine ls F W Aa (Ax (r := Bj) Ew F Aa Aa (Am h_v2) h3).q fun a w F W => ?_
    refine ls F W Aa (Ao (y := Value.agg #[.int .i64 x6.1, .int .i64 x6.2.1, .int .i64 x6.2.2.1, .int .i64 x6.2.2.2]) (j := 0) (i := x4) F Aa Aa (Am h_v2) h3 Ez.to Eh Aa).q fun a w F W => ?_
    refine DX (cs := [.int .i64 0, .int .i64 0, .int .i64 0, .int .i64 0]) F W Aa Sv Aa fun b1 a w F W => ?_
    refine DC (vs := [.int .i64 x6.1, .int .i64 x6.2.1, .int .i64 x6.2.2.1, .int .i64 x6.2.2.2]) (M' := [(b1, [.int .i64 x6.1, .int .i64 x6.2.1, .int .i64 x6.2.2.1, .int .i64 x6.2.2.2])]) 0 F W Aa Aa Aa Eh Aa Aa Aa Aa Aa fun w W => ?_
    refine Ae (Ab ?_)
    obtain ⟨o4, G4, K4⟩ := Ak H
    refine AM (fun a w => ∃ x7 : List (Nat × List Int), ∃ x8 : Bool, ∃ g_x7 : {x : List (Value × Nat × List Int) // x.map CO = x7}, some ((x7, x8)) = some o4 ∧ Fr 41 [] [(2, .int .i64 p2), (3, v3), (8, .slice none 0 0), (9, v5), (11, .pointer (some ⟨b1, 0, none⟩)), (14, v2), (15, .int .i64 (p1.length : Int)), (16, .int .i64 x4), (35, .bool x8)] a ∧ Stw ⟨Y, [], w0⟩ [(b1, [.int .i64 x6.1, .int .i64 x6.2.1, .int .i64 x6.2.2.1, .int .i64 x6.2.2.2])] [B9 v5 28 Ca g_x7.1] w) ?_ ?_
    ·
     have H := G4
     clear G4 K4
     refine Ac ?_
     refine ls F W Aa (Aj G0 Aa Aa Aa T3 F Aa 3 Aa).q fun a w F W => ?_
     refine ls F W Aa (Aw (v := Value.int .i64 x6.2.2.2) 0 F Aa Aa T3 Aa).q fun a w F W => ?_
     refine ls F W Aa (Ad F Aa).q fun a w F W => ?_
     refine ls F W Aa (Bu F Aa Aa).q fun a w F W => ?_
     refine ls F W Aa (Ad F Aa).q fun a w F W => ?_
     rcases Bool.eq_false_or_eq_true (decide (x6.2.2.2 < p2)) with hb | hb
     ·
      have H := AS (BD hb) H
      rw [hb] at F
      clear hb
      iterate 5 refine Dd F Aa Aa Aa Aa Aa Aa Aa fun a F => ?_
      iterate 4 refine TQ F Aa Aa Aa Aa Aa Aa fun a F => ?_
      refine Dd F Aa Aa Aa Aa Aa Aa Aa fun a F => ?_
      refine ls F W Aa (Aq F Aa Aa Aa).q fun a w F W => ?_
      refine Ae (Ab ?_)
      exact ⟨_, _, ⟨g_x3.1, g_x3.2⟩, H, F.re ⟨rfl, Aa, Aa, Aa, Aa, Aa, Aa, Aa, Aa, trivial⟩, W⟩
     have H := AR (BB hb) H
     rw [hb] at F
     clear hb
     refine AJ F W (Af F Aa Aa Aa Aa) Aa (Ai Aa) (Aj G0 Aa Aa Aa T3 F Aa 3 Aa).q fun a w F W => ?_
     refine AJ F W (Af F Aa Aa Aa Aa) Aa (Ai Aa) (Aw (v := Value.int .i64 x6.2.2.2) 0 F Aa Aa T3 Aa).q fun a w F W => ?_
     refine AJ F W (Af F Aa Aa Aa Aa) Aa (Ai Aa) (Ad F Aa).q fun a w F W => ?_
     refine AJ F W (Af F Aa Aa Aa Aa) Aa (Ai Aa) (DP F Aa Aa).q fun a w F W => ?_
     refine AJ F W (Af F Aa Aa Aa Aa) Aa (Ai Aa) (Ad F Aa).q fun a w F W => ?_
     rcases Bool.eq_false_or_eq_true (decide (x6.2.2.2 = p2)) with hb | hb
     ·
      have H := AS (BD hb) H
      rw [hb] at F
      clear hb
      refine AJ F W (Af F Aa Aa Aa Aa) Aa (Ai Aa) (Ad F Aa).q fun a w F W => ?_
      refine AJ F W (Af F Aa Aa Aa Aa) Aa (Ai Aa) (Aj G0 Aa Aa Aa T3 F Aa 0 Aa).q fun a w F W => ?_
      refine AJ F W (Af F Aa Aa Aa Aa) Aa (Ai Aa) (Aw (v := Value.int .i64 x6.1) 0 F Aa Aa T3 Aa).q fun a w F W => ?_
      refine Kr (Af F Aa Aa Aa Aa) ?_
      obtain ⟨x9, h4, H⟩ := Ak H
      refine ls F W Aa (BX (v := Value.bool x9) F T2 Aa (fun w W => H5 any w (v3) p3 x6.1 _ h4 (((Am h_v3) : D4 _ _ _ _ _ _) w W).nx)) fun a w F W => ?_
      refine AJ F W (Af F Aa Aa Aa Aa) Aa (Ai Aa) (Aq F Aa Aa Aa).q fun a w F W => ?_
      refine ls F W Aa (Az F Aa Aa Aa).q fun a w F W => ?_
      refine Ae (Ab ?_)
      exact ⟨_, _, ⟨g_x3.1, g_x3.2⟩, H, F.re ⟨rfl, Aa, Aa, Aa, Aa, Aa, Aa, Aa, Aa, trivial⟩, W⟩
     have H := AR (BB hb) H
     rw [hb] at F
     clear hb
     iterate 4 refine Dd F Aa Aa Aa Aa Aa Aa Aa fun a F => ?_
     refine AJ F W (Af F Aa Aa Aa Aa) Aa (Ai Aa) (Az F Aa Aa Aa).q fun a w F W => ?_
     refine ls F W Aa (Az F Aa Aa Aa).q fun a w F W => ?_
     refine Ae (Ab ?_)
     exact ⟨_, _, ⟨g_x3.1, g_x3.2⟩, H, F.re ⟨rfl, Aa, Aa, Aa, Aa, Aa, Aa, Aa, Aa, trivial⟩, W⟩
    rintro a w ⟨x7, x8, g_x7, hj, F, W⟩
    have hj := AV hj
    subst hj
    have H := K4
    clear G4 K4
    refine AA F Aa (fun hb => ?_) fun hb => ?_
    ·
     have H := AS hb H
     rw [hb] at F
     clear hb
     refine Ac ?_
     refine ls F W Aa (Ad F Aa).q fun a w F W => ?_
     refine ls F W Aa (Aw (v := Value.agg #[.int .i64 x6.1, .int .i64 x6.2.1, .int .i64 x6.2.2.1, .int .i64 x6.2.2.2]) 0 F Aa Aa Eh Aa).q fun a w F W => ?_
     obtain ⟨x10, h5, H⟩ := Ak H
     refine B7 (Ml := []) (Zl := [B9 v5 28 Ca g_x7.1]) (M := [(b1, [.int .i64 x6.1, .int .i64 x6.2.1, .int .i64 x6.2.2.1, .int .i64 x6.2.2.2])]) (Z := []) (β := ({x : List (Value × Nat × List Int) // x.map CO = x10})) (rv := fun x => .tuple #[]) (MM := fun x => []) (ZZ := fun x => [B9 v5 28 Ca x.1]) F W Ui Aa Aa (fun hL => Nu _ _ w (v5) x7 x6 ⟨g_x7.1, g_x7.2⟩ _ h5 hL) fun x a w F W => ?_
     obtain ⟨v7, rfl⟩ : ∃ y, y = x := ⟨x, rfl⟩
     have W : Stw ⟨Y, [], w0⟩ [(b1, [.int .i64 x6.1, .int .i64 x6.2.1, .int .i64 x6.2.2.1, .int .i64 x6.2.2.2])] [B9 v5 28 Ca v7.1] w := W
     refine Ae (AP (Ab ?_))
     have W := W.sub (M' := []) (Z' := [B9 v5 28 Ca v7.1]) (List.nil_sublist _) (List.Sublist.refl _)
     exact ⟨_, ⟨v7.1, v7.2⟩, H, F.re ⟨rfl, Aa, Aa, Aa, Aa, Aa, Aa, trivial⟩, W⟩
    have H := AR (by rw [hb]; decide) H
    rw [hb] at F
    clear hb
    refine Av (AP (Ab ?_))
    have W := W.sub (M' := []) (Z' := [B9 v5 28 Ca g_x7.1]) (List.nil_sublist _) (List.Sublist.refl _)
    exact ⟨_, ⟨g_x7.1, g_x7.2⟩, H, F.re ⟨rfl, Aa, Aa, Aa, Aa, Aa, Aa, trivial⟩, W⟩
   rintro a w ⟨x5, g_x5, hj, F, W⟩
   have hj := AV hj
   subst hj
   have H := K3
   clear G3 K3
   refine Ac ?_
   refine ls F W Aa (BC F Aa Aa Aa).q fun a w F W => ?_
   refine ls F W Aa (Ad F Aa).q fun a w F W => ?_
   refine Ae (Ab ?_)
   exact ⟨_, H, ⟨g_x5.1, g_x5.2⟩, F.re ⟨rfl, Aa, Aa, Aa, Aa, Aa, Aa, trivial⟩, W⟩
  have H := AR (BB hb) H
  rw [hb] at F
  clear hb
  refine A8 ?_
  iterate 2 refine Bq ?_
  refine A9 (Ab ?_)
  have H := L2 _ H
  exact ⟨_, ⟨g_x3.1, g_x3.2⟩, H, F.re ⟨rfl, Aa, trivial⟩, W⟩
 rintro a w ⟨x2, g_x2, hj, F, W⟩
 have hj := AV hj
 subst hj
 have H := K1
 clear G1 K1
 refine Ah (Ac ?_)
 refine ls F W Aa (Ad F Aa).q fun a w F W => ?_
 refine ls F W Aa (Ag F Aa).q fun a w F W => ?_
 refine Ae (Ab (AF ?_))
 obtain ⟨x11, h6, H⟩ := Ak H
 have H := AV H
 subst H
 refine BK (.inl Aa) F W Aa (Ay F Aa) ?_
 have W := Stw.ddRest R2 g_x2.2 h6 W
 exact ⟨(v5), Aa, W⟩
theorem Up : Has Try.prog 12 := ⟨fun args w => Al Try.func12 rfl (by decide) args w⟩
end Go.Proofs.Ythiejmoddfenlaa
