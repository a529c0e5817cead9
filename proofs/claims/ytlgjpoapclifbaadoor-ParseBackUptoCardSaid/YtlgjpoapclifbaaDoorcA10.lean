/- The functions of layer 29, E5. Conditions: none. -/
import Derived.Test.YtlgjpoapclifbaaDoorcA9
namespace Go.Proofs.YtlgjpoapclifbaaDoor
open Go Go.RowKit
set_option linter.unusedVariables false
set_option linter.unusedSimpArgs false
set_option maxRecDepth 20000
noncomputable def GK (p0 : Tr37) : Option Bool := ((Mp (Tr37.of (p0.un.1, Tr34.of (p0.un.2.1.un.1, p0.un.2.1.un.2.1, p0.un.2.1.un.2.2.1, p0.un.2.1.un.2.2.2), p0.un.2.2.1, p0.un.2.2.2.1, p0.un.2.2.2.2))).bind fun x2 => (if x2 = true then (Mt (Tr37.of (p0.un.1, Tr34.of (p0.un.2.1.un.1, p0.un.2.1.un.2.1, p0.un.2.1.un.2.2.1, p0.un.2.1.un.2.2.2), p0.un.2.2.1, p0.un.2.2.2.1, p0.un.2.2.2.2))).bind fun x3 => (if x3 ≤ 8 then (LD (Tr37.of (p0.un.1, Tr34.of (p0.un.2.1.un.1, p0.un.2.1.un.2.1, p0.un.2.1.un.2.2.1, p0.un.2.1.un.2.2.2), p0.un.2.2.1, p0.un.2.2.2.1, p0.un.2.2.2.2))).bind fun x4 => (if x4 ≤ 64 then (LL (Tr37.of (p0.un.1, Tr34.of (p0.un.2.1.un.1, p0.un.2.1.un.2.1, p0.un.2.1.un.2.2.1, p0.un.2.1.un.2.2.2), p0.un.2.2.1, p0.un.2.2.2.1, p0.un.2.2.2.2))).bind fun x5 => some (decide (x5 ≤ 64)) else some false) else some false) else some false)).bind fun x1 => some x1
theorem PE (Y : Nat → Prop) (w0 : World) (v1 : Value) (v2 : Value) (p0 : Tr37) (r : Bool) (H : GK p0 = some r) (h_v1 : Sl w0 (NX []) CS v1 p0.un.2.1.un.2.2.2) (h_v2 : Sl w0 (NX []) Ff v2 p0.un.2.2.2.2) :
    Calls Tryd.prog 15 #[.agg #[.int .i64 p0.un.1, .int .i64 p0.un.2.1.un.1, .int .i64 p0.un.2.1.un.2.1, .int .i64 p0.un.2.1.un.2.2.1, v1, .int .i64 p0.un.2.2.1, .int .i64 p0.un.2.2.2.1, v2]] w0 fun e w' => e = .returned (.bool r) ∧ Below w0.heap.size w0 w' := by
 refine enter Tryd.func15 Aa Tryd.ntmps15 Aa fun a F => ?_
 have W := Stw.start Y w0
 obtain ⟨v3, h1, h_v1⟩ := h_v1.ex CL
 obtain ⟨v4, h2, h_v2⟩ := h_v2.ex Fx
 unfold GK at H
 refine Ak (Ab ?_)
 refine D6 (cs := (Ce p0 v1 v2)) F W Aa Aa Aa fun b1 a w F W => ?_
 refine ls F W Aa (Ag F Aa).q fun a w F W => ?_
 refine Ae (Ac ?_)
 obtain ⟨o1, G1, K1⟩ := Aq H
 refine A1 (fun a w => ∃ x1 : Bool, some (x1) = some o1 ∧ Fr 20 [] [(2, .bool x1)] a ∧ Stw ⟨Y, [], w0⟩ (Ch b1 p0 v1 v2) [] w) ?_ ?_
 ·
  have H := G1
  clear G1 K1
  refine Ab ?_
  refine ls F W Aa (Av (v := Value.agg #[.int .i64 p0.un.1, .int .i64 p0.un.2.1.un.1, .int .i64 p0.un.2.1.un.2.1, .int .i64 p0.un.2.1.un.2.2.1, v1, .int .i64 p0.un.2.2.1, .int .i64 p0.un.2.2.2.1, v2]) 0 F Aa Aa MR Aa).q fun a w F W => ?_
  obtain ⟨x2, h3, H⟩ := Aq H
  refine ls F W Aa (A0 (v := Value.bool x2) F VS Aa (fun w W => Qb any w (v1) (v2) (Tr37.of (p0.un.1, Tr34.of (p0.un.2.1.un.1, p0.un.2.1.un.2.1, p0.un.2.1.un.2.2.1, p0.un.2.1.un.2.2.2), p0.un.2.2.1, p0.un.2.2.2.1, p0.un.2.2.2.2)) _ h3 (((AM CL h1 (Ay h_v1)) : DZ _ _ _ _ _ _) w W).nx (((AM Fx h2 (Ay h_v2)) : DZ _ _ _ _ _ _) w W).nx)) fun a w F W => ?_
  refine ls F W Aa (Ah F Aa).q fun a w F W => ?_
  rcases Bool.eq_false_or_eq_true x2 with hb | hb
  ·
   have H := AW hb H
   rw [hb] at F
   clear hb
   refine Au F W (Ad F Aa Aa Aa Aa) Aa (Al Aa) (Av (v := Value.agg #[.int .i64 p0.un.1, .int .i64 p0.un.2.1.un.1, .int .i64 p0.un.2.1.un.2.1, .int .i64 p0.un.2.1.un.2.2.1, v1, .int .i64 p0.un.2.2.1, .int .i64 p0.un.2.2.2.1, v2]) 0 F Aa Aa MR Aa).q fun a w F W => ?_
   refine Jc (Ad F Aa Aa Aa Aa) ?_
   obtain ⟨x3, h4, H⟩ := Aq H
   refine ls F W Aa (A0 (v := Value.int .i64 x3) F Vz Aa (fun w W => Ql any w (v1) (v2) (Tr37.of (p0.un.1, Tr34.of (p0.un.2.1.un.1, p0.un.2.1.un.2.1, p0.un.2.1.un.2.2.1, p0.un.2.1.un.2.2.2), p0.un.2.2.1, p0.un.2.2.2.1, p0.un.2.2.2.2)) _ h4 (((AM CL h1 (Ay h_v1)) : DZ _ _ _ _ _ _) w W).nx (((AM Fx h2 (Ay h_v2)) : DZ _ _ _ _ _ _) w W).nx)) fun a w F W => ?_
   refine Au F W (Ad F Aa Aa Aa Aa) Aa (Al Aa) (HX F Aa Aa).q fun a w F W => ?_
   refine ls F W Aa (As F Aa Aa Aa).q fun a w F W => ?_
   refine ls F W Aa (Ah F Aa).q fun a w F W => ?_
   rcases Bool.eq_false_or_eq_true (decide (x3 ≤ 8)) with hb | hb
   ·
    have H := AW (Bw hb) H
    rw [hb] at F
    clear hb
    refine Au F W (Ad F Aa Aa Aa Aa) Aa (Al Aa) (Av (v := Value.agg #[.int .i64 p0.un.1, .int .i64 p0.un.2.1.un.1, .int .i64 p0.un.2.1.un.2.1, .int .i64 p0.un.2.1.un.2.2.1, v1, .int .i64 p0.un.2.2.1, .int .i64 p0.un.2.2.2.1, v2]) 0 F Aa Aa MR Aa).q fun a w F W => ?_
    refine Jc (Ad F Aa Aa Aa Aa) ?_
    obtain ⟨x4, h5, H⟩ := Aq H
    refine ls F W Aa (A0 (v := Value.int .i64 x4) F VQ Aa (fun w W => P6 any w (v1) (v2) (Tr37.of (p0.un.1, Tr34.of (p0.un.2.1.un.1, p0.un.2.1.un.2.1, p0.un.2.1.un.2.2.1, p0.un.2.1.un.2.2.2), p0.un.2.2.1, p0.un.2.2.2.1, p0.un.2.2.2.2)) _ h5 (((AM CL h1 (Ay h_v1)) : DZ _ _ _ _ _ _) w W).nx (((AM Fx h2 (Ay h_v2)) : DZ _ _ _ _ _ _) w W).nx)) fun a w F W => ?_
    refine Au F W (Ad F Aa Aa Aa Aa) Aa (Al Aa) (HX F Aa Aa).q fun a w F W => ?_
    refine ls F W Aa (As F Aa Aa Aa).q fun a w F W => ?_
    refine ls F W Aa (Ah F Aa).q fun a w F W => ?_
    rcases Bool.eq_false_or_eq_true (decide (x4 ≤ 64)) with hb | hb
    ·
     have H := AW (Bw hb) H
     rw [hb] at F
     clear hb
     refine Au F W (Ad F Aa Aa Aa Aa) Aa (Al Aa) (Av (v := Value.agg #[.int .i64 p0.un.1, .int .i64 p0.un.2.1.un.1, .int .i64 p0.un.2.1.un.2.1, .int .i64 p0.un.2.1.un.2.2.1, v1, .int .i64 p0.un.2.2.1, .int .i64 p0.un.2.2.2.1, v2]) 0 F Aa Aa MR Aa).q fun a w F W => ?_
     refine Jc (Ad F Aa Aa Aa Aa) ?_
     obtain ⟨x5, h6, H⟩ := Aq H
     refine ls F W Aa (A0 (v := Value.int .i64 x5) F VI Aa (fun w W => PR any w (v1) (v2) (Tr37.of (p0.un.1, Tr34.of (p0.un.2.1.un.1, p0.un.2.1.un.2.1, p0.un.2.1.un.2.2.1, p0.un.2.1.un.2.2.2), p0.un.2.2.1, p0.un.2.2.2.1, p0.un.2.2.2.2)) _ h6 (((AM CL h1 (Ay h_v1)) : DZ _ _ _ _ _ _) w W).nx (((AM Fx h2 (Ay h_v2)) : DZ _ _ _ _ _ _) w W).nx)) fun a w F W => ?_
     refine Au F W (Ad F Aa Aa Aa Aa) Aa (Al Aa) (HX F Aa Aa).q fun a w F W => ?_
     refine ls F W Aa (As F Aa Aa Aa).q fun a w F W => ?_
     refine ls F W Aa (Ag F Aa).q fun a w F W => ?_
     refine Ae (Ac ?_)
     exact ⟨_, H, F.re ⟨rfl, trivial⟩, W⟩
    have H := AY (Bx hb) H
    rw [hb] at F
    clear hb
    iterate 3 refine Cd F Aa Aa Aa Aa Aa Aa Aa fun a F => ?_
    refine ls F W Aa (Ap F Aa Aa Aa).q fun a w F W => ?_
    refine ls F W Aa (Ag F Aa).q fun a w F W => ?_
    refine Ae (Ac ?_)
    exact ⟨_, H, F.re ⟨rfl, trivial⟩, W⟩
   have H := AY (Bx hb) H
   rw [hb] at F
   clear hb
   iterate 3 refine Cd F Aa Aa Aa Aa Aa Aa Aa fun a F => ?_
   refine ls F W Aa (Ap F Aa Aa Aa).q fun a w F W => ?_
   refine ls F W Aa (Ah F Aa).q fun a w F W => ?_
   iterate 3 refine Cd F Aa Aa Aa Aa Aa Aa Aa fun a F => ?_
   refine ls F W Aa (Ap F Aa Aa Aa).q fun a w F W => ?_
   refine ls F W Aa (Ag F Aa).q fun a w F W => ?_
   refine Ae (Ac ?_)
   exact ⟨_, H, F.re ⟨rfl, trivial⟩, W⟩
  have H := AY (by rw [hb]; decide) H
  rw [hb] at F
  clear hb
  iterate 3 refine Cd F Aa Aa Aa Aa Aa Aa Aa fun a F => ?_
  refine ls F W Aa (Ap F Aa Aa Aa).q fun a w F W => ?_
  refine ls F W Aa (Ah F Aa).q fun a w F W => ?_
  iterate 3 refine Cd F Aa Aa Aa Aa Aa Aa Aa fun a F => ?_
  refine ls F W Aa (Ap F Aa Aa Aa).q fun a w F W => ?_
  refine ls F W Aa (Ah F Aa).q fun a w F W => ?_
  iterate 3 refine Cd F Aa Aa Aa Aa Aa Aa Aa fun a F => ?_
  refine ls F W Aa (Ap F Aa Aa Aa).q fun a w F W => ?_
  refine ls F W Aa (Ag F Aa).q fun a w F W => ?_
  refine Ae (Ac ?_)
  exact ⟨_, H, F.re ⟨rfl, trivial⟩, W⟩
 rintro a w ⟨x1, hj, F, W⟩
 have hj := AK hj
 subst hj
 have H := K1
 clear G1 K1
 refine Ax ?_
 have H := AK H
 subst H
 refine AG (.inl Aa) F W Aa (AD F Aa) ?_
 exact ⟨rfl, W.done⟩
theorem V4 : Has Tryd.prog 15 := ⟨fun args w => An Tryd.func15 rfl (by decide) args w⟩
theorem UU : Has Tryd.prog 20 := ⟨fun args w => An Tryd.func20 rfl (by decide) args w⟩
noncomputable def CT (fRec : Tr34 → Option (List UInt8)) (p0 : Tr34) (x5 : List UInt8) : (List UInt8 × Int) → Option ((List UInt8 × Int) ⊕ (List UInt8))
  | (x7, x8) => (if x8 < (p0.un.2.2.2.length : Int) then (ix p0.un.2.2.2 x8).bind fun x9 => (fRec x9).bind fun x10 => ((ix p0.un.2.2.2 x8).bind fun x12 => (if 4 < x12.un.1 then (DQ ([40] : List UInt8) x10).bind fun x13 => (DQ x13 ([41] : List UInt8)).bind fun x14 => some x14 else some x10)).bind fun x11 => (if 0 < x8 then (DQ x7 x5).bind fun x16 => some x16 else some x7).bind fun x15 => (DQ x15 x11).bind fun x17 => some (.inl (x17, DP (x8 + 1))) else some (.inr x7))
noncomputable def Eh (fRec : Tr34 → Option (List UInt8)) (p0 : Tr34) : Option (List UInt8) := (if p0.un.1 = 1 then some ([116, 114, 117, 101] : List UInt8) else (if p0.un.1 = 2 then some ([102, 97, 108, 115, 101] : List UInt8) else (if p0.un.1 = 3 then (HZ p0.un.2.1).bind fun x1 => (DQ x1 ([32, 61, 32] : List UInt8)).bind fun x2 => (FB p0.un.2.2.1).bind fun x3 => (DQ x2 x3).bind fun x4 => some x4 else (if p0.un.1 = 5 then some ([32, 97, 110, 100, 32] : List UInt8) else some ([32, 111, 114, 32] : List UInt8)).bind fun x5 => (Br (CT fRec p0 x5) (([] : List UInt8), 0)).bind fun x6 => (if p0.un.1 = 4 then (DQ ([110, 111, 116, 32] : List UInt8) x6).bind fun x18 => some x18 else some x6))))
noncomputable def CX : Nat → Tr34 → Option (List UInt8)
  | 0 => fun _ => none
  | n + 1 => Eh (CX n)
noncomputable def HT (p0 : Tr34) : Option (List UInt8) := FY fun n => CX n p0
theorem Oz (fRec : Tr34 → Option (List UInt8)) (ih : ∀ (Y : Nat → Prop) (w0 : World) (v1 : Value) (p0 : Tr34) (r : List UInt8) (H : fRec p0 = some r) (h_v1 : Sl w0 (NX []) CS v1 p0.un.2.2.2), Calls Tryd.prog 20 #[.agg #[.int .i64 p0.un.1, .int .i64 p0.un.2.1, .int .i64 p0.un.2.2.1, v1]] w0 fun e w' => e = .returned (.string (bs r)) ∧ Below w0.heap.size w0 w') (Y : Nat → Prop) (w0 : World) (v1 : Value) (p0 : Tr34) (r : List UInt8) (H : Eh fRec p0 = some r) (h_v1 : Sl w0 (NX []) CS v1 p0.un.2.2.2) :
    Calls Tryd.prog 20 #[.agg #[.int .i64 p0.un.1, .int .i64 p0.un.2.1, .int .i64 p0.un.2.2.1, v1]] w0 fun e w' => e = .returned (.string (bs r)) ∧ Below w0.heap.size w0 w' := by
 refine enter Tryd.func20 Aa Tryd.ntmps20 Aa fun a F => ?_
 have W := Stw.start Y w0
 obtain ⟨v2, h1, h_v1⟩ := h_v1.ex CL
 unfold Eh at H
 refine Ak (Ab ?_)
 refine D6 (cs := (Du p0 v1)) F W Aa Aa Aa fun b1 a w F W => ?_
 refine ls F W Aa (Ag (v := Value.string (bs ([] : List UInt8))) F Aa).q fun a w F W => ?_
 refine Ae (Ac (Ak (Ak (Ab ?_))))
 refine ls F W Aa (Aj CJ Aa Aa Aa T3 F Aa 0 Aa).q fun a w F W => ?_
 refine ls F W Aa (Av (v := Value.int .i64 p0.un.1) 0 F Aa Aa T3 Aa).q fun a w F W => ?_
 refine ls F W Aa (Bd F Aa Aa).q fun a w F W => ?_
 refine Ae (Ac ?_)
 refine Az F Aa (fun hb => ?_) fun hb => ?_
 ·
  have H := AW (Bw hb) H
  rw [hb] at F
  clear hb
  refine Ak (Ab ?_)
  refine ls F W Aa (Ag (v := Value.string (bs ([116, 114, 117, 101] : List UInt8))) F Aa).q fun a w F W => ?_
  refine Ae (Ac (Ax (AO ?_)))
  have H := AK H
  subst H
  refine AG (.inl Aa) F W Aa (AD F Aa) ?_
  exact ⟨rfl, W.done⟩
 have H := AY (Bx hb) H
 rw [hb] at F
 clear hb
 refine AA (Ac (Ak (Ak (Ab ?_))))
 refine ls F W Aa (Aj CJ Aa Aa Aa T3 F Aa 0 Aa).q fun a w F W => ?_
 refine ls F W Aa (Av (v := Value.int .i64 p0.un.1) 0 F Aa Aa T3 Aa).q fun a w F W => ?_
 refine ls F W Aa (Bd F Aa Aa).q fun a w F W => ?_
 refine Ae (Ac ?_)
 refine Az F Aa (fun hb => ?_) fun hb => ?_
 ·
  have H := AW (Bw hb) H
  rw [hb] at F
  clear hb
  refine Ak (Ab ?_)
  refine ls F W Aa (Ag (v := Value.string (bs ([102, 97, 108, 115, 101] : List UInt8))) F Aa).q fun a w F W => ?_
  refine Ae (Ac (Ax (AO ?_)))
  have H := AK H
  subst H
  refine AG (.inl Aa) F W Aa (AD F Aa) ?_
  exact ⟨rfl, W.done⟩
 have H := AY (Bx hb) H
 rw [hb] at F
 clear hb
 refine AA (Ac (Ak (Ak (Ab ?_))))
 refine ls F W Aa (Aj CJ Aa Aa Aa T3 F Aa 0 Aa).q fun a w F W => ?_
 refine ls F W Aa (Av (v := Value.int .i64 p0.un.1) 0 F Aa Aa T3 Aa).q fun a w F W => ?_
 refine ls F W Aa (Bd F Aa Aa).q fun a w F W => ?_
 refine Ae (Ac ?_)
 refine Az F Aa (fun hb => ?_) fun hb => ?_
 ·
  have H := AW (Bw hb) H
  rw [hb] at F
  clear hb
  refine Ak ?_
  refine EQ W MO (by kernel_rfl) ?_
  refine qs F Aa (Aj CJ Aa Aa Aa T3 F Aa 1 Aa).q fun a F => ?_
  refine qs F Aa (Av (v := Value.int .i64 p0.un.2.1) 0 F Aa Aa T3 Aa).q fun a F => ?_
  obtain ⟨x1, h2, H⟩ := Aq H
  refine qs F Aa (A0 (v := Value.string (bs x1)) F VZ Aa (fun w W => Mf any w p0.un.2.1 _ h2)) fun a F => ?_
  obtain ⟨x2, h3, H⟩ := Aq H
  refine qs F Aa (Cw (l := x1) (m := ([32, 61, 32] : List UInt8)) F Aa Aa h3).q fun a F => ?_
  refine qs F Aa (Aj CJ Aa Aa Aa T3 F Aa 2 Aa).q fun a F => ?_
  refine qs F Aa (Av (v := Value.int .i64 p0.un.2.2.1) 0 F Aa Aa T3 Aa).q fun a F => ?_
  obtain ⟨x3, h4, H⟩ := Aq H
  refine qs F Aa (A0 (v := Value.string (bs x3)) F Uo Aa (fun w W => Kv any w p0.un.2.2.1 _ h4)) fun a F => ?_
  obtain ⟨x4, h5, H⟩ := Aq H
  refine qs F Aa (Cw (l := x2) (m := x3) F Aa Aa h5).q fun a F => ?_
  refine qs F Aa (Ag F Aa).q fun a F => ?_
  refine Cr fun w W => ?_
  refine Ac (Ax (AO ?_))
  have H := AK H
  subst H
  refine AG (.inl Aa) F W Aa (AD F Aa) ?_
  exact ⟨rfl, W.done⟩
 have H := AY (Bx hb) H
 rw [hb] at F
 clear hb
 refine AA (Ac (Ak (Ab ?_)))
 refine ls F W Aa (Ag (v := Value.string (bs ([32, 111, 114, 32] : List UInt8))) F Aa).q fun a w F W => ?_
 refine Ae (Ac ?_)
 obtain ⟨o1, G1, K1⟩ := Aq H
 refine A1 (fun a w => ∃ x5 : List UInt8, some (x5) = some o1 ∧ Fr 64 [] [(1, .pointer (some ⟨b1, 0, none⟩)), (2, .string (bs ([] : List UInt8))), (3, .string (bs x5))] a ∧ Stw ⟨Y, [], w0⟩ (Eb b1 p0 v1) [] w) ?_ ?_
 ·
  have H := G1
  clear G1 K1
  refine Ak (Ab ?_)
  refine ls F W Aa (Aj CJ Aa Aa Aa T3 F Aa 0 Aa).q fun a w F W => ?_
  refine ls F W Aa (Av (v := Value.int .i64 p0.un.1) 0 F Aa Aa T3 Aa).q fun a w F W => ?_
  refine ls F W Aa (Bd F Aa Aa).q fun a w F W => ?_
  refine Ae (Ac ?_)
  refine Az F Aa (fun hb => ?_) fun hb => ?_
  ·
   have H := AW (Bw hb) H
   rw [hb] at F
   clear hb
   refine Ab ?_
   refine ls F W Aa (Ag (v := Value.string (bs ([32, 97, 110, 100, 32] : List UInt8))) F Aa).q fun a w F W => ?_
   refine Ae (Ac ?_)
   exact ⟨_, H, F.re ⟨rfl, Aa, Aa, trivial⟩, W⟩
  have H := AY (Bx hb) H
  rw [hb] at F
  clear hb
  refine AA (Ac ?_)
  exact ⟨_, H, F.re ⟨rfl, Aa, Aa, trivial⟩, W⟩
 rintro a w ⟨x5, hj, F, W⟩
 have hj := AK hj
 subst hj
 have H := K1
 clear G1 K1
 refine Ak (Ab ?_)
 refine ls F W Aa (Ag (v := Value.string (bs ([] : List UInt8))) F Aa).q fun a w F W => ?_
 refine Ae (Ac ?_)
 obtain ⟨o2, G2, K2⟩ := Aq H
 refine A1 (fun a w => ∃ x6 : List UInt8, some (x6) = some o2 ∧ Fr 64 [] [(1, .pointer (some ⟨b1, 0, none⟩)), (2, .string (bs ([] : List UInt8))), (4, .string (bs x6))] a ∧ Stw ⟨Y, [], w0⟩ (Eb b1 p0 v1) [] w) ?_ ?_
 ·
  have H := G2
  clear G2 K2
  refine Ak (Ab ?_)
  refine ls F W Aa (Ag F Aa).q fun a w F W => ?_
  refine Ae (Ac (AP ?_))
  refine Cx H (fun s a w => Fr 64 [] [(1, .pointer (some ⟨b1, 0, none⟩)), (2, .string (bs ([] : List UInt8))), (3, .string (bs x5)), (4, .string (bs s.1)), (5, .int .i64 s.2)] a ∧ Stw ⟨Y, [], w0⟩ (Eb b1 p0 v1) [] w) ⟨F.re ⟨rfl, Aa, Aa, Aa, Aa, trivial⟩, W⟩ fun s o a w H L3 hR => ?_
  obtain ⟨x7, x8⟩ := s
  obtain ⟨F, W⟩ := hR
  have F : Fr 64 [] [(1, .pointer (some ⟨b1, 0, none⟩)), (2, .string (bs ([] : List UInt8))), (3, .string (bs x5)), (4, .string (bs x7)), (5, .int .i64 x8)] a := F
  have W : Stw ⟨Y, [], w0⟩ (Eb b1 p0 v1) [] w := W
  rw [CT] at H
  refine Ak (Ak (Ab ?_))
  refine ls F W Aa (Ah F Aa).q fun a w F W => ?_
  refine ls F W Aa (Aj CJ Aa Aa Aa Ix F Aa 3 Aa).q fun a w F W => ?_
  refine ls F W Aa (Av (v := v1) 0 F Aa Aa Ix Aa).q fun a w F W => ?_
  refine ls F W Aa (D7 (r := CS) (l := p0.un.2.2.2) Om Aa F Aa (AM CL h1 (Ay h_v1))).q fun a w F W => ?_
  refine ls F W Aa (Co F Aa Aa).q fun a w F W => ?_
  refine Ae (Ac ?_)
  refine Az F Aa (fun hb => ?_) fun hb => ?_
  ·
   have H := AW (Bw hb) H
   rw [hb] at F
   clear hb
   refine AA (Ac (Ak (AP (Ak (Ab ?_)))))
   refine ls F W Aa (Aj CJ Aa Aa Aa Ix F Aa 3 Aa).q fun a w F W => ?_
   refine ls F W Aa (Av (v := v1) 0 F Aa Aa Ix Aa).q fun a w F W => ?_
   refine ls F W Aa (Ah F Aa).q fun a w F W => ?_
   obtain ⟨x9, h6, H⟩ := Aq H
   obtain ⟨v3, h7, h8⟩ := D5 h1 h6
   have h9 : Ir v3 = [.int .i64 x9.un.1, .int .i64 x9.un.2.1, .int .i64 x9.un.2.2.1, (v3.2.2.2.1)] := congrArg (fun q : Tr34 => ([.int .i64 q.un.1, .int .i64 q.un.2.1, .int .i64 q.un.2.2.1, (v3.2.2.2.1)] : List Value)) h8
   refine ls F W Aa (Cg (r := I8) St F Aa Aa (Ay h_v1) h7).q fun a w F W => ?_
   refine ls F W Aa (BC (y := Value.agg #[.int .i64 x9.un.1, .int .i64 x9.un.2.1, .int .i64 x9.un.2.2.1, (v3.2.2.2.1)]) (j := 0) (i := x8) (enc := Ir) F Aa Aa (Ay h_v1) h7 Oq IA (by rw [h9]; rfl)).q fun a w F W => ?_
   obtain ⟨x10, h10, H⟩ := Aq H
   refine ls F W Aa (A0 (v := Value.string (bs x10)) F UU Aa (fun w W => ih any w ((v3.2.2.2.1)) x9 _ h10 (((Ci (Ay h_v1) h7 (AE.snd (AE.snd (AE.snd AE.here))) (congrArg (fun q : Tr34 => q.un.2.2.2) h8)) : DZ _ _ _ _ _ _) w W).nx)) fun a w F W => ?_
   refine ls F W Aa (Ag F Aa).q fun a w F W => ?_
   refine Ae (Ac ?_)
   obtain ⟨o4, G4, K4⟩ := Aq H
   refine A1 (fun a w => ∃ x11 : List UInt8, some (x11) = some o4 ∧ Fr 64 [] [(1, .pointer (some ⟨b1, 0, none⟩)), (2, .string (bs ([] : List UInt8))), (3, .string (bs x5)), (4, .string (bs x7)), (5, .int .i64 x8), (6, .string (bs x11))] a ∧ Stw ⟨Y, [], w0⟩ (Eb b1 p0 v1) [] w) ?_ ?_
   ·
    have H := G4
    clear G4 K4
    refine Ak ?_
    obtain ⟨v4, h11, h12⟩ := Sl.ex CL (Sl.at_ h_v1 h7 (AE.snd (AE.snd (AE.snd AE.here))) (congrArg (fun q : Tr34 => q.un.2.2.2) h8))
    refine Ab ?_
    refine ls F W Aa (Aj CJ Aa Aa Aa Ix F Aa 3 Aa).q fun a w F W => ?_
    refine ls F W Aa (Av (v := v1) 0 F Aa Aa Ix Aa).q fun a w F W => ?_
    refine ls F W Aa (Ah F Aa).q fun a w F W => ?_
    obtain ⟨x12, h13, H⟩ := Aq H
    obtain ⟨v5, h14, h15⟩ := D5 h1 h13
    have h16 : Ir v5 = [.int .i64 x12.un.1, .int .i64 x12.un.2.1, .int .i64 x12.un.2.2.1, (v5.2.2.2.1)] := congrArg (fun q : Tr34 => ([.int .i64 q.un.1, .int .i64 q.un.2.1, .int .i64 q.un.2.2.1, (v5.2.2.2.1)] : List Value)) h15
    refine ls F W Aa (Cg (r := I8) St F Aa Aa (Ay h_v1) h14).q fun a w F W => ?_
    refine ls F W Aa (Aj CJ Aa Aa Aa T3 F Aa (M0 v1 + (x8).toNat * 4) Aa).q fun a w F W => ?_
    refine ls F W Aa (BC (y := Value.int .i64 x12.un.1) (j := 0) (i := x8) (enc := Ir) F Aa Aa (Ay h_v1) h14 Oq T3 (by rw [h16]; rfl)).q fun a w F W => ?_
    refine ls F W Aa (C2 F Aa Aa).q fun a w F W => ?_
    refine Ae (Ac ?_)
    refine Az F Aa (fun hb => ?_) fun hb => ?_
    ·
     have H := AW (Bw hb) H
     rw [hb] at F
     clear hb
     refine Ab ?_
     refine ls F W Aa (Ah F Aa).q fun a w F W => ?_
     obtain ⟨x13, h17, H⟩ := Aq H
     refine ls F W Aa (Cw (l := ([40] : List UInt8)) (m := x10) F Aa Aa h17).q fun a w F W => ?_
     obtain ⟨x14, h18, H⟩ := Aq H
     refine ls F W Aa (Cw (l := x13) (m := ([41] : List UInt8)) F Aa Aa h18).q fun a w F W => ?_
     refine ls F W Aa (Ag F Aa).q fun a w F W => ?_
     refine Ae (Ac ?_)
     exact ⟨_, H, F.re ⟨rfl, Aa, Aa, Aa, Aa, Aa, trivial⟩, W⟩
    have H := AY (Bx hb) H
    rw [hb] at F
    clear hb
    refine AA (Ac ?_)
    exact ⟨_, H, F.re ⟨rfl, Aa, Aa, Aa, Aa, Aa, trivial⟩, W⟩
   rintro a w ⟨x11, hj, F, W⟩
   have hj := AK hj
   subst hj
   have H := K4
   clear G4 K4
   obtain ⟨o5, G5, K5⟩ := Aq H
   refine A1 (fun a w => ∃ x15 : List UInt8, some (x15) = some o5 ∧ Fr 64 [] [(1, .pointer (some ⟨b1, 0, none⟩)), (2, .string (bs ([] : List UInt8))), (3, .string (bs x5)), (4, .string (bs x15)), (5, .int .i64 x8), (6, .string (bs x11))] a ∧ Stw ⟨Y, [], w0⟩ (Eb b1 p0 v1) [] w) ?_ ?_
   ·
    have H := G5
    clear G5 K5
    refine Ak (Ab ?_)
    refine ls F W Aa (Ah F Aa).q fun a w F W => ?_
    refine ls F W Aa (C2 F Aa Aa).q fun a w F W => ?_
    refine Ae (Ac ?_)
    refine Az F Aa (fun hb => ?_) fun hb => ?_
    ·
     have H := AW (Bw hb) H
     rw [hb] at F
     clear hb
     refine Ab ?_
     iterate 2 refine ls F W Aa (Ah F Aa).q fun a w F W => ?_
     obtain ⟨x16, h19, H⟩ := Aq H
     refine ls F W Aa (Cw (l := x7) (m := x5) F Aa Aa h19).q fun a w F W => ?_
     refine ls F W Aa (Ag F Aa).q fun a w F W => ?_
     refine Ae (Ac ?_)
     exact ⟨_, H, F.re ⟨rfl, Aa, Aa, Aa, Aa, Aa, trivial⟩, W⟩
    have H := AY (Bx hb) H
    rw [hb] at F
    clear hb
    refine AA (Ac ?_)
    exact ⟨_, H, F.re ⟨rfl, Aa, Aa, Aa, Aa, Aa, trivial⟩, W⟩
   rintro a w ⟨x15, hj, F, W⟩
   have hj := AK hj
   subst hj
   have H := K5
   clear G5 K5
   refine Ab ?_
   iterate 2 refine ls F W Aa (Ah F Aa).q fun a w F W => ?_
   obtain ⟨x17, h20, H⟩ := Aq H
   refine ls F W Aa (Cw (l := x15) (m := x11) F Aa Aa h20).q fun a w F W => ?_
   refine ls F W Aa (Ag F Aa).q fun a w F W => ?_
   refine Ae (Bn (Ac (Ab ?_)))
   refine ls F W Aa (Ah F Aa).q fun a w F W => ?_
   refine ls F W Aa (C5 F Aa Aa Aa).q fun a w F W => ?_
   refine ls F W Aa (Ag F Aa).q fun a w F W => ?_
   refine Ae (Ac ?_)
   exact ⟨_, H, F.re ⟨rfl, Aa, Aa, Aa, Aa, trivial⟩, W⟩
  have H := AY (Bx hb) H
  rw [hb] at F
  clear hb
  refine Cz ?_
  iterate 2 refine C8 ?_
  refine Cy (Ac ?_)
  have H := L3 _ H
  exact ⟨_, H, F.re ⟨rfl, Aa, Aa, trivial⟩, W⟩
 rintro a w ⟨x6, hj, F, W⟩
 have hj := AK hj
 subst hj
 have H := K2
 clear G2 K2
 refine Ak (Ak (Ab ?_))
 refine ls F W Aa (Aj CJ Aa Aa Aa T3 F Aa 0 Aa).q fun a w F W => ?_
 refine ls F W Aa (Av (v := Value.int .i64 p0.un.1) 0 F Aa Aa T3 Aa).q fun a w F W => ?_
 refine ls F W Aa (Bd F Aa Aa).q fun a w F W => ?_
 refine Ae (Ac ?_)
 refine Az F Aa (fun hb => ?_) fun hb => ?_
 ·
  have H := AW (Bw hb) H
  rw [hb] at F
  clear hb
  refine Ak (Ab ?_)
  refine ls F W Aa (Ah F Aa).q fun a w F W => ?_
  obtain ⟨x18, h21, H⟩ := Aq H
  refine ls F W Aa (Cw (l := ([110, 111, 116, 32] : List UInt8)) (m := x6) F Aa Aa h21).q fun a w F W => ?_
  refine ls F W Aa (Ag F Aa).q fun a w F W => ?_
  refine Ae (Ac (Ax (AO ?_)))
  have H := AK H
  subst H
  refine AG (.inl Aa) F W Aa (AD F Aa) ?_
  exact ⟨rfl, W.done⟩
 have H := AY (Bx hb) H
 rw [hb] at F
 clear hb
 refine AA (Ac (Ak (Ab ?_)))
 refine ls F W Aa (Ah F Aa).q fun a w F W => ?_
 refine ls F W Aa (Ag F Aa).q fun a w F W => ?_
 refine Ae (Ac (Ax ?_))
 have H := AK H
 subst H
 refine AG (.inl Aa) F W Aa (AD F Aa) ?_
 exact ⟨rfl, W.done⟩
theorem OY : ∀ (n : Nat) (Y : Nat → Prop) (w0 : World) (v1 : Value) (p0 : Tr34) (r : List UInt8) (H : CX n p0 = some r) (h_v1 : Sl w0 (NX []) CS v1 p0.un.2.2.2), Calls Tryd.prog 20 #[.agg #[.int .i64 p0.un.1, .int .i64 p0.un.2.1, .int .i64 p0.un.2.2.1, v1]] w0 fun e w' => e = .returned (.string (bs r)) ∧ Below w0.heap.size w0 w' := by
  intro n
  induction n with
  | zero => intro Y w0 v1 p0 r H; exact nomatch H
  | succ n ih => intro Y w0 v1 p0 r H h_v1; exact Oz (CX n) ih Y w0 v1 p0 r H h_v1
theorem J6 (Y : Nat → Prop) (w0 : World) (v1 : Value) (p0 : Tr34) (r : List UInt8) (H : HT p0 = some r) (h_v1 : Sl w0 (NX []) CS v1 p0.un.2.2.2) :
    Calls Tryd.prog 20 #[.agg #[.int .i64 p0.un.1, .int .i64 p0.un.2.1, .int .i64 p0.un.2.2.1, v1]] w0 fun e w' => e = .returned (.string (bs r)) ∧ Below w0.heap.size w0 w' := by
  obtain ⟨n, H⟩ := BR H
  exact OY n Y w0 v1 p0 r H h_v1
theorem VO : Has Tryd.prog 16 := ⟨fun args w => An Tryd.func16 rfl (by decide) args w⟩
noncomputable def Cj (fRec : Tr37 → Option (List UInt8)) (p0 : Tr37) (x9 : List UInt8) : (List UInt8 × Int) → Option ((List UInt8 × Int) ⊕ (List UInt8))
  | (x14, x15) => (if x15 < (p0.un.2.2.2.2.length : Int) then (ix p0.un.2.2.2.2 x15).bind fun x16 => (fRec (Tr37.of (x16.un.1, Tr34.of (x16.un.2.1.un.1, x16.un.2.1.un.2.1, x16.un.2.1.un.2.2.1, x16.un.2.1.un.2.2.2), x16.un.2.2.1, x16.un.2.2.2.1, x16.un.2.2.2.2))).bind fun x17 => ((ix p0.un.2.2.2.2 x15).bind fun x19 => (if 2 < x19.un.1 then (DQ ([40] : List UInt8) x17).bind fun x20 => (DQ x20 ([41] : List UInt8)).bind fun x21 => some x21 else some x17)).bind fun x18 => (if 0 < x15 then (DQ x14 x9).bind fun x23 => some x23 else some x14).bind fun x22 => (DQ x22 x18).bind fun x24 => some (.inl (x24, DP (x15 + 1))) else some (.inr x14))
noncomputable def Ev (fRec : Tr37 → Option (List UInt8)) (p0 : Tr37) : Option (List UInt8) := (if (decide (p0.un.1 = 1) && decide (p0.un.2.1.un.1 = 1)) = true then some ([105, 100] : List UInt8) else (if (decide (p0.un.1 = 1) && decide (p0.un.2.1.un.1 = 2)) = true then some ([100, 114, 111, 112] : List UInt8) else (if p0.un.1 = 1 then (HT (Tr34.of (p0.un.2.1.un.1, p0.un.2.1.un.2.1, p0.un.2.1.un.2.2.1, p0.un.2.1.un.2.2.2))).bind fun x1 => (DQ ([119, 104, 101, 110, 32] : List UInt8) x1).bind fun x2 => some x2 else (if p0.un.1 = 2 then (HZ p0.un.2.2.1).bind fun x3 => (DQ x3 ([32, 58, 61, 32] : List UInt8)).bind fun x4 => (FB p0.un.2.2.2.1).bind fun x5 => (DQ x4 x5).bind fun x6 => some x6 else (if p0.un.1 = 4 then some ([32, 124, 32] : List UInt8) else some ([59, 32] : List UInt8)).bind fun x7 => (if p0.un.1 = 5 then (HT (Tr34.of (p0.un.2.1.un.1, p0.un.2.1.un.2.1, p0.un.2.1.un.2.2.1, p0.un.2.1.un.2.2.2))).bind fun x10 => (DQ ([105, 102, 32] : List UInt8) x10).bind fun x11 => (DQ x11 ([32, 116, 104, 101, 110, 32] : List UInt8)).bind fun x12 => some (x12, ([32, 101, 108, 115, 101, 32] : List UInt8)) else some (([] : List UInt8), x7)).bind fun (x8, x9) => (Br (Cj fRec p0 x9) (x8, 0)).bind fun x13 => some x13))))
noncomputable def Cv : Nat → Tr37 → Option (List UInt8)
  | 0 => fun _ => none
  | n + 1 => Ev (Cv n)
noncomputable def Kp (p0 : Tr37) : Option (List UInt8) := FY fun n => Cv n p0
theorem N1 (fRec : Tr37 → Option (List UInt8)) (ih : ∀ (Y : Nat → Prop) (w0 : World) (v1 : Value) (v2 : Value) (p0 : Tr37) (r : List UInt8) (H : fRec p0 = some r) (h_v1 : Sl w0 (NX []) CS v1 p0.un.2.1.un.2.2.2) (h_v2 : Sl w0 (NX []) Ff v2 p0.un.2.2.2.2), Calls Tryd.prog 16 #[.agg #[.int .i64 p0.un.1, .int .i64 p0.un.2.1.un.1, .int .i64 p0.un.2.1.un.2.1, .int .i64 p0.un.2.1.un.2.2.1, v1, .int .i64 p0.un.2.2.1, .int .i64 p0.un.2.2.2.1, v2]] w0 fun e w' => e = .returned (.string (bs r)) ∧ Below w0.heap.size w0 w') (Y : Nat → Prop) (w0 : World) (v1 : Value) (v2 : Value) (p0 : Tr37) (r : List UInt8) (H : Ev fRec p0 = some r) (h_v1 : Sl w0 (NX []) CS v1 p0.un.2.1.un.2.2.2) (h_v2 : Sl w0 (NX []) Ff v2 p0.un.2.2.2.2) :
    Calls Tryd.prog 16 #[.agg #[.int .i64 p0.un.1, .int .i64 p0.un.2.1.un.1, .int .i64 p0.un.2.1.un.2.1, .int .i64 p0.un.2.1.un.2.2.1, v1, .int .i64 p0.un.2.2.1, .int .i64 p0.un.2.2.2.1, v2]] w0 fun e w' => e = .returned (.string (bs r)) ∧ Below w0.heap.size w0 w' := by
 refine enter Tryd.func16 Aa Tryd.ntmps16 Aa fun a F => ?_
 have W := Stw.start Y w0
 obtain ⟨v3, h1, h_v1⟩ := h_v1.ex CL
 obtain ⟨v4, h2, h_v2⟩ := h_v2.ex Fx
 unfold Ev at H
 refine Ak (Ab ?_)
 refine D6 (cs := (Ce p0 v1 v2)) F W Aa Aa Aa fun b1 a w F W => ?_
 refine ls F W Aa (Ag (v := Value.string (bs ([] : List UInt8))) F Aa).q fun a w F W => ?_
 refine Ae (Ac (Ak ?_))
 refine A1 (fun a w => Fr 86 [] [(1, .pointer (some ⟨b1, 0, none⟩)), (2, .string (bs ([] : List UInt8))), (15, .bool (decide (p0.un.1 = 1) && decide (p0.un.2.1.un.1 = 1)))] a ∧ Stw ⟨Y, [], w0⟩ (Ch b1 p0 v1 v2) [] w) ?_ ?_
 ·
  refine Ab ?_
  refine ls F W Aa (Aj BX Aa Aa Aa T3 F Aa 0 Aa).q fun a w F W => ?_
  refine ls F W Aa (Av (v := Value.int .i64 p0.un.1) 0 F Aa Aa T3 Aa).q fun a w F W => ?_
  refine ls F W Aa (Bd F Aa Aa).q fun a w F W => ?_
  refine ls F W Aa (Ah F Aa).q fun a w F W => ?_
  rcases Bool.eq_false_or_eq_true (decide (p0.un.1 = 1)) with hb0 | hb0
  ·
   rw [hb0] at F
   refine Au F W (Ad F Aa Aa Aa Aa) Aa (Al Aa) (Aj BX Aa Aa Aa IA F Aa 1 Aa).q fun a w F W => ?_
   refine Au F W (Ad F Aa Aa Aa Aa) Aa (Al Aa) (Aj CJ Aa Aa Aa T3 F Aa 1 Aa).q fun a w F W => ?_
   refine Au F W (Ad F Aa Aa Aa Aa) Aa (Al Aa) (Av (v := Value.int .i64 p0.un.2.1.un.1) 0 F Aa Aa T3 Aa).q fun a w F W => ?_
   refine Au F W (Ad F Aa Aa Aa Aa) Aa (Al Aa) (Bd F Aa Aa).q fun a w F W => ?_
   refine ls F W Aa (As F Aa Aa Aa).q fun a w F W => ?_
   refine Ae (Ac ?_)
   exact ⟨F.re ⟨rfl, Aa, (Dq (by try rw [hb0]; all_goals simp only [Dr])), trivial⟩, W⟩
  rw [hb0] at F
  iterate 4 refine Cd F Aa Aa Aa Aa Aa Aa Aa fun a F => ?_
  refine ls F W Aa (Ap F Aa Aa Aa).q fun a w F W => ?_
  refine Ae (Ac ?_)
  exact ⟨F.re ⟨rfl, Aa, (Dq (by try rw [hb0]; all_goals simp only [Dr])), trivial⟩, W⟩
 rintro a w ⟨F, W⟩
 refine Az F Aa (fun hb => ?_) fun hb => ?_
 ·
  have H := AW hb H
  rw [hb] at F
  clear hb
  refine Ak (Ab ?_)
  refine ls F W Aa (Ag (v := Value.string (bs ([105, 100] : List UInt8))) F Aa).q fun a w F W => ?_
  refine Ae (Ac (Ax (AO ?_)))
  have H := AK H
  subst H
  refine AG (.inl Aa) F W Aa (AD F Aa) ?_
  exact ⟨rfl, W.done⟩
 have H := AY (by rw [hb]; decide) H
 rw [hb] at F
 clear hb
 refine AA (Ac (Ak ?_))
 refine A1 (fun a w => Fr 86 [] [(1, .pointer (some ⟨b1, 0, none⟩)), (2, .string (bs ([] : List UInt8))), (24, .bool (decide (p0.un.1 = 1) && decide (p0.un.2.1.un.1 = 2)))] a ∧ Stw ⟨Y, [], w0⟩ (Ch b1 p0 v1 v2) [] w) ?_ ?_
 ·
  refine Ab ?_
  refine ls F W Aa (Aj BX Aa Aa Aa T3 F Aa 0 Aa).q fun a w F W => ?_
  refine ls F W Aa (Av (v := Value.int .i64 p0.un.1) 0 F Aa Aa T3 Aa).q fun a w F W => ?_
  refine ls F W Aa (Bd F Aa Aa).q fun a w F W => ?_
  refine ls F W Aa (Ah F Aa).q fun a w F W => ?_
  rcases Bool.eq_false_or_eq_true (decide (p0.un.1 = 1)) with hb0 | hb0
  ·
   rw [hb0] at F
   refine Au F W (Ad F Aa Aa Aa Aa) Aa (Al Aa) (Aj BX Aa Aa Aa IA F Aa 1 Aa).q fun a w F W => ?_
   refine Au F W (Ad F Aa Aa Aa Aa) Aa (Al Aa) (Aj CJ Aa Aa Aa T3 F Aa 1 Aa).q fun a w F W => ?_
   refine Au F W (Ad F Aa Aa Aa Aa) Aa (Al Aa) (Av (v := Value.int .i64 p0.un.2.1.un.1) 0 F Aa Aa T3 Aa).q fun a w F W => ?_
   refine Au F W (Ad F Aa Aa Aa Aa) Aa (Al Aa) (Bd F Aa Aa).q fun a w F W => ?_
   refine ls F W Aa (As F Aa Aa Aa).q fun a w F W => ?_
   refine Ae (Ac ?_)
   exact ⟨F.re ⟨rfl, Aa, (Dq (by try rw [hb0]; all_goals simp only [Dr])), trivial⟩, W⟩
  rw [hb0] at F
  iterate 4 refine Cd F Aa Aa Aa Aa Aa Aa Aa fun a F => ?_
  refine ls F W Aa (Ap F Aa Aa Aa).q fun a w F W => ?_
  refine Ae (Ac ?_)
  exact ⟨F.re ⟨rfl, Aa, (Dq (by try rw [hb0]; all_goals simp only [Dr])), trivial⟩, W⟩
 rintro a w ⟨F, W⟩
 refine Az F Aa (fun hb => ?_) fun hb => ?_
 ·
  have H := AW hb H
  rw [hb] at F
  clear hb
  refine Ak (Ab ?_)
  refine ls F W Aa (Ag (v := Value.string (bs ([100, 114, 111, 112] : List UInt8))) F Aa).q fun a w F W => ?_
  refine Ae (Ac (Ax (AO ?_)))
  have H := AK H
  subst H
  refine AG (.inl Aa) F W Aa (AD F Aa) ?_
  exact ⟨rfl, W.done⟩
 have H := AY (by rw [hb]; decide) H
 rw [hb] at F
 clear hb
 refine AA (Ac (Ak (Ak (Ab ?_))))
 refine ls F W Aa (Aj BX Aa Aa Aa T3 F Aa 0 Aa).q fun a w F W => ?_
 refine ls F W Aa (Av (v := Value.int .i64 p0.un.1) 0 F Aa Aa T3 Aa).q fun a w F W => ?_
 refine ls F W Aa (Bd F Aa Aa).q fun a w F W => ?_
 refine Ae (Ac ?_)
 refine Az F Aa (fun hb => ?_) fun hb => ?_
 ·
  have H := AW (Bw hb) H
  rw [hb] at F
  clear hb
  refine Ak (Ab ?_)
  refine ls F W Aa (Aj BX Aa Aa Aa IA F Aa 1 Aa).q fun a w F W => ?_
  refine ls F W Aa (Av (v := Value.agg #[.int .i64 p0.un.2.1.un.1, .int .i64 p0.un.2.1.un.2.1, .int .i64 p0.un.2.1.un.2.2.1, v1]) 0 F Aa Aa IA Aa).q fun a w F W => ?_
  obtain ⟨x1, h3, H⟩ := Aq H
  refine ls F W Aa (A0 (v := Value.string (bs x1)) F UU Aa (fun w W => J6 any w (v1) (Tr34.of (p0.un.2.1.un.1, p0.un.2.1.un.2.1, p0.un.2.1.un.2.2.1, p0.un.2.1.un.2.2.2)) _ h3 (((AM CL h1 (Ay h_v1)) : DZ _ _ _ _ _ _) w W).nx)) fun a w F W => ?_
  obtain ⟨x2, h4, H⟩ := Aq H
  refine ls F W Aa (Cw (l := ([119, 104, 101, 110, 32] : List UInt8)) (m := x1) F Aa Aa h4).q fun a w F W => ?_
  refine ls F W Aa (Ag F Aa).q fun a w F W => ?_
  refine Ae (Ac (Ax (AO ?_)))
  have H := AK H
  subst H
  refine AG (.inl Aa) F W Aa (AD F Aa) ?_
  exact ⟨rfl, W.done⟩
 have H := AY (Bx hb) H
 rw [hb] at F
 clear hb
 refine AA (Ac (Ak (Ak (Ab ?_))))
 refine ls F W Aa (Aj BX Aa Aa Aa T3 F Aa 0 Aa).q fun a w F W => ?_
 refine ls F W Aa (Av (v := Value.int .i64 p0.un.1) 0 F Aa Aa T3 Aa).q fun a w F W => ?_
 refine ls F W Aa (Bd F Aa Aa).q fun a w F W => ?_
 refine Ae (Ac ?_)
 refine Az F Aa (fun hb => ?_) fun hb => ?_
 ·
  have H := AW (Bw hb) H
  rw [hb] at F
  clear hb
  refine Ak ?_
  refine EQ W MO (by kernel_rfl) ?_
  refine qs F Aa (Aj BX Aa Aa Aa T3 F Aa 5 Aa).q fun a F => ?_
  refine qs F Aa (Av (v := Value.int .i64 p0.un.2.2.1) 0 F Aa Aa T3 Aa).q fun a F => ?_
  obtain ⟨x3, h5, H⟩ := Aq H
  refine qs F Aa (A0 (v := Value.string (bs x3)) F VZ Aa (fun w W => Mf any w p0.un.2.2.1 _ h5)) fun a F => ?_
  obtain ⟨x4, h6, H⟩ := Aq H
  refine qs F Aa (Cw (l := x3) (m := ([32, 58, 61, 32] : List UInt8)) F Aa Aa h6).q fun a F => ?_
  refine qs F Aa (Aj BX Aa Aa Aa T3 F Aa 6 Aa).q fun a F => ?_
  refine qs F Aa (Av (v := Value.int .i64 p0.un.2.2.2.1) 0 F Aa Aa T3 Aa).q fun a F => ?_
  obtain ⟨x5, h7, H⟩ := Aq H
  refine qs F Aa (A0 (v := Value.string (bs x5)) F Uo Aa (fun w W => Kv any w p0.un.2.2.2.1 _ h7)) fun a F => ?_
  obtain ⟨x6, h8, H⟩ := Aq H
  refine qs F Aa (Cw (l := x4) (m := x5) F Aa Aa h8).q fun a F => ?_
  refine qs F Aa (Ag F Aa).q fun a F => ?_
  refine Cr fun w W => ?_
  refine Ac (Ax (AO ?_))
  have H := AK H
  subst H
  refine AG (.inl Aa) F W Aa (AD F Aa) ?_
  exact ⟨rfl, W.done⟩
 have H := AY (Bx hb) H
 rw [hb] at F
 clear hb
 refine AA (Ac (Ak (Ab ?_)))
 refine ls F W Aa (Ag (v := Value.string (bs ([] : List UInt8))) F Aa).q fun a w F W => ?_
 refine ls F W Aa (Ag (v := Value.string (bs ([59, 32] : List UInt8))) F Aa).q fun a w F W => ?_
 refine Ae (Ac ?_)
 obtain ⟨o1, G1, K1⟩ := Aq H
 refine A1 (fun a w => ∃ x7 : List UInt8, some (x7) = some o1 ∧ Fr 86 [] [(1, .pointer (some ⟨b1, 0, none⟩)), (2, .string (bs ([] : List UInt8))), (3, .string (bs ([] : List UInt8))), (4, .string (bs x7))] a ∧ Stw ⟨Y, [], w0⟩ (Ch b1 p0 v1 v2) [] w) ?_ ?_
 ·
  have H := G1
  clear G1 K1
  refine Ak (Ab ?_)
  refine ls F W Aa (Aj BX Aa Aa Aa T3 F Aa 0 Aa).q fun a w F W => ?_
  refine ls F W Aa (Av (v := Value.int .i64 p0.un.1) 0 F Aa Aa T3 Aa).q fun a w F W => ?_
  refine ls F W Aa (Bd F Aa Aa).q fun a w F W => ?_
  refine Ae (Ac ?_)
  refine Az F Aa (fun hb => ?_) fun hb => ?_
  ·
   have H := AW (Bw hb) H
   rw [hb] at F
   clear hb
   refine Ab ?_
   refine ls F W Aa (Ag (v := Value.string (bs ([32, 124, 32] : List UInt8))) F Aa).q fun a w F W => ?_
   refine Ae (Ac ?_)
   exact ⟨_, H, F.re ⟨rfl, Aa, Aa, Aa, trivial⟩, W⟩
  have H := AY (Bx hb) H
  rw [hb] at F
  clear hb
  refine AA (Ac ?_)
  exact ⟨_, H, F.re ⟨rfl, Aa, Aa, Aa, trivial⟩, W⟩
 rintro a w ⟨x7, hj, F, W⟩
 have hj := AK hj
 subst hj
 have H := K1
 clear G1 K1
 obtain ⟨o2, G2, K2⟩ := Aq H
 refine A1 (fun a w => ∃ x8 : List UInt8, ∃ x9 : List UInt8, some ((x8, x9)) = some o2 ∧ Fr 86 [] [(1, .pointer (some ⟨b1, 0, none⟩)), (2, .string (bs ([] : List UInt8))), (3, .string (bs x8)), (4, .string (bs x9))] a ∧ Stw ⟨Y, [], w0⟩ (Ch b1 p0 v1 v2) [] w) ?_ ?_
 ·
  have H := G2
  clear G2 K2
  refine Ak (Ab ?_)
  refine ls F W Aa (Aj BX Aa Aa Aa T3 F Aa 0 Aa).q fun a w F W => ?_
  refine ls F W Aa (Av (v := Value.int .i64 p0.un.1) 0 F Aa Aa T3 Aa).q fun a w F W => ?_
  refine ls F W Aa (Bd F Aa Aa).q fun a w F W => ?_
  refine Ae (Ac ?_)
  refine Az F Aa (fun hb => ?_) fun hb => ?_
  ·
   have H := AW (Bw hb) H
   rw [hb] at F
   clear hb
   refine Ab ?_
   refine ls F W Aa (Aj BX Aa Aa Aa IA F Aa 1 Aa).q fun a w F W => ?_
   refine ls F W Aa (Av (v := Value.agg #[.int .i64 p0.un.2.1.un.1, .int .i64 p0.un.2.1.un.2.1, .int .i64 p0.un.2.1.un.2.2.1, v1]) 0 F Aa Aa IA Aa).q fun a w F W => ?_
   obtain ⟨x10, h9, H⟩ := Aq H
   refine ls F W Aa (A0 (v := Value.string (bs x10)) F UU Aa (fun w W => J6 any w (v1) (Tr34.of (p0.un.2.1.un.1, p0.un.2.1.un.2.1, p0.un.2.1.un.2.2.1, p0.un.2.1.un.2.2.2)) _ h9 (((AM CL h1 (Ay h_v1)) : DZ _ _ _ _ _ _) w W).nx)) fun a w F W => ?_
   obtain ⟨x11, h10, H⟩ := Aq H
   refine ls F W Aa (Cw (l := ([105, 102, 32] : List UInt8)) (m := x10) F Aa Aa h10).q fun a w F W => ?_
   obtain ⟨x12, h11, H⟩ := Aq H
   refine ls F W Aa (Cw (l := x11) (m := ([32, 116, 104, 101, 110, 32] : List UInt8)) F Aa Aa h11).q fun a w F W => ?_
   refine ls F W Aa (Ag F Aa).q fun a w F W => ?_
   refine ls F W Aa (Ag (v := Value.string (bs ([32, 101, 108, 115, 101, 32] : List UInt8))) F Aa).q fun a w F W => ?_
   refine Ae (Ac ?_)
   exact ⟨_, _, H, F.re ⟨rfl, Aa, Aa, Aa, trivial⟩, W⟩
  have H := AY (Bx hb) H
  rw [hb] at F
  clear hb
  refine AA (Ac ?_)
  exact ⟨_, _, H, F.re ⟨rfl, Aa, Aa, Aa, trivial⟩, W⟩
 rintro a w ⟨x8, x9, hj, F, W⟩
 have hj := AK hj
 subst hj
 have H := K2
 clear G2 K2
 obtain ⟨o3, G3, K3⟩ := Aq H
 refine A1 (fun a w => ∃ x13 : List UInt8, some (x13) = some o3 ∧ Fr 86 [] [(2, .string (bs ([] : List UInt8))), (3, .string (bs x13))] a ∧ Stw ⟨Y, [], w0⟩ (Ch b1 p0 v1 v2) [] w) ?_ ?_
 ·
  have H := G3
  clear G3 K3
  refine Ak (Ab ?_)
  refine ls F W Aa (Ag F Aa).q fun a w F W => ?_
  refine Ae (Ac (AP ?_))
  refine Cx H (fun s a w => Fr 86 [] [(1, .pointer (some ⟨b1, 0, none⟩)), (2, .string (bs ([] : List UInt8))), (3, .string (bs s.1)), (4, .string (bs x9)), (5, .int .i64 s.2)] a ∧ Stw ⟨Y, [], w0⟩ (Ch b1 p0 v1 v2) [] w) ⟨F.re ⟨rfl, Aa, Aa, Aa, Aa, trivial⟩, W⟩ fun s o a w H L4 hR => ?_
  obtain ⟨x14, x15⟩ := s
  obtain ⟨F, W⟩ := hR
  have F : Fr 86 [] [(1, .pointer (some ⟨b1, 0, none⟩)), (2, .string (bs ([] : List UInt8))), (3, .string (bs x14)), (4, .string (bs x9)), (5, .int .i64 x15)] a := F
  have W : Stw ⟨Y, [], w0⟩ (Ch b1 p0 v1 v2) [] w := W
  rw [Cj] at H
  refine Ak (Ak (Ab ?_))
  refine ls F W Aa (Ah F Aa).q fun a w F W => ?_
  refine ls F W Aa (Aj BX Aa Aa Aa HK F Aa 7 Aa).q fun a w F W => ?_
  refine ls F W Aa (Av (v := v2) 0 F Aa Aa HK Aa).q fun a w F W => ?_
  refine ls F W Aa (D7 (r := Ff) (l := p0.un.2.2.2.2) Nb Aa F Aa (AM Fx h2 (Ay h_v2))).q fun a w F W => ?_
  refine ls F W Aa (Co F Aa Aa).q fun a w F W => ?_
  refine Ae (Ac ?_)
  refine Az F Aa (fun hb => ?_) fun hb => ?_
  ·
   have H := AW (Bw hb) H
   rw [hb] at F
   clear hb
   refine AA (Ac (Ak (AP (Ak (Ab ?_)))))
   refine ls F W Aa (Aj BX Aa Aa Aa HK F Aa 7 Aa).q fun a w F W => ?_
   refine ls F W Aa (Av (v := v2) 0 F Aa Aa HK Aa).q fun a w F W => ?_
   refine ls F W Aa (Ah F Aa).q fun a w F W => ?_
   obtain ⟨x16, h12, H⟩ := Aq H
   obtain ⟨v5, h13, h14⟩ := D5 h2 h12
   have h15 : HI v5 = [.int .i64 x16.un.1, .int .i64 x16.un.2.1.un.1, .int .i64 x16.un.2.1.un.2.1, .int .i64 x16.un.2.1.un.2.2.1, (v5.2.1.2.2.2.1), .int .i64 x16.un.2.2.1, .int .i64 x16.un.2.2.2.1, (v5.2.2.2.2.1)] := congrArg (fun q : Tr37 => ([.int .i64 q.un.1, .int .i64 q.un.2.1.un.1, .int .i64 q.un.2.1.un.2.1, .int .i64 q.un.2.1.un.2.2.1, (v5.2.1.2.2.2.1), .int .i64 q.un.2.2.1, .int .i64 q.un.2.2.2.1, (v5.2.2.2.2.1)] : List Value)) h14
   refine ls F W Aa (Cg (r := Kr) RC F Aa Aa (Ay h_v2) h13).q fun a w F W => ?_
   refine ls F W Aa (BC (y := Value.agg #[.int .i64 x16.un.1, .int .i64 x16.un.2.1.un.1, .int .i64 x16.un.2.1.un.2.1, .int .i64 x16.un.2.1.un.2.2.1, (v5.2.1.2.2.2.1), .int .i64 x16.un.2.2.1, .int .i64 x16.un.2.2.2.1, (v5.2.2.2.2.1)]) (j := 0) (i := x15) (enc := HI) F Aa Aa (Ay h_v2) h13 M9 MR (by rw [h15]; rfl)).q fun a w F W => ?_
   obtain ⟨x17, h16, H⟩ := Aq H
   refine ls F W Aa (A0 (v := Value.string (bs x17)) F VO Aa (fun w W => ih any w ((v5.2.1.2.2.2.1)) ((v5.2.2.2.2.1)) (Tr37.of (x16.un.1, Tr34.of (x16.un.2.1.un.1, x16.un.2.1.un.2.1, x16.un.2.1.un.2.2.1, x16.un.2.1.un.2.2.2), x16.un.2.2.1, x16.un.2.2.2.1, x16.un.2.2.2.2)) _ h16 (((Ci (Ay h_v2) h13 (AE.snd (AE.fst (AE.snd (AE.snd (AE.snd AE.here))))) (congrArg (fun q : Tr37 => q.un.2.1.un.2.2.2) h14)) : DZ _ _ _ _ _ _) w W).nx (((Ci (Ay h_v2) h13 (AE.snd (AE.snd (AE.snd (AE.snd AE.here)))) (congrArg (fun q : Tr37 => q.un.2.2.2.2) h14)) : DZ _ _ _ _ _ _) w W).nx)) fun a w F W => ?_
   refine ls F W Aa (Ag F Aa).q fun a w F W => ?_
   refine Ae (Ac ?_)
   obtain ⟨o5, G5, K5⟩ := Aq H
   refine A1 (fun a w => ∃ x18 : List UInt8, some (x18) = some o5 ∧ Fr 86 [] [(1, .pointer (some ⟨b1, 0, none⟩)), (2, .string (bs ([] : List UInt8))), (3, .string (bs x14)), (4, .string (bs x9)), (5, .int .i64 x15), (6, .string (bs x18))] a ∧ Stw ⟨Y, [], w0⟩ (Ch b1 p0 v1 v2) [] w) ?_ ?_
   ·
    have H := G5
    clear G5 K5
    refine Ak ?_
    obtain ⟨v6, h17, h18⟩ := Sl.ex CL (Sl.at_ h_v2 h13 (AE.snd (AE.fst (AE.snd (AE.snd (AE.snd AE.here))))) (congrArg (fun q : Tr37 => q.un.2.1.un.2.2.2) h14))
    obtain ⟨v7, h19, h20⟩ := Sl.ex Fx (Sl.at_ h_v2 h13 (AE.snd (AE.snd (AE.snd (AE.snd AE.here)))) (congrArg (fun q : Tr37 => q.un.2.2.2.2) h14))
    refine Ab ?_
    refine ls F W Aa (Aj BX Aa Aa Aa HK F Aa 7 Aa).q fun a w F W => ?_
    refine ls F W Aa (Av (v := v2) 0 F Aa Aa HK Aa).q fun a w F W => ?_
    refine ls F W Aa (Ah F Aa).q fun a w F W => ?_
    obtain ⟨x19, h21, H⟩ := Aq H
    obtain ⟨v8, h22, h23⟩ := D5 h2 h21
    have h24 : HI v8 = [.int .i64 x19.un.1, .int .i64 x19.un.2.1.un.1, .int .i64 x19.un.2.1.un.2.1, .int .i64 x19.un.2.1.un.2.2.1, (v8.2.1.2.2.2.1), .int .i64 x19.un.2.2.1, .int .i64 x19.un.2.2.2.1, (v8.2.2.2.2.1)] := congrArg (fun q : Tr37 => ([.int .i64 q.un.1, .int .i64 q.un.2.1.un.1, .int .i64 q.un.2.1.un.2.1, .int .i64 q.un.2.1.un.2.2.1, (v8.2.1.2.2.2.1), .int .i64 q.un.2.2.1, .int .i64 q.un.2.2.2.1, (v8.2.2.2.2.1)] : List Value)) h23
    refine ls F W Aa (Cg (r := Kr) RC F Aa Aa (Ay h_v2) h22).q fun a w F W => ?_
    refine ls F W Aa (Aj BX Aa Aa Aa T3 F Aa (M0 v2 + (x15).toNat * 8) Aa).q fun a w F W => ?_
    refine ls F W Aa (BC (y := Value.int .i64 x19.un.1) (j := 0) (i := x15) (enc := HI) F Aa Aa (Ay h_v2) h22 M9 T3 (by rw [h24]; rfl)).q fun a w F W => ?_
    refine ls F W Aa (C2 F Aa Aa).q fun a w F W => ?_
    refine Ae (Ac ?_)
    refine Az F Aa (fun hb => ?_) fun hb => ?_
    ·
     have H := AW (Bw hb) H
     rw [hb] at F
     clear hb
     refine Ab ?_
     refine ls F W Aa (Ah F Aa).q fun a w F W => ?_
     obtain ⟨x20, h25, H⟩ := Aq H
     refine ls F W Aa (Cw (l := ([40] : List UInt8)) (m := x17) F Aa Aa h25).q fun a w F W => ?_
     obtain ⟨x21, h26, H⟩ := Aq H
     refine ls F W Aa (Cw (l := x20) (m := ([41] : List UInt8)) F Aa Aa h26).q fun a w F W => ?_
     refine ls F W Aa (Ag F Aa).q fun a w F W => ?_
     refine Ae (Ac ?_)
     exact ⟨_, H, F.re ⟨rfl, Aa, Aa, Aa, Aa, Aa, trivial⟩, W⟩
    have H := AY (Bx hb) H
    rw [hb] at F
    clear hb
    refine AA (Ac ?_)
    exact ⟨_, H, F.re ⟨rfl, Aa, Aa, Aa, Aa, Aa, trivial⟩, W⟩
   rintro a w ⟨x18, hj, F, W⟩
   have hj := AK hj
   subst hj
   have H := K5
   clear G5 K5
   obtain ⟨o6, G6, K6⟩ := Aq H
   refine A1 (fun a w => ∃ x22 : List UInt8, some (x22) = some o6 ∧ Fr 86 [] [(1, .pointer (some ⟨b1, 0, none⟩)), (2, .string (bs ([] : List UInt8))), (3, .string (bs x22)), (4, .string (bs x9)), (5, .int .i64 x15), (6, .string (bs x18))] a ∧ Stw ⟨Y, [], w0⟩ (Ch b1 p0 v1 v2) [] w) ?_ ?_
   ·
    have H := G6
    clear G6 K6
    refine Ak (Ab ?_)
    refine ls F W Aa (Ah F Aa).q fun a w F W => ?_
    refine ls F W Aa (C2 F Aa Aa).q fun a w F W => ?_
    refine Ae (Ac ?_)
    refine Az F Aa (fun hb => ?_) fun hb => ?_
    ·
     have H := AW (Bw hb) H
     rw [hb] at F
     clear hb
     refine Ab ?_
     iterate 2 refine ls F W Aa (Ah F Aa).q fun a w F W => ?_
     obtain ⟨x23, h27, H⟩ := Aq H
     refine ls F W Aa (Cw (l := x14) (m := x9) F Aa Aa h27).q fun a w F W => ?_
     refine ls F W Aa (Ag F Aa).q fun a w F W => ?_
     refine Ae (Ac ?_)
     exact ⟨_, H, F.re ⟨rfl, Aa, Aa, Aa, Aa, Aa, trivial⟩, W⟩
    have H := AY (Bx hb) H
    rw [hb] at F
    clear hb
    refine AA (Ac ?_)
    exact ⟨_, H, F.re ⟨rfl, Aa, Aa, Aa, Aa, Aa, trivial⟩, W⟩
   rintro a w ⟨x22, hj, F, W⟩
   have hj := AK hj
   subst hj
   have H := K6
   clear G6 K6
   refine Ab ?_
   iterate 2 refine ls F W Aa (Ah F Aa).q fun a w F W => ?_
   obtain ⟨x24, h28, H⟩ := Aq H
   refine ls F W Aa (Cw (l := x22) (m := x18) F Aa Aa h28).q fun a w F W => ?_
   refine ls F W Aa (Ag F Aa).q fun a w F W => ?_
   refine Ae (Bn (Ac (Ab ?_)))
   refine ls F W Aa (Ah F Aa).q fun a w F W => ?_
   refine ls F W Aa (C5 F Aa Aa Aa).q fun a w F W => ?_
   refine ls F W Aa (Ag F Aa).q fun a w F W => ?_
   refine Ae (Ac ?_)
   exact ⟨_, H, F.re ⟨rfl, Aa, Aa, Aa, Aa, trivial⟩, W⟩
  have H := AY (Bx hb) H
  rw [hb] at F
  clear hb
  refine Cz ?_
  iterate 2 refine C8 ?_
  refine Cy (Ac ?_)
  have H := L4 _ H
  exact ⟨_, H, F.re ⟨rfl, Aa, trivial⟩, W⟩
 rintro a w ⟨x13, hj, F, W⟩
 have hj := AK hj
 subst hj
 have H := K3
 clear G3 K3
 refine Ak (Ab ?_)
 refine ls F W Aa (Ah F Aa).q fun a w F W => ?_
 refine ls F W Aa (Ag F Aa).q fun a w F W => ?_
 refine Ae (Ac (Ax ?_))
 have H := AK H
 subst H
 refine AG (.inl Aa) F W Aa (AD F Aa) ?_
 exact ⟨rfl, W.done⟩
theorem O4 : ∀ (n : Nat) (Y : Nat → Prop) (w0 : World) (v1 : Value) (v2 : Value) (p0 : Tr37) (r : List UInt8) (H : Cv n p0 = some r) (h_v1 : Sl w0 (NX []) CS v1 p0.un.2.1.un.2.2.2) (h_v2 : Sl w0 (NX []) Ff v2 p0.un.2.2.2.2), Calls Tryd.prog 16 #[.agg #[.int .i64 p0.un.1, .int .i64 p0.un.2.1.un.1, .int .i64 p0.un.2.1.un.2.1, .int .i64 p0.un.2.1.un.2.2.1, v1, .int .i64 p0.un.2.2.1, .int .i64 p0.un.2.2.2.1, v2]] w0 fun e w' => e = .returned (.string (bs r)) ∧ Below w0.heap.size w0 w' := by
  intro n
  induction n with
  | zero => intro Y w0 v1 v2 p0 r H; exact nomatch H
  | succ n ih => intro Y w0 v1 v2 p0 r H h_v1 h_v2; exact N1 (Cv n) ih Y w0 v1 v2 p0 r H h_v1 h_v2
theorem P2 (Y : Nat → Prop) (w0 : World) (v1 : Value) (v2 : Value) (p0 : Tr37) (r : List UInt8) (H : Kp p0 = some r) (h_v1 : Sl w0 (NX []) CS v1 p0.un.2.1.un.2.2.2) (h_v2 : Sl w0 (NX []) Ff v2 p0.un.2.2.2.2) :
    Calls Tryd.prog 16 #[.agg #[.int .i64 p0.un.1, .int .i64 p0.un.2.1.un.1, .int .i64 p0.un.2.1.un.2.1, .int .i64 p0.un.2.1.un.2.2.1, v1, .int .i64 p0.un.2.2.1, .int .i64 p0.un.2.2.2.1, v2]] w0 fun e w' => e = .returned (.string (bs r)) ∧ Below w0.heap.size w0 w' := by
  obtain ⟨n, H⟩ := BR H
  exact O4 n Y w0 v1 v2 p0 r H h_v1 h_v2
theorem U2 : Has Tryd.prog 22 := ⟨fun args w => An Tryd.func22 rfl (by decide) args w⟩
abbrev I0 (a0 : Nat) (a1 : Tr34) (a2 : Value) (a3 : Nat) (a4 : Nat) (a5 : Value) : List (Nat × List Value) := [(a0, [.int .i64 a1.un.1, .int .i64 a1.un.2.1, .int .i64 a1.un.2.2.1, a2]), (a3, [.int .i64 0, .int .i64 0, .int .i64 0, .slice none 0 0]), (a4, [.int .i64 a1.un.1, .int .i64 a1.un.2.1, .int .i64 a1.un.2.2.1, a5])]
noncomputable def C3 (fRec : Tr34 → Option Tr25) (p0 : Tr34) : (Int × List Tr25) → Option ((Int × List Tr25) ⊕ (List Tr25))
  | (x2, x3) => (if x2 < (p0.un.2.2.2.length : Int) then (ix p0.un.2.2.2 x2).bind fun x4 => (fRec x4).bind fun x5 => (DQ x3 ([x5] : List Tr25)).bind fun x6 => some (.inl (DP (x2 + 1), x6)) else some (.inr x3))
noncomputable def Er (fRec : Tr34 → Option Tr25) (p0 : Tr34) : Option Tr25 := (Br (C3 fRec p0) (0, [])).bind fun x1 => some (Tr25.of (p0.un.1, p0.un.2.1, p0.un.2.2.1, x1))
noncomputable def Ds : Nat → Tr34 → Option Tr25
  | 0 => fun _ => none
  | n + 1 => Er (Ds n)
noncomputable def I9 (p0 : Tr34) : Option Tr25 := FY fun n => Ds n p0
theorem OI (fRec : Tr34 → Option Tr25) (ih : ∀ (Y : Nat → Prop) (w0 : World) (v1 : Value) (p0 : Tr34) (r : Tr25) (H : fRec p0 = some r) (h_v1 : Sl w0 (NX []) CS v1 p0.un.2.2.2), Calls Tryd.prog 22 #[.agg #[.int .i64 p0.un.1, .int .i64 p0.un.2.1, .int .i64 p0.un.2.2.1, v1]] w0 fun e w' => ∃ x : Value, e = .returned (.agg #[.int .i64 r.un.1, .int .i64 r.un.2.1, .int .i64 r.un.2.2.1, x]) ∧ Stw ⟨Y, [], w0⟩ [] [row (x) 25 AR r.un.2.2.2] w') (Y : Nat → Prop) (w0 : World) (v1 : Value) (p0 : Tr34) (r : Tr25) (H : Er fRec p0 = some r) (h_v1 : Sl w0 (NX []) CS v1 p0.un.2.2.2) :
    Calls Tryd.prog 22 #[.agg #[.int .i64 p0.un.1, .int .i64 p0.un.2.1, .int .i64 p0.un.2.2.1, v1]] w0 fun e w' => ∃ x : Value, e = .returned (.agg #[.int .i64 r.un.1, .int .i64 r.un.2.1, .int .i64 r.un.2.2.1, x]) ∧ Stw ⟨Y, [], w0⟩ [] [row (x) 25 AR r.un.2.2.2] w' := by
 refine enter Tryd.func22 Aa Tryd.ntmps22 Aa fun a F => ?_
 have W := Stw.start Y w0
 obtain ⟨v2, h1, h_v1⟩ := h_v1.ex CL
 unfold Er at H
 refine Ak (Ab ?_)
 refine D6 (cs := (Du p0 v1)) F W Aa Aa Aa fun b1 a w F W => ?_
 refine Bi (cs := (Ct)) F W Aa NI Aa fun b2 a w F W => ?_
 refine Ae (Ac (Ak (Ab ?_)))
 refine ls F W Aa (Aj CJ Aa Aa Aa T3 F Aa 0 Aa).q fun a w F W => ?_
 refine ls F W Aa (Av (v := Value.int .i64 p0.un.1) 1 F Aa Aa T3 Aa).q fun a w F W => ?_
 refine ls F W Aa (Aj CJ Aa Aa Aa T3 F Aa 1 Aa).q fun a w F W => ?_
 refine ls F W Aa (Av (v := Value.int .i64 p0.un.2.1) 1 F Aa Aa T3 Aa).q fun a w F W => ?_
 refine ls F W Aa (Aj CJ Aa Aa Aa T3 F Aa 2 Aa).q fun a w F W => ?_
 refine ls F W Aa (Av (v := Value.int .i64 p0.un.2.2.1) 1 F Aa Aa T3 Aa).q fun a w F W => ?_
 refine ls F W Aa (B7 (v := Value.agg #[.int .i64 p0.un.1, .int .i64 p0.un.2.1, .int .i64 p0.un.2.2.1, .slice none 0 0]) SM F Aa Aa Aa).q fun a w F W => ?_
 refine Bi (cs := (Ct)) F W Aa NI Aa fun b3 a w F W => ?_
 refine AL (vs := [.int .i64 p0.un.1, .int .i64 p0.un.2.1, .int .i64 p0.un.2.2.1, .slice none 0 0]) (M' := [(b3, [.int .i64 p0.un.1, .int .i64 p0.un.2.1, .int .i64 p0.un.2.2.1, .slice none 0 0]), (b2, [.int .i64 0, .int .i64 0, .int .i64 0, .slice none 0 0]), (b1, [.int .i64 p0.un.1, .int .i64 p0.un.2.1, .int .i64 p0.un.2.2.1, v1])]) 0 F W Aa Aa Aa FW Aa Aa Aa Aa Aa fun w W => ?_
 refine Ae (Ac ?_)
 obtain ⟨o1, G1, K1⟩ := Aq H
 refine A1 (fun a w => ∃ x1 : List Tr25, ∃ v3 : Value, some (x1) = some o1 ∧ Fr 31 [] [(2, .pointer (some ⟨b2, 0, none⟩)), (3, .pointer (some ⟨b3, 0, none⟩))] a ∧ Stw ⟨Y, [], w0⟩ (I0 b3 p0 v3 b2 b1 v1) [row v3 25 AR x1] w) ?_ ?_
 ·
  have H := G1
  clear G1 K1
  refine Ak (Ab ?_)
  refine ls F W Aa (Ag F Aa).q fun a w F W => ?_
  refine Ae (Ac (AP ?_))
  have W := W.nilRow 25 AR
  have W := W.frontM (i := 2) Aa Aa
  have W := W.frontM (i := 2) Aa Aa
  have W := W.frontM (i := 2) Aa Aa
  refine Cx H (fun s a w => ∃ v4 : Value, Fr 31 [] [(1, .pointer (some ⟨b1, 0, none⟩)), (2, .pointer (some ⟨b2, 0, none⟩)), (3, .pointer (some ⟨b3, 0, none⟩)), (4, .int .i64 s.1)] a ∧ Stw ⟨Y, [], w0⟩ (I0 b3 p0 v4 b2 b1 v1) [row v4 25 AR s.2] w) ⟨(Value.slice none 0 0), F.re ⟨rfl, Aa, Aa, Aa, trivial⟩, W⟩ fun s o a w H L2 hR => ?_
  obtain ⟨x2, x3⟩ := s
  obtain ⟨v4, F, W⟩ := hR
  have F : Fr 31 [] [(1, .pointer (some ⟨b1, 0, none⟩)), (2, .pointer (some ⟨b2, 0, none⟩)), (3, .pointer (some ⟨b3, 0, none⟩)), (4, .int .i64 x2)] a := F
  have W : Stw ⟨Y, [], w0⟩ (I0 b3 p0 v4 b2 b1 v1) [row v4 25 AR x3] w := W
  rw [C3] at H
  refine Ak (Ak (Ab ?_))
  refine ls F W Aa (Ah F Aa).q fun a w F W => ?_
  refine ls F W Aa (Aj CJ Aa Aa Aa Ix F Aa 3 Aa).q fun a w F W => ?_
  refine ls F W Aa (Av (v := v1) 2 F Aa Aa Ix Aa).q fun a w F W => ?_
  refine ls F W Aa (D7 (r := CS) (l := p0.un.2.2.2) Om Aa F Aa (AM CL h1 (Ay h_v1))).q fun a w F W => ?_
  refine ls F W Aa (Co F Aa Aa).q fun a w F W => ?_
  refine Ae (Ac ?_)
  refine Az F Aa (fun hb => ?_) fun hb => ?_
  ·
   have H := AW (Bw hb) H
   rw [hb] at F
   clear hb
   refine AA (Ac (Ak (AP ?_)))
   obtain ⟨v5, h2, W⟩ := W.exR FZ
   refine GW [(true, 0), (true, 1), (true, 2), (true, 3), (true, 4), (true, 5), (true, 6), (false, 7), (false, 8), (false, 9), (true, 10), (false, 11)] (CN ⟨Y, [], w0⟩ [(some 9, b3, [.int .i64 p0.un.1, .int .i64 p0.un.2.1, .int .i64 p0.un.2.2.1, v4]), (some 7, b1, [.int .i64 p0.un.1, .int .i64 p0.un.2.1, .int .i64 p0.un.2.2.1, v1])] []) (fun ch a d v w h => by cases d <;> exact h) MO (by kernel_rfl) W (fun w W => ⟨_, _, W, (Aw (fun _ => (.head _)) (Aw (fun _ => (.tail _ (.tail _ (.head _)))) AB)), AB⟩) fun w W => ?_
   refine CK (R := []) F Aa Aa (yC fun M Z hN hZ => Aj Ja Aa Aa Aa QE F Aa 3 Aa) Aa Aa fun a F => ?_
   refine CK (R := [9]) F Aa Aa (yC fun M Z hN hZ => Cs (cs := (Du p0 v4)) (v := v4) F Aa (hN ((some 9), b3, (Du p0 v4)) (.head _) Aa) QE Aa) (by kernel_rfl) Aa fun a F => ?_
   refine CK (R := []) F Aa Aa (yC fun M Z hN hZ => Aj CJ Aa Aa Aa Ix F Aa 3 Aa) Aa Aa fun a F => ?_
   refine CK (R := [7, 6, 5]) F Aa Aa (yC fun M Z hN hZ => Cs (cs := (Du p0 v1)) (v := v1) F Aa (hN ((some 7), b1, (Du p0 v1)) (.tail _ (.head _)) Aa) Ix Aa) (by kernel_rfl) Aa fun a F => ?_
   refine CK (R := []) F Aa Aa (yC fun M Z hN hZ => Ah F Aa) Aa Aa fun a F => ?_
   obtain ⟨x4, h3, H⟩ := Aq H
   obtain ⟨v6, h4, h5⟩ := D5 h1 h3
   have h6 : Ir v6 = [.int .i64 x4.un.1, .int .i64 x4.un.2.1, .int .i64 x4.un.2.2.1, (v6.2.2.2.1)] := congrArg (fun q : Tr34 => ([.int .i64 q.un.1, .int .i64 q.un.2.1, .int .i64 q.un.2.2.1, (v6.2.2.2.1)] : List Value)) h5
   refine CK (R := []) F Aa Aa (yC fun M Z hN hZ => Cg (r := I8) St F Aa Aa (Ay h_v1) h4) Aa Aa fun a F => ?_
   refine CK (R := []) F Aa Aa (yC fun M Z hN hZ => BC (y := Value.agg #[.int .i64 x4.un.1, .int .i64 x4.un.2.1, .int .i64 x4.un.2.2.1, (v6.2.2.2.1)]) (j := 0) (i := x2) (enc := Ir) F Aa Aa (Ay h_v1) h4 Oq IA (by rw [h6]; rfl)) Aa Aa fun a F => ?_
   refine Fj Aa ?_
   obtain ⟨x5, h7, H⟩ := Aq H
   refine A2 (Ml := []) (Zl := []) (M := (I0 b3 p0 v4 b2 b1 v1)) (Z := [row v4 25 Ln v5]) (β := Value) (rv := fun x => .agg #[.int .i64 x5.un.1, .int .i64 x5.un.2.1, .int .i64 x5.un.2.2.1, x]) (MM := fun x => []) (ZZ := fun x => [row x 25 AR x5.un.2.2.2]) F W U2 Aa Aa (fun hL => ih _ w ((v6.2.2.2.1)) x4 _ h7 ((Ci (Ay h_v1) h4 (AE.snd (AE.snd (AE.snd AE.here))) (congrArg (fun q : Tr34 => q.un.2.2.2) h5)) w W).nx) fun x a w F W => ?_
   obtain ⟨v7, rfl⟩ : ∃ y, y = x := ⟨x, rfl⟩
   have W : Stw ⟨Y, [], w0⟩ (I0 b3 p0 v4 b2 b1 v1) [row v7 25 AR x5.un.2.2.2, row v4 25 Ln v5] w := W
   refine BZ (N2 := []) (NZ2 := []) (N3 := [(some 9, b3, [.int .i64 p0.un.1, .int .i64 p0.un.2.1, .int .i64 p0.un.2.2.1, v4]), (some 7, b1, [.int .i64 p0.un.1, .int .i64 p0.un.2.1, .int .i64 p0.un.2.2.1, v1])]) (NZ3 := []) W Aa Aa (Aw (fun _ => (.head _)) (Aw (fun h => AN (by kernel_rfl) h) AB)) AB ?_
   refine Fj Aa ?_
   have W := W.freeze
   refine FN (z := Value.agg #[.int .i64 0, .int .i64 0, .int .i64 0, .slice none 0 0]) (cs := (M4 x5 v7)) AR ([x5] : List Tr25) F W Aa Rl NI Aa Aa Aa (AX Aa Aa Aa B2) Aa Aa ⟨[Value.int .i64 x5.un.1, Value.int .i64 x5.un.2.1, Value.int .i64 x5.un.2.2.1, v7], _, Aa, (KO.2 ⟨[Value.int .i64 x5.un.1], [Value.int .i64 x5.un.2.1, Value.int .i64 x5.un.2.2.1, v7], Aa, Aa, ⟨[Value.int .i64 x5.un.2.1], [Value.int .i64 x5.un.2.2.1, v7], Aa, Aa, ⟨[Value.int .i64 x5.un.2.2.1], [v7], Aa, Aa, ⟨_, Aa, (W.item (i := 0) Aa)⟩⟩⟩⟩), Aa⟩ fun v8 a w F W => ?_
   refine BZ (N2 := []) (NZ2 := []) (N3 := [(some 9, b3, [.int .i64 p0.un.1, .int .i64 p0.un.2.1, .int .i64 p0.un.2.2.1, v4]), (some 7, b1, [.int .i64 p0.un.1, .int .i64 p0.un.2.1, .int .i64 p0.un.2.2.1, v1])]) (NZ3 := []) W Aa Aa (Aw (fun _ => (.head _)) (Aw (fun h => AN (by kernel_rfl) h) AB)) AB ?_
   refine Fj Aa ?_
   have W := W.frontZ (i := 2) Aa Aa
   have W := W.hideR FZ h2
   obtain ⟨x6, h8, H⟩ := Aq H
   refine EP (r := AR) (i := 0) F W Aa Rl Aa Aa Aa Aa (Fv W 1 Aa) h8 Aa fun v9 a w F W => ?_
   have W : Stw ⟨Y, [], w0⟩ (I0 b3 p0 v4 b2 b1 v1) [row v9 25 AR x6, row v8 25 AR ([x5] : List Tr25), AU v7 AR x5.un.2.2.2] w := W
   refine BZ (N2 := []) (NZ2 := []) (N3 := [(some 9, b3, [.int .i64 p0.un.1, .int .i64 p0.un.2.1, .int .i64 p0.un.2.2.1, v4]), (some 7, b1, [.int .i64 p0.un.1, .int .i64 p0.un.2.1, .int .i64 p0.un.2.2.1, v1])]) (NZ3 := []) W Aa Aa (Aw (fun h => AN (by kernel_rfl) h) (Aw (fun h => AN (by kernel_rfl) h) AB)) AB ?_
   refine CK (R := []) F Aa Aa (yC fun M Z hN hZ => Aj Ja Aa Aa Aa QE F Aa 3 Aa) Aa Aa fun a F => ?_
   refine Fj Aa ?_
   refine Kg (M' := (I0 b3 p0 v9 b2 b1 v1)) 0 F W Aa Aa Aa QE (W.one (k := 0) Aa) Aa Aa fun w W => ?_
   refine BZ (N2 := []) (NZ2 := []) (N3 := [(some 9, b3, [.int .i64 p0.un.1, .int .i64 p0.un.2.1, .int .i64 p0.un.2.2.1, v4]), (some 7, b1, [.int .i64 p0.un.1, .int .i64 p0.un.2.1, .int .i64 p0.un.2.2.1, v1])]) (NZ3 := []) W Aa Aa (Aw (fun h => AN (by kernel_rfl) h) (Aw (fun h => AN (by kernel_rfl) h) AB)) AB ?_
   refine He (Bn (Ac (Ab ?_)))
   refine ls F W Aa (Ah F Aa).q fun a w F W => ?_
   refine ls F W Aa (C5 F Aa Aa Aa).q fun a w F W => ?_
   refine ls F W Aa (Ag F Aa).q fun a w F W => ?_
   refine Ae (Ac ?_)
   have W := W.frontM (i := 2) Aa Aa
   have W := W.frontM (i := 2) Aa Aa
   have W := W.frontM (i := 2) Aa Aa
   have W := W.sub (M' := (I0 b3 p0 v9 b2 b1 v1)) (Z' := [row v9 25 AR x6]) (List.Sublist.refl _) (List.Sublist.cons_cons _ (List.nil_sublist _))
   exact ⟨_, H, (v9), F.re ⟨rfl, Aa, Aa, Aa, trivial⟩, W⟩
  have H := AY (Bx hb) H
  rw [hb] at F
  clear hb
  refine Cz ?_
  iterate 2 refine C8 ?_
  refine Cy (Ac ?_)
  have W := W.frontM (i := 2) Aa Aa
  have W := W.frontM (i := 2) Aa Aa
  have W := W.frontM (i := 2) Aa Aa
  have H := L2 _ H
  exact ⟨_, (v4), H, F.re ⟨rfl, Aa, trivial⟩, W⟩
 rintro a w ⟨x1, v3, hj, F, W⟩
 have hj := AK hj
 subst hj
 have H := K1
 clear G1 K1
 refine Ak (Ab ?_)
 refine ls F W Aa (Av (v := Value.agg #[.int .i64 p0.un.1, .int .i64 p0.un.2.1, .int .i64 p0.un.2.2.1, v3]) 0 F Aa Aa FW Aa).q fun a w F W => ?_
 refine AL (vs := (Du p0 v3)) (M' := [(b3, [.int .i64 p0.un.1, .int .i64 p0.un.2.1, .int .i64 p0.un.2.2.1, v3]), (b2, [.int .i64 p0.un.1, .int .i64 p0.un.2.1, .int .i64 p0.un.2.2.1, v3]), (b1, [.int .i64 p0.un.1, .int .i64 p0.un.2.1, .int .i64 p0.un.2.2.1, v1])]) 1 F W Aa Aa Aa FW Aa Aa Aa (Ai Aa (Ai Aa (Ai Aa (Ai (W.one (k := 0) Aa) Bp)))) Aa fun w W => ?_
 refine Ae (Ac (Ax ?_))
 have H := AK H
 subst H
 refine AG (.inl Aa) F W Aa (A3 1 F Aa Aa FW Aa) ?_
 have W := W.sub (M' := []) (Z' := [row v3 25 AR x1]) (List.nil_sublist _) (List.Sublist.refl _)
 exact ⟨(v3), Aa, W⟩
theorem Pd : ∀ (n : Nat) (Y : Nat → Prop) (w0 : World) (v1 : Value) (p0 : Tr34) (r : Tr25) (H : Ds n p0 = some r) (h_v1 : Sl w0 (NX []) CS v1 p0.un.2.2.2), Calls Tryd.prog 22 #[.agg #[.int .i64 p0.un.1, .int .i64 p0.un.2.1, .int .i64 p0.un.2.2.1, v1]] w0 fun e w' => ∃ x : Value, e = .returned (.agg #[.int .i64 r.un.1, .int .i64 r.un.2.1, .int .i64 r.un.2.2.1, x]) ∧ Stw ⟨Y, [], w0⟩ [] [row (x) 25 AR r.un.2.2.2] w' := by
  intro n
  induction n with
  | zero => intro Y w0 v1 p0 r H; exact nomatch H
  | succ n ih => intro Y w0 v1 p0 r H h_v1; exact OI (Ds n) ih Y w0 v1 p0 r H h_v1
theorem J7 (Y : Nat → Prop) (w0 : World) (v1 : Value) (p0 : Tr34) (r : Tr25) (H : I9 p0 = some r) (h_v1 : Sl w0 (NX []) CS v1 p0.un.2.2.2) :
    Calls Tryd.prog 22 #[.agg #[.int .i64 p0.un.1, .int .i64 p0.un.2.1, .int .i64 p0.un.2.2.1, v1]] w0 fun e w' => ∃ x : Value, e = .returned (.agg #[.int .i64 r.un.1, .int .i64 r.un.2.1, .int .i64 r.un.2.2.1, x]) ∧ Stw ⟨Y, [], w0⟩ [] [row (x) 25 AR r.un.2.2.2] w' := by
  obtain ⟨n, H⟩ := BR H
  exact Pd n Y w0 v1 p0 r H h_v1
theorem VY : Has Tryd.prog 18 := ⟨fun args w => An Tryd.func18 rfl (by decide) args w⟩
abbrev P3 (a0 : Nat) (a1 : Tr37) (a2 : Tr25) (a3 : Value) (a4 : Nat) (a5 : Nat) (a6 : Value) (a7 : Value) : List (Nat × List Value) := [(a0, [.int .i64 a1.un.1, .int .i64 a2.un.1, .int .i64 a2.un.2.1, .int .i64 a2.un.2.2.1, a3, .int .i64 a1.un.2.2.1, .int .i64 a1.un.2.2.2.1, .slice none 0 0]), (a4, [.int .i64 0, .int .i64 0, .int .i64 0, .int .i64 0, .slice none 0 0, .int .i64 0, .int .i64 0, .slice none 0 0]), (a5, [.int .i64 a1.un.1, .int .i64 a1.un.2.1.un.1, .int .i64 a1.un.2.1.un.2.1, .int .i64 a1.un.2.1.un.2.2.1, a6, .int .i64 a1.un.2.2.1, .int .i64 a1.un.2.2.2.1, a7])]
abbrev Sr (a0 : Nat) (a1 : Nat) (a2 : Tr37) (a3 : Value) (a4 : Value) : List (Nat × List Value) := [(a0, [.int .i64 0, .int .i64 0, .int .i64 0, .int .i64 0, .slice none 0 0, .int .i64 0, .int .i64 0, .slice none 0 0]), (a1, [.int .i64 a2.un.1, .int .i64 a2.un.2.1.un.1, .int .i64 a2.un.2.1.un.2.1, .int .i64 a2.un.2.1.un.2.2.1, a3, .int .i64 a2.un.2.2.1, .int .i64 a2.un.2.2.2.1, a4])]
abbrev RU (a0 : Tr37) (a1 : Tr25) (a2 : Value) : List Value := [.int .i64 a0.un.1, .int .i64 a1.un.1, .int .i64 a1.un.2.1, .int .i64 a1.un.2.2.1, a2, .int .i64 a0.un.2.2.1, .int .i64 a0.un.2.2.2.1, .slice none 0 0]
abbrev R1 (a0 : Nat) (a1 : Nat) (a2 : Nat) (a3 : Tr37) (a4 : Value) (a5 : Value) : List (Nat × List Value) := [(a0, [.int .i64 0, .int .i64 0, .int .i64 0, .int .i64 0, .slice none 0 0, .int .i64 0, .int .i64 0, .slice none 0 0]), (a1, [.int .i64 0, .int .i64 0, .int .i64 0, .int .i64 0, .slice none 0 0, .int .i64 0, .int .i64 0, .slice none 0 0]), (a2, [.int .i64 a3.un.1, .int .i64 a3.un.2.1.un.1, .int .i64 a3.un.2.1.un.2.1, .int .i64 a3.un.2.1.un.2.2.1, a4, .int .i64 a3.un.2.2.1, .int .i64 a3.un.2.2.2.1, a5])]
abbrev I3 (a0 : Nat) (a1 : Tr37) (a2 : Tr25) (a3 : Value) (a4 : Value) (a5 : Nat) (a6 : Nat) (a7 : Value) (a8 : Value) : List (Nat × List Value) := [(a0, [.int .i64 a1.un.1, .int .i64 a2.un.1, .int .i64 a2.un.2.1, .int .i64 a2.un.2.2.1, a3, .int .i64 a1.un.2.2.1, .int .i64 a1.un.2.2.2.1, a4]), (a5, [.int .i64 0, .int .i64 0, .int .i64 0, .int .i64 0, .slice none 0 0, .int .i64 0, .int .i64 0, .slice none 0 0]), (a6, [.int .i64 a1.un.1, .int .i64 a1.un.2.1.un.1, .int .i64 a1.un.2.1.un.2.1, .int .i64 a1.un.2.1.un.2.2.1, a7, .int .i64 a1.un.2.2.1, .int .i64 a1.un.2.2.2.1, a8])]
abbrev Qf (a0 : Tr37) (a1 : Tr25) (a2 : Value) (a3 : Value) : List Value := [.int .i64 a0.un.1, .int .i64 a1.un.1, .int .i64 a1.un.2.1, .int .i64 a1.un.2.2.1, a2, .int .i64 a0.un.2.2.1, .int .i64 a0.un.2.2.2.1, a3]
noncomputable def Dm (fRec : Tr37 → Option Tr28) (p0 : Tr37) : (Int × List Tr28) → Option ((Int × List Tr28) ⊕ (List Tr28))
  | (x3, x4) => (if x3 < (p0.un.2.2.2.2.length : Int) then (ix p0.un.2.2.2.2 x3).bind fun x5 => (fRec (Tr37.of (x5.un.1, Tr34.of (x5.un.2.1.un.1, x5.un.2.1.un.2.1, x5.un.2.1.un.2.2.1, x5.un.2.1.un.2.2.2), x5.un.2.2.1, x5.un.2.2.2.1, x5.un.2.2.2.2))).bind fun x6 => (DQ x4 ([Tr28.of (x6.un.1, Tr25.of (x6.un.2.1.un.1, x6.un.2.1.un.2.1, x6.un.2.1.un.2.2.1, x6.un.2.1.un.2.2.2), x6.un.2.2.1, x6.un.2.2.2.1, x6.un.2.2.2.2)] : List Tr28)).bind fun x7 => some (.inl (DP (x3 + 1), x7)) else some (.inr x4))
noncomputable def Eo (fRec : Tr37 → Option Tr28) (p0 : Tr37) : Option Tr28 := (I9 (Tr34.of (p0.un.2.1.un.1, p0.un.2.1.un.2.1, p0.un.2.1.un.2.2.1, p0.un.2.1.un.2.2.2))).bind fun x1 => (Br (Dm fRec p0) (0, [])).bind fun x2 => some (Tr28.of (p0.un.1, x1, p0.un.2.2.1, p0.un.2.2.2.1, x2))
noncomputable def DW : Nat → Tr37 → Option Tr28
  | 0 => fun _ => none
  | n + 1 => Eo (DW n)
noncomputable def Kl (p0 : Tr37) : Option Tr28 := FY fun n => DW n p0
theorem Ot (fRec : Tr37 → Option Tr28) (ih : ∀ (Y : Nat → Prop) (w0 : World) (v1 : Value) (v2 : Value) (p0 : Tr37) (r : Tr28) (H : fRec p0 = some r) (h_v1 : Sl w0 (NX []) CS v1 p0.un.2.1.un.2.2.2) (h_v2 : Sl w0 (NX []) Ff v2 p0.un.2.2.2.2), Calls Tryd.prog 18 #[.agg #[.int .i64 p0.un.1, .int .i64 p0.un.2.1.un.1, .int .i64 p0.un.2.1.un.2.1, .int .i64 p0.un.2.1.un.2.2.1, v1, .int .i64 p0.un.2.2.1, .int .i64 p0.un.2.2.2.1, v2]] w0 fun e w' => ∃ x : Value × Value, e = .returned (.agg #[.int .i64 r.un.1, .int .i64 r.un.2.1.un.1, .int .i64 r.un.2.1.un.2.1, .int .i64 r.un.2.1.un.2.2.1, x.1, .int .i64 r.un.2.2.1, .int .i64 r.un.2.2.2.1, x.2]) ∧ Stw ⟨Y, [], w0⟩ [] [row (x.1) 25 AR r.un.2.1.un.2.2.2, row (x.2) 28 BD r.un.2.2.2.2] w') (Y : Nat → Prop) (w0 : World) (v1 : Value) (v2 : Value) (p0 : Tr37) (r : Tr28) (H : Eo fRec p0 = some r) (h_v1 : Sl w0 (NX []) CS v1 p0.un.2.1.un.2.2.2) (h_v2 : Sl w0 (NX []) Ff v2 p0.un.2.2.2.2) :
    Calls Tryd.prog 18 #[.agg #[.int .i64 p0.un.1, .int .i64 p0.un.2.1.un.1, .int .i64 p0.un.2.1.un.2.1, .int .i64 p0.un.2.1.un.2.2.1, v1, .int .i64 p0.un.2.2.1, .int .i64 p0.un.2.2.2.1, v2]] w0 fun e w' => ∃ x : Value × Value, e = .returned (.agg #[.int .i64 r.un.1, .int .i64 r.un.2.1.un.1, .int .i64 r.un.2.1.un.2.1, .int .i64 r.un.2.1.un.2.2.1, x.1, .int .i64 r.un.2.2.1, .int .i64 r.un.2.2.2.1, x.2]) ∧ Stw ⟨Y, [], w0⟩ [] [row (x.1) 25 AR r.un.2.1.un.2.2.2, row (x.2) 28 BD r.un.2.2.2.2] w' := by
 refine enter Tryd.func18 Aa Tryd.ntmps18 Aa fun a F => ?_
 have W := Stw.start Y w0
 obtain ⟨v3, h1, h_v1⟩ := h_v1.ex CL
 obtain ⟨v4, h2, h_v2⟩ := h_v2.ex Fx
 unfold Eo at H
 refine Ak (Ab ?_)
 refine D6 (cs := (Ce p0 v1 v2)) F W Aa Aa Aa fun b1 a w F W => ?_
 refine Bi (cs := (BM)) F W Aa Lh Aa fun b2 a w F W => ?_
 refine Ae (Ac (Ak ?_))
 obtain ⟨x1, h3, H⟩ := Aq H
 refine Qr (fun a w => ∃ b3 : Nat, ∃ v5 : Value, Fr 34 [] [(0, .agg #[.int .i64 p0.un.1, .int .i64 p0.un.2.1.un.1, .int .i64 p0.un.2.1.un.2.1, .int .i64 p0.un.2.1.un.2.2.1, v1, .int .i64 p0.un.2.2.1, .int .i64 p0.un.2.2.2.1, v2]), (1, .pointer (some ⟨b1, 0, none⟩)), (2, .pointer (some ⟨b2, 0, none⟩)), (3, .pointer (some ⟨b3, 0, none⟩)), (5, .pointer (some ⟨b1, 0, none⟩)), (6, .int .i64 p0.un.1), (7, .pointer (some ⟨b1, 1, none⟩)), (8, .agg #[.int .i64 p0.un.2.1.un.1, .int .i64 p0.un.2.1.un.2.1, .int .i64 p0.un.2.1.un.2.2.1, v1]), (9, .agg #[.int .i64 x1.un.1, .int .i64 x1.un.2.1, .int .i64 x1.un.2.2.1, v5]), (10, .pointer (some ⟨b1, 5, none⟩)), (11, .int .i64 p0.un.2.2.1), (12, .pointer (some ⟨b1, 6, none⟩)), (13, .int .i64 p0.un.2.2.2.1), (14, .agg #[.int .i64 p0.un.1, .int .i64 x1.un.1, .int .i64 x1.un.2.1, .int .i64 x1.un.2.2.1, v5, .int .i64 p0.un.2.2.1, .int .i64 p0.un.2.2.2.1, .slice none 0 0])] a ∧ Stw ⟨Y, [], w0⟩ (P3 b3 p0 x1 v5 b2 b1 v1 v2) [row v5 25 AR x1.un.2.2.2] w) ?_ ?_
 ·
  refine Pr (PT.st 0 (PT.st 1 (PT.st 2 (PT.st 3 (PT.st 5 (PT.st 6 (PT.st 7 (PT.st 8 (PT.alt 4 (PT.st 9 (PT.alt 10 (PT.alt 11 PT.done PT.stop) PT.stop)) (PT.alt 10 (PT.alt 4 (PT.st 9 (PT.alt 11 PT.done PT.stop)) PT.stop) PT.stop)))))))))) (CN ⟨Y, [], w0⟩ [(some 11, b1, [.int .i64 p0.un.1, .int .i64 p0.un.2.1.un.1, .int .i64 p0.un.2.1.un.2.1, .int .i64 p0.un.2.1.un.2.2.1, v1, .int .i64 p0.un.2.2.1, .int .i64 p0.un.2.2.2.1, v2]), (some 4, b1, [.int .i64 p0.un.1, .int .i64 p0.un.2.1.un.1, .int .i64 p0.un.2.1.un.2.1, .int .i64 p0.un.2.1.un.2.2.1, v1, .int .i64 p0.un.2.2.1, .int .i64 p0.un.2.2.2.1, v2])] []) (fun ch a d v w h => by cases d <;> exact h) MO (by kernel_rfl) W (fun w W => ⟨_, _, W, (Aw (fun _ => (.tail _ (.head _))) (Aw (fun _ => (.tail _ (.head _))) AB)), AB⟩) fun w W => ?_
  refine HP (R := []) F Aa Aa (yC fun M Z hN hZ => Aj BX Aa Aa Aa T3 F Aa 0 Aa) Aa Aa fun a F => ?_
  refine HP (R := [11]) F Aa Aa (yC fun M Z hN hZ => Cs (cs := (Ce p0 v1 v2)) (v := Value.int .i64 p0.un.1) F Aa (hN ((some 11), b1, (Ce p0 v1 v2)) (.head _) Aa) T3 Aa) (by kernel_rfl) Aa fun a F => ?_
  refine HP (R := []) F Aa Aa (yC fun M Z hN hZ => Aj BX Aa Aa Aa IA F Aa 1 Aa) Aa Aa fun a F => ?_
  refine HP (R := [4]) F Aa Aa (yC fun M Z hN hZ => Cs (cs := (Ce p0 v1 v2)) (v := Value.agg #[.int .i64 p0.un.2.1.un.1, .int .i64 p0.un.2.1.un.2.1, .int .i64 p0.un.2.1.un.2.2.1, v1]) F Aa (hN ((some 4), b1, (Ce p0 v1 v2)) (.tail _ (.head _)) Aa) IA Aa) (by kernel_rfl) Aa fun a F => ?_
  refine HP (R := []) F Aa Aa (yC fun M Z hN hZ => Aj BX Aa Aa Aa T3 F Aa 5 Aa) Aa Aa fun a F => ?_
  refine HP (R := [11]) F Aa Aa (yC fun M Z hN hZ => Cs (cs := (Ce p0 v1 v2)) (v := Value.int .i64 p0.un.2.2.1) F Aa (hN ((some 11), b1, (Ce p0 v1 v2)) (.head _) Aa) T3 Aa) (by kernel_rfl) Aa fun a F => ?_
  refine HP (R := []) F Aa Aa (yC fun M Z hN hZ => Aj BX Aa Aa Aa T3 F Aa 6 Aa) Aa Aa fun a F => ?_
  refine HP (R := [11]) F Aa Aa (yC fun M Z hN hZ => Cs (cs := (Ce p0 v1 v2)) (v := Value.int .i64 p0.un.2.2.2.1) F Aa (hN ((some 11), b1, (Ce p0 v1 v2)) (.head _) Aa) T3 Aa) (by kernel_rfl) Aa fun a F => ?_
  refine RY Aa ?_ ?_
  ·
   refine A2 (Ml := []) (Zl := []) (M := (Sr b2 b1 p0 v1 v2)) (Z := []) (β := Value) (rv := fun x => .agg #[.int .i64 x1.un.1, .int .i64 x1.un.2.1, .int .i64 x1.un.2.2.1, x]) (MM := fun x => []) (ZZ := fun x => [row x 25 AR x1.un.2.2.2]) F W U2 Aa Aa (fun hL => J7 _ w (v1) (Tr34.of (p0.un.2.1.un.1, p0.un.2.1.un.2.1, p0.un.2.1.un.2.2.1, p0.un.2.1.un.2.2.2)) _ h3 ((AM CL h1 (Ay h_v1)) w W).nx) fun x a w F W => ?_
   obtain ⟨v5, rfl⟩ : ∃ y, y = x := ⟨x, rfl⟩
   have W : Stw ⟨Y, [], w0⟩ (Sr b2 b1 p0 v1 v2) [row v5 25 AR x1.un.2.2.2] w := W
   refine Fw (N2 := []) (NZ2 := []) (N3 := [(some 11, b1, [.int .i64 p0.un.1, .int .i64 p0.un.2.1.un.1, .int .i64 p0.un.2.1.un.2.1, .int .i64 p0.un.2.1.un.2.2.1, v1, .int .i64 p0.un.2.2.1, .int .i64 p0.un.2.2.2.1, v2]), (some 4, b1, [.int .i64 p0.un.1, .int .i64 p0.un.2.1.un.1, .int .i64 p0.un.2.1.un.2.1, .int .i64 p0.un.2.1.un.2.2.1, v1, .int .i64 p0.un.2.2.1, .int .i64 p0.un.2.2.2.1, v2])]) (NZ3 := []) W Aa Aa (Aw (fun _ => (.tail _ (.head _))) (Aw (fun h => AN (by kernel_rfl) h) AB)) AB ?_
   refine HP (R := []) F Aa Aa (yC fun M Z hN hZ => B7 (v := Value.agg #[.int .i64 p0.un.1, .int .i64 x1.un.1, .int .i64 x1.un.2.1, .int .i64 x1.un.2.2.1, v5, .int .i64 p0.un.2.2.1, .int .i64 p0.un.2.2.2.1, .slice none 0 0]) TR F Aa (AX Aa Aa Aa (AX Aa Aa Aa (AX Aa Aa Aa (AX Aa Aa Aa B2)))) Aa) Aa Aa fun a F => ?_
   refine K9 Aa ?_
   refine Bi (cs := (BM)) F W Aa Lh Aa fun b3 a w F W => ?_
   refine Fw (N2 := []) (NZ2 := []) (N3 := [(some 11, b1, [.int .i64 p0.un.1, .int .i64 p0.un.2.1.un.1, .int .i64 p0.un.2.1.un.2.1, .int .i64 p0.un.2.1.un.2.2.1, v1, .int .i64 p0.un.2.2.1, .int .i64 p0.un.2.2.2.1, v2]), (some 4, b1, [.int .i64 p0.un.1, .int .i64 p0.un.2.1.un.1, .int .i64 p0.un.2.1.un.2.1, .int .i64 p0.un.2.1.un.2.2.1, v1, .int .i64 p0.un.2.2.1, .int .i64 p0.un.2.2.2.1, v2])]) (NZ3 := []) W Aa Aa (Aw (fun _ => (.tail _ (.tail _ (.head _)))) (Aw (fun h => AN (by kernel_rfl) h) AB)) AB ?_
   refine K9 Aa ?_
   refine AL (vs := (RU p0 x1 v5)) (M' := (P3 b3 p0 x1 v5 b2 b1 v1 v2)) 0 F W Aa Aa Aa FJ Aa Aa Aa (Ai Aa (Ai Aa (Ai Aa (Ai Aa (Ai (W.one (k := 0) Aa) (Ai Aa (Ai Aa (Ai Aa Bp)))))))) Aa fun w W => ?_
   refine Fw (N2 := []) (NZ2 := []) (N3 := [(some 11, b1, [.int .i64 p0.un.1, .int .i64 p0.un.2.1.un.1, .int .i64 p0.un.2.1.un.2.1, .int .i64 p0.un.2.1.un.2.2.1, v1, .int .i64 p0.un.2.2.1, .int .i64 p0.un.2.2.2.1, v2]), (some 4, b1, [.int .i64 p0.un.1, .int .i64 p0.un.2.1.un.1, .int .i64 p0.un.2.1.un.2.1, .int .i64 p0.un.2.1.un.2.2.1, v1, .int .i64 p0.un.2.2.1, .int .i64 p0.un.2.2.2.1, v2])]) (NZ3 := []) W Aa Aa (Aw (fun h => AN (by kernel_rfl) h) (Aw (fun h => AN (by kernel_rfl) h) AB)) AB ?_
   have W := W.frontM (i := 2) Aa Aa
   have W := W.frontM (i := 2) Aa Aa
   have W := W.frontM (i := 2) Aa Aa
   refine OG ?_
   exact ⟨b3, v5, F.re ⟨rfl, Aa, Aa, Aa, Aa, Aa, Aa, Aa, Aa, Aa, Aa, Aa, Aa, Aa, trivial⟩, W⟩
  refine RY Aa ?_ ?_
  ·
   refine Bi (cs := (BM)) F W Aa Lh Aa fun b3 a w F W => ?_
   refine Fw (N2 := []) (NZ2 := []) (N3 := [(some 11, b1, [.int .i64 p0.un.1, .int .i64 p0.un.2.1.un.1, .int .i64 p0.un.2.1.un.2.1, .int .i64 p0.un.2.1.un.2.2.1, v1, .int .i64 p0.un.2.2.1, .int .i64 p0.un.2.2.2.1, v2]), (some 4, b1, [.int .i64 p0.un.1, .int .i64 p0.un.2.1.un.1, .int .i64 p0.un.2.1.un.2.1, .int .i64 p0.un.2.1.un.2.2.1, v1, .int .i64 p0.un.2.2.1, .int .i64 p0.un.2.2.2.1, v2])]) (NZ3 := []) W Aa Aa (Aw (fun _ => (.tail _ (.tail _ (.head _)))) (Aw (fun _ => (.tail _ (.tail _ (.head _)))) AB)) AB ?_
   refine K9 Aa ?_
   refine A2 (Ml := []) (Zl := []) (M := (R1 b3 b2 b1 p0 v1 v2)) (Z := []) (β := Value) (rv := fun x => .agg #[.int .i64 x1.un.1, .int .i64 x1.un.2.1, .int .i64 x1.un.2.2.1, x]) (MM := fun x => []) (ZZ := fun x => [row x 25 AR x1.un.2.2.2]) F W U2 Aa Aa (fun hL => J7 _ w (v1) (Tr34.of (p0.un.2.1.un.1, p0.un.2.1.un.2.1, p0.un.2.1.un.2.2.1, p0.un.2.1.un.2.2.2)) _ h3 ((AM CL h1 (Ay h_v1)) w W).nx) fun x a w F W => ?_
   obtain ⟨v5, rfl⟩ : ∃ y, y = x := ⟨x, rfl⟩
   have W : Stw ⟨Y, [], w0⟩ (R1 b3 b2 b1 p0 v1 v2) [row v5 25 AR x1.un.2.2.2] w := W
   refine Fw (N2 := []) (NZ2 := []) (N3 := [(some 11, b1, [.int .i64 p0.un.1, .int .i64 p0.un.2.1.un.1, .int .i64 p0.un.2.1.un.2.1, .int .i64 p0.un.2.1.un.2.2.1, v1, .int .i64 p0.un.2.2.1, .int .i64 p0.un.2.2.2.1, v2]), (some 4, b1, [.int .i64 p0.un.1, .int .i64 p0.un.2.1.un.1, .int .i64 p0.un.2.1.un.2.1, .int .i64 p0.un.2.1.un.2.2.1, v1, .int .i64 p0.un.2.2.1, .int .i64 p0.un.2.2.2.1, v2])]) (NZ3 := []) W Aa Aa (Aw (fun _ => (.tail _ (.tail _ (.head _)))) (Aw (fun h => AN (by kernel_rfl) h) AB)) AB ?_
   refine HP (R := []) F Aa Aa (yC fun M Z hN hZ => B7 (v := Value.agg #[.int .i64 p0.un.1, .int .i64 x1.un.1, .int .i64 x1.un.2.1, .int .i64 x1.un.2.2.1, v5, .int .i64 p0.un.2.2.1, .int .i64 p0.un.2.2.2.1, .slice none 0 0]) TR F Aa (AX Aa Aa Aa (AX Aa Aa Aa (AX Aa Aa Aa (AX Aa Aa Aa B2)))) Aa) Aa Aa fun a F => ?_
   refine K9 Aa ?_
   refine AL (vs := (RU p0 x1 v5)) (M' := (P3 b3 p0 x1 v5 b2 b1 v1 v2)) 0 F W Aa Aa Aa FJ Aa Aa Aa (Ai Aa (Ai Aa (Ai Aa (Ai Aa (Ai (W.one (k := 0) Aa) (Ai Aa (Ai Aa (Ai Aa Bp)))))))) Aa fun w W => ?_
   refine Fw (N2 := []) (NZ2 := []) (N3 := [(some 11, b1, [.int .i64 p0.un.1, .int .i64 p0.un.2.1.un.1, .int .i64 p0.un.2.1.un.2.1, .int .i64 p0.un.2.1.un.2.2.1, v1, .int .i64 p0.un.2.2.1, .int .i64 p0.un.2.2.2.1, v2]), (some 4, b1, [.int .i64 p0.un.1, .int .i64 p0.un.2.1.un.1, .int .i64 p0.un.2.1.un.2.1, .int .i64 p0.un.2.1.un.2.2.1, v1, .int .i64 p0.un.2.2.1, .int .i64 p0.un.2.2.2.1, v2])]) (NZ3 := []) W Aa Aa (Aw (fun h => AN (by kernel_rfl) h) (Aw (fun h => AN (by kernel_rfl) h) AB)) AB ?_
   have W := W.frontM (i := 2) Aa Aa
   have W := W.frontM (i := 2) Aa Aa
   have W := W.frontM (i := 2) Aa Aa
   refine OG ?_
   exact ⟨b3, v5, F.re ⟨rfl, Aa, Aa, Aa, Aa, Aa, Aa, Aa, Aa, Aa, Aa, Aa, Aa, Aa, trivial⟩, W⟩
  exact trivial
 rintro a w ⟨b3, v5, F, W⟩
 refine Ac ?_
 obtain ⟨o1, G1, K1⟩ := Aq H
 refine A1 (fun a w => ∃ x2 : List Tr28, ∃ v6 : Value, some (x2) = some o1 ∧ Fr 34 [] [(2, .pointer (some ⟨b2, 0, none⟩)), (3, .pointer (some ⟨b3, 0, none⟩))] a ∧ Stw ⟨Y, [], w0⟩ (I3 b3 p0 x1 v5 v6 b2 b1 v1 v2) [row v5 25 AR x1.un.2.2.2, row v6 28 BD x2] w) ?_ ?_
 ·
  have H := G1
  clear G1 K1
  refine Ak (Ab ?_)
  refine ls F W Aa (Ag F Aa).q fun a w F W => ?_
  refine Ae (Ac (AP ?_))
  have W := W.nilRow 28 BD
  have W := W.frontZ (i := 1) Aa Aa
  have W := W.frontM (i := 2) Aa Aa
  have W := W.frontM (i := 2) Aa Aa
  have W := W.frontM (i := 2) Aa Aa
  refine Cx H (fun s a w => ∃ v7 : Value, Fr 34 [] [(1, .pointer (some ⟨b1, 0, none⟩)), (2, .pointer (some ⟨b2, 0, none⟩)), (3, .pointer (some ⟨b3, 0, none⟩)), (4, .int .i64 s.1)] a ∧ Stw ⟨Y, [], w0⟩ (I3 b3 p0 x1 v5 v7 b2 b1 v1 v2) [row v5 25 AR x1.un.2.2.2, row v7 28 BD s.2] w) ⟨(Value.slice none 0 0), F.re ⟨rfl, Aa, Aa, Aa, trivial⟩, W⟩ fun s o a w H L2 hR => ?_
  obtain ⟨x3, x4⟩ := s
  obtain ⟨v7, F, W⟩ := hR
  have F : Fr 34 [] [(1, .pointer (some ⟨b1, 0, none⟩)), (2, .pointer (some ⟨b2, 0, none⟩)), (3, .pointer (some ⟨b3, 0, none⟩)), (4, .int .i64 x3)] a := F
  have W : Stw ⟨Y, [], w0⟩ (I3 b3 p0 x1 v5 v7 b2 b1 v1 v2) [row v5 25 AR x1.un.2.2.2, row v7 28 BD x4] w := W
  rw [Dm] at H
  refine Ak (Ak (Ab ?_))
  refine ls F W Aa (Ah F Aa).q fun a w F W => ?_
  refine ls F W Aa (Aj BX Aa Aa Aa HK F Aa 7 Aa).q fun a w F W => ?_
  refine ls F W Aa (Av (v := v2) 2 F Aa Aa HK Aa).q fun a w F W => ?_
  refine ls F W Aa (D7 (r := Ff) (l := p0.un.2.2.2.2) Nb Aa F Aa (AM Fx h2 (Ay h_v2))).q fun a w F W => ?_
  refine ls F W Aa (Co F Aa Aa).q fun a w F W => ?_
  refine Ae (Ac ?_)
  refine Az F Aa (fun hb => ?_) fun hb => ?_
  ·
   have H := AW (Bw hb) H
   rw [hb] at F
   clear hb
   refine AA (Ac (Ak (AP ?_)))
   obtain ⟨v8, h4, W⟩ := W.exR FZ
   have W := W.frontZ (i := 1) Aa Aa
   obtain ⟨v9, h5, W⟩ := W.exR Js
   refine GW [(true, 0), (true, 1), (true, 2), (true, 3), (true, 4), (true, 5), (true, 6), (false, 7), (false, 8), (false, 9), (true, 10), (false, 11)] (CN ⟨Y, [], w0⟩ [(some 9, b3, [.int .i64 p0.un.1, .int .i64 x1.un.1, .int .i64 x1.un.2.1, .int .i64 x1.un.2.2.1, v5, .int .i64 p0.un.2.2.1, .int .i64 p0.un.2.2.2.1, v7]), (some 7, b1, [.int .i64 p0.un.1, .int .i64 p0.un.2.1.un.1, .int .i64 p0.un.2.1.un.2.1, .int .i64 p0.un.2.1.un.2.2.1, v1, .int .i64 p0.un.2.2.1, .int .i64 p0.un.2.2.2.1, v2])] []) (fun ch a d v w h => by cases d <;> exact h) MO (by kernel_rfl) W (fun w W => ⟨_, _, W, (Aw (fun _ => (.head _)) (Aw (fun _ => (.tail _ (.tail _ (.head _)))) AB)), AB⟩) fun w W => ?_
   refine CK (R := []) F Aa Aa (yC fun M Z hN hZ => Aj Hl Aa Aa Aa PL F Aa 7 Aa) Aa Aa fun a F => ?_
   refine CK (R := [9]) F Aa Aa (yC fun M Z hN hZ => Cs (cs := (Qf p0 x1 v5 v7)) (v := v7) F Aa (hN ((some 9), b3, (Qf p0 x1 v5 v7)) (.head _) Aa) PL Aa) (by kernel_rfl) Aa fun a F => ?_
   refine CK (R := []) F Aa Aa (yC fun M Z hN hZ => Aj BX Aa Aa Aa HK F Aa 7 Aa) Aa Aa fun a F => ?_
   refine CK (R := [7, 6, 5]) F Aa Aa (yC fun M Z hN hZ => Cs (cs := (Ce p0 v1 v2)) (v := v2) F Aa (hN ((some 7), b1, (Ce p0 v1 v2)) (.tail _ (.head _)) Aa) HK Aa) (by kernel_rfl) Aa fun a F => ?_
   refine CK (R := []) F Aa Aa (yC fun M Z hN hZ => Ah F Aa) Aa Aa fun a F => ?_
   obtain ⟨x5, h6, H⟩ := Aq H
   obtain ⟨v10, h7, h8⟩ := D5 h2 h6
   have h9 : HI v10 = [.int .i64 x5.un.1, .int .i64 x5.un.2.1.un.1, .int .i64 x5.un.2.1.un.2.1, .int .i64 x5.un.2.1.un.2.2.1, (v10.2.1.2.2.2.1), .int .i64 x5.un.2.2.1, .int .i64 x5.un.2.2.2.1, (v10.2.2.2.2.1)] := congrArg (fun q : Tr37 => ([.int .i64 q.un.1, .int .i64 q.un.2.1.un.1, .int .i64 q.un.2.1.un.2.1, .int .i64 q.un.2.1.un.2.2.1, (v10.2.1.2.2.2.1), .int .i64 q.un.2.2.1, .int .i64 q.un.2.2.2.1, (v10.2.2.2.2.1)] : List Value)) h8
   refine CK (R := []) F Aa Aa (yC fun M Z hN hZ => Cg (r := Kr) RC F Aa Aa (Ay h_v2) h7) Aa Aa fun a F => ?_
   refine CK (R := []) F Aa Aa (yC fun M Z hN hZ => BC (y := Value.agg #[.int .i64 x5.un.1, .int .i64 x5.un.2.1.un.1, .int .i64 x5.un.2.1.un.2.1, .int .i64 x5.un.2.1.un.2.2.1, (v10.2.1.2.2.2.1), .int .i64 x5.un.2.2.1, .int .i64 x5.un.2.2.2.1, (v10.2.2.2.2.1)]) (j := 0) (i := x3) (enc := HI) F Aa Aa (Ay h_v2) h7 M9 MR (by rw [h9]; rfl)) Aa Aa fun a F => ?_
   refine Fj Aa ?_
   obtain ⟨x6, h10, H⟩ := Aq H
   refine A2 (Ml := []) (Zl := []) (M := (I3 b3 p0 x1 v5 v7 b2 b1 v1 v2)) (Z := [row v7 28 PB v9, row v5 25 Ln v8]) (β := Value × Value) (rv := fun x => .agg #[.int .i64 x6.un.1, .int .i64 x6.un.2.1.un.1, .int .i64 x6.un.2.1.un.2.1, .int .i64 x6.un.2.1.un.2.2.1, x.1, .int .i64 x6.un.2.2.1, .int .i64 x6.un.2.2.2.1, x.2]) (MM := fun x => []) (ZZ := fun x => [row x.1 25 AR x6.un.2.1.un.2.2.2, row x.2 28 BD x6.un.2.2.2.2]) F W VY Aa Aa (fun hL => ih _ w ((v10.2.1.2.2.2.1)) ((v10.2.2.2.2.1)) (Tr37.of (x5.un.1, Tr34.of (x5.un.2.1.un.1, x5.un.2.1.un.2.1, x5.un.2.1.un.2.2.1, x5.un.2.1.un.2.2.2), x5.un.2.2.1, x5.un.2.2.2.1, x5.un.2.2.2.2)) _ h10 ((Ci (Ay h_v2) h7 (AE.snd (AE.fst (AE.snd (AE.snd (AE.snd AE.here))))) (congrArg (fun q : Tr37 => q.un.2.1.un.2.2.2) h8)) w W).nx ((Ci (Ay h_v2) h7 (AE.snd (AE.snd (AE.snd (AE.snd AE.here)))) (congrArg (fun q : Tr37 => q.un.2.2.2.2) h8)) w W).nx) fun x a w F W => ?_
   obtain ⟨v11, v12⟩ := x
   have W : Stw ⟨Y, [], w0⟩ (I3 b3 p0 x1 v5 v7 b2 b1 v1 v2) [row v11 25 AR x6.un.2.1.un.2.2.2, row v12 28 BD x6.un.2.2.2.2, row v7 28 PB v9, row v5 25 Ln v8] w := W
   refine BZ (N2 := []) (NZ2 := []) (N3 := [(some 9, b3, [.int .i64 p0.un.1, .int .i64 x1.un.1, .int .i64 x1.un.2.1, .int .i64 x1.un.2.2.1, v5, .int .i64 p0.un.2.2.1, .int .i64 p0.un.2.2.2.1, v7]), (some 7, b1, [.int .i64 p0.un.1, .int .i64 p0.un.2.1.un.1, .int .i64 p0.un.2.1.un.2.1, .int .i64 p0.un.2.1.un.2.2.1, v1, .int .i64 p0.un.2.2.1, .int .i64 p0.un.2.2.2.1, v2])]) (NZ3 := []) W Aa Aa (Aw (fun _ => (.head _)) (Aw (fun h => AN (by kernel_rfl) h) AB)) AB ?_
   refine Fj Aa ?_
   have W := W.freeze
   have W := W.frontZ (i := 1) Aa Aa
   have W := W.freeze
   refine FN (z := Value.agg #[.int .i64 0, .int .i64 0, .int .i64 0, .int .i64 0, .slice none 0 0, .int .i64 0, .int .i64 0, .slice none 0 0]) (cs := (Gu x6 v11 v12)) BD ([Tr28.of (x6.un.1, Tr25.of (x6.un.2.1.un.1, x6.un.2.1.un.2.1, x6.un.2.1.un.2.2.1, x6.un.2.1.un.2.2.2), x6.un.2.2.1, x6.un.2.2.2.1, x6.un.2.2.2.2)] : List Tr28) F W Aa Re Lh Aa Aa Aa (AX Aa Aa Aa B2) Aa Aa ⟨[Value.int .i64 x6.un.1, Value.int .i64 x6.un.2.1.un.1, Value.int .i64 x6.un.2.1.un.2.1, Value.int .i64 x6.un.2.1.un.2.2.1, v11, Value.int .i64 x6.un.2.2.1, Value.int .i64 x6.un.2.2.2.1, v12], _, Aa, (PQ.2 ⟨[Value.int .i64 x6.un.1], [Value.int .i64 x6.un.2.1.un.1, Value.int .i64 x6.un.2.1.un.2.1, Value.int .i64 x6.un.2.1.un.2.2.1, v11, Value.int .i64 x6.un.2.2.1, Value.int .i64 x6.un.2.2.2.1, v12], Aa, Aa, ⟨[Value.int .i64 x6.un.2.1.un.1, Value.int .i64 x6.un.2.1.un.2.1, Value.int .i64 x6.un.2.1.un.2.2.1, v11], [Value.int .i64 x6.un.2.2.1, Value.int .i64 x6.un.2.2.2.1, v12], Aa, (KO.2 ⟨[Value.int .i64 x6.un.2.1.un.1], [Value.int .i64 x6.un.2.1.un.2.1, Value.int .i64 x6.un.2.1.un.2.2.1, v11], Aa, Aa, ⟨[Value.int .i64 x6.un.2.1.un.2.1], [Value.int .i64 x6.un.2.1.un.2.2.1, v11], Aa, Aa, ⟨[Value.int .i64 x6.un.2.1.un.2.2.1], [v11], Aa, Aa, ⟨_, Aa, (W.item (i := 1) Aa)⟩⟩⟩⟩), ⟨[Value.int .i64 x6.un.2.2.1], [Value.int .i64 x6.un.2.2.2.1, v12], Aa, Aa, ⟨[Value.int .i64 x6.un.2.2.2.1], [v12], Aa, Aa, ⟨_, Aa, (W.item (i := 0) Aa)⟩⟩⟩⟩⟩), Aa⟩ fun v13 a w F W => ?_
   refine BZ (N2 := []) (NZ2 := []) (N3 := [(some 9, b3, [.int .i64 p0.un.1, .int .i64 x1.un.1, .int .i64 x1.un.2.1, .int .i64 x1.un.2.2.1, v5, .int .i64 p0.un.2.2.1, .int .i64 p0.un.2.2.2.1, v7]), (some 7, b1, [.int .i64 p0.un.1, .int .i64 p0.un.2.1.un.1, .int .i64 p0.un.2.1.un.2.1, .int .i64 p0.un.2.1.un.2.2.1, v1, .int .i64 p0.un.2.2.1, .int .i64 p0.un.2.2.2.1, v2])]) (NZ3 := []) W Aa Aa (Aw (fun _ => (.head _)) (Aw (fun h => AN (by kernel_rfl) h) AB)) AB ?_
   refine Fj Aa ?_
   have W := W.frontZ (i := 3) Aa Aa
   have W := W.hideR Js h5
   obtain ⟨x7, h11, H⟩ := Aq H
   refine EP (r := BD) (i := 0) F W Aa Re Aa Aa Aa Aa (Fv W 1 Aa) h11 Aa fun v14 a w F W => ?_
   have W : Stw ⟨Y, [], w0⟩ (I3 b3 p0 x1 v5 v7 b2 b1 v1 v2) [row v14 28 BD x7, row v13 28 BD ([Tr28.of (x6.un.1, Tr25.of (x6.un.2.1.un.1, x6.un.2.1.un.2.1, x6.un.2.1.un.2.2.1, x6.un.2.1.un.2.2.2), x6.un.2.2.1, x6.un.2.2.2.1, x6.un.2.2.2.2)] : List Tr28), AU v12 BD x6.un.2.2.2.2, AU v11 AR x6.un.2.1.un.2.2.2, row v5 25 Ln v8] w := W
   refine BZ (N2 := []) (NZ2 := []) (N3 := [(some 9, b3, [.int .i64 p0.un.1, .int .i64 x1.un.1, .int .i64 x1.un.2.1, .int .i64 x1.un.2.2.1, v5, .int .i64 p0.un.2.2.1, .int .i64 p0.un.2.2.2.1, v7]), (some 7, b1, [.int .i64 p0.un.1, .int .i64 p0.un.2.1.un.1, .int .i64 p0.un.2.1.un.2.1, .int .i64 p0.un.2.1.un.2.2.1, v1, .int .i64 p0.un.2.2.1, .int .i64 p0.un.2.2.2.1, v2])]) (NZ3 := []) W Aa Aa (Aw (fun h => AN (by kernel_rfl) h) (Aw (fun h => AN (by kernel_rfl) h) AB)) AB ?_
   refine CK (R := []) F Aa Aa (yC fun M Z hN hZ => Aj Hl Aa Aa Aa PL F Aa 7 Aa) Aa Aa fun a F => ?_
   refine Fj Aa ?_
   refine Kg (M' := (I3 b3 p0 x1 v5 v14 b2 b1 v1 v2)) 0 F W Aa Aa Aa PL (W.one (k := 0) Aa) Aa Aa fun w W => ?_
   refine BZ (N2 := []) (NZ2 := []) (N3 := [(some 9, b3, [.int .i64 p0.un.1, .int .i64 x1.un.1, .int .i64 x1.un.2.1, .int .i64 x1.un.2.2.1, v5, .int .i64 p0.un.2.2.1, .int .i64 p0.un.2.2.2.1, v7]), (some 7, b1, [.int .i64 p0.un.1, .int .i64 p0.un.2.1.un.1, .int .i64 p0.un.2.1.un.2.1, .int .i64 p0.un.2.1.un.2.2.1, v1, .int .i64 p0.un.2.2.1, .int .i64 p0.un.2.2.2.1, v2])]) (NZ3 := []) W Aa Aa (Aw (fun h => AN (by kernel_rfl) h) (Aw (fun h => AN (by kernel_rfl) h) AB)) AB ?_
   refine He (Bn (Ac (Ab ?_)))
   refine ls F W Aa (Ah F Aa).q fun a w F W => ?_
   refine ls F W Aa (C5 F Aa Aa Aa).q fun a w F W => ?_
   refine ls F W Aa (Ag F Aa).q fun a w F W => ?_
   refine Ae (Ac ?_)
   have W := W.frontZ (i := 4) Aa Aa
   have W := W.hideR FZ h4
   have W := W.frontZ (i := 1) Aa Aa
   have W := W.frontZ (i := 1) Aa Aa
   have W := W.frontM (i := 2) Aa Aa
   have W := W.frontM (i := 2) Aa Aa
   have W := W.frontM (i := 2) Aa Aa
   have W := W.sub (M' := (I3 b3 p0 x1 v5 v14 b2 b1 v1 v2)) (Z' := [row v5 25 AR x1.un.2.2.2, row v14 28 BD x7]) (List.Sublist.refl _) (List.Sublist.cons_cons _ (List.Sublist.cons_cons _ (List.nil_sublist _)))
   exact ⟨_, H, (v14), F.re ⟨rfl, Aa, Aa, Aa, trivial⟩, W⟩
  have H := AY (Bx hb) H
  rw [hb] at F
  clear hb
  refine Cz ?_
  iterate 2 refine C8 ?_
  refine Cy (Ac ?_)
  have W := W.frontZ (i := 1) Aa Aa
  have W := W.frontZ (i := 1) Aa Aa
  have W := W.frontM (i := 2) Aa Aa
  have W := W.frontM (i := 2) Aa Aa
  have W := W.frontM (i := 2) Aa Aa
  have H := L2 _ H
  exact ⟨_, (v7), H, F.re ⟨rfl, Aa, trivial⟩, W⟩
 rintro a w ⟨x2, v6, hj, F, W⟩
 have hj := AK hj
 subst hj
 have H := K1
 clear G1 K1
 refine Ak (Ab ?_)
 refine ls F W Aa (Av (v := Value.agg #[.int .i64 p0.un.1, .int .i64 x1.un.1, .int .i64 x1.un.2.1, .int .i64 x1.un.2.2.1, v5, .int .i64 p0.un.2.2.1, .int .i64 p0.un.2.2.2.1, v6]) 0 F Aa Aa FJ Aa).q fun a w F W => ?_
 refine AL (vs := (Qf p0 x1 v5 v6)) (M' := [(b3, [.int .i64 p0.un.1, .int .i64 x1.un.1, .int .i64 x1.un.2.1, .int .i64 x1.un.2.2.1, v5, .int .i64 p0.un.2.2.1, .int .i64 p0.un.2.2.2.1, v6]), (b2, [.int .i64 p0.un.1, .int .i64 x1.un.1, .int .i64 x1.un.2.1, .int .i64 x1.un.2.2.1, v5, .int .i64 p0.un.2.2.1, .int .i64 p0.un.2.2.2.1, v6]), (b1, [.int .i64 p0.un.1, .int .i64 p0.un.2.1.un.1, .int .i64 p0.un.2.1.un.2.1, .int .i64 p0.un.2.1.un.2.2.1, v1, .int .i64 p0.un.2.2.1, .int .i64 p0.un.2.2.2.1, v2])]) 1 F W Aa Aa Aa FJ Aa Aa Aa (Ai Aa (Ai Aa (Ai Aa (Ai Aa (Ai (W.one (k := 0) Aa) (Ai Aa (Ai Aa (Ai (W.one (k := 1) Aa) Bp)))))))) Aa fun w W => ?_
 refine Ae (Ac (Ax ?_))
 have H := AK H
 subst H
 refine AG (.inl Aa) F W Aa (A3 1 F Aa Aa FJ Aa) ?_
 have W := W.frontZ (i := 1) Aa Aa
 have W := W.frontZ (i := 1) Aa Aa
 have W := W.sub (M' := []) (Z' := [row v5 25 AR x1.un.2.2.2, row v6 28 BD x2]) (List.nil_sublist _) (List.Sublist.refl _)
 exact ⟨((v5), (v6)), Aa, W⟩
theorem Pp : ∀ (n : Nat) (Y : Nat → Prop) (w0 : World) (v1 : Value) (v2 : Value) (p0 : Tr37) (r : Tr28) (H : DW n p0 = some r) (h_v1 : Sl w0 (NX []) CS v1 p0.un.2.1.un.2.2.2) (h_v2 : Sl w0 (NX []) Ff v2 p0.un.2.2.2.2), Calls Tryd.prog 18 #[.agg #[.int .i64 p0.un.1, .int .i64 p0.un.2.1.un.1, .int .i64 p0.un.2.1.un.2.1, .int .i64 p0.un.2.1.un.2.2.1, v1, .int .i64 p0.un.2.2.1, .int .i64 p0.un.2.2.2.1, v2]] w0 fun e w' => ∃ x : Value × Value, e = .returned (.agg #[.int .i64 r.un.1, .int .i64 r.un.2.1.un.1, .int .i64 r.un.2.1.un.2.1, .int .i64 r.un.2.1.un.2.2.1, x.1, .int .i64 r.un.2.2.1, .int .i64 r.un.2.2.2.1, x.2]) ∧ Stw ⟨Y, [], w0⟩ [] [row (x.1) 25 AR r.un.2.1.un.2.2.2, row (x.2) 28 BD r.un.2.2.2.2] w' := by
  intro n
  induction n with
  | zero => intro Y w0 v1 v2 p0 r H; exact nomatch H
  | succ n ih => intro Y w0 v1 v2 p0 r H h_v1 h_v2; exact Ot (DW n) ih Y w0 v1 v2 p0 r H h_v1 h_v2
theorem PX (Y : Nat → Prop) (w0 : World) (v1 : Value) (v2 : Value) (p0 : Tr37) (r : Tr28) (H : Kl p0 = some r) (h_v1 : Sl w0 (NX []) CS v1 p0.un.2.1.un.2.2.2) (h_v2 : Sl w0 (NX []) Ff v2 p0.un.2.2.2.2) :
    Calls Tryd.prog 18 #[.agg #[.int .i64 p0.un.1, .int .i64 p0.un.2.1.un.1, .int .i64 p0.un.2.1.un.2.1, .int .i64 p0.un.2.1.un.2.2.1, v1, .int .i64 p0.un.2.2.1, .int .i64 p0.un.2.2.2.1, v2]] w0 fun e w' => ∃ x : Value × Value, e = .returned (.agg #[.int .i64 r.un.1, .int .i64 r.un.2.1.un.1, .int .i64 r.un.2.1.un.2.1, .int .i64 r.un.2.1.un.2.2.1, x.1, .int .i64 r.un.2.2.1, .int .i64 r.un.2.2.2.1, x.2]) ∧ Stw ⟨Y, [], w0⟩ [] [row (x.1) 25 AR r.un.2.1.un.2.2.2, row (x.2) 28 BD r.un.2.2.2.2] w' := by
  obtain ⟨n, H⟩ := BR H
  exact Pp n Y w0 v1 v2 p0 r H h_v1 h_v2
end Go.Proofs.YtlgjpoapclifbaaDoor
