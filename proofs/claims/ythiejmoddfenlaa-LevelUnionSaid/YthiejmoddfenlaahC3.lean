/- The functions of layer 23, HZ. Conditions: none. -/
import Derived.Test.YthiejmoddfenlaahC2
namespace Go.Proofs.Ythiejmoddfenlaa
open Go Go.RowKit
set_option linter.unusedVariables false
set_option linter.unusedSimpArgs false
set_option maxRecDepth 20000
theorem Q3 : type_of% Try.underlying26 := Try.underlying26
theorem Pp : Et Try.prog 26 28 1 24 := Et.of Q3 (by kernel_rfl) (by kernel_rfl) (by kernel_rfl) (by decide)
noncomputable def Ek (p4 : Int) (x5 : List (List Int)) : ((List (Nat × List Int)) × Int) → Option (((List (Nat × List Int)) × Int) ⊕ (List (Nat × List Int)))
  | (x6, x7) => (if x7 < (x5.length : Int) then (ix x5 x7).bind fun x8 => (ix x6 x7).bind fun x9 => (ix x8 p4).bind fun x10 => (LL x9.1).bind fun x11 => (Ld x9.2 ([x10] : List Int)).bind fun x12 => (ix (Ap x6 x7 (0, [])) x7).bind fun x13 => (ix (Ap x6 x7 (0, [])) x7).bind fun x14 => some (.inl ((Ap (Ap x6 x7 (0, [])) x7 (2, x12)), AB (x7 + 1))) else some (.inr x6))
noncomputable def Ep (p0 : Int × (List (Int × Int × Int × Int × Int × Int)) × (List (Int × Int))) (p2 : List (Int × Int × Int × Int)) (p3 : Int) (p4 : Int) : ((List (Nat × List Int)) × Int) → Option (((List (Nat × List Int)) × Int) ⊕ (List (Nat × List Int)))
  | (x16, x17) => (if x17 < (p2.length : Int) then ((ix p2 x17).bind fun x19 => (if (decide (x19.2.2.2 = p3) && (decide (x19.2.1 = p4) && (decide (0 ≤ x19.1) && decide (x19.1 < p0.1)))) = true then (ix x16 x19.1).bind fun x20 => (LL x20.1).bind fun x21 => (Ld x20.2 ([x19.2.2.1] : List Int)).bind fun x22 => (ix (Ap x16 x19.1 (0, [])) x19.1).bind fun x23 => (ix (Ap x16 x19.1 (0, [])) x19.1).bind fun x24 => some (Ap (Ap x16 x19.1 (0, [])) x19.1 (2, x22)) else some x16)).bind fun x18 => some (.inl (x18, AB (x17 + 1))) else some (.inr x16))
noncomputable def EY (x15 : List (Nat × List Int)) : ((List (Nat × List Int)) × Int) → Option (((List (Nat × List Int)) × Int) ⊕ (List (Nat × List Int)))
  | (x26, x27) => (if x27 < (x15.length : Int) then (ix x26 x27).bind fun x28 => (Dk x28.2).bind fun x29 => (LL x28.1).bind fun x30 => (ix (Ap x26 x27 (0, [])) x27).bind fun x31 => (ix (Ap x26 x27 (0, [])) x27).bind fun x32 => some (.inl ((Ap (Ap x26 x27 (0, [])) x27 (2, x29)), AB (x27 + 1))) else some (.inr x26))
noncomputable def Gv (p0 : Int × (List (Int × Int × Int × Int × Int × Int)) × (List (Int × Int))) (p1 : List (List Int)) (p2 : List (Int × Int × Int × Int)) (p3 : Int) (p4 : Int) : Option (List (List Int)) := ((EH p0 p1).bind fun x2 => (if (!x2) = true then some true else (if p4 < 0 then some true else some (decide ((p0.2.2.length : Int) ≤ p4))))).bind fun x1 => (if x1 = true then some ([] : List (List Int)) else (mk p0.1 ((2, []) : Nat × List Int)).bind fun x3 => ((Gq p1 p2 p3 ([] : List Int)).bind fun x5 => AG (Ek p4 x5) (x3, 0)).bind fun x4 => (AG (Ep p0 p2 p3 p4) (x4, 0)).bind fun x15 => (AG (EY x15) (x15, 0)).bind fun x25 => (Jw PY x25).bind fun x33 => some x33)
theorem Mt (Y : Nat → Prop) (w0 : World) (v1 : Value) (v2 : Value) (v3 : Value) (v4 : Value) (p0 : Int × (List (Int × Int × Int × Int × Int × Int)) × (List (Int × Int))) (p1 : List (List Int)) (p2 : List (Int × Int × Int × Int)) (p3 : Int) (p4 : Int) (r : List (List Int)) (H : Gv p0 p1 p2 p3 p4 = some r) (h_v1 : Sl w0 (NX []) Hu v1 p0.2.1) (h_v2 : Sl w0 (NX []) Gz v2 p0.2.2) (s_v3 : Sl w0 Y (Rp.slice (Rp.int .i64)) v3 p1) (h_v4 : Sl w0 (NX []) Bj v4 p2) :
    Calls Try.prog 14 #[.agg #[.int .i64 p0.1, v1, v2], v3, v4, .int .i64 p3, .int .i64 p4] w0 fun e w' => ∃ x : Value, e = .returned (x) ∧ Stw ⟨Y, [], w0⟩ [] [row (x) 28 (Rp.slice (Rp.int .i64)) r] w' := by
 refine enter Try.func14 Aa Try.ntmps14 Aa fun a F => ?_
 have W := Stw.start Y w0
 obtain ⟨v5, h1, s_v3⟩ := s_v3.ex Do
 have h_v3 := W.nx s_v3
 unfold Gv at H
 refine Ah (Ac ?_)
 refine E5 (cs := [.int .i64 p0.1, v1, v2]) F W Aa Aa Aa fun b1 a w F W => ?_
 refine ls F W Aa (Ag F Aa).q fun a w F W => ?_
 refine Ae (Ab (Ah ?_))
 obtain ⟨o1, G1, K1⟩ := Ak H
 refine AM (fun a w => ∃ x1 : Bool, some (x1) = some o1 ∧ Fr 116 [] [(1, v3), (2, v4), (3, .int .i64 p3), (4, .int .i64 p4), (5, .pointer (some ⟨b1, 0, none⟩)), (10, .slice none 0 0), (31, .bool x1)] a ∧ Stw ⟨Y, [], w0⟩ [(b1, [.int .i64 p0.1, v1, v2])] [] w) ?_ ?_
 ·
  have H := G1
  clear G1 K1
  refine Ac ?_
  refine ls F W Aa (Aw (v := Value.agg #[.int .i64 p0.1, v1, v2]) 0 F Aa Aa JE Aa).q fun a w F W => ?_
  refine ls F W Aa (Ad F Aa).q fun a w F W => ?_
  obtain ⟨x2, h2, H⟩ := Ak H
  refine ls F W Aa (BX (v := Value.bool x2) F SG Aa (fun w W => Iu any w (v1) (v2) (v3) p0 p1 _ h2 (((Am h_v1) : D4 _ _ _ _ _ _) w W).nx (((Am h_v2) : D4 _ _ _ _ _ _) w W).nx (((B8 Do h1 (Am h_v3)) : D4 _ _ _ _ _ _) w W).nx)) fun a w F W => ?_
  refine ls F W Aa (Eb F Aa).q fun a w F W => ?_
  refine ls F W Aa (Ad F Aa).q fun a w F W => ?_
  rcases Bool.eq_false_or_eq_true (!x2) with hb | hb
  ·
   have H := AS hb H
   rw [hb] at F
   clear hb
   iterate 2 refine Dd F Aa Aa Aa Aa Aa Aa Aa fun a F => ?_
   refine ls F W Aa (Aq F Aa Aa Aa).q fun a w F W => ?_
   refine ls F W Aa (Ad F Aa).q fun a w F W => ?_
   iterate 5 refine Dd F Aa Aa Aa Aa Aa Aa Aa fun a F => ?_
   refine ls F W Aa (Aq F Aa Aa Aa).q fun a w F W => ?_
   refine Ae (Ab ?_)
   exact ⟨_, H, F.re ⟨rfl, Aa, Aa, Aa, Aa, Aa, Aa, trivial⟩, W⟩
  have H := AR (by rw [hb]; decide) H
  rw [hb] at F
  clear hb
  refine AJ F W (Af F Aa Aa Aa Aa) Aa (Ai Aa) (Ad F Aa).q fun a w F W => ?_
  refine AJ F W (Af F Aa Aa Aa Aa) Aa (Ai Aa) (Bu F Aa Aa).q fun a w F W => ?_
  refine ls F W Aa (Az F Aa Aa Aa).q fun a w F W => ?_
  refine ls F W Aa (Ad F Aa).q fun a w F W => ?_
  rcases Bool.eq_false_or_eq_true (decide (p4 < 0)) with hb | hb
  ·
   have H := AS (BD hb) H
   rw [hb] at F
   clear hb
   iterate 5 refine Dd F Aa Aa Aa Aa Aa Aa Aa fun a F => ?_
   refine ls F W Aa (Aq F Aa Aa Aa).q fun a w F W => ?_
   refine Ae (Ab ?_)
   exact ⟨_, H, F.re ⟨rfl, Aa, Aa, Aa, Aa, Aa, Aa, trivial⟩, W⟩
  have H := AR (BB hb) H
  rw [hb] at F
  clear hb
  refine AJ F W (Af F Aa Aa Aa Aa) Aa (Ai Aa) (Ad F Aa).q fun a w F W => ?_
  refine AJ F W (Af F Aa Aa Aa Aa) Aa (Ai Aa) (Aj D1 Aa Aa Aa H4 F Aa 2 Aa).q fun a w F W => ?_
  refine AJ F W (Af F Aa Aa Aa Aa) Aa (Ai Aa) (Aw (v := v2) 0 F Aa Aa H4 Aa).q fun a w F W => ?_
  refine AJ F W (Af F Aa Aa Aa Aa) Aa (Ai Aa) (B0 (r := Gz) (l := p0.2.2) JG Aa F Aa (Am h_v2)).q fun a w F W => ?_
  refine AJ F W (Af F Aa Aa Aa Aa) Aa (Ai Aa) (DH F Aa Aa).q fun a w F W => ?_
  refine ls F W Aa (Az F Aa Aa Aa).q fun a w F W => ?_
  refine Ae (Ab ?_)
  exact ⟨_, H, F.re ⟨rfl, Aa, Aa, Aa, Aa, Aa, Aa, trivial⟩, W⟩
 rintro a w ⟨x1, hj, F, W⟩
 have hj := AV hj
 subst hj
 have H := K1
 clear G1 K1
 refine AA F Aa (fun hb => ?_) fun hb => ?_
 ·
  have H := AS hb H
  rw [hb] at F
  clear hb
  refine Ah (Ac ?_)
  refine ls F W Aa (Ag F Aa).q fun a w F W => ?_
  refine Ae (Ab (AF (AH ?_)))
  have H := AV H
  subst H
  refine BK (.inl Aa) F W Aa (Ay F Aa) ?_
  have W := W.nilRow 28 (Rp.slice (Rp.int .i64))
  have W := W.sub (M' := []) (Z' := [row (Value.slice none 0 0) 28 (Rp.slice (Rp.int .i64)) ([])]) (List.nil_sublist _) (List.Sublist.refl _)
  exact ⟨(Value.slice none 0 0), Aa, W⟩
 have H := AR (by rw [hb]; decide) H
 rw [hb] at F
 clear hb
 refine Av (Ab (Ah (Ac ?_)))
 refine ls F W Aa (Aj D1 Aa Aa Aa T3 F Aa 0 Aa).q fun a w F W => ?_
 refine ls F W Aa (Aw (v := Value.int .i64 p0.1) 0 F Aa Aa T3 Aa).q fun a w F W => ?_
 obtain ⟨x3, h3, H⟩ := Ak H
 have h4 := Rl (er := CO) (z := (Value.slice none 0 0, 2, [])) h3
 refine Qa (r := Ca.hr) (Value.slice none 0 0, 2, []) F W Aa Pp Su Aa Aa (fun w A => ⟨rfl, Aa⟩) h4.1 Aa fun v6 a w F W => ?_
 have W := Stw.dNew (D := Ca) Nl.sl W
 have h5 : List.map CO (List.replicate (p0.1).toNat ((Value.slice none 0 0, 2, []) : Value × Nat × List Int)) = x3 := h4.2
 have W : Stw ⟨Y, [], w0⟩ [(b1, [.int .i64 p0.1, v1, v2])] [B9 v6 28 Ca (List.replicate (p0.1).toNat ((Value.slice none 0 0, 2, []) : Value × Nat × List Int))] w := W
 refine ls F W Aa (Ag F Aa).q fun a w F W => ?_
 refine Ae (Ab ?_)
 obtain ⟨o2, G2, K2⟩ := Ak H
 refine AM (fun a w => ∃ x4 : List (Nat × List Int), ∃ g_x4 : {x : List (Value × Nat × List Int) // x.map CO = x4}, some (x4) = some o2 ∧ Fr 116 [] [(2, v4), (3, .int .i64 p3), (4, .int .i64 p4), (5, .pointer (some ⟨b1, 0, none⟩)), (10, .slice none 0 0), (11, v6)] a ∧ Stw ⟨Y, [], w0⟩ [(b1, [.int .i64 p0.1, v1, v2])] [B9 v6 28 Ca g_x4.1] w) ?_ ?_
 ·
  have H := G2
  clear G2 K2
  refine Ah (Ac ?_)
  iterate 3 refine ls F W Aa (Ad F Aa).q fun a w F W => ?_
  obtain ⟨x5, h6, H⟩ := Ak H
  refine B7 (Ml := []) (Zl := []) (M := [(b1, [.int .i64 p0.1, v1, v2])]) (Z := [B9 v6 28 Ca (List.replicate (p0.1).toNat ((Value.slice none 0 0, 2, []) : Value × Nat × List Int))]) (β := Value) (rv := fun x => x) (MM := fun x => []) (ZZ := fun x => [row x 28 (Rp.slice (Rp.int .i64)) x5]) F W Up Aa Aa (fun hL => MT _ w (v3) (v4) (Value.slice none 0 0) p1 p2 p3 ([] : List Int) _ h6 (Sl.hide Do h1 (W.old s_v3)) ((Am h_v4) w W).nx Sl.nil) fun x a w F W => ?_
  obtain ⟨v7, rfl⟩ : ∃ y, y = x := ⟨x, rfl⟩
  have W : Stw ⟨Y, [], w0⟩ [(b1, [.int .i64 p0.1, v1, v2])] [row v7 28 (Rp.slice (Rp.int .i64)) x5, B9 v6 28 Ca (List.replicate (p0.1).toNat ((Value.slice none 0 0, 2, []) : Value × Nat × List Int))] w := W
  refine ls F W Aa (B0 (r := (Rp.slice (Rp.int .i64))) (l := x5) Ju Aa F Aa (An 0 Aa)).q fun a w F W => ?_
  refine ls F W Aa (Ad F Aa).q fun a w F W => ?_
  refine Ae (Ab (As ?_))
  have W := W.frontZ (i := 1) Aa Aa
  refine Bb H (fun s a w => ∃ g_x6 : {x : List (Value × Nat × List Int) // x.map CO = s.1}, Fr 116 [] [(2, v4), (3, .int .i64 p3), (4, .int .i64 p4), (5, .pointer (some ⟨b1, 0, none⟩)), (10, .slice none 0 0), (11, v6), (38, v7), (39, .int .i64 (x5.length : Int)), (40, .int .i64 s.2)] a ∧ Stw ⟨Y, [], w0⟩ [(b1, [.int .i64 p0.1, v1, v2])] [B9 v6 28 Ca g_x6.1, row v7 28 (Rp.slice (Rp.int .i64)) x5] w) ⟨⟨(List.replicate (p0.1).toNat ((Value.slice none 0 0, 2, []) : Value × Nat × List Int)), h5⟩, F.re ⟨rfl, Aa, Aa, Aa, Aa, Aa, Aa, Aa, Aa, trivial⟩, W⟩ fun s o a w H L3 hR => ?_
  obtain ⟨x6, x7⟩ := s
  obtain ⟨g_x6, F, W⟩ := hR
  have F : Fr 116 [] [(2, v4), (3, .int .i64 p3), (4, .int .i64 p4), (5, .pointer (some ⟨b1, 0, none⟩)), (10, .slice none 0 0), (11, v6), (38, v7), (39, .int .i64 (x5.length : Int)), (40, .int .i64 x7)] a := F
  have W : Stw ⟨Y, [], w0⟩ [(b1, [.int .i64 p0.1, v1, v2])] [B9 v6 28 Ca g_x6.1, row v7 28 (Rp.slice (Rp.int .i64)) x5] w := W
  rw [Ek] at H
  refine Ah (Ac ?_)
  refine ls F W Aa (Bu F Aa Aa).q fun a w F W => ?_
  refine Ae (Ab (Ah ?_))
  refine AA F Aa (fun hb => ?_) fun hb => ?_
  ·
   have H := AS (BD hb) H
   rw [hb] at F
   clear hb
   refine Av (Ab (Ah (As (Ah ?_))))
   have W := W.frontZ (i := 1) Aa Aa
   obtain ⟨v8, h7, W⟩ := W.exR Do
   refine Ac ?_
   refine ls F W Aa (Ad F Aa).q fun a w F W => ?_
   obtain ⟨x8, h8, H⟩ := Ak H
   obtain ⟨v9, h9, h10⟩ := DQ h7 h8
   have h11 : EN v9 = [(v9.1)] := congrArg (fun q : List Int => ([(v9.1)] : List Value)) h10
   refine ls F W Aa (Ax (r := (Rp.vsl (Rp.int .i64))) Lm F Aa Aa (An 0 Aa) h9).q fun a w F W => ?_
   refine ls F W Aa (Ao (y := (v9.1)) (j := 0) (i := x7) (enc := EN) F Aa Aa (An 0 Aa) h9 Im JO (by rw [h11]; rfl)).q fun a w F W => ?_
   have W := W.note (W.rowAt (k := 0) Aa h9 EK.here (congrArg (fun q : List Int => q) h10))
   iterate 2 refine ls F W Aa (Ag F Aa).q fun a w F W => ?_
   refine Ae (Ab ?_)
   refine Gg [(true, 0), (true, 1), (true, 2), (true, 3), (true, 4), (true, 5), (true, 6), (true, 7), (true, 8), (true, 9), (false, 10), (false, 11), (true, 12), (false, 13)] (CN ⟨Y, [], w0⟩ [] [(some 11, B9 v6 28 Ca g_x6.1), (some 10, IB (v9.1) (Rp.int .i64) x8)]) (fun ch a d v w h => by cases d <;> exact h) MO (by kernel_rfl) W (fun w W => ⟨_, _, W, Bd, (all_cons (fun _ => (.tail _ (.tail _ (.head _)))) (all_cons (fun _ => (.head _)) Bd))⟩) fun w W => ?_
   iterate 4 refine B6 (R := []) F Aa Aa (yC fun M Z hN hZ => Ad F Aa) Aa Aa fun a F => ?_
   obtain ⟨x9, h12, H⟩ := Ak H
   obtain ⟨v10, h13, h14⟩ := DQ (er := CO) g_x6.2 h12
   refine B6 (R := []) F Aa Aa (yC fun M Z hN hZ => B1 (r := Ca.hr) Pp F Aa Aa (DK W (JL.hd (DM 2 Aa))) h13) Aa Aa fun a F => ?_
   have h15 : Ca.cells v10 = [(v10.1)] := congrArg (fun q : Nat × List Int => ([(v10.1)] : List Value)) h14
   refine B6 (R := [11]) F Aa Aa (yC fun M Z hN hZ => Ao (y := (v10.1)) (j := 0) (i := x7) (enc := Ca.cells) F Aa Aa (JL.hd (Rd (hZ ((some 11), B9 v6 28 Ca g_x6.1) (.head _) Aa))) h13 Ca.flat JO (by rw [h15]; rfl)) (by kernel_rfl) Aa fun a F => ?_
   iterate 2 refine B6 (R := []) F Aa Aa (yC fun M Z hN hZ => Ad F Aa) Aa Aa fun a F => ?_
   obtain ⟨x10, h16, H⟩ := Ak H
   refine B6 (R := [10, 9]) F Aa Aa (yC fun M Z hN hZ => Ax (r := (Rp.int .i64)) GD F Aa Aa (NE (hZ ((some 10), IB (v9.1) (Rp.int .i64) x8) (.tail _ (.head _)) Aa)) h16) (by kernel_rfl) Aa fun a F => ?_
   refine B6 (R := [10]) F Aa Aa (yC fun M Z hN hZ => Ao (y := Value.int .i64 x10) (j := 0) (i := p4) F Aa Aa (NE (hZ ((some 10), IB (v9.1) (Rp.int .i64) x8) (.tail _ (.head _)) Aa)) h16 Fl.int.to T3 Aa) (by kernel_rfl) Aa fun a F => ?_
   refine Ia Aa ?_
   refine Fm (z := Value.int .i64 0) (cs := [.int .i64 x10]) (Rp.int .i64) ([x10] : List Int) F W Aa GD Z3 Aa Aa Aa Aa Aa Aa (Fl.int.repL _ _ ([x10] : List Int)) fun v11 a w F W => ?_
   refine DF (N2 := []) (NZ2 := []) (N3 := []) (NZ3 := [(some 11, B9 v6 28 Ca g_x6.1), (some 10, IB (v9.1) (Rp.int .i64) x8)]) W Aa Aa Bd (all_cons (fun _ => (.tail _ (.tail _ (.tail _ (.head _))))) (all_cons (fun h => Cq (by kernel_rfl) h) Bd)) ?_
   refine Ia Aa ?_
   obtain ⟨x11, h17, H⟩ := Ak H
   have W := W.frontZ (i := 3) Aa Aa
   have W := W.dTakeR h13 Foc.here ((congrArg (fun q : Nat × List Int => q) h14).trans (Prod.ext (Ln h17) Aa))
   have h18 : List.map CO (Ap g_x6.1 x7 ((v10.1), 0, [])) = (Ap x6 x7 (0, [])) := (IX g_x6.2 (congrArg (fun q : Nat × List Int => (0, [])) h14))
   have W : Stw ⟨Y, [], w0⟩ [(b1, [.int .i64 p0.1, v1, v2])] [row (v10.1) 3 (Rp.int .i64) x9.2, B9 v6 28 Ca (Ap g_x6.1 x7 ((v10.1), 0, [])), row v11 3 (Rp.int .i64) ([x10] : List Int), IB (v9.1) (Rp.int .i64) x8, row v7 28 (Rp.vsl (Rp.int .i64)) v8] w := W
   obtain ⟨x12, h19, H⟩ := Ak H
   refine Fj (r := (Rp.int .i64)) (i := 0) F W Aa GD Aa Aa Aa Aa (GP W 2 Aa) h19 Aa fun v12 a w F W => ?_
   have W : Stw ⟨Y, [], w0⟩ [(b1, [.int .i64 p0.1, v1, v2])] [row v12 3 (Rp.int .i64) x12, B9 v6 28 Ca (Ap g_x6.1 x7 ((v10.1), 0, [])), row v11 3 (Rp.int .i64) ([x10] : List Int), IB (v9.1) (Rp.int .i64) x8, row v7 28 (Rp.vsl (Rp.int .i64)) v8] w := W
   refine DF (N2 := []) (NZ2 := []) (N3 := []) (NZ3 := [(some 11, B9 v6 28 Ca g_x6.1), (some 10, IB (v9.1) (Rp.int .i64) x8)]) W Aa Aa Bd (all_cons (fun h => Cq (by kernel_rfl) h) (all_cons (fun h => Cq (by kernel_rfl) h) Bd)) ?_
   obtain ⟨x13, h20, H⟩ := Ak H
   obtain ⟨v13, h21, h22⟩ := DQ (er := CO) h18 h20
   refine B6 (R := []) F Aa Aa (yC fun M Z hN hZ => B1 (r := Ca.hr) Pp F Aa Aa (DK W (JL.hd (DM 1 Aa))) h21) Aa Aa fun a F => ?_
   refine Ia Aa ?_
   obtain ⟨x14, h23, H⟩ := Ak H
   obtain ⟨v14, h24, h25⟩ := DQ (er := CO) h18 h23
   have h26 : Value.oneCell' v12 = true := (W.one (k := 0) Aa)
   have W := W.frontZ (i := 1) Aa Aa
   have W := W.frontZ (i := 1) Aa Aa
   have W := W.toR
   refine I8 (D := Ca) (S := (Dp.sl 3 (Rp.int .i64))) (b := (v12, 2, x12)) (i := x7) (j := 0) Foc.here F W Aa Aa Aa h24 JO (EC h26) Aa h26 Aa fun w W => ?_
   have h27 : List.map CO (Ap (Ap g_x6.1 x7 ((v10.1), 0, [])) x7 (v12, 2, x12)) = (Ap (Ap x6 x7 (0, [])) x7 (2, x12)) := (IX h18 (congrArg (fun q : Nat × List Int => (2, x12)) h25))
   have W : Stw ⟨Y, [], w0⟩ [(b1, [.int .i64 p0.1, v1, v2])] [B9 v6 28 Ca (Ap (Ap g_x6.1 x7 ((v10.1), 0, [])) x7 (v12, 2, x12)), row v11 3 (Rp.int .i64) ([x10] : List Int), IB (v9.1) (Rp.int .i64) x8, row v7 28 (Rp.vsl (Rp.int .i64)) v8] w := W
   refine DF (N2 := []) (NZ2 := []) (N3 := []) (NZ3 := [(some 11, B9 v6 28 Ca g_x6.1), (some 10, IB (v9.1) (Rp.int .i64) x8)]) W Aa Aa Bd (all_cons (fun h => Cq (by kernel_rfl) h) (all_cons (fun h => Cq (by kernel_rfl) h) Bd)) ?_
   refine Is (AP (Ab (Ac ?_)))
   refine ls F W Aa (BC F Aa Aa Aa).q fun a w F W => ?_
   refine ls F W Aa (Ad F Aa).q fun a w F W => ?_
   refine Ae (Ab ?_)
   have W := W.frontZ (i := 3) Aa Aa
   have W := W.hideR Do h7
   have W := W.frontZ (i := 1) Aa Aa
   have W := W.sub (M' := [(b1, [.int .i64 p0.1, v1, v2])]) (Z' := [B9 v6 28 Ca (Ap (Ap g_x6.1 x7 ((v10.1), 0, [])) x7 (v12, 2, x12)), row v7 28 (Rp.slice (Rp.int .i64)) x5]) (List.Sublist.refl _) (List.Sublist.cons_cons _ (List.Sublist.cons_cons _ (List.nil_sublist _)))
   exact ⟨_, H, ⟨(Ap (Ap g_x6.1 x7 ((v10.1), 0, [])) x7 (v12, 2, x12)), h27⟩, F.re ⟨rfl, Aa, Aa, Aa, Aa, Aa, Aa, Aa, Aa, trivial⟩, W⟩
  have H := AR (BB hb) H
  rw [hb] at F
  clear hb
  refine A8 ?_
  iterate 2 refine Bq ?_
  refine A9 (Ab ?_)
  have W := W.sub (M' := [(b1, [.int .i64 p0.1, v1, v2])]) (Z' := [B9 v6 28 Ca g_x6.1]) (List.Sublist.refl _) (List.Sublist.cons_cons _ (List.nil_sublist _))
  have H := L3 _ H
  exact ⟨_, ⟨g_x6.1, g_x6.2⟩, H, F.re ⟨rfl, Aa, Aa, Aa, Aa, Aa, trivial⟩, W⟩
 rintro a w ⟨x4, g_x4, hj, F, W⟩
 have hj := AV hj
 subst hj
 have H := K2
 clear G2 K2
 obtain ⟨o4, G4, K4⟩ := Ak H
 refine AM (fun a w => ∃ x15 : List (Nat × List Int), ∃ g_x15 : {x : List (Value × Nat × List Int) // x.map CO = x15}, some (x15) = some o4 ∧ Fr 116 [] [(10, .slice none 0 0), (11, v6)] a ∧ Stw ⟨Y, [], w0⟩ [(b1, [.int .i64 p0.1, v1, v2])] [B9 v6 28 Ca g_x15.1] w) ?_ ?_
 ·
  have H := G4
  clear G4 K4
  refine Ah (Ac ?_)
  refine ls F W Aa (Ad F Aa).q fun a w F W => ?_
  refine ls F W Aa (B0 (r := Bj) (l := p2) Pa Aa F Aa (Am h_v4)).q fun a w F W => ?_
  refine ls F W Aa (Ad F Aa).q fun a w F W => ?_
  refine Ae (Ab (As ?_))
  refine Bb H (fun s a w => ∃ g_x16 : {x : List (Value × Nat × List Int) // x.map CO = s.1}, Fr 116 [] [(3, .int .i64 p3), (4, .int .i64 p4), (5, .pointer (some ⟨b1, 0, none⟩)), (10, .slice none 0 0), (11, v6), (59, v4), (60, .int .i64 (p2.length : Int)), (61, .int .i64 s.2)] a ∧ Stw ⟨Y, [], w0⟩ [(b1, [.int .i64 p0.1, v1, v2])] [B9 v6 28 Ca g_x16.1] w) ⟨⟨g_x4.1, g_x4.2⟩, F.re ⟨rfl, Aa, Aa, Aa, Aa, Aa, Aa, Aa, trivial⟩, W⟩ fun s o a w H L5 hR => ?_
  obtain ⟨x16, x17⟩ := s
  obtain ⟨g_x16, F, W⟩ := hR
  have F : Fr 116 [] [(3, .int .i64 p3), (4, .int .i64 p4), (5, .pointer (some ⟨b1, 0, none⟩)), (10, .slice none 0 0), (11, v6), (59, v4), (60, .int .i64 (p2.length : Int)), (61, .int .i64 x17)] a := F
  have W : Stw ⟨Y, [], w0⟩ [(b1, [.int .i64 p0.1, v1, v2])] [B9 v6 28 Ca g_x16.1] w := W
  rw [Ep] at H
  refine Ah (Ac ?_)
  refine ls F W Aa (Bu F Aa Aa).q fun a w F W => ?_
  refine Ae (Ab (Ah ?_))
  refine AA F Aa (fun hb => ?_) fun hb => ?_
  ·
   have H := AS (BD hb) H
   rw [hb] at F
   clear hb
   refine Av (Ab ?_)
   obtain ⟨o6, G6, K6⟩ := Ak H
   refine AM (fun a w => ∃ x18 : List (Nat × List Int), ∃ g_x18 : {x : List (Value × Nat × List Int) // x.map CO = x18}, some (x18) = some o6 ∧ Fr 116 [] [(3, .int .i64 p3), (4, .int .i64 p4), (5, .pointer (some ⟨b1, 0, none⟩)), (10, .slice none 0 0), (11, v6), (59, v4), (60, .int .i64 (p2.length : Int)), (61, .int .i64 x17)] a ∧ Stw ⟨Y, [], w0⟩ [(b1, [.int .i64 p0.1, v1, v2])] [B9 v6 28 Ca g_x18.1] w) ?_ ?_
   ·
    have H := G6
    clear G6 K6
    refine As (Ah (Ac ?_))
    obtain ⟨x19, h28, H⟩ := Ak H
    refine ls F W Aa (Ax (r := Bj) Ew F Aa Aa (Am h_v4) h28).q fun a w F W => ?_
    refine ls F W Aa (Ao (y := Value.agg #[.int .i64 x19.1, .int .i64 x19.2.1, .int .i64 x19.2.2.1, .int .i64 x19.2.2.2]) (j := 0) (i := x17) F Aa Aa (Am h_v4) h28 Ez.to Eh Aa).q fun a w F W => ?_
    refine DX (cs := [.int .i64 0, .int .i64 0, .int .i64 0, .int .i64 0]) F W Aa Sv Aa fun b2 a w F W => ?_
    refine DC (vs := [.int .i64 x19.1, .int .i64 x19.2.1, .int .i64 x19.2.2.1, .int .i64 x19.2.2.2]) (M' := [(b2, [.int .i64 x19.1, .int .i64 x19.2.1, .int .i64 x19.2.2.1, .int .i64 x19.2.2.2]), (b1, [.int .i64 p0.1, v1, v2])]) 0 F W Aa Aa Aa Eh Aa Aa Aa Aa Aa fun w W => ?_
    refine Ae (Ab ?_)
    refine AM (fun a w => Fr 116 [] [(3, .int .i64 p3), (4, .int .i64 p4), (5, .pointer (some ⟨b1, 0, none⟩)), (10, .slice none 0 0), (11, v6), (15, .pointer (some ⟨b2, 0, none⟩)), (59, v4), (60, .int .i64 (p2.length : Int)), (61, .int .i64 x17), (86, .bool (decide (x19.2.2.2 = p3) && (decide (x19.2.1 = p4) && (decide (0 ≤ x19.1) && decide (x19.1 < p0.1)))))] a ∧ Stw ⟨Y, [], w0⟩ [(b2, [.int .i64 x19.1, .int .i64 x19.2.1, .int .i64 x19.2.2.1, .int .i64 x19.2.2.2]), (b1, [.int .i64 p0.1, v1, v2])] [B9 v6 28 Ca g_x16.1] w) ?_ ?_
    ·
     refine Ac ?_
     refine ls F W Aa (Aj G0 Aa Aa Aa T3 F Aa 3 Aa).q fun a w F W => ?_
     refine ls F W Aa (Aw (v := Value.int .i64 x19.2.2.2) 0 F Aa Aa T3 Aa).q fun a w F W => ?_
     refine ls F W Aa (Ad F Aa).q fun a w F W => ?_
     refine ls F W Aa (DP F Aa Aa).q fun a w F W => ?_
     refine ls F W Aa (Ad F Aa).q fun a w F W => ?_
     rcases Bool.eq_false_or_eq_true (decide (x19.2.2.2 = p3)) with hb0 | hb0
     ·
      rw [hb0] at F
      refine AJ F W (Af F Aa Aa Aa Aa) Aa (Ai Aa) (Aj G0 Aa Aa Aa T3 F Aa 1 Aa).q fun a w F W => ?_
      refine AJ F W (Af F Aa Aa Aa Aa) Aa (Ai Aa) (Aw (v := Value.int .i64 x19.2.1) 0 F Aa Aa T3 Aa).q fun a w F W => ?_
      refine AJ F W (Af F Aa Aa Aa Aa) Aa (Ai Aa) (Ad F Aa).q fun a w F W => ?_
      refine AJ F W (Af F Aa Aa Aa Aa) Aa (Ai Aa) (DP F Aa Aa).q fun a w F W => ?_
      refine ls F W Aa (Aq F Aa Aa Aa).q fun a w F W => ?_
      refine ls F W Aa (Ad F Aa).q fun a w F W => ?_
      rcases Bool.eq_false_or_eq_true (decide (x19.2.1 = p4)) with hb1 | hb1
      ·
       rw [hb1] at F
       refine AJ F W (Af F Aa Aa Aa Aa) Aa (Ai Aa) (Aj G0 Aa Aa Aa T3 F Aa 0 Aa).q fun a w F W => ?_
       refine AJ F W (Af F Aa Aa Aa Aa) Aa (Ai Aa) (Aw (v := Value.int .i64 x19.1) 0 F Aa Aa T3 Aa).q fun a w F W => ?_
       refine AJ F W (Af F Aa Aa Aa Aa) Aa (Ai Aa) (DH F Aa Aa).q fun a w F W => ?_
       refine ls F W Aa (Aq F Aa Aa Aa).q fun a w F W => ?_
       refine ls F W Aa (Ad F Aa).q fun a w F W => ?_
       rcases Bool.eq_false_or_eq_true (decide (0 ≤ x19.1)) with hb2 | hb2
       ·
        rw [hb2] at F
        refine AJ F W (Af F Aa Aa Aa Aa) Aa (Ai Aa) (Aj G0 Aa Aa Aa T3 F Aa 0 Aa).q fun a w F W => ?_
        refine AJ F W (Af F Aa Aa Aa Aa) Aa (Ai Aa) (Aw (v := Value.int .i64 x19.1) 0 F Aa Aa T3 Aa).q fun a w F W => ?_
        refine AJ F W (Af F Aa Aa Aa Aa) Aa (Ai Aa) (Aj D1 Aa Aa Aa T3 F Aa 0 Aa).q fun a w F W => ?_
        refine AJ F W (Af F Aa Aa Aa Aa) Aa (Ai Aa) (Aw (v := Value.int .i64 p0.1) 1 F Aa Aa T3 Aa).q fun a w F W => ?_
        refine AJ F W (Af F Aa Aa Aa Aa) Aa (Ai Aa) (Bu F Aa Aa).q fun a w F W => ?_
        refine ls F W Aa (Aq F Aa Aa Aa).q fun a w F W => ?_
        refine Ae (Ab ?_)
        exact ⟨F.re ⟨rfl, Aa, Aa, Aa, Aa, Aa, Aa, Aa, Aa, (by show some (Value.bool (decide (x19.1 < p0.1))) = some (Value.bool (decide (x19.2.2.2 = p3) && (decide (x19.2.1 = p4) && (decide (0 ≤ x19.1) && decide (x19.1 < p0.1))))); try rw [hb0]; try rw [hb1]; try rw [hb2]; all_goals simp only [Bool.not_true, Bool.not_false, Bool.true_and, Bool.false_and, Bool.true_or, Bool.false_or, Bool.and_true, Bool.or_false, cond_true, cond_false]), trivial⟩, W⟩
       rw [hb2] at F
       iterate 5 refine Dd F Aa Aa Aa Aa Aa Aa Aa fun a F => ?_
       refine ls F W Aa (Az F Aa Aa Aa).q fun a w F W => ?_
       refine Ae (Ab ?_)
       exact ⟨F.re ⟨rfl, Aa, Aa, Aa, Aa, Aa, Aa, Aa, Aa, (by show some (Value.bool false) = some (Value.bool (decide (x19.2.2.2 = p3) && (decide (x19.2.1 = p4) && (decide (0 ≤ x19.1) && decide (x19.1 < p0.1))))); try rw [hb0]; try rw [hb1]; try rw [hb2]; all_goals simp only [Bool.not_true, Bool.not_false, Bool.true_and, Bool.false_and, Bool.true_or, Bool.false_or, Bool.and_true, Bool.or_false, cond_true, cond_false]), trivial⟩, W⟩
      rw [hb1] at F
      iterate 3 refine Dd F Aa Aa Aa Aa Aa Aa Aa fun a F => ?_
      refine ls F W Aa (Az F Aa Aa Aa).q fun a w F W => ?_
      refine ls F W Aa (Ad F Aa).q fun a w F W => ?_
      iterate 5 refine Dd F Aa Aa Aa Aa Aa Aa Aa fun a F => ?_
      refine ls F W Aa (Az F Aa Aa Aa).q fun a w F W => ?_
      refine Ae (Ab ?_)
      exact ⟨F.re ⟨rfl, Aa, Aa, Aa, Aa, Aa, Aa, Aa, Aa, (by show some (Value.bool false) = some (Value.bool (decide (x19.2.2.2 = p3) && (decide (x19.2.1 = p4) && (decide (0 ≤ x19.1) && decide (x19.1 < p0.1))))); try rw [hb0]; try rw [hb1]; all_goals simp only [Bool.not_true, Bool.not_false, Bool.true_and, Bool.false_and, Bool.true_or, Bool.false_or, Bool.and_true, Bool.or_false, cond_true, cond_false]), trivial⟩, W⟩
     rw [hb0] at F
     iterate 4 refine Dd F Aa Aa Aa Aa Aa Aa Aa fun a F => ?_
     refine ls F W Aa (Az F Aa Aa Aa).q fun a w F W => ?_
     refine ls F W Aa (Ad F Aa).q fun a w F W => ?_
     iterate 3 refine Dd F Aa Aa Aa Aa Aa Aa Aa fun a F => ?_
     refine ls F W Aa (Az F Aa Aa Aa).q fun a w F W => ?_
     refine ls F W Aa (Ad F Aa).q fun a w F W => ?_
     iterate 5 refine Dd F Aa Aa Aa Aa Aa Aa Aa fun a F => ?_
     refine ls F W Aa (Az F Aa Aa Aa).q fun a w F W => ?_
     refine Ae (Ab ?_)
     exact ⟨F.re ⟨rfl, Aa, Aa, Aa, Aa, Aa, Aa, Aa, Aa, (by show some (Value.bool false) = some (Value.bool (decide (x19.2.2.2 = p3) && (decide (x19.2.1 = p4) && (decide (0 ≤ x19.1) && decide (x19.1 < p0.1))))); try rw [hb0]; all_goals simp only [Bool.not_true, Bool.not_false, Bool.true_and, Bool.false_and, Bool.true_or, Bool.false_or, Bool.and_true, Bool.or_false, cond_true, cond_false]), trivial⟩, W⟩
    rintro a w ⟨F, W⟩
    refine AA F Aa (fun hb => ?_) fun hb => ?_
    ·
     have H := AS hb H
     rw [hb] at F
     clear hb
     refine Gg [(true, 0), (true, 1), (true, 2), (true, 3), (true, 4), (true, 5), (true, 6), (true, 7), (true, 8), (true, 9), (false, 10), (false, 11), (true, 12), (false, 13)] (CN ⟨Y, [], w0⟩ [(some 13, b2, [.int .i64 x19.1, .int .i64 x19.2.1, .int .i64 x19.2.2.1, .int .i64 x19.2.2.2]), (some 11, b2, [.int .i64 x19.1, .int .i64 x19.2.1, .int .i64 x19.2.2.1, .int .i64 x19.2.2.2]), (some 10, b2, [.int .i64 x19.1, .int .i64 x19.2.1, .int .i64 x19.2.2.1, .int .i64 x19.2.2.2])] [(some 11, B9 v6 28 Ca g_x16.1)]) (fun ch a d v w h => by cases d <;> exact h) MO (by kernel_rfl) W (fun w W => ⟨_, _, W, (all_cons (fun _ => (.head _)) (all_cons (fun _ => (.head _)) (all_cons (fun _ => (.head _)) Bd))), (all_cons (fun _ => (.head _)) Bd)⟩) fun w W => ?_
     refine B6 (R := []) F Aa Aa (yC fun M Z hN hZ => Ad F Aa) Aa Aa fun a F => ?_
     refine B6 (R := []) F Aa Aa (yC fun M Z hN hZ => Aj G0 Aa Aa Aa T3 F Aa 0 Aa) Aa Aa fun a F => ?_
     refine B6 (R := [13]) F Aa Aa (yC fun M Z hN hZ => LW (cs := [.int .i64 x19.1, .int .i64 x19.2.1, .int .i64 x19.2.2.1, .int .i64 x19.2.2.2]) (v := Value.int .i64 x19.1) F Aa (hN ((some 13), b2, [.int .i64 x19.1, .int .i64 x19.2.1, .int .i64 x19.2.2.1, .int .i64 x19.2.2.2]) (.head _) Aa) T3 Aa) (by kernel_rfl) Aa fun a F => ?_
     refine B6 (R := []) F Aa Aa (yC fun M Z hN hZ => Ad F Aa) Aa Aa fun a F => ?_
     refine B6 (R := []) F Aa Aa (yC fun M Z hN hZ => Aj G0 Aa Aa Aa T3 F Aa 0 Aa) Aa Aa fun a F => ?_
     refine B6 (R := [11, 7, 6]) F Aa Aa (yC fun M Z hN hZ => LW (cs := [.int .i64 x19.1, .int .i64 x19.2.1, .int .i64 x19.2.2.1, .int .i64 x19.2.2.2]) (v := Value.int .i64 x19.1) F Aa (hN ((some 11), b2, [.int .i64 x19.1, .int .i64 x19.2.1, .int .i64 x19.2.2.1, .int .i64 x19.2.2.2]) (.tail _ (.head _)) Aa) T3 Aa) (by kernel_rfl) Aa fun a F => ?_
     obtain ⟨x20, h29, H⟩ := Ak H
     obtain ⟨v15, h30, h31⟩ := DQ (er := CO) g_x16.2 h29
     refine B6 (R := []) F Aa Aa (yC fun M Z hN hZ => B1 (r := Ca.hr) Pp F Aa Aa (DK W (JL.hd (DM 0 Aa))) h30) Aa Aa fun a F => ?_
     have h32 : Ca.cells v15 = [(v15.1)] := congrArg (fun q : Nat × List Int => ([(v15.1)] : List Value)) h31
     refine B6 (R := [11]) F Aa Aa (yC fun M Z hN hZ => Ao (y := (v15.1)) (j := 0) (i := x19.1) (enc := Ca.cells) F Aa Aa (JL.hd (Rd (hZ ((some 11), B9 v6 28 Ca g_x16.1) (.head _) Aa))) h30 Ca.flat JO (by rw [h32]; rfl)) (by kernel_rfl) Aa fun a F => ?_
     refine B6 (R := []) F Aa Aa (yC fun M Z hN hZ => Aj G0 Aa Aa Aa T3 F Aa 2 Aa) Aa Aa fun a F => ?_
     refine B6 (R := [10]) F Aa Aa (yC fun M Z hN hZ => LW (cs := [.int .i64 x19.1, .int .i64 x19.2.1, .int .i64 x19.2.2.1, .int .i64 x19.2.2.2]) (v := Value.int .i64 x19.2.2.1) F Aa (hN ((some 10), b2, [.int .i64 x19.1, .int .i64 x19.2.1, .int .i64 x19.2.2.1, .int .i64 x19.2.2.2]) (.tail _ (.tail _ (.head _))) Aa) T3 Aa) (by kernel_rfl) Aa fun a F => ?_
     refine Ia Aa ?_
     refine Fm (z := Value.int .i64 0) (cs := [.int .i64 x19.2.2.1]) (Rp.int .i64) ([x19.2.2.1] : List Int) F W Aa GD Z3 Aa Aa Aa Aa Aa Aa (Fl.int.repL _ _ ([x19.2.2.1] : List Int)) fun v16 a w F W => ?_
     refine DF (N2 := []) (NZ2 := []) (N3 := [(some 13, b2, [.int .i64 x19.1, .int .i64 x19.2.1, .int .i64 x19.2.2.1, .int .i64 x19.2.2.2]), (some 11, b2, [.int .i64 x19.1, .int .i64 x19.2.1, .int .i64 x19.2.2.1, .int .i64 x19.2.2.2]), (some 10, b2, [.int .i64 x19.1, .int .i64 x19.2.1, .int .i64 x19.2.2.1, .int .i64 x19.2.2.2])]) (NZ3 := [(some 11, B9 v6 28 Ca g_x16.1)]) W Aa Aa (all_cons (fun _ => (.head _)) (all_cons (fun _ => (.head _)) (all_cons (fun h => Cq (by kernel_rfl) h) Bd))) (all_cons (fun _ => (.tail _ (.head _))) Bd) ?_
     refine Ia Aa ?_
     obtain ⟨x21, h33, H⟩ := Ak H
     have W := W.frontZ (i := 1) Aa Aa
     have W := W.dTakeR h30 Foc.here ((congrArg (fun q : Nat × List Int => q) h31).trans (Prod.ext (Ln h33) Aa))
     have h34 : List.map CO (Ap g_x16.1 x19.1 ((v15.1), 0, [])) = (Ap x16 x19.1 (0, [])) := (IX g_x16.2 (congrArg (fun q : Nat × List Int => (0, [])) h31))
     have W : Stw ⟨Y, [], w0⟩ [(b2, [.int .i64 x19.1, .int .i64 x19.2.1, .int .i64 x19.2.2.1, .int .i64 x19.2.2.2]), (b1, [.int .i64 p0.1, v1, v2])] [row (v15.1) 3 (Rp.int .i64) x20.2, B9 v6 28 Ca (Ap g_x16.1 x19.1 ((v15.1), 0, [])), row v16 3 (Rp.int .i64) ([x19.2.2.1] : List Int)] w := W
     obtain ⟨x22, h35, H⟩ := Ak H
     refine Fj (r := (Rp.int .i64)) (i := 0) F W Aa GD Aa Aa Aa Aa (GP W 2 Aa) h35 Aa fun v17 a w F W => ?_
     have W : Stw ⟨Y, [], w0⟩ [(b2, [.int .i64 x19.1, .int .i64 x19.2.1, .int .i64 x19.2.2.1, .int .i64 x19.2.2.2]), (b1, [.int .i64 p0.1, v1, v2])] [row v17 3 (Rp.int .i64) x22, B9 v6 28 Ca (Ap g_x16.1 x19.1 ((v15.1), 0, [])), row v16 3 (Rp.int .i64) ([x19.2.2.1] : List Int)] w := W
     refine DF (N2 := []) (NZ2 := []) (N3 := [(some 13, b2, [.int .i64 x19.1, .int .i64 x19.2.1, .int .i64 x19.2.2.1, .int .i64 x19.2.2.2]), (some 11, b2, [.int .i64 x19.1, .int .i64 x19.2.1, .int .i64 x19.2.2.1, .int .i64 x19.2.2.2]), (some 10, b2, [.int .i64 x19.1, .int .i64 x19.2.1, .int .i64 x19.2.2.1, .int .i64 x19.2.2.2])]) (NZ3 := [(some 11, B9 v6 28 Ca g_x16.1)]) W Aa Aa (all_cons (fun _ => (.head _)) (all_cons (fun h => Cq (by kernel_rfl) h) (all_cons (fun h => Cq (by kernel_rfl) h) Bd))) (all_cons (fun h => Cq (by kernel_rfl) h) Bd) ?_
     obtain ⟨x23, h36, H⟩ := Ak H
     obtain ⟨v18, h37, h38⟩ := DQ (er := CO) h34 h36
     refine B6 (R := []) F Aa Aa (yC fun M Z hN hZ => B1 (r := Ca.hr) Pp F Aa Aa (DK W (JL.hd (DM 1 Aa))) h37) Aa Aa fun a F => ?_
     refine Ia Aa ?_
     obtain ⟨x24, h39, H⟩ := Ak H
     obtain ⟨v19, h40, h41⟩ := DQ (er := CO) h34 h39
     have h42 : Value.oneCell' v17 = true := (W.one (k := 0) Aa)
     have W := W.frontZ (i := 1) Aa Aa
     have W := W.frontZ (i := 1) Aa Aa
     have W := W.toR
     refine I8 (D := Ca) (S := (Dp.sl 3 (Rp.int .i64))) (b := (v17, 2, x22)) (i := x19.1) (j := 0) Foc.here F W Aa Aa Aa h40 JO (EC h42) Aa h42 Aa fun w W => ?_
     have h43 : List.map CO (Ap (Ap g_x16.1 x19.1 ((v15.1), 0, [])) x19.1 (v17, 2, x22)) = (Ap (Ap x16 x19.1 (0, [])) x19.1 (2, x22)) := (IX h34 (congrArg (fun q : Nat × List Int => (2, x22)) h41))
     have W : Stw ⟨Y, [], w0⟩ [(b2, [.int .i64 x19.1, .int .i64 x19.2.1, .int .i64 x19.2.2.1, .int .i64 x19.2.2.2]), (b1, [.int .i64 p0.1, v1, v2])] [B9 v6 28 Ca (Ap (Ap g_x16.1 x19.1 ((v15.1), 0, [])) x19.1 (v17, 2, x22)), row v16 3 (Rp.int .i64) ([x19.2.2.1] : List Int)] w := W
     refine DF (N2 := []) (NZ2 := []) (N3 := [(some 13, b2, [.int .i64 x19.1, .int .i64 x19.2.1, .int .i64 x19.2.2.1, .int .i64 x19.2.2.2]), (some 11, b2, [.int .i64 x19.1, .int .i64 x19.2.1, .int .i64 x19.2.2.1, .int .i64 x19.2.2.2]), (some 10, b2, [.int .i64 x19.1, .int .i64 x19.2.1, .int .i64 x19.2.2.1, .int .i64 x19.2.2.2])]) (NZ3 := [(some 11, B9 v6 28 Ca g_x16.1)]) W Aa Aa (all_cons (fun h => Cq (by kernel_rfl) h) (all_cons (fun h => Cq (by kernel_rfl) h) (all_cons (fun h => Cq (by kernel_rfl) h) Bd))) (all_cons (fun h => Cq (by kernel_rfl) h) Bd) ?_
     refine Is (AP (Ab ?_))
     have W := W.frontM (i := 1) Aa Aa
     have W := W.sub (M' := [(b1, [.int .i64 p0.1, v1, v2])]) (Z' := [B9 v6 28 Ca (Ap (Ap g_x16.1 x19.1 ((v15.1), 0, [])) x19.1 (v17, 2, x22))]) (List.Sublist.cons_cons _ (List.nil_sublist _)) (List.Sublist.cons_cons _ (List.nil_sublist _))
     exact ⟨_, ⟨(Ap (Ap g_x16.1 x19.1 ((v15.1), 0, [])) x19.1 (v17, 2, x22)), h43⟩, H, F.re ⟨rfl, Aa, Aa, Aa, Aa, Aa, Aa, Aa, trivial⟩, W⟩
    have H := AR (by rw [hb]; decide) H
    rw [hb] at F
    clear hb
    refine Av (AP (Ab ?_))
    have W := W.frontM (i := 1) Aa Aa
    have W := W.sub (M' := [(b1, [.int .i64 p0.1, v1, v2])]) (Z' := [B9 v6 28 Ca g_x16.1]) (List.Sublist.cons_cons _ (List.nil_sublist _)) (List.Sublist.refl _)
    exact ⟨_, ⟨g_x16.1, g_x16.2⟩, H, F.re ⟨rfl, Aa, Aa, Aa, Aa, Aa, Aa, Aa, trivial⟩, W⟩
   rintro a w ⟨x18, g_x18, hj, F, W⟩
   have hj := AV hj
   subst hj
   have H := K6
   clear G6 K6
   refine Ac ?_
   refine ls F W Aa (BC F Aa Aa Aa).q fun a w F W => ?_
   refine ls F W Aa (Ad F Aa).q fun a w F W => ?_
   refine Ae (Ab ?_)
   exact ⟨_, H, ⟨g_x18.1, g_x18.2⟩, F.re ⟨rfl, Aa, Aa, Aa, Aa, Aa, Aa, Aa, trivial⟩, W⟩
  have H := AR (BB hb) H
  rw [hb] at F
  clear hb
  refine A8 ?_
  iterate 2 refine Bq ?_
  refine A9 (Ab ?_)
  have H := L5 _ H
  exact ⟨_, ⟨g_x16.1, g_x16.2⟩, H, F.re ⟨rfl, Aa, trivial⟩, W⟩
 rintro a w ⟨x15, g_x15, hj, F, W⟩
 have hj := AV hj
 subst hj
 have H := K4
 clear G4 K4
 obtain ⟨o7, G7, K7⟩ := Ak H
 refine AM (fun a w => ∃ x25 : List (Nat × List Int), ∃ g_x25 : {x : List (Value × Nat × List Int) // x.map CO = x25}, some (x25) = some o7 ∧ Fr 116 [] [(10, .slice none 0 0), (11, v6)] a ∧ Stw ⟨Y, [], w0⟩ [(b1, [.int .i64 p0.1, v1, v2])] [B9 v6 28 Ca g_x25.1] w) ?_ ?_
 ·
  have H := G7
  clear G7 K7
  refine Ah (Ac ?_)
  refine ls F W Aa (Ad F Aa).q fun a w F W => ?_
  refine ls F W Aa (MH (er := CO) g_x15.2 Q3 Aa F Aa (JL.hd (DM 0 Aa))).q fun a w F W => ?_
  refine ls F W Aa (Ad F Aa).q fun a w F W => ?_
  refine Ae (Ab (As ?_))
  refine Bb H (fun s a w => ∃ g_x26 : {x : List (Value × Nat × List Int) // x.map CO = s.1}, Fr 116 [] [(10, .slice none 0 0), (11, v6), (102, .int .i64 (x15.length : Int)), (103, .int .i64 s.2)] a ∧ Stw ⟨Y, [], w0⟩ [(b1, [.int .i64 p0.1, v1, v2])] [B9 v6 28 Ca g_x26.1] w) ⟨⟨g_x15.1, g_x15.2⟩, F.re ⟨rfl, Aa, Aa, Aa, trivial⟩, W⟩ fun s o a w H L8 hR => ?_
  obtain ⟨x26, x27⟩ := s
  obtain ⟨g_x26, F, W⟩ := hR
  have F : Fr 116 [] [(10, .slice none 0 0), (11, v6), (102, .int .i64 (x15.length : Int)), (103, .int .i64 x27)] a := F
  have W : Stw ⟨Y, [], w0⟩ [(b1, [.int .i64 p0.1, v1, v2])] [B9 v6 28 Ca g_x26.1] w := W
  rw [EY] at H
  refine Ah (Ac ?_)
  refine ls F W Aa (Bu F Aa Aa).q fun a w F W => ?_
  refine Ae (Ab (Ah ?_))
  refine AA F Aa (fun hb => ?_) fun hb => ?_
  ·
   have H := AS (BD hb) H
   rw [hb] at F
   clear hb
   refine Av (Ab (Ah (As (Ah (Ac ?_)))))
   refine ls F W Aa (Ad F Aa).q fun a w F W => ?_
   refine ls F W Aa (Ag F Aa).q fun a w F W => ?_
   refine Ae (Ab (Ac ?_))
   iterate 4 refine ls F W Aa (Ad F Aa).q fun a w F W => ?_
   obtain ⟨x28, h44, H⟩ := Ak H
   obtain ⟨v20, h45, h46⟩ := DQ (er := CO) g_x26.2 h44
   refine ls F W Aa (Ax (r := Ca.hr) Pp F Aa Aa (JL.hd (DM 0 Aa)) h45).q fun a w F W => ?_
   have h47 : Ca.cells v20 = [(v20.1)] := congrArg (fun q : Nat × List Int => ([(v20.1)] : List Value)) h46
   refine ls F W Aa (Ao (y := (v20.1)) (j := 0) (i := x27) (enc := Ca.cells) F Aa Aa (JL.hd (DM 0 Aa)) h45 Ca.flat JO (by rw [h47]; rfl)).q fun a w F W => ?_
   obtain ⟨x29, h48, H⟩ := Ak H
   obtain ⟨x30, h49, H⟩ := Ak H
   have W := W.dTakeR h45 Foc.here ((congrArg (fun q : Nat × List Int => q) h46).trans (Prod.ext (Ln h49) Aa))
   have h50 : List.map CO (Ap g_x26.1 x27 ((v20.1), 0, [])) = (Ap x26 x27 (0, [])) := (IX g_x26.2 (congrArg (fun q : Nat × List Int => (0, [])) h46))
   have W : Stw ⟨Y, [], w0⟩ [(b1, [.int .i64 p0.1, v1, v2])] [row (v20.1) 3 (Rp.int .i64) x28.2, B9 v6 28 Ca (Ap g_x26.1 x27 ((v20.1), 0, []))] w := W
   refine B7 (Ml := []) (Zl := [row (v20.1) 3 (Rp.int .i64) x28.2]) (M := [(b1, [.int .i64 p0.1, v1, v2])]) (Z := [B9 v6 28 Ca (Ap g_x26.1 x27 ((v20.1), 0, []))]) (β := Value) (rv := fun x => x) (MM := fun x => []) (ZZ := fun x => [row x 3 (Rp.int .i64) x29]) F W S3 Aa Aa (fun hL => Ib _ _ w ((v20.1)) x28.2 _ h48 hL) fun x a w F W => ?_
   obtain ⟨v21, rfl⟩ : ∃ y, y = x := ⟨x, rfl⟩
   have W : Stw ⟨Y, [], w0⟩ [(b1, [.int .i64 p0.1, v1, v2])] [row v21 3 (Rp.int .i64) x29, B9 v6 28 Ca (Ap g_x26.1 x27 ((v20.1), 0, []))] w := W
   obtain ⟨x31, h51, H⟩ := Ak H
   obtain ⟨v22, h52, h53⟩ := DQ (er := CO) h50 h51
   refine ls F W Aa (Ax (r := Ca.hr) Pp F Aa Aa (JL.hd (DM 1 Aa)) h52).q fun a w F W => ?_
   obtain ⟨x32, h54, H⟩ := Ak H
   obtain ⟨v23, h55, h56⟩ := DQ (er := CO) h50 h54
   have h57 : Value.oneCell' v21 = true := (W.one (k := 0) Aa)
   have W := W.frontZ (i := 1) Aa Aa
   have W := W.frontZ (i := 1) Aa Aa
   have W := W.toR
   refine I8 (D := Ca) (S := (Dp.sl 3 (Rp.int .i64))) (b := (v21, 2, x29)) (i := x27) (j := 0) Foc.here F W Aa Aa Aa h55 JO (EC h57) Aa h57 Aa fun w W => ?_
   have h58 : List.map CO (Ap (Ap g_x26.1 x27 ((v20.1), 0, [])) x27 (v21, 2, x29)) = (Ap (Ap x26 x27 (0, [])) x27 (2, x29)) := (IX h50 (congrArg (fun q : Nat × List Int => (2, x29)) h56))
   have W : Stw ⟨Y, [], w0⟩ [(b1, [.int .i64 p0.1, v1, v2])] [B9 v6 28 Ca (Ap (Ap g_x26.1 x27 ((v20.1), 0, [])) x27 (v21, 2, x29))] w := W
   refine Ae (AP (Ab (Ac ?_)))
   refine ls F W Aa (BC F Aa Aa Aa).q fun a w F W => ?_
   refine ls F W Aa (Ad F Aa).q fun a w F W => ?_
   refine Ae (Ab ?_)
   exact ⟨_, H, ⟨(Ap (Ap g_x26.1 x27 ((v20.1), 0, [])) x27 (v21, 2, x29)), h58⟩, F.re ⟨rfl, Aa, Aa, Aa, trivial⟩, W⟩
  have H := AR (BB hb) H
  rw [hb] at F
  clear hb
  refine A8 ?_
  iterate 2 refine Bq ?_
  refine A9 (Ab ?_)
  have H := L8 _ H
  exact ⟨_, ⟨g_x26.1, g_x26.2⟩, H, F.re ⟨rfl, Aa, trivial⟩, W⟩
 rintro a w ⟨x25, g_x25, hj, F, W⟩
 have hj := AV hj
 subst hj
 have H := K7
 clear G7 K7
 refine Ah (Ac ?_)
 refine ls F W Aa (Ad F Aa).q fun a w F W => ?_
 refine ls F W Aa (Ag F Aa).q fun a w F W => ?_
 refine Ae (Ab (AF ?_))
 obtain ⟨x33, h59, H⟩ := Ak H
 have H := AV H
 subst H
 refine BK (.inl Aa) F W Aa (Ay F Aa) ?_
 have W := Stw.ddRest R2 g_x25.2 h59 W
 have W := W.sub (M' := []) (Z' := [row v6 28 (Rp.slice (Rp.int .i64)) x33]) (List.nil_sublist _) (List.Sublist.refl _)
 exact ⟨(v6), Aa, W⟩
end Go.Proofs.Ythiejmoddfenlaa
