/- The functions of layer 24, Hp. Conditions: none. -/
import Derived.Test.YtjcaadbafjgefaatD2
namespace Go.Proofs.Ytjcaadbafjgefaa
open Go Go.RowKit
set_option linter.unusedVariables false
set_option linter.unusedSimpArgs false
set_option maxRecDepth 20000
theorem UD : Has Try.prog 10 := ⟨fun args w => An Try.func10 rfl (by decide) args w⟩
abbrev Qd : Rp (Int × Int × (Value × List Int)) := (Rp.pair (Rp.int .i64) (Rp.pair (Rp.int .i64) (Rp.vsl (Rp.int .i64))))
abbrev Td (p : Int × Int × (Value × List Int)) : Int × Int × List Int := (p.1, p.2.1, p.2.2.2)
theorem RA : Ex J5 Qd Td := (Ex.pair Ex.rfl' (Ex.pair Ex.rfl' Ex.sliceF))
theorem TG : Ty Try.prog 37 false 1 := ⟨by kernel_rfl, by kernel_rfl⟩
noncomputable def Gk (p0 : List (Int × Int × Int × Int)) : ((List (Int × Int × Int × Int)) × Int) → Option (((List (Int × Int × Int × Int)) × Int) ⊕ (List (Int × Int × Int × Int)))
  | (x2, x3) => (if x3 < (p0.length : Int) then (ix p0 x3).bind fun x4 => (ix p0 x3).bind fun x5 => (ix p0 x3).bind fun x6 => (ix p0 x3).bind fun x7 => (JN x2 ([(x4.1, x5.2.1, x6.2.2.1, x7.2.2.2)] : List (Int × Int × Int × Int))).bind fun x8 => some (.inl (x8, AA (x3 + 1))) else some (.inr x2))
noncomputable def Jh (p0 : List (Int × Int × Int × Int)) : Option (List (Int × Int × Int × Int)) := (AE (Gk p0) ([], 0)).bind fun x1 => some x1
theorem OP (Y : Nat → Prop) (w0 : World) (v1 : Value) (p0 : List (Int × Int × Int × Int)) (r : (List (Int × Int × Int × Int))) (H : Jh p0 = some r) (h_v1 : Sl w0 (NX []) Da v1 p0) :
    Calls Try.prog 46 #[v1] w0 fun e w' => ∃ x : Value, e = .returned (x) ∧ Stw ⟨Y, [], w0⟩ [] [row (x) 85 A8 r] w' := by
 refine enter Try.func46 Aa Try.ntmps46 Aa fun a F => ?_
 have W := Stw.start Y w0
 unfold Jh at H
 refine Ah (Ac ?_)
 refine ls F W Aa (Af F Aa).q fun a w F W => ?_
 refine Ae (Ab (Ah (Ac ?_)))
 refine ls F W Aa (Af F Aa).q fun a w F W => ?_
 refine Ae (Ab ?_)
 obtain ⟨o1, G1, K1⟩ := Al H
 refine AC (fun a w => ∃ x1 : List (Int × Int × Int × Int), ∃ v2 : Value, some (x1) = some o1 ∧ Fr 36 [] [(2, .slice none 0 0), (3, v2)] a ∧ Stw ⟨Y, [], w0⟩ [] [row v2 85 A8 x1] w) ?_ ?_
 ·
  have H := G1
  clear G1 K1
  refine Ah (Ac ?_)
  refine ls F W Aa (Af F Aa).q fun a w F W => ?_
  refine Ae (Ab (wp_block ?_))
  have W := W.nilRow 85 A8
  refine A1 H (fun s a w => ∃ v3 : Value, Fr 36 [] [(0, v1), (2, .slice none 0 0), (3, v3), (4, .int .i64 s.2)] a ∧ Stw ⟨Y, [], w0⟩ [] [row v3 85 A8 s.1] w) ⟨(Value.slice none 0 0), F.re ⟨rfl, Aa, Aa, Aa, trivial⟩, W⟩ fun s o a w H L2 hR => ?_
  obtain ⟨x2, x3⟩ := s
  obtain ⟨v3, F, W⟩ := hR
  have F : Fr 36 [] [(0, v1), (2, .slice none 0 0), (3, v3), (4, .int .i64 x3)] a := F
  have W : Stw ⟨Y, [], w0⟩ [] [row v3 85 A8 x2] w := W
  rw [Gk] at H
  refine Ah (Ah (Ac ?_))
  iterate 2 refine ls F W Aa (Ad F Aa).q fun a w F W => ?_
  refine ls F W Aa (BP (r := Da) (l := p0) QG Aa F Aa (Am h_v1)).q fun a w F W => ?_
  refine ls F W Aa (Bk F Aa Aa).q fun a w F W => ?_
  refine Ae (Ab ?_)
  refine Aw F Aa (fun hb => ?_) fun hb => ?_
  ·
   have H := AL (A6 hb) H
   rw [hb] at F
   clear hb
   refine wp_skip (Ab (Ah (wp_block ?_)))
   refine HO 22 [0] [1, 2, 3, 4, 5, 6, 7, 8, 9, 10, 11, 12, 13, 14, 15, 16, 17, 18, 19, 20, 21] (fun ch a d v w h => by cases d <;> exact h) W MO (by kernel_rfl) ?_
   refine hm F Aa Aa Aa fun a F => ?_
   refine IY ?_
   iterate 2 refine hs F Aa Aa Aa (Ad F Aa).q fun a F => ?_
   obtain ⟨x4, h1, H⟩ := Al H
   refine hs F Aa Aa Aa (Ay (r := Da) Rm F Aa Aa (Am h_v1) h1).q fun a F => ?_
   refine hs F Aa Aa Aa (Ai Mh Aa Aa Aa T3 F Aa (Fj v1 + (x3).toNat * 4) Aa).q fun a F => ?_
   refine hs F Aa Aa Aa (Ap (y := Value.int .i64 x4.1) (j := 0) (i := x3) F Aa Aa (Am h_v1) h1 Ot.to T3 Aa).q fun a F => ?_
   iterate 2 refine hs F Aa Aa Aa (Ad F Aa).q fun a F => ?_
   obtain ⟨x5, h2, H⟩ := Al H
   refine hs F Aa Aa Aa (Ay (r := Da) Rm F Aa Aa (Am h_v1) h2).q fun a F => ?_
   refine hs F Aa Aa Aa (Ai Mh Aa Aa Aa T3 F Aa (Fj v1 + (x3).toNat * 4 + 1) Aa).q fun a F => ?_
   refine hs F Aa Aa Aa (Ap (y := Value.int .i64 x5.2.1) (j := 1) (i := x3) F Aa Aa (Am h_v1) h2 Ot.to T3 Aa).q fun a F => ?_
   iterate 2 refine hs F Aa Aa Aa (Ad F Aa).q fun a F => ?_
   obtain ⟨x6, h3, H⟩ := Al H
   refine hs F Aa Aa Aa (Ay (r := Da) Rm F Aa Aa (Am h_v1) h3).q fun a F => ?_
   refine hs F Aa Aa Aa (Ai Mh Aa Aa Aa T3 F Aa (Fj v1 + (x3).toNat * 4 + 2) Aa).q fun a F => ?_
   refine hs F Aa Aa Aa (Ap (y := Value.int .i64 x6.2.2.1) (j := 2) (i := x3) F Aa Aa (Am h_v1) h3 Ot.to T3 Aa).q fun a F => ?_
   iterate 2 refine hs F Aa Aa Aa (Ad F Aa).q fun a F => ?_
   obtain ⟨x7, h4, H⟩ := Al H
   refine hs F Aa Aa Aa (Ay (r := Da) Rm F Aa Aa (Am h_v1) h4).q fun a F => ?_
   refine hs F Aa Aa Aa (Ai Mh Aa Aa Aa T3 F Aa (Fj v1 + (x3).toNat * 4 + 3) Aa).q fun a F => ?_
   refine hs F Aa Aa Aa (Ap (y := Value.int .i64 x7.2.2.2) (j := 3) (i := x3) F Aa Aa (Am h_v1) h4 Ot.to T3 Aa).q fun a F => ?_
   refine hs F Aa Aa Aa (Cg (v := Value.agg #[.int .i64 x4.1, .int .i64 x5.2.1, .int .i64 x6.2.2.1, .int .i64 x7.2.2.2]) Tt F Aa Aa Aa).q fun a F => ?_
   refine Km fun w W => ?_
   have W : Stw ⟨Y, [], w0⟩ [] [row v3 85 A8 x2] w := W
   refine EA (z := Value.agg #[.int .i64 0, .int .i64 0, .int .i64 0, .int .i64 0]) (cs := [.int .i64 x4.1, .int .i64 x5.2.1, .int .i64 x6.2.2.1, .int .i64 x7.2.2.2]) A8 ([(x4.1, x5.2.1, x6.2.2.1, x7.2.2.2)] : List (Int × Int × Int × Int)) F W Aa Eb R1 Aa Aa Aa Aa Aa Aa (Ek.repL _ _ ([(x4.1, x5.2.1, x6.2.2.1, x7.2.2.2)] : List (Int × Int × Int × Int))) fun v4 a w F W => ?_
   obtain ⟨x8, h5, H⟩ := Al H
   refine DY (r := A8) (i := 1) F W Aa Eb Aa Aa Aa Aa (EI W 0 Aa) h5 Aa fun v5 a w F W => ?_
   have W : Stw ⟨Y, [], w0⟩ [] [row v5 85 A8 x8, row v4 85 A8 ([(x4.1, x5.2.1, x6.2.2.1, x7.2.2.2)] : List (Int × Int × Int × Int))] w := W
   refine ls F W Aa (Af F Aa).q fun a w F W => ?_
   refine Ae (AH (Ab (Ac ?_)))
   refine ls F W Aa (Ad F Aa).q fun a w F W => ?_
   refine ls F W Aa (A3 F Aa Aa Aa).q fun a w F W => ?_
   refine ls F W Aa (Af F Aa).q fun a w F W => ?_
   refine Ae (Ab ?_)
   have W := W.sub (M' := []) (Z' := [row v5 85 A8 x8]) (List.Sublist.refl _) (List.Sublist.cons_cons _ (List.nil_sublist _))
   exact ⟨_, H, (v5), F.re ⟨rfl, Aa, Aa, Aa, trivial⟩, W⟩
  have H := AK (A7 hb) H
  rw [hb] at F
  clear hb
  refine wp_exit ?_
  iterate 2 refine A5 ?_
  refine AU (Ab ?_)
  have H := L2 _ H
  exact ⟨_, (v3), H, F.re ⟨rfl, Aa, trivial⟩, W⟩
 rintro a w ⟨x1, v2, hj, F, W⟩
 have hj := AM hj
 subst hj
 have H := K1
 clear G1 K1
 refine Ah (Ac ?_)
 refine ls F W Aa (Ad F Aa).q fun a w F W => ?_
 refine ls F W Aa (Af F Aa).q fun a w F W => ?_
 refine Ae (Ab (wp_ret ?_))
 have H := AM H
 subst H
 refine Bl (.inl Aa) F W Aa (Av F Aa) ?_
 exact ⟨(v2), Aa, W⟩
theorem Uk : Has Try.prog 46 := ⟨fun args w => An Try.func46 rfl (by decide) args w⟩
theorem SL (dd : Nat) (x0 : Int) (x1 : Int) (x2 : Int) (x3 : Int) (y0 : Int) (y1 : Int) (y2 : Int) (y3 : Int) (w : World) : (Op.equalIn (dd + 2) 85 (.agg #[.int .i64 x0, .int .i64 x1, .int .i64 x2, .int .i64 x3]) (.agg #[.int .i64 y0, .int .i64 y1, .int .i64 y2, .int .i64 y3])).run Try.prog w = .ok (decide (x0 = y0 ∧ x1 = y1 ∧ x2 = y2 ∧ x3 = y3)) w :=
  KC (d := dd + 1) (rs := [decide (x0 = y0), decide (x1 = y1), decide (x2 = y2), decide (x3 = y3)]) JS (by kernel_rfl) ⟨rfl, Ik (d := dd + 0) rfl rfl Oj T3 rfl rfl, rfl, Ik (d := dd + 0) rfl rfl Oj T3 rfl rfl, rfl, Ik (d := dd + 0) rfl rfl Oj T3 rfl rfl, rfl, Ik (d := dd + 0) rfl rfl Oj T3 rfl rfl, trivial⟩ (by simp) w
theorem Va : Try.prog.eqGuardType Try.prog.depth 85 = false := by kernel_rfl
theorem UX (x0 : Int) (x1 : Int) (x2 : Int) (x3 : Int) (y0 : Int) (y1 : Int) (y2 : Int) (y3 : Int) (w : World) : (Op.equalIn 10000 85 (.agg #[.int .i64 x0, .int .i64 x1, .int .i64 x2, .int .i64 x3]) (.agg #[.int .i64 y0, .int .i64 y1, .int .i64 y2, .int .i64 y3])).run Try.prog w = .ok (decide (x0 = y0 ∧ x1 = y1 ∧ x2 = y2 ∧ x3 = y3)) w := SL 9998 x0 x1 x2 x3 y0 y1 y2 y3 w
noncomputable def Fv (p0 : List (Int × Int × Int × Int)) (x1 : (List (Int × Int × Int × Int))) : Int → Option (Int ⊕ (Unit ⊕ Bool))
  | x2 => (if x2 < (p0.length : Int) then (ix p0 x2).bind fun x3 => (ix x1 x2).bind fun x4 => (if (!(decide (x3.1 = x4.1 ∧ x3.2.1 = x4.2.1 ∧ x3.2.2.1 = x4.2.2.1 ∧ x3.2.2.2 = x4.2.2.2))) = true then some (.inr (.inr false)) else some (.inl (AA (x2 + 1)))) else some (.inr (.inl ())))
noncomputable def Ji (p0 : List (Int × Int × Int × Int)) (p1 : List (Int × Int × Int × Int)) : Option Bool := (Jh p1).bind fun x1 => (if (p0.length : Int) ≠ (x1.length : Int) then some false else E6 (AE (Fv p0 x1) 0) fun _ => some true)
theorem Oy (Y : Nat → Prop) (w0 : World) (v1 : Value) (v2 : Value) (p0 : List (Int × Int × Int × Int)) (p1 : List (Int × Int × Int × Int)) (r : Bool) (H : Ji p0 p1 = some r) (h_v1 : Sl w0 (NX []) A8 v1 p0) (h_v2 : Sl w0 (NX []) Da v2 p1) :
    Calls Try.prog 26 #[v1, v2] w0 fun e w' => e = .returned (.bool r) ∧ Below w0.heap.size w0 w' := by
 refine enter Try.func26 Aa Try.ntmps26 Aa fun a F => ?_
 have W := Stw.start Y w0
 unfold Ji at H
 refine Ah (Ac ?_)
 refine ls F W Aa (Af F Aa).q fun a w F W => ?_
 refine Ae (Ab (Ah (Ac ?_)))
 refine ls F W Aa (Ad F Aa).q fun a w F W => ?_
 obtain ⟨x1, h1, H⟩ := Al H
 refine Bp (Ml := []) (Zl := []) (M := []) (Z := []) (β := Value) (rv := fun x => x) (MM := fun x => []) (ZZ := fun x => [row x 85 A8 x1]) F W Uk Aa Aa (fun hL => OP _ w (v2) p1 _ h1 ((Am h_v2) w W).nx) fun x a w F W => ?_
 obtain ⟨v3, rfl⟩ : ∃ y, y = x := ⟨x, rfl⟩
 have W : Stw ⟨Y, [], w0⟩ [] [row v3 85 A8 x1] w := W
 refine ls F W Aa (Af F Aa).q fun a w F W => ?_
 refine Ae (Ab (Ah (Ah (Ac ?_))))
 refine ls F W Aa (Ad F Aa).q fun a w F W => ?_
 refine ls F W Aa (BP (r := A8) (l := p0) Nc Aa F Aa (Am h_v1)).q fun a w F W => ?_
 refine ls F W Aa (Ad F Aa).q fun a w F W => ?_
 refine ls F W Aa (BP (r := A8) (l := x1) Nc Aa F Aa (Ao 0 Aa)).q fun a w F W => ?_
 refine ls F W Aa (Fe F Aa Aa).q fun a w F W => ?_
 refine Ae (Ab ?_)
 refine Aw F Aa (fun hb => ?_) fun hb => ?_
 ·
  have H := AL (A6 hb) H
  rw [hb] at F
  clear hb
  refine Ah (Ac ?_)
  refine ls F W Aa (Af F Aa).q fun a w F W => ?_
  refine Ae (Ab (wp_ret (AG ?_)))
  have H := AM H
  subst H
  refine Bl (.inl Aa) F W Aa (Av F Aa) ?_
  exact ⟨rfl, W.done⟩
 have H := AK (A7 hb) H
 rw [hb] at F
 clear hb
 refine wp_skip (Ab ?_)
 obtain ⟨o1, G1, K1, L1⟩ := Jb H
 refine AC (fun a w => some (Sum.inl ()) = some o1 ∧ Fr 29 [] [(4, .bool false)] a ∧ Stw ⟨Y, [], w0⟩ [] [] w) ?_ ?_
 ·
  have H := G1
  clear G1 K1
  refine Ah (Ac ?_)
  refine ls F W Aa (Af F Aa).q fun a w F W => ?_
  refine Ae (Ab (wp_block ?_))
  refine A1 H (fun s a w => Fr 29 [] [(0, v1), (4, .bool false), (5, v3), (6, .int .i64 s)] a ∧ Stw ⟨Y, [], w0⟩ [] [row v3 85 A8 x1] w) ⟨F.re ⟨rfl, Aa, Aa, Aa, trivial⟩, W⟩ fun s o a w H L2 hR => ?_
  obtain ⟨x2, rfl⟩ : ∃ x, x = s := ⟨s, rfl⟩
  obtain ⟨F, W⟩ := hR
  have F : Fr 29 [] [(0, v1), (4, .bool false), (5, v3), (6, .int .i64 x2)] a := F
  have W : Stw ⟨Y, [], w0⟩ [] [row v3 85 A8 x1] w := W
  rw [Fv] at H
  refine Ah (Ah (Ac ?_))
  iterate 2 refine ls F W Aa (Ad F Aa).q fun a w F W => ?_
  refine ls F W Aa (BP (r := A8) (l := p0) Nc Aa F Aa (Am h_v1)).q fun a w F W => ?_
  refine ls F W Aa (Bk F Aa Aa).q fun a w F W => ?_
  refine Ae (Ab ?_)
  refine Aw F Aa (fun hb => ?_) fun hb => ?_
  ·
   have H := AL (A6 hb) H
   rw [hb] at F
   clear hb
   refine wp_skip (Ab (Ah (wp_block (Ah ?_))))
   refine BB W MO (by kernel_rfl) ?_
   iterate 2 refine qs F Aa (Ad F Aa).q fun a F => ?_
   obtain ⟨x3, h2, H⟩ := Al H
   refine qs F Aa (Ay (r := A8) Eb F Aa Aa (Am h_v1) h2).q fun a F => ?_
   refine qs F Aa (Ap (y := Value.agg #[.int .i64 x3.1, .int .i64 x3.2.1, .int .i64 x3.2.2.1, .int .i64 x3.2.2.2]) (j := 0) (i := x2) F Aa Aa (Am h_v1) h2 Ek.to Ec Aa).q fun a F => ?_
   iterate 2 refine qs F Aa (Ad F Aa).q fun a F => ?_
   obtain ⟨x4, h3, H⟩ := Al H
   refine qs F Aa (Ay (r := A8) Eb F Aa Aa (Ao 0 Aa) h3).q fun a F => ?_
   refine qs F Aa (Ap (y := Value.agg #[.int .i64 x4.1, .int .i64 x4.2.1, .int .i64 x4.2.2.1, .int .i64 x4.2.2.2]) (j := 0) (i := x2) F Aa Aa (Ao 0 Aa) h3 Ek.to Ec Aa).q fun a F => ?_
   refine qs F Aa (Sd (t := decide (x3.1 = x4.1 ∧ x3.2.1 = x4.2.1 ∧ x3.2.2.1 = x4.2.2.1 ∧ x3.2.2.2 = x4.2.2.2)) Va (UX _ _ _ _ _ _ _ _) F Aa Aa).q fun a F => ?_
   refine AR fun w W => ?_
   refine Ab ?_
   refine Aw F Aa (fun hb => ?_) fun hb => ?_
   ·
    have H := AL hb H
    rw [hb] at F
    clear hb
    refine Ah (Ac ?_)
    refine ls F W Aa (Af F Aa).q fun a w F W => ?_
    refine Ae (Ab (wp_ret (AO ?_)))
    iterate 2 refine AG ?_
    refine AO (AG ?_)
    have H := L2 _ H
    have H := L1 _ H
    have H := AM H
    subst H
    refine Bl (.inl Aa) F W Aa (Av F Aa) ?_
    exact ⟨rfl, W.done⟩
   have H := AK (by rw [hb]; decide) H
   rw [hb] at F
   clear hb
   refine wp_skip (AH (Ab (Ac ?_)))
   refine ls F W Aa (Ad F Aa).q fun a w F W => ?_
   refine ls F W Aa (A3 F Aa Aa Aa).q fun a w F W => ?_
   refine ls F W Aa (Af F Aa).q fun a w F W => ?_
   refine Ae (Ab ?_)
   exact ⟨_, H, F.re ⟨rfl, Aa, Aa, Aa, trivial⟩, W⟩
  have H := AK (A7 hb) H
  rw [hb] at F
  clear hb
  refine wp_exit ?_
  iterate 2 refine A5 ?_
  refine AU (Ab ?_)
  have W := W.sub (M' := []) (Z' := []) (List.Sublist.refl _) (List.nil_sublist _)
  have H := L2 _ H
  exact ⟨H, F.re ⟨rfl, trivial⟩, W⟩
 rintro a w ⟨hj, F, W⟩
 have H := K1 _ hj
 clear hj G1 K1 L1
 refine Ah (Ac ?_)
 refine ls F W Aa (Af F Aa).q fun a w F W => ?_
 refine Ae (Ab (wp_ret ?_))
 have H := AM H
 subst H
 refine Bl (.inl Aa) F W Aa (Av F Aa) ?_
 exact ⟨rfl, W.done⟩
theorem UI : Has Try.prog 26 := ⟨fun args w => An Try.func26 rfl (by decide) args w⟩
abbrev OT (a : Int × Int × (Value × List Int)) : List Value := [.int .i64 a.1, .int .i64 a.2.1, a.2.2.1]
theorem RL : I8 Qd OT := (I8.pair Fl.int.to (I8.pair Fl.int.to I8.vsl))
noncomputable def Ft (p0 : List Int) (p1 : List Int) : Int → Option (Int ⊕ (Unit ⊕ Bool))
  | x1 => (if x1 < (p0.length : Int) then (ix p0 x1).bind fun x2 => (ix p1 x1).bind fun x3 => (if x2 ≠ x3 then some (.inr (.inr false)) else some (.inl (AA (x1 + 1)))) else some (.inr (.inl ())))
noncomputable def Jf (p0 : List Int) (p1 : List Int) : Option Bool := (if (p0.length : Int) ≠ (p1.length : Int) then some false else E6 (AE (Ft p0 p1) 0) fun _ => some true)
theorem Oq (Y : Nat → Prop) (w0 : World) (v1 : Value) (v2 : Value) (p0 : List Int) (p1 : List Int) (r : Bool) (H : Jf p0 p1 = some r) (h_v1 : Sl w0 (NX []) (Rp.int .i64) v1 p0) (h_v2 : Sl w0 (NX []) (Rp.int .i64) v2 p1) :
    Calls Try.prog 27 #[v1, v2] w0 fun e w' => e = .returned (.bool r) ∧ Below w0.heap.size w0 w' := by
 refine enter Try.func27 Aa Try.ntmps27 Aa fun a F => ?_
 have W := Stw.start Y w0
 unfold Jf at H
 refine Ah (Ac ?_)
 refine ls F W Aa (Af F Aa).q fun a w F W => ?_
 refine Ae (Ab (Ah (Ah (Ac ?_))))
 refine ls F W Aa (Ad F Aa).q fun a w F W => ?_
 refine ls F W Aa (BP (r := (Rp.int .i64)) (l := p0) Hm Aa F Aa (Am h_v1)).q fun a w F W => ?_
 refine ls F W Aa (Ad F Aa).q fun a w F W => ?_
 refine ls F W Aa (BP (r := (Rp.int .i64)) (l := p1) Hm Aa F Aa (Am h_v2)).q fun a w F W => ?_
 refine ls F W Aa (Fe F Aa Aa).q fun a w F W => ?_
 refine Ae (Ab ?_)
 refine Aw F Aa (fun hb => ?_) fun hb => ?_
 ·
  have H := AL (A6 hb) H
  rw [hb] at F
  clear hb
  refine Ah (Ac ?_)
  refine ls F W Aa (Af F Aa).q fun a w F W => ?_
  refine Ae (Ab (wp_ret (AG ?_)))
  have H := AM H
  subst H
  refine Bl (.inl Aa) F W Aa (Av F Aa) ?_
  exact ⟨rfl, W.done⟩
 have H := AK (A7 hb) H
 rw [hb] at F
 clear hb
 refine wp_skip (Ab ?_)
 obtain ⟨o1, G1, K1, L1⟩ := Jb H
 refine AC (fun a w => some (Sum.inl ()) = some o1 ∧ Fr 26 [] [(4, .bool false)] a ∧ Stw ⟨Y, [], w0⟩ [] [] w) ?_ ?_
 ·
  have H := G1
  clear G1 K1
  refine Ah (Ac ?_)
  refine ls F W Aa (Af F Aa).q fun a w F W => ?_
  refine Ae (Ab (wp_block ?_))
  refine A1 H (fun s a w => Fr 26 [] [(0, v1), (1, v2), (4, .bool false), (5, .int .i64 s)] a ∧ Stw ⟨Y, [], w0⟩ [] [] w) ⟨F.re ⟨rfl, Aa, Aa, Aa, trivial⟩, W⟩ fun s o a w H L2 hR => ?_
  obtain ⟨x1, rfl⟩ : ∃ x, x = s := ⟨s, rfl⟩
  obtain ⟨F, W⟩ := hR
  have F : Fr 26 [] [(0, v1), (1, v2), (4, .bool false), (5, .int .i64 x1)] a := F
  have W : Stw ⟨Y, [], w0⟩ [] [] w := W
  rw [Ft] at H
  refine Ah (Ah (Ac ?_))
  iterate 2 refine ls F W Aa (Ad F Aa).q fun a w F W => ?_
  refine ls F W Aa (BP (r := (Rp.int .i64)) (l := p0) Hm Aa F Aa (Am h_v1)).q fun a w F W => ?_
  refine ls F W Aa (Bk F Aa Aa).q fun a w F W => ?_
  refine Ae (Ab ?_)
  refine Aw F Aa (fun hb => ?_) fun hb => ?_
  ·
   have H := AL (A6 hb) H
   rw [hb] at F
   clear hb
   refine wp_skip (Ab (Ah (wp_block (Ah ?_))))
   refine BB W MO (by kernel_rfl) ?_
   iterate 2 refine qs F Aa (Ad F Aa).q fun a F => ?_
   obtain ⟨x2, h1, H⟩ := Al H
   refine qs F Aa (Ay (r := (Rp.int .i64)) Eo F Aa Aa (Am h_v1) h1).q fun a F => ?_
   refine qs F Aa (Ap (y := Value.int .i64 x2) (j := 0) (i := x1) F Aa Aa (Am h_v1) h1 Fl.int.to T3 Aa).q fun a F => ?_
   iterate 2 refine qs F Aa (Ad F Aa).q fun a F => ?_
   obtain ⟨x3, h2, H⟩ := Al H
   refine qs F Aa (Ay (r := (Rp.int .i64)) Eo F Aa Aa (Am h_v2) h2).q fun a F => ?_
   refine qs F Aa (Ap (y := Value.int .i64 x3) (j := 0) (i := x1) F Aa Aa (Am h_v2) h2 Fl.int.to T3 Aa).q fun a F => ?_
   refine qs F Aa (Fe F Aa Aa).q fun a F => ?_
   refine AR fun w W => ?_
   refine Ab ?_
   refine Aw F Aa (fun hb => ?_) fun hb => ?_
   ·
    have H := AL (A6 hb) H
    rw [hb] at F
    clear hb
    refine Ah (Ac ?_)
    refine ls F W Aa (Af F Aa).q fun a w F W => ?_
    refine Ae (Ab (wp_ret (AO ?_)))
    iterate 2 refine AG ?_
    refine AO (AG ?_)
    have H := L2 _ H
    have H := L1 _ H
    have H := AM H
    subst H
    refine Bl (.inl Aa) F W Aa (Av F Aa) ?_
    exact ⟨rfl, W.done⟩
   have H := AK (A7 hb) H
   rw [hb] at F
   clear hb
   refine wp_skip (AH (Ab (Ac ?_)))
   refine ls F W Aa (Ad F Aa).q fun a w F W => ?_
   refine ls F W Aa (A3 F Aa Aa Aa).q fun a w F W => ?_
   refine ls F W Aa (Af F Aa).q fun a w F W => ?_
   refine Ae (Ab ?_)
   exact ⟨_, H, F.re ⟨rfl, Aa, Aa, Aa, trivial⟩, W⟩
  have H := AK (A7 hb) H
  rw [hb] at F
  clear hb
  refine wp_exit ?_
  iterate 2 refine A5 ?_
  refine AU (Ab ?_)
  have H := L2 _ H
  exact ⟨H, F.re ⟨rfl, trivial⟩, W⟩
 rintro a w ⟨hj, F, W⟩
 have H := K1 _ hj
 clear hj G1 K1 L1
 refine Ah (Ac ?_)
 refine ls F W Aa (Af F Aa).q fun a w F W => ?_
 refine Ae (Ab (wp_ret ?_))
 have H := AM H
 subst H
 refine Bl (.inl Aa) F W Aa (Av F Aa) ?_
 exact ⟨rfl, W.done⟩
theorem Ue : Has Try.prog 27 := ⟨fun args w => An Try.func27 rfl (by decide) args w⟩
noncomputable def Fy (p0 : (List (Int × Int × Int × Int)) × (List (Int × Int × List Int)) × Int × Int × Int × Int) (p1 : (List (Int × Int × Int × Int)) × (List (Int × Int × List Int)) × Int × Int × Int × Int) : Int → Option (Int ⊕ (Unit ⊕ Bool))
  | x3 => (if x3 < (p1.2.1.length : Int) then ((ix p0.2.1 x3).bind fun x5 => (ix p1.2.1 x3).bind fun x6 => (if x5.1 ≠ x6.1 then some true else (ix p0.2.1 x3).bind fun x7 => (ix p1.2.1 x3).bind fun x8 => (if x7.2.1 ≠ x8.2.1 then some true else (ix p0.2.1 x3).bind fun x9 => (ix p1.2.1 x3).bind fun x10 => (Jf x9.2.2 x10.2.2).bind fun x11 => some (!x11)))).bind fun x4 => (if x4 = true then some (.inr (.inr false)) else some (.inl (AA (x3 + 1)))) else some (.inr (.inl ())))
noncomputable def Jd (p0 : (List (Int × Int × Int × Int)) × (List (Int × Int × List Int)) × Int × Int × Int × Int) (p1 : (List (Int × Int × Int × Int)) × (List (Int × Int × List Int)) × Int × Int × Int × Int) : Option Bool := ((Ji p0.1 p1.1).bind fun x2 => (if (!x2) = true then some true else (if (p0.2.1.length : Int) ≠ (p1.2.1.length : Int) then some true else (if p0.2.2.1 ≠ p1.2.2.1 then some true else (if p0.2.2.2.1 ≠ p1.2.2.2.1 then some true else (if p0.2.2.2.2.1 ≠ p1.2.2.2.2.1 then some true else some (decide (p0.2.2.2.2.2 ≠ p1.2.2.2.2.2)))))))).bind fun x1 => (if x1 = true then some false else E6 (AE (Fy p0 p1) 0) fun _ => some true)
theorem OQ (Y : Nat → Prop) (w0 : World) (v1 : Value) (v2 : Value) (v3 : Value) (v4 : Value) (p0 : (List (Int × Int × Int × Int)) × (List (Int × Int × List Int)) × Int × Int × Int × Int) (p1 : (List (Int × Int × Int × Int)) × (List (Int × Int × List Int)) × Int × Int × Int × Int) (r : Bool) (H : Jd p0 p1 = some r) (h_v1 : Sl w0 (NX []) A8 v1 p0.1) (h_v2 : Sl w0 (NX []) HG v2 p0.2.1) (h_v3 : Sl w0 (NX []) Da v3 p1.1) (h_v4 : Sl w0 (NX []) J5 v4 p1.2.1) :
    Calls Try.prog 11 #[.agg #[v1, v2, .int .i64 p0.2.2.1, .int .i64 p0.2.2.2.1, .int .i64 p0.2.2.2.2.1, .int .i64 p0.2.2.2.2.2], .agg #[v3, v4, .int .i64 p1.2.2.1, .int .i64 p1.2.2.2.1, .int .i64 p1.2.2.2.2.1, .int .i64 p1.2.2.2.2.2]] w0 fun e w' => e = .returned (.bool r) ∧ Below w0.heap.size w0 w' := by
 refine enter Try.func11 Aa Try.ntmps11 Aa fun a F => ?_
 have W := Stw.start Y w0
 obtain ⟨v5, h1, h_v2⟩ := h_v2.ex ID
 obtain ⟨v6, h2, h_v4⟩ := h_v4.ex RA
 unfold Jd at H
 refine Ah (Ac ?_)
 refine Dr (cs := [v1, v2, .int .i64 p0.2.2.1, .int .i64 p0.2.2.2.1, .int .i64 p0.2.2.2.2.1, .int .i64 p0.2.2.2.2.2]) F W Aa Aa Aa fun b1 a w F W => ?_
 refine Dr (cs := [v3, v4, .int .i64 p1.2.2.1, .int .i64 p1.2.2.2.1, .int .i64 p1.2.2.2.2.1, .int .i64 p1.2.2.2.2.2]) F W Aa Aa Aa fun b2 a w F W => ?_
 refine ls F W Aa (Af F Aa).q fun a w F W => ?_
 refine Ae (Ab (Ah ?_))
 obtain ⟨o1, G1, K1⟩ := Al H
 refine AC (fun a w => ∃ x1 : Bool, some (x1) = some o1 ∧ Fr 100 [] [(2, .pointer (some ⟨b1, 0, none⟩)), (3, .pointer (some ⟨b2, 0, none⟩)), (4, .bool false), (48, .bool x1)] a ∧ Stw ⟨Y, [], w0⟩ [(b2, [v3, v4, .int .i64 p1.2.2.1, .int .i64 p1.2.2.2.1, .int .i64 p1.2.2.2.2.1, .int .i64 p1.2.2.2.2.2]), (b1, [v1, v2, .int .i64 p0.2.2.1, .int .i64 p0.2.2.2.1, .int .i64 p0.2.2.2.2.1, .int .i64 p0.2.2.2.2.2])] [] w) ?_ ?_
 ·
  have H := G1
  clear G1 K1
  refine Ac ?_
  refine ls F W Aa (Ai GR Aa Aa Aa SE F Aa 0 Aa).q fun a w F W => ?_
  refine ls F W Aa (As (v := v1) 1 F Aa Aa SE Aa).q fun a w F W => ?_
  refine ls F W Aa (Ai I7 Aa Aa Aa TG F Aa 0 Aa).q fun a w F W => ?_
  refine ls F W Aa (As (v := v3) 0 F Aa Aa TG Aa).q fun a w F W => ?_
  obtain ⟨x2, h3, H⟩ := Al H
  refine ls F W Aa (BH (v := Value.bool x2) F UI Aa (fun w W => Oy any w (v1) (v3) p0.1 p1.1 _ h3 (((Am h_v1) : DT _ _ _ _ _ _) w W).nx (((Am h_v3) : DT _ _ _ _ _ _) w W).nx)) fun a w F W => ?_
  refine ls F W Aa (Dt F Aa).q fun a w F W => ?_
  refine ls F W Aa (Ad F Aa).q fun a w F W => ?_
  rcases Bool.eq_false_or_eq_true (!x2) with hb | hb
  ·
   have H := AL hb H
   rw [hb] at F
   clear hb
   iterate 7 refine Cj F Aa Aa Aa Aa Aa Aa Aa fun a F => ?_
   refine ls F W Aa (Aq F Aa Aa Aa).q fun a w F W => ?_
   refine ls F W Aa (Ad F Aa).q fun a w F W => ?_
   iterate 5 refine Cj F Aa Aa Aa Aa Aa Aa Aa fun a F => ?_
   refine ls F W Aa (Aq F Aa Aa Aa).q fun a w F W => ?_
   refine ls F W Aa (Ad F Aa).q fun a w F W => ?_
   iterate 5 refine Cj F Aa Aa Aa Aa Aa Aa Aa fun a F => ?_
   refine ls F W Aa (Aq F Aa Aa Aa).q fun a w F W => ?_
   refine ls F W Aa (Ad F Aa).q fun a w F W => ?_
   iterate 5 refine Cj F Aa Aa Aa Aa Aa Aa Aa fun a F => ?_
   refine ls F W Aa (Aq F Aa Aa Aa).q fun a w F W => ?_
   refine ls F W Aa (Ad F Aa).q fun a w F W => ?_
   iterate 5 refine Cj F Aa Aa Aa Aa Aa Aa Aa fun a F => ?_
   refine ls F W Aa (Aq F Aa Aa Aa).q fun a w F W => ?_
   refine Ae (Ab ?_)
   have W := W.frontM (i := 1) Aa Aa
   have W := W.frontM (i := 1) Aa Aa
   exact ⟨_, H, F.re ⟨rfl, Aa, Aa, Aa, trivial⟩, W⟩
  have H := AK (by rw [hb]; decide) H
  rw [hb] at F
  clear hb
  refine AD F W (Ag F Aa Aa Aa Aa) Aa (Ak Aa) (Ai GR Aa Aa Aa Mt F Aa 1 Aa).q fun a w F W => ?_
  refine AD F W (Ag F Aa Aa Aa Aa) Aa (Ak Aa) (As (v := v2) 1 F Aa Aa Mt Aa).q fun a w F W => ?_
  refine AD F W (Ag F Aa Aa Aa Aa) Aa (Ak Aa) (BP (r := HG) (l := p0.2.1) PZ Aa F Aa (BA ID h1 (Am h_v2))).q fun a w F W => ?_
  refine AD F W (Ag F Aa Aa Aa Aa) Aa (Ak Aa) (Ai I7 Aa Aa Aa Pd F Aa 1 Aa).q fun a w F W => ?_
  refine AD F W (Ag F Aa Aa Aa Aa) Aa (Ak Aa) (As (v := v4) 0 F Aa Aa Pd Aa).q fun a w F W => ?_
  refine AD F W (Ag F Aa Aa Aa Aa) Aa (Ak Aa) (BP (r := J5) (l := p1.2.1) Rz Aa F Aa (BA RA h2 (Am h_v4))).q fun a w F W => ?_
  refine AD F W (Ag F Aa Aa Aa Aa) Aa (Ak Aa) (Fe F Aa Aa).q fun a w F W => ?_
  refine ls F W Aa (Au F Aa Aa Aa).q fun a w F W => ?_
  refine ls F W Aa (Ad F Aa).q fun a w F W => ?_
  rcases Bool.eq_false_or_eq_true (decide ((p0.2.1.length : Int) ≠ (p1.2.1.length : Int))) with hb | hb
  ·
   have H := AL (A6 hb) H
   rw [hb] at F
   clear hb
   iterate 5 refine Cj F Aa Aa Aa Aa Aa Aa Aa fun a F => ?_
   refine ls F W Aa (Aq F Aa Aa Aa).q fun a w F W => ?_
   refine ls F W Aa (Ad F Aa).q fun a w F W => ?_
   iterate 5 refine Cj F Aa Aa Aa Aa Aa Aa Aa fun a F => ?_
   refine ls F W Aa (Aq F Aa Aa Aa).q fun a w F W => ?_
   refine ls F W Aa (Ad F Aa).q fun a w F W => ?_
   iterate 5 refine Cj F Aa Aa Aa Aa Aa Aa Aa fun a F => ?_
   refine ls F W Aa (Aq F Aa Aa Aa).q fun a w F W => ?_
   refine ls F W Aa (Ad F Aa).q fun a w F W => ?_
   iterate 5 refine Cj F Aa Aa Aa Aa Aa Aa Aa fun a F => ?_
   refine ls F W Aa (Aq F Aa Aa Aa).q fun a w F W => ?_
   refine Ae (Ab ?_)
   have W := W.frontM (i := 1) Aa Aa
   have W := W.frontM (i := 1) Aa Aa
   exact ⟨_, H, F.re ⟨rfl, Aa, Aa, Aa, trivial⟩, W⟩
  have H := AK (A7 hb) H
  rw [hb] at F
  clear hb
  refine AD F W (Ag F Aa Aa Aa Aa) Aa (Ak Aa) (Ai GR Aa Aa Aa T3 F Aa 2 Aa).q fun a w F W => ?_
  refine AD F W (Ag F Aa Aa Aa Aa) Aa (Ak Aa) (As (v := Value.int .i64 p0.2.2.1) 1 F Aa Aa T3 Aa).q fun a w F W => ?_
  refine AD F W (Ag F Aa Aa Aa Aa) Aa (Ak Aa) (Ai I7 Aa Aa Aa T3 F Aa 2 Aa).q fun a w F W => ?_
  refine AD F W (Ag F Aa Aa Aa Aa) Aa (Ak Aa) (As (v := Value.int .i64 p1.2.2.1) 0 F Aa Aa T3 Aa).q fun a w F W => ?_
  refine AD F W (Ag F Aa Aa Aa Aa) Aa (Ak Aa) (Fe F Aa Aa).q fun a w F W => ?_
  refine ls F W Aa (Au F Aa Aa Aa).q fun a w F W => ?_
  refine ls F W Aa (Ad F Aa).q fun a w F W => ?_
  rcases Bool.eq_false_or_eq_true (decide (p0.2.2.1 ≠ p1.2.2.1)) with hb | hb
  ·
   have H := AL (A6 hb) H
   rw [hb] at F
   clear hb
   iterate 5 refine Cj F Aa Aa Aa Aa Aa Aa Aa fun a F => ?_
   refine ls F W Aa (Aq F Aa Aa Aa).q fun a w F W => ?_
   refine ls F W Aa (Ad F Aa).q fun a w F W => ?_
   iterate 5 refine Cj F Aa Aa Aa Aa Aa Aa Aa fun a F => ?_
   refine ls F W Aa (Aq F Aa Aa Aa).q fun a w F W => ?_
   refine ls F W Aa (Ad F Aa).q fun a w F W => ?_
   iterate 5 refine Cj F Aa Aa Aa Aa Aa Aa Aa fun a F => ?_
   refine ls F W Aa (Aq F Aa Aa Aa).q fun a w F W => ?_
   refine Ae (Ab ?_)
   have W := W.frontM (i := 1) Aa Aa
   have W := W.frontM (i := 1) Aa Aa
   exact ⟨_, H, F.re ⟨rfl, Aa, Aa, Aa, trivial⟩, W⟩
  have H := AK (A7 hb) H
  rw [hb] at F
  clear hb
  refine AD F W (Ag F Aa Aa Aa Aa) Aa (Ak Aa) (Ai GR Aa Aa Aa T3 F Aa 3 Aa).q fun a w F W => ?_
  refine AD F W (Ag F Aa Aa Aa Aa) Aa (Ak Aa) (As (v := Value.int .i64 p0.2.2.2.1) 1 F Aa Aa T3 Aa).q fun a w F W => ?_
  refine AD F W (Ag F Aa Aa Aa Aa) Aa (Ak Aa) (Ai I7 Aa Aa Aa T3 F Aa 3 Aa).q fun a w F W => ?_
  refine AD F W (Ag F Aa Aa Aa Aa) Aa (Ak Aa) (As (v := Value.int .i64 p1.2.2.2.1) 0 F Aa Aa T3 Aa).q fun a w F W => ?_
  refine AD F W (Ag F Aa Aa Aa Aa) Aa (Ak Aa) (Fe F Aa Aa).q fun a w F W => ?_
  refine ls F W Aa (Au F Aa Aa Aa).q fun a w F W => ?_
  refine ls F W Aa (Ad F Aa).q fun a w F W => ?_
  rcases Bool.eq_false_or_eq_true (decide (p0.2.2.2.1 ≠ p1.2.2.2.1)) with hb | hb
  ·
   have H := AL (A6 hb) H
   rw [hb] at F
   clear hb
   iterate 5 refine Cj F Aa Aa Aa Aa Aa Aa Aa fun a F => ?_
   refine ls F W Aa (Aq F Aa Aa Aa).q fun a w F W => ?_
   refine ls F W Aa (Ad F Aa).q fun a w F W => ?_
   iterate 5 refine Cj F Aa Aa Aa Aa Aa Aa Aa fun a F => ?_
   refine ls F W Aa (Aq F Aa Aa Aa).q fun a w F W => ?_
   refine Ae (Ab ?_)
   have W := W.frontM (i := 1) Aa Aa
   have W := W.frontM (i := 1) Aa Aa
   exact ⟨_, H, F.re ⟨rfl, Aa, Aa, Aa, trivial⟩, W⟩
  have H := AK (A7 hb) H
  rw [hb] at F
  clear hb
  refine AD F W (Ag F Aa Aa Aa Aa) Aa (Ak Aa) (Ai GR Aa Aa Aa T3 F Aa 4 Aa).q fun a w F W => ?_
  refine AD F W (Ag F Aa Aa Aa Aa) Aa (Ak Aa) (As (v := Value.int .i64 p0.2.2.2.2.1) 1 F Aa Aa T3 Aa).q fun a w F W => ?_
  refine AD F W (Ag F Aa Aa Aa Aa) Aa (Ak Aa) (Ai I7 Aa Aa Aa T3 F Aa 4 Aa).q fun a w F W => ?_
  refine AD F W (Ag F Aa Aa Aa Aa) Aa (Ak Aa) (As (v := Value.int .i64 p1.2.2.2.2.1) 0 F Aa Aa T3 Aa).q fun a w F W => ?_
  refine AD F W (Ag F Aa Aa Aa Aa) Aa (Ak Aa) (Fe F Aa Aa).q fun a w F W => ?_
  refine ls F W Aa (Au F Aa Aa Aa).q fun a w F W => ?_
  refine ls F W Aa (Ad F Aa).q fun a w F W => ?_
  rcases Bool.eq_false_or_eq_true (decide (p0.2.2.2.2.1 ≠ p1.2.2.2.2.1)) with hb | hb
  ·
   have H := AL (A6 hb) H
   rw [hb] at F
   clear hb
   iterate 5 refine Cj F Aa Aa Aa Aa Aa Aa Aa fun a F => ?_
   refine ls F W Aa (Aq F Aa Aa Aa).q fun a w F W => ?_
   refine Ae (Ab ?_)
   have W := W.frontM (i := 1) Aa Aa
   have W := W.frontM (i := 1) Aa Aa
   exact ⟨_, H, F.re ⟨rfl, Aa, Aa, Aa, trivial⟩, W⟩
  have H := AK (A7 hb) H
  rw [hb] at F
  clear hb
  refine AD F W (Ag F Aa Aa Aa Aa) Aa (Ak Aa) (Ai GR Aa Aa Aa T3 F Aa 5 Aa).q fun a w F W => ?_
  refine AD F W (Ag F Aa Aa Aa Aa) Aa (Ak Aa) (As (v := Value.int .i64 p0.2.2.2.2.2) 1 F Aa Aa T3 Aa).q fun a w F W => ?_
  refine AD F W (Ag F Aa Aa Aa Aa) Aa (Ak Aa) (Ai I7 Aa Aa Aa T3 F Aa 5 Aa).q fun a w F W => ?_
  refine AD F W (Ag F Aa Aa Aa Aa) Aa (Ak Aa) (As (v := Value.int .i64 p1.2.2.2.2.2) 0 F Aa Aa T3 Aa).q fun a w F W => ?_
  refine AD F W (Ag F Aa Aa Aa Aa) Aa (Ak Aa) (Fe F Aa Aa).q fun a w F W => ?_
  refine ls F W Aa (Au F Aa Aa Aa).q fun a w F W => ?_
  refine Ae (Ab ?_)
  have W := W.frontM (i := 1) Aa Aa
  have W := W.frontM (i := 1) Aa Aa
  exact ⟨_, H, F.re ⟨rfl, Aa, Aa, Aa, trivial⟩, W⟩
 rintro a w ⟨x1, hj, F, W⟩
 have hj := AM hj
 subst hj
 have H := K1
 clear G1 K1
 refine Aw F Aa (fun hb => ?_) fun hb => ?_
 ·
  have H := AL hb H
  rw [hb] at F
  clear hb
  refine Ah (Ac ?_)
  refine ls F W Aa (Af F Aa).q fun a w F W => ?_
  refine Ae (Ab (wp_ret (AG ?_)))
  have H := AM H
  subst H
  refine Bl (.inl Aa) F W Aa (Av F Aa) ?_
  exact ⟨rfl, W.done⟩
 have H := AK (by rw [hb]; decide) H
 rw [hb] at F
 clear hb
 refine wp_skip (Ab ?_)
 obtain ⟨o2, G2, K2, L2⟩ := Jb H
 refine AC (fun a w => some (Sum.inl ()) = some o2 ∧ Fr 100 [] [(4, .bool false)] a ∧ Stw ⟨Y, [], w0⟩ [(b2, [v3, v4, .int .i64 p1.2.2.1, .int .i64 p1.2.2.2.1, .int .i64 p1.2.2.2.2.1, .int .i64 p1.2.2.2.2.2]), (b1, [v1, v2, .int .i64 p0.2.2.1, .int .i64 p0.2.2.2.1, .int .i64 p0.2.2.2.2.1, .int .i64 p0.2.2.2.2.2])] [] w) ?_ ?_
 ·
  have H := G2
  clear G2 K2
  refine Ah (Ac ?_)
  refine ls F W Aa (Af F Aa).q fun a w F W => ?_
  refine Ae (Ab (wp_block ?_))
  have W := W.frontM (i := 1) Aa Aa
  have W := W.frontM (i := 1) Aa Aa
  refine A1 H (fun s a w => Fr 100 [] [(2, .pointer (some ⟨b1, 0, none⟩)), (3, .pointer (some ⟨b2, 0, none⟩)), (4, .bool false), (5, .int .i64 s)] a ∧ Stw ⟨Y, [], w0⟩ [(b2, [v3, v4, .int .i64 p1.2.2.1, .int .i64 p1.2.2.2.1, .int .i64 p1.2.2.2.2.1, .int .i64 p1.2.2.2.2.2]), (b1, [v1, v2, .int .i64 p0.2.2.1, .int .i64 p0.2.2.2.1, .int .i64 p0.2.2.2.2.1, .int .i64 p0.2.2.2.2.2])] [] w) ⟨F.re ⟨rfl, Aa, Aa, Aa, trivial⟩, W⟩ fun s o a w H L3 hR => ?_
  obtain ⟨x3, rfl⟩ : ∃ x, x = s := ⟨s, rfl⟩
  obtain ⟨F, W⟩ := hR
  have F : Fr 100 [] [(2, .pointer (some ⟨b1, 0, none⟩)), (3, .pointer (some ⟨b2, 0, none⟩)), (4, .bool false), (5, .int .i64 x3)] a := F
  have W : Stw ⟨Y, [], w0⟩ [(b2, [v3, v4, .int .i64 p1.2.2.1, .int .i64 p1.2.2.2.1, .int .i64 p1.2.2.2.2.1, .int .i64 p1.2.2.2.2.2]), (b1, [v1, v2, .int .i64 p0.2.2.1, .int .i64 p0.2.2.2.1, .int .i64 p0.2.2.2.2.1, .int .i64 p0.2.2.2.2.2])] [] w := W
  rw [Fy] at H
  refine Ah (Ah (Ac ?_))
  refine ls F W Aa (Ad F Aa).q fun a w F W => ?_
  refine ls F W Aa (Ai I7 Aa Aa Aa Pd F Aa 1 Aa).q fun a w F W => ?_
  refine ls F W Aa (As (v := v4) 0 F Aa Aa Pd Aa).q fun a w F W => ?_
  refine ls F W Aa (BP (r := J5) (l := p1.2.1) Rz Aa F Aa (BA RA h2 (Am h_v4))).q fun a w F W => ?_
  refine ls F W Aa (Bk F Aa Aa).q fun a w F W => ?_
  refine Ae (Ab ?_)
  refine Aw F Aa (fun hb => ?_) fun hb => ?_
  ·
   have H := AL (A6 hb) H
   rw [hb] at F
   clear hb
   refine wp_skip (Ab (Ah (wp_block ?_)))
   obtain ⟨o4, G4, K4⟩ := Al H
   refine AC (fun a w => ∃ x4 : Bool, some (x4) = some o4 ∧ Fr 100 [] [(2, .pointer (some ⟨b1, 0, none⟩)), (3, .pointer (some ⟨b2, 0, none⟩)), (4, .bool false), (5, .int .i64 x3), (99, .bool x4)] a ∧ Stw ⟨Y, [], w0⟩ [(b2, [v3, v4, .int .i64 p1.2.2.1, .int .i64 p1.2.2.2.1, .int .i64 p1.2.2.2.2.1, .int .i64 p1.2.2.2.2.2]), (b1, [v1, v2, .int .i64 p0.2.2.1, .int .i64 p0.2.2.2.1, .int .i64 p0.2.2.2.2.1, .int .i64 p0.2.2.2.2.2])] [] w) ?_ ?_
   ·
    have H := G4
    clear G4 K4
    refine BB W MO (by kernel_rfl) ?_
    refine qs F Aa (Ai GR Aa Aa Aa Mt F Aa 1 Aa).q fun a F => ?_
    refine qs F Aa (As (v := v2) 1 F Aa Aa Mt Aa).q fun a F => ?_
    refine qs F Aa (Ad F Aa).q fun a F => ?_
    obtain ⟨x5, h4, H⟩ := Al H
    obtain ⟨v7, h5, h6⟩ := EJ h1 h4
    have h7 : KH v7 = [.int .i64 x5.1, .int .i64 x5.2.1, (v7.2.2.1)] := congrArg (fun q : Int × Int × List Int => ([.int .i64 q.1, .int .i64 q.2.1, (v7.2.2.1)] : List Value)) h6
    refine qs F Aa (Ay (r := MC) Ra F Aa Aa (Am h_v2) h5).q fun a F => ?_
    refine qs F Aa (Ai N7 Aa Aa Aa T3 F Aa (Fj v2 + (x3).toNat * 3) Aa).q fun a F => ?_
    refine qs F Aa (Ap (y := Value.int .i64 x5.1) (j := 0) (i := x3) (enc := KH) F Aa Aa (Am h_v2) h5 Po T3 (by rw [h7]; rfl)).q fun a F => ?_
    refine qs F Aa (Ai I7 Aa Aa Aa Pd F Aa 1 Aa).q fun a F => ?_
    refine qs F Aa (As (v := v4) 0 F Aa Aa Pd Aa).q fun a F => ?_
    refine qs F Aa (Ad F Aa).q fun a F => ?_
    obtain ⟨x6, h8, H⟩ := Al H
    obtain ⟨v8, h9, h10⟩ := EJ h2 h8
    have h11 : OT v8 = [.int .i64 x6.1, .int .i64 x6.2.1, (v8.2.2.1)] := congrArg (fun q : Int × Int × List Int => ([.int .i64 q.1, .int .i64 q.2.1, (v8.2.2.1)] : List Value)) h10
    refine qs F Aa (Ay (r := Qd) Sx F Aa Aa (Am h_v4) h9).q fun a F => ?_
    refine qs F Aa (Ai Q7 Aa Aa Aa T3 F Aa (Fj v4 + (x3).toNat * 3) Aa).q fun a F => ?_
    refine qs F Aa (Ap (y := Value.int .i64 x6.1) (j := 0) (i := x3) (enc := OT) F Aa Aa (Am h_v4) h9 RL T3 (by rw [h11]; rfl)).q fun a F => ?_
    refine qs F Aa (Fe F Aa Aa).q fun a F => ?_
    refine qs F Aa (Ad F Aa).q fun a F => ?_
    rcases Bool.eq_false_or_eq_true (decide (x5.1 ≠ x6.1)) with hb | hb
    ·
     have H := AL (A6 hb) H
     rw [hb] at F
     clear hb
     iterate 13 refine El F (Dm F Aa Aa Aa Aa Aa) Aa Aa fun a F => ?_
     refine qs F Aa (Aq F Aa Aa Aa).q fun a F => ?_
     refine qs F Aa (Ad F Aa).q fun a F => ?_
     iterate 14 refine El F (Dm F Aa Aa Aa Aa Aa) Aa Aa fun a F => ?_
     refine qs F Aa (Aq F Aa Aa Aa).q fun a F => ?_
     refine AR fun w W => ?_
     refine Ab ?_
     have W := W.frontM (i := 1) Aa Aa
     have W := W.frontM (i := 1) Aa Aa
     exact ⟨_, H, F.re ⟨rfl, Aa, Aa, Aa, Aa, trivial⟩, W⟩
    have H := AK (A7 hb) H
    rw [hb] at F
    clear hb
    refine Bf F (Ag F Aa Aa Aa Aa) Aa (Ak Aa) (Ai GR Aa Aa Aa Mt F Aa 1 Aa).q fun a F => ?_
    refine Bf F (Ag F Aa Aa Aa Aa) Aa (Ak Aa) (As (v := v2) 1 F Aa Aa Mt Aa).q fun a F => ?_
    refine Bf F (Ag F Aa Aa Aa Aa) Aa (Ak Aa) (Ad F Aa).q fun a F => ?_
    obtain ⟨x7, h12, H⟩ := Al H
    obtain ⟨v9, h13, h14⟩ := EJ h1 h12
    have h15 : KH v9 = [.int .i64 x7.1, .int .i64 x7.2.1, (v9.2.2.1)] := congrArg (fun q : Int × Int × List Int => ([.int .i64 q.1, .int .i64 q.2.1, (v9.2.2.1)] : List Value)) h14
    refine Bf F (Ag F Aa Aa Aa Aa) Aa (Ak Aa) (Ay (r := MC) Ra F Aa Aa (Am h_v2) h13).q fun a F => ?_
    refine Bf F (Ag F Aa Aa Aa Aa) Aa (Ak Aa) (Ai N7 Aa Aa Aa T3 F Aa (Fj v2 + (x3).toNat * 3 + 1) Aa).q fun a F => ?_
    refine Bf F (Ag F Aa Aa Aa Aa) Aa (Ak Aa) (Ap (y := Value.int .i64 x7.2.1) (j := 1) (i := x3) (enc := KH) F Aa Aa (Am h_v2) h13 Po T3 (by rw [h15]; rfl)).q fun a F => ?_
    refine Bf F (Ag F Aa Aa Aa Aa) Aa (Ak Aa) (Ai I7 Aa Aa Aa Pd F Aa 1 Aa).q fun a F => ?_
    refine Bf F (Ag F Aa Aa Aa Aa) Aa (Ak Aa) (As (v := v4) 0 F Aa Aa Pd Aa).q fun a F => ?_
    refine Bf F (Ag F Aa Aa Aa Aa) Aa (Ak Aa) (Ad F Aa).q fun a F => ?_
    obtain ⟨x8, h16, H⟩ := Al H
    obtain ⟨v10, h17, h18⟩ := EJ h2 h16
    have h19 : OT v10 = [.int .i64 x8.1, .int .i64 x8.2.1, (v10.2.2.1)] := congrArg (fun q : Int × Int × List Int => ([.int .i64 q.1, .int .i64 q.2.1, (v10.2.2.1)] : List Value)) h18
    refine Bf F (Ag F Aa Aa Aa Aa) Aa (Ak Aa) (Ay (r := Qd) Sx F Aa Aa (Am h_v4) h17).q fun a F => ?_
    refine Bf F (Ag F Aa Aa Aa Aa) Aa (Ak Aa) (Ai Q7 Aa Aa Aa T3 F Aa (Fj v4 + (x3).toNat * 3 + 1) Aa).q fun a F => ?_
    refine Bf F (Ag F Aa Aa Aa Aa) Aa (Ak Aa) (Ap (y := Value.int .i64 x8.2.1) (j := 1) (i := x3) (enc := OT) F Aa Aa (Am h_v4) h17 RL T3 (by rw [h19]; rfl)).q fun a F => ?_
    refine Bf F (Ag F Aa Aa Aa Aa) Aa (Ak Aa) (Fe F Aa Aa).q fun a F => ?_
    refine qs F Aa (Au F Aa Aa Aa).q fun a F => ?_
    refine qs F Aa (Ad F Aa).q fun a F => ?_
    rcases Bool.eq_false_or_eq_true (decide (x7.2.1 ≠ x8.2.1)) with hb | hb
    ·
     have H := AL (A6 hb) H
     rw [hb] at F
     clear hb
     iterate 14 refine El F (Dm F Aa Aa Aa Aa Aa) Aa Aa fun a F => ?_
     refine qs F Aa (Aq F Aa Aa Aa).q fun a F => ?_
     refine AR fun w W => ?_
     refine Ab ?_
     have W := W.frontM (i := 1) Aa Aa
     have W := W.frontM (i := 1) Aa Aa
     exact ⟨_, H, F.re ⟨rfl, Aa, Aa, Aa, Aa, trivial⟩, W⟩
    have H := AK (A7 hb) H
    rw [hb] at F
    clear hb
    refine Bf F (Ag F Aa Aa Aa Aa) Aa (Ak Aa) (Ai GR Aa Aa Aa Mt F Aa 1 Aa).q fun a F => ?_
    refine Bf F (Ag F Aa Aa Aa Aa) Aa (Ak Aa) (As (v := v2) 1 F Aa Aa Mt Aa).q fun a F => ?_
    refine Bf F (Ag F Aa Aa Aa Aa) Aa (Ak Aa) (Ad F Aa).q fun a F => ?_
    obtain ⟨x9, h20, H⟩ := Al H
    obtain ⟨v11, h21, h22⟩ := EJ h1 h20
    have h23 : KH v11 = [.int .i64 x9.1, .int .i64 x9.2.1, (v11.2.2.1)] := congrArg (fun q : Int × Int × List Int => ([.int .i64 q.1, .int .i64 q.2.1, (v11.2.2.1)] : List Value)) h22
    refine Bf F (Ag F Aa Aa Aa Aa) Aa (Ak Aa) (Ay (r := MC) Ra F Aa Aa (Am h_v2) h21).q fun a F => ?_
    refine Bf F (Ag F Aa Aa Aa Aa) Aa (Ak Aa) (Ai N7 Aa Aa Aa JB F Aa (Fj v2 + (x3).toNat * 3 + 2) Aa).q fun a F => ?_
    refine Bf F (Ag F Aa Aa Aa Aa) Aa (Ak Aa) (Ap (y := (v11.2.2.1)) (j := 2) (i := x3) (enc := KH) F Aa Aa (Am h_v2) h21 Po JB (by rw [h23]; rfl)).q fun a F => ?_
    refine Bf F (Ag F Aa Aa Aa Aa) Aa (Ak Aa) (Ai I7 Aa Aa Aa Pd F Aa 1 Aa).q fun a F => ?_
    refine Bf F (Ag F Aa Aa Aa Aa) Aa (Ak Aa) (As (v := v4) 0 F Aa Aa Pd Aa).q fun a F => ?_
    refine Bf F (Ag F Aa Aa Aa Aa) Aa (Ak Aa) (Ad F Aa).q fun a F => ?_
    obtain ⟨x10, h24, H⟩ := Al H
    obtain ⟨v12, h25, h26⟩ := EJ h2 h24
    have h27 : OT v12 = [.int .i64 x10.1, .int .i64 x10.2.1, (v12.2.2.1)] := congrArg (fun q : Int × Int × List Int => ([.int .i64 q.1, .int .i64 q.2.1, (v12.2.2.1)] : List Value)) h26
    refine Bf F (Ag F Aa Aa Aa Aa) Aa (Ak Aa) (Ay (r := Qd) Sx F Aa Aa (Am h_v4) h25).q fun a F => ?_
    refine Bf F (Ag F Aa Aa Aa Aa) Aa (Ak Aa) (Ai Q7 Aa Aa Aa JB F Aa (Fj v4 + (x3).toNat * 3 + 2) Aa).q fun a F => ?_
    refine Bf F (Ag F Aa Aa Aa Aa) Aa (Ak Aa) (Ap (y := (v12.2.2.1)) (j := 2) (i := x3) (enc := OT) F Aa Aa (Am h_v4) h25 RL JB (by rw [h27]; rfl)).q fun a F => ?_
    obtain ⟨x11, h28, H⟩ := Al H
    refine Bf F (Ag F Aa Aa Aa Aa) Aa (Ak Aa) (BH (v := Value.bool x11) F Ue Aa (fun w W => Oq any w ((v11.2.2.1)) ((v12.2.2.1)) x9.2.2 x10.2.2 _ h28 (((CS (Am h_v2) h21 (Dc.snd (Dc.snd Dc.here)) (congrArg (fun q : Int × Int × List Int => q.2.2) h22)) : DT _ _ _ _ _ _) w W).nx (((CS (Am h_v4) h25 (Dc.snd (Dc.snd Dc.here)) (congrArg (fun q : Int × Int × List Int => q.2.2) h26)) : DT _ _ _ _ _ _) w W).nx)) fun a F => ?_
    refine Bf F (Ag F Aa Aa Aa Aa) Aa (Ak Aa) (Dt F Aa).q fun a F => ?_
    refine qs F Aa (Au F Aa Aa Aa).q fun a F => ?_
    refine AR fun w W => ?_
    refine Ab ?_
    have W := W.frontM (i := 1) Aa Aa
    have W := W.frontM (i := 1) Aa Aa
    exact ⟨_, H, F.re ⟨rfl, Aa, Aa, Aa, Aa, trivial⟩, W⟩
   rintro a w ⟨x4, hj, F, W⟩
   have hj := AM hj
   subst hj
   have H := K4
   clear G4 K4
   refine Aw F Aa (fun hb => ?_) fun hb => ?_
   ·
    have H := AL hb H
    rw [hb] at F
    clear hb
    refine Ah (Ac ?_)
    refine ls F W Aa (Af F Aa).q fun a w F W => ?_
    refine Ae (Ab (wp_ret (AO ?_)))
    iterate 2 refine AG ?_
    refine AO (AG ?_)
    have H := L3 _ H
    have H := L2 _ H
    have H := AM H
    subst H
    refine Bl (.inl Aa) F W Aa (Av F Aa) ?_
    exact ⟨rfl, W.done⟩
   have H := AK (by rw [hb]; decide) H
   rw [hb] at F
   clear hb
   refine wp_skip (AH (Ab (Ac ?_)))
   refine ls F W Aa (Ad F Aa).q fun a w F W => ?_
   refine ls F W Aa (A3 F Aa Aa Aa).q fun a w F W => ?_
   refine ls F W Aa (Af F Aa).q fun a w F W => ?_
   refine Ae (Ab ?_)
   have W := W.frontM (i := 1) Aa Aa
   have W := W.frontM (i := 1) Aa Aa
   exact ⟨_, H, F.re ⟨rfl, Aa, Aa, Aa, trivial⟩, W⟩
  have H := AK (A7 hb) H
  rw [hb] at F
  clear hb
  refine wp_exit ?_
  iterate 2 refine A5 ?_
  refine AU (Ab ?_)
  have W := W.frontM (i := 1) Aa Aa
  have W := W.frontM (i := 1) Aa Aa
  have H := L3 _ H
  exact ⟨H, F.re ⟨rfl, trivial⟩, W⟩
 rintro a w ⟨hj, F, W⟩
 have H := K2 _ hj
 clear hj G2 K2 L2
 refine Ah (Ac ?_)
 refine ls F W Aa (Af F Aa).q fun a w F W => ?_
 refine Ae (Ab (wp_ret ?_))
 have H := AM H
 subst H
 refine Bl (.inl Aa) F W Aa (Av F Aa) ?_
 exact ⟨rfl, W.done⟩
theorem Uy : Has Try.prog 11 := ⟨fun args w => An Try.func11 rfl (by decide) args w⟩
noncomputable def FW (p0 : Int × (List (Int × Int × Int × Int × Int × Int)) × (List (Int × Int))) (p1 : List (List Int)) (p2 : List (List Int)) (p3 : Int) (p4 : Int) (p5 : Int) : Option Bool := ((HU p0 p1).bind fun x2 => (if (!x2) = true then some true else (HU p0 p2).bind fun x3 => some (!x3))).bind fun x1 => (if x1 = true then (GX).bind fun x4 => some x4 else (Dx p0 p1 p2 p3 p4 p5).bind fun x5 => (He p0 p1 p2 p3 p4 p5).bind fun x6 => ((Jd x5.1 x6.1).bind fun x8 => (if x8 = true then (if x5.2 = x6.2 then (GX).bind fun x9 => some x9 else some false) else some false)).bind fun x7 => some x7)
theorem LG (Y : Nat → Prop) (w0 : World) (v1 : Value) (v2 : Value) (v3 : Value) (v4 : Value) (p0 : Int × (List (Int × Int × Int × Int × Int × Int)) × (List (Int × Int))) (p1 : List (List Int)) (p2 : List (List Int)) (p3 : Int) (p4 : Int) (p5 : Int) (r : Bool) (H : FW p0 p1 p2 p3 p4 p5 = some r) (h_v1 : Sl w0 (NX []) FM v1 p0.2.1) (h_v2 : Sl w0 (NX []) FD v2 p0.2.2) (h_v3 : Sl w0 (NX []) (Rp.slice (Rp.int .i64)) v3 p1) (h_v4 : Sl w0 (NX []) (Rp.slice (Rp.int .i64)) v4 p2) :
    Calls Try.prog 3 #[.agg #[.int .i64 p0.1, v1, v2], v3, v4, .int .i64 p3, .int .i64 p4, .int .i64 p5] w0 fun e w' => e = .returned (.bool r) ∧ Below w0.heap.size w0 w' := by
 refine enter Try.func3 Aa Try.ntmps3 Aa fun a F => ?_
 have W := Stw.start Y w0
 obtain ⟨v5, h1, h_v3⟩ := h_v3.ex Dg
 obtain ⟨v6, h2, h_v4⟩ := h_v4.ex Dg
 unfold FW at H
 refine Ah (Ac ?_)
 refine Dr (cs := [.int .i64 p0.1, v1, v2]) F W Aa Aa Aa fun b1 a w F W => ?_
 refine ls F W Aa (Af F Aa).q fun a w F W => ?_
 refine Ae (Ab (Ah ?_))
 obtain ⟨o1, G1, K1⟩ := Al H
 refine AC (fun a w => ∃ x1 : Bool, some (x1) = some o1 ∧ Fr 59 [] [(1, v3), (2, v4), (3, .int .i64 p3), (4, .int .i64 p4), (5, .int .i64 p5), (6, .pointer (some ⟨b1, 0, none⟩)), (12, .bool false), (26, .bool x1)] a ∧ Stw ⟨Y, [], w0⟩ [(b1, [.int .i64 p0.1, v1, v2])] [] w) ?_ ?_
 ·
  have H := G1
  clear G1 K1
  refine Ac ?_
  refine ls F W Aa (As (v := Value.agg #[.int .i64 p0.1, v1, v2]) 0 F Aa Aa Iv Aa).q fun a w F W => ?_
  refine ls F W Aa (Ad F Aa).q fun a w F W => ?_
  obtain ⟨x2, h3, H⟩ := Al H
  refine ls F W Aa (BH (v := Value.bool x2) F H7 Aa (fun w W => Lf any w (v1) (v2) (v3) p0 p1 _ h3 (((Am h_v1) : DT _ _ _ _ _ _) w W).nx (((Am h_v2) : DT _ _ _ _ _ _) w W).nx (((BA Dg h1 (Am h_v3)) : DT _ _ _ _ _ _) w W).nx)) fun a w F W => ?_
  refine ls F W Aa (Dt F Aa).q fun a w F W => ?_
  refine ls F W Aa (Ad F Aa).q fun a w F W => ?_
  rcases Bool.eq_false_or_eq_true (!x2) with hb | hb
  ·
   have H := AL hb H
   rw [hb] at F
   clear hb
   iterate 4 refine Cj F Aa Aa Aa Aa Aa Aa Aa fun a F => ?_
   refine ls F W Aa (Aq F Aa Aa Aa).q fun a w F W => ?_
   refine Ae (Ab ?_)
   exact ⟨_, H, F.re ⟨rfl, Aa, Aa, Aa, Aa, Aa, Aa, Aa, trivial⟩, W⟩
  have H := AK (by rw [hb]; decide) H
  rw [hb] at F
  clear hb
  refine AD F W (Ag F Aa Aa Aa Aa) Aa (Ak Aa) (As (v := Value.agg #[.int .i64 p0.1, v1, v2]) 0 F Aa Aa Iv Aa).q fun a w F W => ?_
  refine AD F W (Ag F Aa Aa Aa Aa) Aa (Ak Aa) (Ad F Aa).q fun a w F W => ?_
  refine Mn (Ag F Aa Aa Aa Aa) ?_
  obtain ⟨x3, h4, H⟩ := Al H
  refine ls F W Aa (BH (v := Value.bool x3) F H7 Aa (fun w W => Lf any w (v1) (v2) (v4) p0 p2 _ h4 (((Am h_v1) : DT _ _ _ _ _ _) w W).nx (((Am h_v2) : DT _ _ _ _ _ _) w W).nx (((BA Dg h2 (Am h_v4)) : DT _ _ _ _ _ _) w W).nx)) fun a w F W => ?_
  refine AD F W (Ag F Aa Aa Aa Aa) Aa (Ak Aa) (Dt F Aa).q fun a w F W => ?_
  refine ls F W Aa (Au F Aa Aa Aa).q fun a w F W => ?_
  refine Ae (Ab ?_)
  exact ⟨_, H, F.re ⟨rfl, Aa, Aa, Aa, Aa, Aa, Aa, Aa, trivial⟩, W⟩
 rintro a w ⟨x1, hj, F, W⟩
 have hj := AM hj
 subst hj
 have H := K1
 clear G1 K1
 refine Aw F Aa (fun hb => ?_) fun hb => ?_
 ·
  have H := AL hb H
  rw [hb] at F
  clear hb
  refine Ah (Ac ?_)
  obtain ⟨x4, h5, H⟩ := Al H
  refine ls F W Aa (BH (v := Value.bool x4) F H8 Aa (fun w W => Lt any w _ h5)) fun a w F W => ?_
  refine ls F W Aa (Af F Aa).q fun a w F W => ?_
  refine Ae (Ab (wp_ret (AG ?_)))
  have H := AM H
  subst H
  refine Bl (.inl Aa) F W Aa (Av F Aa) ?_
  exact ⟨rfl, W.done⟩
 have H := AK (by rw [hb]; decide) H
 rw [hb] at F
 clear hb
 refine wp_skip (Ab (Ah (Ac ?_)))
 refine ls F W Aa (As (v := Value.agg #[.int .i64 p0.1, v1, v2]) 0 F Aa Aa Iv Aa).q fun a w F W => ?_
 iterate 5 refine ls F W Aa (Ad F Aa).q fun a w F W => ?_
 obtain ⟨x5, h6, H⟩ := Al H
 refine Bp (Ml := []) (Zl := []) (M := [(b1, [.int .i64 p0.1, v1, v2])]) (Z := []) (β := Value × Value) (rv := fun x => .tuple #[.agg #[x.1, x.2, .int .i64 x5.1.2.2.1, .int .i64 x5.1.2.2.2.1, .int .i64 x5.1.2.2.2.2.1, .int .i64 x5.1.2.2.2.2.2], .int .i64 x5.2]) (MM := fun x => []) (ZZ := fun x => [row x.1 85 A8 x5.1.1, row x.2 48 HG x5.1.2.1]) F W H9 Aa Aa (fun hL => Lo _ w (v1) (v2) (v3) (v4) p0 p1 p2 p3 p4 p5 _ h6 ((Am h_v1) w W).nx ((Am h_v2) w W).nx ((BA Dg h1 (Am h_v3)) w W).nx ((BA Dg h2 (Am h_v4)) w W).nx) fun x a w F W => ?_
 obtain ⟨v7, v8⟩ := x
 have W : Stw ⟨Y, [], w0⟩ [(b1, [.int .i64 p0.1, v1, v2])] [row v7 85 A8 x5.1.1, row v8 48 HG x5.1.2.1] w := W
 refine ls F W Aa (Ad F Aa).q fun a w F W => ?_
 refine ls F W Aa (A0 (v := Value.agg #[v7, v8, .int .i64 x5.1.2.2.1, .int .i64 x5.1.2.2.2.1, .int .i64 x5.1.2.2.2.2.1, .int .i64 x5.1.2.2.2.2.2]) F Aa Aa).q fun a w F W => ?_
 refine ls F W Aa (A0 (v := Value.int .i64 x5.2) F Aa Aa).q fun a w F W => ?_
 refine Cn (cs := [.slice none 0 0, .slice none 0 0, .int .i64 0, .int .i64 0, .int .i64 0, .int .i64 0]) F W Aa SA Aa fun b2 a w F W => ?_
 refine Br (vs := [v7, v8, .int .i64 x5.1.2.2.1, .int .i64 x5.1.2.2.2.1, .int .i64 x5.1.2.2.2.2.1, .int .i64 x5.1.2.2.2.2.2]) (M' := [(b2, [v7, v8, .int .i64 x5.1.2.2.1, .int .i64 x5.1.2.2.2.1, .int .i64 x5.1.2.2.2.2.1, .int .i64 x5.1.2.2.2.2.2]), (b1, [.int .i64 p0.1, v1, v2])]) 0 F W Aa Aa Aa N9 Aa Aa Aa (AN (W.one (k := 0) Aa) (AN (W.one (k := 1) Aa) (AN Aa (AN Aa (AN Aa (AN Aa Em)))))) Aa fun w W => ?_
 refine ls F W Aa (Af F Aa).q fun a w F W => ?_
 refine Ae (Ab (Ah (Ac ?_)))
 refine ls F W Aa (As (v := Value.agg #[.int .i64 p0.1, v1, v2]) 1 F Aa Aa Iv Aa).q fun a w F W => ?_
 iterate 5 refine ls F W Aa (Ad F Aa).q fun a w F W => ?_
 obtain ⟨x6, h7, H⟩ := Al H
 refine Bp (Ml := []) (Zl := []) (M := [(b2, [v7, v8, .int .i64 x5.1.2.2.1, .int .i64 x5.1.2.2.2.1, .int .i64 x5.1.2.2.2.2.1, .int .i64 x5.1.2.2.2.2.2]), (b1, [.int .i64 p0.1, v1, v2])]) (Z := [row v7 85 A8 x5.1.1, row v8 48 HG x5.1.2.1]) (β := Value × Value) (rv := fun x => .tuple #[.agg #[x.1, x.2, .int .i64 x6.1.2.2.1, .int .i64 x6.1.2.2.2.1, .int .i64 x6.1.2.2.2.2.1, .int .i64 x6.1.2.2.2.2.2], .int .i64 x6.2]) (MM := fun x => []) (ZZ := fun x => [row x.1 104 Da x6.1.1, row x.2 72 J5 x6.1.2.1]) F W UD Aa Aa (fun hL => OV _ w (v1) (v2) (v3) (v4) p0 p1 p2 p3 p4 p5 _ h7 ((Am h_v1) w W).nx ((Am h_v2) w W).nx ((BA Dg h1 (Am h_v3)) w W).nx ((BA Dg h2 (Am h_v4)) w W).nx) fun x a w F W => ?_
 obtain ⟨v9, v10⟩ := x
 have W : Stw ⟨Y, [], w0⟩ [(b2, [v7, v8, .int .i64 x5.1.2.2.1, .int .i64 x5.1.2.2.2.1, .int .i64 x5.1.2.2.2.2.1, .int .i64 x5.1.2.2.2.2.2]), (b1, [.int .i64 p0.1, v1, v2])] [row v9 104 Da x6.1.1, row v10 72 J5 x6.1.2.1, row v7 85 A8 x5.1.1, row v8 48 HG x5.1.2.1] w := W
 refine ls F W Aa (Ad F Aa).q fun a w F W => ?_
 refine ls F W Aa (A0 (v := Value.agg #[v9, v10, .int .i64 x6.1.2.2.1, .int .i64 x6.1.2.2.2.1, .int .i64 x6.1.2.2.2.2.1, .int .i64 x6.1.2.2.2.2.2]) F Aa Aa).q fun a w F W => ?_
 refine ls F W Aa (A0 (v := Value.int .i64 x6.2) F Aa Aa).q fun a w F W => ?_
 refine Cn (cs := [.slice none 0 0, .slice none 0 0, .int .i64 0, .int .i64 0, .int .i64 0, .int .i64 0]) F W Aa Tk Aa fun b3 a w F W => ?_
 refine Br (vs := [v9, v10, .int .i64 x6.1.2.2.1, .int .i64 x6.1.2.2.2.1, .int .i64 x6.1.2.2.2.2.1, .int .i64 x6.1.2.2.2.2.2]) (M' := [(b3, [v9, v10, .int .i64 x6.1.2.2.1, .int .i64 x6.1.2.2.2.1, .int .i64 x6.1.2.2.2.2.1, .int .i64 x6.1.2.2.2.2.2]), (b2, [v7, v8, .int .i64 x5.1.2.2.1, .int .i64 x5.1.2.2.2.1, .int .i64 x5.1.2.2.2.2.1, .int .i64 x5.1.2.2.2.2.2]), (b1, [.int .i64 p0.1, v1, v2])]) 0 F W Aa Aa Aa O1 Aa Aa Aa (AN (W.one (k := 0) Aa) (AN (W.one (k := 1) Aa) (AN Aa (AN Aa (AN Aa (AN Aa Em)))))) Aa fun w W => ?_
 refine ls F W Aa (Af F Aa).q fun a w F W => ?_
 refine Ae (Ab ?_)
 obtain ⟨o2, G2, K2⟩ := Al H
 refine AC (fun a w => ∃ x7 : Bool, some (x7) = some o2 ∧ Fr 59 [] [(12, .bool x7)] a ∧ Stw ⟨Y, [], w0⟩ [(b3, [v9, v10, .int .i64 x6.1.2.2.1, .int .i64 x6.1.2.2.2.1, .int .i64 x6.1.2.2.2.2.1, .int .i64 x6.1.2.2.2.2.2]), (b2, [v7, v8, .int .i64 x5.1.2.2.1, .int .i64 x5.1.2.2.2.1, .int .i64 x5.1.2.2.2.2.1, .int .i64 x5.1.2.2.2.2.2]), (b1, [.int .i64 p0.1, v1, v2])] [row v9 104 Da x6.1.1, row v10 72 J5 x6.1.2.1, row v7 85 A8 x5.1.1, row v8 48 HG x5.1.2.1] w) ?_ ?_
 ·
  have H := G2
  clear G2 K2
  refine Ac ?_
  refine ls F W Aa (As (v := Value.agg #[v7, v8, .int .i64 x5.1.2.2.1, .int .i64 x5.1.2.2.2.1, .int .i64 x5.1.2.2.2.2.1, .int .i64 x5.1.2.2.2.2.2]) 1 F Aa Aa N9 Aa).q fun a w F W => ?_
  refine ls F W Aa (As (v := Value.agg #[v9, v10, .int .i64 x6.1.2.2.1, .int .i64 x6.1.2.2.2.1, .int .i64 x6.1.2.2.2.2.1, .int .i64 x6.1.2.2.2.2.2]) 0 F Aa Aa O1 Aa).q fun a w F W => ?_
  obtain ⟨x8, h8, H⟩ := Al H
  refine ls F W Aa (BH (v := Value.bool x8) F Uy Aa (fun w W => OQ any w (v7) (v8) (v9) (v10) x5.1 x6.1 _ h8 (((Ao 2 Aa) : DT _ _ _ _ _ _) w W).nx (((Ao 3 Aa) : DT _ _ _ _ _ _) w W).nx (((Ao 0 Aa) : DT _ _ _ _ _ _) w W).nx (((Ao 1 Aa) : DT _ _ _ _ _ _) w W).nx)) fun a w F W => ?_
  refine ls F W Aa (Ad F Aa).q fun a w F W => ?_
  rcases Bool.eq_false_or_eq_true x8 with hb | hb
  ·
   have H := AL hb H
   rw [hb] at F
   clear hb
   iterate 2 refine AD F W (Ag F Aa Aa Aa Aa) Aa (Ak Aa) (Ad F Aa).q fun a w F W => ?_
   refine AD F W (Ag F Aa Aa Aa Aa) Aa (Ak Aa) (Cy F Aa Aa).q fun a w F W => ?_
   refine ls F W Aa (Aq F Aa Aa Aa).q fun a w F W => ?_
   refine ls F W Aa (Ad F Aa).q fun a w F W => ?_
   rcases Bool.eq_false_or_eq_true (decide (x5.2 = x6.2)) with hb | hb
   ·
    have H := AL (A6 hb) H
    rw [hb] at F
    clear hb
    refine Mn (Ag F Aa Aa Aa Aa) ?_
    obtain ⟨x9, h9, H⟩ := Al H
    refine ls F W Aa (BH (v := Value.bool x9) F H8 Aa (fun w W => Lt any w _ h9)) fun a w F W => ?_
    refine ls F W Aa (Aq F Aa Aa Aa).q fun a w F W => ?_
    refine ls F W Aa (Af F Aa).q fun a w F W => ?_
    refine Ae (Ab ?_)
    have W := W.frontZ (i := 3) Aa Aa
    have W := W.frontZ (i := 3) Aa Aa
    have W := W.frontZ (i := 3) Aa Aa
    have W := W.frontZ (i := 3) Aa Aa
    have W := W.frontM (i := 2) Aa Aa
    have W := W.frontM (i := 2) Aa Aa
    have W := W.frontM (i := 2) Aa Aa
    exact ⟨_, H, F.re ⟨rfl, trivial⟩, W⟩
   have H := AK (A7 hb) H
   rw [hb] at F
   clear hb
   refine Cj F Aa Aa Aa Aa Aa Aa Aa fun a F => ?_
   refine ls F W Aa (Au F Aa Aa Aa).q fun a w F W => ?_
   refine ls F W Aa (Af F Aa).q fun a w F W => ?_
   refine Ae (Ab ?_)
   have W := W.frontZ (i := 3) Aa Aa
   have W := W.frontZ (i := 3) Aa Aa
   have W := W.frontZ (i := 3) Aa Aa
   have W := W.frontZ (i := 3) Aa Aa
   have W := W.frontM (i := 2) Aa Aa
   have W := W.frontM (i := 2) Aa Aa
   have W := W.frontM (i := 2) Aa Aa
   exact ⟨_, H, F.re ⟨rfl, trivial⟩, W⟩
  have H := AK (by rw [hb]; decide) H
  rw [hb] at F
  clear hb
  iterate 3 refine Cj F Aa Aa Aa Aa Aa Aa Aa fun a F => ?_
  refine ls F W Aa (Au F Aa Aa Aa).q fun a w F W => ?_
  refine ls F W Aa (Ad F Aa).q fun a w F W => ?_
  refine Cj F Aa Aa Aa Aa Aa Aa Aa fun a F => ?_
  refine ls F W Aa (Au F Aa Aa Aa).q fun a w F W => ?_
  refine ls F W Aa (Af F Aa).q fun a w F W => ?_
  refine Ae (Ab ?_)
  have W := W.frontZ (i := 3) Aa Aa
  have W := W.frontZ (i := 3) Aa Aa
  have W := W.frontZ (i := 3) Aa Aa
  have W := W.frontZ (i := 3) Aa Aa
  have W := W.frontM (i := 2) Aa Aa
  have W := W.frontM (i := 2) Aa Aa
  have W := W.frontM (i := 2) Aa Aa
  exact ⟨_, H, F.re ⟨rfl, trivial⟩, W⟩
 rintro a w ⟨x7, hj, F, W⟩
 have hj := AM hj
 subst hj
 have H := K2
 clear G2 K2
 refine wp_ret ?_
 have H := AM H
 subst H
 refine Bl (.inl Aa) F W Aa (Av F Aa) ?_
 exact ⟨rfl, W.done⟩
end Go.Proofs.Ytjcaadbafjgefaa
