/- The functions of layer 19, F7. Conditions: none. -/
import Derived.Test.YtbogijdfacoccaabA1
namespace Go.Proofs.Ytbogijdfacoccaa
open Go Go.RowKit
set_option linter.unusedVariables false
set_option linter.unusedSimpArgs false
set_option maxRecDepth 20000
theorem RM : Has Try.prog 12 := ⟨fun args w => Aj Try.func12 rfl (by decide) args w⟩
noncomputable def Aq  : (List Int × Int) → Option ((List Int × Int) ⊕ (List Int))
  | (x3, x4) => (if x4 < (x3.length : Int) then (E6 x3 x4 (x3.length : Int)).bind fun x5 => (E6 x3 0 x4).bind fun x6 => some (.inl (JE x3 x4 (min x6.length x5.length) x6, BH (x4 + ((min x6.length x5.length : Nat) : Int)))) else some (.inr x3))
noncomputable def Av (p0 : List Int) (p1 : Int) : Option (List Int) := (if p1 < 0 then none else (if (decide (0 < ((As (IntKind.u64.wrap (p0.length : Int)) (IntKind.u64.wrap p1)).1)) || decide (9223372036854775807 < ((As (IntKind.u64.wrap (p0.length : Int)) (IntKind.u64.wrap p1)).2))) = true then none else (mk (BH ((As (IntKind.u64.wrap (p0.length : Int)) (IntKind.u64.wrap p1)).2)) (0 : Int)).bind fun x1 => (AF (Aq) (JE x1 0 (min p0.length x1.length) p0, ((min p0.length x1.length : Nat) : Int))).bind fun x2 => some x2))
theorem FV (Y : Nat → Prop) (w0 : World) (v1 : Value) (p0 : List Int) (p1 : Int) (r : List Int) (H : Av p0 p1 = some r) (s_v1 : Sl w0 Y (Rp.int .i64) v1 p0) :
    Calls Try.prog 38 #[v1, .int .i64 p1] w0 fun e w' => ∃ x : Value, e = .returned (x) ∧ Stw ⟨Y, [], w0⟩ [] [row (x) 3 (Rp.int .i64) r] w' := by
 refine enter Try.func38 Aa Try.ntmps38 Aa fun a F => ?_
 have W := Stw.start Y w0
 have h_v1 := W.nx s_v1
 unfold Av at H
 refine Ah (Ab ?_)
 refine ls F W Aa (Af F Aa).q fun a w F W => ?_
 refine Ad (Ac (Ah (Ah (Ab ?_))))
 refine ls F W Aa (Ae F Aa).q fun a w F W => ?_
 refine ls F W Aa (Bo F Aa Aa).q fun a w F W => ?_
 refine Ad (Ac ?_)
 refine AE F Aa (fun hb => ?_) fun hb => ?_
 ·
  have H := AU (Bz hb) H
  rw [hb] at F
  clear hb
  refine Ab ?_
  refine ls F W Aa (Ft I9 F Aa).q fun a w F W => ?_
  exact nomatch H
 have H := AV (Bw hb) H
 rw [hb] at F
 clear hb
 refine Az (Ac (Ah (Ab ?_)))
 refine ls F W Aa (Ae F Aa).q fun a w F W => ?_
 refine ls F W Aa (BB (r := (Rp.int .i64)) (l := p0) JN Aa F Aa (Am h_v1)).q fun a w F W => ?_
 refine ls F W Aa (Ej NY KX F Aa).q fun a w F W => ?_
 refine ls F W Aa (Ae F Aa).q fun a w F W => ?_
 refine ls F W Aa (Ej NY KX F Aa).q fun a w F W => ?_
 refine ls F W Aa (AZ (v := Value.tuple #[.int .u64 ((As (IntKind.u64.wrap (p0.length : Int)) (IntKind.u64.wrap p1)).1), .int .u64 ((As (IntKind.u64.wrap (p0.length : Int)) (IntKind.u64.wrap p1)).2)]) F R3 Aa (fun w W => Gf any w (IntKind.u64.wrap (p0.length : Int)) (IntKind.u64.wrap p1) _ Aa)) fun a w F W => ?_
 refine ls F W Aa (Ae F Aa).q fun a w F W => ?_
 refine ls F W Aa (BJ (v := Value.int .u64 ((As (IntKind.u64.wrap (p0.length : Int)) (IntKind.u64.wrap p1)).1)) F Aa Aa).q fun a w F W => ?_
 refine ls F W Aa (BJ (v := Value.int .u64 ((As (IntKind.u64.wrap (p0.length : Int)) (IntKind.u64.wrap p1)).2)) F Aa Aa).q fun a w F W => ?_
 iterate 2 refine ls F W Aa (Af F Aa).q fun a w F W => ?_
 refine Ad (Ac (Ah ?_))
 refine AN (fun a w => Fr 48 [] [(0, v1), (4, .slice none 0 0), (6, .int .u64 ((As (IntKind.u64.wrap (p0.length : Int)) (IntKind.u64.wrap p1)).2)), (26, .bool (decide (0 < ((As (IntKind.u64.wrap (p0.length : Int)) (IntKind.u64.wrap p1)).1)) || decide (9223372036854775807 < ((As (IntKind.u64.wrap (p0.length : Int)) (IntKind.u64.wrap p1)).2))))] a ∧ Stw ⟨Y, [], w0⟩ [] [] w) ?_ ?_
 ·
  refine Ab ?_
  refine ls F W Aa (Ae F Aa).q fun a w F W => ?_
  refine ls F W Aa (En F Aa Aa).q fun a w F W => ?_
  refine ls F W Aa (Ae F Aa).q fun a w F W => ?_
  rcases Bool.eq_false_or_eq_true (decide (0 < ((As (IntKind.u64.wrap (p0.length : Int)) (IntKind.u64.wrap p1)).1))) with hb0 | hb0
  ·
   rw [hb0] at F
   iterate 2 refine Cs F Aa Aa Aa Aa Aa Aa Aa fun a F => ?_
   refine ls F W Aa (Ao F Aa Aa Aa).q fun a w F W => ?_
   refine Ad (Ac ?_)
   exact ⟨F.re ⟨rfl, Aa, Aa, (by show some (Value.bool true) = some (Value.bool (decide (0 < ((As (IntKind.u64.wrap (p0.length : Int)) (IntKind.u64.wrap p1)).1)) || decide (9223372036854775807 < ((As (IntKind.u64.wrap (p0.length : Int)) (IntKind.u64.wrap p1)).2)))); try rw [hb0]; all_goals simp only [Bool.not_true, Bool.not_false, Bool.true_and, Bool.false_and, Bool.true_or, Bool.false_or, Bool.and_true, Bool.or_false, cond_true, cond_false]), trivial⟩, W⟩
  rw [hb0] at F
  refine AD F W (Ag F Aa Aa Aa Aa) Aa (Ak Aa) (Ae F Aa).q fun a w F W => ?_
  refine AD F W (Ag F Aa Aa Aa Aa) Aa (Ak Aa) (En F Aa Aa).q fun a w F W => ?_
  refine ls F W Aa (Ap F Aa Aa Aa).q fun a w F W => ?_
  refine Ad (Ac ?_)
  exact ⟨F.re ⟨rfl, Aa, Aa, (by show some (Value.bool (decide (9223372036854775807 < ((As (IntKind.u64.wrap (p0.length : Int)) (IntKind.u64.wrap p1)).2)))) = some (Value.bool (decide (0 < ((As (IntKind.u64.wrap (p0.length : Int)) (IntKind.u64.wrap p1)).1)) || decide (9223372036854775807 < ((As (IntKind.u64.wrap (p0.length : Int)) (IntKind.u64.wrap p1)).2)))); try rw [hb0]; all_goals simp only [Bool.not_true, Bool.not_false, Bool.true_and, Bool.false_and, Bool.true_or, Bool.false_or, Bool.and_true, Bool.or_false, cond_true, cond_false]), trivial⟩, W⟩
 rintro a w ⟨F, W⟩
 refine AE F Aa (fun hb => ?_) fun hb => ?_
 ·
  have H := AU hb H
  rw [hb] at F
  clear hb
  refine Ab ?_
  refine ls F W Aa (Ft I9 F Aa).q fun a w F W => ?_
  exact nomatch H
 have H := AV (by rw [hb]; decide) H
 rw [hb] at F
 clear hb
 refine Az (Ac (Ah (Ab ?_)))
 refine ls F W Aa (Ae F Aa).q fun a w F W => ?_
 refine ls F W Aa (Ej KX NY F Aa).q fun a w F W => ?_
 obtain ⟨x1, h1, H⟩ := Al H
 refine L8 (r := (Rp.int .i64)) (0 : Int) F W Aa FI Z3 Aa Aa (fun w A => Fl.int.mk' w A _) h1 Aa fun v2 a w F W => ?_
 refine ls F W Aa (Af F Aa).q fun a w F W => ?_
 refine Ad (Ac (Ah (Ab ?_)))
 iterate 2 refine ls F W Aa (Ae F Aa).q fun a w F W => ?_
 refine Oc (r := (Rp.int .i64)) (k := 0) F W Aa FI Aa Aa Aa Aa (Nc W s_v1) fun a w F W => ?_
 have W : Stw ⟨Y, [], w0⟩ [] [row v2 3 (Rp.int .i64) (JE x1 0 (min p0.length x1.length) p0)] w := W
 refine ls F W Aa (Af F Aa).q fun a w F W => ?_
 refine Ad (Ac ?_)
 obtain ⟨o1, G1, K1⟩ := Al H
 refine AN (fun a w => ∃ x2 : List Int, some (x2) = some o1 ∧ Fr 48 [] [(4, .slice none 0 0), (7, v2)] a ∧ Stw ⟨Y, [], w0⟩ [] [row v2 3 (Rp.int .i64) x2] w) ?_ ?_
 ·
  have H := G1
  clear G1 K1
  refine Ay ?_
  refine Bi H (fun s a w => Fr 48 [] [(4, .slice none 0 0), (7, v2), (8, .int .i64 s.2)] a ∧ Stw ⟨Y, [], w0⟩ [] [row v2 3 (Rp.int .i64) s.1] w) ⟨F.re ⟨rfl, Aa, Aa, trivial⟩, W⟩ fun s o a w H L2 hR => ?_
  obtain ⟨x3, x4⟩ := s
  obtain ⟨F, W⟩ := hR
  have F : Fr 48 [] [(4, .slice none 0 0), (7, v2), (8, .int .i64 x4)] a := F
  have W : Stw ⟨Y, [], w0⟩ [] [row v2 3 (Rp.int .i64) x3] w := W
  rw [Aq] at H
  refine Ah (Ah (Ab ?_))
  iterate 2 refine ls F W Aa (Ae F Aa).q fun a w F W => ?_
  refine ls F W Aa (BB (r := (Rp.int .i64)) (l := x3) JN Aa F Aa (Au 0 Aa)).q fun a w F W => ?_
  refine ls F W Aa (Bo F Aa Aa).q fun a w F W => ?_
  refine Ad (Ac ?_)
  refine AE F Aa (fun hb => ?_) fun hb => ?_
  ·
   have H := AU (Bz hb) H
   rw [hb] at F
   clear hb
   refine Az (Ac (Ay ?_))
   refine MS 7 [0] [1, 2, 3, 4, 5, 6] (fun ch a d v w h => by cases d <;> exact h) W MO (by kernel_rfl) ?_
   refine hm F Aa Aa Aa fun a F => ?_
   refine O7 ?_
   iterate 2 refine hs F Aa Aa Aa (Ae F Aa).q fun a F => ?_
   obtain ⟨x5, h2, H⟩ := Al H
   refine hs F Aa Aa Aa (GW (r := (Rp.int .i64)) FI F Aa Aa Aa (Au 0 Aa) h2).q fun a F => ?_
   iterate 2 refine hs F Aa Aa Aa (Ae F Aa).q fun a F => ?_
   obtain ⟨x6, h3, H⟩ := Al H
   refine hs F Aa Aa Aa (GW (r := (Rp.int .i64)) FI F Aa Aa Aa (Au 0 Aa) h3).q fun a F => ?_
   refine P9 fun w W => ?_
   have W : Stw ⟨Y, [], w0⟩ [] [row v2 3 (Rp.int .i64) x3] w := W
   refine Nk (r := (Rp.int .i64)) (v := v2) (k := 0) F W Aa FI Aa Aa Aa Aa h2 (JM.sub (DT W 0 Aa) h3) fun a w F W => ?_
   have W : Stw ⟨Y, [], w0⟩ [] [row v2 3 (Rp.int .i64) (JE x3 x4 (min x6.length x5.length) x6)] w := W
   refine ls F W Aa (BZ F Aa Aa Aa).q fun a w F W => ?_
   refine ls F W Aa (Af F Aa).q fun a w F W => ?_
   refine Ad (AS (Ac ?_))
   exact ⟨_, H, F.re ⟨rfl, Aa, Aa, trivial⟩, W⟩
  have H := AV (Bw hb) H
  rw [hb] at F
  clear hb
  refine Bm ?_
  iterate 2 refine BT ?_
  refine Bn (Ac ?_)
  have H := L2 _ H
  exact ⟨_, H, F.re ⟨rfl, Aa, trivial⟩, W⟩
 rintro a w ⟨x2, hj, F, W⟩
 have hj := A1 hj
 subst hj
 have H := K1
 clear G1 K1
 refine Ah (Ab ?_)
 refine ls F W Aa (Ae F Aa).q fun a w F W => ?_
 refine ls F W Aa (Af F Aa).q fun a w F W => ?_
 refine Ad (Ac (AC ?_))
 have H := A1 H
 subst H
 refine A2 (.inl Aa) F W Aa (Aw F Aa) ?_
 exact ⟨(v2), Aa, W⟩
theorem SS : Has Try.prog 38 := ⟨fun args w => Aj Try.func38 rfl (by decide) args w⟩
noncomputable def CC (p0 : List Nat) (p1 : List Nat) (p2 : Int) (p3 : Int) (p4 : Int) : Option Bool := ((Di p0 p3).bind fun x2 => (if x2 = true then (ix p1 p2).bind fun x3 => (C6 1).bind fun x4 => (if (Ng x3 x4) = true then (ix p0 p3).bind fun x5 => (ix p1 p4).bind fun x6 => (ix p1 p2).bind fun x7 => some (LM (A6 x5 x6) x7) else some false) else some false)).bind fun x1 => some x1
theorem Gx (Y : Nat → Prop) (w0 : World) (v1 : Value) (v2 : Value) (p0 : List Nat) (p1 : List Nat) (p2 : Int) (p3 : Int) (p4 : Int) (r : Bool) (H : CC p0 p1 p2 p3 p4 = some r) (h_v1 : Sl w0 (NX []) (Rp.flt .f64) v1 p0) (h_v2 : Sl w0 (NX []) (Rp.flt .f64) v2 p1) :
    Calls Try.prog 39 #[v1, v2, .int .i64 p2, .int .i64 p3, .int .i64 p4] w0 fun e w' => e = .returned (.bool r) ∧ Below w0.heap.size w0 w' := by
 refine enter Try.func39 Aa Try.ntmps39 Aa fun a F => ?_
 have W := Stw.start Y w0
 unfold CC at H
 refine Ah (Ab ?_)
 refine ls F W Aa (Af F Aa).q fun a w F W => ?_
 refine Ad (Ac ?_)
 obtain ⟨o1, G1, K1⟩ := Al H
 refine AN (fun a w => ∃ x1 : Bool, some (x1) = some o1 ∧ Fr 38 [] [(10, .bool x1)] a ∧ Stw ⟨Y, [], w0⟩ [] [] w) ?_ ?_
 ·
  have H := G1
  clear G1 K1
  refine CS W MO (by kernel_rfl) ?_
  iterate 2 refine qs F Aa (Ae F Aa).q fun a F => ?_
  obtain ⟨x2, h1, H⟩ := Al H
  refine qs F Aa (AZ (v := Value.bool x2) F Rf Aa (fun w W => F2 any w (v1) p0 p3 _ h1 (((Am h_v1) : Ee _ _ _ _ _ _) w W).nx)) fun a F => ?_
  refine qs F Aa (Ae F Aa).q fun a F => ?_
  rcases Bool.eq_false_or_eq_true x2 with hb | hb
  ·
   have H := AU hb H
   rw [hb] at F
   clear hb
   iterate 2 refine Bu F (Ag F Aa Aa Aa Aa) Aa (Ak Aa) (Ae F Aa).q fun a F => ?_
   obtain ⟨x3, h2, H⟩ := Al H
   refine Bu F (Ag F Aa Aa Aa Aa) Aa (Ak Aa) (AH (r := (Rp.flt .f64)) Iy F Aa Aa (Am h_v2) h2).q fun a F => ?_
   refine Bu F (Ag F Aa Aa Aa Aa) Aa (Ak Aa) (Ax (y := Value.float .f64 x3) (j := 0) (i := p2) F Aa Aa (Am h_v2) h2 Fl.flt.to JB Aa).q fun a F => ?_
   obtain ⟨x4, h3, H⟩ := Al H
   refine Bu F (Ag F Aa Aa Aa Aa) Aa (Ak Aa) (AZ (v := Value.float .f64 x4) F QW Aa (fun w W => Fj any w 1 _ h3)) fun a F => ?_
   refine Bu F (Ag F Aa Aa Aa Aa) Aa (Ak Aa) (KR F Aa Aa).q fun a F => ?_
   refine qs F Aa (Ao F Aa Aa Aa).q fun a F => ?_
   refine qs F Aa (Ae F Aa).q fun a F => ?_
   rcases Bool.eq_false_or_eq_true (Ng x3 x4) with hb | hb
   ·
    have H := AU hb H
    rw [hb] at F
    clear hb
    iterate 2 refine Bu F (Ag F Aa Aa Aa Aa) Aa (Ak Aa) (Ae F Aa).q fun a F => ?_
    obtain ⟨x5, h4, H⟩ := Al H
    refine Bu F (Ag F Aa Aa Aa Aa) Aa (Ak Aa) (AH (r := (Rp.flt .f64)) Iy F Aa Aa (Am h_v1) h4).q fun a F => ?_
    refine Bu F (Ag F Aa Aa Aa Aa) Aa (Ak Aa) (Ax (y := Value.float .f64 x5) (j := 0) (i := p3) F Aa Aa (Am h_v1) h4 Fl.flt.to JB Aa).q fun a F => ?_
    iterate 2 refine Bu F (Ag F Aa Aa Aa Aa) Aa (Ak Aa) (Ae F Aa).q fun a F => ?_
    obtain ⟨x6, h5, H⟩ := Al H
    refine Bu F (Ag F Aa Aa Aa Aa) Aa (Ak Aa) (AH (r := (Rp.flt .f64)) Iy F Aa Aa (Am h_v2) h5).q fun a F => ?_
    refine Bu F (Ag F Aa Aa Aa Aa) Aa (Ak Aa) (Ax (y := Value.float .f64 x6) (j := 0) (i := p4) F Aa Aa (Am h_v2) h5 Fl.flt.to JB Aa).q fun a F => ?_
    refine Bu F (Ag F Aa Aa Aa Aa) Aa (Ak Aa) (AZ (v := Value.float .f64 (A6 x5 x6)) F Ro Aa (fun w W => FX any w x5 x6 _ Aa)) fun a F => ?_
    iterate 2 refine Bu F (Ag F Aa Aa Aa Aa) Aa (Ak Aa) (Ae F Aa).q fun a F => ?_
    obtain ⟨x7, h6, H⟩ := Al H
    refine Bu F (Ag F Aa Aa Aa Aa) Aa (Ak Aa) (AH (r := (Rp.flt .f64)) Iy F Aa Aa (Am h_v2) h6).q fun a F => ?_
    refine Bu F (Ag F Aa Aa Aa Aa) Aa (Ak Aa) (Ax (y := Value.float .f64 x7) (j := 0) (i := p2) F Aa Aa (Am h_v2) h6 Fl.flt.to JB Aa).q fun a F => ?_
    refine Bu F (Ag F Aa Aa Aa Aa) Aa (Ak Aa) (Mr F Aa Aa).q fun a F => ?_
    refine qs F Aa (Ao F Aa Aa Aa).q fun a F => ?_
    refine qs F Aa (Af F Aa).q fun a F => ?_
    refine Be fun w W => ?_
    refine Ac ?_
    exact ⟨_, H, F.re ⟨rfl, trivial⟩, W⟩
   have H := AV (by rw [hb]; decide) H
   rw [hb] at F
   clear hb
   iterate 14 refine C0 F (Cg F Aa Aa Aa Aa Aa) Aa Aa fun a F => ?_
   refine qs F Aa (Ap F Aa Aa Aa).q fun a F => ?_
   refine qs F Aa (Af F Aa).q fun a F => ?_
   refine Be fun w W => ?_
   refine Ac ?_
   exact ⟨_, H, F.re ⟨rfl, trivial⟩, W⟩
  have H := AV (by rw [hb]; decide) H
  rw [hb] at F
  clear hb
  iterate 6 refine C0 F (Cg F Aa Aa Aa Aa Aa) Aa Aa fun a F => ?_
  refine qs F Aa (Ap F Aa Aa Aa).q fun a F => ?_
  refine qs F Aa (Ae F Aa).q fun a F => ?_
  iterate 14 refine C0 F (Cg F Aa Aa Aa Aa Aa) Aa Aa fun a F => ?_
  refine qs F Aa (Ap F Aa Aa Aa).q fun a F => ?_
  refine qs F Aa (Af F Aa).q fun a F => ?_
  refine Be fun w W => ?_
  refine Ac ?_
  exact ⟨_, H, F.re ⟨rfl, trivial⟩, W⟩
 rintro a w ⟨x1, hj, F, W⟩
 have hj := A1 hj
 subst hj
 have H := K1
 clear G1 K1
 refine AC ?_
 have H := A1 H
 subst H
 refine A2 (.inl Aa) F W Aa (Aw F Aa) ?_
 exact ⟨rfl, W.done⟩
theorem Sa : Has Try.prog 39 := ⟨fun args w => Aj Try.func39 rfl (by decide) args w⟩
noncomputable def BO (p1 : List Nat) (x1 : List Nat) (x7 : Int) (x9 : (List (Int × Int × Int))) : (List Int × List Int × Int) → Option ((List Int × List Int × Int) ⊕ ((List Int × List Int) ⊕ (List Int)))
  | (x10, x11, x12) => (if x12 < (x9.length : Int) then ((ix x9 x12).bind fun x15 => ((ix x10 x15.2.1).bind fun x17 => (if x17 < 0 then (CC p1 x1 x15.2.1 x15.2.2 x7).bind fun x18 => some x18 else some false)).bind fun x16 => (if x16 = true then (ix x10 x7).bind fun x19 => (ix x10 x15.2.1).bind fun x20 => (HV x11 ([x15.2.1] : List Int)).bind fun x21 => some ((AA x10 x15.2.1 (BH (x19 + 1))), x21) else some (x10, x11))).bind fun (x13, x14) => some (.inl (x13, x14, BH (x12 + 1))) else some (.inr (.inl (x10, x11))))
noncomputable def BX (p0 : Int × (List (Int × Int × Int × Int × Int × Int)) × (List (Int × Int))) (p1 : List Nat) (x1 : List Nat) : (List Int × List Int) → Option ((List Int × List Int) ⊕ (List Int))
  | (x5, x6) => (if 0 < (x6.length : Int) then (ix x6 0).bind fun x7 => (E6 x6 1 (x6.length : Int)).bind fun x8 => (CO p0 x7).bind fun x9 => AF (BO p1 x1 x7 x9) (x5, x8, 0) else some (.inr x5))
noncomputable def CY (p0 : Int × (List (Int × Int × Int × Int × Int × Int)) × (List (Int × Int))) (p1 : List Nat) (p2 : Int) : Option (List Int) := (Ce p0 p1 p2).bind fun x1 => (if x1.length = 0 then some ([] : List Int) else (Av ([(-1)] : List Int) p0.1).bind fun x2 => (ix x2 p2).bind fun x3 => (AF (BX p0 p1 x1) ((AA x2 p2 0), ([p2] : List Int))).bind fun x4 => some x4)
theorem JO (Y : Nat → Prop) (w0 : World) (v1 : Value) (v2 : Value) (v3 : Value) (p0 : Int × (List (Int × Int × Int × Int × Int × Int)) × (List (Int × Int))) (p1 : List Nat) (p2 : Int) (r : List Int) (H : CY p0 p1 p2 = some r) (h_v1 : Sl w0 (NX []) Fm v1 p0.2.1) (h_v2 : Sl w0 (NX []) Fo v2 p0.2.2) (h_v3 : Sl w0 (NX []) (Rp.flt .f64) v3 p1) :
    Calls Try.prog 15 #[.agg #[.int .i64 p0.1, v1, v2], v3, .int .i64 p2] w0 fun e w' => ∃ x : Value, e = .returned (x) ∧ Stw ⟨Y, [], w0⟩ [] [row (x) 3 (Rp.int .i64) r] w' := by
 refine enter Try.func15 Aa Try.ntmps15 Aa fun a F => ?_
 have W := Stw.start Y w0
 unfold CY at H
 refine Ah (Ab ?_)
 refine Eo (cs := [.int .i64 p0.1, v1, v2]) F W Aa Aa Aa fun b1 a w F W => ?_
 refine ls F W Aa (Af F Aa).q fun a w F W => ?_
 refine Ad (Ac (Ah (Ab ?_)))
 refine ls F W Aa (An (v := Value.agg #[.int .i64 p0.1, v1, v2]) 0 F Aa Aa Jj Aa).q fun a w F W => ?_
 iterate 2 refine ls F W Aa (Ae F Aa).q fun a w F W => ?_
 obtain ⟨x1, h1, H⟩ := Al H
 refine BS (Ml := []) (Zl := []) (M := [(b1, [.int .i64 p0.1, v1, v2])]) (Z := []) (β := {x : Value // NN x (x1)}) (rv := fun x => x.1) (MM := fun x => []) (ZZ := fun x => [row x.1 56 (Rp.flt .f64) x1]) F W RM Aa Aa (fun hL => Fw _ w (v1) (v2) (v3) p0 p1 p2 _ h1 ((Am h_v1) w W).nx ((Am h_v2) w W).nx ((Am h_v3) w W).nx) fun x a w F W => ?_
 obtain ⟨v4, rfl⟩ : ∃ y, y = x := ⟨x, rfl⟩
 have W : Stw ⟨Y, [], w0⟩ [(b1, [.int .i64 p0.1, v1, v2])] [row v4.1 56 (Rp.flt .f64) x1] w := W
 refine ls F W Aa (Af F Aa).q fun a w F W => ?_
 refine Ad (Ac (Ah (Ah (Ab ?_))))
 refine ls F W Aa (Ae F Aa).q fun a w F W => ?_
 refine ls F W Aa (OR (r := (Rp.flt .f64)) KJ F Aa (Au 0 Aa)).q fun a w F W => ?_
 refine Ad (Ac ?_)
 rcases N0 (Au 0 rfl) W with ⟨hb, hl⟩ | hb
 ·
  have hq : x1.length = 0 := by rw [hl]; rfl
  rw [if_pos hq] at H
  rw [hb] at F
  refine I7 F Aa ?_
  refine Ah (Ab ?_)
  refine ls F W Aa (Af F Aa).q fun a w F W => ?_
  refine Ad (Ac (AC (AO ?_)))
  have H := A1 H
  subst H
  refine A2 (.inl Aa) F W Aa (Aw F Aa) ?_
  have W := W.nilRow 3 (Rp.int .i64)
  have W := W.sub (M' := []) (Z' := [row (Value.slice none 0 0) 3 (Rp.int .i64) ([])]) (List.nil_sublist _) (List.Sublist.cons_cons _ (List.nil_sublist _))
  exact ⟨(Value.slice none 0 0), Aa, W⟩
 have hq : ¬ x1.length = 0 := fun hq => v4.2 hb (List.eq_nil_of_length_eq_zero hq)
 rw [if_neg hq] at H
 rw [hb] at F
 refine GE F Aa ?_
 refine Az (Ac (Ah (Ab ?_)))
 refine Ey (z := Value.int .i64 0) (cs := [.int .i64 (-1)]) (Rp.int .i64) ([(-1)] : List Int) F W Aa FI Z3 Aa Aa Aa Aa Aa Aa (Fl.int.repL _ _ ([(-1)] : List Int)) fun v5 a w F W => ?_
 refine ls F W Aa (Ai Ct Aa Aa Aa T3 F Aa 0 Aa).q fun a w F W => ?_
 refine ls F W Aa (An (v := Value.int .i64 p0.1) 0 F Aa Aa T3 Aa).q fun a w F W => ?_
 obtain ⟨x2, h2, H⟩ := Al H
 have W := W.freeze
 refine BS (Ml := []) (Zl := []) (M := [(b1, [.int .i64 p0.1, v1, v2])]) (Z := [LW v5 (Rp.int .i64) ([(-1)] : List Int), row v4.1 56 (Rp.flt .f64) x1]) (β := Value) (rv := fun x => x) (MM := fun x => []) (ZZ := fun x => [row x 3 (Rp.int .i64) x2]) F W SS Aa Aa (fun hL => FV _ w (v5) ([(-1)] : List Int) p0.1 _ h2 (W.item (i := 0) Aa)) fun x a w F W => ?_
 obtain ⟨v6, rfl⟩ : ∃ y, y = x := ⟨x, rfl⟩
 have W : Stw ⟨Y, [], w0⟩ [(b1, [.int .i64 p0.1, v1, v2])] [row v6 3 (Rp.int .i64) x2, LW v5 (Rp.int .i64) ([(-1)] : List Int), row v4.1 56 (Rp.flt .f64) x1] w := W
 refine ls F W Aa (Af F Aa).q fun a w F W => ?_
 refine Ad (Ac (Ah (Ab ?_)))
 iterate 2 refine ls F W Aa (Ae F Aa).q fun a w F W => ?_
 obtain ⟨x3, h3, H⟩ := Al H
 refine ls F W Aa (AH (r := (Rp.int .i64)) FI F Aa Aa (Au 0 Aa) h3).q fun a w F W => ?_
 refine C1 (i := p2) (j := 0) (vs := [.int .i64 0]) (x' := 0) F W Aa Aa Aa (k := 0) Aa Aa h3 T3 Aa Aa Aa Aa (fun A cs _ => Fl.int.sto (by rfl) _ _ _) fun w W => ?_
 refine Ad (Ac (Ah (Ab ?_)))
 refine ls F W Aa (Ae F Aa).q fun a w F W => ?_
 refine Ey (z := Value.int .i64 0) (cs := [.int .i64 p2]) (Rp.int .i64) ([p2] : List Int) F W Aa FI Z3 Aa Aa Aa Aa Aa Aa (Fl.int.repL _ _ ([p2] : List Int)) fun v7 a w F W => ?_
 refine ls F W Aa (Af F Aa).q fun a w F W => ?_
 refine Ad (Ac ?_)
 obtain ⟨o1, G1, K1⟩ := Al H
 refine AN (fun a w => ∃ x4 : List Int, some (x4) = some o1 ∧ Fr 76 [] [(6, .slice none 0 0), (8, v6)] a ∧ Stw ⟨Y, [], w0⟩ [(b1, [.int .i64 p0.1, v1, v2])] [row v6 3 (Rp.int .i64) x4] w) ?_ ?_
 ·
  have H := G1
  clear G1 K1
  refine Ay ?_
  have W := W.frontZ (i := 1) Aa Aa
  have W := W.frontZ (i := 3) Aa Aa
  have W := W.sub (M' := [(b1, [.int .i64 p0.1, v1, v2])]) (Z' := [row v4.1 56 (Rp.flt .f64) x1, row v6 3 (Rp.int .i64) (AA x2 p2 0), row v7 3 (Rp.int .i64) ([p2] : List Int)]) (List.Sublist.refl _) (List.Sublist.cons_cons _ (List.Sublist.cons_cons _ (List.Sublist.cons_cons _ (List.nil_sublist _))))
  refine Bi H (fun s a w => ∃ v8 : Value, Fr 76 [] [(1, v3), (3, .pointer (some ⟨b1, 0, none⟩)), (6, .slice none 0 0), (7, v4.1), (8, v6), (9, v8)] a ∧ Stw ⟨Y, [], w0⟩ [(b1, [.int .i64 p0.1, v1, v2])] [row v4.1 56 (Rp.flt .f64) x1, row v6 3 (Rp.int .i64) s.1, row v8 3 (Rp.int .i64) s.2] w) ⟨(v7), F.re ⟨rfl, Aa, Aa, Aa, Aa, Aa, trivial⟩, W⟩ fun s o a w H L2 hR => ?_
  obtain ⟨x5, x6⟩ := s
  obtain ⟨v8, F, W⟩ := hR
  have F : Fr 76 [] [(1, v3), (3, .pointer (some ⟨b1, 0, none⟩)), (6, .slice none 0 0), (7, v4.1), (8, v6), (9, v8)] a := F
  have W : Stw ⟨Y, [], w0⟩ [(b1, [.int .i64 p0.1, v1, v2])] [row v4.1 56 (Rp.flt .f64) x1, row v6 3 (Rp.int .i64) x5, row v8 3 (Rp.int .i64) x6] w := W
  rw [BX] at H
  refine Ah (Ah (Ab ?_))
  refine ls F W Aa (Ae F Aa).q fun a w F W => ?_
  refine ls F W Aa (BB (r := (Rp.int .i64)) (l := x6) JN Aa F Aa (Au 2 Aa)).q fun a w F W => ?_
  refine ls F W Aa (En F Aa Aa).q fun a w F W => ?_
  refine Ad (Ac ?_)
  refine AE F Aa (fun hb => ?_) fun hb => ?_
  ·
   have H := AU (Bz hb) H
   rw [hb] at F
   clear hb
   refine Az (Ac (Ay (Ah (Ab ?_))))
   refine ls F W Aa (Ae F Aa).q fun a w F W => ?_
   obtain ⟨x7, h4, H⟩ := Al H
   refine ls F W Aa (AH (r := (Rp.int .i64)) FI F Aa Aa (Au 2 Aa) h4).q fun a w F W => ?_
   refine ls F W Aa (Ax (y := Value.int .i64 x7) (j := 0) (i := 0) F Aa Aa (Au 2 Aa) h4 Fl.int.to T3 Aa).q fun a w F W => ?_
   refine ls F W Aa (Af F Aa).q fun a w F W => ?_
   refine Ad (Ac (Ah (Ab ?_)))
   refine ls F W Aa (Ae F Aa).q fun a w F W => ?_
   obtain ⟨x8, h5, H⟩ := Al H
   refine ls F W Aa (GW (r := (Rp.int .i64)) FI F Aa Aa Aa (Au 2 Aa) h5).q fun a w F W => ?_
   refine ls F W Aa (Af F Aa).q fun a w F W => ?_
   refine Ad (Ac (Ah (Ab ?_)))
   refine ls F W Aa (An (v := Value.agg #[.int .i64 p0.1, v1, v2]) 0 F Aa Aa Jj Aa).q fun a w F W => ?_
   refine ls F W Aa (Ae F Aa).q fun a w F W => ?_
   obtain ⟨x9, h6, H⟩ := Al H
   refine BS (Ml := []) (Zl := []) (M := [(b1, [.int .i64 p0.1, v1, v2])]) (Z := [row v4.1 56 (Rp.flt .f64) x1, row v6 3 (Rp.int .i64) x5, row v8 3 (Rp.int .i64) x6]) (β := Value) (rv := fun x => x) (MM := fun x => []) (ZZ := fun x => [row x 74 CL x9]) F W Rz Aa Aa (fun hL => Gz _ w (v1) (v2) p0 x7 _ h6 ((Am h_v1) w W).nx ((Am h_v2) w W).nx) fun x a w F W => ?_
   obtain ⟨v9, rfl⟩ : ∃ y, y = x := ⟨x, rfl⟩
   have W : Stw ⟨Y, [], w0⟩ [(b1, [.int .i64 p0.1, v1, v2])] [row v9 74 CL x9, row v4.1 56 (Rp.flt .f64) x1, row v6 3 (Rp.int .i64) x5, row v8 3 (Rp.int .i64) x6] w := W
   refine ls F W Aa (BB (r := CL) (l := x9) O1 Aa F Aa (Au 0 Aa)).q fun a w F W => ?_
   refine ls F W Aa (Ae F Aa).q fun a w F W => ?_
   refine Ad (Ac (Ay ?_))
   have W := W.subRow (k := 3) Aa Aa h5
   have W := W.frontZ (i := 1) Aa Aa
   have W := W.frontZ (i := 1) Aa Aa
   have W := W.frontZ (i := 3) Aa Aa
   have W := W.frontZ (i := 3) Aa Aa
   refine Bi H (fun s a w => ∃ v10 : Value, Fr 76 [] [(1, v3), (3, .pointer (some ⟨b1, 0, none⟩)), (6, .slice none 0 0), (7, v4.1), (8, v6), (9, v10), (10, .int .i64 x7), (38, v9), (39, .int .i64 (x9.length : Int)), (40, .int .i64 s.2.2)] a ∧ Stw ⟨Y, [], w0⟩ [(b1, [.int .i64 p0.1, v1, v2])] [row v4.1 56 (Rp.flt .f64) x1, row v6 3 (Rp.int .i64) s.1, row v10 3 (Rp.int .i64) s.2.1, row v9 74 CL x9] w) ⟨((Cx v8 (1 : Int) (x6.length : Int) 1)), F.re ⟨rfl, Aa, Aa, Aa, Aa, Aa, Aa, Aa, Aa, Aa, trivial⟩, W⟩ fun s o a w H L3 hR => ?_
   obtain ⟨x10, x11, x12⟩ := s
   obtain ⟨v10, F, W⟩ := hR
   have F : Fr 76 [] [(1, v3), (3, .pointer (some ⟨b1, 0, none⟩)), (6, .slice none 0 0), (7, v4.1), (8, v6), (9, v10), (10, .int .i64 x7), (38, v9), (39, .int .i64 (x9.length : Int)), (40, .int .i64 x12)] a := F
   have W : Stw ⟨Y, [], w0⟩ [(b1, [.int .i64 p0.1, v1, v2])] [row v4.1 56 (Rp.flt .f64) x1, row v6 3 (Rp.int .i64) x10, row v10 3 (Rp.int .i64) x11, row v9 74 CL x9] w := W
   rw [BO] at H
   refine Ah (Ab ?_)
   refine ls F W Aa (Bo F Aa Aa).q fun a w F W => ?_
   refine Ad (Ac (Ah ?_))
   refine AE F Aa (fun hb => ?_) fun hb => ?_
   ·
    have H := AU (Bz hb) H
    rw [hb] at F
    clear hb
    refine Az (Ac ?_)
    obtain ⟨o4, G4, K4⟩ := Al H
    refine AN (fun a w => ∃ x13 : List Int, ∃ x14 : List Int, ∃ v11 : Value, some ((x13, x14)) = some o4 ∧ Fr 76 [] [(1, v3), (3, .pointer (some ⟨b1, 0, none⟩)), (6, .slice none 0 0), (7, v4.1), (8, v6), (9, v11), (10, .int .i64 x7), (38, v9), (39, .int .i64 (x9.length : Int)), (40, .int .i64 x12)] a ∧ Stw ⟨Y, [], w0⟩ [(b1, [.int .i64 p0.1, v1, v2])] [row v4.1 56 (Rp.flt .f64) x1, row v6 3 (Rp.int .i64) x13, row v11 3 (Rp.int .i64) x14, row v9 74 CL x9] w) ?_ ?_
    ·
     have H := G4
     clear G4 K4
     refine Ay (Ah (Ab ?_))
     obtain ⟨x15, h7, H⟩ := Al H
     refine ls F W Aa (AH (r := CL) N1 F Aa Aa (Au 3 Aa) h7).q fun a w F W => ?_
     refine ls F W Aa (Ax (y := Value.agg #[.int .i64 x15.1, .int .i64 x15.2.1, .int .i64 x15.2.2]) (j := 0) (i := x12) F Aa Aa (Au 3 Aa) h7 OX.to N6 Aa).q fun a w F W => ?_
     refine Ck (cs := [.int .i64 0, .int .i64 0, .int .i64 0]) F W Aa Rc Aa fun b2 a w F W => ?_
     refine Cw (vs := [.int .i64 x15.1, .int .i64 x15.2.1, .int .i64 x15.2.2]) (M' := [(b2, [.int .i64 x15.1, .int .i64 x15.2.1, .int .i64 x15.2.2]), (b1, [.int .i64 p0.1, v1, v2])]) 0 F W Aa Aa Aa N6 Aa Aa Aa Aa Aa fun w W => ?_
     refine Ad (Ac ?_)
     obtain ⟨o5, G5, K5⟩ := Al H
     refine AN (fun a w => ∃ x16 : Bool, some (x16) = some o5 ∧ Fr 76 [] [(1, v3), (3, .pointer (some ⟨b1, 0, none⟩)), (6, .slice none 0 0), (7, v4.1), (8, v6), (9, v10), (10, .int .i64 x7), (12, .pointer (some ⟨b2, 0, none⟩)), (38, v9), (39, .int .i64 (x9.length : Int)), (40, .int .i64 x12), (59, .bool x16)] a ∧ Stw ⟨Y, [], w0⟩ [(b2, [.int .i64 x15.1, .int .i64 x15.2.1, .int .i64 x15.2.2]), (b1, [.int .i64 p0.1, v1, v2])] [row v4.1 56 (Rp.flt .f64) x1, row v6 3 (Rp.int .i64) x10, row v10 3 (Rp.int .i64) x11, row v9 74 CL x9] w) ?_ ?_
     ·
      have H := G5
      clear G5 K5
      refine Ab ?_
      refine ls F W Aa (Ae F Aa).q fun a w F W => ?_
      refine ls F W Aa (Ai GY Aa Aa Aa T3 F Aa 1 Aa).q fun a w F W => ?_
      refine ls F W Aa (An (v := Value.int .i64 x15.2.1) 0 F Aa Aa T3 Aa).q fun a w F W => ?_
      obtain ⟨x17, h8, H⟩ := Al H
      refine ls F W Aa (AH (r := (Rp.int .i64)) FI F Aa Aa (Au 1 Aa) h8).q fun a w F W => ?_
      refine ls F W Aa (Ax (y := Value.int .i64 x17) (j := 0) (i := x15.2.1) F Aa Aa (Au 1 Aa) h8 Fl.int.to T3 Aa).q fun a w F W => ?_
      refine ls F W Aa (Bo F Aa Aa).q fun a w F W => ?_
      refine ls F W Aa (Ae F Aa).q fun a w F W => ?_
      rcases Bool.eq_false_or_eq_true (decide (x17 < 0)) with hb | hb
      ·
       have H := AU (Bz hb) H
       rw [hb] at F
       clear hb
       iterate 2 refine AD F W (Ag F Aa Aa Aa Aa) Aa (Ak Aa) (Ae F Aa).q fun a w F W => ?_
       refine AD F W (Ag F Aa Aa Aa Aa) Aa (Ak Aa) (Ai GY Aa Aa Aa T3 F Aa 1 Aa).q fun a w F W => ?_
       refine AD F W (Ag F Aa Aa Aa Aa) Aa (Ak Aa) (An (v := Value.int .i64 x15.2.1) 0 F Aa Aa T3 Aa).q fun a w F W => ?_
       refine AD F W (Ag F Aa Aa Aa Aa) Aa (Ak Aa) (Ai GY Aa Aa Aa T3 F Aa 2 Aa).q fun a w F W => ?_
       refine AD F W (Ag F Aa Aa Aa Aa) Aa (Ak Aa) (An (v := Value.int .i64 x15.2.2) 0 F Aa Aa T3 Aa).q fun a w F W => ?_
       refine AD F W (Ag F Aa Aa Aa Aa) Aa (Ak Aa) (Ae F Aa).q fun a w F W => ?_
       refine Lw (Ag F Aa Aa Aa Aa) ?_
       obtain ⟨x18, h9, H⟩ := Al H
       refine ls F W Aa (AZ (v := Value.bool x18) F Sa Aa (fun w W => Gx any w (v3) (v4.1) p1 x1 x15.2.1 x15.2.2 x7 _ h9 (((Am h_v3) : Ee _ _ _ _ _ _) w W).nx (((Au 0 Aa) : Ee _ _ _ _ _ _) w W).nx)) fun a w F W => ?_
       refine ls F W Aa (Ao F Aa Aa Aa).q fun a w F W => ?_
       refine Ad (Ac ?_)
       have W := W.frontZ (i := 3) Aa Aa
       have W := W.frontZ (i := 3) Aa Aa
       have W := W.frontZ (i := 3) Aa Aa
       have W := W.frontZ (i := 3) Aa Aa
       have W := W.frontM (i := 1) Aa Aa
       have W := W.frontM (i := 1) Aa Aa
       exact ⟨_, H, F.re ⟨rfl, Aa, Aa, Aa, Aa, Aa, Aa, Aa, Aa, Aa, Aa, Aa, trivial⟩, W⟩
      have H := AV (Bw hb) H
      rw [hb] at F
      clear hb
      iterate 8 refine Cs F Aa Aa Aa Aa Aa Aa Aa fun a F => ?_
      refine ls F W Aa (Ap F Aa Aa Aa).q fun a w F W => ?_
      refine Ad (Ac ?_)
      have W := W.frontZ (i := 3) Aa Aa
      have W := W.frontZ (i := 3) Aa Aa
      have W := W.frontZ (i := 3) Aa Aa
      have W := W.frontZ (i := 3) Aa Aa
      have W := W.frontM (i := 1) Aa Aa
      have W := W.frontM (i := 1) Aa Aa
      exact ⟨_, H, F.re ⟨rfl, Aa, Aa, Aa, Aa, Aa, Aa, Aa, Aa, Aa, Aa, Aa, trivial⟩, W⟩
     rintro a w ⟨x16, hj, F, W⟩
     have hj := A1 hj
     subst hj
     have H := K5
     clear G5 K5
     refine AE F Aa (fun hb => ?_) fun hb => ?_
     ·
      have H := AU hb H
      rw [hb] at F
      clear hb
      refine Ah ?_
      refine JA 9 W MO (by kernel_rfl) ?_
      refine qs F Aa (Ae F Aa).q fun a F => ?_
      refine qs F Aa (Ai GY Aa Aa Aa T3 F Aa 1 Aa).q fun a F => ?_
      refine qs F Aa (An (v := Value.int .i64 x15.2.1) 0 F Aa Aa T3 Aa).q fun a F => ?_
      iterate 2 refine qs F Aa (Ae F Aa).q fun a F => ?_
      obtain ⟨x19, h10, H⟩ := Al H
      refine qs F Aa (AH (r := (Rp.int .i64)) FI F Aa Aa (Au 1 Aa) h10).q fun a F => ?_
      refine qs F Aa (Ax (y := Value.int .i64 x19) (j := 0) (i := x7) F Aa Aa (Au 1 Aa) h10 Fl.int.to T3 Aa).q fun a F => ?_
      refine qs F Aa (BZ F Aa Aa Aa).q fun a F => ?_
      obtain ⟨x20, h11, H⟩ := Al H
      refine qs F Aa (AH (r := (Rp.int .i64)) FI F Aa Aa (Au 1 Aa) h11).q fun a F => ?_
      refine Be fun w W => ?_
      refine C1 (i := x15.2.1) (j := 0) (vs := [.int .i64 (BH (x19 + 1))]) (x' := BH (x19 + 1)) F W Aa Aa Aa (k := 1) Aa Aa h11 T3 Aa Aa Aa Aa (fun A cs _ => Fl.int.sto (by rfl) _ _ _) fun w W => ?_
      refine Ad (Ac (Ab ?_))
      refine ls F W Aa (Ae F Aa).q fun a w F W => ?_
      refine ls F W Aa (Ai GY Aa Aa Aa T3 F Aa 1 Aa).q fun a w F W => ?_
      refine ls F W Aa (An (v := Value.int .i64 x15.2.1) 0 F Aa Aa T3 Aa).q fun a w F W => ?_
      refine Ey (z := Value.int .i64 0) (cs := [.int .i64 x15.2.1]) (Rp.int .i64) ([x15.2.1] : List Int) F W Aa FI Z3 Aa Aa Aa Aa Aa Aa (Fl.int.repL _ _ ([x15.2.1] : List Int)) fun v12 a w F W => ?_
      obtain ⟨x21, h12, H⟩ := Al H
      refine DM (r := (Rp.int .i64)) (i := 3) F W Aa FI Aa Aa Aa Aa (DT W 0 Aa) h12 Aa fun v13 a w F W => ?_
      have W : Stw ⟨Y, [], w0⟩ [(b2, [.int .i64 x15.1, .int .i64 x15.2.1, .int .i64 x15.2.2]), (b1, [.int .i64 p0.1, v1, v2])] [row v13 3 (Rp.int .i64) x21, row v12 3 (Rp.int .i64) ([x15.2.1] : List Int), row v6 3 (Rp.int .i64) (AA x10 x15.2.1 (BH (x19 + 1))), row v4.1 56 (Rp.flt .f64) x1, row v9 74 CL x9] w := W
      refine ls F W Aa (Af F Aa).q fun a w F W => ?_
      refine Ad (AS (Ac ?_))
      have W := W.frontZ (i := 4) Aa Aa
      have W := W.frontZ (i := 1) Aa Aa
      have W := W.frontZ (i := 3) Aa Aa
      have W := W.frontZ (i := 4) Aa Aa
      have W := W.frontM (i := 1) Aa Aa
      have W := W.sub (M' := [(b1, [.int .i64 p0.1, v1, v2])]) (Z' := [row v4.1 56 (Rp.flt .f64) x1, row v6 3 (Rp.int .i64) (AA x10 x15.2.1 (BH (x19 + 1))), row v13 3 (Rp.int .i64) x21, row v9 74 CL x9]) (List.Sublist.cons_cons _ (List.nil_sublist _)) (List.Sublist.cons_cons _ (List.Sublist.cons_cons _ (List.Sublist.cons_cons _ (List.Sublist.cons_cons _ (List.nil_sublist _)))))
      exact ⟨_, _, (v13), H, F.re ⟨rfl, Aa, Aa, Aa, Aa, Aa, Aa, Aa, Aa, Aa, trivial⟩, W⟩
     have H := AV (by rw [hb]; decide) H
     rw [hb] at F
     clear hb
     refine Az (AS (Ac ?_))
     have W := W.frontZ (i := 3) Aa Aa
     have W := W.frontZ (i := 3) Aa Aa
     have W := W.frontZ (i := 3) Aa Aa
     have W := W.frontZ (i := 3) Aa Aa
     have W := W.frontM (i := 1) Aa Aa
     have W := W.sub (M' := [(b1, [.int .i64 p0.1, v1, v2])]) (Z' := [row v4.1 56 (Rp.flt .f64) x1, row v6 3 (Rp.int .i64) x10, row v10 3 (Rp.int .i64) x11, row v9 74 CL x9]) (List.Sublist.cons_cons _ (List.nil_sublist _)) (List.Sublist.refl _)
     exact ⟨_, _, (v10), H, F.re ⟨rfl, Aa, Aa, Aa, Aa, Aa, Aa, Aa, Aa, Aa, trivial⟩, W⟩
    rintro a w ⟨x13, x14, v11, hj, F, W⟩
    have hj := A1 hj
    subst hj
    have H := K4
    clear G4 K4
    refine Ab ?_
    refine ls F W Aa (BZ F Aa Aa Aa).q fun a w F W => ?_
    refine ls F W Aa (Ae F Aa).q fun a w F W => ?_
    refine Ad (Ac ?_)
    have W := W.frontZ (i := 3) Aa Aa
    have W := W.frontZ (i := 3) Aa Aa
    have W := W.frontZ (i := 3) Aa Aa
    have W := W.frontZ (i := 3) Aa Aa
    exact ⟨_, H, (v11), F.re ⟨rfl, Aa, Aa, Aa, Aa, Aa, Aa, Aa, Aa, Aa, trivial⟩, W⟩
   have H := AV (Bw hb) H
   rw [hb] at F
   clear hb
   refine Bm ?_
   iterate 2 refine BT ?_
   refine Bn (AS (Ac ?_))
   have W := W.frontZ (i := 2) Aa Aa
   have W := W.frontZ (i := 2) Aa Aa
   have W := W.frontZ (i := 2) Aa Aa
   have W := W.sub (M' := [(b1, [.int .i64 p0.1, v1, v2])]) (Z' := [row v4.1 56 (Rp.flt .f64) x1, row v6 3 (Rp.int .i64) x10, row v10 3 (Rp.int .i64) x11]) (List.Sublist.refl _) (List.Sublist.cons_cons _ (List.Sublist.cons_cons _ (List.Sublist.cons_cons _ (List.nil_sublist _))))
   have H := L3 _ H
   exact ⟨_, H, (v10), F.re ⟨rfl, Aa, Aa, Aa, Aa, Aa, trivial⟩, W⟩
  have H := AV (Bw hb) H
  rw [hb] at F
  clear hb
  refine Bm ?_
  iterate 2 refine BT ?_
  refine Bn (Ac ?_)
  have W := W.frontZ (i := 1) Aa Aa
  have W := W.sub (M' := [(b1, [.int .i64 p0.1, v1, v2])]) (Z' := [row v6 3 (Rp.int .i64) x5]) (List.Sublist.refl _) (List.Sublist.cons_cons _ (List.nil_sublist _))
  have H := L2 _ H
  exact ⟨_, H, F.re ⟨rfl, Aa, trivial⟩, W⟩
 rintro a w ⟨x4, hj, F, W⟩
 have hj := A1 hj
 subst hj
 have H := K1
 clear G1 K1
 refine Ah (Ab ?_)
 refine ls F W Aa (Ae F Aa).q fun a w F W => ?_
 refine ls F W Aa (Af F Aa).q fun a w F W => ?_
 refine Ad (Ac (AC ?_))
 have H := A1 H
 subst H
 refine A2 (.inl Aa) F W Aa (Aw F Aa) ?_
 have W := W.sub (M' := []) (Z' := [row v6 3 (Rp.int .i64) x4]) (List.nil_sublist _) (List.Sublist.refl _)
 exact ⟨(v6), Aa, W⟩
theorem Sw : Has Try.prog 15 := ⟨fun args w => Aj Try.func15 rfl (by decide) args w⟩
noncomputable def BW (p1 : List Nat) (x3 : List Nat) (x4 : List Int) (x7 : Int) (x12 : (List (Int × Int × Int))) : (Int × Int) → Option ((Int × Int) ⊕ Int)
  | (x13, x14) => (if x14 < (x12.length : Int) then ((ix x12 x14).bind fun x16 => (if x13 < 0 then (ix x4 x16.2.1).bind fun x18 => (ix x4 x7).bind fun x19 => (if x18 = (BH (x19 - 1)) then (CC p1 x3 x7 x16.2.2 x16.2.1).bind fun x20 => some x20 else some false) else some false).bind fun x17 => (if x17 = true then some x16.1 else some x13)).bind fun x15 => some (.inl (x15, BH (x14 + 1))) else some (.inr x13))
noncomputable def Cm (p0 : Int × (List (Int × Int × Int × Int × Int × Int)) × (List (Int × Int))) (p1 : List Nat) (p2 : Int) (x2 : Int × Int) (x3 : List Nat) (x4 : List Int) : (List Int × Int) → Option ((List Int × Int) ⊕ (List Int))
  | (x6, x7) => (if x7 < p0.1 then ((if x7 = x2.1 then (ix p0.2.2 p2).bind fun x10 => some x10.2 else some (-1)).bind fun x9 => ((CO p0 x7).bind fun x12 => AF (BW p1 x3 x4 x7 x12) (x9, 0)).bind fun x11 => (HV x6 ([x11] : List Int)).bind fun x21 => some x21).bind fun x8 => some (.inl (x8, BH (x7 + 1))) else some (.inr x6))
noncomputable def Dq (p0 : Int × (List (Int × Int × Int × Int × Int × Int)) × (List (Int × Int))) (p1 : List Nat) (p2 : Int) : Option (List Int × Int) := (CE p0 p1).bind fun x1 => (if (!x1) = true then some (([] : List Int), 2) else (if (decide (p2 < 0) || decide ((p0.2.2.length : Int) ≤ p2)) = true then some (([] : List Int), 7) else (ix p0.2.2 p2).bind fun x2 => (Ce p0 p1 x2.1).bind fun x3 => (CY p0 p1 x2.1).bind fun x4 => (AF (Cm p0 p1 p2 x2 x3 x4) ([], 0)).bind fun x5 => some (x5, 0)))
theorem HN (Y : Nat → Prop) (w0 : World) (v1 : Value) (v2 : Value) (v3 : Value) (p0 : Int × (List (Int × Int × Int × Int × Int × Int)) × (List (Int × Int))) (p1 : List Nat) (p2 : Int) (r : List Int × Int) (H : Dq p0 p1 p2 = some r) (h_v1 : Sl w0 (NX []) Fm v1 p0.2.1) (h_v2 : Sl w0 (NX []) Fo v2 p0.2.2) (h_v3 : Sl w0 (NX []) (Rp.flt .f64) v3 p1) :
    Calls Try.prog 17 #[.agg #[.int .i64 p0.1, v1, v2], v3, .int .i64 p2] w0 fun e w' => ∃ x : Value, e = .returned (.tuple #[x, .int .i64 r.2]) ∧ Stw ⟨Y, [], w0⟩ [] [row (x) 3 (Rp.int .i64) r.1] w' := by
 refine enter Try.func17 Aa Try.ntmps17 Aa fun a F => ?_
 have W := Stw.start Y w0
 unfold Dq at H
 refine Ah (Ab ?_)
 refine Eo (cs := [.int .i64 p0.1, v1, v2]) F W Aa Aa Aa fun b1 a w F W => ?_
 iterate 2 refine ls F W Aa (Af F Aa).q fun a w F W => ?_
 refine Ad (Ac (Ah (Ah (Ab ?_))))
 refine ls F W Aa (An (v := Value.agg #[.int .i64 p0.1, v1, v2]) 0 F Aa Aa Jj Aa).q fun a w F W => ?_
 refine ls F W Aa (Ae F Aa).q fun a w F W => ?_
 obtain ⟨x1, h1, H⟩ := Al H
 refine ls F W Aa (AZ (v := Value.bool x1) F Rr Aa (fun w W => FF any w (v1) (v2) (v3) p0 p1 _ h1 (((Am h_v1) : Ee _ _ _ _ _ _) w W).nx (((Am h_v2) : Ee _ _ _ _ _ _) w W).nx (((Am h_v3) : Ee _ _ _ _ _ _) w W).nx)) fun a w F W => ?_
 refine ls F W Aa (Fa F Aa).q fun a w F W => ?_
 refine Ad (Ac ?_)
 refine AE F Aa (fun hb => ?_) fun hb => ?_
 ·
  have H := AU hb H
  rw [hb] at F
  clear hb
  refine Ah (Ab ?_)
  iterate 2 refine ls F W Aa (Af F Aa).q fun a w F W => ?_
  refine Ad (Ac (AC (AO ?_)))
  have H := A1 H
  subst H
  refine ID (.inl Aa) F W Aa (Aw F Aa) (Aw F Aa) ?_
  have W := W.nilRow 3 (Rp.int .i64)
  have W := W.sub (M' := []) (Z' := [row (Value.slice none 0 0) 3 (Rp.int .i64) ([])]) (List.nil_sublist _) (List.Sublist.refl _)
  exact ⟨(Value.slice none 0 0), Aa, W⟩
 have H := AV (by rw [hb]; decide) H
 rw [hb] at F
 clear hb
 refine Az (Ac (Ah ?_))
 refine AN (fun a w => Fr 99 [] [(1, v3), (2, .int .i64 p2), (3, .pointer (some ⟨b1, 0, none⟩)), (6, .slice none 0 0), (7, .int .i64 0), (28, .bool (decide (p2 < 0) || decide ((p0.2.2.length : Int) ≤ p2)))] a ∧ Stw ⟨Y, [], w0⟩ [(b1, [.int .i64 p0.1, v1, v2])] [] w) ?_ ?_
 ·
  refine Ab ?_
  refine ls F W Aa (Ae F Aa).q fun a w F W => ?_
  refine ls F W Aa (Bo F Aa Aa).q fun a w F W => ?_
  refine ls F W Aa (Ae F Aa).q fun a w F W => ?_
  rcases Bool.eq_false_or_eq_true (decide (p2 < 0)) with hb0 | hb0
  ·
   rw [hb0] at F
   iterate 5 refine Cs F Aa Aa Aa Aa Aa Aa Aa fun a F => ?_
   refine ls F W Aa (Ao F Aa Aa Aa).q fun a w F W => ?_
   refine Ad (Ac ?_)
   exact ⟨F.re ⟨rfl, Aa, Aa, Aa, Aa, (by show some (Value.bool true) = some (Value.bool (decide (p2 < 0) || decide ((p0.2.2.length : Int) ≤ p2))); try rw [hb0]; all_goals simp only [Bool.not_true, Bool.not_false, Bool.true_and, Bool.false_and, Bool.true_or, Bool.false_or, Bool.and_true, Bool.or_false, cond_true, cond_false]), trivial⟩, W⟩
  rw [hb0] at F
  refine AD F W (Ag F Aa Aa Aa Aa) Aa (Ak Aa) (Ae F Aa).q fun a w F W => ?_
  refine AD F W (Ag F Aa Aa Aa Aa) Aa (Ak Aa) (Ai Ct Aa Aa Aa GS F Aa 2 Aa).q fun a w F W => ?_
  refine AD F W (Ag F Aa Aa Aa Aa) Aa (Ak Aa) (An (v := v2) 0 F Aa Aa GS Aa).q fun a w F W => ?_
  refine AD F W (Ag F Aa Aa Aa Aa) Aa (Ak Aa) (BB (r := Fo) (l := p0.2.2) JQ Aa F Aa (Am h_v2)).q fun a w F W => ?_
  refine AD F W (Ag F Aa Aa Aa Aa) Aa (Ak Aa) (E0 F Aa Aa).q fun a w F W => ?_
  refine ls F W Aa (Ap F Aa Aa Aa).q fun a w F W => ?_
  refine Ad (Ac ?_)
  exact ⟨F.re ⟨rfl, Aa, Aa, Aa, Aa, (by show some (Value.bool (decide ((p0.2.2.length : Int) ≤ p2))) = some (Value.bool (decide (p2 < 0) || decide ((p0.2.2.length : Int) ≤ p2))); try rw [hb0]; all_goals simp only [Bool.not_true, Bool.not_false, Bool.true_and, Bool.false_and, Bool.true_or, Bool.false_or, Bool.and_true, Bool.or_false, cond_true, cond_false]), trivial⟩, W⟩
 rintro a w ⟨F, W⟩
 refine AE F Aa (fun hb => ?_) fun hb => ?_
 ·
  have H := AU hb H
  rw [hb] at F
  clear hb
  refine Ah (Ab ?_)
  iterate 2 refine ls F W Aa (Af F Aa).q fun a w F W => ?_
  refine Ad (Ac (AC (AO ?_)))
  have H := A1 H
  subst H
  refine ID (.inl Aa) F W Aa (Aw F Aa) (Aw F Aa) ?_
  have W := W.nilRow 3 (Rp.int .i64)
  have W := W.sub (M' := []) (Z' := [row (Value.slice none 0 0) 3 (Rp.int .i64) ([])]) (List.nil_sublist _) (List.Sublist.refl _)
  exact ⟨(Value.slice none 0 0), Aa, W⟩
 have H := AV (by rw [hb]; decide) H
 rw [hb] at F
 clear hb
 refine Az (Ac (Ah (Ab ?_)))
 refine ls F W Aa (Ai Ct Aa Aa Aa GS F Aa 2 Aa).q fun a w F W => ?_
 refine ls F W Aa (An (v := v2) 0 F Aa Aa GS Aa).q fun a w F W => ?_
 refine ls F W Aa (Ae F Aa).q fun a w F W => ?_
 obtain ⟨x2, h2, H⟩ := Al H
 refine ls F W Aa (AH (r := Fo) Pp F Aa Aa (Am h_v2) h2).q fun a w F W => ?_
 refine ls F W Aa (Ai Jn Aa Aa Aa T3 F Aa (EZ v2 + (p2).toNat * 2) Aa).q fun a w F W => ?_
 refine ls F W Aa (Ax (y := Value.int .i64 x2.1) (j := 0) (i := p2) F Aa Aa (Am h_v2) h2 Pn.to T3 Aa).q fun a w F W => ?_
 refine ls F W Aa (Af F Aa).q fun a w F W => ?_
 refine Ad (Ac (Ah (Ab ?_)))
 refine ls F W Aa (An (v := Value.agg #[.int .i64 p0.1, v1, v2]) 0 F Aa Aa Jj Aa).q fun a w F W => ?_
 iterate 2 refine ls F W Aa (Ae F Aa).q fun a w F W => ?_
 obtain ⟨x3, h3, H⟩ := Al H
 refine BS (Ml := []) (Zl := []) (M := [(b1, [.int .i64 p0.1, v1, v2])]) (Z := []) (β := {x : Value // NN x (x3)}) (rv := fun x => x.1) (MM := fun x => []) (ZZ := fun x => [row x.1 56 (Rp.flt .f64) x3]) F W RM Aa Aa (fun hL => Fw _ w (v1) (v2) (v3) p0 p1 x2.1 _ h3 ((Am h_v1) w W).nx ((Am h_v2) w W).nx ((Am h_v3) w W).nx) fun x a w F W => ?_
 obtain ⟨v4, rfl⟩ : ∃ y, y = x := ⟨x, rfl⟩
 have W : Stw ⟨Y, [], w0⟩ [(b1, [.int .i64 p0.1, v1, v2])] [row v4.1 56 (Rp.flt .f64) x3] w := W
 refine ls F W Aa (Af F Aa).q fun a w F W => ?_
 refine Ad (Ac (Ah (Ab ?_)))
 refine ls F W Aa (An (v := Value.agg #[.int .i64 p0.1, v1, v2]) 0 F Aa Aa Jj Aa).q fun a w F W => ?_
 iterate 2 refine ls F W Aa (Ae F Aa).q fun a w F W => ?_
 obtain ⟨x4, h4, H⟩ := Al H
 refine BS (Ml := []) (Zl := []) (M := [(b1, [.int .i64 p0.1, v1, v2])]) (Z := [row v4.1 56 (Rp.flt .f64) x3]) (β := Value) (rv := fun x => x) (MM := fun x => []) (ZZ := fun x => [row x 3 (Rp.int .i64) x4]) F W Sw Aa Aa (fun hL => JO _ w (v1) (v2) (v3) p0 p1 x2.1 _ h4 ((Am h_v1) w W).nx ((Am h_v2) w W).nx ((Am h_v3) w W).nx) fun x a w F W => ?_
 obtain ⟨v5, rfl⟩ : ∃ y, y = x := ⟨x, rfl⟩
 have W : Stw ⟨Y, [], w0⟩ [(b1, [.int .i64 p0.1, v1, v2])] [row v5 3 (Rp.int .i64) x4, row v4.1 56 (Rp.flt .f64) x3] w := W
 refine ls F W Aa (Af F Aa).q fun a w F W => ?_
 refine Ad (Ac (Ah (Ab ?_)))
 refine ls F W Aa (Af F Aa).q fun a w F W => ?_
 refine Ad (Ac ?_)
 obtain ⟨o1, G1, K1⟩ := Al H
 refine AN (fun a w => ∃ x5 : List Int, ∃ v6 : Value, some (x5) = some o1 ∧ Fr 99 [] [(6, .slice none 0 0), (7, .int .i64 0), (11, v6)] a ∧ Stw ⟨Y, [], w0⟩ [(b1, [.int .i64 p0.1, v1, v2])] [row v6 3 (Rp.int .i64) x5] w) ?_ ?_
 ·
  have H := G1
  clear G1 K1
  refine Ah (Ab ?_)
  refine ls F W Aa (Ai Ct Aa Aa Aa T3 F Aa 0 Aa).q fun a w F W => ?_
  refine ls F W Aa (An (v := Value.int .i64 p0.1) 0 F Aa Aa T3 Aa).q fun a w F W => ?_
  refine ls F W Aa (Ae F Aa).q fun a w F W => ?_
  refine Ad (Ac (Ay ?_))
  have W := W.nilRow 3 (Rp.int .i64)
  have W := W.frontZ (i := 1) Aa Aa
  have W := W.frontZ (i := 2) Aa Aa
  refine Bi H (fun s a w => ∃ v7 : Value, Fr 99 [] [(1, v3), (2, .int .i64 p2), (3, .pointer (some ⟨b1, 0, none⟩)), (6, .slice none 0 0), (7, .int .i64 0), (8, .int .i64 x2.1), (9, v4.1), (10, v5), (11, v7), (44, .int .i64 p0.1), (45, .int .i64 s.2)] a ∧ Stw ⟨Y, [], w0⟩ [(b1, [.int .i64 p0.1, v1, v2])] [row v4.1 56 (Rp.flt .f64) x3, row v5 3 (Rp.int .i64) x4, row v7 3 (Rp.int .i64) s.1] w) ⟨(Value.slice none 0 0), F.re ⟨rfl, Aa, Aa, Aa, Aa, Aa, Aa, Aa, Aa, Aa, Aa, trivial⟩, W⟩ fun s o a w H L2 hR => ?_
  obtain ⟨x6, x7⟩ := s
  obtain ⟨v7, F, W⟩ := hR
  have F : Fr 99 [] [(1, v3), (2, .int .i64 p2), (3, .pointer (some ⟨b1, 0, none⟩)), (6, .slice none 0 0), (7, .int .i64 0), (8, .int .i64 x2.1), (9, v4.1), (10, v5), (11, v7), (44, .int .i64 p0.1), (45, .int .i64 x7)] a := F
  have W : Stw ⟨Y, [], w0⟩ [(b1, [.int .i64 p0.1, v1, v2])] [row v4.1 56 (Rp.flt .f64) x3, row v5 3 (Rp.int .i64) x4, row v7 3 (Rp.int .i64) x6] w := W
  rw [Cm] at H
  refine Ah (Ab ?_)
  refine ls F W Aa (Bo F Aa Aa).q fun a w F W => ?_
  refine Ad (Ac (Ah ?_))
  refine AE F Aa (fun hb => ?_) fun hb => ?_
  ·
   have H := AU (Bz hb) H
   rw [hb] at F
   clear hb
   refine Az (Ac ?_)
   obtain ⟨o3, G3, K3⟩ := Al H
   refine AN (fun a w => ∃ x8 : List Int, ∃ v8 : Value, some (x8) = some o3 ∧ Fr 99 [] [(1, v3), (2, .int .i64 p2), (3, .pointer (some ⟨b1, 0, none⟩)), (6, .slice none 0 0), (7, .int .i64 0), (8, .int .i64 x2.1), (9, v4.1), (10, v5), (11, v8), (44, .int .i64 p0.1), (45, .int .i64 x7)] a ∧ Stw ⟨Y, [], w0⟩ [(b1, [.int .i64 p0.1, v1, v2])] [row v4.1 56 (Rp.flt .f64) x3, row v5 3 (Rp.int .i64) x4, row v8 3 (Rp.int .i64) x8] w) ?_ ?_
   ·
    have H := G3
    clear G3 K3
    refine Ay (Ah (Ab ?_))
    refine ls F W Aa (Ae F Aa).q fun a w F W => ?_
    refine ls F W Aa (Af F Aa).q fun a w F W => ?_
    refine Ad (Ac (Ah (Ab ?_)))
    refine ls F W Aa (Af F Aa).q fun a w F W => ?_
    refine Ad (Ac ?_)
    obtain ⟨o4, G4, K4⟩ := Al H
    refine AN (fun a w => ∃ x9 : Int, some (x9) = some o4 ∧ Fr 99 [] [(1, v3), (2, .int .i64 p2), (3, .pointer (some ⟨b1, 0, none⟩)), (6, .slice none 0 0), (7, .int .i64 0), (8, .int .i64 x2.1), (9, v4.1), (10, v5), (11, v7), (12, .int .i64 x7), (13, .int .i64 x9), (44, .int .i64 p0.1), (45, .int .i64 x7)] a ∧ Stw ⟨Y, [], w0⟩ [(b1, [.int .i64 p0.1, v1, v2])] [row v4.1 56 (Rp.flt .f64) x3, row v5 3 (Rp.int .i64) x4, row v7 3 (Rp.int .i64) x6] w) ?_ ?_
    ·
     have H := G4
     clear G4 K4
     refine Ah (Ab ?_)
     iterate 2 refine ls F W Aa (Ae F Aa).q fun a w F W => ?_
     refine ls F W Aa (Du F Aa Aa).q fun a w F W => ?_
     refine Ad (Ac ?_)
     refine AE F Aa (fun hb => ?_) fun hb => ?_
     ·
      have H := AU (Bz hb) H
      rw [hb] at F
      clear hb
      refine Ab ?_
      refine ls F W Aa (Ai Ct Aa Aa Aa GS F Aa 2 Aa).q fun a w F W => ?_
      refine ls F W Aa (An (v := v2) 0 F Aa Aa GS Aa).q fun a w F W => ?_
      refine ls F W Aa (Ae F Aa).q fun a w F W => ?_
      obtain ⟨x10, h5, H⟩ := Al H
      refine ls F W Aa (AH (r := Fo) Pp F Aa Aa (Am h_v2) h5).q fun a w F W => ?_
      refine ls F W Aa (Ai Jn Aa Aa Aa T3 F Aa (EZ v2 + (p2).toNat * 2 + 1) Aa).q fun a w F W => ?_
      refine ls F W Aa (Ax (y := Value.int .i64 x10.2) (j := 1) (i := p2) F Aa Aa (Am h_v2) h5 Pn.to T3 Aa).q fun a w F W => ?_
      refine ls F W Aa (Af F Aa).q fun a w F W => ?_
      refine Ad (Ac ?_)
      have W := W.frontZ (i := 2) Aa Aa
      have W := W.frontZ (i := 2) Aa Aa
      have W := W.frontZ (i := 2) Aa Aa
      exact ⟨_, H, F.re ⟨rfl, Aa, Aa, Aa, Aa, Aa, Aa, Aa, Aa, Aa, Aa, Aa, Aa, trivial⟩, W⟩
     have H := AV (Bw hb) H
     rw [hb] at F
     clear hb
     refine Az (Ac ?_)
     have W := W.frontZ (i := 2) Aa Aa
     have W := W.frontZ (i := 2) Aa Aa
     have W := W.frontZ (i := 2) Aa Aa
     exact ⟨_, H, F.re ⟨rfl, Aa, Aa, Aa, Aa, Aa, Aa, Aa, Aa, Aa, Aa, Aa, Aa, trivial⟩, W⟩
    rintro a w ⟨x9, hj, F, W⟩
    have hj := A1 hj
    subst hj
    have H := K4
    clear G4 K4
    obtain ⟨o5, G5, K5⟩ := Al H
    refine AN (fun a w => ∃ x11 : Int, some (x11) = some o5 ∧ Fr 99 [] [(1, v3), (2, .int .i64 p2), (3, .pointer (some ⟨b1, 0, none⟩)), (6, .slice none 0 0), (7, .int .i64 0), (8, .int .i64 x2.1), (9, v4.1), (10, v5), (11, v7), (13, .int .i64 x11), (44, .int .i64 p0.1), (45, .int .i64 x7)] a ∧ Stw ⟨Y, [], w0⟩ [(b1, [.int .i64 p0.1, v1, v2])] [row v4.1 56 (Rp.flt .f64) x3, row v5 3 (Rp.int .i64) x4, row v7 3 (Rp.int .i64) x6] w) ?_ ?_
    ·
     have H := G5
     clear G5 K5
     refine Ah (Ab ?_)
     refine ls F W Aa (An (v := Value.agg #[.int .i64 p0.1, v1, v2]) 0 F Aa Aa Jj Aa).q fun a w F W => ?_
     refine ls F W Aa (Ae F Aa).q fun a w F W => ?_
     obtain ⟨x12, h6, H⟩ := Al H
     refine BS (Ml := []) (Zl := []) (M := [(b1, [.int .i64 p0.1, v1, v2])]) (Z := [row v4.1 56 (Rp.flt .f64) x3, row v5 3 (Rp.int .i64) x4, row v7 3 (Rp.int .i64) x6]) (β := Value) (rv := fun x => x) (MM := fun x => []) (ZZ := fun x => [row x 74 CL x12]) F W Rz Aa Aa (fun hL => Gz _ w (v1) (v2) p0 x7 _ h6 ((Am h_v1) w W).nx ((Am h_v2) w W).nx) fun x a w F W => ?_
     obtain ⟨v9, rfl⟩ : ∃ y, y = x := ⟨x, rfl⟩
     have W : Stw ⟨Y, [], w0⟩ [(b1, [.int .i64 p0.1, v1, v2])] [row v9 74 CL x12, row v4.1 56 (Rp.flt .f64) x3, row v5 3 (Rp.int .i64) x4, row v7 3 (Rp.int .i64) x6] w := W
     refine ls F W Aa (BB (r := CL) (l := x12) O1 Aa F Aa (Au 0 Aa)).q fun a w F W => ?_
     refine ls F W Aa (Ae F Aa).q fun a w F W => ?_
     refine Ad (Ac (Ay ?_))
     have W := W.frontZ (i := 3) Aa Aa
     have W := W.frontZ (i := 3) Aa Aa
     have W := W.frontZ (i := 3) Aa Aa
     refine Bi H (fun s a w => Fr 99 [] [(1, v3), (2, .int .i64 p2), (3, .pointer (some ⟨b1, 0, none⟩)), (6, .slice none 0 0), (7, .int .i64 0), (8, .int .i64 x2.1), (9, v4.1), (10, v5), (11, v7), (12, .int .i64 x7), (13, .int .i64 s.1), (44, .int .i64 p0.1), (45, .int .i64 x7), (59, v9), (60, .int .i64 (x12.length : Int)), (61, .int .i64 s.2)] a ∧ Stw ⟨Y, [], w0⟩ [(b1, [.int .i64 p0.1, v1, v2])] [row v4.1 56 (Rp.flt .f64) x3, row v5 3 (Rp.int .i64) x4, row v7 3 (Rp.int .i64) x6, row v9 74 CL x12] w) ⟨F.re ⟨rfl, Aa, Aa, Aa, Aa, Aa, Aa, Aa, Aa, Aa, Aa, Aa, Aa, Aa, Aa, Aa, trivial⟩, W⟩ fun s o a w H L6 hR => ?_
     obtain ⟨x13, x14⟩ := s
     obtain ⟨F, W⟩ := hR
     have F : Fr 99 [] [(1, v3), (2, .int .i64 p2), (3, .pointer (some ⟨b1, 0, none⟩)), (6, .slice none 0 0), (7, .int .i64 0), (8, .int .i64 x2.1), (9, v4.1), (10, v5), (11, v7), (12, .int .i64 x7), (13, .int .i64 x13), (44, .int .i64 p0.1), (45, .int .i64 x7), (59, v9), (60, .int .i64 (x12.length : Int)), (61, .int .i64 x14)] a := F
     have W : Stw ⟨Y, [], w0⟩ [(b1, [.int .i64 p0.1, v1, v2])] [row v4.1 56 (Rp.flt .f64) x3, row v5 3 (Rp.int .i64) x4, row v7 3 (Rp.int .i64) x6, row v9 74 CL x12] w := W
     rw [BW] at H
     refine Ah (Ab ?_)
     refine ls F W Aa (Bo F Aa Aa).q fun a w F W => ?_
     refine Ad (Ac (Ah ?_))
     refine AE F Aa (fun hb => ?_) fun hb => ?_
     ·
      have H := AU (Bz hb) H
      rw [hb] at F
      clear hb
      refine Az (Ac ?_)
      obtain ⟨o7, G7, K7⟩ := Al H
      refine AN (fun a w => ∃ x15 : Int, some (x15) = some o7 ∧ Fr 99 [] [(1, v3), (2, .int .i64 p2), (3, .pointer (some ⟨b1, 0, none⟩)), (6, .slice none 0 0), (7, .int .i64 0), (8, .int .i64 x2.1), (9, v4.1), (10, v5), (11, v7), (12, .int .i64 x7), (13, .int .i64 x15), (44, .int .i64 p0.1), (45, .int .i64 x7), (59, v9), (60, .int .i64 (x12.length : Int)), (61, .int .i64 x14)] a ∧ Stw ⟨Y, [], w0⟩ [(b1, [.int .i64 p0.1, v1, v2])] [row v4.1 56 (Rp.flt .f64) x3, row v5 3 (Rp.int .i64) x4, row v7 3 (Rp.int .i64) x6, row v9 74 CL x12] w) ?_ ?_
      ·
       have H := G7
       clear G7 K7
       refine Ay (Ah (Ab ?_))
       obtain ⟨x16, h7, H⟩ := Al H
       refine ls F W Aa (AH (r := CL) N1 F Aa Aa (Au 3 Aa) h7).q fun a w F W => ?_
       refine ls F W Aa (Ax (y := Value.agg #[.int .i64 x16.1, .int .i64 x16.2.1, .int .i64 x16.2.2]) (j := 0) (i := x14) F Aa Aa (Au 3 Aa) h7 OX.to N6 Aa).q fun a w F W => ?_
       refine Ck (cs := [.int .i64 0, .int .i64 0, .int .i64 0]) F W Aa Rc Aa fun b2 a w F W => ?_
       refine Cw (vs := [.int .i64 x16.1, .int .i64 x16.2.1, .int .i64 x16.2.2]) (M' := [(b2, [.int .i64 x16.1, .int .i64 x16.2.1, .int .i64 x16.2.2]), (b1, [.int .i64 p0.1, v1, v2])]) 0 F W Aa Aa Aa N6 Aa Aa Aa Aa Aa fun w W => ?_
       refine Ad (Ac ?_)
       obtain ⟨o8, G8, K8⟩ := Al H
       refine AN (fun a w => ∃ x17 : Bool, some (x17) = some o8 ∧ Fr 99 [] [(1, v3), (2, .int .i64 p2), (3, .pointer (some ⟨b1, 0, none⟩)), (6, .slice none 0 0), (7, .int .i64 0), (8, .int .i64 x2.1), (9, v4.1), (10, v5), (11, v7), (12, .int .i64 x7), (13, .int .i64 x13), (15, .pointer (some ⟨b2, 0, none⟩)), (44, .int .i64 p0.1), (45, .int .i64 x7), (59, v9), (60, .int .i64 (x12.length : Int)), (61, .int .i64 x14), (89, .bool x17)] a ∧ Stw ⟨Y, [], w0⟩ [(b2, [.int .i64 x16.1, .int .i64 x16.2.1, .int .i64 x16.2.2]), (b1, [.int .i64 p0.1, v1, v2])] [row v4.1 56 (Rp.flt .f64) x3, row v5 3 (Rp.int .i64) x4, row v7 3 (Rp.int .i64) x6, row v9 74 CL x12] w) ?_ ?_
       ·
        have H := G8
        clear G8 K8
        refine CS W MO (by kernel_rfl) ?_
        refine qs F Aa (Ae F Aa).q fun a F => ?_
        refine qs F Aa (Bo F Aa Aa).q fun a F => ?_
        refine qs F Aa (Ae F Aa).q fun a F => ?_
        rcases Bool.eq_false_or_eq_true (decide (x13 < 0)) with hb | hb
        ·
         have H := AU (Bz hb) H
         rw [hb] at F
         clear hb
         refine Bu F (Ag F Aa Aa Aa Aa) Aa (Ak Aa) (Ae F Aa).q fun a F => ?_
         refine Bu F (Ag F Aa Aa Aa Aa) Aa (Ak Aa) (Ai GY Aa Aa Aa T3 F Aa 1 Aa).q fun a F => ?_
         refine Bu F (Ag F Aa Aa Aa Aa) Aa (Ak Aa) (An (v := Value.int .i64 x16.2.1) 0 F Aa Aa T3 Aa).q fun a F => ?_
         obtain ⟨x18, h8, H⟩ := Al H
         refine Bu F (Ag F Aa Aa Aa Aa) Aa (Ak Aa) (AH (r := (Rp.int .i64)) FI F Aa Aa (Au 1 Aa) h8).q fun a F => ?_
         refine Bu F (Ag F Aa Aa Aa Aa) Aa (Ak Aa) (Ax (y := Value.int .i64 x18) (j := 0) (i := x16.2.1) F Aa Aa (Au 1 Aa) h8 Fl.int.to T3 Aa).q fun a F => ?_
         iterate 2 refine Bu F (Ag F Aa Aa Aa Aa) Aa (Ak Aa) (Ae F Aa).q fun a F => ?_
         obtain ⟨x19, h9, H⟩ := Al H
         refine Bu F (Ag F Aa Aa Aa Aa) Aa (Ak Aa) (AH (r := (Rp.int .i64)) FI F Aa Aa (Au 1 Aa) h9).q fun a F => ?_
         refine Bu F (Ag F Aa Aa Aa Aa) Aa (Ak Aa) (Ax (y := Value.int .i64 x19) (j := 0) (i := x7) F Aa Aa (Au 1 Aa) h9 Fl.int.to T3 Aa).q fun a F => ?_
         refine Bu F (Ag F Aa Aa Aa Aa) Aa (Ak Aa) (FN F Aa Aa Aa).q fun a F => ?_
         refine Bu F (Ag F Aa Aa Aa Aa) Aa (Ak Aa) (Du F Aa Aa).q fun a F => ?_
         refine qs F Aa (Ao F Aa Aa Aa).q fun a F => ?_
         refine qs F Aa (Ae F Aa).q fun a F => ?_
         rcases Bool.eq_false_or_eq_true (decide (x18 = (BH (x19 - 1)))) with hb | hb
         ·
          have H := AU (Bz hb) H
          rw [hb] at F
          clear hb
          iterate 3 refine Bu F (Ag F Aa Aa Aa Aa) Aa (Ak Aa) (Ae F Aa).q fun a F => ?_
          refine Bu F (Ag F Aa Aa Aa Aa) Aa (Ak Aa) (Ai GY Aa Aa Aa T3 F Aa 2 Aa).q fun a F => ?_
          refine Bu F (Ag F Aa Aa Aa Aa) Aa (Ak Aa) (An (v := Value.int .i64 x16.2.2) 0 F Aa Aa T3 Aa).q fun a F => ?_
          refine Bu F (Ag F Aa Aa Aa Aa) Aa (Ak Aa) (Ai GY Aa Aa Aa T3 F Aa 1 Aa).q fun a F => ?_
          refine Bu F (Ag F Aa Aa Aa Aa) Aa (Ak Aa) (An (v := Value.int .i64 x16.2.1) 0 F Aa Aa T3 Aa).q fun a F => ?_
          obtain ⟨x20, h10, H⟩ := Al H
          refine Bu F (Ag F Aa Aa Aa Aa) Aa (Ak Aa) (AZ (v := Value.bool x20) F Sa Aa (fun w W => Gx any w (v3) (v4.1) p1 x3 x7 x16.2.2 x16.2.1 _ h10 (((Am h_v3) : Ee _ _ _ _ _ _) w W).nx (((Au 0 Aa) : Ee _ _ _ _ _ _) w W).nx)) fun a F => ?_
          refine qs F Aa (Ao F Aa Aa Aa).q fun a F => ?_
          refine Be fun w W => ?_
          refine Ac ?_
          have W := W.frontZ (i := 3) Aa Aa
          have W := W.frontZ (i := 3) Aa Aa
          have W := W.frontZ (i := 3) Aa Aa
          have W := W.frontZ (i := 3) Aa Aa
          have W := W.frontM (i := 1) Aa Aa
          have W := W.frontM (i := 1) Aa Aa
          exact ⟨_, H, F.re ⟨rfl, Aa, Aa, Aa, Aa, Aa, Aa, Aa, Aa, Aa, Aa, Aa, Aa, Aa, Aa, Aa, Aa, Aa, trivial⟩, W⟩
         have H := AV (Bw hb) H
         rw [hb] at F
         clear hb
         iterate 8 refine C0 F (Cg F Aa Aa Aa Aa Aa) Aa Aa fun a F => ?_
         refine qs F Aa (Ap F Aa Aa Aa).q fun a F => ?_
         refine Be fun w W => ?_
         refine Ac ?_
         have W := W.frontZ (i := 3) Aa Aa
         have W := W.frontZ (i := 3) Aa Aa
         have W := W.frontZ (i := 3) Aa Aa
         have W := W.frontZ (i := 3) Aa Aa
         have W := W.frontM (i := 1) Aa Aa
         have W := W.frontM (i := 1) Aa Aa
         exact ⟨_, H, F.re ⟨rfl, Aa, Aa, Aa, Aa, Aa, Aa, Aa, Aa, Aa, Aa, Aa, Aa, Aa, Aa, Aa, Aa, Aa, trivial⟩, W⟩
        have H := AV (Bw hb) H
        rw [hb] at F
        clear hb
        iterate 11 refine C0 F (Cg F Aa Aa Aa Aa Aa) Aa Aa fun a F => ?_
        refine qs F Aa (Ap F Aa Aa Aa).q fun a F => ?_
        refine qs F Aa (Ae F Aa).q fun a F => ?_
        iterate 8 refine C0 F (Cg F Aa Aa Aa Aa Aa) Aa Aa fun a F => ?_
        refine qs F Aa (Ap F Aa Aa Aa).q fun a F => ?_
        refine Be fun w W => ?_
        refine Ac ?_
        have W := W.frontZ (i := 3) Aa Aa
        have W := W.frontZ (i := 3) Aa Aa
        have W := W.frontZ (i := 3) Aa Aa
        have W := W.frontZ (i := 3) Aa Aa
        have W := W.frontM (i := 1) Aa Aa
        have W := W.frontM (i := 1) Aa Aa
        exact ⟨_, H, F.re ⟨rfl, Aa, Aa, Aa, Aa, Aa, Aa, Aa, Aa, Aa, Aa, Aa, Aa, Aa, Aa, Aa, Aa, Aa, trivial⟩, W⟩
       rintro a w ⟨x17, hj, F, W⟩
       have hj := A1 hj
       subst hj
       have H := K8
       clear G8 K8
       refine AE F Aa (fun hb => ?_) fun hb => ?_
       ·
        have H := AU hb H
        rw [hb] at F
        clear hb
        refine Ab ?_
        refine ls F W Aa (Ai GY Aa Aa Aa T3 F Aa 0 Aa).q fun a w F W => ?_
        refine ls F W Aa (An (v := Value.int .i64 x16.1) 0 F Aa Aa T3 Aa).q fun a w F W => ?_
        refine ls F W Aa (Af F Aa).q fun a w F W => ?_
        refine Ad (AS (Ac ?_))
        have W := W.frontZ (i := 3) Aa Aa
        have W := W.frontZ (i := 3) Aa Aa
        have W := W.frontZ (i := 3) Aa Aa
        have W := W.frontZ (i := 3) Aa Aa
        have W := W.frontM (i := 1) Aa Aa
        have W := W.sub (M' := [(b1, [.int .i64 p0.1, v1, v2])]) (Z' := [row v4.1 56 (Rp.flt .f64) x3, row v5 3 (Rp.int .i64) x4, row v7 3 (Rp.int .i64) x6, row v9 74 CL x12]) (List.Sublist.cons_cons _ (List.nil_sublist _)) (List.Sublist.refl _)
        exact ⟨_, H, F.re ⟨rfl, Aa, Aa, Aa, Aa, Aa, Aa, Aa, Aa, Aa, Aa, Aa, Aa, Aa, Aa, Aa, trivial⟩, W⟩
       have H := AV (by rw [hb]; decide) H
       rw [hb] at F
       clear hb
       refine Az (AS (Ac ?_))
       have W := W.frontZ (i := 3) Aa Aa
       have W := W.frontZ (i := 3) Aa Aa
       have W := W.frontZ (i := 3) Aa Aa
       have W := W.frontZ (i := 3) Aa Aa
       have W := W.frontM (i := 1) Aa Aa
       have W := W.sub (M' := [(b1, [.int .i64 p0.1, v1, v2])]) (Z' := [row v4.1 56 (Rp.flt .f64) x3, row v5 3 (Rp.int .i64) x4, row v7 3 (Rp.int .i64) x6, row v9 74 CL x12]) (List.Sublist.cons_cons _ (List.nil_sublist _)) (List.Sublist.refl _)
       exact ⟨_, H, F.re ⟨rfl, Aa, Aa, Aa, Aa, Aa, Aa, Aa, Aa, Aa, Aa, Aa, Aa, Aa, Aa, Aa, trivial⟩, W⟩
      rintro a w ⟨x15, hj, F, W⟩
      have hj := A1 hj
      subst hj
      have H := K7
      clear G7 K7
      refine Ab ?_
      refine ls F W Aa (BZ F Aa Aa Aa).q fun a w F W => ?_
      refine ls F W Aa (Ae F Aa).q fun a w F W => ?_
      refine Ad (Ac ?_)
      have W := W.frontZ (i := 3) Aa Aa
      have W := W.frontZ (i := 3) Aa Aa
      have W := W.frontZ (i := 3) Aa Aa
      have W := W.frontZ (i := 3) Aa Aa
      exact ⟨_, H, F.re ⟨rfl, Aa, Aa, Aa, Aa, Aa, Aa, Aa, Aa, Aa, Aa, Aa, Aa, Aa, Aa, Aa, trivial⟩, W⟩
     have H := AV (Bw hb) H
     rw [hb] at F
     clear hb
     refine Bm ?_
     iterate 2 refine BT ?_
     refine Bn (Ac ?_)
     have W := W.frontZ (i := 2) Aa Aa
     have W := W.frontZ (i := 2) Aa Aa
     have W := W.frontZ (i := 2) Aa Aa
     have W := W.sub (M' := [(b1, [.int .i64 p0.1, v1, v2])]) (Z' := [row v4.1 56 (Rp.flt .f64) x3, row v5 3 (Rp.int .i64) x4, row v7 3 (Rp.int .i64) x6]) (List.Sublist.refl _) (List.Sublist.cons_cons _ (List.Sublist.cons_cons _ (List.Sublist.cons_cons _ (List.nil_sublist _))))
     have H := L6 _ H
     exact ⟨_, H, F.re ⟨rfl, Aa, Aa, Aa, Aa, Aa, Aa, Aa, Aa, Aa, Aa, Aa, trivial⟩, W⟩
    rintro a w ⟨x11, hj, F, W⟩
    have hj := A1 hj
    subst hj
    have H := K5
    clear G5 K5
    refine Ab ?_
    iterate 2 refine ls F W Aa (Ae F Aa).q fun a w F W => ?_
    refine Ey (z := Value.int .i64 0) (cs := [.int .i64 x11]) (Rp.int .i64) ([x11] : List Int) F W Aa FI Z3 Aa Aa Aa Aa Aa Aa (Fl.int.repL _ _ ([x11] : List Int)) fun v10 a w F W => ?_
    obtain ⟨x21, h11, H⟩ := Al H
    refine DM (r := (Rp.int .i64)) (i := 3) F W Aa FI Aa Aa Aa Aa (DT W 0 Aa) h11 Aa fun v11 a w F W => ?_
    have W : Stw ⟨Y, [], w0⟩ [(b1, [.int .i64 p0.1, v1, v2])] [row v11 3 (Rp.int .i64) x21, row v10 3 (Rp.int .i64) ([x11] : List Int), row v4.1 56 (Rp.flt .f64) x3, row v5 3 (Rp.int .i64) x4] w := W
    refine ls F W Aa (Af F Aa).q fun a w F W => ?_
    refine Ad (AS (Ac ?_))
    have W := W.frontZ (i := 3) Aa Aa
    have W := W.frontZ (i := 3) Aa Aa
    have W := W.sub (M' := [(b1, [.int .i64 p0.1, v1, v2])]) (Z' := [row v4.1 56 (Rp.flt .f64) x3, row v5 3 (Rp.int .i64) x4, row v11 3 (Rp.int .i64) x21]) (List.Sublist.refl _) (List.Sublist.cons_cons _ (List.Sublist.cons_cons _ (List.Sublist.cons_cons _ (List.nil_sublist _))))
    exact ⟨_, (v11), H, F.re ⟨rfl, Aa, Aa, Aa, Aa, Aa, Aa, Aa, Aa, Aa, Aa, trivial⟩, W⟩
   rintro a w ⟨x8, v8, hj, F, W⟩
   have hj := A1 hj
   subst hj
   have H := K3
   clear G3 K3
   refine Ab ?_
   refine ls F W Aa (BZ F Aa Aa Aa).q fun a w F W => ?_
   refine ls F W Aa (Ae F Aa).q fun a w F W => ?_
   refine Ad (Ac ?_)
   have W := W.frontZ (i := 2) Aa Aa
   have W := W.frontZ (i := 2) Aa Aa
   have W := W.frontZ (i := 2) Aa Aa
   exact ⟨_, H, (v8), F.re ⟨rfl, Aa, Aa, Aa, Aa, Aa, Aa, Aa, Aa, Aa, Aa, trivial⟩, W⟩
  have H := AV (Bw hb) H
  rw [hb] at F
  clear hb
  refine Bm ?_
  iterate 2 refine BT ?_
  refine Bn (Ac ?_)
  have W := W.frontZ (i := 2) Aa Aa
  have W := W.sub (M' := [(b1, [.int .i64 p0.1, v1, v2])]) (Z' := [row v7 3 (Rp.int .i64) x6]) (List.Sublist.refl _) (List.Sublist.cons_cons _ (List.nil_sublist _))
  have H := L2 _ H
  exact ⟨_, (v7), H, F.re ⟨rfl, Aa, Aa, trivial⟩, W⟩
 rintro a w ⟨x5, v6, hj, F, W⟩
 have hj := A1 hj
 subst hj
 have H := K1
 clear G1 K1
 refine Ah (Ab ?_)
 refine ls F W Aa (Ae F Aa).q fun a w F W => ?_
 iterate 2 refine ls F W Aa (Af F Aa).q fun a w F W => ?_
 refine Ad (Ac (AC ?_))
 have H := A1 H
 subst H
 refine ID (.inl Aa) F W Aa (Aw F Aa) (Aw F Aa) ?_
 have W := W.sub (M' := []) (Z' := [row v6 3 (Rp.int .i64) x5]) (List.nil_sublist _) (List.Sublist.refl _)
 exact ⟨(v6), Aa, W⟩
theorem R7 : Has Try.prog 17 := ⟨fun args w => Aj Try.func17 rfl (by decide) args w⟩
theorem Qq : Ty Try.prog 36 false 1 := ⟨by kernel_rfl, by kernel_rfl⟩
noncomputable def DQ (x7 : List Int × Int) : ((List (Nat × List Int)) × Int) → Option (((List (Nat × List Int)) × Int) ⊕ ((List (Nat × List Int)) ⊕ (((List (Nat × List Int)) × Int) ⊕ ((List (Nat × List Int)) ⊕ ((List (Nat × List Int)) × Int)))))
  | (x8, x9) => (if x9 < (x7.1.length : Int) then (ix x7.1 x9).bind fun x10 => (if x10 < 0 then some (.inr (.inr (.inr (.inr (([] : List (Nat × List Int)), 7))))) else (ix x8 x9).bind fun x11 => (Pv x11.1).bind fun x12 => (HV x11.2 ([x10] : List Int)).bind fun x13 => (ix (AA x8 x9 (0, [])) x9).bind fun x14 => (ix (AA x8 x9 (0, [])) x9).bind fun x15 => some (.inl ((AA (AA x8 x9 (0, [])) x9 (2, x13)), BH (x9 + 1)))) else some (.inr (.inl x8)))
noncomputable def DR (p0 : Int × (List (Int × Int × Int × Int × Int × Int)) × (List (Int × Int))) (p1 : List Nat) : ((List (Nat × List Int)) × Int) → Option (((List (Nat × List Int)) × Int) ⊕ ((List (Nat × List Int)) ⊕ ((List (Nat × List Int)) × Int)))
  | (x4, x5) => (if x5 < (p0.2.2.length : Int) then IW ((Dq p0 p1 x5).bind fun x7 => AF (DQ x7) (x4, 0)) fun x6 => some (.inl (x6, BH (x5 + 1))) else some (.inr (.inl x4)))
noncomputable def Eb (p0 : Int × (List (Int × Int × Int × Int × Int × Int)) × (List (Int × Int))) (p1 : List Nat) : Option ((List (Nat × List Int)) × Int) := (CE p0 p1).bind fun x1 => (if (!x1) = true then some (([] : List (Nat × List Int)), 2) else (mk p0.1 ((2, []) : Nat × List Int)).bind fun x2 => IW (AF (DR p0 p1) (x2, 0)) fun x3 => some (x3, 0))
theorem Jt (Y : Nat → Prop) (w0 : World) (v1 : Value) (v2 : Value) (v3 : Value) (p0 : Int × (List (Int × Int × Int × Int × Int × Int)) × (List (Int × Int))) (p1 : List Nat) (r : (List (Nat × List Int)) × Int) (H : Eb p0 p1 = some r) (h_v1 : Sl w0 (NX []) Fm v1 p0.2.1) (h_v2 : Sl w0 (NX []) Fo v2 p0.2.2) (h_v3 : Sl w0 (NX []) (Rp.flt .f64) v3 p1) :
    Calls Try.prog 19 #[.agg #[.int .i64 p0.1, v1, v2], v3] w0 fun e w' => ∃ x : Value × ({x : List (Value × Nat × List Int) // x.map Ep = r.1}), e = .returned (.tuple #[x.1, .int .i64 r.2]) ∧ Stw ⟨Y, [], w0⟩ [] [CJ (x.1) 36 CK (x.2.1)] w' := by
 refine enter Try.func19 Aa Try.ntmps19 Aa fun a F => ?_
 have W := Stw.start Y w0
 unfold Eb at H
 refine Ah (Ab ?_)
 refine Eo (cs := [.int .i64 p0.1, v1, v2]) F W Aa Aa Aa fun b1 a w F W => ?_
 iterate 2 refine ls F W Aa (Af F Aa).q fun a w F W => ?_
 refine Ad (Ac (Ah (Ah (Ab ?_))))
 refine ls F W Aa (An (v := Value.agg #[.int .i64 p0.1, v1, v2]) 0 F Aa Aa Jj Aa).q fun a w F W => ?_
 refine ls F W Aa (Ae F Aa).q fun a w F W => ?_
 obtain ⟨x1, h1, H⟩ := Al H
 refine ls F W Aa (AZ (v := Value.bool x1) F Rr Aa (fun w W => FF any w (v1) (v2) (v3) p0 p1 _ h1 (((Am h_v1) : Ee _ _ _ _ _ _) w W).nx (((Am h_v2) : Ee _ _ _ _ _ _) w W).nx (((Am h_v3) : Ee _ _ _ _ _ _) w W).nx)) fun a w F W => ?_
 refine ls F W Aa (Fa F Aa).q fun a w F W => ?_
 refine Ad (Ac ?_)
 refine AE F Aa (fun hb => ?_) fun hb => ?_
 ·
  have H := AU hb H
  rw [hb] at F
  clear hb
  refine Ah (Ab ?_)
  iterate 2 refine ls F W Aa (Af F Aa).q fun a w F W => ?_
  refine Ad (Ac (AC (AO ?_)))
  have H := A1 H
  subst H
  refine ID (.inl Aa) F W Aa (Aw F Aa) (Aw F Aa) ?_
  have W := W.dNil 36 CK
  have h2 : List.map Ep ([] : List (Value × Nat × List Int)) = ([] : List (Nat × List Int)) := Aa
  have W := W.sub (M' := []) (Z' := [CJ (Value.slice none 0 0) 36 CK ([] : List (Value × Nat × List Int))]) (List.nil_sublist _) (List.Sublist.refl _)
  exact ⟨((Value.slice none 0 0), ⟨[], Aa⟩), Aa, W⟩
 have H := AV (by rw [hb]; decide) H
 rw [hb] at F
 clear hb
 refine Az (Ac (Ah (Ab ?_)))
 refine ls F W Aa (Ai Ct Aa Aa Aa T3 F Aa 0 Aa).q fun a w F W => ?_
 refine ls F W Aa (An (v := Value.int .i64 p0.1) 0 F Aa Aa T3 Aa).q fun a w F W => ?_
 obtain ⟨x2, h3, H⟩ := Al H
 have h4 := Q2 (er := Ep) (z := (Value.slice none 0 0, 2, [])) h3
 refine L8 (r := CK.hr) (Value.slice none 0 0, 2, []) F W Aa QS SL Aa Aa (fun w A => ⟨rfl, Aa⟩) h4.1 Aa fun v4 a w F W => ?_
 have W := Stw.dNew (D := CK) Nl.sl W
 have h5 : List.map Ep (List.replicate (p0.1).toNat ((Value.slice none 0 0, 2, []) : Value × Nat × List Int)) = x2 := h4.2
 have W : Stw ⟨Y, [], w0⟩ [(b1, [.int .i64 p0.1, v1, v2])] [CJ v4 36 CK (List.replicate (p0.1).toNat ((Value.slice none 0 0, 2, []) : Value × Nat × List Int))] w := W
 refine ls F W Aa (Af F Aa).q fun a w F W => ?_
 refine Ad (Ac ?_)
 obtain ⟨o1, G1, K1, L1⟩ := Pi H
 refine AN (fun a w => ∃ x3 : List (Nat × List Int), ∃ g_x3 : {x : List (Value × Nat × List Int) // x.map Ep = x3}, some (Sum.inl x3) = some o1 ∧ Fr 54 [] [(4, .slice none 0 0), (5, .int .i64 0), (6, v4)] a ∧ Stw ⟨Y, [], w0⟩ [(b1, [.int .i64 p0.1, v1, v2])] [CJ v4 36 CK g_x3.1] w) ?_ ?_
 ·
  have H := G1
  clear G1 K1
  refine Ah (Ab ?_)
  refine ls F W Aa (Ai Ct Aa Aa Aa GS F Aa 2 Aa).q fun a w F W => ?_
  refine ls F W Aa (An (v := v2) 0 F Aa Aa GS Aa).q fun a w F W => ?_
  refine ls F W Aa (BB (r := Fo) (l := p0.2.2) JQ Aa F Aa (Am h_v2)).q fun a w F W => ?_
  refine ls F W Aa (Ae F Aa).q fun a w F W => ?_
  refine Ad (Ac (Ay ?_))
  refine Bi H (fun s a w => ∃ g_x4 : {x : List (Value × Nat × List Int) // x.map Ep = s.1}, Fr 54 [] [(1, v3), (2, .pointer (some ⟨b1, 0, none⟩)), (4, .slice none 0 0), (5, .int .i64 0), (6, v4), (21, .int .i64 (p0.2.2.length : Int)), (22, .int .i64 s.2)] a ∧ Stw ⟨Y, [], w0⟩ [(b1, [.int .i64 p0.1, v1, v2])] [CJ v4 36 CK g_x4.1] w) ⟨⟨(List.replicate (p0.1).toNat ((Value.slice none 0 0, 2, []) : Value × Nat × List Int)), h5⟩, F.re ⟨rfl, Aa, Aa, Aa, Aa, Aa, Aa, trivial⟩, W⟩ fun s o a w H L2 hR => ?_
  obtain ⟨x4, x5⟩ := s
  obtain ⟨g_x4, F, W⟩ := hR
  have F : Fr 54 [] [(1, v3), (2, .pointer (some ⟨b1, 0, none⟩)), (4, .slice none 0 0), (5, .int .i64 0), (6, v4), (21, .int .i64 (p0.2.2.length : Int)), (22, .int .i64 x5)] a := F
  have W : Stw ⟨Y, [], w0⟩ [(b1, [.int .i64 p0.1, v1, v2])] [CJ v4 36 CK g_x4.1] w := W
  rw [DR] at H
  refine Ah (Ab ?_)
  refine ls F W Aa (Bo F Aa Aa).q fun a w F W => ?_
  refine Ad (Ac (Ah ?_))
  refine AE F Aa (fun hb => ?_) fun hb => ?_
  ·
   have H := AU (Bz hb) H
   rw [hb] at F
   clear hb
   refine Az (Ac ?_)
   obtain ⟨o3, G3, K3, L3⟩ := Pi H
   refine AN (fun a w => ∃ x6 : List (Nat × List Int), ∃ g_x6 : {x : List (Value × Nat × List Int) // x.map Ep = x6}, some (Sum.inl x6) = some o3 ∧ Fr 54 [] [(1, v3), (2, .pointer (some ⟨b1, 0, none⟩)), (4, .slice none 0 0), (5, .int .i64 0), (6, v4), (21, .int .i64 (p0.2.2.length : Int)), (22, .int .i64 x5)] a ∧ Stw ⟨Y, [], w0⟩ [(b1, [.int .i64 p0.1, v1, v2])] [CJ v4 36 CK g_x6.1] w) ?_ ?_
   ·
    have H := G3
    clear G3 K3
    refine Ay (Ah (Ab ?_))
    refine ls F W Aa (Ae F Aa).q fun a w F W => ?_
    refine ls F W Aa (Af F Aa).q fun a w F W => ?_
    refine Ad (Ac (Ah (Ab ?_)))
    refine ls F W Aa (An (v := Value.agg #[.int .i64 p0.1, v1, v2]) 0 F Aa Aa Jj Aa).q fun a w F W => ?_
    iterate 2 refine ls F W Aa (Ae F Aa).q fun a w F W => ?_
    obtain ⟨x7, h6, H⟩ := Al H
    refine BS (Ml := []) (Zl := []) (M := [(b1, [.int .i64 p0.1, v1, v2])]) (Z := [CJ v4 36 CK g_x4.1]) (β := Value) (rv := fun x => .tuple #[x, .int .i64 x7.2]) (MM := fun x => []) (ZZ := fun x => [row x 3 (Rp.int .i64) x7.1]) F W R7 Aa Aa (fun hL => HN _ w (v1) (v2) (v3) p0 p1 x5 _ h6 ((Am h_v1) w W).nx ((Am h_v2) w W).nx ((Am h_v3) w W).nx) fun x a w F W => ?_
    obtain ⟨v5, rfl⟩ : ∃ y, y = x := ⟨x, rfl⟩
    have W : Stw ⟨Y, [], w0⟩ [(b1, [.int .i64 p0.1, v1, v2])] [row v5 3 (Rp.int .i64) x7.1, CJ v4 36 CK g_x4.1] w := W
    refine ls F W Aa (Ae F Aa).q fun a w F W => ?_
    refine ls F W Aa (BJ (v := v5) F Aa Aa).q fun a w F W => ?_
    refine ls F W Aa (BJ (v := Value.int .i64 x7.2) F Aa Aa).q fun a w F W => ?_
    iterate 2 refine ls F W Aa (Af F Aa).q fun a w F W => ?_
    refine Ad (Ac (Ah (Ab ?_)))
    refine ls F W Aa (Ae F Aa).q fun a w F W => ?_
    refine ls F W Aa (BB (r := (Rp.int .i64)) (l := x7.1) JN Aa F Aa (Au 0 Aa)).q fun a w F W => ?_
    refine ls F W Aa (Ae F Aa).q fun a w F W => ?_
    refine Ad (Ac (Ay ?_))
    have W := W.frontZ (i := 1) Aa Aa
    refine Bi H (fun s a w => ∃ g_x8 : {x : List (Value × Nat × List Int) // x.map Ep = s.1}, Fr 54 [] [(1, v3), (2, .pointer (some ⟨b1, 0, none⟩)), (4, .slice none 0 0), (5, .int .i64 0), (6, v4), (21, .int .i64 (p0.2.2.length : Int)), (22, .int .i64 x5), (32, v5), (33, .int .i64 (x7.1.length : Int)), (34, .int .i64 s.2)] a ∧ Stw ⟨Y, [], w0⟩ [(b1, [.int .i64 p0.1, v1, v2])] [CJ v4 36 CK g_x8.1, row v5 3 (Rp.int .i64) x7.1] w) ⟨⟨g_x4.1, g_x4.2⟩, F.re ⟨rfl, Aa, Aa, Aa, Aa, Aa, Aa, Aa, Aa, Aa, trivial⟩, W⟩ fun s o a w H L4 hR => ?_
    obtain ⟨x8, x9⟩ := s
    obtain ⟨g_x8, F, W⟩ := hR
    have F : Fr 54 [] [(1, v3), (2, .pointer (some ⟨b1, 0, none⟩)), (4, .slice none 0 0), (5, .int .i64 0), (6, v4), (21, .int .i64 (p0.2.2.length : Int)), (22, .int .i64 x5), (32, v5), (33, .int .i64 (x7.1.length : Int)), (34, .int .i64 x9)] a := F
    have W : Stw ⟨Y, [], w0⟩ [(b1, [.int .i64 p0.1, v1, v2])] [CJ v4 36 CK g_x8.1, row v5 3 (Rp.int .i64) x7.1] w := W
    rw [DQ] at H
    refine Ah (Ab ?_)
    refine ls F W Aa (Bo F Aa Aa).q fun a w F W => ?_
    refine Ad (Ac (Ah ?_))
    refine AE F Aa (fun hb => ?_) fun hb => ?_
    ·
     have H := AU (Bz hb) H
     rw [hb] at F
     clear hb
     refine Az (Ac (Ah (Ay (Ah (Ab ?_)))))
     refine ls F W Aa (Ae F Aa).q fun a w F W => ?_
     obtain ⟨x10, h7, H⟩ := Al H
     refine ls F W Aa (AH (r := (Rp.int .i64)) FI F Aa Aa (Au 1 Aa) h7).q fun a w F W => ?_
     refine ls F W Aa (Ax (y := Value.int .i64 x10) (j := 0) (i := x9) F Aa Aa (Au 1 Aa) h7 Fl.int.to T3 Aa).q fun a w F W => ?_
     iterate 2 refine ls F W Aa (Af F Aa).q fun a w F W => ?_
     refine Ad (Ac (Ah (Ah (Ab ?_))))
     refine ls F W Aa (Ae F Aa).q fun a w F W => ?_
     refine ls F W Aa (Bo F Aa Aa).q fun a w F W => ?_
     refine Ad (Ac ?_)
     refine AE F Aa (fun hb => ?_) fun hb => ?_
     ·
      have H := AU (Bz hb) H
      rw [hb] at F
      clear hb
      refine Ah (Ab ?_)
      iterate 2 refine ls F W Aa (Af F Aa).q fun a w F W => ?_
      refine Ad (Ac (AC (AO (A5 ?_))))
      iterate 2 refine AO ?_
      iterate 2 refine A5 ?_
      iterate 2 refine AO ?_
      refine A5 (AO ?_)
      have H := L4 _ H
      have H := L3 _ H
      have H := L2 _ H
      have H := L1 _ H
      have H := A1 H
      subst H
      refine ID (.inl Aa) F W Aa (Aw F Aa) (Aw F Aa) ?_
      have W := W.dNil 36 CK
      have h8 : List.map Ep ([] : List (Value × Nat × List Int)) = ([] : List (Nat × List Int)) := Aa
      have W := W.sub (M' := []) (Z' := [CJ (Value.slice none 0 0) 36 CK ([] : List (Value × Nat × List Int))]) (List.nil_sublist _) (List.Sublist.cons_cons _ (List.nil_sublist _))
      exact ⟨((Value.slice none 0 0), ⟨[], Aa⟩), Aa, W⟩
     have H := AV (Bw hb) H
     rw [hb] at F
     clear hb
     refine Az (Ac (Ab ?_))
     iterate 4 refine ls F W Aa (Ae F Aa).q fun a w F W => ?_
     obtain ⟨x11, h9, H⟩ := Al H
     obtain ⟨v6, h10, h11⟩ := Kd (er := Ep) g_x8.2 h9
     refine ls F W Aa (AH (r := CK.hr) QS F Aa Aa (IL.hd (CM 0 Aa)) h10).q fun a w F W => ?_
     have h12 : CK.cells v6 = [(v6.1)] := congrArg (fun q : Nat × List Int => ([(v6.1)] : List Value)) h11
     refine ls F W Aa (Ax (y := (v6.1)) (j := 0) (i := x9) (enc := CK.cells) F Aa Aa (IL.hd (CM 0 Aa)) h10 CK.flat Qq (by rw [h12]; rfl)).q fun a w F W => ?_
     refine ls F W Aa (Ae F Aa).q fun a w F W => ?_
     refine Ey (z := Value.int .i64 0) (cs := [.int .i64 x10]) (Rp.int .i64) ([x10] : List Int) F W Aa FI Z3 Aa Aa Aa Aa Aa Aa (Fl.int.repL _ _ ([x10] : List Int)) fun v7 a w F W => ?_
     obtain ⟨x12, h13, H⟩ := Al H
     have W := W.frontZ (i := 1) Aa Aa
     have W := W.dTakeR h10 Foc.here ((congrArg (fun q : Nat × List Int => q) h11).trans (Prod.ext (Py h13) Aa))
     have h14 : List.map Ep (AA g_x8.1 x9 ((v6.1), 0, [])) = (AA x8 x9 (0, [])) := (OU g_x8.2 (congrArg (fun q : Nat × List Int => (0, [])) h11))
     have W : Stw ⟨Y, [], w0⟩ [(b1, [.int .i64 p0.1, v1, v2])] [row (v6.1) 3 (Rp.int .i64) x11.2, CJ v4 36 CK (AA g_x8.1 x9 ((v6.1), 0, [])), row v7 3 (Rp.int .i64) ([x10] : List Int), row v5 3 (Rp.int .i64) x7.1] w := W
     obtain ⟨x13, h15, H⟩ := Al H
     refine DM (r := (Rp.int .i64)) (i := 0) F W Aa FI Aa Aa Aa Aa (DT W 2 Aa) h15 Aa fun v8 a w F W => ?_
     have W : Stw ⟨Y, [], w0⟩ [(b1, [.int .i64 p0.1, v1, v2])] [row v8 3 (Rp.int .i64) x13, CJ v4 36 CK (AA g_x8.1 x9 ((v6.1), 0, [])), row v7 3 (Rp.int .i64) ([x10] : List Int), row v5 3 (Rp.int .i64) x7.1] w := W
     obtain ⟨x14, h16, H⟩ := Al H
     obtain ⟨v9, h17, h18⟩ := Kd (er := Ep) h14 h16
     refine ls F W Aa (AH (r := CK.hr) QS F Aa Aa (IL.hd (CM 1 Aa)) h17).q fun a w F W => ?_
     obtain ⟨x15, h19, H⟩ := Al H
     obtain ⟨v10, h20, h21⟩ := Kd (er := Ep) h14 h19
     have h22 : Value.oneCell' v8 = true := (W.one (k := 0) Aa)
     have W := W.frontZ (i := 1) Aa Aa
     have W := W.frontZ (i := 1) Aa Aa
     have W := W.toR
     refine Mj (D := CK) (S := (Dp.sl 3 (Rp.int .i64))) (b := (v8, 2, x13)) (i := x9) (j := 0) Foc.here F W Aa Aa Aa h20 Qq (E9 h22) Aa h22 Aa fun w W => ?_
     have h23 : List.map Ep (AA (AA g_x8.1 x9 ((v6.1), 0, [])) x9 (v8, 2, x13)) = (AA (AA x8 x9 (0, [])) x9 (2, x13)) := (OU h14 (congrArg (fun q : Nat × List Int => (2, x13)) h21))
     have W : Stw ⟨Y, [], w0⟩ [(b1, [.int .i64 p0.1, v1, v2])] [CJ v4 36 CK (AA (AA g_x8.1 x9 ((v6.1), 0, [])) x9 (v8, 2, x13)), row v7 3 (Rp.int .i64) ([x10] : List Int), row v5 3 (Rp.int .i64) x7.1] w := W
     refine Ad (AS (Ac (Ab ?_)))
     refine ls F W Aa (BZ F Aa Aa Aa).q fun a w F W => ?_
     refine ls F W Aa (Ae F Aa).q fun a w F W => ?_
     refine Ad (Ac ?_)
     have W := W.frontZ (i := 2) Aa Aa
     have W := W.frontZ (i := 1) Aa Aa
     have W := W.sub (M' := [(b1, [.int .i64 p0.1, v1, v2])]) (Z' := [CJ v4 36 CK (AA (AA g_x8.1 x9 ((v6.1), 0, [])) x9 (v8, 2, x13)), row v5 3 (Rp.int .i64) x7.1]) (List.Sublist.refl _) (List.Sublist.cons_cons _ (List.Sublist.cons_cons _ (List.nil_sublist _)))
     exact ⟨_, H, ⟨(AA (AA g_x8.1 x9 ((v6.1), 0, [])) x9 (v8, 2, x13)), h23⟩, F.re ⟨rfl, Aa, Aa, Aa, Aa, Aa, Aa, Aa, Aa, Aa, trivial⟩, W⟩
    have H := AV (Bw hb) H
    rw [hb] at F
    clear hb
    refine Bm ?_
    iterate 2 refine BT ?_
    refine Bn (AS (Ac ?_))
    have W := W.sub (M' := [(b1, [.int .i64 p0.1, v1, v2])]) (Z' := [CJ v4 36 CK g_x8.1]) (List.Sublist.refl _) (List.Sublist.cons_cons _ (List.nil_sublist _))
    have H := L4 _ H
    exact ⟨_, ⟨g_x8.1, g_x8.2⟩, H, F.re ⟨rfl, Aa, Aa, Aa, Aa, Aa, Aa, trivial⟩, W⟩
   rintro a w ⟨x6, g_x6, hj, F, W⟩
   have H := K3 _ hj
   clear hj G3 K3 L3
   refine Ab ?_
   refine ls F W Aa (BZ F Aa Aa Aa).q fun a w F W => ?_
   refine ls F W Aa (Ae F Aa).q fun a w F W => ?_
   refine Ad (Ac ?_)
   exact ⟨_, H, ⟨g_x6.1, g_x6.2⟩, F.re ⟨rfl, Aa, Aa, Aa, Aa, Aa, Aa, trivial⟩, W⟩
  have H := AV (Bw hb) H
  rw [hb] at F
  clear hb
  refine Bm ?_
  iterate 2 refine BT ?_
  refine Bn (Ac ?_)
  have H := L2 _ H
  exact ⟨_, ⟨g_x4.1, g_x4.2⟩, H, F.re ⟨rfl, Aa, Aa, trivial⟩, W⟩
 rintro a w ⟨x3, g_x3, hj, F, W⟩
 have H := K1 _ hj
 clear hj G1 K1 L1
 refine Ah (Ab ?_)
 refine ls F W Aa (Ae F Aa).q fun a w F W => ?_
 iterate 2 refine ls F W Aa (Af F Aa).q fun a w F W => ?_
 refine Ad (Ac (AC ?_))
 have H := A1 H
 subst H
 refine ID (.inl Aa) F W Aa (Aw F Aa) (Aw F Aa) ?_
 have W := W.sub (M' := []) (Z' := [CJ v4 36 CK g_x3.1]) (List.nil_sublist _) (List.Sublist.refl _)
 exact ⟨((v4), ⟨g_x3.1, g_x3.2⟩), Aa, W⟩
theorem SC : Has Try.prog 19 := ⟨fun args w => Aj Try.func19 rfl (by decide) args w⟩
noncomputable def D3  : Option Bool := (Eb (3, ([(0, 0, 1, 0, 1, 1), (0, 1, 2, 0, 1, 1), (2, 1, 1, 1, 1, 1)] : List (Int × Int × Int × Int × Int × Int)), ([(1, 5)] : List (Int × Int))) ([4613937818241073152, 4607182418800017408, 4607182418800017408] : List Nat)).bind fun x1 => (if x1.2 = 0 then (if (x1.1.length : Int) = 3 then (ix x1.1 0).bind fun x3 => (ix x3.2 0).bind fun x4 => (LI x3.1).bind fun x5 => (if x4 = 1 then (ix x1.1 1).bind fun x6 => (ix x6.2 0).bind fun x7 => (LI x6.1).bind fun x8 => (if x7 = 5 then (ix x1.1 2).bind fun x9 => (ix x9.2 0).bind fun x10 => (LI x9.1).bind fun x11 => some (decide (x10 = 1)) else some false) else some false) else some false) else some false).bind fun x2 => some x2
theorem GF (Y : Nat → Prop) (w0 : World)   (r : Bool) (H : D3  = some r)  :
    Calls Try.prog 8 #[] w0 fun e w' => e = .returned (.bool r) ∧ Below w0.heap.size w0 w' := by
 refine enter Try.func8 Aa Try.ntmps8 Aa fun a F => ?_
 have W := Stw.start Y w0
 unfold D3 at H
 refine Ah (Ab ?_)
 refine ls F W Aa (Af F Aa).q fun a w F W => ?_
 refine Ad (Ac (Ah (Ab ?_)))
 refine ls F W Aa (Dd (v := Value.agg #[.int .i64 0, .int .i64 0, .int .i64 1, .int .i64 0, .int .i64 1, .int .i64 1]) RO F Aa Aa Aa).q fun a w F W => ?_
 refine ls F W Aa (Dd (v := Value.agg #[.int .i64 0, .int .i64 1, .int .i64 2, .int .i64 0, .int .i64 1, .int .i64 1]) RO F Aa Aa Aa).q fun a w F W => ?_
 refine ls F W Aa (Dd (v := Value.agg #[.int .i64 2, .int .i64 1, .int .i64 1, .int .i64 1, .int .i64 1, .int .i64 1]) RO F Aa Aa Aa).q fun a w F W => ?_
 refine Ey (z := Value.agg #[.int .i64 0, .int .i64 0, .int .i64 0, .int .i64 0, .int .i64 0, .int .i64 0]) (cs := [.int .i64 0, .int .i64 0, .int .i64 1, .int .i64 0, .int .i64 1, .int .i64 1, .int .i64 0, .int .i64 1, .int .i64 2, .int .i64 0, .int .i64 1, .int .i64 1, .int .i64 2, .int .i64 1, .int .i64 1, .int .i64 1, .int .i64 1, .int .i64 1]) Fm ([(0, 0, 1, 0, 1, 1), (0, 1, 2, 0, 1, 1), (2, 1, 1, 1, 1, 1)] : List (Int × Int × Int × Int × Int × Int)) F W Aa Qm QO Aa Aa Aa Aa Aa Aa (QC.repL _ _ ([(0, 0, 1, 0, 1, 1), (0, 1, 2, 0, 1, 1), (2, 1, 1, 1, 1, 1)] : List (Int × Int × Int × Int × Int × Int))) fun v1 a w F W => ?_
 refine ls F W Aa (Dd (v := Value.agg #[.int .i64 1, .int .i64 5]) Sj F Aa Aa Aa).q fun a w F W => ?_
 refine Ey (z := Value.agg #[.int .i64 0, .int .i64 0]) (cs := [.int .i64 1, .int .i64 5]) Fo ([(1, 5)] : List (Int × Int)) F W Aa Pp RU Aa Aa Aa Aa Aa Aa (Pn.repL _ _ ([(1, 5)] : List (Int × Int))) fun v2 a w F W => ?_
 refine ls F W Aa (Dd (v := Value.agg #[.int .i64 3, v1, v2]) SY F Aa (Im Aa Aa Aa (Im Aa (E9 (W.one (k := 1) Aa)) Aa (Im Aa (E9 (W.one (k := 0) Aa)) Aa O6))) Aa).q fun a w F W => ?_
 refine Ck (cs := [.int .i64 0, .slice none 0 0, .slice none 0 0]) F W Aa SQ Aa fun b1 a w F W => ?_
 refine Cw (vs := [.int .i64 3, v1, v2]) (M' := [(b1, [.int .i64 3, v1, v2])]) 0 F W Aa Aa Aa Jj Aa Aa Aa (Jy Aa (Jy (W.one (k := 1) Aa) (Jy (W.one (k := 0) Aa) P4))) Aa fun w W => ?_
 refine Ad (Ac (Ah (Ab ?_)))
 refine ls F W Aa (An (v := Value.agg #[.int .i64 3, v1, v2]) 0 F Aa Aa Jj Aa).q fun a w F W => ?_
 refine Ey (z := Value.float .f64 0) (cs := [.float .f64 4613937818241073152, .float .f64 4607182418800017408, .float .f64 4607182418800017408]) (Rp.flt .f64) ([4613937818241073152, 4607182418800017408, 4607182418800017408] : List Nat) F W Aa Iy Qe Aa Aa Aa Aa Aa Aa (Fl.flt.repL _ _ ([4613937818241073152, 4607182418800017408, 4607182418800017408] : List Nat)) fun v3 a w F W => ?_
 obtain ⟨x1, h1, H⟩ := Al H
 refine BS (Ml := []) (Zl := []) (M := [(b1, [.int .i64 3, v1, v2])]) (Z := [row v3 56 (Rp.flt .f64) ([4613937818241073152, 4607182418800017408, 4607182418800017408] : List Nat), row v2 52 Fo ([(1, 5)] : List (Int × Int)), row v1 62 Fm ([(0, 0, 1, 0, 1, 1), (0, 1, 2, 0, 1, 1), (2, 1, 1, 1, 1, 1)] : List (Int × Int × Int × Int × Int × Int))]) (β := Value × ({x : List (Value × Nat × List Int) // x.map Ep = x1.1})) (rv := fun x => .tuple #[x.1, .int .i64 x1.2]) (MM := fun x => []) (ZZ := fun x => [CJ x.1 36 CK x.2.1]) F W SC Aa Aa (fun hL => Jt _ w (v1) (v2) (v3) (3, ([(0, 0, 1, 0, 1, 1), (0, 1, 2, 0, 1, 1), (2, 1, 1, 1, 1, 1)] : List (Int × Int × Int × Int × Int × Int)), ([(1, 5)] : List (Int × Int))) ([4613937818241073152, 4607182418800017408, 4607182418800017408] : List Nat) _ h1 ((Au 2 Aa) w W).nx ((Au 1 Aa) w W).nx ((Au 0 Aa) w W).nx) fun x a w F W => ?_
 obtain ⟨v4, v5⟩ := x
 have W : Stw ⟨Y, [], w0⟩ [(b1, [.int .i64 3, v1, v2])] [CJ v4 36 CK v5.1, row v3 56 (Rp.flt .f64) ([4613937818241073152, 4607182418800017408, 4607182418800017408] : List Nat), row v2 52 Fo ([(1, 5)] : List (Int × Int)), row v1 62 Fm ([(0, 0, 1, 0, 1, 1), (0, 1, 2, 0, 1, 1), (2, 1, 1, 1, 1, 1)] : List (Int × Int × Int × Int × Int × Int))] w := W
 refine ls F W Aa (Ae F Aa).q fun a w F W => ?_
 refine ls F W Aa (BJ (v := v4) F Aa Aa).q fun a w F W => ?_
 refine ls F W Aa (BJ (v := Value.int .i64 x1.2) F Aa Aa).q fun a w F W => ?_
 iterate 2 refine ls F W Aa (Af F Aa).q fun a w F W => ?_
 refine Ad (Ac ?_)
 obtain ⟨o1, G1, K1⟩ := Al H
 refine AN (fun a w => ∃ x2 : Bool, some (x2) = some o1 ∧ Fr 48 [] [(0, .bool x2)] a ∧ Stw ⟨Y, [], w0⟩ [(b1, [.int .i64 3, v1, v2])] [row v1 62 Fm ([(0, 0, 1, 0, 1, 1), (0, 1, 2, 0, 1, 1), (2, 1, 1, 1, 1, 1)] : List (Int × Int × Int × Int × Int × Int)), row v2 52 Fo ([(1, 5)] : List (Int × Int))] w) ?_ ?_
 ·
  have H := G1
  clear G1 K1
  refine Ab ?_
  refine ls F W Aa (Ae F Aa).q fun a w F W => ?_
  refine ls F W Aa (Du F Aa Aa).q fun a w F W => ?_
  refine ls F W Aa (Ae F Aa).q fun a w F W => ?_
  rcases Bool.eq_false_or_eq_true (decide (x1.2 = 0)) with hb | hb
  ·
   have H := AU (Bz hb) H
   rw [hb] at F
   clear hb
   refine AD F W (Ag F Aa Aa Aa Aa) Aa (Ak Aa) (Ae F Aa).q fun a w F W => ?_
   refine AD F W (Ag F Aa Aa Aa Aa) Aa (Ak Aa) (P3 (er := Ep) v5.2 QZ Aa F Aa (IL.hd (CM 0 Aa))).q fun a w F W => ?_
   refine AD F W (Ag F Aa Aa Aa Aa) Aa (Ak Aa) (Du F Aa Aa).q fun a w F W => ?_
   refine ls F W Aa (Ao F Aa Aa Aa).q fun a w F W => ?_
   refine ls F W Aa (Ae F Aa).q fun a w F W => ?_
   rcases Bool.eq_false_or_eq_true (decide ((x1.1.length : Int) = 3)) with hb | hb
   ·
    have H := AU (Bz hb) H
    rw [hb] at F
    clear hb
    refine AD F W (Ag F Aa Aa Aa Aa) Aa (Ak Aa) (Ae F Aa).q fun a w F W => ?_
    obtain ⟨x3, h2, H⟩ := Al H
    obtain ⟨v6, h3, h4⟩ := Kd (er := Ep) v5.2 h2
    refine AD F W (Ag F Aa Aa Aa Aa) Aa (Ak Aa) (AH (r := CK.hr) QS F Aa Aa (IL.hd (CM 0 Aa)) h3).q fun a w F W => ?_
    have h5 : CK.cells v6 = [(v6.1)] := congrArg (fun q : Nat × List Int => ([(v6.1)] : List Value)) h4
    refine AD F W (Ag F Aa Aa Aa Aa) Aa (Ak Aa) (Ax (y := (v6.1)) (j := 0) (i := 0) (enc := CK.cells) F Aa Aa (IL.hd (CM 0 Aa)) h3 CK.flat Qq (by rw [h5]; rfl)).q fun a w F W => ?_
    obtain ⟨x4, h6, H⟩ := Al H
    obtain ⟨x5, h7, H⟩ := Al H
    refine AD F W (Ag F Aa Aa Aa Aa) Aa (Ak Aa) (AH (r := (Rp.int .i64)) FI F Aa Aa (IL.sl (k := x3.1) (l := x3.2) (CM 0 Aa) h3 Foc.here (congrArg (fun q : Nat × List Int => q) h4) (GU h7)) h6).q fun a w F W => ?_
    refine AD F W (Ag F Aa Aa Aa Aa) Aa (Ak Aa) (Ax (y := Value.int .i64 x4) (j := 0) (i := 0) F Aa Aa (IL.sl (k := x3.1) (l := x3.2) (CM 0 Aa) h3 Foc.here (congrArg (fun q : Nat × List Int => q) h4) (GU h7)) h6 Fl.int.to T3 Aa).q fun a w F W => ?_
    refine AD F W (Ag F Aa Aa Aa Aa) Aa (Ak Aa) (Du F Aa Aa).q fun a w F W => ?_
    refine ls F W Aa (Ao F Aa Aa Aa).q fun a w F W => ?_
    refine ls F W Aa (Ae F Aa).q fun a w F W => ?_
    rcases Bool.eq_false_or_eq_true (decide (x4 = 1)) with hb | hb
    ·
     have H := AU (Bz hb) H
     rw [hb] at F
     clear hb
     refine AD F W (Ag F Aa Aa Aa Aa) Aa (Ak Aa) (Ae F Aa).q fun a w F W => ?_
     obtain ⟨x6, h8, H⟩ := Al H
     obtain ⟨v7, h9, h10⟩ := Kd (er := Ep) v5.2 h8
     refine AD F W (Ag F Aa Aa Aa Aa) Aa (Ak Aa) (AH (r := CK.hr) QS F Aa Aa (IL.hd (CM 0 Aa)) h9).q fun a w F W => ?_
     have h11 : CK.cells v7 = [(v7.1)] := congrArg (fun q : Nat × List Int => ([(v7.1)] : List Value)) h10
     refine AD F W (Ag F Aa Aa Aa Aa) Aa (Ak Aa) (Ax (y := (v7.1)) (j := 0) (i := 1) (enc := CK.cells) F Aa Aa (IL.hd (CM 0 Aa)) h9 CK.flat Qq (by rw [h11]; rfl)).q fun a w F W => ?_
     obtain ⟨x7, h12, H⟩ := Al H
     obtain ⟨x8, h13, H⟩ := Al H
     refine AD F W (Ag F Aa Aa Aa Aa) Aa (Ak Aa) (AH (r := (Rp.int .i64)) FI F Aa Aa (IL.sl (k := x6.1) (l := x6.2) (CM 0 Aa) h9 Foc.here (congrArg (fun q : Nat × List Int => q) h10) (GU h13)) h12).q fun a w F W => ?_
     refine AD F W (Ag F Aa Aa Aa Aa) Aa (Ak Aa) (Ax (y := Value.int .i64 x7) (j := 0) (i := 0) F Aa Aa (IL.sl (k := x6.1) (l := x6.2) (CM 0 Aa) h9 Foc.here (congrArg (fun q : Nat × List Int => q) h10) (GU h13)) h12 Fl.int.to T3 Aa).q fun a w F W => ?_
     refine AD F W (Ag F Aa Aa Aa Aa) Aa (Ak Aa) (Du F Aa Aa).q fun a w F W => ?_
     refine ls F W Aa (Ao F Aa Aa Aa).q fun a w F W => ?_
     refine ls F W Aa (Ae F Aa).q fun a w F W => ?_
     rcases Bool.eq_false_or_eq_true (decide (x7 = 5)) with hb | hb
     ·
      have H := AU (Bz hb) H
      rw [hb] at F
      clear hb
      refine AD F W (Ag F Aa Aa Aa Aa) Aa (Ak Aa) (Ae F Aa).q fun a w F W => ?_
      obtain ⟨x9, h14, H⟩ := Al H
      obtain ⟨v8, h15, h16⟩ := Kd (er := Ep) v5.2 h14
      refine AD F W (Ag F Aa Aa Aa Aa) Aa (Ak Aa) (AH (r := CK.hr) QS F Aa Aa (IL.hd (CM 0 Aa)) h15).q fun a w F W => ?_
      have h17 : CK.cells v8 = [(v8.1)] := congrArg (fun q : Nat × List Int => ([(v8.1)] : List Value)) h16
      refine AD F W (Ag F Aa Aa Aa Aa) Aa (Ak Aa) (Ax (y := (v8.1)) (j := 0) (i := 2) (enc := CK.cells) F Aa Aa (IL.hd (CM 0 Aa)) h15 CK.flat Qq (by rw [h17]; rfl)).q fun a w F W => ?_
      obtain ⟨x10, h18, H⟩ := Al H
      obtain ⟨x11, h19, H⟩ := Al H
      refine AD F W (Ag F Aa Aa Aa Aa) Aa (Ak Aa) (AH (r := (Rp.int .i64)) FI F Aa Aa (IL.sl (k := x9.1) (l := x9.2) (CM 0 Aa) h15 Foc.here (congrArg (fun q : Nat × List Int => q) h16) (GU h19)) h18).q fun a w F W => ?_
      refine AD F W (Ag F Aa Aa Aa Aa) Aa (Ak Aa) (Ax (y := Value.int .i64 x10) (j := 0) (i := 0) F Aa Aa (IL.sl (k := x9.1) (l := x9.2) (CM 0 Aa) h15 Foc.here (congrArg (fun q : Nat × List Int => q) h16) (GU h19)) h18 Fl.int.to T3 Aa).q fun a w F W => ?_
      refine AD F W (Ag F Aa Aa Aa Aa) Aa (Ak Aa) (Du F Aa Aa).q fun a w F W => ?_
      refine ls F W Aa (Ao F Aa Aa Aa).q fun a w F W => ?_
      refine ls F W Aa (Af F Aa).q fun a w F W => ?_
      refine Ad (Ac ?_)
      have W := W.frontZ (i := 2) Aa Aa
      have W := W.frontZ (i := 3) Aa Aa
      have W := W.sub (M' := [(b1, [.int .i64 3, v1, v2])]) (Z' := [row v1 62 Fm ([(0, 0, 1, 0, 1, 1), (0, 1, 2, 0, 1, 1), (2, 1, 1, 1, 1, 1)] : List (Int × Int × Int × Int × Int × Int)), row v2 52 Fo ([(1, 5)] : List (Int × Int))]) (List.Sublist.refl _) (List.Sublist.cons_cons _ (List.Sublist.cons_cons _ (List.nil_sublist _)))
      exact ⟨_, H, F.re ⟨rfl, trivial⟩, W⟩
     have H := AV (Bw hb) H
     rw [hb] at F
     clear hb
     iterate 6 refine Cs F Aa Aa Aa Aa Aa Aa Aa fun a F => ?_
     refine ls F W Aa (Ap F Aa Aa Aa).q fun a w F W => ?_
     refine ls F W Aa (Af F Aa).q fun a w F W => ?_
     refine Ad (Ac ?_)
     have W := W.frontZ (i := 2) Aa Aa
     have W := W.frontZ (i := 3) Aa Aa
     have W := W.sub (M' := [(b1, [.int .i64 3, v1, v2])]) (Z' := [row v1 62 Fm ([(0, 0, 1, 0, 1, 1), (0, 1, 2, 0, 1, 1), (2, 1, 1, 1, 1, 1)] : List (Int × Int × Int × Int × Int × Int)), row v2 52 Fo ([(1, 5)] : List (Int × Int))]) (List.Sublist.refl _) (List.Sublist.cons_cons _ (List.Sublist.cons_cons _ (List.nil_sublist _)))
     exact ⟨_, H, F.re ⟨rfl, trivial⟩, W⟩
    have H := AV (Bw hb) H
    rw [hb] at F
    clear hb
    iterate 6 refine Cs F Aa Aa Aa Aa Aa Aa Aa fun a F => ?_
    refine ls F W Aa (Ap F Aa Aa Aa).q fun a w F W => ?_
    refine ls F W Aa (Ae F Aa).q fun a w F W => ?_
    iterate 6 refine Cs F Aa Aa Aa Aa Aa Aa Aa fun a F => ?_
    refine ls F W Aa (Ap F Aa Aa Aa).q fun a w F W => ?_
    refine ls F W Aa (Af F Aa).q fun a w F W => ?_
    refine Ad (Ac ?_)
    have W := W.frontZ (i := 2) Aa Aa
    have W := W.frontZ (i := 3) Aa Aa
    have W := W.sub (M' := [(b1, [.int .i64 3, v1, v2])]) (Z' := [row v1 62 Fm ([(0, 0, 1, 0, 1, 1), (0, 1, 2, 0, 1, 1), (2, 1, 1, 1, 1, 1)] : List (Int × Int × Int × Int × Int × Int)), row v2 52 Fo ([(1, 5)] : List (Int × Int))]) (List.Sublist.refl _) (List.Sublist.cons_cons _ (List.Sublist.cons_cons _ (List.nil_sublist _)))
    exact ⟨_, H, F.re ⟨rfl, trivial⟩, W⟩
   have H := AV (Bw hb) H
   rw [hb] at F
   clear hb
   iterate 6 refine Cs F Aa Aa Aa Aa Aa Aa Aa fun a F => ?_
   refine ls F W Aa (Ap F Aa Aa Aa).q fun a w F W => ?_
   refine ls F W Aa (Ae F Aa).q fun a w F W => ?_
   iterate 6 refine Cs F Aa Aa Aa Aa Aa Aa Aa fun a F => ?_
   refine ls F W Aa (Ap F Aa Aa Aa).q fun a w F W => ?_
   refine ls F W Aa (Ae F Aa).q fun a w F W => ?_
   iterate 6 refine Cs F Aa Aa Aa Aa Aa Aa Aa fun a F => ?_
   refine ls F W Aa (Ap F Aa Aa Aa).q fun a w F W => ?_
   refine ls F W Aa (Af F Aa).q fun a w F W => ?_
   refine Ad (Ac ?_)
   have W := W.frontZ (i := 2) Aa Aa
   have W := W.frontZ (i := 3) Aa Aa
   have W := W.sub (M' := [(b1, [.int .i64 3, v1, v2])]) (Z' := [row v1 62 Fm ([(0, 0, 1, 0, 1, 1), (0, 1, 2, 0, 1, 1), (2, 1, 1, 1, 1, 1)] : List (Int × Int × Int × Int × Int × Int)), row v2 52 Fo ([(1, 5)] : List (Int × Int))]) (List.Sublist.refl _) (List.Sublist.cons_cons _ (List.Sublist.cons_cons _ (List.nil_sublist _)))
   exact ⟨_, H, F.re ⟨rfl, trivial⟩, W⟩
  have H := AV (Bw hb) H
  rw [hb] at F
  clear hb
  iterate 3 refine Cs F Aa Aa Aa Aa Aa Aa Aa fun a F => ?_
  refine ls F W Aa (Ap F Aa Aa Aa).q fun a w F W => ?_
  refine ls F W Aa (Ae F Aa).q fun a w F W => ?_
  iterate 6 refine Cs F Aa Aa Aa Aa Aa Aa Aa fun a F => ?_
  refine ls F W Aa (Ap F Aa Aa Aa).q fun a w F W => ?_
  refine ls F W Aa (Ae F Aa).q fun a w F W => ?_
  iterate 6 refine Cs F Aa Aa Aa Aa Aa Aa Aa fun a F => ?_
  refine ls F W Aa (Ap F Aa Aa Aa).q fun a w F W => ?_
  refine ls F W Aa (Ae F Aa).q fun a w F W => ?_
  iterate 6 refine Cs F Aa Aa Aa Aa Aa Aa Aa fun a F => ?_
  refine ls F W Aa (Ap F Aa Aa Aa).q fun a w F W => ?_
  refine ls F W Aa (Af F Aa).q fun a w F W => ?_
  refine Ad (Ac ?_)
  have W := W.frontZ (i := 2) Aa Aa
  have W := W.frontZ (i := 3) Aa Aa
  have W := W.sub (M' := [(b1, [.int .i64 3, v1, v2])]) (Z' := [row v1 62 Fm ([(0, 0, 1, 0, 1, 1), (0, 1, 2, 0, 1, 1), (2, 1, 1, 1, 1, 1)] : List (Int × Int × Int × Int × Int × Int)), row v2 52 Fo ([(1, 5)] : List (Int × Int))]) (List.Sublist.refl _) (List.Sublist.cons_cons _ (List.Sublist.cons_cons _ (List.nil_sublist _)))
  exact ⟨_, H, F.re ⟨rfl, trivial⟩, W⟩
 rintro a w ⟨x2, hj, F, W⟩
 have hj := A1 hj
 subst hj
 have H := K1
 clear G1 K1
 refine AC ?_
 have H := A1 H
 subst H
 refine A2 (.inl Aa) F W Aa (Aw F Aa) ?_
 exact ⟨rfl, W.done⟩
theorem H8 : Has Try.prog 8 := ⟨fun args w => Aj Try.func8 rfl (by decide) args w⟩
theorem RV : Et Try.prog 26 59 1 8 := Et.of Pk (by kernel_rfl) (by kernel_rfl) (by kernel_rfl) (by decide)
theorem RY : Ty Try.prog 59 false 1 := ⟨by kernel_rfl, by kernel_rfl⟩
def Dh (p0 : Int) : Nat := (Bx (Int.toNat p0))
theorem MB (Y : Nat → Prop) (w0 : World)  (p0 : Int) (r : Nat) (H : Dh p0 = r)  :
    Calls Try.prog 26 #[.int .u64 p0] w0 fun e w' => e = .returned (.float .f64 r) ∧ Below w0.heap.size w0 w' := by
 refine enter Try.func26 Aa Try.ntmps26 Aa fun a F => ?_
 have W := Stw.start Y w0
 unfold Dh at H
 refine Ah (Ab ?_)
 refine ls F W Aa (Af F Aa).q fun a w F W => ?_
 refine Ad (Ac (Ah (Ab ?_)))
 refine ls F W Aa (Ae F Aa).q fun a w F W => ?_
 refine ls F W Aa (J0 (v := Value.float .f64 (Int.toNat p0)) F Rj Aa (fun w => rfl)).q fun a w F W => ?_
 refine ls F W Aa (AZ (v := Value.float .f64 (Bx (Int.toNat p0))) F RW Aa (fun w W => Hd any w (Int.toNat p0) _ Aa)) fun a w F W => ?_
 refine ls F W Aa (Af F Aa).q fun a w F W => ?_
 refine Ad (Ac (AC ?_))
 subst H
 refine A2 (.inl Aa) F W Aa (Aw F Aa) ?_
 exact ⟨rfl, W.done⟩
theorem Si : Has Try.prog 26 := ⟨fun args w => Aj Try.func26 rfl (by decide) args w⟩
noncomputable def EM (p0 : List Int) : (List Nat × Int) → Option ((List Nat × Int) ⊕ (List Nat))
  | (x2, x3) => (if x3 < (p0.length : Int) then (ix p0 x3).bind fun x4 => (HV x2 ([(Dh x4)] : List Nat)).bind fun x5 => some (.inl (x5, BH (x3 + 1))) else some (.inr x2))
noncomputable def Gj (p0 : List Int) : Option (List Nat) := (AF (EM p0) ([], 0)).bind fun x1 => some x1
theorem Ma (Y : Nat → Prop) (w0 : World) (v1 : Value) (p0 : List Int) (r : List Nat) (H : Gj p0 = some r) (h_v1 : Sl w0 (NX []) (Rp.int .u64) v1 p0) :
    Calls Try.prog 9 #[v1] w0 fun e w' => ∃ x : Value, e = .returned (x) ∧ Stw ⟨Y, [], w0⟩ [] [row (x) 56 (Rp.flt .f64) r] w' := by
 refine enter Try.func9 Aa Try.ntmps9 Aa fun a F => ?_
 have W := Stw.start Y w0
 unfold Gj at H
 refine Ah (Ab ?_)
 refine ls F W Aa (Af F Aa).q fun a w F W => ?_
 refine Ad (Ac (Ah (Ab ?_)))
 refine ls F W Aa (Af F Aa).q fun a w F W => ?_
 refine Ad (Ac ?_)
 obtain ⟨o1, G1, K1⟩ := Al H
 refine AN (fun a w => ∃ x1 : List Nat, ∃ v2 : Value, some (x1) = some o1 ∧ Fr 19 [] [(2, .slice none 0 0), (3, v2)] a ∧ Stw ⟨Y, [], w0⟩ [] [row v2 56 (Rp.flt .f64) x1] w) ?_ ?_
 ·
  have H := G1
  clear G1 K1
  refine Ah (Ab ?_)
  refine ls F W Aa (Ae F Aa).q fun a w F W => ?_
  refine ls F W Aa (BB (r := (Rp.int .u64)) (l := p0) Pk Aa F Aa (Am h_v1)).q fun a w F W => ?_
  refine ls F W Aa (Ae F Aa).q fun a w F W => ?_
  refine Ad (Ac (Ay ?_))
  have W := W.nilRow 56 (Rp.flt .f64)
  refine Bi H (fun s a w => ∃ v3 : Value, Fr 19 [] [(2, .slice none 0 0), (3, v3), (6, v1), (7, .int .i64 (p0.length : Int)), (8, .int .i64 s.2)] a ∧ Stw ⟨Y, [], w0⟩ [] [row v3 56 (Rp.flt .f64) s.1] w) ⟨(Value.slice none 0 0), F.re ⟨rfl, Aa, Aa, Aa, Aa, trivial⟩, W⟩ fun s o a w H L2 hR => ?_
  obtain ⟨x2, x3⟩ := s
  obtain ⟨v3, F, W⟩ := hR
  have F : Fr 19 [] [(2, .slice none 0 0), (3, v3), (6, v1), (7, .int .i64 (p0.length : Int)), (8, .int .i64 x3)] a := F
  have W : Stw ⟨Y, [], w0⟩ [] [row v3 56 (Rp.flt .f64) x2] w := W
  rw [EM] at H
  refine Ah (Ab ?_)
  refine ls F W Aa (Bo F Aa Aa).q fun a w F W => ?_
  refine Ad (Ac (Ah ?_))
  refine AE F Aa (fun hb => ?_) fun hb => ?_
  ·
   have H := AU (Bz hb) H
   rw [hb] at F
   clear hb
   refine Az (Ac (Ah (Ay (Ah (Ab ?_)))))
   obtain ⟨x4, h1, H⟩ := Al H
   refine ls F W Aa (AH (r := (Rp.int .u64)) RV F Aa Aa (Am h_v1) h1).q fun a w F W => ?_
   refine ls F W Aa (Ax (y := Value.int .u64 x4) (j := 0) (i := x3) F Aa Aa (Am h_v1) h1 Fl.int.to RY Aa).q fun a w F W => ?_
   refine ls F W Aa (Af F Aa).q fun a w F W => ?_
   refine Ad (Ac (Ab ?_))
   iterate 2 refine ls F W Aa (Ae F Aa).q fun a w F W => ?_
   refine ls F W Aa (AZ (v := Value.float .f64 (Dh x4)) F Si Aa (fun w W => MB any w x4 _ Aa)) fun a w F W => ?_
   refine Ey (z := Value.float .f64 0) (cs := [.float .f64 (Dh x4)]) (Rp.flt .f64) ([(Dh x4)] : List Nat) F W Aa Iy Qe Aa Aa Aa Aa Aa Aa (Fl.flt.repL _ _ ([(Dh x4)] : List Nat)) fun v4 a w F W => ?_
   obtain ⟨x5, h2, H⟩ := Al H
   refine DM (r := (Rp.flt .f64)) (i := 1) F W Aa Iy Aa Aa Aa Aa (DT W 0 Aa) h2 Aa fun v5 a w F W => ?_
   have W : Stw ⟨Y, [], w0⟩ [] [row v5 56 (Rp.flt .f64) x5, row v4 56 (Rp.flt .f64) ([(Dh x4)] : List Nat)] w := W
   refine ls F W Aa (Af F Aa).q fun a w F W => ?_
   refine Ad (AS (Ac (Ab ?_)))
   refine ls F W Aa (BZ F Aa Aa Aa).q fun a w F W => ?_
   refine ls F W Aa (Ae F Aa).q fun a w F W => ?_
   refine Ad (Ac ?_)
   have W := W.sub (M' := []) (Z' := [row v5 56 (Rp.flt .f64) x5]) (List.Sublist.refl _) (List.Sublist.cons_cons _ (List.nil_sublist _))
   exact ⟨_, H, (v5), F.re ⟨rfl, Aa, Aa, Aa, Aa, trivial⟩, W⟩
  have H := AV (Bw hb) H
  rw [hb] at F
  clear hb
  refine Bm ?_
  iterate 2 refine BT ?_
  refine Bn (Ac ?_)
  have H := L2 _ H
  exact ⟨_, (v3), H, F.re ⟨rfl, Aa, trivial⟩, W⟩
 rintro a w ⟨x1, v2, hj, F, W⟩
 have hj := A1 hj
 subst hj
 have H := K1
 clear G1 K1
 refine Ah (Ab ?_)
 refine ls F W Aa (Ae F Aa).q fun a w F W => ?_
 refine ls F W Aa (Af F Aa).q fun a w F W => ?_
 refine Ad (Ac (AC ?_))
 have H := A1 H
 subst H
 refine A2 (.inl Aa) F W Aa (Aw F Aa) ?_
 exact ⟨(v2), Aa, W⟩
end Go.Proofs.Ytbogijdfacoccaa
