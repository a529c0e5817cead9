/- The functions of layer 19, Gn. Conditions: none. -/
import Derived.Test.YtbogijdfacoccaaeA2
namespace Go.Proofs.Ytbogijdfacoccaa
open Go Go.RowKit
set_option linter.unusedVariables false
set_option linter.unusedSimpArgs false
set_option maxRecDepth 20000
theorem H9 : Has Try.prog 9 := ⟨fun args w => Aj Try.func9 rfl (by decide) args w⟩
def CJ (p0 : Nat) : Int := (if (BW p0) = true then 9221120237041090561 else (p0 : Int))
theorem Lu (Y : Nat → Prop) (w0 : World)  (p0 : Nat) (r : Int) (H : CJ p0 = r)  :
    Calls Try.prog 27 #[.float .f64 p0] w0 fun e w' => e = .returned (.int .u64 r) ∧ Below w0.heap.size w0 w' := by
 refine enter Try.func27 Aa Try.ntmps27 Aa fun a F => ?_
 have W := Stw.start Y w0
 unfold CJ at H
 refine Ah (Ab ?_)
 refine ls F W Aa (Ad F Aa).q fun a w F W => ?_
 refine Ae (Ac (Ah (Ah (Ab ?_))))
 refine ls F W Aa (Af F Aa).q fun a w F W => ?_
 refine ls F W Aa (AX (v := Value.bool (BW p0)) F R0 Aa (fun w W => Gs any w p0 _ Aa)) fun a w F W => ?_
 refine Ae (Ac ?_)
 refine Av F Aa (fun hb => ?_) fun hb => ?_
 ·
  have H := AN hb H
  rw [hb] at F
  clear hb
  refine Ah (Ab ?_)
  refine ls F W Aa (Ad F Aa).q fun a w F W => ?_
  refine Ae (Ac (Ax (AL ?_)))
  subst H
  refine AQ (.inl Aa) F W Aa (Au F Aa) ?_
  exact ⟨rfl, W.done⟩
 have H := AO (by rw [hb]; decide) H
 rw [hb] at F
 clear hb
 refine Ao (Ac (Ah (Ab ?_)))
 refine ls F W Aa (Af F Aa).q fun a w F W => ?_
 refine ls F W Aa (Hy (v := Value.int .u64 (p0 : Int)) F RC Aa (fun w => rfl)).q fun a w F W => ?_
 refine ls F W Aa (Ad F Aa).q fun a w F W => ?_
 refine Ae (Ac (Ax ?_))
 subst H
 refine AQ (.inl Aa) F W Aa (Au F Aa) ?_
 exact ⟨rfl, W.done⟩
theorem Tf : Has Try.prog 27 := ⟨fun args w => Aj Try.func27 rfl (by decide) args w⟩
theorem R9 : (Try.prog.info? 59).bind (·.zero) = some (.int .u64 0) := by kernel_rfl
noncomputable def Ef (p0 : List Nat) : (List Int × Int) → Option ((List Int × Int) ⊕ (List Int))
  | (x2, x3) => (if x3 < (p0.length : Int) then (ix p0 x3).bind fun x4 => (Hz x2 ([(CJ x4)] : List Int)).bind fun x5 => some (.inl (x5, BI (x3 + 1))) else some (.inr x2))
noncomputable def FE (p0 : List Nat) : Option (List Int) := (AH (Ef p0) ([], 0)).bind fun x1 => some x1
theorem Ly (Y : Nat → Prop) (w0 : World) (v1 : Value) (p0 : List Nat) (r : List Int) (H : FE p0 = some r) (h_v1 : Sl w0 (NX []) (Rp.flt .f64) v1 p0) :
    Calls Try.prog 11 #[v1] w0 fun e w' => ∃ x : Value, e = .returned (x) ∧ Stw ⟨Y, [], w0⟩ [] [row (x) 59 (Rp.int .u64) r] w' := by
 refine enter Try.func11 Aa Try.ntmps11 Aa fun a F => ?_
 have W := Stw.start Y w0
 unfold FE at H
 refine Ah (Ab ?_)
 refine ls F W Aa (Ad F Aa).q fun a w F W => ?_
 refine Ae (Ac (Ah (Ab ?_)))
 refine ls F W Aa (Ad F Aa).q fun a w F W => ?_
 refine Ae (Ac ?_)
 obtain ⟨o1, G1, K1⟩ := Al H
 refine AE (fun a w => ∃ x1 : List Int, ∃ v2 : Value, some (x1) = some o1 ∧ Fr 19 [] [(2, .slice none 0 0), (3, v2)] a ∧ Stw ⟨Y, [], w0⟩ [] [row v2 59 (Rp.int .u64) x1] w) ?_ ?_
 ·
  have H := G1
  clear G1 K1
  refine Ah (Ab ?_)
  refine ls F W Aa (Af F Aa).q fun a w F W => ?_
  refine ls F W Aa (Bm (r := (Rp.flt .f64)) (l := p0) KX Aa F Aa (Ak h_v1)).q fun a w F W => ?_
  refine ls F W Aa (Af F Aa).q fun a w F W => ?_
  refine Ae (Ac (Aq ?_))
  have W := W.nilRow 59 (Rp.int .u64)
  refine A4 H (fun s a w => ∃ v3 : Value, Fr 19 [] [(2, .slice none 0 0), (3, v3), (6, v1), (7, .int .i64 (p0.length : Int)), (8, .int .i64 s.2)] a ∧ Stw ⟨Y, [], w0⟩ [] [row v3 59 (Rp.int .u64) s.1] w) ⟨(Value.slice none 0 0), F.re ⟨rfl, Aa, Aa, Aa, Aa, trivial⟩, W⟩ fun s o a w H L2 hR => ?_
  obtain ⟨x2, x3⟩ := s
  obtain ⟨v3, F, W⟩ := hR
  have F : Fr 19 [] [(2, .slice none 0 0), (3, v3), (6, v1), (7, .int .i64 (p0.length : Int)), (8, .int .i64 x3)] a := F
  have W : Stw ⟨Y, [], w0⟩ [] [row v3 59 (Rp.int .u64) x2] w := W
  rw [Ef] at H
  refine Ah (Ab ?_)
  refine ls F W Aa (Bb F Aa Aa).q fun a w F W => ?_
  refine Ae (Ac (Ah ?_))
  refine Av F Aa (fun hb => ?_) fun hb => ?_
  ·
   have H := AN (Bd hb) H
   rw [hb] at F
   clear hb
   refine Ao (Ac (Ah (Aq (Ah (Ab ?_)))))
   obtain ⟨x4, h1, H⟩ := Al H
   refine ls F W Aa (AC (r := (Rp.flt .f64)) Jm F Aa Aa (Ak h_v1) h1).q fun a w F W => ?_
   refine ls F W Aa (As (y := Value.float .f64 x4) (j := 0) (i := x3) F Aa Aa (Ak h_v1) h1 Fl.flt.to NF Aa).q fun a w F W => ?_
   refine ls F W Aa (Ad F Aa).q fun a w F W => ?_
   refine Ae (Ac (Ab ?_))
   iterate 2 refine ls F W Aa (Af F Aa).q fun a w F W => ?_
   refine ls F W Aa (AX (v := Value.int .u64 (CJ x4)) F Tf Aa (fun w W => Lu any w x4 _ Aa)) fun a w F W => ?_
   refine Dq (z := Value.int .u64 0) (cs := [.int .u64 (CJ x4)]) (Rp.int .u64) ([(CJ x4)] : List Int) F W Aa Lo R9 Aa Aa Aa Aa Aa Aa (Fl.int.repL _ _ ([(CJ x4)] : List Int)) fun v4 a w F W => ?_
   obtain ⟨x5, h2, H⟩ := Al H
   refine Cj (r := (Rp.int .u64)) (i := 1) F W Aa Lo Aa Aa Aa Aa (Cz W 0 Aa) h2 Aa fun v5 a w F W => ?_
   have W : Stw ⟨Y, [], w0⟩ [] [row v5 59 (Rp.int .u64) x5, row v4 59 (Rp.int .u64) ([(CJ x4)] : List Int)] w := W
   refine ls F W Aa (Ad F Aa).q fun a w F W => ?_
   refine Ae (AK (Ac (Ab ?_)))
   refine ls F W Aa (Bw F Aa Aa Aa).q fun a w F W => ?_
   refine ls F W Aa (Af F Aa).q fun a w F W => ?_
   refine Ae (Ac ?_)
   have W := W.sub (M' := []) (Z' := [row v5 59 (Rp.int .u64) x5]) (List.Sublist.refl _) (List.Sublist.cons_cons _ (List.nil_sublist _))
   exact ⟨_, H, (v5), F.re ⟨rfl, Aa, Aa, Aa, Aa, trivial⟩, W⟩
  have H := AO (Be hb) H
  rw [hb] at F
  clear hb
  refine A9 ?_
  iterate 2 refine Bl ?_
  refine A7 (Ac ?_)
  have H := L2 _ H
  exact ⟨_, (v3), H, F.re ⟨rfl, Aa, trivial⟩, W⟩
 rintro a w ⟨x1, v2, hj, F, W⟩
 have hj := AP hj
 subst hj
 have H := K1
 clear G1 K1
 refine Ah (Ab ?_)
 refine ls F W Aa (Af F Aa).q fun a w F W => ?_
 refine ls F W Aa (Ad F Aa).q fun a w F W => ?_
 refine Ae (Ac (Ax ?_))
 have H := AP H
 subst H
 refine AQ (.inl Aa) F W Aa (Au F Aa) ?_
 exact ⟨(v2), Aa, W⟩
theorem To : Has Try.prog 11 := ⟨fun args w => Aj Try.func11 rfl (by decide) args w⟩
noncomputable def Eu (p0 : Int × (List (Int × Int × Int × Int × Int × Int)) × (List (Int × Int))) (p1 : Int) (p2 : Int) : (Int × Int) → Option ((Int × Int) ⊕ Int)
  | (x2, x3) => (if x3 < (p0.2.1.length : Int) then ((ix p0.2.1 x3).bind fun x5 => (if (decide (x5.1 = p1) && decide (x5.2.1 = p2)) = true then some (BI (x2 + 1)) else some x2).bind fun x6 => (if (decide (x5.2.2.1 = p1) && decide (x5.2.2.2.1 = p2)) = true then some (BI (x6 + 1)) else some x6)).bind fun x4 => some (.inl (x4, BI (x3 + 1))) else some (.inr x2))
noncomputable def En (p0 : Int × (List (Int × Int × Int × Int × Int × Int)) × (List (Int × Int))) (p1 : Int) (p2 : Int) : (Int × Int) → Option ((Int × Int) ⊕ Int)
  | (x8, x9) => (if x9 < (p0.2.2.length : Int) then (((ix p0.2.2 x9).bind fun x12 => (if x12.1 = p1 then (ix p0.2.2 x9).bind fun x13 => some (decide (x13.2 = p2)) else some false)).bind fun x11 => (if x11 = true then some (BI (x8 + 1)) else some x8)).bind fun x10 => some (.inl (x10, BI (x9 + 1))) else some (.inr x8))
noncomputable def Fy (p0 : Int × (List (Int × Int × Int × Int × Int × Int)) × (List (Int × Int))) (p1 : Int) (p2 : Int) : Option Bool := (AH (Eu p0 p1 p2) (0, 0)).bind fun x1 => (AH (En p0 p1 p2) (x1, 0)).bind fun x7 => some (decide (0 ≤ p1) && (decide (p1 < p0.1) && (decide (0 ≤ p2) && (decide (p2 ≤ 7) && decide (x7 = 1)))))
theorem HS (Y : Nat → Prop) (w0 : World) (v1 : Value) (v2 : Value) (p0 : Int × (List (Int × Int × Int × Int × Int × Int)) × (List (Int × Int))) (p1 : Int) (p2 : Int) (r : Bool) (H : Fy p0 p1 p2 = some r) (h_v1 : Sl w0 (NX []) Ff v1 p0.2.1) (h_v2 : Sl w0 (NX []) Fa v2 p0.2.2) :
    Calls Try.prog 60 #[.agg #[.int .i64 p0.1, v1, v2], .int .i64 p1, .int .i64 p2] w0 fun e w' => e = .returned (.bool r) ∧ Below w0.heap.size w0 w' := by
 refine enter Try.func60 Aa Try.ntmps60 Aa fun a F => ?_
 have W := Stw.start Y w0
 unfold Fy at H
 refine Ah (Ab ?_)
 refine DO (cs := [.int .i64 p0.1, v1, v2]) F W Aa Aa Aa fun b1 a w F W => ?_
 refine ls F W Aa (Ad F Aa).q fun a w F W => ?_
 refine Ae (Ac (Ah (Ab ?_)))
 refine ls F W Aa (Ad F Aa).q fun a w F W => ?_
 refine Ae (Ac ?_)
 obtain ⟨o1, G1, K1⟩ := Al H
 refine AE (fun a w => ∃ x1 : Int, some (x1) = some o1 ∧ Fr 94 [] [(1, .int .i64 p1), (2, .int .i64 p2), (3, .pointer (some ⟨b1, 0, none⟩)), (6, .bool false), (7, .int .i64 x1)] a ∧ Stw ⟨Y, [], w0⟩ [(b1, [.int .i64 p0.1, v1, v2])] [] w) ?_ ?_
 ·
  have H := G1
  clear G1 K1
  refine Ah (Ab ?_)
  refine ls F W Aa (Ad F Aa).q fun a w F W => ?_
  refine Ae (Ac (Aq ?_))
  refine A4 H (fun s a w => Fr 94 [] [(1, .int .i64 p1), (2, .int .i64 p2), (3, .pointer (some ⟨b1, 0, none⟩)), (6, .bool false), (7, .int .i64 s.1), (8, .int .i64 s.2)] a ∧ Stw ⟨Y, [], w0⟩ [(b1, [.int .i64 p0.1, v1, v2])] [] w) ⟨F.re ⟨rfl, Aa, Aa, Aa, Aa, Aa, trivial⟩, W⟩ fun s o a w H L2 hR => ?_
  obtain ⟨x2, x3⟩ := s
  obtain ⟨F, W⟩ := hR
  have F : Fr 94 [] [(1, .int .i64 p1), (2, .int .i64 p2), (3, .pointer (some ⟨b1, 0, none⟩)), (6, .bool false), (7, .int .i64 x2), (8, .int .i64 x3)] a := F
  have W : Stw ⟨Y, [], w0⟩ [(b1, [.int .i64 p0.1, v1, v2])] [] w := W
  rw [Eu] at H
  refine Ah (Ah (Ab ?_))
  refine ls F W Aa (Af F Aa).q fun a w F W => ?_
  refine ls F W Aa (Ai Cw Aa Aa Aa IC F Aa 1 Aa).q fun a w F W => ?_
  refine ls F W Aa (Ap (v := v1) 0 F Aa Aa IC Aa).q fun a w F W => ?_
  refine ls F W Aa (Bm (r := Ff) (l := p0.2.1) Jj Aa F Aa (Ak h_v1)).q fun a w F W => ?_
  refine ls F W Aa (Bb F Aa Aa).q fun a w F W => ?_
  refine Ae (Ac ?_)
  refine Av F Aa (fun hb => ?_) fun hb => ?_
  ·
   have H := AN (Bd hb) H
   rw [hb] at F
   clear hb
   refine Ao (Ac ?_)
   obtain ⟨o3, G3, K3⟩ := Al H
   refine AE (fun a w => ∃ x4 : Int, some (x4) = some o3 ∧ Fr 94 [] [(1, .int .i64 p1), (2, .int .i64 p2), (3, .pointer (some ⟨b1, 0, none⟩)), (6, .bool false), (7, .int .i64 x4), (8, .int .i64 x3)] a ∧ Stw ⟨Y, [], w0⟩ [(b1, [.int .i64 p0.1, v1, v2])] [] w) ?_ ?_
   ·
    have H := G3
    clear G3 K3
    refine Aq (Ah (Ab ?_))
    refine ls F W Aa (Ai Cw Aa Aa Aa IC F Aa 1 Aa).q fun a w F W => ?_
    refine ls F W Aa (Ap (v := v1) 0 F Aa Aa IC Aa).q fun a w F W => ?_
    refine ls F W Aa (Af F Aa).q fun a w F W => ?_
    obtain ⟨x5, h1, H⟩ := Al H
    refine ls F W Aa (AC (r := Ff) QE F Aa Aa (Ak h_v1) h1).q fun a w F W => ?_
    refine ls F W Aa (As (y := Value.agg #[.int .i64 x5.1, .int .i64 x5.2.1, .int .i64 x5.2.2.1, .int .i64 x5.2.2.2.1, .int .i64 x5.2.2.2.2.1, .int .i64 x5.2.2.2.2.2]) (j := 0) (i := x3) F Aa Aa (Ak h_v1) h1 QP.to PN Aa).q fun a w F W => ?_
    refine C6 (cs := [.int .i64 0, .int .i64 0, .int .i64 0, .int .i64 0, .int .i64 0, .int .i64 0]) F W Aa Rb Aa fun b2 a w F W => ?_
    refine D6 (vs := [.int .i64 x5.1, .int .i64 x5.2.1, .int .i64 x5.2.2.1, .int .i64 x5.2.2.2.1, .int .i64 x5.2.2.2.2.1, .int .i64 x5.2.2.2.2.2]) (M' := [(b2, [.int .i64 x5.1, .int .i64 x5.2.1, .int .i64 x5.2.2.1, .int .i64 x5.2.2.2.1, .int .i64 x5.2.2.2.2.1, .int .i64 x5.2.2.2.2.2]), (b1, [.int .i64 p0.1, v1, v2])]) 0 F W Aa Aa Aa PN Aa Aa Aa Aa Aa fun w W => ?_
    refine Ae (Ac ?_)
    obtain ⟨o4, G4, K4⟩ := Al H
    refine AE (fun a w => ∃ x6 : Int, some (x6) = some o4 ∧ Fr 94 [] [(1, .int .i64 p1), (2, .int .i64 p2), (3, .pointer (some ⟨b1, 0, none⟩)), (6, .bool false), (7, .int .i64 x6), (8, .int .i64 x3), (9, .pointer (some ⟨b2, 0, none⟩))] a ∧ Stw ⟨Y, [], w0⟩ [(b2, [.int .i64 x5.1, .int .i64 x5.2.1, .int .i64 x5.2.2.1, .int .i64 x5.2.2.2.1, .int .i64 x5.2.2.2.2.1, .int .i64 x5.2.2.2.2.2]), (b1, [.int .i64 p0.1, v1, v2])] [] w) ?_ ?_
    ·
     have H := G4
     clear G4 K4
     refine AE (fun a w => Fr 94 [] [(1, .int .i64 p1), (2, .int .i64 p2), (3, .pointer (some ⟨b1, 0, none⟩)), (6, .bool false), (7, .int .i64 x2), (8, .int .i64 x3), (9, .pointer (some ⟨b2, 0, none⟩)), (32, .bool (decide (x5.1 = p1) && decide (x5.2.1 = p2)))] a ∧ Stw ⟨Y, [], w0⟩ [(b2, [.int .i64 x5.1, .int .i64 x5.2.1, .int .i64 x5.2.2.1, .int .i64 x5.2.2.2.1, .int .i64 x5.2.2.2.2.1, .int .i64 x5.2.2.2.2.2]), (b1, [.int .i64 p0.1, v1, v2])] [] w) ?_ ?_
     ·
      refine Ab ?_
      refine ls F W Aa (Ai Dh Aa Aa Aa T3 F Aa 0 Aa).q fun a w F W => ?_
      refine ls F W Aa (Ap (v := Value.int .i64 x5.1) 0 F Aa Aa T3 Aa).q fun a w F W => ?_
      refine ls F W Aa (Af F Aa).q fun a w F W => ?_
      refine ls F W Aa (Cf F Aa Aa).q fun a w F W => ?_
      refine ls F W Aa (Af F Aa).q fun a w F W => ?_
      rcases Bool.eq_false_or_eq_true (decide (x5.1 = p1)) with hb0 | hb0
      ·
       rw [hb0] at F
       refine AG F W (Ag F Aa Aa Aa Aa) Aa (Am Aa) (Ai Dh Aa Aa Aa T3 F Aa 1 Aa).q fun a w F W => ?_
       refine AG F W (Ag F Aa Aa Aa Aa) Aa (Am Aa) (Ap (v := Value.int .i64 x5.2.1) 0 F Aa Aa T3 Aa).q fun a w F W => ?_
       refine AG F W (Ag F Aa Aa Aa Aa) Aa (Am Aa) (Af F Aa).q fun a w F W => ?_
       refine AG F W (Ag F Aa Aa Aa Aa) Aa (Am Aa) (Cf F Aa Aa).q fun a w F W => ?_
       refine ls F W Aa (Aw F Aa Aa Aa).q fun a w F W => ?_
       refine Ae (Ac ?_)
       exact ⟨F.re ⟨rfl, Aa, Aa, Aa, Aa, Aa, Aa, (by show some (Value.bool (decide (x5.2.1 = p2))) = some (Value.bool (decide (x5.1 = p1) && decide (x5.2.1 = p2))); try rw [hb0]; all_goals simp only [Bool.not_true, Bool.not_false, Bool.true_and, Bool.false_and, Bool.true_or, Bool.false_or, Bool.and_true, Bool.or_false, cond_true, cond_false]), trivial⟩, W⟩
      rw [hb0] at F
      iterate 4 refine CL F Aa Aa Aa Aa Aa Aa Aa fun a F => ?_
      refine ls F W Aa (Ay F Aa Aa Aa).q fun a w F W => ?_
      refine Ae (Ac ?_)
      exact ⟨F.re ⟨rfl, Aa, Aa, Aa, Aa, Aa, Aa, (by show some (Value.bool false) = some (Value.bool (decide (x5.1 = p1) && decide (x5.2.1 = p2))); try rw [hb0]; all_goals simp only [Bool.not_true, Bool.not_false, Bool.true_and, Bool.false_and, Bool.true_or, Bool.false_or, Bool.and_true, Bool.or_false, cond_true, cond_false]), trivial⟩, W⟩
     rintro a w ⟨F, W⟩
     refine Av F Aa (fun hb => ?_) fun hb => ?_
     ·
      have H := AN hb H
      rw [hb] at F
      clear hb
      refine Ab ?_
      refine ls F W Aa (Af F Aa).q fun a w F W => ?_
      refine ls F W Aa (Bw F Aa Aa Aa).q fun a w F W => ?_
      refine ls F W Aa (Ad F Aa).q fun a w F W => ?_
      refine Ae (Ac ?_)
      have W := W.frontM (i := 1) Aa Aa
      have W := W.frontM (i := 1) Aa Aa
      exact ⟨_, H, F.re ⟨rfl, Aa, Aa, Aa, Aa, Aa, Aa, trivial⟩, W⟩
     have H := AO (by rw [hb]; decide) H
     rw [hb] at F
     clear hb
     refine Ao (Ac ?_)
     have W := W.frontM (i := 1) Aa Aa
     have W := W.frontM (i := 1) Aa Aa
     exact ⟨_, H, F.re ⟨rfl, Aa, Aa, Aa, Aa, Aa, Aa, trivial⟩, W⟩
    rintro a w ⟨x6, hj, F, W⟩
    have hj := AP hj
    subst hj
    have H := K4
    clear G4 K4
    refine AE (fun a w => Fr 94 [] [(1, .int .i64 p1), (2, .int .i64 p2), (3, .pointer (some ⟨b1, 0, none⟩)), (6, .bool false), (7, .int .i64 x6), (8, .int .i64 x3), (44, .bool (decide (x5.2.2.1 = p1) && decide (x5.2.2.2.1 = p2)))] a ∧ Stw ⟨Y, [], w0⟩ [(b2, [.int .i64 x5.1, .int .i64 x5.2.1, .int .i64 x5.2.2.1, .int .i64 x5.2.2.2.1, .int .i64 x5.2.2.2.2.1, .int .i64 x5.2.2.2.2.2]), (b1, [.int .i64 p0.1, v1, v2])] [] w) ?_ ?_
    ·
     refine Ab ?_
     refine ls F W Aa (Ai Dh Aa Aa Aa T3 F Aa 2 Aa).q fun a w F W => ?_
     refine ls F W Aa (Ap (v := Value.int .i64 x5.2.2.1) 0 F Aa Aa T3 Aa).q fun a w F W => ?_
     refine ls F W Aa (Af F Aa).q fun a w F W => ?_
     refine ls F W Aa (Cf F Aa Aa).q fun a w F W => ?_
     refine ls F W Aa (Af F Aa).q fun a w F W => ?_
     rcases Bool.eq_false_or_eq_true (decide (x5.2.2.1 = p1)) with hb0 | hb0
     ·
      rw [hb0] at F
      refine AG F W (Ag F Aa Aa Aa Aa) Aa (Am Aa) (Ai Dh Aa Aa Aa T3 F Aa 3 Aa).q fun a w F W => ?_
      refine AG F W (Ag F Aa Aa Aa Aa) Aa (Am Aa) (Ap (v := Value.int .i64 x5.2.2.2.1) 0 F Aa Aa T3 Aa).q fun a w F W => ?_
      refine AG F W (Ag F Aa Aa Aa Aa) Aa (Am Aa) (Af F Aa).q fun a w F W => ?_
      refine AG F W (Ag F Aa Aa Aa Aa) Aa (Am Aa) (Cf F Aa Aa).q fun a w F W => ?_
      refine ls F W Aa (Aw F Aa Aa Aa).q fun a w F W => ?_
      refine Ae (Ac ?_)
      exact ⟨F.re ⟨rfl, Aa, Aa, Aa, Aa, Aa, (by show some (Value.bool (decide (x5.2.2.2.1 = p2))) = some (Value.bool (decide (x5.2.2.1 = p1) && decide (x5.2.2.2.1 = p2))); try rw [hb0]; all_goals simp only [Bool.not_true, Bool.not_false, Bool.true_and, Bool.false_and, Bool.true_or, Bool.false_or, Bool.and_true, Bool.or_false, cond_true, cond_false]), trivial⟩, W⟩
     rw [hb0] at F
     iterate 4 refine CL F Aa Aa Aa Aa Aa Aa Aa fun a F => ?_
     refine ls F W Aa (Ay F Aa Aa Aa).q fun a w F W => ?_
     refine Ae (Ac ?_)
     exact ⟨F.re ⟨rfl, Aa, Aa, Aa, Aa, Aa, (by show some (Value.bool false) = some (Value.bool (decide (x5.2.2.1 = p1) && decide (x5.2.2.2.1 = p2))); try rw [hb0]; all_goals simp only [Bool.not_true, Bool.not_false, Bool.true_and, Bool.false_and, Bool.true_or, Bool.false_or, Bool.and_true, Bool.or_false, cond_true, cond_false]), trivial⟩, W⟩
    rintro a w ⟨F, W⟩
    refine Av F Aa (fun hb => ?_) fun hb => ?_
    ·
     have H := AN hb H
     rw [hb] at F
     clear hb
     refine Ab ?_
     refine ls F W Aa (Af F Aa).q fun a w F W => ?_
     refine ls F W Aa (Bw F Aa Aa Aa).q fun a w F W => ?_
     refine ls F W Aa (Ad F Aa).q fun a w F W => ?_
     refine Ae (AK (Ac ?_))
     have W := W.frontM (i := 1) Aa Aa
     have W := W.sub (M' := [(b1, [.int .i64 p0.1, v1, v2])]) (Z' := []) (List.Sublist.cons_cons _ (List.nil_sublist _)) (List.Sublist.refl _)
     exact ⟨_, H, F.re ⟨rfl, Aa, Aa, Aa, Aa, Aa, trivial⟩, W⟩
    have H := AO (by rw [hb]; decide) H
    rw [hb] at F
    clear hb
    refine Ao (AK (Ac ?_))
    have W := W.frontM (i := 1) Aa Aa
    have W := W.sub (M' := [(b1, [.int .i64 p0.1, v1, v2])]) (Z' := []) (List.Sublist.cons_cons _ (List.nil_sublist _)) (List.Sublist.refl _)
    exact ⟨_, H, F.re ⟨rfl, Aa, Aa, Aa, Aa, Aa, trivial⟩, W⟩
   rintro a w ⟨x4, hj, F, W⟩
   have hj := AP hj
   subst hj
   have H := K3
   clear G3 K3
   refine Ab ?_
   refine ls F W Aa (Af F Aa).q fun a w F W => ?_
   refine ls F W Aa (Bw F Aa Aa Aa).q fun a w F W => ?_
   refine ls F W Aa (Ad F Aa).q fun a w F W => ?_
   refine Ae (Ac ?_)
   exact ⟨_, H, F.re ⟨rfl, Aa, Aa, Aa, Aa, Aa, trivial⟩, W⟩
  have H := AO (Be hb) H
  rw [hb] at F
  clear hb
  refine A9 ?_
  iterate 2 refine Bl ?_
  refine A7 (Ac ?_)
  have H := L2 _ H
  exact ⟨_, H, F.re ⟨rfl, Aa, Aa, Aa, Aa, trivial⟩, W⟩
 rintro a w ⟨x1, hj, F, W⟩
 have hj := AP hj
 subst hj
 have H := K1
 clear G1 K1
 obtain ⟨o5, G5, K5⟩ := Al H
 refine AE (fun a w => ∃ x7 : Int, some (x7) = some o5 ∧ Fr 94 [] [(1, .int .i64 p1), (2, .int .i64 p2), (3, .pointer (some ⟨b1, 0, none⟩)), (6, .bool false), (7, .int .i64 x7)] a ∧ Stw ⟨Y, [], w0⟩ [(b1, [.int .i64 p0.1, v1, v2])] [] w) ?_ ?_
 ·
  have H := G5
  clear G5 K5
  refine Ah (Ab ?_)
  refine ls F W Aa (Ad F Aa).q fun a w F W => ?_
  refine Ae (Ac (Aq ?_))
  refine A4 H (fun s a w => Fr 94 [] [(1, .int .i64 p1), (2, .int .i64 p2), (3, .pointer (some ⟨b1, 0, none⟩)), (6, .bool false), (7, .int .i64 s.1), (10, .int .i64 s.2)] a ∧ Stw ⟨Y, [], w0⟩ [(b1, [.int .i64 p0.1, v1, v2])] [] w) ⟨F.re ⟨rfl, Aa, Aa, Aa, Aa, Aa, trivial⟩, W⟩ fun s o a w H L6 hR => ?_
  obtain ⟨x8, x9⟩ := s
  obtain ⟨F, W⟩ := hR
  have F : Fr 94 [] [(1, .int .i64 p1), (2, .int .i64 p2), (3, .pointer (some ⟨b1, 0, none⟩)), (6, .bool false), (7, .int .i64 x8), (10, .int .i64 x9)] a := F
  have W : Stw ⟨Y, [], w0⟩ [(b1, [.int .i64 p0.1, v1, v2])] [] w := W
  rw [En] at H
  refine Ah (Ah (Ab ?_))
  refine ls F W Aa (Af F Aa).q fun a w F W => ?_
  refine ls F W Aa (Ai Cw Aa Aa Aa GF F Aa 2 Aa).q fun a w F W => ?_
  refine ls F W Aa (Ap (v := v2) 0 F Aa Aa GF Aa).q fun a w F W => ?_
  refine ls F W Aa (Bm (r := Fa) (l := p0.2.2) JU Aa F Aa (Ak h_v2)).q fun a w F W => ?_
  refine ls F W Aa (Bb F Aa Aa).q fun a w F W => ?_
  refine Ae (Ac ?_)
  refine Av F Aa (fun hb => ?_) fun hb => ?_
  ·
   have H := AN (Bd hb) H
   rw [hb] at F
   clear hb
   refine Ao (Ac ?_)
   obtain ⟨o7, G7, K7⟩ := Al H
   refine AE (fun a w => ∃ x10 : Int, some (x10) = some o7 ∧ Fr 94 [] [(1, .int .i64 p1), (2, .int .i64 p2), (3, .pointer (some ⟨b1, 0, none⟩)), (6, .bool false), (7, .int .i64 x10), (10, .int .i64 x9)] a ∧ Stw ⟨Y, [], w0⟩ [(b1, [.int .i64 p0.1, v1, v2])] [] w) ?_ ?_
   ·
    have H := G7
    clear G7 K7
    refine Aq ?_
    obtain ⟨o8, G8, K8⟩ := Al H
    refine AE (fun a w => ∃ x11 : Bool, some (x11) = some o8 ∧ Fr 94 [] [(1, .int .i64 p1), (2, .int .i64 p2), (3, .pointer (some ⟨b1, 0, none⟩)), (6, .bool false), (7, .int .i64 x8), (10, .int .i64 x9), (71, .bool x11)] a ∧ Stw ⟨Y, [], w0⟩ [(b1, [.int .i64 p0.1, v1, v2])] [] w) ?_ ?_
    ·
     have H := G8
     clear G8 K8
     refine Ab ?_
     refine ls F W Aa (Ai Cw Aa Aa Aa GF F Aa 2 Aa).q fun a w F W => ?_
     refine ls F W Aa (Ap (v := v2) 0 F Aa Aa GF Aa).q fun a w F W => ?_
     refine ls F W Aa (Af F Aa).q fun a w F W => ?_
     obtain ⟨x12, h2, H⟩ := Al H
     refine ls F W Aa (AC (r := Fa) PU F Aa Aa (Ak h_v2) h2).q fun a w F W => ?_
     refine ls F W Aa (Ai JP Aa Aa Aa T3 F Aa (Ew v2 + (x9).toNat * 2) Aa).q fun a w F W => ?_
     refine ls F W Aa (As (y := Value.int .i64 x12.1) (j := 0) (i := x9) F Aa Aa (Ak h_v2) h2 PW.to T3 Aa).q fun a w F W => ?_
     refine ls F W Aa (Af F Aa).q fun a w F W => ?_
     refine ls F W Aa (Cf F Aa Aa).q fun a w F W => ?_
     refine ls F W Aa (Af F Aa).q fun a w F W => ?_
     rcases Bool.eq_false_or_eq_true (decide (x12.1 = p1)) with hb | hb
     ·
      have H := AN (Bd hb) H
      rw [hb] at F
      clear hb
      refine AG F W (Ag F Aa Aa Aa Aa) Aa (Am Aa) (Ai Cw Aa Aa Aa GF F Aa 2 Aa).q fun a w F W => ?_
      refine AG F W (Ag F Aa Aa Aa Aa) Aa (Am Aa) (Ap (v := v2) 0 F Aa Aa GF Aa).q fun a w F W => ?_
      refine AG F W (Ag F Aa Aa Aa Aa) Aa (Am Aa) (Af F Aa).q fun a w F W => ?_
      obtain ⟨x13, h3, H⟩ := Al H
      refine AG F W (Ag F Aa Aa Aa Aa) Aa (Am Aa) (AC (r := Fa) PU F Aa Aa (Ak h_v2) h3).q fun a w F W => ?_
      refine AG F W (Ag F Aa Aa Aa Aa) Aa (Am Aa) (Ai JP Aa Aa Aa T3 F Aa (Ew v2 + (x9).toNat * 2 + 1) Aa).q fun a w F W => ?_
      refine AG F W (Ag F Aa Aa Aa Aa) Aa (Am Aa) (As (y := Value.int .i64 x13.2) (j := 1) (i := x9) F Aa Aa (Ak h_v2) h3 PW.to T3 Aa).q fun a w F W => ?_
      refine AG F W (Ag F Aa Aa Aa Aa) Aa (Am Aa) (Af F Aa).q fun a w F W => ?_
      refine AG F W (Ag F Aa Aa Aa Aa) Aa (Am Aa) (Cf F Aa Aa).q fun a w F W => ?_
      refine ls F W Aa (Aw F Aa Aa Aa).q fun a w F W => ?_
      refine Ae (Ac ?_)
      exact ⟨_, H, F.re ⟨rfl, Aa, Aa, Aa, Aa, Aa, Aa, trivial⟩, W⟩
     have H := AO (Be hb) H
     rw [hb] at F
     clear hb
     iterate 8 refine CL F Aa Aa Aa Aa Aa Aa Aa fun a F => ?_
     refine ls F W Aa (Ay F Aa Aa Aa).q fun a w F W => ?_
     refine Ae (Ac ?_)
     exact ⟨_, H, F.re ⟨rfl, Aa, Aa, Aa, Aa, Aa, Aa, trivial⟩, W⟩
    rintro a w ⟨x11, hj, F, W⟩
    have hj := AP hj
    subst hj
    have H := K8
    clear G8 K8
    refine Av F Aa (fun hb => ?_) fun hb => ?_
    ·
     have H := AN hb H
     rw [hb] at F
     clear hb
     refine Ab ?_
     refine ls F W Aa (Af F Aa).q fun a w F W => ?_
     refine ls F W Aa (Bw F Aa Aa Aa).q fun a w F W => ?_
     refine ls F W Aa (Ad F Aa).q fun a w F W => ?_
     refine Ae (AK (Ac ?_))
     exact ⟨_, H, F.re ⟨rfl, Aa, Aa, Aa, Aa, Aa, trivial⟩, W⟩
    have H := AO (by rw [hb]; decide) H
    rw [hb] at F
    clear hb
    refine Ao (AK (Ac ?_))
    exact ⟨_, H, F.re ⟨rfl, Aa, Aa, Aa, Aa, Aa, trivial⟩, W⟩
   rintro a w ⟨x10, hj, F, W⟩
   have hj := AP hj
   subst hj
   have H := K7
   clear G7 K7
   refine Ab ?_
   refine ls F W Aa (Af F Aa).q fun a w F W => ?_
   refine ls F W Aa (Bw F Aa Aa Aa).q fun a w F W => ?_
   refine ls F W Aa (Ad F Aa).q fun a w F W => ?_
   refine Ae (Ac ?_)
   exact ⟨_, H, F.re ⟨rfl, Aa, Aa, Aa, Aa, Aa, trivial⟩, W⟩
  have H := AO (Be hb) H
  rw [hb] at F
  clear hb
  refine A9 ?_
  iterate 2 refine Bl ?_
  refine A7 (Ac ?_)
  have H := L6 _ H
  exact ⟨_, H, F.re ⟨rfl, Aa, Aa, Aa, Aa, trivial⟩, W⟩
 rintro a w ⟨x7, hj, F, W⟩
 have hj := AP hj
 subst hj
 have H := K5
 clear G5 K5
 refine AE (fun a w => Fr 94 [] [(6, .bool (decide (0 ≤ p1) && (decide (p1 < p0.1) && (decide (0 ≤ p2) && (decide (p2 ≤ 7) && decide (x7 = 1))))))] a ∧ Stw ⟨Y, [], w0⟩ [(b1, [.int .i64 p0.1, v1, v2])] [] w) ?_ ?_
 ·
  refine Ab ?_
  refine ls F W Aa (Af F Aa).q fun a w F W => ?_
  refine ls F W Aa (Fk F Aa Aa).q fun a w F W => ?_
  refine ls F W Aa (Af F Aa).q fun a w F W => ?_
  rcases Bool.eq_false_or_eq_true (decide (0 ≤ p1)) with hb0 | hb0
  ·
   rw [hb0] at F
   refine AG F W (Ag F Aa Aa Aa Aa) Aa (Am Aa) (Af F Aa).q fun a w F W => ?_
   refine AG F W (Ag F Aa Aa Aa Aa) Aa (Am Aa) (Ai Cw Aa Aa Aa T3 F Aa 0 Aa).q fun a w F W => ?_
   refine AG F W (Ag F Aa Aa Aa Aa) Aa (Am Aa) (Ap (v := Value.int .i64 p0.1) 0 F Aa Aa T3 Aa).q fun a w F W => ?_
   refine AG F W (Ag F Aa Aa Aa Aa) Aa (Am Aa) (Bb F Aa Aa).q fun a w F W => ?_
   refine ls F W Aa (Aw F Aa Aa Aa).q fun a w F W => ?_
   refine ls F W Aa (Af F Aa).q fun a w F W => ?_
   rcases Bool.eq_false_or_eq_true (decide (p1 < p0.1)) with hb1 | hb1
   ·
    rw [hb1] at F
    refine AG F W (Ag F Aa Aa Aa Aa) Aa (Am Aa) (Af F Aa).q fun a w F W => ?_
    refine AG F W (Ag F Aa Aa Aa Aa) Aa (Am Aa) (Fk F Aa Aa).q fun a w F W => ?_
    refine ls F W Aa (Aw F Aa Aa Aa).q fun a w F W => ?_
    refine ls F W Aa (Af F Aa).q fun a w F W => ?_
    rcases Bool.eq_false_or_eq_true (decide (0 ≤ p2)) with hb2 | hb2
    ·
     rw [hb2] at F
     refine AG F W (Ag F Aa Aa Aa Aa) Aa (Am Aa) (Af F Aa).q fun a w F W => ?_
     refine AG F W (Ag F Aa Aa Aa Aa) Aa (Am Aa) (J0 F Aa Aa).q fun a w F W => ?_
     refine ls F W Aa (Aw F Aa Aa Aa).q fun a w F W => ?_
     refine ls F W Aa (Af F Aa).q fun a w F W => ?_
     rcases Bool.eq_false_or_eq_true (decide (p2 ≤ 7)) with hb3 | hb3
     ·
      rw [hb3] at F
      refine AG F W (Ag F Aa Aa Aa Aa) Aa (Am Aa) (Af F Aa).q fun a w F W => ?_
      refine AG F W (Ag F Aa Aa Aa Aa) Aa (Am Aa) (Cf F Aa Aa).q fun a w F W => ?_
      refine ls F W Aa (Aw F Aa Aa Aa).q fun a w F W => ?_
      refine ls F W Aa (Ad F Aa).q fun a w F W => ?_
      refine Ae (Ac ?_)
      exact ⟨F.re ⟨(by show some (Value.bool (decide (x7 = 1))) = some (Value.bool (decide (0 ≤ p1) && (decide (p1 < p0.1) && (decide (0 ≤ p2) && (decide (p2 ≤ 7) && decide (x7 = 1)))))); try rw [hb1]; try rw [hb0]; try rw [hb2]; try rw [hb3]; all_goals simp only [Bool.not_true, Bool.not_false, Bool.true_and, Bool.false_and, Bool.true_or, Bool.false_or, Bool.and_true, Bool.or_false, cond_true, cond_false]), trivial⟩, W⟩
     rw [hb3] at F
     iterate 2 refine CL F Aa Aa Aa Aa Aa Aa Aa fun a F => ?_
     refine ls F W Aa (Ay F Aa Aa Aa).q fun a w F W => ?_
     refine ls F W Aa (Ad F Aa).q fun a w F W => ?_
     refine Ae (Ac ?_)
     exact ⟨F.re ⟨(by show some (Value.bool false) = some (Value.bool (decide (0 ≤ p1) && (decide (p1 < p0.1) && (decide (0 ≤ p2) && (decide (p2 ≤ 7) && decide (x7 = 1)))))); try rw [hb1]; try rw [hb0]; try rw [hb2]; try rw [hb3]; all_goals simp only [Bool.not_true, Bool.not_false, Bool.true_and, Bool.false_and, Bool.true_or, Bool.false_or, Bool.and_true, Bool.or_false, cond_true, cond_false]), trivial⟩, W⟩
    rw [hb2] at F
    iterate 2 refine CL F Aa Aa Aa Aa Aa Aa Aa fun a F => ?_
    refine ls F W Aa (Ay F Aa Aa Aa).q fun a w F W => ?_
    refine ls F W Aa (Af F Aa).q fun a w F W => ?_
    iterate 2 refine CL F Aa Aa Aa Aa Aa Aa Aa fun a F => ?_
    refine ls F W Aa (Ay F Aa Aa Aa).q fun a w F W => ?_
    refine ls F W Aa (Ad F Aa).q fun a w F W => ?_
    refine Ae (Ac ?_)
    exact ⟨F.re ⟨(by show some (Value.bool false) = some (Value.bool (decide (0 ≤ p1) && (decide (p1 < p0.1) && (decide (0 ≤ p2) && (decide (p2 ≤ 7) && decide (x7 = 1)))))); try rw [hb1]; try rw [hb0]; try rw [hb2]; all_goals simp only [Bool.not_true, Bool.not_false, Bool.true_and, Bool.false_and, Bool.true_or, Bool.false_or, Bool.and_true, Bool.or_false, cond_true, cond_false]), trivial⟩, W⟩
   rw [hb1] at F
   iterate 2 refine CL F Aa Aa Aa Aa Aa Aa Aa fun a F => ?_
   refine ls F W Aa (Ay F Aa Aa Aa).q fun a w F W => ?_
   refine ls F W Aa (Af F Aa).q fun a w F W => ?_
   iterate 2 refine CL F Aa Aa Aa Aa Aa Aa Aa fun a F => ?_
   refine ls F W Aa (Ay F Aa Aa Aa).q fun a w F W => ?_
   refine ls F W Aa (Af F Aa).q fun a w F W => ?_
   iterate 2 refine CL F Aa Aa Aa Aa Aa Aa Aa fun a F => ?_
   refine ls F W Aa (Ay F Aa Aa Aa).q fun a w F W => ?_
   refine ls F W Aa (Ad F Aa).q fun a w F W => ?_
   refine Ae (Ac ?_)
   exact ⟨F.re ⟨(by show some (Value.bool false) = some (Value.bool (decide (0 ≤ p1) && (decide (p1 < p0.1) && (decide (0 ≤ p2) && (decide (p2 ≤ 7) && decide (x7 = 1)))))); try rw [hb1]; try rw [hb0]; all_goals simp only [Bool.not_true, Bool.not_false, Bool.true_and, Bool.false_and, Bool.true_or, Bool.false_or, Bool.and_true, Bool.or_false, cond_true, cond_false]), trivial⟩, W⟩
  rw [hb0] at F
  iterate 4 refine CL F Aa Aa Aa Aa Aa Aa Aa fun a F => ?_
  refine ls F W Aa (Ay F Aa Aa Aa).q fun a w F W => ?_
  refine ls F W Aa (Af F Aa).q fun a w F W => ?_
  iterate 2 refine CL F Aa Aa Aa Aa Aa Aa Aa fun a F => ?_
  refine ls F W Aa (Ay F Aa Aa Aa).q fun a w F W => ?_
  refine ls F W Aa (Af F Aa).q fun a w F W => ?_
  iterate 2 refine CL F Aa Aa Aa Aa Aa Aa Aa fun a F => ?_
  refine ls F W Aa (Ay F Aa Aa Aa).q fun a w F W => ?_
  refine ls F W Aa (Af F Aa).q fun a w F W => ?_
  iterate 2 refine CL F Aa Aa Aa Aa Aa Aa Aa fun a F => ?_
  refine ls F W Aa (Ay F Aa Aa Aa).q fun a w F W => ?_
  refine ls F W Aa (Ad F Aa).q fun a w F W => ?_
  refine Ae (Ac ?_)
  exact ⟨F.re ⟨(by show some (Value.bool false) = some (Value.bool (decide (0 ≤ p1) && (decide (p1 < p0.1) && (decide (0 ≤ p2) && (decide (p2 ≤ 7) && decide (x7 = 1)))))); try rw [hb0]; all_goals simp only [Bool.not_true, Bool.not_false, Bool.true_and, Bool.false_and, Bool.true_or, Bool.false_or, Bool.and_true, Bool.or_false, cond_true, cond_false]), trivial⟩, W⟩
 rintro a w ⟨F, W⟩
 refine Ax ?_
 have H := AP H
 subst H
 refine AQ (.inl Aa) F W Aa (Au F Aa) ?_
 exact ⟨rfl, W.done⟩
theorem Sb : Has Try.prog 60 := ⟨fun args w => Aj Try.func60 rfl (by decide) args w⟩
noncomputable def EJ (p0 : Int × (List (Int × Int × Int × Int × Int × Int)) × (List (Int × Int))) : Int → Option (Int ⊕ (Unit ⊕ Bool))
  | x1 => (if x1 < (p0.2.1.length : Int) then (ix p0.2.1 x1).bind fun x2 => (if x2.1 = x2.2.2.1 then some true else (if x2.2.2.2.2.1 < 1 then some true else (if x2.2.2.2.2.2 < x2.2.2.2.2.1 then some true else (if 1000 < x2.2.2.2.2.2 then some true else (Fy p0 x2.1 x2.2.1).bind fun x4 => (if (!x4) = true then some true else (Fy p0 x2.2.2.1 x2.2.2.2.1).bind fun x5 => some (!x5)))))).bind fun x3 => (if x3 = true then some (.inr (.inr false)) else some (.inl (BI (x1 + 1)))) else some (.inr (.inl ())))
noncomputable def ED (p0 : Int × (List (Int × Int × Int × Int × Int × Int)) × (List (Int × Int))) : Int → Option (Int ⊕ (Unit ⊕ Bool))
  | x6 => (if x6 < (p0.2.2.length : Int) then (ix p0.2.2 x6).bind fun x7 => (ix p0.2.2 x6).bind fun x8 => (Fy p0 x7.1 x8.2).bind fun x9 => (if (!x9) = true then some (.inr (.inr false)) else some (.inl (BI (x6 + 1)))) else some (.inr (.inl ())))
noncomputable def F3 (p0 : Int × (List (Int × Int × Int × Int × Int × Int)) × (List (Int × Int))) : Option Bool := (if (decide (p0.1 < 1) || (decide (8 < p0.1) || (decide (24 < (p0.2.1.length : Int)) || decide (8 < (p0.2.2.length : Int))))) = true then some false else HK (AH (EJ p0) 0) fun _ => HK (AH (ED p0) 0) fun _ => some true)
theorem Mx (Y : Nat → Prop) (w0 : World) (v1 : Value) (v2 : Value) (p0 : Int × (List (Int × Int × Int × Int × Int × Int)) × (List (Int × Int))) (r : Bool) (H : F3 p0 = some r) (h_v1 : Sl w0 (NX []) Ff v1 p0.2.1) (h_v2 : Sl w0 (NX []) Fa v2 p0.2.2) :
    Calls Try.prog 41 #[.agg #[.int .i64 p0.1, v1, v2]] w0 fun e w' => e = .returned (.bool r) ∧ Below w0.heap.size w0 w' := by
 refine enter Try.func41 Aa Try.ntmps41 Aa fun a F => ?_
 have W := Stw.start Y w0
 unfold F3 at H
 refine Ah (Ab ?_)
 refine DO (cs := [.int .i64 p0.1, v1, v2]) F W Aa Aa Aa fun b1 a w F W => ?_
 refine ls F W Aa (Ad F Aa).q fun a w F W => ?_
 refine Ae (Ac (Ah ?_))
 refine AE (fun a w => Fr 100 [] [(1, .pointer (some ⟨b1, 0, none⟩)), (2, .bool false), (25, .bool (decide (p0.1 < 1) || (decide (8 < p0.1) || (decide (24 < (p0.2.1.length : Int)) || decide (8 < (p0.2.2.length : Int))))))] a ∧ Stw ⟨Y, [], w0⟩ [(b1, [.int .i64 p0.1, v1, v2])] [] w) ?_ ?_
 ·
  refine Ab ?_
  refine ls F W Aa (Ai Cw Aa Aa Aa T3 F Aa 0 Aa).q fun a w F W => ?_
  refine ls F W Aa (Ap (v := Value.int .i64 p0.1) 0 F Aa Aa T3 Aa).q fun a w F W => ?_
  refine ls F W Aa (Bb F Aa Aa).q fun a w F W => ?_
  refine ls F W Aa (Af F Aa).q fun a w F W => ?_
  rcases Bool.eq_false_or_eq_true (decide (p0.1 < 1)) with hb0 | hb0
  ·
   rw [hb0] at F
   iterate 3 refine CL F Aa Aa Aa Aa Aa Aa Aa fun a F => ?_
   refine ls F W Aa (Aw F Aa Aa Aa).q fun a w F W => ?_
   refine ls F W Aa (Af F Aa).q fun a w F W => ?_
   iterate 4 refine CL F Aa Aa Aa Aa Aa Aa Aa fun a F => ?_
   refine ls F W Aa (Aw F Aa Aa Aa).q fun a w F W => ?_
   refine ls F W Aa (Af F Aa).q fun a w F W => ?_
   iterate 4 refine CL F Aa Aa Aa Aa Aa Aa Aa fun a F => ?_
   refine ls F W Aa (Aw F Aa Aa Aa).q fun a w F W => ?_
   refine Ae (Ac ?_)
   exact ⟨F.re ⟨rfl, Aa, (by show some (Value.bool true) = some (Value.bool (decide (p0.1 < 1) || (decide (8 < p0.1) || (decide (24 < (p0.2.1.length : Int)) || decide (8 < (p0.2.2.length : Int)))))); try rw [hb0]; all_goals simp only [Bool.not_true, Bool.not_false, Bool.true_and, Bool.false_and, Bool.true_or, Bool.false_or, Bool.and_true, Bool.or_false, cond_true, cond_false]), trivial⟩, W⟩
  rw [hb0] at F
  refine AG F W (Ag F Aa Aa Aa Aa) Aa (Am Aa) (Ai Cw Aa Aa Aa T3 F Aa 0 Aa).q fun a w F W => ?_
  refine AG F W (Ag F Aa Aa Aa Aa) Aa (Am Aa) (Ap (v := Value.int .i64 p0.1) 0 F Aa Aa T3 Aa).q fun a w F W => ?_
  refine AG F W (Ag F Aa Aa Aa Aa) Aa (Am Aa) (DL F Aa Aa).q fun a w F W => ?_
  refine ls F W Aa (Ay F Aa Aa Aa).q fun a w F W => ?_
  refine ls F W Aa (Af F Aa).q fun a w F W => ?_
  rcases Bool.eq_false_or_eq_true (decide (8 < p0.1)) with hb1 | hb1
  ·
   rw [hb1] at F
   iterate 4 refine CL F Aa Aa Aa Aa Aa Aa Aa fun a F => ?_
   refine ls F W Aa (Aw F Aa Aa Aa).q fun a w F W => ?_
   refine ls F W Aa (Af F Aa).q fun a w F W => ?_
   iterate 4 refine CL F Aa Aa Aa Aa Aa Aa Aa fun a F => ?_
   refine ls F W Aa (Aw F Aa Aa Aa).q fun a w F W => ?_
   refine Ae (Ac ?_)
   exact ⟨F.re ⟨rfl, Aa, (by show some (Value.bool true) = some (Value.bool (decide (p0.1 < 1) || (decide (8 < p0.1) || (decide (24 < (p0.2.1.length : Int)) || decide (8 < (p0.2.2.length : Int)))))); try rw [hb0]; try rw [hb1]; all_goals simp only [Bool.not_true, Bool.not_false, Bool.true_and, Bool.false_and, Bool.true_or, Bool.false_or, Bool.and_true, Bool.or_false, cond_true, cond_false]), trivial⟩, W⟩
  rw [hb1] at F
  refine AG F W (Ag F Aa Aa Aa Aa) Aa (Am Aa) (Ai Cw Aa Aa Aa IC F Aa 1 Aa).q fun a w F W => ?_
  refine AG F W (Ag F Aa Aa Aa Aa) Aa (Am Aa) (Ap (v := v1) 0 F Aa Aa IC Aa).q fun a w F W => ?_
  refine AG F W (Ag F Aa Aa Aa Aa) Aa (Am Aa) (Bm (r := Ff) (l := p0.2.1) Jj Aa F Aa (Ak h_v1)).q fun a w F W => ?_
  refine AG F W (Ag F Aa Aa Aa Aa) Aa (Am Aa) (DL F Aa Aa).q fun a w F W => ?_
  refine ls F W Aa (Ay F Aa Aa Aa).q fun a w F W => ?_
  refine ls F W Aa (Af F Aa).q fun a w F W => ?_
  rcases Bool.eq_false_or_eq_true (decide (24 < (p0.2.1.length : Int))) with hb2 | hb2
  ·
   rw [hb2] at F
   iterate 4 refine CL F Aa Aa Aa Aa Aa Aa Aa fun a F => ?_
   refine ls F W Aa (Aw F Aa Aa Aa).q fun a w F W => ?_
   refine Ae (Ac ?_)
   exact ⟨F.re ⟨rfl, Aa, (by show some (Value.bool true) = some (Value.bool (decide (p0.1 < 1) || (decide (8 < p0.1) || (decide (24 < (p0.2.1.length : Int)) || decide (8 < (p0.2.2.length : Int)))))); try rw [hb2]; try rw [hb0]; try rw [hb1]; all_goals simp only [Bool.not_true, Bool.not_false, Bool.true_and, Bool.false_and, Bool.true_or, Bool.false_or, Bool.and_true, Bool.or_false, cond_true, cond_false]), trivial⟩, W⟩
  rw [hb2] at F
  refine AG F W (Ag F Aa Aa Aa Aa) Aa (Am Aa) (Ai Cw Aa Aa Aa GF F Aa 2 Aa).q fun a w F W => ?_
  refine AG F W (Ag F Aa Aa Aa Aa) Aa (Am Aa) (Ap (v := v2) 0 F Aa Aa GF Aa).q fun a w F W => ?_
  refine AG F W (Ag F Aa Aa Aa Aa) Aa (Am Aa) (Bm (r := Fa) (l := p0.2.2) JU Aa F Aa (Ak h_v2)).q fun a w F W => ?_
  refine AG F W (Ag F Aa Aa Aa Aa) Aa (Am Aa) (DL F Aa Aa).q fun a w F W => ?_
  refine ls F W Aa (Ay F Aa Aa Aa).q fun a w F W => ?_
  refine Ae (Ac ?_)
  exact ⟨F.re ⟨rfl, Aa, (by show some (Value.bool (decide (8 < (p0.2.2.length : Int)))) = some (Value.bool (decide (p0.1 < 1) || (decide (8 < p0.1) || (decide (24 < (p0.2.1.length : Int)) || decide (8 < (p0.2.2.length : Int)))))); try rw [hb2]; try rw [hb0]; try rw [hb1]; all_goals simp only [Bool.not_true, Bool.not_false, Bool.true_and, Bool.false_and, Bool.true_or, Bool.false_or, Bool.and_true, Bool.or_false, cond_true, cond_false]), trivial⟩, W⟩
 rintro a w ⟨F, W⟩
 refine Av F Aa (fun hb => ?_) fun hb => ?_
 ·
  have H := AN hb H
  rw [hb] at F
  clear hb
  refine Ah (Ab ?_)
  refine ls F W Aa (Ad F Aa).q fun a w F W => ?_
  refine Ae (Ac (Ax (AL ?_)))
  have H := AP H
  subst H
  refine AQ (.inl Aa) F W Aa (Au F Aa) ?_
  exact ⟨rfl, W.done⟩
 have H := AO (by rw [hb]; decide) H
 rw [hb] at F
 clear hb
 refine Ao (Ac ?_)
 obtain ⟨o1, G1, K1, L1⟩ := MZ H
 refine AE (fun a w => some (Sum.inl ()) = some o1 ∧ Fr 100 [] [(1, .pointer (some ⟨b1, 0, none⟩)), (2, .bool false)] a ∧ Stw ⟨Y, [], w0⟩ [(b1, [.int .i64 p0.1, v1, v2])] [] w) ?_ ?_
 ·
  have H := G1
  clear G1 K1
  refine Ah (Ab ?_)
  refine ls F W Aa (Ad F Aa).q fun a w F W => ?_
  refine Ae (Ac (Aq ?_))
  refine A4 H (fun s a w => Fr 100 [] [(1, .pointer (some ⟨b1, 0, none⟩)), (2, .bool false), (3, .int .i64 s)] a ∧ Stw ⟨Y, [], w0⟩ [(b1, [.int .i64 p0.1, v1, v2])] [] w) ⟨F.re ⟨rfl, Aa, Aa, trivial⟩, W⟩ fun s o a w H L2 hR => ?_
  obtain ⟨x1, rfl⟩ : ∃ x, x = s := ⟨s, rfl⟩
  obtain ⟨F, W⟩ := hR
  have F : Fr 100 [] [(1, .pointer (some ⟨b1, 0, none⟩)), (2, .bool false), (3, .int .i64 x1)] a := F
  have W : Stw ⟨Y, [], w0⟩ [(b1, [.int .i64 p0.1, v1, v2])] [] w := W
  rw [EJ] at H
  refine Ah (Ah (Ab ?_))
  refine ls F W Aa (Af F Aa).q fun a w F W => ?_
  refine ls F W Aa (Ai Cw Aa Aa Aa IC F Aa 1 Aa).q fun a w F W => ?_
  refine ls F W Aa (Ap (v := v1) 0 F Aa Aa IC Aa).q fun a w F W => ?_
  refine ls F W Aa (Bm (r := Ff) (l := p0.2.1) Jj Aa F Aa (Ak h_v1)).q fun a w F W => ?_
  refine ls F W Aa (Bb F Aa Aa).q fun a w F W => ?_
  refine Ae (Ac ?_)
  refine Av F Aa (fun hb => ?_) fun hb => ?_
  ·
   have H := AN (Bd hb) H
   rw [hb] at F
   clear hb
   refine Ao (Ac (Ah (Aq (Ah (Ab ?_)))))
   refine ls F W Aa (Ai Cw Aa Aa Aa IC F Aa 1 Aa).q fun a w F W => ?_
   refine ls F W Aa (Ap (v := v1) 0 F Aa Aa IC Aa).q fun a w F W => ?_
   refine ls F W Aa (Af F Aa).q fun a w F W => ?_
   obtain ⟨x2, h1, H⟩ := Al H
   refine ls F W Aa (AC (r := Ff) QE F Aa Aa (Ak h_v1) h1).q fun a w F W => ?_
   refine ls F W Aa (As (y := Value.agg #[.int .i64 x2.1, .int .i64 x2.2.1, .int .i64 x2.2.2.1, .int .i64 x2.2.2.2.1, .int .i64 x2.2.2.2.2.1, .int .i64 x2.2.2.2.2.2]) (j := 0) (i := x1) F Aa Aa (Ak h_v1) h1 QP.to PN Aa).q fun a w F W => ?_
   refine C6 (cs := [.int .i64 0, .int .i64 0, .int .i64 0, .int .i64 0, .int .i64 0, .int .i64 0]) F W Aa Rb Aa fun b2 a w F W => ?_
   refine D6 (vs := [.int .i64 x2.1, .int .i64 x2.2.1, .int .i64 x2.2.2.1, .int .i64 x2.2.2.2.1, .int .i64 x2.2.2.2.2.1, .int .i64 x2.2.2.2.2.2]) (M' := [(b2, [.int .i64 x2.1, .int .i64 x2.2.1, .int .i64 x2.2.2.1, .int .i64 x2.2.2.2.1, .int .i64 x2.2.2.2.2.1, .int .i64 x2.2.2.2.2.2]), (b1, [.int .i64 p0.1, v1, v2])]) 0 F W Aa Aa Aa PN Aa Aa Aa Aa Aa fun w W => ?_
   refine Ae (Ac ?_)
   obtain ⟨o3, G3, K3⟩ := Al H
   refine AE (fun a w => ∃ x3 : Bool, some (x3) = some o3 ∧ Fr 100 [] [(1, .pointer (some ⟨b1, 0, none⟩)), (2, .bool false), (3, .int .i64 x1), (77, .bool x3)] a ∧ Stw ⟨Y, [], w0⟩ [(b2, [.int .i64 x2.1, .int .i64 x2.2.1, .int .i64 x2.2.2.1, .int .i64 x2.2.2.2.1, .int .i64 x2.2.2.2.2.1, .int .i64 x2.2.2.2.2.2]), (b1, [.int .i64 p0.1, v1, v2])] [] w) ?_ ?_
   ·
    have H := G3
    clear G3 K3
    refine Ab ?_
    refine ls F W Aa (Ai Dh Aa Aa Aa T3 F Aa 0 Aa).q fun a w F W => ?_
    refine ls F W Aa (Ap (v := Value.int .i64 x2.1) 0 F Aa Aa T3 Aa).q fun a w F W => ?_
    refine ls F W Aa (Ai Dh Aa Aa Aa T3 F Aa 2 Aa).q fun a w F W => ?_
    refine ls F W Aa (Ap (v := Value.int .i64 x2.2.2.1) 0 F Aa Aa T3 Aa).q fun a w F W => ?_
    refine ls F W Aa (Cf F Aa Aa).q fun a w F W => ?_
    refine ls F W Aa (Af F Aa).q fun a w F W => ?_
    rcases Bool.eq_false_or_eq_true (decide (x2.1 = x2.2.2.1)) with hb | hb
    ·
     have H := AN (Bd hb) H
     rw [hb] at F
     clear hb
     iterate 3 refine CL F Aa Aa Aa Aa Aa Aa Aa fun a F => ?_
     refine ls F W Aa (Aw F Aa Aa Aa).q fun a w F W => ?_
     refine ls F W Aa (Af F Aa).q fun a w F W => ?_
     iterate 5 refine CL F Aa Aa Aa Aa Aa Aa Aa fun a F => ?_
     refine ls F W Aa (Aw F Aa Aa Aa).q fun a w F W => ?_
     refine ls F W Aa (Af F Aa).q fun a w F W => ?_
     iterate 3 refine CL F Aa Aa Aa Aa Aa Aa Aa fun a F => ?_
     refine ls F W Aa (Aw F Aa Aa Aa).q fun a w F W => ?_
     refine ls F W Aa (Af F Aa).q fun a w F W => ?_
     iterate 7 refine CL F Aa Aa Aa Aa Aa Aa Aa fun a F => ?_
     refine ls F W Aa (Aw F Aa Aa Aa).q fun a w F W => ?_
     refine ls F W Aa (Af F Aa).q fun a w F W => ?_
     iterate 7 refine CL F Aa Aa Aa Aa Aa Aa Aa fun a F => ?_
     refine ls F W Aa (Aw F Aa Aa Aa).q fun a w F W => ?_
     refine Ae (Ac ?_)
     have W := W.frontM (i := 1) Aa Aa
     have W := W.frontM (i := 1) Aa Aa
     exact ⟨_, H, F.re ⟨rfl, Aa, Aa, Aa, trivial⟩, W⟩
    have H := AO (Be hb) H
    rw [hb] at F
    clear hb
    refine AG F W (Ag F Aa Aa Aa Aa) Aa (Am Aa) (Ai Dh Aa Aa Aa T3 F Aa 4 Aa).q fun a w F W => ?_
    refine AG F W (Ag F Aa Aa Aa Aa) Aa (Am Aa) (Ap (v := Value.int .i64 x2.2.2.2.2.1) 0 F Aa Aa T3 Aa).q fun a w F W => ?_
    refine AG F W (Ag F Aa Aa Aa Aa) Aa (Am Aa) (Bb F Aa Aa).q fun a w F W => ?_
    refine ls F W Aa (Ay F Aa Aa Aa).q fun a w F W => ?_
    refine ls F W Aa (Af F Aa).q fun a w F W => ?_
    rcases Bool.eq_false_or_eq_true (decide (x2.2.2.2.2.1 < 1)) with hb | hb
    ·
     have H := AN (Bd hb) H
     rw [hb] at F
     clear hb
     iterate 5 refine CL F Aa Aa Aa Aa Aa Aa Aa fun a F => ?_
     refine ls F W Aa (Aw F Aa Aa Aa).q fun a w F W => ?_
     refine ls F W Aa (Af F Aa).q fun a w F W => ?_
     iterate 3 refine CL F Aa Aa Aa Aa Aa Aa Aa fun a F => ?_
     refine ls F W Aa (Aw F Aa Aa Aa).q fun a w F W => ?_
     refine ls F W Aa (Af F Aa).q fun a w F W => ?_
     iterate 7 refine CL F Aa Aa Aa Aa Aa Aa Aa fun a F => ?_
     refine ls F W Aa (Aw F Aa Aa Aa).q fun a w F W => ?_
     refine ls F W Aa (Af F Aa).q fun a w F W => ?_
     iterate 7 refine CL F Aa Aa Aa Aa Aa Aa Aa fun a F => ?_
     refine ls F W Aa (Aw F Aa Aa Aa).q fun a w F W => ?_
     refine Ae (Ac ?_)
     have W := W.frontM (i := 1) Aa Aa
     have W := W.frontM (i := 1) Aa Aa
     exact ⟨_, H, F.re ⟨rfl, Aa, Aa, Aa, trivial⟩, W⟩
    have H := AO (Be hb) H
    rw [hb] at F
    clear hb
    refine AG F W (Ag F Aa Aa Aa Aa) Aa (Am Aa) (Ai Dh Aa Aa Aa T3 F Aa 4 Aa).q fun a w F W => ?_
    refine AG F W (Ag F Aa Aa Aa Aa) Aa (Am Aa) (Ap (v := Value.int .i64 x2.2.2.2.2.1) 0 F Aa Aa T3 Aa).q fun a w F W => ?_
    refine AG F W (Ag F Aa Aa Aa Aa) Aa (Am Aa) (Ai Dh Aa Aa Aa T3 F Aa 5 Aa).q fun a w F W => ?_
    refine AG F W (Ag F Aa Aa Aa Aa) Aa (Am Aa) (Ap (v := Value.int .i64 x2.2.2.2.2.2) 0 F Aa Aa T3 Aa).q fun a w F W => ?_
    refine AG F W (Ag F Aa Aa Aa Aa) Aa (Am Aa) (DL F Aa Aa).q fun a w F W => ?_
    refine ls F W Aa (Ay F Aa Aa Aa).q fun a w F W => ?_
    refine ls F W Aa (Af F Aa).q fun a w F W => ?_
    rcases Bool.eq_false_or_eq_true (decide (x2.2.2.2.2.2 < x2.2.2.2.2.1)) with hb | hb
    ·
     have H := AN (Bd hb) H
     rw [hb] at F
     clear hb
     iterate 3 refine CL F Aa Aa Aa Aa Aa Aa Aa fun a F => ?_
     refine ls F W Aa (Aw F Aa Aa Aa).q fun a w F W => ?_
     refine ls F W Aa (Af F Aa).q fun a w F W => ?_
     iterate 7 refine CL F Aa Aa Aa Aa Aa Aa Aa fun a F => ?_
     refine ls F W Aa (Aw F Aa Aa Aa).q fun a w F W => ?_
     refine ls F W Aa (Af F Aa).q fun a w F W => ?_
     iterate 7 refine CL F Aa Aa Aa Aa Aa Aa Aa fun a F => ?_
     refine ls F W Aa (Aw F Aa Aa Aa).q fun a w F W => ?_
     refine Ae (Ac ?_)
     have W := W.frontM (i := 1) Aa Aa
     have W := W.frontM (i := 1) Aa Aa
     exact ⟨_, H, F.re ⟨rfl, Aa, Aa, Aa, trivial⟩, W⟩
    have H := AO (Be hb) H
    rw [hb] at F
    clear hb
    refine AG F W (Ag F Aa Aa Aa Aa) Aa (Am Aa) (Ai Dh Aa Aa Aa T3 F Aa 5 Aa).q fun a w F W => ?_
    refine AG F W (Ag F Aa Aa Aa Aa) Aa (Am Aa) (Ap (v := Value.int .i64 x2.2.2.2.2.2) 0 F Aa Aa T3 Aa).q fun a w F W => ?_
    refine AG F W (Ag F Aa Aa Aa Aa) Aa (Am Aa) (DL F Aa Aa).q fun a w F W => ?_
    refine ls F W Aa (Ay F Aa Aa Aa).q fun a w F W => ?_
    refine ls F W Aa (Af F Aa).q fun a w F W => ?_
    rcases Bool.eq_false_or_eq_true (decide (1000 < x2.2.2.2.2.2)) with hb | hb
    ·
     have H := AN (Bd hb) H
     rw [hb] at F
     clear hb
     iterate 7 refine CL F Aa Aa Aa Aa Aa Aa Aa fun a F => ?_
     refine ls F W Aa (Aw F Aa Aa Aa).q fun a w F W => ?_
     refine ls F W Aa (Af F Aa).q fun a w F W => ?_
     iterate 7 refine CL F Aa Aa Aa Aa Aa Aa Aa fun a F => ?_
     refine ls F W Aa (Aw F Aa Aa Aa).q fun a w F W => ?_
     refine Ae (Ac ?_)
     have W := W.frontM (i := 1) Aa Aa
     have W := W.frontM (i := 1) Aa Aa
     exact ⟨_, H, F.re ⟨rfl, Aa, Aa, Aa, trivial⟩, W⟩
    have H := AO (Be hb) H
    rw [hb] at F
    clear hb
    refine AG F W (Ag F Aa Aa Aa Aa) Aa (Am Aa) (Ap (v := Value.agg #[.int .i64 p0.1, v1, v2]) 1 F Aa Aa GC Aa).q fun a w F W => ?_
    refine AG F W (Ag F Aa Aa Aa Aa) Aa (Am Aa) (Ai Dh Aa Aa Aa T3 F Aa 0 Aa).q fun a w F W => ?_
    refine AG F W (Ag F Aa Aa Aa Aa) Aa (Am Aa) (Ap (v := Value.int .i64 x2.1) 0 F Aa Aa T3 Aa).q fun a w F W => ?_
    refine AG F W (Ag F Aa Aa Aa Aa) Aa (Am Aa) (Ai Dh Aa Aa Aa T3 F Aa 1 Aa).q fun a w F W => ?_
    refine AG F W (Ag F Aa Aa Aa Aa) Aa (Am Aa) (Ap (v := Value.int .i64 x2.2.1) 0 F Aa Aa T3 Aa).q fun a w F W => ?_
    refine Lz (Ag F Aa Aa Aa Aa) ?_
    obtain ⟨x4, h2, H⟩ := Al H
    refine ls F W Aa (AX (v := Value.bool x4) F Sb Aa (fun w W => HS any w (v1) (v2) p0 x2.1 x2.2.1 _ h2 (((Ak h_v1) : Dw _ _ _ _ _ _) w W).nx (((Ak h_v2) : Dw _ _ _ _ _ _) w W).nx)) fun a w F W => ?_
    refine AG F W (Ag F Aa Aa Aa Aa) Aa (Am Aa) (E6 F Aa).q fun a w F W => ?_
    refine ls F W Aa (Ay F Aa Aa Aa).q fun a w F W => ?_
    refine ls F W Aa (Af F Aa).q fun a w F W => ?_
    rcases Bool.eq_false_or_eq_true (!x4) with hb | hb
    ·
     have H := AN hb H
     rw [hb] at F
     clear hb
     iterate 7 refine CL F Aa Aa Aa Aa Aa Aa Aa fun a F => ?_
     refine ls F W Aa (Aw F Aa Aa Aa).q fun a w F W => ?_
     refine Ae (Ac ?_)
     have W := W.frontM (i := 1) Aa Aa
     have W := W.frontM (i := 1) Aa Aa
     exact ⟨_, H, F.re ⟨rfl, Aa, Aa, Aa, trivial⟩, W⟩
    have H := AO (by rw [hb]; decide) H
    rw [hb] at F
    clear hb
    refine AG F W (Ag F Aa Aa Aa Aa) Aa (Am Aa) (Ap (v := Value.agg #[.int .i64 p0.1, v1, v2]) 1 F Aa Aa GC Aa).q fun a w F W => ?_
    refine AG F W (Ag F Aa Aa Aa Aa) Aa (Am Aa) (Ai Dh Aa Aa Aa T3 F Aa 2 Aa).q fun a w F W => ?_
    refine AG F W (Ag F Aa Aa Aa Aa) Aa (Am Aa) (Ap (v := Value.int .i64 x2.2.2.1) 0 F Aa Aa T3 Aa).q fun a w F W => ?_
    refine AG F W (Ag F Aa Aa Aa Aa) Aa (Am Aa) (Ai Dh Aa Aa Aa T3 F Aa 3 Aa).q fun a w F W => ?_
    refine AG F W (Ag F Aa Aa Aa Aa) Aa (Am Aa) (Ap (v := Value.int .i64 x2.2.2.2.1) 0 F Aa Aa T3 Aa).q fun a w F W => ?_
    refine Lz (Ag F Aa Aa Aa Aa) ?_
    obtain ⟨x5, h3, H⟩ := Al H
    refine ls F W Aa (AX (v := Value.bool x5) F Sb Aa (fun w W => HS any w (v1) (v2) p0 x2.2.2.1 x2.2.2.2.1 _ h3 (((Ak h_v1) : Dw _ _ _ _ _ _) w W).nx (((Ak h_v2) : Dw _ _ _ _ _ _) w W).nx)) fun a w F W => ?_
    refine AG F W (Ag F Aa Aa Aa Aa) Aa (Am Aa) (E6 F Aa).q fun a w F W => ?_
    refine ls F W Aa (Ay F Aa Aa Aa).q fun a w F W => ?_
    refine Ae (Ac ?_)
    have W := W.frontM (i := 1) Aa Aa
    have W := W.frontM (i := 1) Aa Aa
    exact ⟨_, H, F.re ⟨rfl, Aa, Aa, Aa, trivial⟩, W⟩
   rintro a w ⟨x3, hj, F, W⟩
   have hj := AP hj
   subst hj
   have H := K3
   clear G3 K3
   refine Av F Aa (fun hb => ?_) fun hb => ?_
   ·
    have H := AN hb H
    rw [hb] at F
    clear hb
    refine Ah (Ab ?_)
    refine ls F W Aa (Ad F Aa).q fun a w F W => ?_
    refine Ae (Ac (Ax (A8 ?_)))
    iterate 2 refine AL ?_
    refine A8 (AL ?_)
    have H := L2 _ H
    have H := L1 _ H
    have H := AP H
    subst H
    refine AQ (.inl Aa) F W Aa (Au F Aa) ?_
    exact ⟨rfl, W.done⟩
   have H := AO (by rw [hb]; decide) H
   rw [hb] at F
   clear hb
   refine Ao (AK (Ac (Ab ?_)))
   refine ls F W Aa (Af F Aa).q fun a w F W => ?_
   refine ls F W Aa (Bw F Aa Aa Aa).q fun a w F W => ?_
   refine ls F W Aa (Ad F Aa).q fun a w F W => ?_
   refine Ae (Ac ?_)
   have W := W.frontM (i := 1) Aa Aa
   have W := W.sub (M' := [(b1, [.int .i64 p0.1, v1, v2])]) (Z' := []) (List.Sublist.cons_cons _ (List.nil_sublist _)) (List.Sublist.refl _)
   exact ⟨_, H, F.re ⟨rfl, Aa, Aa, trivial⟩, W⟩
  have H := AO (Be hb) H
  rw [hb] at F
  clear hb
  refine A9 ?_
  iterate 2 refine Bl ?_
  refine A7 (Ac ?_)
  have H := L2 _ H
  exact ⟨H, F.re ⟨rfl, Aa, trivial⟩, W⟩
 rintro a w ⟨hj, F, W⟩
 have H := K1 _ hj
 clear hj G1 K1 L1
 obtain ⟨o4, G4, K4, L4⟩ := MZ H
 refine AE (fun a w => some (Sum.inl ()) = some o4 ∧ Fr 100 [] [(2, .bool false)] a ∧ Stw ⟨Y, [], w0⟩ [(b1, [.int .i64 p0.1, v1, v2])] [] w) ?_ ?_
 ·
  have H := G4
  clear G4 K4
  refine Ah (Ab ?_)
  refine ls F W Aa (Ad F Aa).q fun a w F W => ?_
  refine Ae (Ac (Aq ?_))
  refine A4 H (fun s a w => Fr 100 [] [(1, .pointer (some ⟨b1, 0, none⟩)), (2, .bool false), (5, .int .i64 s)] a ∧ Stw ⟨Y, [], w0⟩ [(b1, [.int .i64 p0.1, v1, v2])] [] w) ⟨F.re ⟨rfl, Aa, Aa, trivial⟩, W⟩ fun s o a w H L5 hR => ?_
  obtain ⟨x6, rfl⟩ : ∃ x, x = s := ⟨s, rfl⟩
  obtain ⟨F, W⟩ := hR
  have F : Fr 100 [] [(1, .pointer (some ⟨b1, 0, none⟩)), (2, .bool false), (5, .int .i64 x6)] a := F
  have W : Stw ⟨Y, [], w0⟩ [(b1, [.int .i64 p0.1, v1, v2])] [] w := W
  rw [ED] at H
  refine Ah (Ah (Ab ?_))
  refine ls F W Aa (Af F Aa).q fun a w F W => ?_
  refine ls F W Aa (Ai Cw Aa Aa Aa GF F Aa 2 Aa).q fun a w F W => ?_
  refine ls F W Aa (Ap (v := v2) 0 F Aa Aa GF Aa).q fun a w F W => ?_
  refine ls F W Aa (Bm (r := Fa) (l := p0.2.2) JU Aa F Aa (Ak h_v2)).q fun a w F W => ?_
  refine ls F W Aa (Bb F Aa Aa).q fun a w F W => ?_
  refine Ae (Ac ?_)
  refine Av F Aa (fun hb => ?_) fun hb => ?_
  ·
   have H := AN (Bd hb) H
   rw [hb] at F
   clear hb
   refine Ao (Ac (Ah (Aq (Ah ?_))))
   refine Cb W MO (by kernel_rfl) ?_
   refine qs F Aa (Ap (v := Value.agg #[.int .i64 p0.1, v1, v2]) 0 F Aa Aa GC Aa).q fun a F => ?_
   refine qs F Aa (Ai Cw Aa Aa Aa GF F Aa 2 Aa).q fun a F => ?_
   refine qs F Aa (Ap (v := v2) 0 F Aa Aa GF Aa).q fun a F => ?_
   refine qs F Aa (Af F Aa).q fun a F => ?_
   obtain ⟨x7, h4, H⟩ := Al H
   refine qs F Aa (AC (r := Fa) PU F Aa Aa (Ak h_v2) h4).q fun a F => ?_
   refine qs F Aa (Ai JP Aa Aa Aa T3 F Aa (Ew v2 + (x6).toNat * 2) Aa).q fun a F => ?_
   refine qs F Aa (As (y := Value.int .i64 x7.1) (j := 0) (i := x6) F Aa Aa (Ak h_v2) h4 PW.to T3 Aa).q fun a F => ?_
   refine qs F Aa (Ai Cw Aa Aa Aa GF F Aa 2 Aa).q fun a F => ?_
   refine qs F Aa (Ap (v := v2) 0 F Aa Aa GF Aa).q fun a F => ?_
   refine qs F Aa (Af F Aa).q fun a F => ?_
   obtain ⟨x8, h5, H⟩ := Al H
   refine qs F Aa (AC (r := Fa) PU F Aa Aa (Ak h_v2) h5).q fun a F => ?_
   refine qs F Aa (Ai JP Aa Aa Aa T3 F Aa (Ew v2 + (x6).toNat * 2 + 1) Aa).q fun a F => ?_
   refine qs F Aa (As (y := Value.int .i64 x8.2) (j := 1) (i := x6) F Aa Aa (Ak h_v2) h5 PW.to T3 Aa).q fun a F => ?_
   obtain ⟨x9, h6, H⟩ := Al H
   refine qs F Aa (AX (v := Value.bool x9) F Sb Aa (fun w W => HS any w (v1) (v2) p0 x7.1 x8.2 _ h6 (((Ak h_v1) : Dw _ _ _ _ _ _) w W).nx (((Ak h_v2) : Dw _ _ _ _ _ _) w W).nx)) fun a F => ?_
   refine qs F Aa (E6 F Aa).q fun a F => ?_
   refine Bf fun w W => ?_
   refine Ac ?_
   refine Av F Aa (fun hb => ?_) fun hb => ?_
   ·
    have H := AN hb H
    rw [hb] at F
    clear hb
    refine Ah (Ab ?_)
    refine ls F W Aa (Ad F Aa).q fun a w F W => ?_
    refine Ae (Ac (Ax (A8 ?_)))
    iterate 2 refine AL ?_
    refine A8 (AL ?_)
    have H := L5 _ H
    have H := L4 _ H
    have H := AP H
    subst H
    refine AQ (.inl Aa) F W Aa (Au F Aa) ?_
    exact ⟨rfl, W.done⟩
   have H := AO (by rw [hb]; decide) H
   rw [hb] at F
   clear hb
   refine Ao (AK (Ac (Ab ?_)))
   refine ls F W Aa (Af F Aa).q fun a w F W => ?_
   refine ls F W Aa (Bw F Aa Aa Aa).q fun a w F W => ?_
   refine ls F W Aa (Ad F Aa).q fun a w F W => ?_
   refine Ae (Ac ?_)
   exact ⟨_, H, F.re ⟨rfl, Aa, Aa, trivial⟩, W⟩
  have H := AO (Be hb) H
  rw [hb] at F
  clear hb
  refine A9 ?_
  iterate 2 refine Bl ?_
  refine A7 (Ac ?_)
  have H := L5 _ H
  exact ⟨H, F.re ⟨rfl, trivial⟩, W⟩
 rintro a w ⟨hj, F, W⟩
 have H := K4 _ hj
 clear hj G4 K4 L4
 refine Ah (Ab ?_)
 refine ls F W Aa (Ad F Aa).q fun a w F W => ?_
 refine Ae (Ac (Ax ?_))
 have H := AP H
 subst H
 refine AQ (.inl Aa) F W Aa (Au F Aa) ?_
 exact ⟨rfl, W.done⟩
theorem S7 : Has Try.prog 41 := ⟨fun args w => Aj Try.func41 rfl (by decide) args w⟩
def DP (p0 : Int) : Bool := (decide (p0 ≤ 9218868437227405312) || decide (p0 = 9223372036854775808))
theorem MP (Y : Nat → Prop) (w0 : World)  (p0 : Int) (r : Bool) (H : DP p0 = r)  :
    Calls Try.prog 61 #[.int .u64 p0] w0 fun e w' => e = .returned (.bool r) ∧ Below w0.heap.size w0 w' := by
 refine enter Try.func61 Aa Try.ntmps61 Aa fun a F => ?_
 have W := Stw.start Y w0
 unfold DP at H
 refine Ah (Ab ?_)
 refine ls F W Aa (Ad F Aa).q fun a w F W => ?_
 refine Ae (Ac ?_)
 refine AE (fun a w => Fr 9 [] [(2, .bool (decide (p0 ≤ 9218868437227405312) || decide (p0 = 9223372036854775808)))] a ∧ Stw ⟨Y, [], w0⟩ [] [] w) ?_ ?_
 ·
  refine Ab ?_
  refine ls F W Aa (Af F Aa).q fun a w F W => ?_
  refine ls F W Aa (J0 F Aa Aa).q fun a w F W => ?_
  refine ls F W Aa (Af F Aa).q fun a w F W => ?_
  rcases Bool.eq_false_or_eq_true (decide (p0 ≤ 9218868437227405312)) with hb0 | hb0
  ·
   rw [hb0] at F
   iterate 2 refine CL F Aa Aa Aa Aa Aa Aa Aa fun a F => ?_
   refine ls F W Aa (Aw F Aa Aa Aa).q fun a w F W => ?_
   refine ls F W Aa (Ad F Aa).q fun a w F W => ?_
   refine Ae (Ac ?_)
   exact ⟨F.re ⟨(by show some (Value.bool true) = some (Value.bool (decide (p0 ≤ 9218868437227405312) || decide (p0 = 9223372036854775808))); try rw [hb0]; all_goals simp only [Bool.not_true, Bool.not_false, Bool.true_and, Bool.false_and, Bool.true_or, Bool.false_or, Bool.and_true, Bool.or_false, cond_true, cond_false]), trivial⟩, W⟩
  rw [hb0] at F
  refine AG F W (Ag F Aa Aa Aa Aa) Aa (Am Aa) (Af F Aa).q fun a w F W => ?_
  refine AG F W (Ag F Aa Aa Aa Aa) Aa (Am Aa) (Cf F Aa Aa).q fun a w F W => ?_
  refine ls F W Aa (Ay F Aa Aa Aa).q fun a w F W => ?_
  refine ls F W Aa (Ad F Aa).q fun a w F W => ?_
  refine Ae (Ac ?_)
  exact ⟨F.re ⟨(by show some (Value.bool (decide (p0 = 9223372036854775808))) = some (Value.bool (decide (p0 ≤ 9218868437227405312) || decide (p0 = 9223372036854775808))); try rw [hb0]; all_goals simp only [Bool.not_true, Bool.not_false, Bool.true_and, Bool.false_and, Bool.true_or, Bool.false_or, Bool.and_true, Bool.or_false, cond_true, cond_false]), trivial⟩, W⟩
 rintro a w ⟨F, W⟩
 refine Ax ?_
 subst H
 refine AQ (.inl Aa) F W Aa (Au F Aa) ?_
 exact ⟨rfl, W.done⟩
theorem SO : Has Try.prog 61 := ⟨fun args w => Aj Try.func61 rfl (by decide) args w⟩
noncomputable def EL (p0 : List Int) : Int → Option (Int ⊕ (Unit ⊕ Bool))
  | x1 => (if x1 < (p0.length : Int) then (ix p0 x1).bind fun x2 => (if (!(DP x2)) = true then some (.inr (.inr false)) else some (.inl (BI (x1 + 1)))) else some (.inr (.inl ())))
noncomputable def FZ (p0 : List Int) (p1 : Int) : Option Bool := HK (AH (EL p0) 0) fun _ => some (decide ((p0.length : Int) = p1))
theorem Mr (Y : Nat → Prop) (w0 : World) (v1 : Value) (p0 : List Int) (p1 : Int) (r : Bool) (H : FZ p0 p1 = some r) (h_v1 : Sl w0 (NX []) (Rp.int .u64) v1 p0) :
    Calls Try.prog 42 #[v1, .int .i64 p1] w0 fun e w' => e = .returned (.bool r) ∧ Below w0.heap.size w0 w' := by
 refine enter Try.func42 Aa Try.ntmps42 Aa fun a F => ?_
 have W := Stw.start Y w0
 unfold FZ at H
 refine Ah (Ab ?_)
 refine ls F W Aa (Ad F Aa).q fun a w F W => ?_
 refine Ae (Ac ?_)
 obtain ⟨o1, G1, K1, L1⟩ := MZ H
 refine AE (fun a w => some (Sum.inl ()) = some o1 ∧ Fr 22 [] [(0, v1), (1, .int .i64 p1), (4, .bool false)] a ∧ Stw ⟨Y, [], w0⟩ [] [] w) ?_ ?_
 ·
  have H := G1
  clear G1 K1
  refine Ah (Ab ?_)
  refine ls F W Aa (Ad F Aa).q fun a w F W => ?_
  refine Ae (Ac (Aq ?_))
  refine A4 H (fun s a w => Fr 22 [] [(0, v1), (1, .int .i64 p1), (4, .bool false), (5, .int .i64 s)] a ∧ Stw ⟨Y, [], w0⟩ [] [] w) ⟨F.re ⟨rfl, Aa, Aa, Aa, trivial⟩, W⟩ fun s o a w H L2 hR => ?_
  obtain ⟨x1, rfl⟩ : ∃ x, x = s := ⟨s, rfl⟩
  obtain ⟨F, W⟩ := hR
  have F : Fr 22 [] [(0, v1), (1, .int .i64 p1), (4, .bool false), (5, .int .i64 x1)] a := F
  have W : Stw ⟨Y, [], w0⟩ [] [] w := W
  rw [EL] at H
  refine Ah (Ah (Ab ?_))
  iterate 2 refine ls F W Aa (Af F Aa).q fun a w F W => ?_
  refine ls F W Aa (Bm (r := (Rp.int .u64)) (l := p0) IW Aa F Aa (Ak h_v1)).q fun a w F W => ?_
  refine ls F W Aa (Bb F Aa Aa).q fun a w F W => ?_
  refine Ae (Ac ?_)
  refine Av F Aa (fun hb => ?_) fun hb => ?_
  ·
   have H := AN (Bd hb) H
   rw [hb] at F
   clear hb
   refine Ao (Ac (Ah (Aq (Ah (Ab ?_)))))
   iterate 2 refine ls F W Aa (Af F Aa).q fun a w F W => ?_
   obtain ⟨x2, h1, H⟩ := Al H
   refine ls F W Aa (AC (r := (Rp.int .u64)) Lo F Aa Aa (Ak h_v1) h1).q fun a w F W => ?_
   refine ls F W Aa (As (y := Value.int .u64 x2) (j := 0) (i := x1) F Aa Aa (Ak h_v1) h1 Fl.int.to N1 Aa).q fun a w F W => ?_
   refine ls F W Aa (AX (v := Value.bool (DP x2)) F SO Aa (fun w W => MP any w x2 _ Aa)) fun a w F W => ?_
   refine ls F W Aa (E6 F Aa).q fun a w F W => ?_
   refine Ae (Ac ?_)
   refine Av F Aa (fun hb => ?_) fun hb => ?_
   ·
    have H := AN hb H
    rw [hb] at F
    clear hb
    refine Ah (Ab ?_)
    refine ls F W Aa (Ad F Aa).q fun a w F W => ?_
    refine Ae (Ac (Ax (A8 ?_)))
    iterate 2 refine AL ?_
    refine A8 (AL ?_)
    have H := L2 _ H
    have H := L1 _ H
    have H := AP H
    subst H
    refine AQ (.inl Aa) F W Aa (Au F Aa) ?_
    exact ⟨rfl, W.done⟩
   have H := AO (by rw [hb]; decide) H
   rw [hb] at F
   clear hb
   refine Ao (AK (Ac (Ab ?_)))
   refine ls F W Aa (Af F Aa).q fun a w F W => ?_
   refine ls F W Aa (Bw F Aa Aa Aa).q fun a w F W => ?_
   refine ls F W Aa (Ad F Aa).q fun a w F W => ?_
   refine Ae (Ac ?_)
   exact ⟨_, H, F.re ⟨rfl, Aa, Aa, Aa, trivial⟩, W⟩
  have H := AO (Be hb) H
  rw [hb] at F
  clear hb
  refine A9 ?_
  iterate 2 refine Bl ?_
  refine A7 (Ac ?_)
  have H := L2 _ H
  exact ⟨H, F.re ⟨rfl, Aa, Aa, trivial⟩, W⟩
 rintro a w ⟨hj, F, W⟩
 have H := K1 _ hj
 clear hj G1 K1 L1
 refine Ah (Ab ?_)
 refine ls F W Aa (Af F Aa).q fun a w F W => ?_
 refine ls F W Aa (Bm (r := (Rp.int .u64)) (l := p0) IW Aa F Aa (Ak h_v1)).q fun a w F W => ?_
 refine ls F W Aa (Af F Aa).q fun a w F W => ?_
 refine ls F W Aa (Cf F Aa Aa).q fun a w F W => ?_
 refine ls F W Aa (Ad F Aa).q fun a w F W => ?_
 refine Ae (Ac (Ax ?_))
 have H := AP H
 subst H
 refine AQ (.inl Aa) F W Aa (Au F Aa) ?_
 exact ⟨rfl, W.done⟩
theorem Tg : Has Try.prog 42 := ⟨fun args w => Aj Try.func42 rfl (by decide) args w⟩
noncomputable def D5 (p0 : Int × (List (Int × Int × Int × Int × Int × Int)) × (List (Int × Int))) (p1 : List Int) : Option Bool := ((F3 p0).bind fun x2 => (if x2 = true then (FZ p1 (p0.2.1.length : Int)).bind fun x3 => some x3 else some false)).bind fun x1 => some x1
theorem Hh (Y : Nat → Prop) (w0 : World) (v1 : Value) (v2 : Value) (v3 : Value) (p0 : Int × (List (Int × Int × Int × Int × Int × Int)) × (List (Int × Int))) (p1 : List Int) (r : Bool) (H : D5 p0 p1 = some r) (h_v1 : Sl w0 (NX []) Ff v1 p0.2.1) (h_v2 : Sl w0 (NX []) Fa v2 p0.2.2) (h_v3 : Sl w0 (NX []) (Rp.int .u64) v3 p1) :
    Calls Try.prog 21 #[.agg #[.int .i64 p0.1, v1, v2], v3] w0 fun e w' => e = .returned (.bool r) ∧ Below w0.heap.size w0 w' := by
 refine enter Try.func21 Aa Try.ntmps21 Aa fun a F => ?_
 have W := Stw.start Y w0
 unfold D5 at H
 refine Ah (Ab ?_)
 refine DO (cs := [.int .i64 p0.1, v1, v2]) F W Aa Aa Aa fun b1 a w F W => ?_
 refine ls F W Aa (Ad F Aa).q fun a w F W => ?_
 refine Ae (Ac ?_)
 obtain ⟨o1, G1, K1⟩ := Al H
 refine AE (fun a w => ∃ x1 : Bool, some (x1) = some o1 ∧ Fr 14 [] [(4, .bool x1)] a ∧ Stw ⟨Y, [], w0⟩ [(b1, [.int .i64 p0.1, v1, v2])] [] w) ?_ ?_
 ·
  have H := G1
  clear G1 K1
  refine Ab ?_
  refine ls F W Aa (Ap (v := Value.agg #[.int .i64 p0.1, v1, v2]) 0 F Aa Aa GC Aa).q fun a w F W => ?_
  obtain ⟨x2, h1, H⟩ := Al H
  refine ls F W Aa (AX (v := Value.bool x2) F S7 Aa (fun w W => Mx any w (v1) (v2) p0 _ h1 (((Ak h_v1) : Dw _ _ _ _ _ _) w W).nx (((Ak h_v2) : Dw _ _ _ _ _ _) w W).nx)) fun a w F W => ?_
  refine ls F W Aa (Af F Aa).q fun a w F W => ?_
  rcases Bool.eq_false_or_eq_true x2 with hb | hb
  ·
   have H := AN hb H
   rw [hb] at F
   clear hb
   refine AG F W (Ag F Aa Aa Aa Aa) Aa (Am Aa) (Af F Aa).q fun a w F W => ?_
   refine AG F W (Ag F Aa Aa Aa Aa) Aa (Am Aa) (Ai Cw Aa Aa Aa IC F Aa 1 Aa).q fun a w F W => ?_
   refine AG F W (Ag F Aa Aa Aa Aa) Aa (Am Aa) (Ap (v := v1) 0 F Aa Aa IC Aa).q fun a w F W => ?_
   refine AG F W (Ag F Aa Aa Aa Aa) Aa (Am Aa) (Bm (r := Ff) (l := p0.2.1) Jj Aa F Aa (Ak h_v1)).q fun a w F W => ?_
   refine Lz (Ag F Aa Aa Aa Aa) ?_
   obtain ⟨x3, h2, H⟩ := Al H
   refine ls F W Aa (AX (v := Value.bool x3) F Tg Aa (fun w W => Mr any w (v3) p1 (p0.2.1.length : Int) _ h2 (((Ak h_v3) : Dw _ _ _ _ _ _) w W).nx)) fun a w F W => ?_
   refine ls F W Aa (Aw F Aa Aa Aa).q fun a w F W => ?_
   refine ls F W Aa (Ad F Aa).q fun a w F W => ?_
   refine Ae (Ac ?_)
   exact ⟨_, H, F.re ⟨rfl, trivial⟩, W⟩
  have H := AO (by rw [hb]; decide) H
  rw [hb] at F
  clear hb
  iterate 5 refine CL F Aa Aa Aa Aa Aa Aa Aa fun a F => ?_
  refine ls F W Aa (Ay F Aa Aa Aa).q fun a w F W => ?_
  refine ls F W Aa (Ad F Aa).q fun a w F W => ?_
  refine Ae (Ac ?_)
  exact ⟨_, H, F.re ⟨rfl, trivial⟩, W⟩
 rintro a w ⟨x1, hj, F, W⟩
 have hj := AP hj
 subst hj
 have H := K1
 clear G1 K1
 refine Ax ?_
 have H := AP H
 subst H
 refine AQ (.inl Aa) F W Aa (Au F Aa) ?_
 exact ⟨rfl, W.done⟩
theorem RT : Has Try.prog 21 := ⟨fun args w => Aj Try.func21 rfl (by decide) args w⟩
noncomputable def FM (p0 : Int × (List (Int × Int × Int × Int × Int × Int)) × (List (Int × Int))) (p1 : Int) (p2 : Int) : Int → Option (Int ⊕ (Unit ⊕ (Int × Int × Int × Bool)))
  | x1 => (if x1 < (p0.2.1.length : Int) then (ix p0.2.1 x1).bind fun x2 => (if (decide (x2.1 = p1) && decide (x2.2.1 = p2)) = true then some (.inr (.inr (x2.2.2.1, x2.2.2.2.1, x1, true))) else (if (decide (x2.2.2.1 = p1) && decide (x2.2.2.2.1 = p2)) = true then some (.inr (.inr (x2.1, x2.2.1, x1, true))) else some (.inl (BI (x1 + 1))))) else some (.inr (.inl ())))
noncomputable def GL (p0 : Int × (List (Int × Int × Int × Int × Int × Int)) × (List (Int × Int))) (p1 : Int) (p2 : Int) : Option (Int × Int × Int × Bool) := HK (AH (FM p0 p1 p2) 0) fun _ => some (0, 0, 0, false)
theorem ME (Y : Nat → Prop) (w0 : World) (v1 : Value) (v2 : Value) (p0 : Int × (List (Int × Int × Int × Int × Int × Int)) × (List (Int × Int))) (p1 : Int) (p2 : Int) (r : Int × Int × Int × Bool) (H : GL p0 p1 p2 = some r) (h_v1 : Sl w0 (NX []) Ff v1 p0.2.1) (h_v2 : Sl w0 (NX []) Fa v2 p0.2.2) :
    Calls Try.prog 25 #[.agg #[.int .i64 p0.1, v1, v2], .int .i64 p1, .int .i64 p2] w0 fun e w' => e = .returned (.tuple #[.int .i64 r.1, .int .i64 r.2.1, .int .i64 r.2.2.1, .bool r.2.2.2]) ∧ Below w0.heap.size w0 w' := by
 refine enter Try.func25 Aa Try.ntmps25 Aa fun a F => ?_
 have W := Stw.start Y w0
 unfold GL at H
 refine Ah (Ab ?_)
 refine DO (cs := [.int .i64 p0.1, v1, v2]) F W Aa Aa Aa fun b1 a w F W => ?_
 iterate 4 refine ls F W Aa (Ad F Aa).q fun a w F W => ?_
 refine Ae (Ac ?_)
 obtain ⟨o1, G1, K1, L1⟩ := MZ H
 refine AE (fun a w => some (Sum.inl ()) = some o1 ∧ Fr 54 [] [(6, .int .i64 0), (7, .int .i64 0), (8, .int .i64 0), (9, .bool false)] a ∧ Stw ⟨Y, [], w0⟩ [(b1, [.int .i64 p0.1, v1, v2])] [] w) ?_ ?_
 ·
  have H := G1
  clear G1 K1
  refine Ah (Ab ?_)
  refine ls F W Aa (Ad F Aa).q fun a w F W => ?_
  refine Ae (Ac (Aq ?_))
  refine A4 H (fun s a w => Fr 54 [] [(1, .int .i64 p1), (2, .int .i64 p2), (3, .pointer (some ⟨b1, 0, none⟩)), (6, .int .i64 0), (7, .int .i64 0), (8, .int .i64 0), (9, .bool false), (10, .int .i64 s)] a ∧ Stw ⟨Y, [], w0⟩ [(b1, [.int .i64 p0.1, v1, v2])] [] w) ⟨F.re ⟨rfl, Aa, Aa, Aa, Aa, Aa, Aa, Aa, trivial⟩, W⟩ fun s o a w H L2 hR => ?_
  obtain ⟨x1, rfl⟩ : ∃ x, x = s := ⟨s, rfl⟩
  obtain ⟨F, W⟩ := hR
  have F : Fr 54 [] [(1, .int .i64 p1), (2, .int .i64 p2), (3, .pointer (some ⟨b1, 0, none⟩)), (6, .int .i64 0), (7, .int .i64 0), (8, .int .i64 0), (9, .bool false), (10, .int .i64 x1)] a := F
  have W : Stw ⟨Y, [], w0⟩ [(b1, [.int .i64 p0.1, v1, v2])] [] w := W
  rw [FM] at H
  refine Ah (Ah (Ab ?_))
  refine ls F W Aa (Af F Aa).q fun a w F W => ?_
  refine ls F W Aa (Ai Cw Aa Aa Aa IC F Aa 1 Aa).q fun a w F W => ?_
  refine ls F W Aa (Ap (v := v1) 0 F Aa Aa IC Aa).q fun a w F W => ?_
  refine ls F W Aa (Bm (r := Ff) (l := p0.2.1) Jj Aa F Aa (Ak h_v1)).q fun a w F W => ?_
  refine ls F W Aa (Bb F Aa Aa).q fun a w F W => ?_
  refine Ae (Ac ?_)
  refine Av F Aa (fun hb => ?_) fun hb => ?_
  ·
   have H := AN (Bd hb) H
   rw [hb] at F
   clear hb
   refine Ao (Ac (Ah (Aq (Ah (Ab ?_)))))
   refine ls F W Aa (Ai Cw Aa Aa Aa IC F Aa 1 Aa).q fun a w F W => ?_
   refine ls F W Aa (Ap (v := v1) 0 F Aa Aa IC Aa).q fun a w F W => ?_
   refine ls F W Aa (Af F Aa).q fun a w F W => ?_
   obtain ⟨x2, h1, H⟩ := Al H
   refine ls F W Aa (AC (r := Ff) QE F Aa Aa (Ak h_v1) h1).q fun a w F W => ?_
   refine ls F W Aa (As (y := Value.agg #[.int .i64 x2.1, .int .i64 x2.2.1, .int .i64 x2.2.2.1, .int .i64 x2.2.2.2.1, .int .i64 x2.2.2.2.2.1, .int .i64 x2.2.2.2.2.2]) (j := 0) (i := x1) F Aa Aa (Ak h_v1) h1 QP.to PN Aa).q fun a w F W => ?_
   refine C6 (cs := [.int .i64 0, .int .i64 0, .int .i64 0, .int .i64 0, .int .i64 0, .int .i64 0]) F W Aa Rb Aa fun b2 a w F W => ?_
   refine D6 (vs := [.int .i64 x2.1, .int .i64 x2.2.1, .int .i64 x2.2.2.1, .int .i64 x2.2.2.2.1, .int .i64 x2.2.2.2.2.1, .int .i64 x2.2.2.2.2.2]) (M' := [(b2, [.int .i64 x2.1, .int .i64 x2.2.1, .int .i64 x2.2.2.1, .int .i64 x2.2.2.2.1, .int .i64 x2.2.2.2.2.1, .int .i64 x2.2.2.2.2.2]), (b1, [.int .i64 p0.1, v1, v2])]) 0 F W Aa Aa Aa PN Aa Aa Aa Aa Aa fun w W => ?_
   refine Ae (Ac (Ah ?_))
   refine AE (fun a w => Fr 54 [] [(1, .int .i64 p1), (2, .int .i64 p2), (3, .pointer (some ⟨b1, 0, none⟩)), (6, .int .i64 0), (7, .int .i64 0), (8, .int .i64 0), (9, .bool false), (10, .int .i64 x1), (11, .pointer (some ⟨b2, 0, none⟩)), (33, .bool (decide (x2.1 = p1) && decide (x2.2.1 = p2)))] a ∧ Stw ⟨Y, [], w0⟩ [(b2, [.int .i64 x2.1, .int .i64 x2.2.1, .int .i64 x2.2.2.1, .int .i64 x2.2.2.2.1, .int .i64 x2.2.2.2.2.1, .int .i64 x2.2.2.2.2.2]), (b1, [.int .i64 p0.1, v1, v2])] [] w) ?_ ?_
   ·
    refine Ab ?_
    refine ls F W Aa (Ai Dh Aa Aa Aa T3 F Aa 0 Aa).q fun a w F W => ?_
    refine ls F W Aa (Ap (v := Value.int .i64 x2.1) 0 F Aa Aa T3 Aa).q fun a w F W => ?_
    refine ls F W Aa (Af F Aa).q fun a w F W => ?_
    refine ls F W Aa (Cf F Aa Aa).q fun a w F W => ?_
    refine ls F W Aa (Af F Aa).q fun a w F W => ?_
    rcases Bool.eq_false_or_eq_true (decide (x2.1 = p1)) with hb0 | hb0
    ·
     rw [hb0] at F
     refine AG F W (Ag F Aa Aa Aa Aa) Aa (Am Aa) (Ai Dh Aa Aa Aa T3 F Aa 1 Aa).q fun a w F W => ?_
     refine AG F W (Ag F Aa Aa Aa Aa) Aa (Am Aa) (Ap (v := Value.int .i64 x2.2.1) 0 F Aa Aa T3 Aa).q fun a w F W => ?_
     refine AG F W (Ag F Aa Aa Aa Aa) Aa (Am Aa) (Af F Aa).q fun a w F W => ?_
     refine AG F W (Ag F Aa Aa Aa Aa) Aa (Am Aa) (Cf F Aa Aa).q fun a w F W => ?_
     refine ls F W Aa (Aw F Aa Aa Aa).q fun a w F W => ?_
     refine Ae (Ac ?_)
     exact ⟨F.re ⟨rfl, Aa, Aa, Aa, Aa, Aa, Aa, Aa, Aa, (by show some (Value.bool (decide (x2.2.1 = p2))) = some (Value.bool (decide (x2.1 = p1) && decide (x2.2.1 = p2))); try rw [hb0]; all_goals simp only [Bool.not_true, Bool.not_false, Bool.true_and, Bool.false_and, Bool.true_or, Bool.false_or, Bool.and_true, Bool.or_false, cond_true, cond_false]), trivial⟩, W⟩
    rw [hb0] at F
    iterate 4 refine CL F Aa Aa Aa Aa Aa Aa Aa fun a F => ?_
    refine ls F W Aa (Ay F Aa Aa Aa).q fun a w F W => ?_
    refine Ae (Ac ?_)
    exact ⟨F.re ⟨rfl, Aa, Aa, Aa, Aa, Aa, Aa, Aa, Aa, (by show some (Value.bool false) = some (Value.bool (decide (x2.1 = p1) && decide (x2.2.1 = p2))); try rw [hb0]; all_goals simp only [Bool.not_true, Bool.not_false, Bool.true_and, Bool.false_and, Bool.true_or, Bool.false_or, Bool.and_true, Bool.or_false, cond_true, cond_false]), trivial⟩, W⟩
   rintro a w ⟨F, W⟩
   refine Av F Aa (fun hb => ?_) fun hb => ?_
   ·
    have H := AN hb H
    rw [hb] at F
    clear hb
    refine Ah ?_
    refine Cb W MO (by kernel_rfl) ?_
    refine qs F Aa (Ai Dh Aa Aa Aa T3 F Aa 2 Aa).q fun a F => ?_
    refine qs F Aa (Ap (v := Value.int .i64 x2.2.2.1) 0 F Aa Aa T3 Aa).q fun a F => ?_
    refine qs F Aa (Ai Dh Aa Aa Aa T3 F Aa 3 Aa).q fun a F => ?_
    refine qs F Aa (Ap (v := Value.int .i64 x2.2.2.2.1) 0 F Aa Aa T3 Aa).q fun a F => ?_
    refine qs F Aa (Af F Aa).q fun a F => ?_
    iterate 4 refine qs F Aa (Ad F Aa).q fun a F => ?_
    refine Bf fun w W => ?_
    refine Ac (Ax (AL (A8 ?_)))
    iterate 2 refine AL ?_
    refine A8 (AL ?_)
    have H := L2 _ H
    have H := L1 _ H
    have H := AP H
    subst H
    refine PQ (.inl Aa) F W Aa (Au F Aa) (Au F Aa) (Au F Aa) (Au F Aa) ?_
    exact ⟨rfl, W.done⟩
   have H := AO (by rw [hb]; decide) H
   rw [hb] at F
   clear hb
   refine Ao (Ac ?_)
   refine AE (fun a w => Fr 54 [] [(1, .int .i64 p1), (2, .int .i64 p2), (3, .pointer (some ⟨b1, 0, none⟩)), (6, .int .i64 0), (7, .int .i64 0), (8, .int .i64 0), (9, .bool false), (10, .int .i64 x1), (11, .pointer (some ⟨b2, 0, none⟩)), (48, .bool (decide (x2.2.2.1 = p1) && decide (x2.2.2.2.1 = p2)))] a ∧ Stw ⟨Y, [], w0⟩ [(b2, [.int .i64 x2.1, .int .i64 x2.2.1, .int .i64 x2.2.2.1, .int .i64 x2.2.2.2.1, .int .i64 x2.2.2.2.2.1, .int .i64 x2.2.2.2.2.2]), (b1, [.int .i64 p0.1, v1, v2])] [] w) ?_ ?_
   ·
    refine Ab ?_
    refine ls F W Aa (Ai Dh Aa Aa Aa T3 F Aa 2 Aa).q fun a w F W => ?_
    refine ls F W Aa (Ap (v := Value.int .i64 x2.2.2.1) 0 F Aa Aa T3 Aa).q fun a w F W => ?_
    refine ls F W Aa (Af F Aa).q fun a w F W => ?_
    refine ls F W Aa (Cf F Aa Aa).q fun a w F W => ?_
    refine ls F W Aa (Af F Aa).q fun a w F W => ?_
    rcases Bool.eq_false_or_eq_true (decide (x2.2.2.1 = p1)) with hb0 | hb0
    ·
     rw [hb0] at F
     refine AG F W (Ag F Aa Aa Aa Aa) Aa (Am Aa) (Ai Dh Aa Aa Aa T3 F Aa 3 Aa).q fun a w F W => ?_
     refine AG F W (Ag F Aa Aa Aa Aa) Aa (Am Aa) (Ap (v := Value.int .i64 x2.2.2.2.1) 0 F Aa Aa T3 Aa).q fun a w F W => ?_
     refine AG F W (Ag F Aa Aa Aa Aa) Aa (Am Aa) (Af F Aa).q fun a w F W => ?_
     refine AG F W (Ag F Aa Aa Aa Aa) Aa (Am Aa) (Cf F Aa Aa).q fun a w F W => ?_
     refine ls F W Aa (Aw F Aa Aa Aa).q fun a w F W => ?_
     refine Ae (Ac ?_)
     exact ⟨F.re ⟨rfl, Aa, Aa, Aa, Aa, Aa, Aa, Aa, Aa, (by show some (Value.bool (decide (x2.2.2.2.1 = p2))) = some (Value.bool (decide (x2.2.2.1 = p1) && decide (x2.2.2.2.1 = p2))); try rw [hb0]; all_goals simp only [Bool.not_true, Bool.not_false, Bool.true_and, Bool.false_and, Bool.true_or, Bool.false_or, Bool.and_true, Bool.or_false, cond_true, cond_false]), trivial⟩, W⟩
    rw [hb0] at F
    iterate 4 refine CL F Aa Aa Aa Aa Aa Aa Aa fun a F => ?_
    refine ls F W Aa (Ay F Aa Aa Aa).q fun a w F W => ?_
    refine Ae (Ac ?_)
    exact ⟨F.re ⟨rfl, Aa, Aa, Aa, Aa, Aa, Aa, Aa, Aa, (by show some (Value.bool false) = some (Value.bool (decide (x2.2.2.1 = p1) && decide (x2.2.2.2.1 = p2))); try rw [hb0]; all_goals simp only [Bool.not_true, Bool.not_false, Bool.true_and, Bool.false_and, Bool.true_or, Bool.false_or, Bool.and_true, Bool.or_false, cond_true, cond_false]), trivial⟩, W⟩
   rintro a w ⟨F, W⟩
   refine Av F Aa (fun hb => ?_) fun hb => ?_
   ·
    have H := AN hb H
    rw [hb] at F
    clear hb
    refine Ah ?_
    refine Cb W MO (by kernel_rfl) ?_
    refine qs F Aa (Ai Dh Aa Aa Aa T3 F Aa 0 Aa).q fun a F => ?_
    refine qs F Aa (Ap (v := Value.int .i64 x2.1) 0 F Aa Aa T3 Aa).q fun a F => ?_
    refine qs F Aa (Ai Dh Aa Aa Aa T3 F Aa 1 Aa).q fun a F => ?_
    refine qs F Aa (Ap (v := Value.int .i64 x2.2.1) 0 F Aa Aa T3 Aa).q fun a F => ?_
    refine qs F Aa (Af F Aa).q fun a F => ?_
    iterate 4 refine qs F Aa (Ad F Aa).q fun a F => ?_
    refine Bf fun w W => ?_
    refine Ac (Ax (A8 ?_))
    iterate 2 refine AL ?_
    refine A8 (AL ?_)
    have H := L2 _ H
    have H := L1 _ H
    have H := AP H
    subst H
    refine PQ (.inl Aa) F W Aa (Au F Aa) (Au F Aa) (Au F Aa) (Au F Aa) ?_
    exact ⟨rfl, W.done⟩
   have H := AO (by rw [hb]; decide) H
   rw [hb] at F
   clear hb
   refine Ao (AK (Ac (Ab ?_)))
   refine ls F W Aa (Af F Aa).q fun a w F W => ?_
   refine ls F W Aa (Bw F Aa Aa Aa).q fun a w F W => ?_
   refine ls F W Aa (Ad F Aa).q fun a w F W => ?_
   refine Ae (Ac ?_)
   have W := W.frontM (i := 1) Aa Aa
   have W := W.sub (M' := [(b1, [.int .i64 p0.1, v1, v2])]) (Z' := []) (List.Sublist.cons_cons _ (List.nil_sublist _)) (List.Sublist.refl _)
   exact ⟨_, H, F.re ⟨rfl, Aa, Aa, Aa, Aa, Aa, Aa, Aa, trivial⟩, W⟩
  have H := AO (Be hb) H
  rw [hb] at F
  clear hb
  refine A9 ?_
  iterate 2 refine Bl ?_
  refine A7 (Ac ?_)
  have H := L2 _ H
  exact ⟨H, F.re ⟨rfl, Aa, Aa, Aa, trivial⟩, W⟩
 rintro a w ⟨hj, F, W⟩
 have H := K1 _ hj
 clear hj G1 K1 L1
 refine Ah (Ab ?_)
 iterate 4 refine ls F W Aa (Ad F Aa).q fun a w F W => ?_
 refine Ae (Ac (Ax ?_))
 have H := AP H
 subst H
 refine PQ (.inl Aa) F W Aa (Au F Aa) (Au F Aa) (Au F Aa) (Au F Aa) ?_
 exact ⟨rfl, W.done⟩
theorem P9 : type_of% Try.underlying76 := Try.underlying76
theorem Lh : type_of% Try.underlying79 := Try.underlying79
theorem Tn : Has Try.prog 25 := ⟨fun args w => Aj Try.func25 rfl (by decide) args w⟩
theorem SU : Bt Try.prog 79 [.int .i64 0, .int .i64 0, .int .i64 0] [(0, 1), (1, 1), (2, 1)] := ⟨⟨.agg #[.int .i64 0, .int .i64 0, .int .i64 0], by kernel_rfl, rfl⟩, ⟨_, Lh, fun w => by kernel_rfl⟩⟩
theorem TA : (Try.prog.info? 79).bind (·.zero) = some (.agg #[.int .i64 0, .int .i64 0, .int .i64 0]) := by kernel_rfl
abbrev Gd : Rp (Int × Int × Int) := (Rp.pair (Rp.int .i64) (Rp.pair (Rp.int .i64) (Rp.int .i64)))
def S8 (a : Int × Int × Int) : List Value := [.int .i64 a.1, .int .i64 a.2.1, .int .i64 a.2.2]
theorem Qt : Fl Gd S8 := (Fl.pair Fl.int (Fl.pair Fl.int Fl.int))
theorem Qq : Et Try.prog 76 79 3 24 := Et.of P9 (by kernel_rfl) (by kernel_rfl) (by kernel_rfl) (by decide)
noncomputable def DM (p0 : Int × (List (Int × Int × Int × Int × Int × Int)) × (List (Int × Int))) (p1 : Int) : ((List (Int × Int × Int)) × Int) → Option (((List (Int × Int × Int)) × Int) ⊕ (List (Int × Int × Int)))
  | (x2, x3) => (if x3 < 8 then ((GL p0 p1 x3).bind fun x5 => (if x5.2.2.2 = true then (Hz x2 ([(x3, x5.1, x5.2.2.1)] : List (Int × Int × Int))).bind fun x6 => some x6 else some x2)).bind fun x4 => some (.inl (x4, BI (x3 + 1))) else some (.inr x2))
noncomputable def E8 (p0 : Int × (List (Int × Int × Int × Int × Int × Int)) × (List (Int × Int))) (p1 : Int) : Option (List (Int × Int × Int)) := (AH (DM p0 p1) ([], 0)).bind fun x1 => some x1
theorem HE (Y : Nat → Prop) (w0 : World) (v1 : Value) (v2 : Value) (p0 : Int × (List (Int × Int × Int × Int × Int × Int)) × (List (Int × Int))) (p1 : Int) (r : (List (Int × Int × Int))) (H : E8 p0 p1 = some r) (h_v1 : Sl w0 (NX []) Ff v1 p0.2.1) (h_v2 : Sl w0 (NX []) Fa v2 p0.2.2) :
    Calls Try.prog 36 #[.agg #[.int .i64 p0.1, v1, v2], .int .i64 p1] w0 fun e w' => ∃ x : Value, e = .returned (x) ∧ Stw ⟨Y, [], w0⟩ [] [row (x) 79 Gd r] w' := by
 refine enter Try.func36 Aa Try.ntmps36 Aa fun a F => ?_
 have W := Stw.start Y w0
 unfold E8 at H
 refine Ah (Ab ?_)
 refine DO (cs := [.int .i64 p0.1, v1, v2]) F W Aa Aa Aa fun b1 a w F W => ?_
 refine ls F W Aa (Ad F Aa).q fun a w F W => ?_
 refine Ae (Ac (Ah (Ab ?_)))
 refine ls F W Aa (Ad F Aa).q fun a w F W => ?_
 refine Ae (Ac ?_)
 obtain ⟨o1, G1, K1⟩ := Al H
 refine AE (fun a w => ∃ x1 : List (Int × Int × Int), ∃ v3 : Value, some (x1) = some o1 ∧ Fr 33 [] [(4, .slice none 0 0), (5, v3)] a ∧ Stw ⟨Y, [], w0⟩ [(b1, [.int .i64 p0.1, v1, v2])] [row v3 79 Gd x1] w) ?_ ?_
 ·
  have H := G1
  clear G1 K1
  refine Ah (Ab ?_)
  refine ls F W Aa (Ad F Aa).q fun a w F W => ?_
  refine Ae (Ac (Aq ?_))
  have W := W.nilRow 79 Gd
  refine A4 H (fun s a w => ∃ v4 : Value, Fr 33 [] [(1, .int .i64 p1), (2, .pointer (some ⟨b1, 0, none⟩)), (4, .slice none 0 0), (5, v4), (6, .int .i64 s.2)] a ∧ Stw ⟨Y, [], w0⟩ [(b1, [.int .i64 p0.1, v1, v2])] [row v4 79 Gd s.1] w) ⟨(Value.slice none 0 0), F.re ⟨rfl, Aa, Aa, Aa, Aa, trivial⟩, W⟩ fun s o a w H L2 hR => ?_
  obtain ⟨x2, x3⟩ := s
  obtain ⟨v4, F, W⟩ := hR
  have F : Fr 33 [] [(1, .int .i64 p1), (2, .pointer (some ⟨b1, 0, none⟩)), (4, .slice none 0 0), (5, v4), (6, .int .i64 x3)] a := F
  have W : Stw ⟨Y, [], w0⟩ [(b1, [.int .i64 p0.1, v1, v2])] [row v4 79 Gd x2] w := W
  rw [DM] at H
  refine Ah (Ah (Ab ?_))
  refine ls F W Aa (Af F Aa).q fun a w F W => ?_
  refine ls F W Aa (Bb F Aa Aa).q fun a w F W => ?_
  refine Ae (Ac ?_)
  refine Av F Aa (fun hb => ?_) fun hb => ?_
  ·
   have H := AN (Bd hb) H
   rw [hb] at F
   clear hb
   refine Ao (Ac ?_)
   obtain ⟨o3, G3, K3⟩ := Al H
   refine AE (fun a w => ∃ x4 : List (Int × Int × Int), ∃ v5 : Value, some (x4) = some o3 ∧ Fr 33 [] [(1, .int .i64 p1), (2, .pointer (some ⟨b1, 0, none⟩)), (4, .slice none 0 0), (5, v5), (6, .int .i64 x3)] a ∧ Stw ⟨Y, [], w0⟩ [(b1, [.int .i64 p0.1, v1, v2])] [row v5 79 Gd x4] w) ?_ ?_
   ·
    have H := G3
    clear G3 K3
    refine Aq (Ah (Ab ?_))
    refine ls F W Aa (Ap (v := Value.agg #[.int .i64 p0.1, v1, v2]) 0 F Aa Aa GC Aa).q fun a w F W => ?_
    iterate 2 refine ls F W Aa (Af F Aa).q fun a w F W => ?_
    obtain ⟨x5, h1, H⟩ := Al H
    refine ls F W Aa (AX (v := Value.tuple #[.int .i64 x5.1, .int .i64 x5.2.1, .int .i64 x5.2.2.1, .bool x5.2.2.2]) F Tn Aa (fun w W => ME any w (v1) (v2) p0 p1 x3 _ h1 (((Ak h_v1) : Dw _ _ _ _ _ _) w W).nx (((Ak h_v2) : Dw _ _ _ _ _ _) w W).nx)) fun a w F W => ?_
    refine ls F W Aa (Af F Aa).q fun a w F W => ?_
    refine ls F W Aa (Bj (v := Value.int .i64 x5.1) F Aa Aa).q fun a w F W => ?_
    refine ls F W Aa (Bj (v := Value.int .i64 x5.2.1) F Aa Aa).q fun a w F W => ?_
    refine ls F W Aa (Bj (v := Value.int .i64 x5.2.2.1) F Aa Aa).q fun a w F W => ?_
    refine ls F W Aa (Bj (v := Value.bool x5.2.2.2) F Aa Aa).q fun a w F W => ?_
    iterate 4 refine ls F W Aa (Ad F Aa).q fun a w F W => ?_
    refine Ae (Ac (Ah (Ab ?_)))
    refine ls F W Aa (Af F Aa).q fun a w F W => ?_
    refine Ae (Ac ?_)
    refine Av F Aa (fun hb => ?_) fun hb => ?_
    ·
     have H := AN hb H
     rw [hb] at F
     clear hb
     refine Ab ?_
     iterate 4 refine ls F W Aa (Af F Aa).q fun a w F W => ?_
     refine ls F W Aa (Ei (v := Value.agg #[.int .i64 x3, .int .i64 x5.1, .int .i64 x5.2.2.1]) SU F Aa Aa Aa).q fun a w F W => ?_
     refine Dq (z := Value.agg #[.int .i64 0, .int .i64 0, .int .i64 0]) (cs := [.int .i64 x3, .int .i64 x5.1, .int .i64 x5.2.2.1]) Gd ([(x3, x5.1, x5.2.2.1)] : List (Int × Int × Int)) F W Aa Qq TA Aa Aa Aa Aa Aa Aa (Qt.repL _ _ ([(x3, x5.1, x5.2.2.1)] : List (Int × Int × Int))) fun v6 a w F W => ?_
     obtain ⟨x6, h2, H⟩ := Al H
     refine Cj (r := Gd) (i := 1) F W Aa Qq Aa Aa Aa Aa (Cz W 0 Aa) h2 Aa fun v7 a w F W => ?_
     have W : Stw ⟨Y, [], w0⟩ [(b1, [.int .i64 p0.1, v1, v2])] [row v7 79 Gd x6, row v6 79 Gd ([(x3, x5.1, x5.2.2.1)] : List (Int × Int × Int))] w := W
     refine ls F W Aa (Ad F Aa).q fun a w F W => ?_
     refine Ae (AK (Ac ?_))
     have W := W.sub (M' := [(b1, [.int .i64 p0.1, v1, v2])]) (Z' := [row v7 79 Gd x6]) (List.Sublist.refl _) (List.Sublist.cons_cons _ (List.nil_sublist _))
     exact ⟨_, (v7), H, F.re ⟨rfl, Aa, Aa, Aa, Aa, trivial⟩, W⟩
    have H := AO (by rw [hb]; decide) H
    rw [hb] at F
    clear hb
    refine Ao (AK (Ac ?_))
    exact ⟨_, (v4), H, F.re ⟨rfl, Aa, Aa, Aa, Aa, trivial⟩, W⟩
   rintro a w ⟨x4, v5, hj, F, W⟩
   have hj := AP hj
   subst hj
   have H := K3
   clear G3 K3
   refine Ab ?_
   refine ls F W Aa (Af F Aa).q fun a w F W => ?_
   refine ls F W Aa (Bw F Aa Aa Aa).q fun a w F W => ?_
   refine ls F W Aa (Ad F Aa).q fun a w F W => ?_
   refine Ae (Ac ?_)
   exact ⟨_, H, (v5), F.re ⟨rfl, Aa, Aa, Aa, Aa, trivial⟩, W⟩
  have H := AO (Be hb) H
  rw [hb] at F
  clear hb
  refine A9 ?_
  iterate 2 refine Bl ?_
  refine A7 (Ac ?_)
  have H := L2 _ H
  exact ⟨_, (v4), H, F.re ⟨rfl, Aa, trivial⟩, W⟩
 rintro a w ⟨x1, v3, hj, F, W⟩
 have hj := AP hj
 subst hj
 have H := K1
 clear G1 K1
 refine Ah (Ab ?_)
 refine ls F W Aa (Af F Aa).q fun a w F W => ?_
 refine ls F W Aa (Ad F Aa).q fun a w F W => ?_
 refine Ae (Ac (Ax ?_))
 have H := AP H
 subst H
 refine AQ (.inl Aa) F W Aa (Au F Aa) ?_
 have W := W.sub (M' := []) (Z' := [row v3 79 Gd x1]) (List.nil_sublist _) (List.Sublist.refl _)
 exact ⟨(v3), Aa, W⟩
theorem Se : Has Try.prog 36 := ⟨fun args w => Aj Try.func36 rfl (by decide) args w⟩
def BF (p0 : Int) : Int := (if 9218868437227405312 < (Int.tmod p0 9223372036854775808) then 9221120237041090561 else p0)
theorem I2 (Y : Nat → Prop) (w0 : World)  (p0 : Int) (r : Int) (H : BF p0 = r)  :
    Calls Try.prog 58 #[.int .u64 p0] w0 fun e w' => e = .returned (.int .u64 r) ∧ Below w0.heap.size w0 w' := by
 refine enter Try.func58 Aa Try.ntmps58 Aa fun a F => ?_
 have W := Stw.start Y w0
 unfold BF at H
 refine Ah (Ab ?_)
 refine ls F W Aa (Ad F Aa).q fun a w F W => ?_
 refine Ae (Ac (Ah (Ah (Ab ?_))))
 refine ls F W Aa (Af F Aa).q fun a w F W => ?_
 refine ls F W Aa (Rx F Aa Aa (by decide) Aa).q fun a w F W => ?_
 refine ls F W Aa (DL F Aa Aa).q fun a w F W => ?_
 refine Ae (Ac ?_)
 refine Av F Aa (fun hb => ?_) fun hb => ?_
 ·
  have H := AN (Bd hb) H
  rw [hb] at F
  clear hb
  refine Ah (Ab ?_)
  refine ls F W Aa (Ad F Aa).q fun a w F W => ?_
  refine Ae (Ac (Ax (AL ?_)))
  subst H
  refine AQ (.inl Aa) F W Aa (Au F Aa) ?_
  exact ⟨rfl, W.done⟩
 have H := AO (Be hb) H
 rw [hb] at F
 clear hb
 refine Ao (Ac (Ah (Ab ?_)))
 refine ls F W Aa (Af F Aa).q fun a w F W => ?_
 refine ls F W Aa (Ad F Aa).q fun a w F W => ?_
 refine Ae (Ac (Ax ?_))
 subst H
 refine AQ (.inl Aa) F W Aa (Au F Aa) ?_
 exact ⟨rfl, W.done⟩
theorem Hv {a : Nat} (h : 9218868437227405312 < a % 9223372036854775808) : BF (a : Int) = BF ((9221120237041090561 : Nat) : Int) := by
  unfold BF
  rw [Int.tmod_eq_emod_of_nonneg (by omega), if_pos (by omega), if_pos (by decide)]
theorem Lp {a b : Nat} (h : EU a = EU b) : BF (a : Int) = BF (b : Int) := QC (f := fun a : Nat => BF (a : Int)) (fun a h => Hv h) h
theorem Sh : Has Try.prog 58 := ⟨fun args w => Aj Try.func58 rfl (by decide) args w⟩
def EC (p0 : Int) (p1 : Int) : Int := (if (BF (((FV (Int.toNat p0) (Int.toNat p1)) : Nat) : Int)) = 9223372036854775808 then 0 else (BF (((FV (Int.toNat p0) (Int.toNat p1)) : Nat) : Int)))
theorem J2 (Y : Nat → Prop) (w0 : World)  (p0 : Int) (p1 : Int) (r : Int) (H : EC p0 p1 = r)  :
    Calls Try.prog 37 #[.int .u64 p0, .int .u64 p1] w0 fun e w' => e = .returned (.int .u64 r) ∧ Below w0.heap.size w0 w' := by
 refine enter Try.func37 Aa Try.ntmps37 Aa fun a F => ?_
 have W := Stw.start Y w0
 unfold EC at H
 refine Ah (Ab ?_)
 refine ls F W Aa (Ad F Aa).q fun a w F W => ?_
 refine Ae (Ac (Ah (Ab ?_)))
 refine ls F W Aa (Af F Aa).q fun a w F W => ?_
 refine ls F W Aa (Hy (v := Value.float .f64 (Int.toNat p0)) F Rc Aa (fun w => rfl)).q fun a w F W => ?_
 refine ls F W Aa (Af F Aa).q fun a w F W => ?_
 refine ls F W Aa (Hy (v := Value.float .f64 (Int.toNat p1)) F Rc Aa (fun w => rfl)).q fun a w F W => ?_
 refine OY F W Aa Aa Aa fun b1 a w c_b1 F W => ?_
 refine ls F W Aa (Hy (v := Value.int .u64 (b1 : Int)) F RC Aa (fun w => rfl)).q fun a w F W => ?_
 refine ls F W Aa (AX (v := Value.int .u64 (BF (b1 : Int))) F Sh Aa (fun w W => I2 any w (b1 : Int) _ Aa)) fun a w F W => ?_
 rw [Lp c_b1] at F
 refine ls F W Aa (Ad F Aa).q fun a w F W => ?_
 refine Ae (Ac (Ah (Ah (Ab ?_))))
 refine ls F W Aa (Af F Aa).q fun a w F W => ?_
 refine ls F W Aa (Cf F Aa Aa).q fun a w F W => ?_
 refine Ae (Ac ?_)
 refine Av F Aa (fun hb => ?_) fun hb => ?_
 ·
  have H := AN (Bd hb) H
  rw [hb] at F
  clear hb
  refine Ah (Ab ?_)
  refine ls F W Aa (Ad F Aa).q fun a w F W => ?_
  refine Ae (Ac (Ax (AL ?_)))
  subst H
  refine AQ (.inl Aa) F W Aa (Au F Aa) ?_
  exact ⟨rfl, W.done⟩
 have H := AO (Be hb) H
 rw [hb] at F
 clear hb
 refine Ao (Ac (Ah (Ab ?_)))
 refine ls F W Aa (Af F Aa).q fun a w F W => ?_
 refine ls F W Aa (Ad F Aa).q fun a w F W => ?_
 refine Ae (Ac (Ax ?_))
 subst H
 refine AQ (.inl Aa) F W Aa (Au F Aa) ?_
 exact ⟨rfl, W.done⟩
end Go.Proofs.Ytbogijdfacoccaa
