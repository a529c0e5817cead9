/- The functions of layer 36, ES. Conditions: none. -/
import Derived.Test.YtdllfdmdfdfilaaDoorpA0
namespace Go.Proofs.YtdllfdmdfdfilaaDoor
open Go Go.RowKit
set_option linter.unusedVariables false
set_option linter.unusedSimpArgs false
set_option maxRecDepth 20000
theorem J2 : Has Tryd.prog 28 := ⟨fun args w => An Tryd.func28 rfl (by decide) args w⟩
theorem Kl : Has Tryd.prog 27 := ⟨fun args w => An Tryd.func27 rfl (by decide) args w⟩
theorem Kk : Has Tryd.prog 29 := ⟨fun args w => An Tryd.func29 rfl (by decide) args w⟩
noncomputable def A2 (p0 : List (Int × Int × Int × Int)) : (Int × List UInt8) → Option ((Int × List UInt8) ⊕ (List UInt8))
  | (x2, x3) => (if x2 < (p0.length : Int) then (ix p0 x2).bind fun x4 => (Bd x4).bind fun x5 => (CL x5 ([10] : List UInt8)).bind fun x6 => (CL x3 x6).bind fun x7 => some (.inl (Bn (x2 + 1), x7)) else some (.inr x3))
noncomputable def Bc (p0 : List (Int × Int × Int × Int)) : Option (List UInt8) := (AP (A2 p0) (0, ([] : List UInt8))).bind fun x1 => (Gu x1).bind fun x8 => some x8
theorem CD (Y : Nat → Prop) (w0 : World) (v1 : Value) (p0 : List (Int × Int × Int × Int)) (r : List UInt8) (H : Bc p0 = some r) (h_v1 : Sl w0 (NX []) B2 v1 p0) (hG : Gk [] w0) :
    Calls Tryd.prog 19 #[v1] w0 fun e w' => e = .returned (.string (bs r)) ∧ Below w0.heap.size w0 w' := by
 refine enter Tryd.func19 Aa Tryd.ntmps19 Aa fun a F => ?_
 have W := Stw.start Y w0
 unfold Bc at H
 refine Ai (Ac ?_)
 refine ls F W Aa (Ad (v := Value.string (bs ([] : List UInt8))) F Aa).q fun a w F W => ?_
 refine Ae (Ab (Ai (Ac ?_)))
 refine H3 F W Aa fun b1 a w F W => ?_
 have W : Stw ⟨Y, [], w0⟩ [] [C3 68 5 b1 (Value.slice none 0 0) ([] : List UInt8)] w := W
 refine Ae (Ab ?_)
 obtain ⟨o1, G1, K1⟩ := Ap H
 refine AL (fun a w => ∃ x1 : List UInt8, ∃ v2 : Value, some (x1) = some o1 ∧ Fr 18 [] [(2, .string (bs ([] : List UInt8))), (3, .pointer (some ⟨b1, 0, none⟩))] a ∧ Stw ⟨Y, [], w0⟩ [] [C3 68 5 b1 v2 x1] w) ?_ ?_
 ·
  have H := G1
  clear G1 K1
  refine Ai (Ac ?_)
  refine ls F W Aa (Af F Aa).q fun a w F W => ?_
  refine ls F W Aa (CB (r := B2) (l := p0) FF Aa F Aa (AU h_v1)).q fun a w F W => ?_
  refine ls F W Aa (Af F Aa).q fun a w F W => ?_
  refine Ae (Ab (AC ?_))
  refine Bz H (fun s a w => ∃ v3 : Value, Fr 18 [] [(2, .string (bs ([] : List UInt8))), (3, .pointer (some ⟨b1, 0, none⟩)), (6, v1), (7, .int .i64 (p0.length : Int)), (8, .int .i64 s.1)] a ∧ Stw ⟨Y, [], w0⟩ [] [C3 68 5 b1 v3 s.2] w) ⟨(Value.slice none 0 0), F.re ⟨rfl, Aa, Aa, Aa, Aa, trivial⟩, W⟩ fun s o a w H L2 hR => ?_
  obtain ⟨x2, x3⟩ := s
  obtain ⟨v3, F, W⟩ := hR
  have F : Fr 18 [] [(2, .string (bs ([] : List UInt8))), (3, .pointer (some ⟨b1, 0, none⟩)), (6, v1), (7, .int .i64 (p0.length : Int)), (8, .int .i64 x2)] a := F
  have W : Stw ⟨Y, [], w0⟩ [] [C3 68 5 b1 v3 x3] w := W
  rw [A2] at H
  refine Ai (Ac ?_)
  refine ls F W Aa (BR F Aa Aa).q fun a w F W => ?_
  refine Ae (Ab (Ai ?_))
  refine Ax F Aa (fun hb => ?_) fun hb => ?_
  ·
   have H := AN (A1 hb) H
   rw [hb] at F
   clear hb
   refine AE (Ab (Ai (AC (Ai (Ac ?_)))))
   obtain ⟨x4, h1, H⟩ := Ap H
   refine ls F W Aa (BH (r := B2) H2 F Aa Aa (AU h_v1) h1).q fun a w F W => ?_
   refine ls F W Aa (A9 (y := Value.agg #[.int .i64 x4.1, .int .i64 x4.2.1, .int .i64 x4.2.2.1, .int .i64 x4.2.2.2]) (j := 0) (i := x2) F Aa Aa (AU h_v1) h1 IP.to EE Aa).q fun a w F W => ?_
   refine Bp (cs := [.int .i64 0, .int .i64 0, .int .i64 0, .int .i64 0]) F W Aa IG Aa fun b2 a w F W => ?_
   refine AG (vs := [.int .i64 x4.1, .int .i64 x4.2.1, .int .i64 x4.2.2.1, .int .i64 x4.2.2.2]) (M' := [(b2, [.int .i64 x4.1, .int .i64 x4.2.1, .int .i64 x4.2.2.1, .int .i64 x4.2.2.2])]) 0 F W Aa Aa Aa EE Aa Aa Aa Aa Aa fun w W => ?_
   refine Ae (Ab (Ac ?_))
   refine ls F W Aa (Aq (v := Value.agg #[.int .i64 x4.1, .int .i64 x4.2.1, .int .i64 x4.2.2.1, .int .i64 x4.2.2.2]) 0 F Aa Aa EE Aa).q fun a w F W => ?_
   obtain ⟨x5, h2, H⟩ := Ap H
   refine ls F W Aa (AK (v := Value.string (bs x5)) F J2 Aa (fun w W => Dl any w x4 _ h2 (hG.go0 W))) fun a w F W => ?_
   obtain ⟨x6, h3, H⟩ := Ap H
   refine ls F W Aa (BD (l := x5) (m := ([10] : List UInt8)) F Aa Aa h3).q fun a w F W => ?_
   obtain ⟨x7, h4, H⟩ := Ap H
   refine B9 (Ml := []) (Zl := [C3 68 5 b1 v3 x3]) (M := [(b2, [.int .i64 x4.1, .int .i64 x4.2.1, .int .i64 x4.2.2.1, .int .i64 x4.2.2.2])]) (Z := []) (β := Value) (rv := fun x => .tuple #[.int .i64 (x6.length : Int), .nilIface]) (MM := fun x => []) (ZZ := fun x => [C3 68 5 b1 x x7]) F W Kl Aa Aa (fun hL => JU _ _ w b1 v3 x3 x6 _ h4 hL) fun v4 a w F W => ?_
   have W : Stw ⟨Y, [], w0⟩ [(b2, [.int .i64 x4.1, .int .i64 x4.2.1, .int .i64 x4.2.2.1, .int .i64 x4.2.2.2])] [C3 68 5 b1 v4 x7] w := W
   refine Ae (AQ (Ab (Ac ?_)))
   refine ls F W Aa (Bo F Aa Aa Aa).q fun a w F W => ?_
   refine ls F W Aa (Af F Aa).q fun a w F W => ?_
   refine Ae (Ab ?_)
   have W := W.sub (M' := []) (Z' := [C3 68 5 b1 v4 x7]) (List.nil_sublist _) (List.Sublist.refl _)
   exact ⟨_, H, v4, F.re ⟨rfl, Aa, Aa, Aa, Aa, trivial⟩, W⟩
  have H := AO (A0 hb) H
  rw [hb] at F
  clear hb
  refine BA ?_
  iterate 2 refine B0 ?_
  refine BB (Ab ?_)
  have H := L2 _ H
  exact ⟨_, v3, H, F.re ⟨rfl, Aa, trivial⟩, W⟩
 rintro a w ⟨x1, v2, hj, F, W⟩
 have hj := AR hj
 subst hj
 have H := K1
 clear G1 K1
 refine Ai (Ac ?_)
 obtain ⟨x8, h5, H⟩ := Ap H
 refine B9 (Ml := []) (Zl := [C3 68 5 b1 v2 x1]) (M := []) (Z := []) (β := Unit) (rv := fun x => .string (bs x8)) (MM := fun x => []) (ZZ := fun x => [C3 68 5 b1 v2 x1]) F W Kk Aa Aa (fun hL => JF _ _ w b1 v2 x1 _ h5 hL) fun _ a w F W => ?_
 have W : Stw ⟨Y, [], w0⟩ [] [C3 68 5 b1 v2 x1] w := W
 refine ls F W Aa (Ad F Aa).q fun a w F W => ?_
 refine Ae (Ab (Aw ?_))
 have H := AR H
 subst H
 refine AY (.inl Aa) F W Aa (As F Aa) ?_
 exact ⟨rfl, W.done⟩
theorem JJ : Has Tryd.prog 19 := ⟨fun args w => An Tryd.func19 rfl (by decide) args w⟩
noncomputable def B3  : Option Bool := (BL ([(1, 1, 2, 30), (2, 1, 0, 0), (3, 1, 0, 0), (5, 1, 0, 0)] : List (Int × Int × Int × Int))).bind fun x1 => (if x1.2.2 = 0 then (if x1.2.1 = 4 then (if x1.1.1 = 1 ∧ x1.1.2.1 = 2 ∧ x1.1.2.2.1 = false ∧ x1.1.2.2.2.1 = 0 ∧ x1.1.2.2.2.2.1 = 0 ∧ x1.1.2.2.2.2.2.1 = 0 ∧ x1.1.2.2.2.2.2.2.1 = false ∧ x1.1.2.2.2.2.2.2.2.1 = false ∧ x1.1.2.2.2.2.2.2.2.2 = 0 then (B8 ([(1, 1, 2, 30), (2, 1, 0, 0), (3, 1, 0, 0), (5, 1, 0, 0)] : List (Int × Int × Int × Int)) 1).bind fun x3 => (if x3 = 2 then (CM ([(1, 1, 2, 30), (2, 1, 0, 0), (3, 1, 0, 0), (5, 1, 0, 0)] : List (Int × Int × Int × Int)) 0 2).bind fun x4 => (Bc x4).bind fun x5 => some (decide (x5 = ([98, 101, 103, 105, 110, 32, 49, 32, 50, 32, 51, 48, 10, 97, 114, 109, 32, 49, 32, 48, 32, 48, 10] : List UInt8))) else some false) else some false) else some false) else some false).bind fun x2 => some x2
theorem Dq (Y : Nat → Prop) (w0 : World)   (r : Bool) (H : B3  = some r) (hG : Gk [] w0) :
    Calls Tryd.prog 6 #[] w0 fun e w' => e = .returned (.bool r) ∧ Below w0.heap.size w0 w' := by
 refine enter Tryd.func6 Aa Tryd.ntmps6 Aa fun a F => ?_
 have W := Stw.start Y w0
 unfold B3 at H
 refine Ai (Ac ?_)
 refine ls F W Aa (Ad F Aa).q fun a w F W => ?_
 refine Ae (Ab (Ai (Ac ?_)))
 refine ls F W Aa (Bx (v := Value.agg #[.int .i64 1, .int .i64 1, .int .i64 2, .int .i64 30]) IB F Aa Aa Aa).q fun a w F W => ?_
 refine ls F W Aa (Bx (v := Value.agg #[.int .i64 2, .int .i64 1, .int .i64 0, .int .i64 0]) IB F Aa Aa Aa).q fun a w F W => ?_
 refine ls F W Aa (Bx (v := Value.agg #[.int .i64 3, .int .i64 1, .int .i64 0, .int .i64 0]) IB F Aa Aa Aa).q fun a w F W => ?_
 refine ls F W Aa (Bx (v := Value.agg #[.int .i64 5, .int .i64 1, .int .i64 0, .int .i64 0]) IB F Aa Aa Aa).q fun a w F W => ?_
 refine F6 (z := Value.agg #[.int .i64 0, .int .i64 0, .int .i64 0, .int .i64 0]) (cs := [.int .i64 1, .int .i64 1, .int .i64 2, .int .i64 30, .int .i64 2, .int .i64 1, .int .i64 0, .int .i64 0, .int .i64 3, .int .i64 1, .int .i64 0, .int .i64 0, .int .i64 5, .int .i64 1, .int .i64 0, .int .i64 0]) B2 ([(1, 1, 2, 30), (2, 1, 0, 0), (3, 1, 0, 0), (5, 1, 0, 0)] : List (Int × Int × Int × Int)) F W Aa H2 IG Aa Aa Aa Aa Aa Aa (IP.repL _ _ ([(1, 1, 2, 30), (2, 1, 0, 0), (3, 1, 0, 0), (5, 1, 0, 0)] : List (Int × Int × Int × Int))) fun v1 a w F W => ?_
 refine ls F W Aa (Ad F Aa).q fun a w F W => ?_
 refine Ae (Ab (Ai (Ac ?_)))
 refine ls F W Aa (Af F Aa).q fun a w F W => ?_
 obtain ⟨x1, h1, H⟩ := Ap H
 refine ls F W Aa (AK (v := Value.tuple #[.agg #[.int .i64 x1.1.1, .int .i64 x1.1.2.1, .bool x1.1.2.2.1, .int .i64 x1.1.2.2.2.1, .int .i64 x1.1.2.2.2.2.1, .int .i64 x1.1.2.2.2.2.2.1, .bool x1.1.2.2.2.2.2.2.1, .bool x1.1.2.2.2.2.2.2.2.1, .int .i64 x1.1.2.2.2.2.2.2.2.2], .int .i64 x1.2.1, .int .i64 x1.2.2]) F Kq Aa (fun w W => Ec any w (v1) ([(1, 1, 2, 30), (2, 1, 0, 0), (3, 1, 0, 0), (5, 1, 0, 0)] : List (Int × Int × Int × Int)) _ h1 (((A3 0 Aa) : FT _ _ _ _ _ _) w W).nx)) fun a w F W => ?_
 refine ls F W Aa (Af F Aa).q fun a w F W => ?_
 refine ls F W Aa (Ay (v := Value.agg #[.int .i64 x1.1.1, .int .i64 x1.1.2.1, .bool x1.1.2.2.1, .int .i64 x1.1.2.2.2.1, .int .i64 x1.1.2.2.2.2.1, .int .i64 x1.1.2.2.2.2.2.1, .bool x1.1.2.2.2.2.2.2.1, .bool x1.1.2.2.2.2.2.2.2.1, .int .i64 x1.1.2.2.2.2.2.2.2.2]) F Aa Aa).q fun a w F W => ?_
 refine ls F W Aa (Ay (v := Value.int .i64 x1.2.1) F Aa Aa).q fun a w F W => ?_
 refine ls F W Aa (Ay (v := Value.int .i64 x1.2.2) F Aa Aa).q fun a w F W => ?_
 refine Bp (cs := [.int .i64 0, .int .i64 0, .bool false, .int .i64 0, .int .i64 0, .int .i64 0, .bool false, .bool false, .int .i64 0]) F W Aa Jq Aa fun b1 a w F W => ?_
 refine AG (vs := [.int .i64 x1.1.1, .int .i64 x1.1.2.1, .bool x1.1.2.2.1, .int .i64 x1.1.2.2.2.1, .int .i64 x1.1.2.2.2.2.1, .int .i64 x1.1.2.2.2.2.2.1, .bool x1.1.2.2.2.2.2.2.1, .bool x1.1.2.2.2.2.2.2.2.1, .int .i64 x1.1.2.2.2.2.2.2.2.2]) (M' := [(b1, [.int .i64 x1.1.1, .int .i64 x1.1.2.1, .bool x1.1.2.2.1, .int .i64 x1.1.2.2.2.1, .int .i64 x1.1.2.2.2.2.1, .int .i64 x1.1.2.2.2.2.2.1, .bool x1.1.2.2.2.2.2.2.1, .bool x1.1.2.2.2.2.2.2.2.1, .int .i64 x1.1.2.2.2.2.2.2.2.2])]) 0 F W Aa Aa Aa El Aa Aa Aa Aa Aa fun w W => ?_
 iterate 2 refine ls F W Aa (Ad F Aa).q fun a w F W => ?_
 refine Ae (Ab ?_)
 obtain ⟨o1, G1, K1⟩ := Ap H
 refine AL (fun a w => ∃ x2 : Bool, some (x2) = some o1 ∧ Fr 38 [] [(0, .bool x2)] a ∧ Stw ⟨Y, [], w0⟩ [(b1, [.int .i64 x1.1.1, .int .i64 x1.1.2.1, .bool x1.1.2.2.1, .int .i64 x1.1.2.2.2.1, .int .i64 x1.1.2.2.2.2.1, .int .i64 x1.1.2.2.2.2.2.1, .bool x1.1.2.2.2.2.2.2.1, .bool x1.1.2.2.2.2.2.2.2.1, .int .i64 x1.1.2.2.2.2.2.2.2.2])] [] w) ?_ ?_
 ·
  have H := G1
  clear G1 K1
  refine Ac ?_
  refine ls F W Aa (Af F Aa).q fun a w F W => ?_
  refine ls F W Aa (A7 F Aa Aa).q fun a w F W => ?_
  refine ls F W Aa (Af F Aa).q fun a w F W => ?_
  rcases Bool.eq_false_or_eq_true (decide (x1.2.2 = 0)) with hb | hb
  ·
   have H := AN (A1 hb) H
   rw [hb] at F
   clear hb
   refine Av F W (Ag F Aa Aa Aa Aa) Aa (Ao Aa) (Af F Aa).q fun a w F W => ?_
   refine Av F W (Ag F Aa Aa Aa Aa) Aa (Ao Aa) (A7 F Aa Aa).q fun a w F W => ?_
   refine ls F W Aa (Am F Aa Aa Aa).q fun a w F W => ?_
   refine ls F W Aa (Af F Aa).q fun a w F W => ?_
   rcases Bool.eq_false_or_eq_true (decide (x1.2.1 = 4)) with hb | hb
   ·
    have H := AN (A1 hb) H
    rw [hb] at F
    clear hb
    refine Av F W (Ag F Aa Aa Aa Aa) Aa (Ao Aa) (Aq (v := Value.agg #[.int .i64 x1.1.1, .int .i64 x1.1.2.1, .bool x1.1.2.2.1, .int .i64 x1.1.2.2.2.1, .int .i64 x1.1.2.2.2.2.1, .int .i64 x1.1.2.2.2.2.2.1, .bool x1.1.2.2.2.2.2.2.1, .bool x1.1.2.2.2.2.2.2.2.1, .int .i64 x1.1.2.2.2.2.2.2.2.2]) 0 F Aa Aa El Aa).q fun a w F W => ?_
    refine Av F W (Ag F Aa Aa Aa Aa) Aa (Ao Aa) (Bx (v := Value.agg #[.int .i64 1, .int .i64 2, .bool false, .int .i64 0, .int .i64 0, .int .i64 0, .bool false, .bool false, .int .i64 0]) Js F Aa Aa Aa).q fun a w F W => ?_
    refine Av F W (Ag F Aa Aa Aa Aa) Aa (Ao Aa) (Jy (t := decide (x1.1.1 = 1 ∧ x1.1.2.1 = 2 ∧ x1.1.2.2.1 = false ∧ x1.1.2.2.2.1 = 0 ∧ x1.1.2.2.2.2.1 = 0 ∧ x1.1.2.2.2.2.2.1 = 0 ∧ x1.1.2.2.2.2.2.2.1 = false ∧ x1.1.2.2.2.2.2.2.2.1 = false ∧ x1.1.2.2.2.2.2.2.2.2 = 0)) J9 (Kp _ _ _ _ _ _ _ _ _ _ _ _ _ _ _ _ _ _) F Aa Aa).q fun a w F W => ?_
    refine ls F W Aa (Am F Aa Aa Aa).q fun a w F W => ?_
    refine ls F W Aa (Af F Aa).q fun a w F W => ?_
    rcases Bool.eq_false_or_eq_true (decide (x1.1.1 = 1 ∧ x1.1.2.1 = 2 ∧ x1.1.2.2.1 = false ∧ x1.1.2.2.2.1 = 0 ∧ x1.1.2.2.2.2.1 = 0 ∧ x1.1.2.2.2.2.2.1 = 0 ∧ x1.1.2.2.2.2.2.2.1 = false ∧ x1.1.2.2.2.2.2.2.2.1 = false ∧ x1.1.2.2.2.2.2.2.2.2 = 0)) with hb | hb
    ·
     have H := AN (A1 hb) H
     rw [hb] at F
     clear hb
     refine Av F W (Ag F Aa Aa Aa Aa) Aa (Ao Aa) (Af F Aa).q fun a w F W => ?_
     refine Ed (Ag F Aa Aa Aa Aa) ?_
     obtain ⟨x3, h2, H⟩ := Ap H
     refine ls F W Aa (AK (v := Value.int .i64 x3) F J6 Aa (fun w W => EP any w (v1) ([(1, 1, 2, 30), (2, 1, 0, 0), (3, 1, 0, 0), (5, 1, 0, 0)] : List (Int × Int × Int × Int)) 1 _ h2 (((A3 0 Aa) : FT _ _ _ _ _ _) w W).nx)) fun a w F W => ?_
     refine Av F W (Ag F Aa Aa Aa Aa) Aa (Ao Aa) (A7 F Aa Aa).q fun a w F W => ?_
     refine ls F W Aa (Am F Aa Aa Aa).q fun a w F W => ?_
     refine ls F W Aa (Af F Aa).q fun a w F W => ?_
     rcases Bool.eq_false_or_eq_true (decide (x3 = 2)) with hb | hb
     ·
      have H := AN (A1 hb) H
      rw [hb] at F
      clear hb
      refine Av F W (Ag F Aa Aa Aa Aa) Aa (Ao Aa) (Af F Aa).q fun a w F W => ?_
      obtain ⟨x4, h3, H⟩ := Ap H
      refine Av F W (Ag F Aa Aa Aa Aa) Aa (Ao Aa) (IE (r := B2) H2 F Aa Aa Aa (A3 0 Aa) h3).q fun a w F W => ?_
      refine Ed (Ag F Aa Aa Aa Aa) ?_
      obtain ⟨x5, h4, H⟩ := Ap H
      refine ls F W Aa (AK (v := Value.string (bs x5)) F JJ Aa (fun w W => CD any w ((Cf v1 (0 : Int) (2 : Int) 4)) x4 _ h4 (((Il (A3 0 Aa) h3) : FT _ _ _ _ _ _) w W).nx (hG.go0 W))) fun a w F W => ?_
      refine Av F W (Ag F Aa Aa Aa Aa) Aa (Ao Aa) (Gc (l := x5) (m := ([98, 101, 103, 105, 110, 32, 49, 32, 50, 32, 51, 48, 10, 97, 114, 109, 32, 49, 32, 48, 32, 48, 10] : List UInt8)) F Aa Aa).q fun a w F W => ?_
      refine ls F W Aa (Am F Aa Aa Aa).q fun a w F W => ?_
      refine ls F W Aa (Ad F Aa).q fun a w F W => ?_
      refine Ae (Ab ?_)
      have W := W.sub (M' := [(b1, [.int .i64 x1.1.1, .int .i64 x1.1.2.1, .bool x1.1.2.2.1, .int .i64 x1.1.2.2.2.1, .int .i64 x1.1.2.2.2.2.1, .int .i64 x1.1.2.2.2.2.2.1, .bool x1.1.2.2.2.2.2.2.1, .bool x1.1.2.2.2.2.2.2.2.1, .int .i64 x1.1.2.2.2.2.2.2.2.2])]) (Z' := []) (List.Sublist.refl _) (List.nil_sublist _)
      exact ⟨_, H, F.re ⟨rfl, trivial⟩, W⟩
     have H := AO (A0 hb) H
     rw [hb] at F
     clear hb
     iterate 4 refine Bg F Aa Aa Aa Aa Aa Aa Aa fun a F => ?_
     refine ls F W Aa (Ak F Aa Aa Aa).q fun a w F W => ?_
     refine ls F W Aa (Ad F Aa).q fun a w F W => ?_
     refine Ae (Ab ?_)
     have W := W.sub (M' := [(b1, [.int .i64 x1.1.1, .int .i64 x1.1.2.1, .bool x1.1.2.2.1, .int .i64 x1.1.2.2.2.1, .int .i64 x1.1.2.2.2.2.1, .int .i64 x1.1.2.2.2.2.2.1, .bool x1.1.2.2.2.2.2.2.1, .bool x1.1.2.2.2.2.2.2.2.1, .int .i64 x1.1.2.2.2.2.2.2.2.2])]) (Z' := []) (List.Sublist.refl _) (List.nil_sublist _)
     exact ⟨_, H, F.re ⟨rfl, trivial⟩, W⟩
    have H := AO (A0 hb) H
    rw [hb] at F
    clear hb
    iterate 3 refine Bg F Aa Aa Aa Aa Aa Aa Aa fun a F => ?_
    refine ls F W Aa (Ak F Aa Aa Aa).q fun a w F W => ?_
    refine ls F W Aa (Af F Aa).q fun a w F W => ?_
    iterate 4 refine Bg F Aa Aa Aa Aa Aa Aa Aa fun a F => ?_
    refine ls F W Aa (Ak F Aa Aa Aa).q fun a w F W => ?_
    refine ls F W Aa (Ad F Aa).q fun a w F W => ?_
    refine Ae (Ab ?_)
    have W := W.sub (M' := [(b1, [.int .i64 x1.1.1, .int .i64 x1.1.2.1, .bool x1.1.2.2.1, .int .i64 x1.1.2.2.2.1, .int .i64 x1.1.2.2.2.2.1, .int .i64 x1.1.2.2.2.2.2.1, .bool x1.1.2.2.2.2.2.2.1, .bool x1.1.2.2.2.2.2.2.2.1, .int .i64 x1.1.2.2.2.2.2.2.2.2])]) (Z' := []) (List.Sublist.refl _) (List.nil_sublist _)
    exact ⟨_, H, F.re ⟨rfl, trivial⟩, W⟩
   have H := AO (A0 hb) H
   rw [hb] at F
   clear hb
   iterate 3 refine Bg F Aa Aa Aa Aa Aa Aa Aa fun a F => ?_
   refine ls F W Aa (Ak F Aa Aa Aa).q fun a w F W => ?_
   refine ls F W Aa (Af F Aa).q fun a w F W => ?_
   iterate 3 refine Bg F Aa Aa Aa Aa Aa Aa Aa fun a F => ?_
   refine ls F W Aa (Ak F Aa Aa Aa).q fun a w F W => ?_
   refine ls F W Aa (Af F Aa).q fun a w F W => ?_
   iterate 4 refine Bg F Aa Aa Aa Aa Aa Aa Aa fun a F => ?_
   refine ls F W Aa (Ak F Aa Aa Aa).q fun a w F W => ?_
   refine ls F W Aa (Ad F Aa).q fun a w F W => ?_
   refine Ae (Ab ?_)
   have W := W.sub (M' := [(b1, [.int .i64 x1.1.1, .int .i64 x1.1.2.1, .bool x1.1.2.2.1, .int .i64 x1.1.2.2.2.1, .int .i64 x1.1.2.2.2.2.1, .int .i64 x1.1.2.2.2.2.2.1, .bool x1.1.2.2.2.2.2.2.1, .bool x1.1.2.2.2.2.2.2.2.1, .int .i64 x1.1.2.2.2.2.2.2.2.2])]) (Z' := []) (List.Sublist.refl _) (List.nil_sublist _)
   exact ⟨_, H, F.re ⟨rfl, trivial⟩, W⟩
  have H := AO (A0 hb) H
  rw [hb] at F
  clear hb
  iterate 2 refine Bg F Aa Aa Aa Aa Aa Aa Aa fun a F => ?_
  refine ls F W Aa (Ak F Aa Aa Aa).q fun a w F W => ?_
  refine ls F W Aa (Af F Aa).q fun a w F W => ?_
  iterate 3 refine Bg F Aa Aa Aa Aa Aa Aa Aa fun a F => ?_
  refine ls F W Aa (Ak F Aa Aa Aa).q fun a w F W => ?_
  refine ls F W Aa (Af F Aa).q fun a w F W => ?_
  iterate 3 refine Bg F Aa Aa Aa Aa Aa Aa Aa fun a F => ?_
  refine ls F W Aa (Ak F Aa Aa Aa).q fun a w F W => ?_
  refine ls F W Aa (Af F Aa).q fun a w F W => ?_
  iterate 4 refine Bg F Aa Aa Aa Aa Aa Aa Aa fun a F => ?_
  refine ls F W Aa (Ak F Aa Aa Aa).q fun a w F W => ?_
  refine ls F W Aa (Ad F Aa).q fun a w F W => ?_
  refine Ae (Ab ?_)
  have W := W.sub (M' := [(b1, [.int .i64 x1.1.1, .int .i64 x1.1.2.1, .bool x1.1.2.2.1, .int .i64 x1.1.2.2.2.1, .int .i64 x1.1.2.2.2.2.1, .int .i64 x1.1.2.2.2.2.2.1, .bool x1.1.2.2.2.2.2.2.1, .bool x1.1.2.2.2.2.2.2.2.1, .int .i64 x1.1.2.2.2.2.2.2.2.2])]) (Z' := []) (List.Sublist.refl _) (List.nil_sublist _)
  exact ⟨_, H, F.re ⟨rfl, trivial⟩, W⟩
 rintro a w ⟨x2, hj, F, W⟩
 have hj := AR hj
 subst hj
 have H := K1
 clear G1 K1
 refine Aw ?_
 have H := AR H
 subst H
 refine AY (.inl Aa) F W Aa (As F Aa) ?_
 exact ⟨rfl, W.done⟩
theorem Jn : type_of% Tryd.underlying78 := Tryd.underlying78
theorem JE : type_of% Tryd.underlying80 := Tryd.underlying80
theorem H6 : Has Tryd.prog 6 := ⟨fun args w => An Tryd.func6 rfl (by decide) args w⟩
theorem Kc : Has Tryd.prog 24 := ⟨fun args w => An Tryd.func24 rfl (by decide) args w⟩
theorem Ka : Has Tryd.prog 34 := ⟨fun args w => An Tryd.func34 rfl (by decide) args w⟩
theorem Km : (Tryd.prog.info? 80).bind (·.zero) = some (.agg #[.int .i64 0, .int .i64 0, .int .i64 0]) := by kernel_rfl
theorem JB : Et Tryd.prog 78 9 1 16 := Et.of Jn (by kernel_rfl) (by kernel_rfl) (by kernel_rfl) (by decide)
theorem T9 : Ty Tryd.prog 9 false 1 := ⟨by kernel_rfl, by kernel_rfl⟩
theorem JZ : Has Tryd.prog 35 := ⟨fun args w => An Tryd.func35 rfl (by decide) args w⟩
theorem Iw : Ar Tryd.prog 80 3 3 1 := ⟨JE, by kernel_rfl⟩
noncomputable def Ba (p0 : List UInt8) : Int → Option (Int ⊕ (Unit ⊕ Int))
  | x1 => (if x1 ≤ 7 then (if (Aj x1) = p0 then some (.inr (.inr x1)) else some (.inl (Bn (x1 + 1)))) else some (.inr (.inl ())))
noncomputable def Bq (p0 : List UInt8) : Option Int := Gz (AP (Ba p0) 1) fun _ => some 0
theorem D5 (Y : Nat → Prop) (w0 : World)  (p0 : List UInt8) (r : Int) (H : Bq p0 = some r)  :
    Calls Tryd.prog 36 #[.string (bs p0)] w0 fun e w' => e = .returned (.int .i64 r) ∧ Below w0.heap.size w0 w' := by
 refine enter Tryd.func36 Aa Tryd.ntmps36 Aa fun a F => ?_
 have W := Stw.start Y w0
 unfold Bq at H
 refine Ai (Ac ?_)
 refine ls F W Aa (Ad F Aa).q fun a w F W => ?_
 refine Ae (Ab ?_)
 obtain ⟨o1, G1, K1, L1⟩ := IQ H
 refine AL (fun a w => some (Sum.inl ()) = some o1 ∧ Fr 13 [] [(2, .int .i64 0)] a ∧ Stw ⟨Y, [], w0⟩ [] [] w) ?_ ?_
 ·
  have H := G1
  clear G1 K1
  refine Ai (Ac ?_)
  refine ls F W Aa (Ad F Aa).q fun a w F W => ?_
  refine Ae (Ab (AC ?_))
  refine Bz H (fun s a w => Fr 13 [] [(0, .string (bs p0)), (2, .int .i64 0), (3, .int .i64 s)] a ∧ Stw ⟨Y, [], w0⟩ [] [] w) ⟨F.re ⟨rfl, Aa, Aa, trivial⟩, W⟩ fun s o a w H L2 hR => ?_
  obtain ⟨x1, rfl⟩ : ∃ x, x = s := ⟨s, rfl⟩
  obtain ⟨F, W⟩ := hR
  have F : Fr 13 [] [(0, .string (bs p0)), (2, .int .i64 0), (3, .int .i64 x1)] a := F
  have W : Stw ⟨Y, [], w0⟩ [] [] w := W
  rw [Ba] at H
  refine Ai (Ai (Ac ?_))
  refine ls F W Aa (Af F Aa).q fun a w F W => ?_
  refine ls F W Aa (Ep F Aa Aa).q fun a w F W => ?_
  refine Ae (Ab ?_)
  refine Ax F Aa (fun hb => ?_) fun hb => ?_
  ·
   have H := AN (A1 hb) H
   rw [hb] at F
   clear hb
   refine AE (Ab (Ai (AC (Ai (Ac ?_)))))
   refine ls F W Aa (Af F Aa).q fun a w F W => ?_
   refine ls F W Aa (AK (v := Value.string (bs (Aj x1))) F JY Aa (fun w W => Ds any w x1 _ Aa)) fun a w F W => ?_
   refine ls F W Aa (Af F Aa).q fun a w F W => ?_
   refine ls F W Aa (Gc (l := (Aj x1)) (m := p0) F Aa Aa).q fun a w F W => ?_
   refine Ae (Ab ?_)
   refine Ax F Aa (fun hb => ?_) fun hb => ?_
   ·
    have H := AN (A1 hb) H
    rw [hb] at F
    clear hb
    refine Ai (Ac ?_)
    refine ls F W Aa (Af F Aa).q fun a w F W => ?_
    refine ls F W Aa (Ad F Aa).q fun a w F W => ?_
    refine Ae (Ab (Aw (AH ?_)))
    iterate 2 refine AA ?_
    refine AH (AA ?_)
    have H := L2 _ H
    have H := L1 _ H
    have H := AR H
    subst H
    refine AY (.inl Aa) F W Aa (As F Aa) ?_
    exact ⟨rfl, W.done⟩
   have H := AO (A0 hb) H
   rw [hb] at F
   clear hb
   refine AE (AQ (Ab (Ac ?_)))
   refine ls F W Aa (Af F Aa).q fun a w F W => ?_
   refine ls F W Aa (Bo F Aa Aa Aa).q fun a w F W => ?_
   refine ls F W Aa (Ad F Aa).q fun a w F W => ?_
   refine Ae (Ab ?_)
   exact ⟨_, H, F.re ⟨rfl, Aa, Aa, trivial⟩, W⟩
  have H := AO (A0 hb) H
  rw [hb] at F
  clear hb
  refine BA ?_
  iterate 2 refine B0 ?_
  refine BB (Ab ?_)
  have H := L2 _ H
  exact ⟨H, F.re ⟨rfl, trivial⟩, W⟩
 rintro a w ⟨hj, F, W⟩
 have H := K1 _ hj
 clear hj G1 K1 L1
 refine Ai (Ac ?_)
 refine ls F W Aa (Ad F Aa).q fun a w F W => ?_
 refine Ae (Ab (Aw ?_))
 have H := AR H
 subst H
 refine AY (.inl Aa) F W Aa (As F Aa) ?_
 exact ⟨rfl, W.done⟩
theorem Jl : type_of% Tryd.underlying70 := Tryd.underlying70
theorem J7 : Has Tryd.prog 36 := ⟨fun args w => An Tryd.func36 rfl (by decide) args w⟩
noncomputable def AM (x1 : List (List UInt8)) : (Int × Int × Int × Int) → Option ((Int × Int × Int × Int) ⊕ ((Int × Int × Int) ⊕ ((Int × Int × Int × Int) × Bool)))
  | (x5, x6, x7, x8) => (if x5 < 3 then (ix x1 (Bn (x5 + 1))).bind fun x9 => (G0 x9).bind fun x10 => Ho x10 (fun x11 => (if (!(Al x11 1125899906842624)) = true then some (.inr (.inr ((0, 0, 0, 0), false))) else (ix ([x6, x7, x8] : List Int) x5).bind fun x13 => some (.inl (Bn (x5 + 1), (if x5 = 0 then x11 else x6), (if x5 = 1 then x11 else x7), (if x5 = 2 then x11 else x8))))) (fun x12 => some (.inr (.inr ((0, 0, 0, 0), false)))) else some (.inr (.inl (x6, x7, x8))))
noncomputable def A8 (p0 : List UInt8) : Option ((Int × Int × Int × Int) × Bool) := (FJ p0 ([32] : List UInt8)).bind fun x1 => (if (x1.length : Int) ≠ 4 then some ((0, 0, 0, 0), false) else Gz (AP (AM x1) (0, 0, 0, 0)) fun (x2, x3, x4) => (ix x1 0).bind fun x14 => (Bq x14).bind fun x15 => (if x15 ≠ 0 then (Bd (x15, x2, x3, x4)).bind fun x17 => some (decide (x17 = p0)) else some false).bind fun x16 => some ((x15, x2, x3, x4), x16))
theorem D8 (Y : Nat → Prop) (w0 : World)  (p0 : List UInt8) (r : (Int × Int × Int × Int) × Bool) (H : A8 p0 = some r) (hG : Gk [] w0) :
    Calls Tryd.prog 25 #[.string (bs p0)] w0 fun e w' => e = .returned (.tuple #[.agg #[.int .i64 r.1.1, .int .i64 r.1.2.1, .int .i64 r.1.2.2.1, .int .i64 r.1.2.2.2], .bool r.2]) ∧ Below w0.heap.size w0 w' := by
 refine enter Tryd.func25 Aa Tryd.ntmps25 Aa fun a F => ?_
 have W := Stw.start Y w0
 unfold A8 at H
 refine Ai (Ac ?_)
 refine Bp (cs := [.int .i64 0, .int .i64 0, .int .i64 0, .int .i64 0]) F W Aa IG Aa fun b1 a w F W => ?_
 refine ls F W Aa (Ad F Aa).q fun a w F W => ?_
 refine Ae (Ab (Ai (Ac ?_)))
 refine ls F W Aa (Af F Aa).q fun a w F W => ?_
 obtain ⟨x1, h1, H⟩ := Ap H
 refine B9 (Ml := []) (Zl := []) (M := [(b1, [.int .i64 0, .int .i64 0, .int .i64 0, .int .i64 0])]) (Z := []) (β := Value) (rv := fun x => x) (MM := fun x => []) (ZZ := fun x => [row x 9 Rp.str x1]) F W Ka Aa Aa (fun hL => Ix _ w p0 ([32] : List UInt8) _ h1 (hG.go0 W)) fun x a w F W => ?_
 obtain ⟨v1, rfl⟩ : ∃ y, y = x := ⟨x, rfl⟩
 have W : Stw ⟨Y, [], w0⟩ [(b1, [.int .i64 0, .int .i64 0, .int .i64 0, .int .i64 0])] [row v1 9 Rp.str x1] w := W
 refine ls F W Aa (Ad F Aa).q fun a w F W => ?_
 refine Ae (Ab (Ai (Ai (Ac ?_))))
 refine ls F W Aa (Af F Aa).q fun a w F W => ?_
 refine ls F W Aa (CB (r := Rp.str) (l := x1) Jn Aa F Aa (A3 0 Aa)).q fun a w F W => ?_
 refine ls F W Aa (DE F Aa Aa).q fun a w F W => ?_
 refine Ae (Ab ?_)
 refine Ax F Aa (fun hb => ?_) fun hb => ?_
 ·
  have H := AN (A1 hb) H
  rw [hb] at F
  clear hb
  refine Ai (Ac ?_)
  refine ls F W Aa (Bx (v := Value.agg #[.int .i64 0, .int .i64 0, .int .i64 0, .int .i64 0]) IB F Aa Aa Aa).q fun a w F W => ?_
  refine AG (vs := [.int .i64 0, .int .i64 0, .int .i64 0, .int .i64 0]) (M' := [(b1, [.int .i64 0, .int .i64 0, .int .i64 0, .int .i64 0])]) 0 F W Aa Aa Aa EE Aa Aa Aa Aa Aa fun w W => ?_
  refine ls F W Aa (Ad F Aa).q fun a w F W => ?_
  refine Ae (Ab (Aw (AA ?_)))
  have H := AR H
  subst H
  refine Dj (.inl Aa) F W Aa (BZ 0 F Aa Aa EE Aa) (As F Aa) ?_
  exact ⟨rfl, W.done⟩
 have H := AO (A0 hb) H
 rw [hb] at F
 clear hb
 refine AE (Ab (Ai (Ac ?_)))
 refine Bp (cs := [.int .i64 0, .int .i64 0, .int .i64 0]) F W Aa Km Aa fun b2 a w F W => ?_
 refine Ae (Ab ?_)
 obtain ⟨o1, G1, K1, L1⟩ := IQ H
 refine AL (fun a w => ∃ x2 : Int, ∃ x3 : Int, ∃ x4 : Int, some (Sum.inl (x2, x3, x4)) = some o1 ∧ Fr 61 [] [(0, .string (bs p0)), (2, .pointer (some ⟨b1, 0, none⟩)), (3, .bool false), (4, v1), (5, .pointer (some ⟨b2, 0, none⟩))] a ∧ Stw ⟨Y, [], w0⟩ [(b2, [.int .i64 x2, .int .i64 x3, .int .i64 x4]), (b1, [.int .i64 0, .int .i64 0, .int .i64 0, .int .i64 0])] [row v1 9 Rp.str x1] w) ?_ ?_
 ·
  have H := G1
  clear G1 K1
  refine Ai (Ac ?_)
  refine ls F W Aa (Af F Aa).q fun a w F W => ?_
  refine Ae (Ab (AC ?_))
  have W := W.frontM (i := 1) Aa Aa
  have W := W.frontM (i := 1) Aa Aa
  refine Bz H (fun s a w => Fr 61 [] [(0, .string (bs p0)), (2, .pointer (some ⟨b1, 0, none⟩)), (3, .bool false), (4, v1), (5, .pointer (some ⟨b2, 0, none⟩)), (16, .int .i64 s.1)] a ∧ Stw ⟨Y, [], w0⟩ [(b2, [.int .i64 s.2.1, .int .i64 s.2.2.1, .int .i64 s.2.2.2]), (b1, [.int .i64 0, .int .i64 0, .int .i64 0, .int .i64 0])] [row v1 9 Rp.str x1] w) ⟨F.re ⟨rfl, Aa, Aa, Aa, Aa, Aa, trivial⟩, W⟩ fun s o a w H L2 hR => ?_
  obtain ⟨x5, x6, x7, x8⟩ := s
  obtain ⟨F, W⟩ := hR
  have F : Fr 61 [] [(0, .string (bs p0)), (2, .pointer (some ⟨b1, 0, none⟩)), (3, .bool false), (4, v1), (5, .pointer (some ⟨b2, 0, none⟩)), (16, .int .i64 x5)] a := F
  have W : Stw ⟨Y, [], w0⟩ [(b2, [.int .i64 x6, .int .i64 x7, .int .i64 x8]), (b1, [.int .i64 0, .int .i64 0, .int .i64 0, .int .i64 0])] [row v1 9 Rp.str x1] w := W
  rw [AM] at H
  refine Ai (Ac ?_)
  refine ls F W Aa (BR F Aa Aa).q fun a w F W => ?_
  refine Ae (Ab (Ai ?_))
  refine Ax F Aa (fun hb => ?_) fun hb => ?_
  ·
   have H := AN (A1 hb) H
   rw [hb] at F
   clear hb
   refine AE (Ab (Ai (AC (Ai (Ac ?_)))))
   refine ls F W Aa (Af F Aa).q fun a w F W => ?_
   refine ls F W Aa (Ad F Aa).q fun a w F W => ?_
   refine Ae (Ab (Ai (Ac ?_)))
   iterate 2 refine ls F W Aa (Af F Aa).q fun a w F W => ?_
   refine ls F W Aa (Bo F Aa Aa Aa).q fun a w F W => ?_
   obtain ⟨x9, h2, H⟩ := Ap H
   refine ls F W Aa (BH (r := Rp.str) JB F Aa Aa (A3 0 Aa) h2).q fun a w F W => ?_
   refine ls F W Aa (A9 (y := Value.string (bs x9)) (j := 0) (i := Bn (x5 + 1)) F Aa Aa (A3 0 Aa) h2 Fl.str.to T9 Aa).q fun a w F W => ?_
   obtain ⟨x10, h3, H⟩ := Ap H
   rcases x10 with x11 | x12
   ·
    have H := JP H
    refine B9 (Ml := []) (Zl := []) (M := [(b2, [.int .i64 x6, .int .i64 x7, .int .i64 x8]), (b1, [.int .i64 0, .int .i64 0, .int .i64 0, .int .i64 0])]) (Z := [row v1 9 Rp.str x1]) (β := Unit) (rv := fun x => .tuple #[.int .i64 x11, .nilIface]) (MM := fun x => []) (ZZ := fun x => []) F W JZ Aa Aa (fun hL => HI _ w x9 _ h3 (hG.go0 W)) fun x a w F W => ?_
    have W : Stw ⟨Y, [], w0⟩ [(b2, [.int .i64 x6, .int .i64 x7, .int .i64 x8]), (b1, [.int .i64 0, .int .i64 0, .int .i64 0, .int .i64 0])] [row v1 9 Rp.str x1] w := W
    refine ls F W Aa (Af F Aa).q fun a w F W => ?_
    refine ls F W Aa (Ay (v := Value.int .i64 x11) F Aa Aa).q fun a w F W => ?_
    refine ls F W Aa (Ay (v := Value.nilIface) F Aa Aa).q fun a w F W => ?_
    iterate 2 refine ls F W Aa (Ad F Aa).q fun a w F W => ?_
    refine Ae (Ab (Ai (Ai (Ac ?_))))
    refine ls F W Aa (Af F Aa).q fun a w F W => ?_
    refine ls F W Aa (FM Jl F Aa).q fun a w F W => ?_
    refine ls F W Aa (Af F Aa).q fun a w F W => ?_
    refine Av F W (Ag F Aa Aa Aa Aa) Aa (Ao Aa) (Af F Aa).q fun a w F W => ?_
    refine Ed (Ag F Aa Aa Aa Aa) ?_
    refine ls F W Aa (AK (v := Value.bool (Al x11 1125899906842624)) F Jm Aa (fun w W => Bu any w x11 1125899906842624 _ Aa)) fun a w F W => ?_
    refine Av F W (Ag F Aa Aa Aa Aa) Aa (Ao Aa) (Db F Aa).q fun a w F W => ?_
    refine ls F W Aa (Ak F Aa Aa Aa).q fun a w F W => ?_
    refine Ae (Ab ?_)
    refine Ax F Aa (fun hb => ?_) fun hb => ?_
    ·
     have H := AN hb H
     rw [hb] at F
     clear hb
     refine Ai (Ac ?_)
     refine ls F W Aa (Bx (v := Value.agg #[.int .i64 0, .int .i64 0, .int .i64 0, .int .i64 0]) IB F Aa Aa Aa).q fun a w F W => ?_
     refine AG (vs := [.int .i64 0, .int .i64 0, .int .i64 0, .int .i64 0]) (M' := [(b2, [.int .i64 x6, .int .i64 x7, .int .i64 x8]), (b1, [.int .i64 0, .int .i64 0, .int .i64 0, .int .i64 0])]) 1 F W Aa Aa Aa EE Aa Aa Aa Aa Aa fun w W => ?_
     refine ls F W Aa (Ad F Aa).q fun a w F W => ?_
     refine Ae (Ab (Aw (AA (AH ?_))))
     iterate 2 refine AA ?_
     refine AH (AA ?_)
     have H := L2 _ H
     have H := L1 _ H
     have H := AR H
     subst H
     refine Dj (.inl Aa) F W Aa (BZ 1 F Aa Aa EE Aa) (As F Aa) ?_
     exact ⟨rfl, W.done⟩
    have H := AO (by rw [hb]; decide) H
    rw [hb] at F
    clear hb
    refine AE (Ab (Ac ?_))
    iterate 2 refine ls F W Aa (Af F Aa).q fun a w F W => ?_
    obtain ⟨x13, h4, H⟩ := Ap H
    refine ls F W Aa (Co (0 + (x5).toNat * 1) Iw F Aa Aa Aa h4 Aa).q fun a w F W => ?_
    refine Ej (o := 0) (m := 3) (i := x5) (l := ([x6, x7, x8] : List Int)) (x := x13) (cs := [.int .i64 x6, .int .i64 x7, .int .i64 x8]) (cs' := [.int .i64 (if x5 = 0 then x11 else x6), .int .i64 (if x5 = 1 then x11 else x7), .int .i64 (if x5 = 2 then x11 else x8)]) 0 F W Aa Aa Aa T3 Aa Aa Aa Aa h4 (by intro k hk hn; rw [hk]; match k, hn with | 0, _ => rfl | 1, _ => rfl | 2, _ => rfl | (z + 3), h => exact absurd h (by omega)) fun w W => ?_
    have W : Stw ⟨Y, [], w0⟩ [(b2, [.int .i64 (if x5 = 0 then x11 else x6), .int .i64 (if x5 = 1 then x11 else x7), .int .i64 (if x5 = 2 then x11 else x8)]), (b1, [.int .i64 0, .int .i64 0, .int .i64 0, .int .i64 0])] [row v1 9 Rp.str x1] w := W
    refine Ae (AQ (Ab (Ac ?_)))
    refine ls F W Aa (Bo F Aa Aa Aa).q fun a w F W => ?_
    refine ls F W Aa (Af F Aa).q fun a w F W => ?_
    refine Ae (Ab ?_)
    have W := W.frontM (i := 1) Aa Aa
    have W := W.frontM (i := 1) Aa Aa
    exact ⟨_, H, F.re ⟨rfl, Aa, Aa, Aa, Aa, Aa, trivial⟩, W⟩
   have H := JR H
   refine B9 (Ml := []) (Zl := []) (M := [(b2, [.int .i64 x6, .int .i64 x7, .int .i64 x8]), (b1, [.int .i64 0, .int .i64 0, .int .i64 0, .int .i64 0])]) (Z := [row v1 9 Rp.str x1]) (β := Nat) (rv := fun x => .tuple #[.int .i64 x12, .iface 97 (.pointer (some ⟨x, 0, none⟩))]) (MM := fun x => []) (ZZ := fun x => []) F W JZ Aa Aa (fun hL => HI _ w x9 _ h3 (hG.go0 W)) fun x a w F W => ?_
   obtain ⟨b3, rfl⟩ : ∃ y, y = x := ⟨x, rfl⟩
   have W : Stw ⟨Y, [], w0⟩ [(b2, [.int .i64 x6, .int .i64 x7, .int .i64 x8]), (b1, [.int .i64 0, .int .i64 0, .int .i64 0, .int .i64 0])] [row v1 9 Rp.str x1] w := W
   refine ls F W Aa (Af F Aa).q fun a w F W => ?_
   refine ls F W Aa (Ay (v := Value.int .i64 x12) F Aa Aa).q fun a w F W => ?_
   refine ls F W Aa (Ay (v := Value.iface 97 (.pointer (some ⟨b3, 0, none⟩))) F Aa Aa).q fun a w F W => ?_
   iterate 2 refine ls F W Aa (Ad F Aa).q fun a w F W => ?_
   refine Ae (Ab (Ai (Ai (Ac ?_))))
   refine ls F W Aa (Af F Aa).q fun a w F W => ?_
   refine ls F W Aa (Fh Jl F Aa).q fun a w F W => ?_
   refine ls F W Aa (Af F Aa).q fun a w F W => ?_
   iterate 3 refine Bg F Aa Aa Aa Aa Aa Aa Aa fun a F => ?_
   refine ls F W Aa (Am F Aa Aa Aa).q fun a w F W => ?_
   refine Ae (Ab ?_)
   refine HE F Aa ?_
   refine Ai (Ac ?_)
   refine ls F W Aa (Bx (v := Value.agg #[.int .i64 0, .int .i64 0, .int .i64 0, .int .i64 0]) IB F Aa Aa Aa).q fun a w F W => ?_
   refine AG (vs := [.int .i64 0, .int .i64 0, .int .i64 0, .int .i64 0]) (M' := [(b2, [.int .i64 x6, .int .i64 x7, .int .i64 x8]), (b1, [.int .i64 0, .int .i64 0, .int .i64 0, .int .i64 0])]) 1 F W Aa Aa Aa EE Aa Aa Aa Aa Aa fun w W => ?_
   refine ls F W Aa (Ad F Aa).q fun a w F W => ?_
   refine Ae (Ab (Aw (AA (AH ?_))))
   iterate 2 refine AA ?_
   refine AH (AA ?_)
   have H := L2 _ H
   have H := L1 _ H
   have H := AR H
   subst H
   refine Dj (.inl Aa) F W Aa (BZ 1 F Aa Aa EE Aa) (As F Aa) ?_
   exact ⟨rfl, W.done⟩
  have H := AO (A0 hb) H
  rw [hb] at F
  clear hb
  refine BA ?_
  iterate 2 refine B0 ?_
  refine BB (Ab ?_)
  have W := W.frontM (i := 1) Aa Aa
  have W := W.frontM (i := 1) Aa Aa
  have H := L2 _ H
  exact ⟨_, _, _, H, F.re ⟨rfl, Aa, Aa, Aa, Aa, trivial⟩, W⟩
 rintro a w ⟨x2, x3, x4, hj, F, W⟩
 have H := K1 _ hj
 clear hj G1 K1 L1
 refine Ai ?_
 refine Hb 12 [] [0, 1, 2, 3, 4, 5, 6, 7, 8, 9, 10, 11] (fun ch a d v w h => by cases d <;> exact h) W MO (by kernel_rfl) ?_
 refine Hx ?_
 refine hs F Aa Aa Aa (Af F Aa).q fun a F => ?_
 obtain ⟨x14, h5, H⟩ := Ap H
 refine hs F Aa Aa Aa (BH (r := Rp.str) JB F Aa Aa (A3 0 Aa) h5).q fun a F => ?_
 refine hs F Aa Aa Aa (A9 (y := Value.string (bs x14)) (j := 0) (i := 0) F Aa Aa (A3 0 Aa) h5 Fl.str.to T9 Aa).q fun a F => ?_
 obtain ⟨x15, h6, H⟩ := Ap H
 refine hs F Aa Aa Aa (AK (v := Value.int .i64 x15) F J7 Aa (fun w W => D5 any w x14 _ h6)) fun a F => ?_
 refine hs F Aa Aa Aa (Co (l := [(), (), ()]) (i := 0) 0 Iw F Aa Aa Aa Aa Aa).q fun a F => ?_
 refine hs F Aa Aa Aa (Aq (v := Value.int .i64 x2) 0 F Aa Aa T3 Aa).q fun a F => ?_
 refine hs F Aa Aa Aa (Co (l := [(), (), ()]) (i := 1) 1 Iw F Aa Aa Aa Aa Aa).q fun a F => ?_
 refine hs F Aa Aa Aa (Aq (v := Value.int .i64 x3) 0 F Aa Aa T3 Aa).q fun a F => ?_
 refine hs F Aa Aa Aa (Co (l := [(), (), ()]) (i := 2) 2 Iw F Aa Aa Aa Aa Aa).q fun a F => ?_
 refine hs F Aa Aa Aa (Aq (v := Value.int .i64 x4) 0 F Aa Aa T3 Aa).q fun a F => ?_
 refine hs F Aa Aa Aa (Bx (v := Value.agg #[.int .i64 x15, .int .i64 x2, .int .i64 x3, .int .i64 x4]) IB F Aa Aa Aa).q fun a F => ?_
 refine ha (cs := [.int .i64 0, .int .i64 0, .int .i64 0, .int .i64 0]) F Aa Aa IG Aa fun b4 a F => ?_
 refine IV fun w W => ?_
 have W : Stw ⟨Y, [], w0⟩ [(b4, [.int .i64 0, .int .i64 0, .int .i64 0, .int .i64 0]), (b2, [.int .i64 x2, .int .i64 x3, .int .i64 x4]), (b1, [.int .i64 0, .int .i64 0, .int .i64 0, .int .i64 0])] [row v1 9 Rp.str x1] w := W
 refine AG (vs := [.int .i64 x15, .int .i64 x2, .int .i64 x3, .int .i64 x4]) (M' := [(b4, [.int .i64 x15, .int .i64 x2, .int .i64 x3, .int .i64 x4]), (b2, [.int .i64 x2, .int .i64 x3, .int .i64 x4]), (b1, [.int .i64 0, .int .i64 0, .int .i64 0, .int .i64 0])]) 0 F W Aa Aa Aa EE Aa Aa Aa Aa Aa fun w W => ?_
 refine Ae (Ab ?_)
 obtain ⟨o3, G3, K3⟩ := Ap H
 refine AL (fun a w => ∃ x16 : Bool, some (x16) = some o3 ∧ Fr 61 [] [(2, .pointer (some ⟨b1, 0, none⟩)), (3, .bool x16)] a ∧ Stw ⟨Y, [], w0⟩ [(b4, [.int .i64 x15, .int .i64 x2, .int .i64 x3, .int .i64 x4]), (b2, [.int .i64 x2, .int .i64 x3, .int .i64 x4]), (b1, [.int .i64 x15, .int .i64 x2, .int .i64 x3, .int .i64 x4])] [] w) ?_ ?_
 ·
  have H := G3
  clear G3 K3
  refine FX [(true, 0), (true, 1), (true, 2), (true, 3), (true, 4), (true, 5), (true, 7), (false, 6), (true, 8), (true, 9), (false, 10), (false, 11)] (CN ⟨Y, [], w0⟩ [(some 10, b4, [.int .i64 x15, .int .i64 x2, .int .i64 x3, .int .i64 x4]), (some 6, b4, [.int .i64 x15, .int .i64 x2, .int .i64 x3, .int .i64 x4])] []) (fun ch a d v w h => by cases d <;> exact h) MO (by kernel_rfl) W (fun w W => ⟨_, _, W, (Au (fun _ => (.head _)) (Au (fun _ => (.head _)) AF)), AF⟩) fun w W => ?_
  refine BJ (R := [10]) F Aa Aa (yC fun M Z hN hZ => Ca (cs := [.int .i64 x15, .int .i64 x2, .int .i64 x3, .int .i64 x4]) (v := Value.agg #[.int .i64 x15, .int .i64 x2, .int .i64 x3, .int .i64 x4]) F Aa (hN ((some 10), b4, [.int .i64 x15, .int .i64 x2, .int .i64 x3, .int .i64 x4]) (.head _) Aa) EE Aa) (by kernel_rfl) Aa fun a F => ?_
  refine BJ (R := []) F Aa Aa (yC fun M Z hN hZ => Ah BQ Aa Aa Aa T3 F Aa 0 Aa) Aa Aa fun a F => ?_
  refine BJ (R := [6, 4, 3]) F Aa Aa (yC fun M Z hN hZ => Ca (cs := [.int .i64 x15, .int .i64 x2, .int .i64 x3, .int .i64 x4]) (v := Value.int .i64 x15) F Aa (hN ((some 6), b4, [.int .i64 x15, .int .i64 x2, .int .i64 x3, .int .i64 x4]) (.tail _ (.head _)) Aa) T3 Aa) (by kernel_rfl) Aa fun a F => ?_
  refine BJ (R := []) F Aa Aa (yC fun M Z hN hZ => DE F Aa Aa) Aa Aa fun a F => ?_
  refine BJ (R := []) F Aa Aa (yC fun M Z hN hZ => Af F Aa) Aa Aa fun a F => ?_
  rcases Bool.eq_false_or_eq_true (decide (x15 ≠ 0)) with hb | hb
  ·
   have H := AN (A1 hb) H
   rw [hb] at F
   clear hb
   refine De (R := [6]) F Aa (Ag F Aa Aa Aa Aa) Aa Aa (yC fun M Z hN hZ => Ca (cs := [.int .i64 x15, .int .i64 x2, .int .i64 x3, .int .i64 x4]) (v := Value.agg #[.int .i64 x15, .int .i64 x2, .int .i64 x3, .int .i64 x4]) F Aa (hN ((some 6), b4, [.int .i64 x15, .int .i64 x2, .int .i64 x3, .int .i64 x4]) (.tail _ (.head _)) Aa) EE Aa) (by kernel_rfl) Aa fun a F => ?_
   refine De (R := []) F Aa (Ag F Aa Aa Aa Aa) Aa Aa (yC fun M Z hN hZ => Af F Aa) Aa Aa fun a F => ?_
   refine Dg Aa ?_
   refine Ed (Ag F Aa Aa Aa Aa) ?_
   obtain ⟨x17, h7, H⟩ := Ap H
   refine ls F W Aa (AK (v := Value.string (bs x17)) F J2 Aa (fun w W => Dl any w (x15, x2, x3, x4) _ h7 (hG.go0 W))) fun a w F W => ?_
   refine Bf (N2 := []) (NZ2 := []) (N3 := [(some 10, b4, [.int .i64 x15, .int .i64 x2, .int .i64 x3, .int .i64 x4]), (some 6, b4, [.int .i64 x15, .int .i64 x2, .int .i64 x3, .int .i64 x4])]) (NZ3 := []) W Aa Aa (Au (fun _ => (.head _)) (Au (fun h => Az (by kernel_rfl) h) AF)) AF ?_
   refine De (R := []) F Aa (Ag F Aa Aa Aa Aa) Aa Aa (yC fun M Z hN hZ => Gc (l := x17) (m := p0) F Aa Aa) Aa Aa fun a F => ?_
   refine BJ (R := []) F Aa Aa (yC fun M Z hN hZ => Am F Aa Aa Aa) Aa Aa fun a F => ?_
   refine Dg Aa ?_
   refine AG (vs := [.int .i64 x15, .int .i64 x2, .int .i64 x3, .int .i64 x4]) (M' := [(b4, [.int .i64 x15, .int .i64 x2, .int .i64 x3, .int .i64 x4]), (b2, [.int .i64 x2, .int .i64 x3, .int .i64 x4]), (b1, [.int .i64 x15, .int .i64 x2, .int .i64 x3, .int .i64 x4])]) 2 F W Aa Aa Aa EE Aa Aa Aa Aa Aa fun w W => ?_
   refine Bf (N2 := []) (NZ2 := []) (N3 := [(some 10, b4, [.int .i64 x15, .int .i64 x2, .int .i64 x3, .int .i64 x4]), (some 6, b4, [.int .i64 x15, .int .i64 x2, .int .i64 x3, .int .i64 x4])]) (NZ3 := []) W Aa Aa (Au (fun h => Az (by kernel_rfl) h) (Au (fun h => Az (by kernel_rfl) h) AF)) AF ?_
   refine Dg Aa ?_
   refine ls F W Aa (Ad F Aa).q fun a w F W => ?_
   refine Bf (N2 := []) (NZ2 := []) (N3 := [(some 10, b4, [.int .i64 x15, .int .i64 x2, .int .i64 x3, .int .i64 x4]), (some 6, b4, [.int .i64 x15, .int .i64 x2, .int .i64 x3, .int .i64 x4])]) (NZ3 := []) W Aa Aa (Au (fun h => Az (by kernel_rfl) h) (Au (fun h => Az (by kernel_rfl) h) AF)) AF ?_
   refine DH (Ab ?_)
   have W := W.frontM (i := 2) Aa Aa
   have W := W.frontM (i := 2) Aa Aa
   have W := W.frontM (i := 2) Aa Aa
   have W := W.sub (M' := [(b4, [.int .i64 x15, .int .i64 x2, .int .i64 x3, .int .i64 x4]), (b2, [.int .i64 x2, .int .i64 x3, .int .i64 x4]), (b1, [.int .i64 x15, .int .i64 x2, .int .i64 x3, .int .i64 x4])]) (Z' := []) (List.Sublist.refl _) (List.nil_sublist _)
   exact ⟨_, H, F.re ⟨rfl, Aa, trivial⟩, W⟩
  have H := AO (A0 hb) H
  rw [hb] at F
  clear hb
  iterate 2 refine BN F Aa (Bh F Aa Aa Aa Aa Aa) Aa Aa Aa fun a F => ?_
  refine Dg Aa ?_
  refine Bg F Aa Aa Aa Aa Aa Aa Aa fun a F => ?_
  refine Bf (N2 := []) (NZ2 := []) (N3 := [(some 10, b4, [.int .i64 x15, .int .i64 x2, .int .i64 x3, .int .i64 x4]), (some 6, b4, [.int .i64 x15, .int .i64 x2, .int .i64 x3, .int .i64 x4])]) (NZ3 := []) W Aa Aa (Au (fun _ => (.head _)) (Au (fun h => Az (by kernel_rfl) h) AF)) AF ?_
  refine BN F Aa (Bh F Aa Aa Aa Aa Aa) Aa Aa Aa fun a F => ?_
  refine BJ (R := []) F Aa Aa (yC fun M Z hN hZ => Ak F Aa Aa Aa) Aa Aa fun a F => ?_
  refine Dg Aa ?_
  refine AG (vs := [.int .i64 x15, .int .i64 x2, .int .i64 x3, .int .i64 x4]) (M' := [(b4, [.int .i64 x15, .int .i64 x2, .int .i64 x3, .int .i64 x4]), (b2, [.int .i64 x2, .int .i64 x3, .int .i64 x4]), (b1, [.int .i64 x15, .int .i64 x2, .int .i64 x3, .int .i64 x4])]) 2 F W Aa Aa Aa EE Aa Aa Aa Aa Aa fun w W => ?_
  refine Bf (N2 := []) (NZ2 := []) (N3 := [(some 10, b4, [.int .i64 x15, .int .i64 x2, .int .i64 x3, .int .i64 x4]), (some 6, b4, [.int .i64 x15, .int .i64 x2, .int .i64 x3, .int .i64 x4])]) (NZ3 := []) W Aa Aa (Au (fun h => Az (by kernel_rfl) h) (Au (fun h => Az (by kernel_rfl) h) AF)) AF ?_
  refine Dg Aa ?_
  refine ls F W Aa (Ad F Aa).q fun a w F W => ?_
  refine Bf (N2 := []) (NZ2 := []) (N3 := [(some 10, b4, [.int .i64 x15, .int .i64 x2, .int .i64 x3, .int .i64 x4]), (some 6, b4, [.int .i64 x15, .int .i64 x2, .int .i64 x3, .int .i64 x4])]) (NZ3 := []) W Aa Aa (Au (fun h => Az (by kernel_rfl) h) (Au (fun h => Az (by kernel_rfl) h) AF)) AF ?_
  refine DH (Ab ?_)
  have W := W.frontM (i := 2) Aa Aa
  have W := W.frontM (i := 2) Aa Aa
  have W := W.frontM (i := 2) Aa Aa
  have W := W.sub (M' := [(b4, [.int .i64 x15, .int .i64 x2, .int .i64 x3, .int .i64 x4]), (b2, [.int .i64 x2, .int .i64 x3, .int .i64 x4]), (b1, [.int .i64 x15, .int .i64 x2, .int .i64 x3, .int .i64 x4])]) (Z' := []) (List.Sublist.refl _) (List.nil_sublist _)
  exact ⟨_, H, F.re ⟨rfl, Aa, trivial⟩, W⟩
 rintro a w ⟨x16, hj, F, W⟩
 have hj := AR hj
 subst hj
 have H := K3
 clear G3 K3
 refine Aw ?_
 have H := AR H
 subst H
 refine Dj (.inl Aa) F W Aa (BZ 2 F Aa Aa EE Aa) (As F Aa) ?_
 exact ⟨rfl, W.done⟩
theorem Kg : Has Tryd.prog 25 := ⟨fun args w => An Tryd.func25 rfl (by decide) args w⟩
noncomputable def AW  : (List UInt8 × (List (Int × Int × Int × Int))) → Option ((List UInt8 × (List (Int × Int × Int × Int))) ⊕ ((List (Int × Int × Int × Int)) ⊕ ((List (Int × Int × Int × Int)) × Int × Int)))
  | (x2, x3) => (if x2 ≠ ([] : List UInt8) then (GE x2 ([10] : List UInt8)).bind fun x4 => (A8 x4.1).bind fun x5 => (if (!x4.2.2 || !x5.2) = true then some (.inr (.inr (([] : List (Int × Int × Int × Int)), Bn ((x3.length : Int) + 1), 10))) else (CL x3 ([x5.1] : List (Int × Int × Int × Int))).bind fun x6 => some (.inl (x4.2.1, x6))) else some (.inr (.inl x3)))
noncomputable def Be (p0 : List UInt8) : Option ((List (Int × Int × Int × Int)) × Int × Int) := Gz (AP (AW) (p0, [])) fun x1 => some (x1, 0, 0)
theorem Dc (Y : Nat → Prop) (w0 : World)  (p0 : List UInt8) (r : (List (Int × Int × Int × Int)) × Int × Int) (H : Be p0 = some r) (hG : Gk [] w0) :
    Calls Tryd.prog 16 #[.string (bs p0)] w0 fun e w' => ∃ x : Value, e = .returned (.tuple #[x, .int .i64 r.2.1, .int .i64 r.2.2]) ∧ Stw ⟨Y, [], w0⟩ [] [row (x) 34 B2 r.1] w' := by
 refine enter Tryd.func16 Aa Tryd.ntmps16 Aa fun a F => ?_
 have W := Stw.start Y w0
 unfold Be at H
 refine Ai (Ac ?_)
 iterate 3 refine ls F W Aa (Ad F Aa).q fun a w F W => ?_
 refine Ae (Ab (Ai (Ac ?_)))
 refine ls F W Aa (Ad F Aa).q fun a w F W => ?_
 refine Ae (Ab ?_)
 obtain ⟨o1, G1, K1, L1⟩ := IQ H
 refine AL (fun a w => ∃ x1 : List (Int × Int × Int × Int), ∃ v1 : Value, some (Sum.inl x1) = some o1 ∧ Fr 39 [] [(2, .slice none 0 0), (3, .int .i64 0), (4, .int .i64 0), (5, v1)] a ∧ Stw ⟨Y, [], w0⟩ [] [row v1 34 B2 x1] w) ?_ ?_
 ·
  have H := G1
  clear G1 K1
  refine AC ?_
  have W := W.nilRow 34 B2
  refine Bz H (fun s a w => ∃ v2 : Value, Fr 39 [] [(0, .string (bs s.1)), (2, .slice none 0 0), (3, .int .i64 0), (4, .int .i64 0), (5, v2)] a ∧ Stw ⟨Y, [], w0⟩ [] [row v2 34 B2 s.2] w) ⟨(Value.slice none 0 0), F.re ⟨rfl, Aa, Aa, Aa, Aa, trivial⟩, W⟩ fun s o a w H L2 hR => ?_
  obtain ⟨x2, x3⟩ := s
  obtain ⟨v2, F, W⟩ := hR
  have F : Fr 39 [] [(0, .string (bs x2)), (2, .slice none 0 0), (3, .int .i64 0), (4, .int .i64 0), (5, v2)] a := F
  have W : Stw ⟨Y, [], w0⟩ [] [row v2 34 B2 x3] w := W
  rw [AW] at H
  refine Ai (Ai (Ac ?_))
  refine ls F W Aa (Af F Aa).q fun a w F W => ?_
  refine ls F W Aa (IU (l := x2) (m := ([] : List UInt8)) F Aa Aa).q fun a w F W => ?_
  refine Ae (Ab ?_)
  refine Ax F Aa (fun hb => ?_) fun hb => ?_
  ·
   have H := AN (A1 hb) H
   rw [hb] at F
   clear hb
   refine AE (Ab (AC (Ai (Ac ?_))))
   refine ls F W Aa (Af F Aa).q fun a w F W => ?_
   obtain ⟨x4, h1, H⟩ := Ap H
   refine ls F W Aa (AK (v := Value.tuple #[.string (bs x4.1), .string (bs x4.2.1), .bool x4.2.2]) F Kc Aa (fun w W => Jx any w x2 ([10] : List UInt8) _ h1 (hG.go0 W))) fun a w F W => ?_
   refine ls F W Aa (Af F Aa).q fun a w F W => ?_
   refine ls F W Aa (Ay (v := Value.string (bs x4.1)) F Aa Aa).q fun a w F W => ?_
   refine ls F W Aa (Ay (v := Value.string (bs x4.2.1)) F Aa Aa).q fun a w F W => ?_
   refine ls F W Aa (Ay (v := Value.bool x4.2.2) F Aa Aa).q fun a w F W => ?_
   iterate 3 refine ls F W Aa (Ad F Aa).q fun a w F W => ?_
   refine Ae (Ab (Ai (Ac ?_)))
   refine ls F W Aa (Af F Aa).q fun a w F W => ?_
   obtain ⟨x5, h2, H⟩ := Ap H
   refine ls F W Aa (AK (v := Value.tuple #[.agg #[.int .i64 x5.1.1, .int .i64 x5.1.2.1, .int .i64 x5.1.2.2.1, .int .i64 x5.1.2.2.2], .bool x5.2]) F Kg Aa (fun w W => D8 any w x4.1 _ h2 (hG.go0 W))) fun a w F W => ?_
   refine ls F W Aa (Af F Aa).q fun a w F W => ?_
   refine ls F W Aa (Ay (v := Value.agg #[.int .i64 x5.1.1, .int .i64 x5.1.2.1, .int .i64 x5.1.2.2.1, .int .i64 x5.1.2.2.2]) F Aa Aa).q fun a w F W => ?_
   refine ls F W Aa (Ay (v := Value.bool x5.2) F Aa Aa).q fun a w F W => ?_
   refine Bp (cs := [.int .i64 0, .int .i64 0, .int .i64 0, .int .i64 0]) F W Aa IG Aa fun b1 a w F W => ?_
   refine AG (vs := [.int .i64 x5.1.1, .int .i64 x5.1.2.1, .int .i64 x5.1.2.2.1, .int .i64 x5.1.2.2.2]) (M' := [(b1, [.int .i64 x5.1.1, .int .i64 x5.1.2.1, .int .i64 x5.1.2.2.1, .int .i64 x5.1.2.2.2])]) 0 F W Aa Aa Aa EE Aa Aa Aa Aa Aa fun w W => ?_
   refine ls F W Aa (Ad F Aa).q fun a w F W => ?_
   refine Ae (Ab (Ai ?_))
   refine AL (fun a w => Fr 39 [] [(0, .string (bs x2)), (2, .slice none 0 0), (3, .int .i64 0), (4, .int .i64 0), (5, v2), (7, .string (bs x4.2.1)), (9, .pointer (some ⟨b1, 0, none⟩)), (29, .bool (!x4.2.2 || !x5.2))] a ∧ Stw ⟨Y, [], w0⟩ [(b1, [.int .i64 x5.1.1, .int .i64 x5.1.2.1, .int .i64 x5.1.2.2.1, .int .i64 x5.1.2.2.2])] [row v2 34 B2 x3] w) ?_ ?_
   ·
    refine Ac ?_
    refine ls F W Aa (Af F Aa).q fun a w F W => ?_
    refine ls F W Aa (Db F Aa).q fun a w F W => ?_
    refine ls F W Aa (Af F Aa).q fun a w F W => ?_
    rcases Bool.eq_false_or_eq_true (!x4.2.2) with hb0 | hb0
    ·
     rw [hb0] at F
     iterate 2 refine Bg F Aa Aa Aa Aa Aa Aa Aa fun a F => ?_
     refine ls F W Aa (Am F Aa Aa Aa).q fun a w F W => ?_
     refine Ae (Ab ?_)
     exact ⟨F.re ⟨rfl, Aa, Aa, Aa, Aa, Aa, Aa, (by show some (Value.bool true) = some (Value.bool (!x4.2.2 || !x5.2)); try rw [hb0]; all_goals simp only [Bool.not_true, Bool.not_false, Bool.true_and, Bool.false_and, Bool.true_or, Bool.false_or, Bool.and_true, Bool.or_false, cond_true, cond_false]), trivial⟩, W⟩
    rw [hb0] at F
    refine Av F W (Ag F Aa Aa Aa Aa) Aa (Ao Aa) (Af F Aa).q fun a w F W => ?_
    refine Av F W (Ag F Aa Aa Aa Aa) Aa (Ao Aa) (Db F Aa).q fun a w F W => ?_
    refine ls F W Aa (Ak F Aa Aa Aa).q fun a w F W => ?_
    refine Ae (Ab ?_)
    exact ⟨F.re ⟨rfl, Aa, Aa, Aa, Aa, Aa, Aa, (by show some (Value.bool (!x5.2)) = some (Value.bool (!x4.2.2 || !x5.2)); try rw [hb0]; all_goals simp only [Bool.not_true, Bool.not_false, Bool.true_and, Bool.false_and, Bool.true_or, Bool.false_or, Bool.and_true, Bool.or_false, cond_true, cond_false]), trivial⟩, W⟩
   rintro a w ⟨F, W⟩
   refine Ax F Aa (fun hb => ?_) fun hb => ?_
   ·
    have H := AN hb H
    rw [hb] at F
    clear hb
    refine Ai (Ac ?_)
    refine ls F W Aa (Af F Aa).q fun a w F W => ?_
    refine ls F W Aa (CB (r := B2) (l := x3) FF Aa F Aa (A3 0 Aa)).q fun a w F W => ?_
    refine ls F W Aa (Bo F Aa Aa Aa).q fun a w F W => ?_
    iterate 3 refine ls F W Aa (Ad F Aa).q fun a w F W => ?_
    refine Ae (Ab (Aw (AA (AH (AA (AH (AA ?_)))))))
    have H := L2 _ H
    have H := L1 _ H
    have H := AR H
    subst H
    refine E7 (.inl Aa) F W Aa (As F Aa) (As F Aa) (As F Aa) ?_
    have W := W.nilRow 34 B2
    have W := W.sub (M' := []) (Z' := [row (Value.slice none 0 0) 34 B2 ([])]) (List.nil_sublist _) (List.Sublist.cons_cons _ (List.nil_sublist _))
    exact ⟨(Value.slice none 0 0), Aa, W⟩
   have H := AO (by rw [hb]; decide) H
   rw [hb] at F
   clear hb
   refine AE (Ab (Ai (Ac ?_)))
   refine ls F W Aa (Af F Aa).q fun a w F W => ?_
   refine ls F W Aa (Aq (v := Value.agg #[.int .i64 x5.1.1, .int .i64 x5.1.2.1, .int .i64 x5.1.2.2.1, .int .i64 x5.1.2.2.2]) 0 F Aa Aa EE Aa).q fun a w F W => ?_
   refine F6 (z := Value.agg #[.int .i64 0, .int .i64 0, .int .i64 0, .int .i64 0]) (cs := [.int .i64 x5.1.1, .int .i64 x5.1.2.1, .int .i64 x5.1.2.2.1, .int .i64 x5.1.2.2.2]) B2 ([x5.1] : List (Int × Int × Int × Int)) F W Aa H2 IG Aa Aa Aa Aa Aa Aa (IP.repL _ _ ([x5.1] : List (Int × Int × Int × Int))) fun v3 a w F W => ?_
   obtain ⟨x6, h3, H⟩ := Ap H
   refine EK (r := B2) (i := 1) F W Aa H2 Aa Aa Aa Aa (FQ W 0 Aa) h3 Aa fun v4 a w F W => ?_
   have W : Stw ⟨Y, [], w0⟩ [(b1, [.int .i64 x5.1.1, .int .i64 x5.1.2.1, .int .i64 x5.1.2.2.1, .int .i64 x5.1.2.2.2])] [row v4 34 B2 x6, row v3 34 B2 ([x5.1] : List (Int × Int × Int × Int))] w := W
   refine ls F W Aa (Ad F Aa).q fun a w F W => ?_
   refine Ae (Ab (Ac ?_))
   refine ls F W Aa (Af F Aa).q fun a w F W => ?_
   refine ls F W Aa (Ad F Aa).q fun a w F W => ?_
   refine Ae (AQ (Ab ?_))
   have W := W.sub (M' := []) (Z' := [row v4 34 B2 x6]) (List.nil_sublist _) (List.Sublist.cons_cons _ (List.nil_sublist _))
   exact ⟨_, H, (v4), F.re ⟨rfl, Aa, Aa, Aa, Aa, trivial⟩, W⟩
  have H := AO (A0 hb) H
  rw [hb] at F
  clear hb
  refine BA ?_
  iterate 2 refine B0 ?_
  refine BB (Ab ?_)
  have H := L2 _ H
  exact ⟨_, (v2), H, F.re ⟨rfl, Aa, Aa, Aa, trivial⟩, W⟩
 rintro a w ⟨x1, v1, hj, F, W⟩
 have H := K1 _ hj
 clear hj G1 K1 L1
 refine Ai (Ac ?_)
 refine ls F W Aa (Af F Aa).q fun a w F W => ?_
 iterate 3 refine ls F W Aa (Ad F Aa).q fun a w F W => ?_
 refine Ae (Ab (Aw ?_))
 have H := AR H
 subst H
 refine E7 (.inl Aa) F W Aa (As F Aa) (As F Aa) (As F Aa) ?_
 exact ⟨(v1), Aa, W⟩
theorem Cs : type_of% Tryd.underlying37 := Tryd.underlying37
theorem JV : Has Tryd.prog 16 := ⟨fun args w => An Tryd.func16 rfl (by decide) args w⟩
theorem Jz : (Tryd.prog.info? 37).bind (·.zero) = some (.agg #[.int .i64 0, .int .i64 0, .int .i64 0, .int .i64 0]) := by kernel_rfl
theorem Kj : Bt Tryd.prog 37 [.int .i64 0, .int .i64 0, .int .i64 0, .int .i64 0] [(0, 1), (1, 1), (2, 1), (3, 1)] := ⟨⟨.agg #[.int .i64 0, .int .i64 0, .int .i64 0, .int .i64 0], by kernel_rfl, rfl⟩, ⟨_, Cs, fun w => by kernel_rfl⟩⟩
theorem GU : Ty Tryd.prog 37 true 4 := ⟨by kernel_rfl, by kernel_rfl⟩
theorem Z9 : (Tryd.prog.info? 9).bind (·.zero) = some (.string (bs ([] : List UInt8))) := by kernel_rfl
noncomputable def C2 (p0 : Int) : Option (List UInt8) := (if (decide (p0 < 1) || decide (7 < p0)) = true then some ([63] : List UInt8) else (ix ([([98, 101, 103, 105, 110] : List UInt8), ([97, 114, 109] : List UInt8), ([115, 117, 114, 101] : List UInt8), ([99, 97, 110, 99, 101, 108] : List UInt8), ([99, 111, 109, 109, 105, 116] : List UInt8), ([99, 108, 111, 115, 101] : List UInt8), ([114, 101, 108, 101, 97, 115, 101] : List UInt8)] : List (List UInt8)) (Bn (p0 - 1))).bind fun x1 => some x1)
theorem EZ (Y : Nat → Prop) (w0 : World)  (p0 : Int) (r : List UInt8) (H : C2 p0 = some r)  :
    Calls Tryd.prog 37 #[.int .i64 p0] w0 fun e w' => e = .returned (.string (bs r)) ∧ Below w0.heap.size w0 w' := by
 refine enter Tryd.func37 Aa Tryd.ntmps37 Aa fun a F => ?_
 have W := Stw.start Y w0
 unfold C2 at H
 refine Ai (Ac ?_)
 refine ls F W Aa (Ad (v := Value.string (bs ([] : List UInt8))) F Aa).q fun a w F W => ?_
 refine Ae (Ab (Ai ?_))
 refine AL (fun a w => Fr 14 [] [(0, .int .i64 p0), (2, .string (bs ([] : List UInt8))), (8, .bool (decide (p0 < 1) || decide (7 < p0)))] a ∧ Stw ⟨Y, [], w0⟩ [] [] w) ?_ ?_
 ·
  refine Ac ?_
  refine ls F W Aa (Af F Aa).q fun a w F W => ?_
  refine ls F W Aa (BR F Aa Aa).q fun a w F W => ?_
  refine ls F W Aa (Af F Aa).q fun a w F W => ?_
  rcases Bool.eq_false_or_eq_true (decide (p0 < 1)) with hb0 | hb0
  ·
   rw [hb0] at F
   iterate 2 refine Bg F Aa Aa Aa Aa Aa Aa Aa fun a F => ?_
   refine ls F W Aa (Am F Aa Aa Aa).q fun a w F W => ?_
   refine Ae (Ab ?_)
   exact ⟨F.re ⟨rfl, Aa, (by show some (Value.bool true) = some (Value.bool (decide (p0 < 1) || decide (7 < p0))); try rw [hb0]; all_goals simp only [Bool.not_true, Bool.not_false, Bool.true_and, Bool.false_and, Bool.true_or, Bool.false_or, Bool.and_true, Bool.or_false, cond_true, cond_false]), trivial⟩, W⟩
  rw [hb0] at F
  refine Av F W (Ag F Aa Aa Aa Aa) Aa (Ao Aa) (Af F Aa).q fun a w F W => ?_
  refine Av F W (Ag F Aa Aa Aa Aa) Aa (Ao Aa) (DF F Aa Aa).q fun a w F W => ?_
  refine ls F W Aa (Ak F Aa Aa Aa).q fun a w F W => ?_
  refine Ae (Ab ?_)
  exact ⟨F.re ⟨rfl, Aa, (by show some (Value.bool (decide (7 < p0))) = some (Value.bool (decide (p0 < 1) || decide (7 < p0))); try rw [hb0]; all_goals simp only [Bool.not_true, Bool.not_false, Bool.true_and, Bool.false_and, Bool.true_or, Bool.false_or, Bool.and_true, Bool.or_false, cond_true, cond_false]), trivial⟩, W⟩
 rintro a w ⟨F, W⟩
 refine Ax F Aa (fun hb => ?_) fun hb => ?_
 ·
  have H := AN hb H
  rw [hb] at F
  clear hb
  refine Ai (Ac ?_)
  refine ls F W Aa (Ad (v := Value.string (bs ([63] : List UInt8))) F Aa).q fun a w F W => ?_
  refine Ae (Ab (Aw (AA ?_)))
  have H := AR H
  subst H
  refine AY (.inl Aa) F W Aa (As F Aa) ?_
  exact ⟨rfl, W.done⟩
 have H := AO (by rw [hb]; decide) H
 rw [hb] at F
 clear hb
 refine AE (Ab (Ai (Ac ?_)))
 refine F6 (z := Value.string (bs ([] : List UInt8))) (cs := [.string (bs ([98, 101, 103, 105, 110] : List UInt8)), .string (bs ([97, 114, 109] : List UInt8)), .string (bs ([115, 117, 114, 101] : List UInt8)), .string (bs ([99, 97, 110, 99, 101, 108] : List UInt8)), .string (bs ([99, 111, 109, 109, 105, 116] : List UInt8)), .string (bs ([99, 108, 111, 115, 101] : List UInt8)), .string (bs ([114, 101, 108, 101, 97, 115, 101] : List UInt8))]) Rp.str ([([98, 101, 103, 105, 110] : List UInt8), ([97, 114, 109] : List UInt8), ([115, 117, 114, 101] : List UInt8), ([99, 97, 110, 99, 101, 108] : List UInt8), ([99, 111, 109, 109, 105, 116] : List UInt8), ([99, 108, 111, 115, 101] : List UInt8), ([114, 101, 108, 101, 97, 115, 101] : List UInt8)] : List (List UInt8)) F W Aa JB Z9 Aa Aa Aa Aa Aa Aa (Fl.str.repL _ _ ([([98, 101, 103, 105, 110] : List UInt8), ([97, 114, 109] : List UInt8), ([115, 117, 114, 101] : List UInt8), ([99, 97, 110, 99, 101, 108] : List UInt8), ([99, 111, 109, 109, 105, 116] : List UInt8), ([99, 108, 111, 115, 101] : List UInt8), ([114, 101, 108, 101, 97, 115, 101] : List UInt8)] : List (List UInt8))) fun v1 a w F W => ?_
 refine ls F W Aa (Af F Aa).q fun a w F W => ?_
 refine ls F W Aa (F4 F Aa Aa Aa).q fun a w F W => ?_
 obtain ⟨x1, h1, H⟩ := Ap H
 refine ls F W Aa (BH (r := Rp.str) JB F Aa Aa (A3 0 Aa) h1).q fun a w F W => ?_
 refine ls F W Aa (A9 (y := Value.string (bs x1)) (j := 0) (i := Bn (p0 - 1)) F Aa Aa (A3 0 Aa) h1 Fl.str.to T9 Aa).q fun a w F W => ?_
 refine ls F W Aa (Ad F Aa).q fun a w F W => ?_
 refine Ae (Ab (Aw ?_))
 have H := AR H
 subst H
 refine AY (.inl Aa) F W Aa (As F Aa) ?_
 exact ⟨rfl, W.done⟩
theorem Ki : type_of% Tryd.underlying5 := Tryd.underlying5
theorem Gw : type_of% Tryd.underlying9 := Tryd.underlying9
theorem JX : Has Tryd.prog 37 := ⟨fun args w => An Tryd.func37 rfl (by decide) args w⟩
noncomputable def Bl (p0 : List UInt8) : (Int × Int × Int) → Option ((Int × Int × Int) ⊕ (Int × Int))
  | (x3, x4, x5) => (if x5 < 16 then (if x3 < (p0.length : Int) then (ix p0 x3).bind fun x7 => (if 48 ≤ (x7.toNat : Int) then (ix p0 x3).bind fun x8 => some (decide ((x8.toNat : Int) ≤ 57)) else some false) else some false) else some false).bind fun x6 => (if x6 = true then (ix p0 x3).bind fun x9 => some (.inl (Bn (x3 + 1), Bn ((Bn ((Bn (10 * x4)) + (Bn (x9.toNat : Int)))) - 48), Bn (x5 + 1))) else some (.inr (x3, x4)))
noncomputable def Bm (p0 : List UInt8) (p1 : Int) : Option (Int × Int) := (AP (Bl p0) (p1, 0, 0)).bind fun (x1, x2) => some (x2, x1)
theorem C9 (Y : Nat → Prop) (w0 : World)  (p0 : List UInt8) (p1 : Int) (r : Int × Int) (H : Bm p0 p1 = some r)  :
    Calls Tryd.prog 38 #[.string (bs p0), .int .i64 p1] w0 fun e w' => e = .returned (.tuple #[.int .i64 r.1, .int .i64 r.2]) ∧ Below w0.heap.size w0 w' := by
 refine enter Tryd.func38 Aa Tryd.ntmps38 Aa fun a F => ?_
 have W := Stw.start Y w0
 unfold Bm at H
 refine Ai (Ac ?_)
 iterate 2 refine ls F W Aa (Ad F Aa).q fun a w F W => ?_
 refine Ae (Ab (Ai (Ac ?_)))
 refine ls F W Aa (Ad F Aa).q fun a w F W => ?_
 refine Ae (Ab ?_)
 obtain ⟨o1, G1, K1⟩ := Ap H
 refine AL (fun a w => ∃ x1 : Int, ∃ x2 : Int, some ((x1, x2)) = some o1 ∧ Fr 42 [] [(1, .int .i64 x1), (4, .int .i64 0), (5, .int .i64 0), (6, .int .i64 x2)] a ∧ Stw ⟨Y, [], w0⟩ [] [] w) ?_ ?_
 ·
  have H := G1
  clear G1 K1
  refine Ai (Ac ?_)
  refine ls F W Aa (Ad F Aa).q fun a w F W => ?_
  refine Ae (Ab (AC ?_))
  refine Bz H (fun s a w => Fr 42 [] [(0, .string (bs p0)), (1, .int .i64 s.1), (4, .int .i64 0), (5, .int .i64 0), (6, .int .i64 s.2.1), (7, .int .i64 s.2.2)] a ∧ Stw ⟨Y, [], w0⟩ [] [] w) ⟨F.re ⟨rfl, Aa, Aa, Aa, Aa, Aa, trivial⟩, W⟩ fun s o a w H L2 hR => ?_
  obtain ⟨x3, x4, x5⟩ := s
  obtain ⟨F, W⟩ := hR
  have F : Fr 42 [] [(0, .string (bs p0)), (1, .int .i64 x3), (4, .int .i64 0), (5, .int .i64 0), (6, .int .i64 x4), (7, .int .i64 x5)] a := F
  have W : Stw ⟨Y, [], w0⟩ [] [] w := W
  rw [Bl] at H
  refine Ai ?_
  obtain ⟨o3, G3, K3⟩ := Ap H
  refine AL (fun a w => ∃ x6 : Bool, some (x6) = some o3 ∧ Fr 42 [] [(0, .string (bs p0)), (1, .int .i64 x3), (4, .int .i64 0), (5, .int .i64 0), (6, .int .i64 x4), (7, .int .i64 x5), (27, .bool x6)] a ∧ Stw ⟨Y, [], w0⟩ [] [] w) ?_ ?_
  ·
   have H := G3
   clear G3 K3
   refine Ac ?_
   refine ls F W Aa (Af F Aa).q fun a w F W => ?_
   refine ls F W Aa (BR F Aa Aa).q fun a w F W => ?_
   refine ls F W Aa (Af F Aa).q fun a w F W => ?_
   rcases Bool.eq_false_or_eq_true (decide (x5 < 16)) with hb | hb
   ·
    have H := AN (A1 hb) H
    rw [hb] at F
    clear hb
    iterate 2 refine Av F W (Ag F Aa Aa Aa Aa) Aa (Ao Aa) (Af F Aa).q fun a w F W => ?_
    refine Av F W (Ag F Aa Aa Aa Aa) Aa (Ao Aa) (Eb (l := p0) Gw Aa F Aa).q fun a w F W => ?_
    refine Av F W (Ag F Aa Aa Aa Aa) Aa (Ao Aa) (BR F Aa Aa).q fun a w F W => ?_
    refine ls F W Aa (Am F Aa Aa Aa).q fun a w F W => ?_
    refine ls F W Aa (Af F Aa).q fun a w F W => ?_
    rcases Bool.eq_false_or_eq_true (decide (x3 < (p0.length : Int))) with hb | hb
    ·
     have H := AN (A1 hb) H
     rw [hb] at F
     clear hb
     iterate 2 refine Av F W (Ag F Aa Aa Aa Aa) Aa (Ao Aa) (Af F Aa).q fun a w F W => ?_
     obtain ⟨x7, h1, H⟩ := Ap H
     refine Av F W (Ag F Aa Aa Aa Aa) Aa (Ao Aa) (Dv (l := p0) Gw F Aa Aa h1).q fun a w F W => ?_
     refine Av F W (Ag F Aa Aa Aa Aa) Aa (Ao Aa) (HO F Aa Aa).q fun a w F W => ?_
     refine ls F W Aa (Am F Aa Aa Aa).q fun a w F W => ?_
     refine ls F W Aa (Af F Aa).q fun a w F W => ?_
     rcases Bool.eq_false_or_eq_true (decide (48 ≤ (x7.toNat : Int))) with hb | hb
     ·
      have H := AN (A1 hb) H
      rw [hb] at F
      clear hb
      iterate 2 refine Av F W (Ag F Aa Aa Aa Aa) Aa (Ao Aa) (Af F Aa).q fun a w F W => ?_
      obtain ⟨x8, h2, H⟩ := Ap H
      refine Av F W (Ag F Aa Aa Aa Aa) Aa (Ao Aa) (Dv (l := p0) Gw F Aa Aa h2).q fun a w F W => ?_
      refine Av F W (Ag F Aa Aa Aa Aa) Aa (Ao Aa) (Ep F Aa Aa).q fun a w F W => ?_
      refine ls F W Aa (Am F Aa Aa Aa).q fun a w F W => ?_
      refine Ae (Ab ?_)
      exact ⟨_, H, F.re ⟨rfl, Aa, Aa, Aa, Aa, Aa, Aa, trivial⟩, W⟩
     have H := AO (A0 hb) H
     rw [hb] at F
     clear hb
     iterate 4 refine Bg F Aa Aa Aa Aa Aa Aa Aa fun a F => ?_
     refine ls F W Aa (Ak F Aa Aa Aa).q fun a w F W => ?_
     refine Ae (Ab ?_)
     exact ⟨_, H, F.re ⟨rfl, Aa, Aa, Aa, Aa, Aa, Aa, trivial⟩, W⟩
    have H := AO (A0 hb) H
    rw [hb] at F
    clear hb
    iterate 4 refine Bg F Aa Aa Aa Aa Aa Aa Aa fun a F => ?_
    refine ls F W Aa (Ak F Aa Aa Aa).q fun a w F W => ?_
    refine ls F W Aa (Af F Aa).q fun a w F W => ?_
    iterate 4 refine Bg F Aa Aa Aa Aa Aa Aa Aa fun a F => ?_
    refine ls F W Aa (Ak F Aa Aa Aa).q fun a w F W => ?_
    refine Ae (Ab ?_)
    exact ⟨_, H, F.re ⟨rfl, Aa, Aa, Aa, Aa, Aa, Aa, trivial⟩, W⟩
   have H := AO (A0 hb) H
   rw [hb] at F
   clear hb
   iterate 4 refine Bg F Aa Aa Aa Aa Aa Aa Aa fun a F => ?_
   refine ls F W Aa (Ak F Aa Aa Aa).q fun a w F W => ?_
   refine ls F W Aa (Af F Aa).q fun a w F W => ?_
   iterate 4 refine Bg F Aa Aa Aa Aa Aa Aa Aa fun a F => ?_
   refine ls F W Aa (Ak F Aa Aa Aa).q fun a w F W => ?_
   refine ls F W Aa (Af F Aa).q fun a w F W => ?_
   iterate 4 refine Bg F Aa Aa Aa Aa Aa Aa Aa fun a F => ?_
   refine ls F W Aa (Ak F Aa Aa Aa).q fun a w F W => ?_
   refine Ae (Ab ?_)
   exact ⟨_, H, F.re ⟨rfl, Aa, Aa, Aa, Aa, Aa, Aa, trivial⟩, W⟩
  rintro a w ⟨x6, hj, F, W⟩
  have hj := AR hj
  subst hj
  have H := K3
  clear G3 K3
  refine Ax F Aa (fun hb => ?_) fun hb => ?_
  ·
   have H := AN hb H
   rw [hb] at F
   clear hb
   refine AE (Ab (Ai (AC (Ai (Ac ?_)))))
   refine ls F W Aa (Af F Aa).q fun a w F W => ?_
   refine ls F W Aa (Jj F Aa Aa Aa).q fun a w F W => ?_
   iterate 2 refine ls F W Aa (Af F Aa).q fun a w F W => ?_
   obtain ⟨x9, h3, H⟩ := Ap H
   refine ls F W Aa (Dv (l := p0) Gw F Aa Aa h3).q fun a w F W => ?_
   refine ls F W Aa (Ij Ki HJ F Aa).q fun a w F W => ?_
   refine ls F W Aa (Bo F Aa Aa Aa).q fun a w F W => ?_
   refine ls F W Aa (F4 F Aa Aa Aa).q fun a w F W => ?_
   refine ls F W Aa (Ad F Aa).q fun a w F W => ?_
   refine Ae (Ab (Ac ?_))
   refine ls F W Aa (Af F Aa).q fun a w F W => ?_
   refine ls F W Aa (Bo F Aa Aa Aa).q fun a w F W => ?_
   refine ls F W Aa (Ad F Aa).q fun a w F W => ?_
   refine Ae (AQ (Ab (Ac ?_)))
   refine ls F W Aa (Af F Aa).q fun a w F W => ?_
   refine ls F W Aa (Bo F Aa Aa Aa).q fun a w F W => ?_
   refine ls F W Aa (Ad F Aa).q fun a w F W => ?_
   refine Ae (Ab ?_)
   exact ⟨_, H, F.re ⟨rfl, Aa, Aa, Aa, Aa, Aa, trivial⟩, W⟩
  have H := AO (by rw [hb]; decide) H
  rw [hb] at F
  clear hb
  refine BA ?_
  iterate 2 refine B0 ?_
  refine BB (Ab ?_)
  have H := L2 _ H
  exact ⟨_, _, H, F.re ⟨rfl, Aa, Aa, Aa, trivial⟩, W⟩
 rintro a w ⟨x1, x2, hj, F, W⟩
 have hj := AR hj
 subst hj
 have H := K1
 clear G1 K1
 refine Ai (Ac ?_)
 iterate 2 refine ls F W Aa (Af F Aa).q fun a w F W => ?_
 iterate 2 refine ls F W Aa (Ad F Aa).q fun a w F W => ?_
 refine Ae (Ab (Aw ?_))
 have H := AR H
 subst H
 refine Dj (.inl Aa) F W Aa (As F Aa) (As F Aa) ?_
 exact ⟨rfl, W.done⟩
theorem JH : Has Tryd.prog 38 := ⟨fun args w => An Tryd.func38 rfl (by decide) args w⟩
theorem Jc : Has Tryd.prog 42 := ⟨fun args w => An Tryd.func42 rfl (by decide) args w⟩
noncomputable def Cl (fRec : Int → Option (List UInt8)) (p0 : Int) : Option (List UInt8) := (if p0 < 0 then (if (-10) < p0 then (fRec (Bn (0 - p0))).bind fun x1 => (CL ([45] : List UInt8) x1).bind fun x2 => some x2 else (fRec (Bn (0 - (Bn (Int.tdiv p0 10))))).bind fun x3 => (CL ([45] : List UInt8) x3).bind fun x4 => (fRec (Bn (0 - (Int.tmod p0 10)))).bind fun x5 => (CL x4 x5).bind fun x6 => some x6) else (if p0 < 10 then (CM ([48, 49, 50, 51, 52, 53, 54, 55, 56, 57] : List UInt8) p0 (Bn (p0 + 1))).bind fun x7 => some x7 else (fRec (Bn (Int.tdiv p0 10))).bind fun x8 => (CM ([48, 49, 50, 51, 52, 53, 54, 55, 56, 57] : List UInt8) (Int.tmod p0 10) (Bn ((Int.tmod p0 10) + 1))).bind fun x9 => (CL x8 x9).bind fun x10 => some x10))
noncomputable def Cc : Nat → Int → Option (List UInt8)
  | 0 => fun _ => none
  | n + 1 => Cl (Cc n)
noncomputable def Cx (p0 : Int) : Option (List UInt8) := He fun n => Cc n p0
theorem EL (fRec : Int → Option (List UInt8)) (ih : ∀ (Y : Nat → Prop) (w0 : World)  (p0 : Int) (r : List UInt8) (H : fRec p0 = some r) , Calls Tryd.prog 42 #[.int .i64 p0] w0 fun e w' => e = .returned (.string (bs r)) ∧ Below w0.heap.size w0 w') (Y : Nat → Prop) (w0 : World)  (p0 : Int) (r : List UInt8) (H : Cl fRec p0 = some r)  :
    Calls Tryd.prog 42 #[.int .i64 p0] w0 fun e w' => e = .returned (.string (bs r)) ∧ Below w0.heap.size w0 w' := by
 refine enter Tryd.func42 Aa Tryd.ntmps42 Aa fun a F => ?_
 have W := Stw.start Y w0
 unfold Cl at H
 refine Ai (Ac ?_)
 refine ls F W Aa (Ad (v := Value.string (bs ([] : List UInt8))) F Aa).q fun a w F W => ?_
 refine Ae (Ab (Ai (Ai (Ac ?_))))
 refine ls F W Aa (Af F Aa).q fun a w F W => ?_
 refine ls F W Aa (BR F Aa Aa).q fun a w F W => ?_
 refine Ae (Ab ?_)
 refine Ax F Aa (fun hb => ?_) fun hb => ?_
 ·
  have H := AN (A1 hb) H
  rw [hb] at F
  clear hb
  refine Ai (Ai (Ac ?_))
  refine ls F W Aa (Af F Aa).q fun a w F W => ?_
  refine ls F W Aa (DF F Aa Aa).q fun a w F W => ?_
  refine Ae (Ab ?_)
  refine Ax F Aa (fun hb => ?_) fun hb => ?_
  ·
   have H := AN (A1 hb) H
   rw [hb] at F
   clear hb
   refine Ai (Ac ?_)
   refine ls F W Aa (Af F Aa).q fun a w F W => ?_
   refine ls F W Aa (F4 F Aa Aa Aa).q fun a w F W => ?_
   obtain ⟨x1, h1, H⟩ := Ap H
   refine ls F W Aa (AK (v := Value.string (bs x1)) F Jc Aa (fun w W => ih any w (Bn (0 - p0)) _ h1)) fun a w F W => ?_
   obtain ⟨x2, h2, H⟩ := Ap H
   refine ls F W Aa (BD (l := ([45] : List UInt8)) (m := x1) F Aa Aa h2).q fun a w F W => ?_
   refine ls F W Aa (Ad F Aa).q fun a w F W => ?_
   refine Ae (Ab (Aw ?_))
   iterate 2 refine AA ?_
   have H := AR H
   subst H
   refine AY (.inl Aa) F W Aa (As F Aa) ?_
   exact ⟨rfl, W.done⟩
  have H := AO (A0 hb) H
  rw [hb] at F
  clear hb
  refine AE (Ab (Ai (Ac ?_)))
  refine ls F W Aa (Af F Aa).q fun a w F W => ?_
  refine ls F W Aa (IW F Aa Aa (by decide) Aa).q fun a w F W => ?_
  refine ls F W Aa (F4 F Aa Aa Aa).q fun a w F W => ?_
  obtain ⟨x3, h3, H⟩ := Ap H
  refine ls F W Aa (AK (v := Value.string (bs x3)) F Jc Aa (fun w W => ih any w (Bn (0 - (Bn (Int.tdiv p0 10)))) _ h3)) fun a w F W => ?_
  obtain ⟨x4, h4, H⟩ := Ap H
  refine ls F W Aa (BD (l := ([45] : List UInt8)) (m := x3) F Aa Aa h4).q fun a w F W => ?_
  refine ls F W Aa (Af F Aa).q fun a w F W => ?_
  refine ls F W Aa (HS F Aa Aa (by decide) Aa).q fun a w F W => ?_
  refine ls F W Aa (F4 F Aa Aa Aa).q fun a w F W => ?_
  obtain ⟨x5, h5, H⟩ := Ap H
  refine ls F W Aa (AK (v := Value.string (bs x5)) F Jc Aa (fun w W => ih any w (Bn (0 - (Int.tmod p0 10))) _ h5)) fun a w F W => ?_
  obtain ⟨x6, h6, H⟩ := Ap H
  refine ls F W Aa (BD (l := x4) (m := x5) F Aa Aa h6).q fun a w F W => ?_
  refine ls F W Aa (Ad F Aa).q fun a w F W => ?_
  refine Ae (Ab (Aw (AA ?_)))
  have H := AR H
  subst H
  refine AY (.inl Aa) F W Aa (As F Aa) ?_
  exact ⟨rfl, W.done⟩
 have H := AO (A0 hb) H
 rw [hb] at F
 clear hb
 refine AE (Ab (Ai (Ai (Ac ?_))))
 refine ls F W Aa (Af F Aa).q fun a w F W => ?_
 refine ls F W Aa (BR F Aa Aa).q fun a w F W => ?_
 refine Ae (Ab ?_)
 refine Ax F Aa (fun hb => ?_) fun hb => ?_
 ·
  have H := AN (A1 hb) H
  rw [hb] at F
  clear hb
  refine Ai (Ac ?_)
  iterate 2 refine ls F W Aa (Af F Aa).q fun a w F W => ?_
  refine ls F W Aa (Bo F Aa Aa Aa).q fun a w F W => ?_
  obtain ⟨x7, h7, H⟩ := Ap H
  refine ls F W Aa (D2 (l := ([48, 49, 50, 51, 52, 53, 54, 55, 56, 57] : List UInt8)) Gw F Aa Aa Aa h7).q fun a w F W => ?_
  refine ls F W Aa (Ad F Aa).q fun a w F W => ?_
  refine Ae (Ab (Aw (AA ?_)))
  have H := AR H
  subst H
  refine AY (.inl Aa) F W Aa (As F Aa) ?_
  exact ⟨rfl, W.done⟩
 have H := AO (A0 hb) H
 rw [hb] at F
 clear hb
 refine AE (Ab (Ai ?_))
 refine C1 W MO (by kernel_rfl) ?_
 refine qs F Aa (Af F Aa).q fun a F => ?_
 refine qs F Aa (IW F Aa Aa (by decide) Aa).q fun a F => ?_
 obtain ⟨x8, h8, H⟩ := Ap H
 refine qs F Aa (AK (v := Value.string (bs x8)) F Jc Aa (fun w W => ih any w (Bn (Int.tdiv p0 10)) _ h8)) fun a F => ?_
 refine qs F Aa (Af F Aa).q fun a F => ?_
 refine qs F Aa (HS F Aa Aa (by decide) Aa).q fun a F => ?_
 refine qs F Aa (Af F Aa).q fun a F => ?_
 refine qs F Aa (HS F Aa Aa (by decide) Aa).q fun a F => ?_
 refine qs F Aa (Bo F Aa Aa Aa).q fun a F => ?_
 obtain ⟨x9, h9, H⟩ := Ap H
 refine qs F Aa (D2 (l := ([48, 49, 50, 51, 52, 53, 54, 55, 56, 57] : List UInt8)) Gw F Aa Aa Aa h9).q fun a F => ?_
 obtain ⟨x10, h10, H⟩ := Ap H
 refine qs F Aa (BD (l := x8) (m := x9) F Aa Aa h10).q fun a F => ?_
 refine qs F Aa (Ad F Aa).q fun a F => ?_
 refine Cv fun w W => ?_
 refine Ab (Aw ?_)
 have H := AR H
 subst H
 refine AY (.inl Aa) F W Aa (As F Aa) ?_
 exact ⟨rfl, W.done⟩
theorem Fj : ∀ (n : Nat) (Y : Nat → Prop) (w0 : World)  (p0 : Int) (r : List UInt8) (H : Cc n p0 = some r) , Calls Tryd.prog 42 #[.int .i64 p0] w0 fun e w' => e = .returned (.string (bs r)) ∧ Below w0.heap.size w0 w' := by
  intro n
  induction n with
  | zero => intro Y w0  p0 r H; exact nomatch H
  | succ n ih => intro Y w0  p0 r H ; exact EL (Cc n) ih Y w0  p0 r H 
theorem C7 (Y : Nat → Prop) (w0 : World)  (p0 : Int) (r : List UInt8) (H : Cx p0 = some r)  :
    Calls Tryd.prog 42 #[.int .i64 p0] w0 fun e w' => e = .returned (.string (bs r)) ∧ Below w0.heap.size w0 w' := by
  obtain ⟨n, H⟩ := Ht H
  exact Fj n Y w0  p0 r H 
noncomputable def CZ (p0 : Int × Int × Int × Int) : Option (List UInt8) := (C2 p0.1).bind fun x1 => (CL x1 ([32] : List UInt8)).bind fun x2 => (Cx p0.2.1).bind fun x3 => (CL x2 x3).bind fun x4 => (CL x4 ([32] : List UInt8)).bind fun x5 => (Cx p0.2.2.1).bind fun x6 => (CL x5 x6).bind fun x7 => (CL x7 ([32] : List UInt8)).bind fun x8 => (Cx p0.2.2.2).bind fun x9 => (CL x8 x9).bind fun x10 => (CL x10 ([10] : List UInt8)).bind fun x11 => some x11
theorem E9 (Y : Nat → Prop) (w0 : World)  (p0 : Int × Int × Int × Int) (r : List UInt8) (H : CZ p0 = some r)  :
    Calls Tryd.prog 30 #[.agg #[.int .i64 p0.1, .int .i64 p0.2.1, .int .i64 p0.2.2.1, .int .i64 p0.2.2.2]] w0 fun e w' => e = .returned (.string (bs r)) ∧ Below w0.heap.size w0 w' := by
 refine enter Tryd.func30 Aa Tryd.ntmps30 Aa fun a F => ?_
 have W := Stw.start Y w0
 unfold CZ at H
 refine Ai (Ac ?_)
 refine Fy (cs := [.int .i64 p0.1, .int .i64 p0.2.1, .int .i64 p0.2.2.1, .int .i64 p0.2.2.2]) F W Aa Aa Aa fun b1 a w F W => ?_
 refine ls F W Aa (Ad (v := Value.string (bs ([] : List UInt8))) F Aa).q fun a w F W => ?_
 refine Ae (Ab (Ai ?_))
 refine C1 W MO (by kernel_rfl) ?_
 refine qs F Aa (Ah Cs Aa Aa Aa T3 F Aa 0 Aa).q fun a F => ?_
 refine qs F Aa (Aq (v := Value.int .i64 p0.1) 0 F Aa Aa T3 Aa).q fun a F => ?_
 obtain ⟨x1, h1, H⟩ := Ap H
 refine qs F Aa (AK (v := Value.string (bs x1)) F JX Aa (fun w W => EZ any w p0.1 _ h1)) fun a F => ?_
 obtain ⟨x2, h2, H⟩ := Ap H
 refine qs F Aa (BD (l := x1) (m := ([32] : List UInt8)) F Aa Aa h2).q fun a F => ?_
 refine qs F Aa (Ah Cs Aa Aa Aa T3 F Aa 1 Aa).q fun a F => ?_
 refine qs F Aa (Aq (v := Value.int .i64 p0.2.1) 0 F Aa Aa T3 Aa).q fun a F => ?_
 obtain ⟨x3, h3, H⟩ := Ap H
 refine qs F Aa (AK (v := Value.string (bs x3)) F Jc Aa (fun w W => C7 any w p0.2.1 _ h3)) fun a F => ?_
 obtain ⟨x4, h4, H⟩ := Ap H
 refine qs F Aa (BD (l := x2) (m := x3) F Aa Aa h4).q fun a F => ?_
 obtain ⟨x5, h5, H⟩ := Ap H
 refine qs F Aa (BD (l := x4) (m := ([32] : List UInt8)) F Aa Aa h5).q fun a F => ?_
 refine qs F Aa (Ah Cs Aa Aa Aa T3 F Aa 2 Aa).q fun a F => ?_
 refine qs F Aa (Aq (v := Value.int .i64 p0.2.2.1) 0 F Aa Aa T3 Aa).q fun a F => ?_
 obtain ⟨x6, h6, H⟩ := Ap H
 refine qs F Aa (AK (v := Value.string (bs x6)) F Jc Aa (fun w W => C7 any w p0.2.2.1 _ h6)) fun a F => ?_
 obtain ⟨x7, h7, H⟩ := Ap H
 refine qs F Aa (BD (l := x5) (m := x6) F Aa Aa h7).q fun a F => ?_
 obtain ⟨x8, h8, H⟩ := Ap H
 refine qs F Aa (BD (l := x7) (m := ([32] : List UInt8)) F Aa Aa h8).q fun a F => ?_
 refine qs F Aa (Ah Cs Aa Aa Aa T3 F Aa 3 Aa).q fun a F => ?_
 refine qs F Aa (Aq (v := Value.int .i64 p0.2.2.2) 0 F Aa Aa T3 Aa).q fun a F => ?_
 obtain ⟨x9, h9, H⟩ := Ap H
 refine qs F Aa (AK (v := Value.string (bs x9)) F Jc Aa (fun w W => C7 any w p0.2.2.2 _ h9)) fun a F => ?_
 obtain ⟨x10, h10, H⟩ := Ap H
 refine qs F Aa (BD (l := x8) (m := x9) F Aa Aa h10).q fun a F => ?_
 obtain ⟨x11, h11, H⟩ := Ap H
 refine qs F Aa (BD (l := x10) (m := ([10] : List UInt8)) F Aa Aa h11).q fun a F => ?_
 refine qs F Aa (Ad F Aa).q fun a F => ?_
 refine Cv fun w W => ?_
 refine Ab (Aw ?_)
 have H := AR H
 subst H
 refine AY (.inl Aa) F W Aa (As F Aa) ?_
 exact ⟨rfl, W.done⟩
end Go.Proofs.YtdllfdmdfdfilaaDoor
