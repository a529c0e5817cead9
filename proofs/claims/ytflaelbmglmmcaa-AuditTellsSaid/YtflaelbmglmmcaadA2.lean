/- The functions of layer 42, FF. Conditions: none. -/
import Derived.Test.YtflaelbmglmmcaadA1
namespace Go.Proofs.Ytflaelbmglmmcaa
open Go Go.RowKit
set_option linter.unusedVariables false
set_option linter.unusedSimpArgs false
set_option maxRecDepth 20000
theorem R0 : Has Try.prog 60 := ⟨fun args w => Al Try.func60 rfl (by decide) args w⟩
noncomputable def AV (p0 : List Int) : Int → Option (Int ⊕ (Unit ⊕ Int))
  | x1 => (if x1 < (p0.length : Int) then (ix p0 x1).bind fun x2 => (if (Ci x2) = true then some (.inr (.inr x1)) else some (.inl (Dz (x1 + 1)))) else some (.inr (.inl ())))
noncomputable def BM (p0 : List Int) : Option Int := D6 (AM (AV p0) 0) fun _ => some (-1)
theorem FB (Y : Nat → Prop) (w0 : World) (v1 : Value) (p0 : List Int) (r : Int) (H : BM p0 = some r) (h_v1 : Sl w0 (NX []) (Rp.int .i64) v1 p0) :
    Calls Try.prog 67 #[v1, .func (.func 60) #[] #[]] w0 fun e w' => e = .returned (.int .i64 r) ∧ Below w0.heap.size w0 w' := by
 refine enter Try.func67 Aa Try.ntmps67 Aa fun a F => ?_
 have W := Stw.start Y w0
 unfold BM at H
 refine Ai (Ac ?_)
 refine ls F W Aa (Ah F Aa).q fun a w F W => ?_
 refine Ad (Ab ?_)
 obtain ⟨o1, G1, K1, L1⟩ := H4 H
 refine AB (fun a w => some (Sum.inl ()) = some o1 ∧ Fr 19 [] [(4, .int .i64 0)] a ∧ Stw ⟨Y, [], w0⟩ [] [] w) ?_ ?_
 ·
  have H := G1
  clear G1 K1
  refine Ai (Ac ?_)
  refine ls F W Aa (Ag F Aa).q fun a w F W => ?_
  refine ls F W Aa (A6 (r := (Rp.int .i64)) (l := p0) Fc Aa F Aa (Aj h_v1)).q fun a w F W => ?_
  refine ls F W Aa (Ag F Aa).q fun a w F W => ?_
  refine Ad (Ab (Au ?_))
  refine Bf H (fun s a w => Fr 19 [] [(0, v1), (1, .func (.func 60) #[] #[]), (4, .int .i64 0), (7, .int .i64 (p0.length : Int)), (8, .int .i64 s)] a ∧ Stw ⟨Y, [], w0⟩ [] [] w) ⟨F.re ⟨rfl, Aa, Aa, Aa, Aa, trivial⟩, W⟩ fun s o a w H L2 hR => ?_
  obtain ⟨x1, rfl⟩ : ∃ x, x = s := ⟨s, rfl⟩
  obtain ⟨F, W⟩ := hR
  have F : Fr 19 [] [(0, v1), (1, .func (.func 60) #[] #[]), (4, .int .i64 0), (7, .int .i64 (p0.length : Int)), (8, .int .i64 x1)] a := F
  have W : Stw ⟨Y, [], w0⟩ [] [] w := W
  rw [AV] at H
  refine Ai (Ac ?_)
  refine ls F W Aa (Bi F Aa Aa).q fun a w F W => ?_
  refine Ad (Ab (Ai ?_))
  refine Ax F Aa (fun hb => ?_) fun hb => ?_
  ·
   have H := AK (Bd hb) H
   rw [hb] at F
   clear hb
   refine Ap (Ab (Ai (Au (Ai (Ac ?_)))))
   refine ls F W Aa (Ag F Aa).q fun a w F W => ?_
   refine ls F W Aa (Ah F Aa).q fun a w F W => ?_
   refine Ad (Ab (Ai (Ac ?_)))
   iterate 3 refine ls F W Aa (Ag F Aa).q fun a w F W => ?_
   obtain ⟨x2, h1, H⟩ := An H
   refine ls F W Aa (Az (r := (Rp.int .i64)) Hl F Aa Aa (Aj h_v1) h1).q fun a w F W => ?_
   refine ls F W Aa (Aq (y := Value.int .i64 x2) (j := 0) (i := x1) F Aa Aa (Aj h_v1) h1 Fl.int.to T3 Aa).q fun a w F W => ?_
   refine ls F W Aa (IV (ws := [.int .i64 x2]) (v := Value.bool (Ci x2)) F R0 Aa (fun w W => HO any w x2 _ Aa)) fun a w F W => ?_
   refine Ad (Ab ?_)
   refine Ax F Aa (fun hb => ?_) fun hb => ?_
   ·
    have H := AK hb H
    rw [hb] at F
    clear hb
    refine Ai (Ac ?_)
    refine ls F W Aa (Ag F Aa).q fun a w F W => ?_
    refine ls F W Aa (Ah F Aa).q fun a w F W => ?_
    refine Ad (Ab (AA (AH ?_)))
    iterate 2 refine AD ?_
    refine AH (AD ?_)
    have H := L2 _ H
    have H := L1 _ H
    have H := AN H
    subst H
    refine AW (.inl Aa) F W Aa (As F Aa) ?_
    exact ⟨rfl, W.done⟩
   have H := AL (by rw [hb]; decide) H
   rw [hb] at F
   clear hb
   refine Ap (AF (Ab (Ac ?_)))
   refine ls F W Aa (BS F Aa Aa Aa).q fun a w F W => ?_
   refine ls F W Aa (Ag F Aa).q fun a w F W => ?_
   refine Ad (Ab ?_)
   exact ⟨_, H, F.re ⟨rfl, Aa, Aa, Aa, Aa, trivial⟩, W⟩
  have H := AL (Bc hb) H
  rw [hb] at F
  clear hb
  refine A8 ?_
  iterate 2 refine Bk ?_
  refine A9 (Ab ?_)
  have H := L2 _ H
  exact ⟨H, F.re ⟨rfl, trivial⟩, W⟩
 rintro a w ⟨hj, F, W⟩
 have H := K1 _ hj
 clear hj G1 K1 L1
 refine Ai (Ac ?_)
 refine ls F W Aa (Ah F Aa).q fun a w F W => ?_
 refine Ad (Ab (AA ?_))
 have H := AN H
 subst H
 refine AW (.inl Aa) F W Aa (As F Aa) ?_
 exact ⟨rfl, W.done⟩
theorem R5 : Has Try.prog 67 := ⟨fun args w => Al Try.func67 rfl (by decide) args w⟩
noncomputable def Bm (p0 : List Int) : Option Bool := (BM p0).bind fun x1 => some (decide (0 ≤ x1))
theorem E7 (Y : Nat → Prop) (w0 : World) (v1 : Value) (p0 : List Int) (r : Bool) (H : Bm p0 = some r) (h_v1 : Sl w0 (NX []) (Rp.int .i64) v1 p0) :
    Calls Try.prog 59 #[v1, .func (.func 60) #[] #[]] w0 fun e w' => e = .returned (.bool r) ∧ Below w0.heap.size w0 w' := by
 refine enter Try.func59 Aa Try.ntmps59 Aa fun a F => ?_
 have W := Stw.start Y w0
 unfold Bm at H
 refine Ai (Ac ?_)
 refine ls F W Aa (Ah F Aa).q fun a w F W => ?_
 refine Ad (Ab (Ai (Ac ?_)))
 iterate 2 refine ls F W Aa (Ag F Aa).q fun a w F W => ?_
 obtain ⟨x1, h1, H⟩ := An H
 refine ls F W Aa (Bl (v := Value.int .i64 x1) F R5 Aa (fun w W => FB any w (v1) p0 _ h1 (((Aj h_v1) : CH _ _ _ _ _ _) w W).nx)) fun a w F W => ?_
 refine ls F W Aa (DH F Aa Aa).q fun a w F W => ?_
 refine ls F W Aa (Ah F Aa).q fun a w F W => ?_
 refine Ad (Ab (AA ?_))
 have H := AN H
 subst H
 refine AW (.inl Aa) F W Aa (As F Aa) ?_
 exact ⟨rfl, W.done⟩
theorem Rf : Has Try.prog 59 := ⟨fun args w => Al Try.func59 rfl (by decide) args w⟩
noncomputable def CM (p0 : Int × (List (Int × Int × Int × Int × Int × Int)) × (List (Int × Int))) (p1 : List (List Int)) : Int → Option (Int ⊕ (Unit ⊕ Bool))
  | x3 => (if x3 < (p1.length : Int) then (ix p1 x3).bind fun x4 => (if (x4.length : Int) ≠ (p0.2.2.length : Int) then some true else (Bm x4).bind fun x6 => some x6).bind fun x5 => (if x5 = true then some (.inr (.inr false)) else some (.inl (Dz (x3 + 1)))) else some (.inr (.inl ())))
noncomputable def DM (p0 : Int × (List (Int × Int × Int × Int × Int × Int)) × (List (Int × Int))) (p1 : List (List Int)) : Option Bool := ((D9 p0).bind fun x2 => (if (!x2) = true then some true else some (decide ((p1.length : Int) ≠ p0.1)))).bind fun x1 => (if x1 = true then some false else D6 (AM (CM p0 p1) 0) fun _ => some true)
theorem J0 (Y : Nat → Prop) (w0 : World) (v1 : Value) (v2 : Value) (v3 : Value) (p0 : Int × (List (Int × Int × Int × Int × Int × Int)) × (List (Int × Int))) (p1 : List (List Int)) (r : Bool) (H : DM p0 p1 = some r) (h_v1 : Sl w0 (NX []) C8 v1 p0.2.1) (h_v2 : Sl w0 (NX []) EL v2 p0.2.2) (h_v3 : Sl w0 (NX []) (Rp.slice (Rp.int .i64)) v3 p1) :
    Calls Try.prog 54 #[.agg #[.int .i64 p0.1, v1, v2], v3] w0 fun e w' => e = .returned (.bool r) ∧ Below w0.heap.size w0 w' := by
 refine enter Try.func54 Aa Try.ntmps54 Aa fun a F => ?_
 have W := Stw.start Y w0
 obtain ⟨v4, h1, h_v3⟩ := h_v3.ex Ep
 unfold DM at H
 refine Ai (Ac ?_)
 refine B9 (cs := [.int .i64 p0.1, v1, v2]) F W Aa Aa Aa fun b1 a w F W => ?_
 refine ls F W Aa (Ah F Aa).q fun a w F W => ?_
 refine Ad (Ab (Ai ?_))
 obtain ⟨o1, G1, K1⟩ := An H
 refine AB (fun a w => ∃ x1 : Bool, some (x1) = some o1 ∧ Fr 34 [] [(1, v3), (2, .pointer (some ⟨b1, 0, none⟩)), (4, .bool false), (16, .bool x1)] a ∧ Stw ⟨Y, [], w0⟩ [(b1, [.int .i64 p0.1, v1, v2])] [] w) ?_ ?_
 ·
  have H := G1
  clear G1 K1
  refine Ac ?_
  refine ls F W Aa (Am (v := Value.agg #[.int .i64 p0.1, v1, v2]) 0 F Aa Aa HW Aa).q fun a w F W => ?_
  obtain ⟨x2, h2, H⟩ := An H
  refine ls F W Aa (Bl (v := Value.bool x2) F So Aa (fun w W => KR any w (v1) (v2) p0 _ h2 (((Aj h_v1) : CH _ _ _ _ _ _) w W).nx (((Aj h_v2) : CH _ _ _ _ _ _) w W).nx)) fun a w F W => ?_
  refine ls F W Aa (E5 F Aa).q fun a w F W => ?_
  refine ls F W Aa (Ag F Aa).q fun a w F W => ?_
  rcases Bool.eq_false_or_eq_true (!x2) with hb | hb
  ·
   have H := AK hb H
   rw [hb] at F
   clear hb
   iterate 5 refine B4 F Aa Aa Aa Aa Aa Aa Aa fun a F => ?_
   refine ls F W Aa (Ao F Aa Aa Aa).q fun a w F W => ?_
   refine Ad (Ab ?_)
   exact ⟨_, H, F.re ⟨rfl, Aa, Aa, Aa, trivial⟩, W⟩
  have H := AL (by rw [hb]; decide) H
  rw [hb] at F
  clear hb
  refine Ay F W (Ae F Aa Aa Aa Aa) Aa (Ak Aa) (Ag F Aa).q fun a w F W => ?_
  refine Ay F W (Ae F Aa Aa Aa Aa) Aa (Ak Aa) (A6 (r := (Rp.slice (Rp.int .i64))) (l := p1) JM Aa F Aa (BA Ep h1 (Aj h_v3))).q fun a w F W => ?_
  refine Ay F W (Ae F Aa Aa Aa Aa) Aa (Ak Aa) (Af Dg Aa Aa Aa T3 F Aa 0 Aa).q fun a w F W => ?_
  refine Ay F W (Ae F Aa Aa Aa Aa) Aa (Ak Aa) (Am (v := Value.int .i64 p0.1) 0 F Aa Aa T3 Aa).q fun a w F W => ?_
  refine Ay F W (Ae F Aa Aa Aa Aa) Aa (Ak Aa) (Dx F Aa Aa).q fun a w F W => ?_
  refine ls F W Aa (Av F Aa Aa Aa).q fun a w F W => ?_
  refine Ad (Ab ?_)
  exact ⟨_, H, F.re ⟨rfl, Aa, Aa, Aa, trivial⟩, W⟩
 rintro a w ⟨x1, hj, F, W⟩
 have hj := AN hj
 subst hj
 have H := K1
 clear G1 K1
 refine Ax F Aa (fun hb => ?_) fun hb => ?_
 ·
  have H := AK hb H
  rw [hb] at F
  clear hb
  refine Ai (Ac ?_)
  refine ls F W Aa (Ah F Aa).q fun a w F W => ?_
  refine Ad (Ab (AA (AD ?_)))
  have H := AN H
  subst H
  refine AW (.inl Aa) F W Aa (As F Aa) ?_
  exact ⟨rfl, W.done⟩
 have H := AL (by rw [hb]; decide) H
 rw [hb] at F
 clear hb
 refine Ap (Ab ?_)
 obtain ⟨o2, G2, K2, L2⟩ := H4 H
 refine AB (fun a w => some (Sum.inl ()) = some o2 ∧ Fr 34 [] [(4, .bool false)] a ∧ Stw ⟨Y, [], w0⟩ [(b1, [.int .i64 p0.1, v1, v2])] [] w) ?_ ?_
 ·
  have H := G2
  clear G2 K2
  refine Ai (Ac ?_)
  refine ls F W Aa (Ag F Aa).q fun a w F W => ?_
  refine ls F W Aa (A6 (r := (Rp.slice (Rp.int .i64))) (l := p1) JM Aa F Aa (BA Ep h1 (Aj h_v3))).q fun a w F W => ?_
  refine ls F W Aa (Ag F Aa).q fun a w F W => ?_
  refine Ad (Ab (Au ?_))
  refine Bf H (fun s a w => Fr 34 [] [(2, .pointer (some ⟨b1, 0, none⟩)), (4, .bool false), (17, v3), (18, .int .i64 (p1.length : Int)), (19, .int .i64 s)] a ∧ Stw ⟨Y, [], w0⟩ [(b1, [.int .i64 p0.1, v1, v2])] [] w) ⟨F.re ⟨rfl, Aa, Aa, Aa, Aa, trivial⟩, W⟩ fun s o a w H L3 hR => ?_
  obtain ⟨x3, rfl⟩ : ∃ x, x = s := ⟨s, rfl⟩
  obtain ⟨F, W⟩ := hR
  have F : Fr 34 [] [(2, .pointer (some ⟨b1, 0, none⟩)), (4, .bool false), (17, v3), (18, .int .i64 (p1.length : Int)), (19, .int .i64 x3)] a := F
  have W : Stw ⟨Y, [], w0⟩ [(b1, [.int .i64 p0.1, v1, v2])] [] w := W
  rw [CM] at H
  refine Ai (Ac ?_)
  refine ls F W Aa (Bi F Aa Aa).q fun a w F W => ?_
  refine Ad (Ab (Ai ?_))
  refine Ax F Aa (fun hb => ?_) fun hb => ?_
  ·
   have H := AK (Bd hb) H
   rw [hb] at F
   clear hb
   refine Ap (Ab (Ai (Au (Ai (Ac ?_)))))
   obtain ⟨x4, h3, H⟩ := An H
   obtain ⟨v5, h4, h5⟩ := Cx h1 h3
   have h6 : Fi v5 = [(v5.1)] := congrArg (fun q : List Int => ([(v5.1)] : List Value)) h5
   refine ls F W Aa (Az (r := (Rp.vsl (Rp.int .i64))) MT F Aa Aa (Aj h_v3) h4).q fun a w F W => ?_
   refine ls F W Aa (Aq (y := (v5.1)) (j := 0) (i := x3) (enc := Fi) F Aa Aa (Aj h_v3) h4 IA E1 (by rw [h6]; rfl)).q fun a w F W => ?_
   refine ls F W Aa (Ah F Aa).q fun a w F W => ?_
   refine Ad (Ab ?_)
   obtain ⟨o4, G4, K4⟩ := An H
   refine AB (fun a w => ∃ x5 : Bool, some (x5) = some o4 ∧ Fr 34 [] [(2, .pointer (some ⟨b1, 0, none⟩)), (4, .bool false), (17, v3), (18, .int .i64 (p1.length : Int)), (19, .int .i64 x3), (32, .bool x5)] a ∧ Stw ⟨Y, [], w0⟩ [(b1, [.int .i64 p0.1, v1, v2])] [] w) ?_ ?_
   ·
    have H := G4
    clear G4 K4
    refine Ac ?_
    refine ls F W Aa (Ag F Aa).q fun a w F W => ?_
    refine ls F W Aa (A6 (r := (Rp.int .i64)) (l := x4) Fc Aa F Aa (CS (Aj h_v3) h4 CR.here (congrArg (fun q : List Int => q) h5))).q fun a w F W => ?_
    refine ls F W Aa (Af Dg Aa Aa Aa GW F Aa 2 Aa).q fun a w F W => ?_
    refine ls F W Aa (Am (v := v2) 0 F Aa Aa GW Aa).q fun a w F W => ?_
    refine ls F W Aa (A6 (r := EL) (l := p0.2.2) IK Aa F Aa (Aj h_v2)).q fun a w F W => ?_
    refine ls F W Aa (Dx F Aa Aa).q fun a w F W => ?_
    refine ls F W Aa (Ag F Aa).q fun a w F W => ?_
    rcases Bool.eq_false_or_eq_true (decide ((x4.length : Int) ≠ (p0.2.2.length : Int))) with hb | hb
    ·
     have H := AK (Bd hb) H
     rw [hb] at F
     clear hb
     iterate 2 refine B4 F Aa Aa Aa Aa Aa Aa Aa fun a F => ?_
     refine ls F W Aa (Ao F Aa Aa Aa).q fun a w F W => ?_
     refine Ad (Ab ?_)
     exact ⟨_, H, F.re ⟨rfl, Aa, Aa, Aa, Aa, Aa, trivial⟩, W⟩
    have H := AL (Bc hb) H
    rw [hb] at F
    clear hb
    refine Ay F W (Ae F Aa Aa Aa Aa) Aa (Ak Aa) (Ag F Aa).q fun a w F W => ?_
    refine Jv (Ae F Aa Aa Aa Aa) ?_
    obtain ⟨x6, h7, H⟩ := An H
    refine ls F W Aa (Bl (v := Value.bool x6) F Rf Aa (fun w W => E7 any w ((v5.1)) x4 _ h7 (((CS (Aj h_v3) h4 CR.here (congrArg (fun q : List Int => q) h5)) : CH _ _ _ _ _ _) w W).nx)) fun a w F W => ?_
    refine ls F W Aa (Av F Aa Aa Aa).q fun a w F W => ?_
    refine Ad (Ab ?_)
    exact ⟨_, H, F.re ⟨rfl, Aa, Aa, Aa, Aa, Aa, trivial⟩, W⟩
   rintro a w ⟨x5, hj, F, W⟩
   have hj := AN hj
   subst hj
   have H := K4
   clear G4 K4
   refine Ax F Aa (fun hb => ?_) fun hb => ?_
   ·
    have H := AK hb H
    rw [hb] at F
    clear hb
    refine Ai (Ac ?_)
    refine ls F W Aa (Ah F Aa).q fun a w F W => ?_
    refine Ad (Ab (AA (AH ?_)))
    iterate 2 refine AD ?_
    refine AH (AD ?_)
    have H := L3 _ H
    have H := L2 _ H
    have H := AN H
    subst H
    refine AW (.inl Aa) F W Aa (As F Aa) ?_
    exact ⟨rfl, W.done⟩
   have H := AL (by rw [hb]; decide) H
   rw [hb] at F
   clear hb
   refine Ap (AF (Ab (Ac ?_)))
   refine ls F W Aa (BS F Aa Aa Aa).q fun a w F W => ?_
   refine ls F W Aa (Ag F Aa).q fun a w F W => ?_
   refine Ad (Ab ?_)
   exact ⟨_, H, F.re ⟨rfl, Aa, Aa, Aa, Aa, trivial⟩, W⟩
  have H := AL (Bc hb) H
  rw [hb] at F
  clear hb
  refine A8 ?_
  iterate 2 refine Bk ?_
  refine A9 (Ab ?_)
  have H := L3 _ H
  exact ⟨H, F.re ⟨rfl, trivial⟩, W⟩
 rintro a w ⟨hj, F, W⟩
 have H := K2 _ hj
 clear hj G2 K2 L2
 refine Ai (Ac ?_)
 refine ls F W Aa (Ah F Aa).q fun a w F W => ?_
 refine Ad (Ab (AA ?_))
 have H := AN H
 subst H
 refine AW (.inl Aa) F W Aa (As F Aa) ?_
 exact ⟨rfl, W.done⟩
theorem Ru : Has Try.prog 54 := ⟨fun args w => Al Try.func54 rfl (by decide) args w⟩
theorem Qr (dd : Nat) (x0 : Int) (x1 : Int) (y0 : Int) (y1 : Int) (w : World) : (Op.equalIn (dd + 2) 60 (.agg #[.int .i64 x0, .int .i64 x1]) (.agg #[.int .i64 y0, .int .i64 y1])).run Try.prog w = .ok (decide (x0 = y0 ∧ x1 = y1)) w :=
  HX (d := dd + 1) (rs := [decide (x0 = y0), decide (x1 = y1)]) JS (by kernel_rfl) ⟨rfl, G0 (d := dd + 0) rfl rfl On T3 rfl rfl, rfl, G0 (d := dd + 0) rfl rfl On T3 rfl rfl, trivial⟩ (by simp) w
theorem Rw : Try.prog.eqGuardType Try.prog.depth 60 = false := by kernel_rfl
theorem RL (x0 : Int) (x1 : Int) (y0 : Int) (y1 : Int) (w : World) : (Op.equalIn 10000 60 (.agg #[.int .i64 x0, .int .i64 x1]) (.agg #[.int .i64 y0, .int .i64 y1])).run Try.prog w = .ok (decide (x0 = y0 ∧ x1 = y1)) w := Qr 9998 x0 x1 y0 y1 w
noncomputable def AO (p0 : List (Int × Int)) (p1 : Int × Int) : Int → Option (Int ⊕ (Unit ⊕ Int))
  | x1 => (if x1 < (p0.length : Int) then (ix p0 x1).bind fun x2 => (if p1.1 = x2.1 ∧ p1.2 = x2.2 then some (.inr (.inr x1)) else some (.inl (Dz (x1 + 1)))) else some (.inr (.inl ())))
noncomputable def Bp (p0 : List (Int × Int)) (p1 : Int × Int) : Option Int := D6 (AM (AO p0 p1) 0) fun _ => some (-1)
theorem Em (Y : Nat → Prop) (w0 : World) (v1 : Value) (p0 : List (Int × Int)) (p1 : Int × Int) (r : Int) (H : Bp p0 p1 = some r) (h_v1 : Sl w0 (NX []) EL v1 p0) :
    Calls Try.prog 68 #[v1, .agg #[.int .i64 p1.1, .int .i64 p1.2]] w0 fun e w' => e = .returned (.int .i64 r) ∧ Below w0.heap.size w0 w' := by
 refine enter Try.func68 Aa Try.ntmps68 Aa fun a F => ?_
 have W := Stw.start Y w0
 unfold Bp at H
 refine Ai (Ac ?_)
 refine B9 (cs := [.int .i64 p1.1, .int .i64 p1.2]) F W Aa Aa Aa fun b1 a w F W => ?_
 refine ls F W Aa (Ah F Aa).q fun a w F W => ?_
 refine Ad (Ab ?_)
 obtain ⟨o1, G1, K1, L1⟩ := H4 H
 refine AB (fun a w => some (Sum.inl ()) = some o1 ∧ Fr 19 [] [(4, .int .i64 0)] a ∧ Stw ⟨Y, [], w0⟩ [(b1, [.int .i64 p1.1, .int .i64 p1.2])] [] w) ?_ ?_
 ·
  have H := G1
  clear G1 K1
  refine Ai (Ac ?_)
  refine ls F W Aa (Ag F Aa).q fun a w F W => ?_
  refine ls F W Aa (A6 (r := EL) (l := p0) IK Aa F Aa (Aj h_v1)).q fun a w F W => ?_
  refine ls F W Aa (Ag F Aa).q fun a w F W => ?_
  refine Ad (Ab (Au ?_))
  refine Bf H (fun s a w => Fr 19 [] [(0, v1), (3, .pointer (some ⟨b1, 0, none⟩)), (4, .int .i64 0), (7, .int .i64 (p0.length : Int)), (8, .int .i64 s)] a ∧ Stw ⟨Y, [], w0⟩ [(b1, [.int .i64 p1.1, .int .i64 p1.2])] [] w) ⟨F.re ⟨rfl, Aa, Aa, Aa, Aa, trivial⟩, W⟩ fun s o a w H L2 hR => ?_
  obtain ⟨x1, rfl⟩ : ∃ x, x = s := ⟨s, rfl⟩
  obtain ⟨F, W⟩ := hR
  have F : Fr 19 [] [(0, v1), (3, .pointer (some ⟨b1, 0, none⟩)), (4, .int .i64 0), (7, .int .i64 (p0.length : Int)), (8, .int .i64 x1)] a := F
  have W : Stw ⟨Y, [], w0⟩ [(b1, [.int .i64 p1.1, .int .i64 p1.2])] [] w := W
  rw [AO] at H
  refine Ai (Ac ?_)
  refine ls F W Aa (Bi F Aa Aa).q fun a w F W => ?_
  refine Ad (Ab (Ai ?_))
  refine Ax F Aa (fun hb => ?_) fun hb => ?_
  ·
   have H := AK (Bd hb) H
   rw [hb] at F
   clear hb
   refine Ap (Ab (Ai (Au (Ai (Ac ?_)))))
   refine ls F W Aa (Ag F Aa).q fun a w F W => ?_
   refine ls F W Aa (Ah F Aa).q fun a w F W => ?_
   refine Ad (Ab (Ai ?_))
   refine BE W MO (by kernel_rfl) ?_
   refine qs F Aa (Am (v := Value.agg #[.int .i64 p1.1, .int .i64 p1.2]) 0 F Aa Aa P8 Aa).q fun a F => ?_
   iterate 2 refine qs F Aa (Ag F Aa).q fun a F => ?_
   obtain ⟨x2, h1, H⟩ := An H
   refine qs F Aa (Az (r := EL) Od F Aa Aa (Aj h_v1) h1).q fun a F => ?_
   refine qs F Aa (Aq (y := Value.agg #[.int .i64 x2.1, .int .i64 x2.2]) (j := 0) (i := x1) F Aa Aa (Aj h_v1) h1 OA.to P8 Aa).q fun a F => ?_
   refine qs F Aa (Mh (t := decide (p1.1 = x2.1 ∧ p1.2 = x2.2)) Rw (RL _ _ _ _) F Aa Aa).q fun a F => ?_
   refine AX fun w W => ?_
   refine Ab ?_
   refine Ax F Aa (fun hb => ?_) fun hb => ?_
   ·
    have H := AK (Bd hb) H
    rw [hb] at F
    clear hb
    refine Ai (Ac ?_)
    refine ls F W Aa (Ag F Aa).q fun a w F W => ?_
    refine ls F W Aa (Ah F Aa).q fun a w F W => ?_
    refine Ad (Ab (AA (AH ?_)))
    iterate 2 refine AD ?_
    refine AH (AD ?_)
    have H := L2 _ H
    have H := L1 _ H
    have H := AN H
    subst H
    refine AW (.inl Aa) F W Aa (As F Aa) ?_
    exact ⟨rfl, W.done⟩
   have H := AL (Bc hb) H
   rw [hb] at F
   clear hb
   refine Ap (AF (Ab (Ac ?_)))
   refine ls F W Aa (BS F Aa Aa Aa).q fun a w F W => ?_
   refine ls F W Aa (Ag F Aa).q fun a w F W => ?_
   refine Ad (Ab ?_)
   exact ⟨_, H, F.re ⟨rfl, Aa, Aa, Aa, Aa, trivial⟩, W⟩
  have H := AL (Bc hb) H
  rw [hb] at F
  clear hb
  refine A8 ?_
  iterate 2 refine Bk ?_
  refine A9 (Ab ?_)
  have H := L2 _ H
  exact ⟨H, F.re ⟨rfl, trivial⟩, W⟩
 rintro a w ⟨hj, F, W⟩
 have H := K1 _ hj
 clear hj G1 K1 L1
 refine Ai (Ac ?_)
 refine ls F W Aa (Ah F Aa).q fun a w F W => ?_
 refine Ad (Ab (AA ?_))
 have H := AN H
 subst H
 refine AW (.inl Aa) F W Aa (As F Aa) ?_
 exact ⟨rfl, W.done⟩
theorem RS : Has Try.prog 68 := ⟨fun args w => Al Try.func68 rfl (by decide) args w⟩
noncomputable def Dk (p0 : Int × (List (Int × Int × Int × Int × Int × Int)) × (List (Int × Int))) (p1 : Int) (p2 : Int) : Option Int := (Bp p0.2.2 (p1, p2)).bind fun x1 => some x1
theorem JU (Y : Nat → Prop) (w0 : World) (v1 : Value) (v2 : Value) (p0 : Int × (List (Int × Int × Int × Int × Int × Int)) × (List (Int × Int))) (p1 : Int) (p2 : Int) (r : Int) (H : Dk p0 p1 p2 = some r) (h_v1 : Sl w0 (NX []) C8 v1 p0.2.1) (h_v2 : Sl w0 (NX []) EL v2 p0.2.2) :
    Calls Try.prog 61 #[.agg #[.int .i64 p0.1, v1, v2], .int .i64 p1, .int .i64 p2] w0 fun e w' => e = .returned (.int .i64 r) ∧ Below w0.heap.size w0 w' := by
 refine enter Try.func61 Aa Try.ntmps61 Aa fun a F => ?_
 have W := Stw.start Y w0
 unfold Dk at H
 refine Ai (Ac ?_)
 refine B9 (cs := [.int .i64 p0.1, v1, v2]) F W Aa Aa Aa fun b1 a w F W => ?_
 refine ls F W Aa (Ah F Aa).q fun a w F W => ?_
 refine Ad (Ab (Ai (Ac ?_)))
 refine ls F W Aa (Af Dg Aa Aa Aa GW F Aa 2 Aa).q fun a w F W => ?_
 refine ls F W Aa (Am (v := v2) 0 F Aa Aa GW Aa).q fun a w F W => ?_
 iterate 2 refine ls F W Aa (Ag F Aa).q fun a w F W => ?_
 refine ls F W Aa (BH (v := Value.agg #[.int .i64 p1, .int .i64 p2]) QO F Aa Aa Aa).q fun a w F W => ?_
 obtain ⟨x1, h1, H⟩ := An H
 refine ls F W Aa (Bl (v := Value.int .i64 x1) F RS Aa (fun w W => Em any w (v2) p0.2.2 (p1, p2) _ h1 (((Aj h_v2) : CH _ _ _ _ _ _) w W).nx)) fun a w F W => ?_
 refine ls F W Aa (Ah F Aa).q fun a w F W => ?_
 refine Ad (Ab (AA ?_))
 have H := AN H
 subst H
 refine AW (.inl Aa) F W Aa (As F Aa) ?_
 exact ⟨rfl, W.done⟩
theorem Sr : Has Try.prog 61 := ⟨fun args w => Al Try.func61 rfl (by decide) args w⟩
noncomputable def B5 (p0 : Int × (List (Int × Int × Int × Int × Int × Int)) × (List (Int × Int))) (p1 : Int) (p2 : Int) : Int → Option (Int ⊕ (Unit ⊕ (Int × Int × Int × Bool)))
  | x1 => (if x1 < (p0.2.1.length : Int) then (ix p0.2.1 x1).bind fun x2 => (if p1 = x2.1 ∧ p2 = x2.2.1 then some (.inr (.inr (x2.2.2.1, x2.2.2.2.1, x1, true))) else (if p1 = x2.2.2.1 ∧ p2 = x2.2.2.2.1 then some (.inr (.inr (x2.1, x2.2.1, x1, true))) else some (.inl (Dz (x1 + 1))))) else some (.inr (.inl ())))
noncomputable def Di (p0 : Int × (List (Int × Int × Int × Int × Int × Int)) × (List (Int × Int))) (p1 : Int) (p2 : Int) : Option (Int × Int × Int × Bool) := D6 (AM (B5 p0 p1 p2) 0) fun _ => some (0, 0, 0, false)
theorem LB (Y : Nat → Prop) (w0 : World) (v1 : Value) (v2 : Value) (p0 : Int × (List (Int × Int × Int × Int × Int × Int)) × (List (Int × Int))) (p1 : Int) (p2 : Int) (r : Int × Int × Int × Bool) (H : Di p0 p1 p2 = some r) (h_v1 : Sl w0 (NX []) C8 v1 p0.2.1) (h_v2 : Sl w0 (NX []) EL v2 p0.2.2) :
    Calls Try.prog 69 #[.agg #[.int .i64 p0.1, v1, v2], .int .i64 p1, .int .i64 p2] w0 fun e w' => e = .returned (.tuple #[.int .i64 r.1, .int .i64 r.2.1, .int .i64 r.2.2.1, .bool r.2.2.2]) ∧ Below w0.heap.size w0 w' := by
 refine enter Try.func69 Aa Try.ntmps69 Aa fun a F => ?_
 have W := Stw.start Y w0
 unfold Di at H
 refine Ai (Ac ?_)
 refine B9 (cs := [.int .i64 p0.1, v1, v2]) F W Aa Aa Aa fun b1 a w F W => ?_
 iterate 4 refine ls F W Aa (Ah F Aa).q fun a w F W => ?_
 refine Ad (Ab (Ai (Ac ?_)))
 iterate 2 refine ls F W Aa (Ag F Aa).q fun a w F W => ?_
 refine ls F W Aa (BH (v := Value.agg #[.int .i64 p1, .int .i64 p2]) M8 F Aa Aa Aa).q fun a w F W => ?_
 refine BX (cs := [.int .i64 0, .int .i64 0]) F W Aa OK Aa fun b2 a w F W => ?_
 refine BJ (vs := [.int .i64 p1, .int .i64 p2]) (M' := [(b2, [.int .i64 p1, .int .i64 p2]), (b1, [.int .i64 p0.1, v1, v2])]) 0 F W Aa Aa Aa LZ Aa Aa Aa Aa Aa fun w W => ?_
 refine Ad (Ab ?_)
 obtain ⟨o1, G1, K1, L1⟩ := H4 H
 refine AB (fun a w => some (Sum.inl ()) = some o1 ∧ Fr 49 [] [(6, .int .i64 0), (7, .int .i64 0), (8, .int .i64 0), (9, .bool false)] a ∧ Stw ⟨Y, [], w0⟩ [(b2, [.int .i64 p1, .int .i64 p2]), (b1, [.int .i64 p0.1, v1, v2])] [] w) ?_ ?_
 ·
  have H := G1
  clear G1 K1
  refine Ai (Ac ?_)
  refine ls F W Aa (Af Dg Aa Aa Aa IY F Aa 1 Aa).q fun a w F W => ?_
  refine ls F W Aa (Am (v := v1) 1 F Aa Aa IY Aa).q fun a w F W => ?_
  refine ls F W Aa (A6 (r := C8) (l := p0.2.1) JY Aa F Aa (Aj h_v1)).q fun a w F W => ?_
  refine ls F W Aa (Ag F Aa).q fun a w F W => ?_
  refine Ad (Ab (Au ?_))
  have W := W.frontM (i := 1) Aa Aa
  have W := W.frontM (i := 1) Aa Aa
  refine Bf H (fun s a w => Fr 49 [] [(6, .int .i64 0), (7, .int .i64 0), (8, .int .i64 0), (9, .bool false), (10, .pointer (some ⟨b2, 0, none⟩)), (17, v1), (18, .int .i64 (p0.2.1.length : Int)), (19, .int .i64 s)] a ∧ Stw ⟨Y, [], w0⟩ [(b2, [.int .i64 p1, .int .i64 p2]), (b1, [.int .i64 p0.1, v1, v2])] [] w) ⟨F.re ⟨rfl, Aa, Aa, Aa, Aa, Aa, Aa, Aa, trivial⟩, W⟩ fun s o a w H L2 hR => ?_
  obtain ⟨x1, rfl⟩ : ∃ x, x = s := ⟨s, rfl⟩
  obtain ⟨F, W⟩ := hR
  have F : Fr 49 [] [(6, .int .i64 0), (7, .int .i64 0), (8, .int .i64 0), (9, .bool false), (10, .pointer (some ⟨b2, 0, none⟩)), (17, v1), (18, .int .i64 (p0.2.1.length : Int)), (19, .int .i64 x1)] a := F
  have W : Stw ⟨Y, [], w0⟩ [(b2, [.int .i64 p1, .int .i64 p2]), (b1, [.int .i64 p0.1, v1, v2])] [] w := W
  rw [B5] at H
  refine Ai (Ac ?_)
  refine ls F W Aa (Bi F Aa Aa).q fun a w F W => ?_
  refine Ad (Ab (Ai ?_))
  refine Ax F Aa (fun hb => ?_) fun hb => ?_
  ·
   have H := AK (Bd hb) H
   rw [hb] at F
   clear hb
   refine Ap (Ab (Ai (Au (Ai (Ac ?_)))))
   refine ls F W Aa (Ag F Aa).q fun a w F W => ?_
   obtain ⟨x2, h1, H⟩ := An H
   refine ls F W Aa (Az (r := C8) Py F Aa Aa (Aj h_v1) h1).q fun a w F W => ?_
   refine ls F W Aa (Aq (y := Value.agg #[.int .i64 x2.1, .int .i64 x2.2.1, .int .i64 x2.2.2.1, .int .i64 x2.2.2.2.1, .int .i64 x2.2.2.2.2.1, .int .i64 x2.2.2.2.2.2]) (j := 0) (i := x1) F Aa Aa (Aj h_v1) h1 M9.to Jk Aa).q fun a w F W => ?_
   refine BX (cs := [.int .i64 0, .int .i64 0, .int .i64 0, .int .i64 0, .int .i64 0, .int .i64 0]) F W Aa NU Aa fun b3 a w F W => ?_
   refine ls F W Aa (Ah F Aa).q fun a w F W => ?_
   refine BJ (vs := [.int .i64 x2.1, .int .i64 x2.2.1, .int .i64 x2.2.2.1, .int .i64 x2.2.2.2.1, .int .i64 x2.2.2.2.2.1, .int .i64 x2.2.2.2.2.2]) (M' := [(b3, [.int .i64 x2.1, .int .i64 x2.2.1, .int .i64 x2.2.2.1, .int .i64 x2.2.2.2.1, .int .i64 x2.2.2.2.2.1, .int .i64 x2.2.2.2.2.2]), (b2, [.int .i64 p1, .int .i64 p2]), (b1, [.int .i64 p0.1, v1, v2])]) 0 F W Aa Aa Aa Jk Aa Aa Aa Aa Aa fun w W => ?_
   refine Ad (Ab (Ai (Ai (Ac ?_))))
   refine ls F W Aa (Am (v := Value.agg #[.int .i64 p1, .int .i64 p2]) 1 F Aa Aa LZ Aa).q fun a w F W => ?_
   refine ls F W Aa (Af Ca Aa Aa Aa T3 F Aa 0 Aa).q fun a w F W => ?_
   refine ls F W Aa (Am (v := Value.int .i64 x2.1) 0 F Aa Aa T3 Aa).q fun a w F W => ?_
   refine ls F W Aa (Af Ca Aa Aa Aa T3 F Aa 1 Aa).q fun a w F W => ?_
   refine ls F W Aa (Am (v := Value.int .i64 x2.2.1) 0 F Aa Aa T3 Aa).q fun a w F W => ?_
   refine ls F W Aa (BH (v := Value.agg #[.int .i64 x2.1, .int .i64 x2.2.1]) M8 F Aa Aa Aa).q fun a w F W => ?_
   refine ls F W Aa (Mh (t := decide (p1 = x2.1 ∧ p2 = x2.2.1)) PR (O0 _ _ _ _) F Aa Aa).q fun a w F W => ?_
   refine Ad (Ab ?_)
   refine Ax F Aa (fun hb => ?_) fun hb => ?_
   ·
    have H := AK (Bd hb) H
    rw [hb] at F
    clear hb
    refine Ai ?_
    refine BE W MO (by kernel_rfl) ?_
    refine qs F Aa (Af Ca Aa Aa Aa T3 F Aa 2 Aa).q fun a F => ?_
    refine qs F Aa (Am (v := Value.int .i64 x2.2.2.1) 0 F Aa Aa T3 Aa).q fun a F => ?_
    refine qs F Aa (Af Ca Aa Aa Aa T3 F Aa 3 Aa).q fun a F => ?_
    refine qs F Aa (Am (v := Value.int .i64 x2.2.2.2.1) 0 F Aa Aa T3 Aa).q fun a F => ?_
    refine qs F Aa (Ag F Aa).q fun a F => ?_
    iterate 4 refine qs F Aa (Ah F Aa).q fun a F => ?_
    refine AX fun w W => ?_
    refine Ab (AA (AD (AH ?_)))
    iterate 2 refine AD ?_
    refine AH (AD ?_)
    have H := L2 _ H
    have H := L1 _ H
    have H := AN H
    subst H
    refine Kb (.inl Aa) F W Aa (As F Aa) (As F Aa) (As F Aa) (As F Aa) ?_
    exact ⟨rfl, W.done⟩
   have H := AL (Bc hb) H
   rw [hb] at F
   clear hb
   refine Ap (Ab (Ai (Ac ?_)))
   refine ls F W Aa (Am (v := Value.agg #[.int .i64 p1, .int .i64 p2]) 1 F Aa Aa LZ Aa).q fun a w F W => ?_
   refine ls F W Aa (Af Ca Aa Aa Aa T3 F Aa 2 Aa).q fun a w F W => ?_
   refine ls F W Aa (Am (v := Value.int .i64 x2.2.2.1) 0 F Aa Aa T3 Aa).q fun a w F W => ?_
   refine ls F W Aa (Af Ca Aa Aa Aa T3 F Aa 3 Aa).q fun a w F W => ?_
   refine ls F W Aa (Am (v := Value.int .i64 x2.2.2.2.1) 0 F Aa Aa T3 Aa).q fun a w F W => ?_
   refine ls F W Aa (BH (v := Value.agg #[.int .i64 x2.2.2.1, .int .i64 x2.2.2.2.1]) M8 F Aa Aa Aa).q fun a w F W => ?_
   refine ls F W Aa (Mh (t := decide (p1 = x2.2.2.1 ∧ p2 = x2.2.2.2.1)) PR (O0 _ _ _ _) F Aa Aa).q fun a w F W => ?_
   refine Ad (Ab ?_)
   refine Ax F Aa (fun hb => ?_) fun hb => ?_
   ·
    have H := AK (Bd hb) H
    rw [hb] at F
    clear hb
    refine Ai ?_
    refine BE W MO (by kernel_rfl) ?_
    refine qs F Aa (Af Ca Aa Aa Aa T3 F Aa 0 Aa).q fun a F => ?_
    refine qs F Aa (Am (v := Value.int .i64 x2.1) 0 F Aa Aa T3 Aa).q fun a F => ?_
    refine qs F Aa (Af Ca Aa Aa Aa T3 F Aa 1 Aa).q fun a F => ?_
    refine qs F Aa (Am (v := Value.int .i64 x2.2.1) 0 F Aa Aa T3 Aa).q fun a F => ?_
    refine qs F Aa (Ag F Aa).q fun a F => ?_
    iterate 4 refine qs F Aa (Ah F Aa).q fun a F => ?_
    refine AX fun w W => ?_
    refine Ab (AA (AH ?_))
    iterate 2 refine AD ?_
    refine AH (AD ?_)
    have H := L2 _ H
    have H := L1 _ H
    have H := AN H
    subst H
    refine Kb (.inl Aa) F W Aa (As F Aa) (As F Aa) (As F Aa) (As F Aa) ?_
    exact ⟨rfl, W.done⟩
   have H := AL (Bc hb) H
   rw [hb] at F
   clear hb
   refine Ap (AF (Ab (Ac ?_)))
   refine ls F W Aa (BS F Aa Aa Aa).q fun a w F W => ?_
   refine ls F W Aa (Ag F Aa).q fun a w F W => ?_
   refine Ad (Ab ?_)
   have W := W.frontM (i := 2) Aa Aa
   have W := W.frontM (i := 2) Aa Aa
   have W := W.sub (M' := [(b2, [.int .i64 p1, .int .i64 p2]), (b1, [.int .i64 p0.1, v1, v2])]) (Z' := []) (List.Sublist.cons_cons _ (List.Sublist.cons_cons _ (List.nil_sublist _))) (List.Sublist.refl _)
   exact ⟨_, H, F.re ⟨rfl, Aa, Aa, Aa, Aa, Aa, Aa, Aa, trivial⟩, W⟩
  have H := AL (Bc hb) H
  rw [hb] at F
  clear hb
  refine A8 ?_
  iterate 2 refine Bk ?_
  refine A9 (Ab ?_)
  have W := W.frontM (i := 1) Aa Aa
  have W := W.frontM (i := 1) Aa Aa
  have H := L2 _ H
  exact ⟨H, F.re ⟨rfl, Aa, Aa, Aa, trivial⟩, W⟩
 rintro a w ⟨hj, F, W⟩
 have H := K1 _ hj
 clear hj G1 K1 L1
 refine Ai (Ac ?_)
 iterate 4 refine ls F W Aa (Ah F Aa).q fun a w F W => ?_
 refine Ad (Ab (AA ?_))
 have H := AN H
 subst H
 refine Kb (.inl Aa) F W Aa (As F Aa) (As F Aa) (As F Aa) (As F Aa) ?_
 exact ⟨rfl, W.done⟩
theorem RK : Has Try.prog 69 := ⟨fun args w => Al Try.func69 rfl (by decide) args w⟩
noncomputable def D8 (p0 : Int × (List (Int × Int × Int × Int × Int × Int)) × (List (Int × Int))) (p1 : List (List Int)) (p2 : Int) (p3 : Int) : Option (Int × Bool) := (if p2 < 0 then some true else (if (p1.length : Int) ≤ p2 then some true else (if p3 < 0 then some true else (ix p1 p2).bind fun x2 => some (decide ((x2.length : Int) ≤ p3))))).bind fun x1 => (if x1 = true then some (0, false) else (ix p1 p2).bind fun x3 => (ix x3 p3).bind fun x4 => (Di p0 p2 x4).bind fun x5 => some (x5.1, x5.2.2.2))
theorem KQ (Y : Nat → Prop) (w0 : World) (v1 : Value) (v2 : Value) (v3 : Value) (p0 : Int × (List (Int × Int × Int × Int × Int × Int)) × (List (Int × Int))) (p1 : List (List Int)) (p2 : Int) (p3 : Int) (r : Int × Bool) (H : D8 p0 p1 p2 p3 = some r) (h_v1 : Sl w0 (NX []) C8 v1 p0.2.1) (h_v2 : Sl w0 (NX []) EL v2 p0.2.2) (h_v3 : Sl w0 (NX []) (Rp.slice (Rp.int .i64)) v3 p1) :
    Calls Try.prog 62 #[.agg #[.int .i64 p0.1, v1, v2], v3, .int .i64 p2, .int .i64 p3] w0 fun e w' => e = .returned (.tuple #[.int .i64 r.1, .bool r.2]) ∧ Below w0.heap.size w0 w' := by
 refine enter Try.func62 Aa Try.ntmps62 Aa fun a F => ?_
 have W := Stw.start Y w0
 obtain ⟨v4, h1, h_v3⟩ := h_v3.ex Ep
 unfold D8 at H
 refine Ai (Ac ?_)
 refine B9 (cs := [.int .i64 p0.1, v1, v2]) F W Aa Aa Aa fun b1 a w F W => ?_
 iterate 2 refine ls F W Aa (Ah F Aa).q fun a w F W => ?_
 refine Ad (Ab (Ai ?_))
 obtain ⟨o1, G1, K1⟩ := An H
 refine AB (fun a w => ∃ x1 : Bool, some (x1) = some o1 ∧ Fr 52 [] [(1, v3), (2, .int .i64 p2), (3, .int .i64 p3), (4, .pointer (some ⟨b1, 0, none⟩)), (8, .int .i64 0), (9, .bool false), (34, .bool x1)] a ∧ Stw ⟨Y, [], w0⟩ [(b1, [.int .i64 p0.1, v1, v2])] [] w) ?_ ?_
 ·
  have H := G1
  clear G1 K1
  refine Ac ?_
  refine ls F W Aa (Ag F Aa).q fun a w F W => ?_
  refine ls F W Aa (Bi F Aa Aa).q fun a w F W => ?_
  refine ls F W Aa (Ag F Aa).q fun a w F W => ?_
  rcases Bool.eq_false_or_eq_true (decide (p2 < 0)) with hb | hb
  ·
   have H := AK (Bd hb) H
   rw [hb] at F
   clear hb
   iterate 4 refine B4 F Aa Aa Aa Aa Aa Aa Aa fun a F => ?_
   refine ls F W Aa (Ao F Aa Aa Aa).q fun a w F W => ?_
   refine ls F W Aa (Ag F Aa).q fun a w F W => ?_
   iterate 2 refine B4 F Aa Aa Aa Aa Aa Aa Aa fun a F => ?_
   refine ls F W Aa (Ao F Aa Aa Aa).q fun a w F W => ?_
   refine ls F W Aa (Ag F Aa).q fun a w F W => ?_
   iterate 7 refine B4 F Aa Aa Aa Aa Aa Aa Aa fun a F => ?_
   refine ls F W Aa (Ao F Aa Aa Aa).q fun a w F W => ?_
   refine Ad (Ab ?_)
   exact ⟨_, H, F.re ⟨rfl, Aa, Aa, Aa, Aa, Aa, Aa, trivial⟩, W⟩
  have H := AL (Bc hb) H
  rw [hb] at F
  clear hb
  iterate 2 refine Ay F W (Ae F Aa Aa Aa Aa) Aa (Ak Aa) (Ag F Aa).q fun a w F W => ?_
  refine Ay F W (Ae F Aa Aa Aa Aa) Aa (Ak Aa) (A6 (r := (Rp.slice (Rp.int .i64))) (l := p1) JM Aa F Aa (BA Ep h1 (Aj h_v3))).q fun a w F W => ?_
  refine Ay F W (Ae F Aa Aa Aa Aa) Aa (Ak Aa) (DH F Aa Aa).q fun a w F W => ?_
  refine ls F W Aa (Av F Aa Aa Aa).q fun a w F W => ?_
  refine ls F W Aa (Ag F Aa).q fun a w F W => ?_
  rcases Bool.eq_false_or_eq_true (decide ((p1.length : Int) ≤ p2)) with hb | hb
  ·
   have H := AK (Bd hb) H
   rw [hb] at F
   clear hb
   iterate 2 refine B4 F Aa Aa Aa Aa Aa Aa Aa fun a F => ?_
   refine ls F W Aa (Ao F Aa Aa Aa).q fun a w F W => ?_
   refine ls F W Aa (Ag F Aa).q fun a w F W => ?_
   iterate 7 refine B4 F Aa Aa Aa Aa Aa Aa Aa fun a F => ?_
   refine ls F W Aa (Ao F Aa Aa Aa).q fun a w F W => ?_
   refine Ad (Ab ?_)
   exact ⟨_, H, F.re ⟨rfl, Aa, Aa, Aa, Aa, Aa, Aa, trivial⟩, W⟩
  have H := AL (Bc hb) H
  rw [hb] at F
  clear hb
  refine Ay F W (Ae F Aa Aa Aa Aa) Aa (Ak Aa) (Ag F Aa).q fun a w F W => ?_
  refine Ay F W (Ae F Aa Aa Aa Aa) Aa (Ak Aa) (Bi F Aa Aa).q fun a w F W => ?_
  refine ls F W Aa (Av F Aa Aa Aa).q fun a w F W => ?_
  refine ls F W Aa (Ag F Aa).q fun a w F W => ?_
  rcases Bool.eq_false_or_eq_true (decide (p3 < 0)) with hb | hb
  ·
   have H := AK (Bd hb) H
   rw [hb] at F
   clear hb
   iterate 7 refine B4 F Aa Aa Aa Aa Aa Aa Aa fun a F => ?_
   refine ls F W Aa (Ao F Aa Aa Aa).q fun a w F W => ?_
   refine Ad (Ab ?_)
   exact ⟨_, H, F.re ⟨rfl, Aa, Aa, Aa, Aa, Aa, Aa, trivial⟩, W⟩
  have H := AL (Bc hb) H
  rw [hb] at F
  clear hb
  iterate 3 refine Ay F W (Ae F Aa Aa Aa Aa) Aa (Ak Aa) (Ag F Aa).q fun a w F W => ?_
  obtain ⟨x2, h2, H⟩ := An H
  obtain ⟨v5, h3, h4⟩ := Cx h1 h2
  have h5 : Fi v5 = [(v5.1)] := congrArg (fun q : List Int => ([(v5.1)] : List Value)) h4
  refine Ay F W (Ae F Aa Aa Aa Aa) Aa (Ak Aa) (Az (r := (Rp.vsl (Rp.int .i64))) MT F Aa Aa (Aj h_v3) h3).q fun a w F W => ?_
  refine Ay F W (Ae F Aa Aa Aa Aa) Aa (Ak Aa) (Aq (y := (v5.1)) (j := 0) (i := p2) (enc := Fi) F Aa Aa (Aj h_v3) h3 IA E1 (by rw [h5]; rfl)).q fun a w F W => ?_
  refine Ay F W (Ae F Aa Aa Aa Aa) Aa (Ak Aa) (A6 (r := (Rp.int .i64)) (l := x2) Fc Aa F Aa (CS (Aj h_v3) h3 CR.here (congrArg (fun q : List Int => q) h4))).q fun a w F W => ?_
  refine Ay F W (Ae F Aa Aa Aa Aa) Aa (Ak Aa) (DH F Aa Aa).q fun a w F W => ?_
  refine ls F W Aa (Av F Aa Aa Aa).q fun a w F W => ?_
  refine Ad (Ab ?_)
  exact ⟨_, H, F.re ⟨rfl, Aa, Aa, Aa, Aa, Aa, Aa, trivial⟩, W⟩
 rintro a w ⟨x1, hj, F, W⟩
 have hj := AN hj
 subst hj
 have H := K1
 clear G1 K1
 refine Ax F Aa (fun hb => ?_) fun hb => ?_
 ·
  have H := AK hb H
  rw [hb] at F
  clear hb
  refine Ai (Ac ?_)
  iterate 2 refine ls F W Aa (Ah F Aa).q fun a w F W => ?_
  refine Ad (Ab (AA (AD ?_)))
  have H := AN H
  subst H
  refine EJ (.inl Aa) F W Aa (As F Aa) (As F Aa) ?_
  exact ⟨rfl, W.done⟩
 have H := AL (by rw [hb]; decide) H
 rw [hb] at F
 clear hb
 refine Ap (Ab (Ai ?_))
 refine BE W MO (by kernel_rfl) ?_
 refine qs F Aa (Am (v := Value.agg #[.int .i64 p0.1, v1, v2]) 0 F Aa Aa HW Aa).q fun a F => ?_
 iterate 3 refine qs F Aa (Ag F Aa).q fun a F => ?_
 obtain ⟨x3, h6, H⟩ := An H
 obtain ⟨v6, h7, h8⟩ := Cx h1 h6
 have h9 : Fi v6 = [(v6.1)] := congrArg (fun q : List Int => ([(v6.1)] : List Value)) h8
 refine qs F Aa (Az (r := (Rp.vsl (Rp.int .i64))) MT F Aa Aa (Aj h_v3) h7).q fun a F => ?_
 refine qs F Aa (Aq (y := (v6.1)) (j := 0) (i := p2) (enc := Fi) F Aa Aa (Aj h_v3) h7 IA E1 (by rw [h9]; rfl)).q fun a F => ?_
 refine qs F Aa (Ag F Aa).q fun a F => ?_
 obtain ⟨x4, h10, H⟩ := An H
 refine qs F Aa (Az (r := (Rp.int .i64)) Hl F Aa Aa (CS (Aj h_v3) h7 CR.here (congrArg (fun q : List Int => q) h8)) h10).q fun a F => ?_
 refine qs F Aa (Aq (y := Value.int .i64 x4) (j := 0) (i := p3) F Aa Aa (CS (Aj h_v3) h7 CR.here (congrArg (fun q : List Int => q) h8)) h10 Fl.int.to T3 Aa).q fun a F => ?_
 obtain ⟨x5, h11, H⟩ := An H
 refine qs F Aa (Bl (v := Value.tuple #[.int .i64 x5.1, .int .i64 x5.2.1, .int .i64 x5.2.2.1, .bool x5.2.2.2]) F RK Aa (fun w W => LB any w (v1) (v2) p0 p2 x4 _ h11 (((Aj h_v1) : CH _ _ _ _ _ _) w W).nx (((Aj h_v2) : CH _ _ _ _ _ _) w W).nx)) fun a F => ?_
 refine qs F Aa (Ag F Aa).q fun a F => ?_
 refine qs F Aa (Bj (v := Value.int .i64 x5.1) F Aa Aa).q fun a F => ?_
 refine qs F Aa (Bj (v := Value.int .i64 x5.2.1) F Aa Aa).q fun a F => ?_
 refine qs F Aa (Bj (v := Value.int .i64 x5.2.2.1) F Aa Aa).q fun a F => ?_
 refine qs F Aa (Bj (v := Value.bool x5.2.2.2) F Aa Aa).q fun a F => ?_
 iterate 4 refine qs F Aa (Ah F Aa).q fun a F => ?_
 refine AX fun w W => ?_
 refine Ab (Ai (Ac ?_))
 iterate 2 refine ls F W Aa (Ag F Aa).q fun a w F W => ?_
 iterate 2 refine ls F W Aa (Ah F Aa).q fun a w F W => ?_
 refine Ad (Ab (AA ?_))
 have H := AN H
 subst H
 refine EJ (.inl Aa) F W Aa (As F Aa) (As F Aa) ?_
 exact ⟨rfl, W.done⟩
theorem RJ : Has Try.prog 62 := ⟨fun args w => Al Try.func62 rfl (by decide) args w⟩
noncomputable def BN (p0 : List Int) (p1 : Int) : Int → Option (Int ⊕ (Unit ⊕ Bool))
  | x1 => (if x1 < (p0.length : Int) then (ix p0 x1).bind fun x2 => (if p1 = x2 then some (.inr (.inr true)) else some (.inl (Dz (x1 + 1)))) else some (.inr (.inl ())))
noncomputable def B7 (p0 : List Int) (p1 : Int) : Option Bool := D6 (AM (BN p0 p1) 0) fun _ => some false
theorem GS (Y : Nat → Prop) (w0 : World) (v1 : Value) (p0 : List Int) (p1 : Int) (r : Bool) (H : B7 p0 p1 = some r) (h_v1 : Sl w0 (NX []) (Rp.int .i64) v1 p0) :
    Calls Try.prog 63 #[v1, .int .i64 p1] w0 fun e w' => e = .returned (.bool r) ∧ Below w0.heap.size w0 w' := by
 refine enter Try.func63 Aa Try.ntmps63 Aa fun a F => ?_
 have W := Stw.start Y w0
 unfold B7 at H
 refine Ai (Ac ?_)
 refine ls F W Aa (Ah F Aa).q fun a w F W => ?_
 refine Ad (Ab ?_)
 obtain ⟨o1, G1, K1, L1⟩ := H4 H
 refine AB (fun a w => some (Sum.inl ()) = some o1 ∧ Fr 17 [] [(4, .bool false)] a ∧ Stw ⟨Y, [], w0⟩ [] [] w) ?_ ?_
 ·
  have H := G1
  clear G1 K1
  refine Ai (Ac ?_)
  refine ls F W Aa (Ag F Aa).q fun a w F W => ?_
  refine ls F W Aa (A6 (r := (Rp.int .i64)) (l := p0) Fc Aa F Aa (Aj h_v1)).q fun a w F W => ?_
  refine ls F W Aa (Ag F Aa).q fun a w F W => ?_
  refine Ad (Ab (Au ?_))
  refine Bf H (fun s a w => Fr 17 [] [(1, .int .i64 p1), (4, .bool false), (7, v1), (8, .int .i64 (p0.length : Int)), (9, .int .i64 s)] a ∧ Stw ⟨Y, [], w0⟩ [] [] w) ⟨F.re ⟨rfl, Aa, Aa, Aa, Aa, trivial⟩, W⟩ fun s o a w H L2 hR => ?_
  obtain ⟨x1, rfl⟩ : ∃ x, x = s := ⟨s, rfl⟩
  obtain ⟨F, W⟩ := hR
  have F : Fr 17 [] [(1, .int .i64 p1), (4, .bool false), (7, v1), (8, .int .i64 (p0.length : Int)), (9, .int .i64 x1)] a := F
  have W : Stw ⟨Y, [], w0⟩ [] [] w := W
  rw [BN] at H
  refine Ai (Ac ?_)
  refine ls F W Aa (Bi F Aa Aa).q fun a w F W => ?_
  refine Ad (Ab (Ai ?_))
  refine Ax F Aa (fun hb => ?_) fun hb => ?_
  ·
   have H := AK (Bd hb) H
   rw [hb] at F
   clear hb
   refine Ap (Ab (Ai (Au (Ai (Ac ?_)))))
   obtain ⟨x2, h1, H⟩ := An H
   refine ls F W Aa (Az (r := (Rp.int .i64)) Hl F Aa Aa (Aj h_v1) h1).q fun a w F W => ?_
   refine ls F W Aa (Aq (y := Value.int .i64 x2) (j := 0) (i := x1) F Aa Aa (Aj h_v1) h1 Fl.int.to T3 Aa).q fun a w F W => ?_
   refine ls F W Aa (Ah F Aa).q fun a w F W => ?_
   refine Ad (Ab (Ai (Ac ?_)))
   iterate 2 refine ls F W Aa (Ag F Aa).q fun a w F W => ?_
   refine ls F W Aa (Bz F Aa Aa).q fun a w F W => ?_
   refine Ad (Ab ?_)
   refine Ax F Aa (fun hb => ?_) fun hb => ?_
   ·
    have H := AK (Bd hb) H
    rw [hb] at F
    clear hb
    refine Ai (Ac ?_)
    refine ls F W Aa (Ah F Aa).q fun a w F W => ?_
    refine Ad (Ab (AA (AH ?_)))
    iterate 2 refine AD ?_
    refine AH (AD ?_)
    have H := L2 _ H
    have H := L1 _ H
    have H := AN H
    subst H
    refine AW (.inl Aa) F W Aa (As F Aa) ?_
    exact ⟨rfl, W.done⟩
   have H := AL (Bc hb) H
   rw [hb] at F
   clear hb
   refine Ap (AF (Ab (Ac ?_)))
   refine ls F W Aa (BS F Aa Aa Aa).q fun a w F W => ?_
   refine ls F W Aa (Ag F Aa).q fun a w F W => ?_
   refine Ad (Ab ?_)
   exact ⟨_, H, F.re ⟨rfl, Aa, Aa, Aa, Aa, trivial⟩, W⟩
  have H := AL (Bc hb) H
  rw [hb] at F
  clear hb
  refine A8 ?_
  iterate 2 refine Bk ?_
  refine A9 (Ab ?_)
  have H := L2 _ H
  exact ⟨H, F.re ⟨rfl, trivial⟩, W⟩
 rintro a w ⟨hj, F, W⟩
 have H := K1 _ hj
 clear hj G1 K1 L1
 refine Ai (Ac ?_)
 refine ls F W Aa (Ah F Aa).q fun a w F W => ?_
 refine Ad (Ab (AA ?_))
 have H := AN H
 subst H
 refine AW (.inl Aa) F W Aa (As F Aa) ?_
 exact ⟨rfl, W.done⟩
theorem Se : Has Try.prog 63 := ⟨fun args w => Al Try.func63 rfl (by decide) args w⟩
noncomputable def Cn (p0 : Int × (List (Int × Int × Int × Int × Int × Int)) × (List (Int × Int))) (p1 : List (List Int)) (p3 : Int) : (Int × List Int) → Option ((Int × List Int) ⊕ ((List Int) ⊕ (List Int × Int)))
  | (x2, x3) => (ix p1 x2).bind fun x4 => (ix x4 p3).bind fun x5 => (Dk p0 x2 x5).bind fun x6 => (if x6 ≠ p3 then (D8 p0 p1 x2 p3).bind fun x7 => (if (!x7.2) = true then some (.inr (.inr (([] : List Int), 13))) else (B7 x3 x7.1).bind fun x8 => (if x8 = true then some (.inr (.inr (([] : List Int), 12))) else (FR x3 ([x7.1] : List Int)).bind fun x9 => some (.inl (x7.1, x9)))) else some (.inr (.inl x3)))
noncomputable def Ea (p0 : Int × (List (Int × Int × Int × Int × Int × Int)) × (List (Int × Int))) (p1 : List (List Int)) (p2 : Int) (p3 : Int) : Option (List Int × Int) := D6 (AM (Cn p0 p1 p3) (p2, ([p2] : List Int))) fun x1 => some (x1, 0)
theorem Kz (Y : Nat → Prop) (w0 : World) (v1 : Value) (v2 : Value) (v3 : Value) (p0 : Int × (List (Int × Int × Int × Int × Int × Int)) × (List (Int × Int))) (p1 : List (List Int)) (p2 : Int) (p3 : Int) (r : List Int × Int) (H : Ea p0 p1 p2 p3 = some r) (h_v1 : Sl w0 (NX []) C8 v1 p0.2.1) (h_v2 : Sl w0 (NX []) EL v2 p0.2.2) (h_v3 : Sl w0 (NX []) (Rp.slice (Rp.int .i64)) v3 p1) :
    Calls Try.prog 55 #[.agg #[.int .i64 p0.1, v1, v2], v3, .int .i64 p2, .int .i64 p3] w0 fun e w' => ∃ x : Value, e = .returned (.tuple #[x, .int .i64 r.2]) ∧ Stw ⟨Y, [], w0⟩ [] [row (x) 3 (Rp.int .i64) r.1] w' := by
 refine enter Try.func55 Aa Try.ntmps55 Aa fun a F => ?_
 have W := Stw.start Y w0
 obtain ⟨v4, h1, h_v3⟩ := h_v3.ex Ep
 unfold Ea at H
 refine Ai (Ac ?_)
 refine B9 (cs := [.int .i64 p0.1, v1, v2]) F W Aa Aa Aa fun b1 a w F W => ?_
 iterate 2 refine ls F W Aa (Ah F Aa).q fun a w F W => ?_
 refine Ad (Ab (Ai (Ac ?_)))
 refine ls F W Aa (Ag F Aa).q fun a w F W => ?_
 refine Da (z := Value.int .i64 0) (cs := [.int .i64 p2]) (Rp.int .i64) ([p2] : List Int) F W Aa Hl Z3 Aa Aa Aa Aa Aa Aa (Fl.int.repL _ _ ([p2] : List Int)) fun v5 a w F W => ?_
 refine ls F W Aa (Ah F Aa).q fun a w F W => ?_
 refine Ad (Ab ?_)
 obtain ⟨o1, G1, K1, L1⟩ := H4 H
 refine AB (fun a w => ∃ x1 : List Int, ∃ v6 : Value, some (Sum.inl x1) = some o1 ∧ Fr 46 [] [(8, .slice none 0 0), (9, .int .i64 0), (10, v6)] a ∧ Stw ⟨Y, [], w0⟩ [(b1, [.int .i64 p0.1, v1, v2])] [row v6 3 (Rp.int .i64) x1] w) ?_ ?_
 ·
  have H := G1
  clear G1 K1
  refine Au ?_
  refine Bf H (fun s a w => ∃ v7 : Value, Fr 46 [] [(1, v3), (2, .int .i64 s.1), (3, .int .i64 p3), (4, .pointer (some ⟨b1, 0, none⟩)), (8, .slice none 0 0), (9, .int .i64 0), (10, v7)] a ∧ Stw ⟨Y, [], w0⟩ [(b1, [.int .i64 p0.1, v1, v2])] [row v7 3 (Rp.int .i64) s.2] w) ⟨(v5), F.re ⟨rfl, Aa, Aa, Aa, Aa, Aa, Aa, trivial⟩, W⟩ fun s o a w H L2 hR => ?_
  obtain ⟨x2, x3⟩ := s
  obtain ⟨v7, F, W⟩ := hR
  have F : Fr 46 [] [(1, v3), (2, .int .i64 x2), (3, .int .i64 p3), (4, .pointer (some ⟨b1, 0, none⟩)), (8, .slice none 0 0), (9, .int .i64 0), (10, v7)] a := F
  have W : Stw ⟨Y, [], w0⟩ [(b1, [.int .i64 p0.1, v1, v2])] [row v7 3 (Rp.int .i64) x3] w := W
  rw [Cn] at H
  iterate 2 refine Ai ?_
  refine BE W MO (by kernel_rfl) ?_
  refine qs F Aa (Am (v := Value.agg #[.int .i64 p0.1, v1, v2]) 0 F Aa Aa HW Aa).q fun a F => ?_
  iterate 3 refine qs F Aa (Ag F Aa).q fun a F => ?_
  obtain ⟨x4, h2, H⟩ := An H
  obtain ⟨v8, h3, h4⟩ := Cx h1 h2
  have h5 : Fi v8 = [(v8.1)] := congrArg (fun q : List Int => ([(v8.1)] : List Value)) h4
  refine qs F Aa (Az (r := (Rp.vsl (Rp.int .i64))) MT F Aa Aa (Aj h_v3) h3).q fun a F => ?_
  refine qs F Aa (Aq (y := (v8.1)) (j := 0) (i := x2) (enc := Fi) F Aa Aa (Aj h_v3) h3 IA E1 (by rw [h5]; rfl)).q fun a F => ?_
  refine qs F Aa (Ag F Aa).q fun a F => ?_
  obtain ⟨x5, h6, H⟩ := An H
  refine qs F Aa (Az (r := (Rp.int .i64)) Hl F Aa Aa (CS (Aj h_v3) h3 CR.here (congrArg (fun q : List Int => q) h4)) h6).q fun a F => ?_
  refine qs F Aa (Aq (y := Value.int .i64 x5) (j := 0) (i := p3) F Aa Aa (CS (Aj h_v3) h3 CR.here (congrArg (fun q : List Int => q) h4)) h6 Fl.int.to T3 Aa).q fun a F => ?_
  obtain ⟨x6, h7, H⟩ := An H
  refine qs F Aa (Bl (v := Value.int .i64 x6) F Sr Aa (fun w W => JU any w (v1) (v2) p0 x2 x5 _ h7 (((Aj h_v1) : CH _ _ _ _ _ _) w W).nx (((Aj h_v2) : CH _ _ _ _ _ _) w W).nx)) fun a F => ?_
  refine qs F Aa (Ag F Aa).q fun a F => ?_
  refine qs F Aa (Dx F Aa Aa).q fun a F => ?_
  refine AX fun w W => ?_
  refine Ab ?_
  refine Ax F Aa (fun hb => ?_) fun hb => ?_
  ·
   have H := AK (Bd hb) H
   rw [hb] at F
   clear hb
   refine Ap (Ab (Au (Ai (Ac ?_))))
   refine ls F W Aa (Am (v := Value.agg #[.int .i64 p0.1, v1, v2]) 0 F Aa Aa HW Aa).q fun a w F W => ?_
   iterate 3 refine ls F W Aa (Ag F Aa).q fun a w F W => ?_
   obtain ⟨x7, h8, H⟩ := An H
   refine ls F W Aa (Bl (v := Value.tuple #[.int .i64 x7.1, .bool x7.2]) F RJ Aa (fun w W => KQ any w (v1) (v2) (v3) p0 p1 x2 p3 _ h8 (((Aj h_v1) : CH _ _ _ _ _ _) w W).nx (((Aj h_v2) : CH _ _ _ _ _ _) w W).nx (((BA Ep h1 (Aj h_v3)) : CH _ _ _ _ _ _) w W).nx)) fun a w F W => ?_
   refine ls F W Aa (Ag F Aa).q fun a w F W => ?_
   refine ls F W Aa (Bj (v := Value.int .i64 x7.1) F Aa Aa).q fun a w F W => ?_
   refine ls F W Aa (Bj (v := Value.bool x7.2) F Aa Aa).q fun a w F W => ?_
   iterate 2 refine ls F W Aa (Ah F Aa).q fun a w F W => ?_
   refine Ad (Ab (Ai (Ai (Ac ?_))))
   refine ls F W Aa (Ag F Aa).q fun a w F W => ?_
   refine ls F W Aa (E5 F Aa).q fun a w F W => ?_
   refine Ad (Ab ?_)
   refine Ax F Aa (fun hb => ?_) fun hb => ?_
   ·
    have H := AK hb H
    rw [hb] at F
    clear hb
    refine Ai (Ac ?_)
    iterate 2 refine ls F W Aa (Ah F Aa).q fun a w F W => ?_
    refine Ad (Ab (AA (AD (AH (AD (AH (AD ?_)))))))
    have H := L2 _ H
    have H := L1 _ H
    have H := AN H
    subst H
    refine EJ (.inl Aa) F W Aa (As F Aa) (As F Aa) ?_
    have W := W.nilRow 3 (Rp.int .i64)
    have W := W.sub (M' := []) (Z' := [row (Value.slice none 0 0) 3 (Rp.int .i64) ([])]) (List.nil_sublist _) (List.Sublist.cons_cons _ (List.nil_sublist _))
    exact ⟨(Value.slice none 0 0), Aa, W⟩
   have H := AL (by rw [hb]; decide) H
   rw [hb] at F
   clear hb
   refine Ap (Ab (Ai (Ai (Ac ?_))))
   iterate 2 refine ls F W Aa (Ag F Aa).q fun a w F W => ?_
   obtain ⟨x8, h9, H⟩ := An H
   refine ls F W Aa (Bl (v := Value.bool x8) F Se Aa (fun w W => GS any w (v7) x3 x7.1 _ h9 (((AE 0 Aa) : CH _ _ _ _ _ _) w W).nx)) fun a w F W => ?_
   refine Ad (Ab ?_)
   refine Ax F Aa (fun hb => ?_) fun hb => ?_
   ·
    have H := AK hb H
    rw [hb] at F
    clear hb
    refine Ai (Ac ?_)
    iterate 2 refine ls F W Aa (Ah F Aa).q fun a w F W => ?_
    refine Ad (Ab (AA (AD (AH (AD (AH (AD ?_)))))))
    have H := L2 _ H
    have H := L1 _ H
    have H := AN H
    subst H
    refine EJ (.inl Aa) F W Aa (As F Aa) (As F Aa) ?_
    have W := W.nilRow 3 (Rp.int .i64)
    have W := W.sub (M' := []) (Z' := [row (Value.slice none 0 0) 3 (Rp.int .i64) ([])]) (List.nil_sublist _) (List.Sublist.cons_cons _ (List.nil_sublist _))
    exact ⟨(Value.slice none 0 0), Aa, W⟩
   have H := AL (by rw [hb]; decide) H
   rw [hb] at F
   clear hb
   refine Ap (Ab (Ai (Ac ?_)))
   iterate 2 refine ls F W Aa (Ag F Aa).q fun a w F W => ?_
   refine Da (z := Value.int .i64 0) (cs := [.int .i64 x7.1]) (Rp.int .i64) ([x7.1] : List Int) F W Aa Hl Z3 Aa Aa Aa Aa Aa Aa (Fl.int.repL _ _ ([x7.1] : List Int)) fun v9 a w F W => ?_
   obtain ⟨x9, h10, H⟩ := An H
   refine Cg (r := (Rp.int .i64)) (i := 1) F W Aa Hl Aa Aa Aa Aa (CE W 0 Aa) h10 Aa fun v10 a w F W => ?_
   have W : Stw ⟨Y, [], w0⟩ [(b1, [.int .i64 p0.1, v1, v2])] [row v10 3 (Rp.int .i64) x9, row v9 3 (Rp.int .i64) ([x7.1] : List Int)] w := W
   refine ls F W Aa (Ah F Aa).q fun a w F W => ?_
   refine Ad (Ab (Ac ?_))
   refine ls F W Aa (Ag F Aa).q fun a w F W => ?_
   refine ls F W Aa (Ah F Aa).q fun a w F W => ?_
   refine Ad (AF (Ab ?_))
   have W := W.sub (M' := [(b1, [.int .i64 p0.1, v1, v2])]) (Z' := [row v10 3 (Rp.int .i64) x9]) (List.Sublist.refl _) (List.Sublist.cons_cons _ (List.nil_sublist _))
   exact ⟨_, H, (v10), F.re ⟨rfl, Aa, Aa, Aa, Aa, Aa, Aa, trivial⟩, W⟩
  have H := AL (Bc hb) H
  rw [hb] at F
  clear hb
  refine A8 ?_
  iterate 2 refine Bk ?_
  refine A9 (Ab ?_)
  have H := L2 _ H
  exact ⟨_, (v7), H, F.re ⟨rfl, Aa, Aa, trivial⟩, W⟩
 rintro a w ⟨x1, v6, hj, F, W⟩
 have H := K1 _ hj
 clear hj G1 K1 L1
 refine Ai (Ac ?_)
 refine ls F W Aa (Ag F Aa).q fun a w F W => ?_
 iterate 2 refine ls F W Aa (Ah F Aa).q fun a w F W => ?_
 refine Ad (Ab (AA ?_))
 have H := AN H
 subst H
 refine EJ (.inl Aa) F W Aa (As F Aa) (As F Aa) ?_
 have W := W.sub (M' := []) (Z' := [row v6 3 (Rp.int .i64) x1]) (List.nil_sublist _) (List.Sublist.refl _)
 exact ⟨(v6), Aa, W⟩
theorem Ra : Has Try.prog 55 := ⟨fun args w => Al Try.func55 rfl (by decide) args w⟩
noncomputable def C4 (p0 : Int × (List (Int × Int × Int × Int × Int × Int)) × (List (Int × Int))) (p1 : List (List Int)) (p2 : Int) (p3 : Int) : Option (List Int × Int) := ((DM p0 p1).bind fun x2 => (if (!x2) = true then some true else (if p2 < 0 then some true else (if p0.1 ≤ p2 then some true else (if p3 < 0 then some true else some (decide ((p0.2.2.length : Int) ≤ p3))))))).bind fun x1 => (if x1 = true then some (([] : List Int), 2) else (Ea p0 p1 p2 p3).bind fun x3 => some (x3.1, x3.2))
theorem KM (Y : Nat → Prop) (w0 : World) (v1 : Value) (v2 : Value) (v3 : Value) (p0 : Int × (List (Int × Int × Int × Int × Int × Int)) × (List (Int × Int))) (p1 : List (List Int)) (p2 : Int) (p3 : Int) (r : List Int × Int) (H : C4 p0 p1 p2 p3 = some r) (h_v1 : Sl w0 (NX []) C8 v1 p0.2.1) (h_v2 : Sl w0 (NX []) EL v2 p0.2.2) (h_v3 : Sl w0 (NX []) (Rp.slice (Rp.int .i64)) v3 p1) :
    Calls Try.prog 44 #[.agg #[.int .i64 p0.1, v1, v2], v3, .int .i64 p2, .int .i64 p3] w0 fun e w' => ∃ x : Value, e = .returned (.tuple #[x, .int .i64 r.2]) ∧ Stw ⟨Y, [], w0⟩ [] [row (x) 3 (Rp.int .i64) r.1] w' := by
 refine enter Try.func44 Aa Try.ntmps44 Aa fun a F => ?_
 have W := Stw.start Y w0
 obtain ⟨v4, h1, h_v3⟩ := h_v3.ex Ep
 unfold C4 at H
 refine Ai (Ac ?_)
 refine B9 (cs := [.int .i64 p0.1, v1, v2]) F W Aa Aa Aa fun b1 a w F W => ?_
 iterate 2 refine ls F W Aa (Ah F Aa).q fun a w F W => ?_
 refine Ad (Ab (Ai ?_))
 obtain ⟨o1, G1, K1⟩ := An H
 refine AB (fun a w => ∃ x1 : Bool, some (x1) = some o1 ∧ Fr 42 [] [(1, v3), (2, .int .i64 p2), (3, .int .i64 p3), (4, .pointer (some ⟨b1, 0, none⟩)), (8, .slice none 0 0), (9, .int .i64 0), (34, .bool x1)] a ∧ Stw ⟨Y, [], w0⟩ [(b1, [.int .i64 p0.1, v1, v2])] [] w) ?_ ?_
 ·
  have H := G1
  clear G1 K1
  refine Ac ?_
  refine ls F W Aa (Am (v := Value.agg #[.int .i64 p0.1, v1, v2]) 0 F Aa Aa HW Aa).q fun a w F W => ?_
  refine ls F W Aa (Ag F Aa).q fun a w F W => ?_
  obtain ⟨x2, h2, H⟩ := An H
  refine ls F W Aa (Bl (v := Value.bool x2) F Ru Aa (fun w W => J0 any w (v1) (v2) (v3) p0 p1 _ h2 (((Aj h_v1) : CH _ _ _ _ _ _) w W).nx (((Aj h_v2) : CH _ _ _ _ _ _) w W).nx (((BA Ep h1 (Aj h_v3)) : CH _ _ _ _ _ _) w W).nx)) fun a w F W => ?_
  refine ls F W Aa (E5 F Aa).q fun a w F W => ?_
  refine ls F W Aa (Ag F Aa).q fun a w F W => ?_
  rcases Bool.eq_false_or_eq_true (!x2) with hb | hb
  ·
   have H := AK hb H
   rw [hb] at F
   clear hb
   iterate 2 refine B4 F Aa Aa Aa Aa Aa Aa Aa fun a F => ?_
   refine ls F W Aa (Ao F Aa Aa Aa).q fun a w F W => ?_
   refine ls F W Aa (Ag F Aa).q fun a w F W => ?_
   iterate 4 refine B4 F Aa Aa Aa Aa Aa Aa Aa fun a F => ?_
   refine ls F W Aa (Ao F Aa Aa Aa).q fun a w F W => ?_
   refine ls F W Aa (Ag F Aa).q fun a w F W => ?_
   iterate 2 refine B4 F Aa Aa Aa Aa Aa Aa Aa fun a F => ?_
   refine ls F W Aa (Ao F Aa Aa Aa).q fun a w F W => ?_
   refine ls F W Aa (Ag F Aa).q fun a w F W => ?_
   iterate 5 refine B4 F Aa Aa Aa Aa Aa Aa Aa fun a F => ?_
   refine ls F W Aa (Ao F Aa Aa Aa).q fun a w F W => ?_
   refine Ad (Ab ?_)
   exact ⟨_, H, F.re ⟨rfl, Aa, Aa, Aa, Aa, Aa, Aa, trivial⟩, W⟩
  have H := AL (by rw [hb]; decide) H
  rw [hb] at F
  clear hb
  refine Ay F W (Ae F Aa Aa Aa Aa) Aa (Ak Aa) (Ag F Aa).q fun a w F W => ?_
  refine Ay F W (Ae F Aa Aa Aa Aa) Aa (Ak Aa) (Bi F Aa Aa).q fun a w F W => ?_
  refine ls F W Aa (Av F Aa Aa Aa).q fun a w F W => ?_
  refine ls F W Aa (Ag F Aa).q fun a w F W => ?_
  rcases Bool.eq_false_or_eq_true (decide (p2 < 0)) with hb | hb
  ·
   have H := AK (Bd hb) H
   rw [hb] at F
   clear hb
   iterate 4 refine B4 F Aa Aa Aa Aa Aa Aa Aa fun a F => ?_
   refine ls F W Aa (Ao F Aa Aa Aa).q fun a w F W => ?_
   refine ls F W Aa (Ag F Aa).q fun a w F W => ?_
   iterate 2 refine B4 F Aa Aa Aa Aa Aa Aa Aa fun a F => ?_
   refine ls F W Aa (Ao F Aa Aa Aa).q fun a w F W => ?_
   refine ls F W Aa (Ag F Aa).q fun a w F W => ?_
   iterate 5 refine B4 F Aa Aa Aa Aa Aa Aa Aa fun a F => ?_
   refine ls F W Aa (Ao F Aa Aa Aa).q fun a w F W => ?_
   refine Ad (Ab ?_)
   exact ⟨_, H, F.re ⟨rfl, Aa, Aa, Aa, Aa, Aa, Aa, trivial⟩, W⟩
  have H := AL (Bc hb) H
  rw [hb] at F
  clear hb
  refine Ay F W (Ae F Aa Aa Aa Aa) Aa (Ak Aa) (Ag F Aa).q fun a w F W => ?_
  refine Ay F W (Ae F Aa Aa Aa Aa) Aa (Ak Aa) (Af Dg Aa Aa Aa T3 F Aa 0 Aa).q fun a w F W => ?_
  refine Ay F W (Ae F Aa Aa Aa Aa) Aa (Ak Aa) (Am (v := Value.int .i64 p0.1) 0 F Aa Aa T3 Aa).q fun a w F W => ?_
  refine Ay F W (Ae F Aa Aa Aa Aa) Aa (Ak Aa) (DH F Aa Aa).q fun a w F W => ?_
  refine ls F W Aa (Av F Aa Aa Aa).q fun a w F W => ?_
  refine ls F W Aa (Ag F Aa).q fun a w F W => ?_
  rcases Bool.eq_false_or_eq_true (decide (p0.1 ≤ p2)) with hb | hb
  ·
   have H := AK (Bd hb) H
   rw [hb] at F
   clear hb
   iterate 2 refine B4 F Aa Aa Aa Aa Aa Aa Aa fun a F => ?_
   refine ls F W Aa (Ao F Aa Aa Aa).q fun a w F W => ?_
   refine ls F W Aa (Ag F Aa).q fun a w F W => ?_
   iterate 5 refine B4 F Aa Aa Aa Aa Aa Aa Aa fun a F => ?_
   refine ls F W Aa (Ao F Aa Aa Aa).q fun a w F W => ?_
   refine Ad (Ab ?_)
   exact ⟨_, H, F.re ⟨rfl, Aa, Aa, Aa, Aa, Aa, Aa, trivial⟩, W⟩
  have H := AL (Bc hb) H
  rw [hb] at F
  clear hb
  refine Ay F W (Ae F Aa Aa Aa Aa) Aa (Ak Aa) (Ag F Aa).q fun a w F W => ?_
  refine Ay F W (Ae F Aa Aa Aa Aa) Aa (Ak Aa) (Bi F Aa Aa).q fun a w F W => ?_
  refine ls F W Aa (Av F Aa Aa Aa).q fun a w F W => ?_
  refine ls F W Aa (Ag F Aa).q fun a w F W => ?_
  rcases Bool.eq_false_or_eq_true (decide (p3 < 0)) with hb | hb
  ·
   have H := AK (Bd hb) H
   rw [hb] at F
   clear hb
   iterate 5 refine B4 F Aa Aa Aa Aa Aa Aa Aa fun a F => ?_
   refine ls F W Aa (Ao F Aa Aa Aa).q fun a w F W => ?_
   refine Ad (Ab ?_)
   exact ⟨_, H, F.re ⟨rfl, Aa, Aa, Aa, Aa, Aa, Aa, trivial⟩, W⟩
  have H := AL (Bc hb) H
  rw [hb] at F
  clear hb
  refine Ay F W (Ae F Aa Aa Aa Aa) Aa (Ak Aa) (Ag F Aa).q fun a w F W => ?_
  refine Ay F W (Ae F Aa Aa Aa Aa) Aa (Ak Aa) (Af Dg Aa Aa Aa GW F Aa 2 Aa).q fun a w F W => ?_
  refine Ay F W (Ae F Aa Aa Aa Aa) Aa (Ak Aa) (Am (v := v2) 0 F Aa Aa GW Aa).q fun a w F W => ?_
  refine Ay F W (Ae F Aa Aa Aa Aa) Aa (Ak Aa) (A6 (r := EL) (l := p0.2.2) IK Aa F Aa (Aj h_v2)).q fun a w F W => ?_
  refine Ay F W (Ae F Aa Aa Aa Aa) Aa (Ak Aa) (DH F Aa Aa).q fun a w F W => ?_
  refine ls F W Aa (Av F Aa Aa Aa).q fun a w F W => ?_
  refine Ad (Ab ?_)
  exact ⟨_, H, F.re ⟨rfl, Aa, Aa, Aa, Aa, Aa, Aa, trivial⟩, W⟩
 rintro a w ⟨x1, hj, F, W⟩
 have hj := AN hj
 subst hj
 have H := K1
 clear G1 K1
 refine Ax F Aa (fun hb => ?_) fun hb => ?_
 ·
  have H := AK hb H
  rw [hb] at F
  clear hb
  refine Ai (Ac ?_)
  iterate 2 refine ls F W Aa (Ah F Aa).q fun a w F W => ?_
  refine Ad (Ab (AA (AD ?_)))
  have H := AN H
  subst H
  refine EJ (.inl Aa) F W Aa (As F Aa) (As F Aa) ?_
  have W := W.nilRow 3 (Rp.int .i64)
  have W := W.sub (M' := []) (Z' := [row (Value.slice none 0 0) 3 (Rp.int .i64) ([])]) (List.nil_sublist _) (List.Sublist.refl _)
  exact ⟨(Value.slice none 0 0), Aa, W⟩
 have H := AL (by rw [hb]; decide) H
 rw [hb] at F
 clear hb
 refine Ap (Ab (Ai (Ac ?_)))
 refine ls F W Aa (Am (v := Value.agg #[.int .i64 p0.1, v1, v2]) 0 F Aa Aa HW Aa).q fun a w F W => ?_
 iterate 3 refine ls F W Aa (Ag F Aa).q fun a w F W => ?_
 obtain ⟨x3, h3, H⟩ := An H
 refine BW (Ml := []) (Zl := []) (M := [(b1, [.int .i64 p0.1, v1, v2])]) (Z := []) (β := Value) (rv := fun x => .tuple #[x, .int .i64 x3.2]) (MM := fun x => []) (ZZ := fun x => [row x 3 (Rp.int .i64) x3.1]) F W Ra Aa Aa (fun hL => Kz _ w (v1) (v2) (v3) p0 p1 p2 p3 _ h3 ((Aj h_v1) w W).nx ((Aj h_v2) w W).nx ((BA Ep h1 (Aj h_v3)) w W).nx) fun x a w F W => ?_
 obtain ⟨v5, rfl⟩ : ∃ y, y = x := ⟨x, rfl⟩
 have W : Stw ⟨Y, [], w0⟩ [(b1, [.int .i64 p0.1, v1, v2])] [row v5 3 (Rp.int .i64) x3.1] w := W
 refine ls F W Aa (Bj (v := v5) F Aa Aa).q fun a w F W => ?_
 refine ls F W Aa (Bj (v := Value.int .i64 x3.2) F Aa Aa).q fun a w F W => ?_
 iterate 2 refine ls F W Aa (Ah F Aa).q fun a w F W => ?_
 refine Ad (Ab (AA ?_))
 have H := AN H
 subst H
 refine EJ (.inl Aa) F W Aa (As F Aa) (As F Aa) ?_
 have W := W.sub (M' := []) (Z' := [row v5 3 (Rp.int .i64) x3.1]) (List.nil_sublist _) (List.Sublist.refl _)
 exact ⟨(v5), Aa, W⟩
theorem RC : Has Try.prog 44 := ⟨fun args w => Al Try.func44 rfl (by decide) args w⟩
noncomputable def Br (p0 : List Int) (p1 : List Int) : Int → Option (Int ⊕ (Unit ⊕ Bool))
  | x1 => (if x1 < (p0.length : Int) then (ix p0 x1).bind fun x2 => (ix p1 x1).bind fun x3 => (if x2 ≠ x3 then some (.inr (.inr false)) else some (.inl (Dz (x1 + 1)))) else some (.inr (.inl ())))
noncomputable def BT (p0 : List Int) (p1 : List Int) : Option Bool := (if (p0.length : Int) ≠ (p1.length : Int) then some false else D6 (AM (Br p0 p1) 0) fun _ => some true)
theorem Gr (Y : Nat → Prop) (w0 : World) (v1 : Value) (v2 : Value) (p0 : List Int) (p1 : List Int) (r : Bool) (H : BT p0 p1 = some r) (h_v1 : Sl w0 (NX []) (Rp.int .i64) v1 p0) (h_v2 : Sl w0 (NX []) (Rp.int .i64) v2 p1) :
    Calls Try.prog 45 #[v1, v2] w0 fun e w' => e = .returned (.bool r) ∧ Below w0.heap.size w0 w' := by
 refine enter Try.func45 Aa Try.ntmps45 Aa fun a F => ?_
 have W := Stw.start Y w0
 unfold BT at H
 refine Ai (Ac ?_)
 refine ls F W Aa (Ah F Aa).q fun a w F W => ?_
 refine Ad (Ab (Ai (Ai (Ac ?_))))
 refine ls F W Aa (Ag F Aa).q fun a w F W => ?_
 refine ls F W Aa (A6 (r := (Rp.int .i64)) (l := p0) Fc Aa F Aa (Aj h_v1)).q fun a w F W => ?_
 refine ls F W Aa (Ag F Aa).q fun a w F W => ?_
 refine ls F W Aa (A6 (r := (Rp.int .i64)) (l := p1) Fc Aa F Aa (Aj h_v2)).q fun a w F W => ?_
 refine ls F W Aa (Dx F Aa Aa).q fun a w F W => ?_
 refine Ad (Ab ?_)
 refine Ax F Aa (fun hb => ?_) fun hb => ?_
 ·
  have H := AK (Bd hb) H
  rw [hb] at F
  clear hb
  refine Ai (Ac ?_)
  refine ls F W Aa (Ah F Aa).q fun a w F W => ?_
  refine Ad (Ab (AA (AD ?_)))
  have H := AN H
  subst H
  refine AW (.inl Aa) F W Aa (As F Aa) ?_
  exact ⟨rfl, W.done⟩
 have H := AL (Bc hb) H
 rw [hb] at F
 clear hb
 refine Ap (Ab ?_)
 obtain ⟨o1, G1, K1, L1⟩ := H4 H
 refine AB (fun a w => some (Sum.inl ()) = some o1 ∧ Fr 26 [] [(4, .bool false)] a ∧ Stw ⟨Y, [], w0⟩ [] [] w) ?_ ?_
 ·
  have H := G1
  clear G1 K1
  refine Ai (Ac ?_)
  refine ls F W Aa (Ag F Aa).q fun a w F W => ?_
  refine ls F W Aa (A6 (r := (Rp.int .i64)) (l := p0) Fc Aa F Aa (Aj h_v1)).q fun a w F W => ?_
  refine ls F W Aa (Ag F Aa).q fun a w F W => ?_
  refine Ad (Ab (Au ?_))
  refine Bf H (fun s a w => Fr 26 [] [(0, v1), (1, v2), (4, .bool false), (12, .int .i64 (p0.length : Int)), (13, .int .i64 s)] a ∧ Stw ⟨Y, [], w0⟩ [] [] w) ⟨F.re ⟨rfl, Aa, Aa, Aa, Aa, trivial⟩, W⟩ fun s o a w H L2 hR => ?_
  obtain ⟨x1, rfl⟩ : ∃ x, x = s := ⟨s, rfl⟩
  obtain ⟨F, W⟩ := hR
  have F : Fr 26 [] [(0, v1), (1, v2), (4, .bool false), (12, .int .i64 (p0.length : Int)), (13, .int .i64 x1)] a := F
  have W : Stw ⟨Y, [], w0⟩ [] [] w := W
  rw [Br] at H
  refine Ai (Ac ?_)
  refine ls F W Aa (Bi F Aa Aa).q fun a w F W => ?_
  refine Ad (Ab (Ai ?_))
  refine Ax F Aa (fun hb => ?_) fun hb => ?_
  ·
   have H := AK (Bd hb) H
   rw [hb] at F
   clear hb
   refine Ap (Ab (Ai (Au (Ai (Ac ?_)))))
   refine ls F W Aa (Ag F Aa).q fun a w F W => ?_
   refine ls F W Aa (Ah F Aa).q fun a w F W => ?_
   refine Ad (Ab (Ai ?_))
   refine BE W MO (by kernel_rfl) ?_
   iterate 2 refine qs F Aa (Ag F Aa).q fun a F => ?_
   obtain ⟨x2, h1, H⟩ := An H
   refine qs F Aa (Az (r := (Rp.int .i64)) Hl F Aa Aa (Aj h_v1) h1).q fun a F => ?_
   refine qs F Aa (Aq (y := Value.int .i64 x2) (j := 0) (i := x1) F Aa Aa (Aj h_v1) h1 Fl.int.to T3 Aa).q fun a F => ?_
   iterate 2 refine qs F Aa (Ag F Aa).q fun a F => ?_
   obtain ⟨x3, h2, H⟩ := An H
   refine qs F Aa (Az (r := (Rp.int .i64)) Hl F Aa Aa (Aj h_v2) h2).q fun a F => ?_
   refine qs F Aa (Aq (y := Value.int .i64 x3) (j := 0) (i := x1) F Aa Aa (Aj h_v2) h2 Fl.int.to T3 Aa).q fun a F => ?_
   refine qs F Aa (Dx F Aa Aa).q fun a F => ?_
   refine AX fun w W => ?_
   refine Ab ?_
   refine Ax F Aa (fun hb => ?_) fun hb => ?_
   ·
    have H := AK (Bd hb) H
    rw [hb] at F
    clear hb
    refine Ai (Ac ?_)
    refine ls F W Aa (Ah F Aa).q fun a w F W => ?_
    refine Ad (Ab (AA (AH ?_)))
    iterate 2 refine AD ?_
    refine AH (AD ?_)
    have H := L2 _ H
    have H := L1 _ H
    have H := AN H
    subst H
    refine AW (.inl Aa) F W Aa (As F Aa) ?_
    exact ⟨rfl, W.done⟩
   have H := AL (Bc hb) H
   rw [hb] at F
   clear hb
   refine Ap (AF (Ab (Ac ?_)))
   refine ls F W Aa (BS F Aa Aa Aa).q fun a w F W => ?_
   refine ls F W Aa (Ag F Aa).q fun a w F W => ?_
   refine Ad (Ab ?_)
   exact ⟨_, H, F.re ⟨rfl, Aa, Aa, Aa, Aa, trivial⟩, W⟩
  have H := AL (Bc hb) H
  rw [hb] at F
  clear hb
  refine A8 ?_
  iterate 2 refine Bk ?_
  refine A9 (Ab ?_)
  have H := L2 _ H
  exact ⟨H, F.re ⟨rfl, trivial⟩, W⟩
 rintro a w ⟨hj, F, W⟩
 have H := K1 _ hj
 clear hj G1 K1 L1
 refine Ai (Ac ?_)
 refine ls F W Aa (Ah F Aa).q fun a w F W => ?_
 refine Ad (Ab (AA ?_))
 have H := AN H
 subst H
 refine AW (.inl Aa) F W Aa (As F Aa) ?_
 exact ⟨rfl, W.done⟩
theorem RN : Has Try.prog 45 := ⟨fun args w => Al Try.func45 rfl (by decide) args w⟩
noncomputable def Co (p0 : Int × (List (Int × Int × Int × Int × Int × Int)) × (List (Int × Int))) (p1 : List (List (List Int))) (p2 : Int) (p3 : Int × Int × Int × Int × List Int × Int × Int × Int) : Option Bool := (if (decide (p2 < 0) || decide ((p1.length : Int) ≤ p2)) = true then some false else (ix p1 p2).bind fun x1 => (ix p3.2.2.2.2.1 0).bind fun x2 => (C4 p0 x1 x2 p3.2.2.1).bind fun x3 => (if x3.2 ≠ 0 then some false else (if (decide (p3.2.2.2.2.2.1 = 0) && decide ((p3.2.2.2.2.1.length : Int) < (x3.1.length : Int))) = true then (Jc x3.1 0 (p3.2.2.2.2.1.length : Int)).bind fun x5 => some x5 else some x3.1).bind fun x4 => (BT p3.2.2.2.2.1 x4).bind fun x6 => some x6))
theorem IP (Y : Nat → Prop) (w0 : World) (v1 : Value) (v2 : Value) (v3 : Value) (v4 : Value) (p0 : Int × (List (Int × Int × Int × Int × Int × Int)) × (List (Int × Int))) (p1 : List (List (List Int))) (p2 : Int) (p3 : Int × Int × Int × Int × List Int × Int × Int × Int) (r : Bool) (H : Co p0 p1 p2 p3 = some r) (h_v1 : Sl w0 (NX []) C8 v1 p0.2.1) (h_v2 : Sl w0 (NX []) EL v2 p0.2.2) (h_v3 : Sl w0 (NX []) (Rp.slice (Rp.slice (Rp.int .i64))) v3 p1) (h_v4 : Sl w0 (NX []) (Rp.int .i64) v4 p3.2.2.2.2.1) :
    Calls Try.prog 31 #[.agg #[.int .i64 p0.1, v1, v2], v3, .int .i64 p2, .agg #[.int .i64 p3.1, .int .i64 p3.2.1, .int .i64 p3.2.2.1, .int .i64 p3.2.2.2.1, v4, .int .i64 p3.2.2.2.2.2.1, .int .i64 p3.2.2.2.2.2.2.1, .int .i64 p3.2.2.2.2.2.2.2]] w0 fun e w' => e = .returned (.bool r) ∧ Below w0.heap.size w0 w' := by
 refine enter Try.func31 Aa Try.ntmps31 Aa fun a F => ?_
 have W := Stw.start Y w0
 obtain ⟨v5, h1, h_v3⟩ := h_v3.ex Hw
 unfold Co at H
 refine Ai (Ac ?_)
 refine B9 (cs := [.int .i64 p0.1, v1, v2]) F W Aa Aa Aa fun b1 a w F W => ?_
 refine B9 (cs := [.int .i64 p3.1, .int .i64 p3.2.1, .int .i64 p3.2.2.1, .int .i64 p3.2.2.2.1, v4, .int .i64 p3.2.2.2.2.2.1, .int .i64 p3.2.2.2.2.2.2.1, .int .i64 p3.2.2.2.2.2.2.2]) F W Aa Aa Aa fun b2 a w F W => ?_
 refine ls F W Aa (Ah F Aa).q fun a w F W => ?_
 refine Ad (Ab (Ai ?_))
 refine AB (fun a w => Fr 56 [] [(1, v3), (2, .int .i64 p2), (4, .pointer (some ⟨b1, 0, none⟩)), (7, .pointer (some ⟨b2, 0, none⟩)), (8, .bool false), (18, .bool (decide (p2 < 0) || decide ((p1.length : Int) ≤ p2)))] a ∧ Stw ⟨Y, [], w0⟩ [(b2, [.int .i64 p3.1, .int .i64 p3.2.1, .int .i64 p3.2.2.1, .int .i64 p3.2.2.2.1, v4, .int .i64 p3.2.2.2.2.2.1, .int .i64 p3.2.2.2.2.2.2.1, .int .i64 p3.2.2.2.2.2.2.2]), (b1, [.int .i64 p0.1, v1, v2])] [] w) ?_ ?_
 ·
  refine Ac ?_
  refine ls F W Aa (Ag F Aa).q fun a w F W => ?_
  refine ls F W Aa (Bi F Aa Aa).q fun a w F W => ?_
  refine ls F W Aa (Ag F Aa).q fun a w F W => ?_
  rcases Bool.eq_false_or_eq_true (decide (p2 < 0)) with hb0 | hb0
  ·
   rw [hb0] at F
   iterate 4 refine B4 F Aa Aa Aa Aa Aa Aa Aa fun a F => ?_
   refine ls F W Aa (Ao F Aa Aa Aa).q fun a w F W => ?_
   refine Ad (Ab ?_)
   exact ⟨F.re ⟨rfl, Aa, Aa, Aa, Aa, (by show some (Value.bool true) = some (Value.bool (decide (p2 < 0) || decide ((p1.length : Int) ≤ p2))); try rw [hb0]; all_goals simp only [Bool.not_true, Bool.not_false, Bool.true_and, Bool.false_and, Bool.true_or, Bool.false_or, Bool.and_true, Bool.or_false, cond_true, cond_false]), trivial⟩, W⟩
  rw [hb0] at F
  iterate 2 refine Ay F W (Ae F Aa Aa Aa Aa) Aa (Ak Aa) (Ag F Aa).q fun a w F W => ?_
  refine Ay F W (Ae F Aa Aa Aa Aa) Aa (Ak Aa) (A6 (r := (Rp.slice (Rp.slice (Rp.int .i64)))) (l := p1) Nk Aa F Aa (BA Hw h1 (Aj h_v3))).q fun a w F W => ?_
  refine Ay F W (Ae F Aa Aa Aa Aa) Aa (Ak Aa) (DH F Aa Aa).q fun a w F W => ?_
  refine ls F W Aa (Av F Aa Aa Aa).q fun a w F W => ?_
  refine Ad (Ab ?_)
  exact ⟨F.re ⟨rfl, Aa, Aa, Aa, Aa, (by show some (Value.bool (decide ((p1.length : Int) ≤ p2))) = some (Value.bool (decide (p2 < 0) || decide ((p1.length : Int) ≤ p2))); try rw [hb0]; all_goals simp only [Bool.not_true, Bool.not_false, Bool.true_and, Bool.false_and, Bool.true_or, Bool.false_or, Bool.and_true, Bool.or_false, cond_true, cond_false]), trivial⟩, W⟩
 rintro a w ⟨F, W⟩
 refine Ax F Aa (fun hb => ?_) fun hb => ?_
 ·
  have H := AK hb H
  rw [hb] at F
  clear hb
  refine Ai (Ac ?_)
  refine ls F W Aa (Ah F Aa).q fun a w F W => ?_
  refine Ad (Ab (AA (AD ?_)))
  have H := AN H
  subst H
  refine AW (.inl Aa) F W Aa (As F Aa) ?_
  exact ⟨rfl, W.done⟩
 have H := AL (by rw [hb]; decide) H
 rw [hb] at F
 clear hb
 refine Ap (Ab (Ai ?_))
 refine FL [(true, 0), (true, 1), (true, 2), (true, 3), (true, 4), (true, 5), (true, 6), (true, 7), (true, 8), (true, 9), (true, 10), (false, 11), (true, 12), (true, 13), (true, 14), (false, 15), (false, 16)] (CN ⟨Y, [], w0⟩ [(some 11, b1, [.int .i64 p0.1, v1, v2]), (some 11, b2, [.int .i64 p3.1, .int .i64 p3.2.1, .int .i64 p3.2.2.1, .int .i64 p3.2.2.2.1, v4, .int .i64 p3.2.2.2.2.2.1, .int .i64 p3.2.2.2.2.2.2.1, .int .i64 p3.2.2.2.2.2.2.2])] []) (fun ch a d v w h => by cases d <;> exact h) MO (by kernel_rfl) W (fun w W => ⟨_, _, W, (all_cons (fun _ => (.tail _ (.head _))) (all_cons (fun _ => (.head _)) AQ)), AQ⟩) fun w W => ?_
 refine BR (R := [11]) F Aa Aa (yC fun M Z hN hZ => Cl (cs := [.int .i64 p0.1, v1, v2]) (v := Value.agg #[.int .i64 p0.1, v1, v2]) F Aa (hN ((some 11), b1, [.int .i64 p0.1, v1, v2]) (.head _) Aa) HW Aa) (by kernel_rfl) Aa fun a F => ?_
 iterate 2 refine BR (R := []) F Aa Aa (yC fun M Z hN hZ => Ag F Aa) Aa Aa fun a F => ?_
 obtain ⟨x1, h2, H⟩ := An H
 obtain ⟨v6, h3, h4⟩ := Cx h1 h2
 have h5 : Me v6 = [(v6.1)] := congrArg (fun q : List (List Int) => ([(v6.1)] : List Value)) h4
 refine BR (R := []) F Aa Aa (yC fun M Z hN hZ => Az (r := (Rp.vsl (Rp.vsl (Rp.int .i64)))) P4 F Aa Aa (Aj h_v3) h3) Aa Aa fun a F => ?_
 refine BR (R := []) F Aa Aa (yC fun M Z hN hZ => Aq (y := (v6.1)) (j := 0) (i := p2) (enc := Me) F Aa Aa (Aj h_v3) h3 Pi P9 (by rw [h5]; rfl)) Aa Aa fun a F => ?_
 refine BR (R := []) F Aa Aa (yC fun M Z hN hZ => Af Fk Aa Aa Aa E1 F Aa 4 Aa) Aa Aa fun a F => ?_
 refine BR (R := [11, 8, 7]) F Aa Aa (yC fun M Z hN hZ => Cl (cs := [.int .i64 p3.1, .int .i64 p3.2.1, .int .i64 p3.2.2.1, .int .i64 p3.2.2.2.1, v4, .int .i64 p3.2.2.2.2.2.1, .int .i64 p3.2.2.2.2.2.2.1, .int .i64 p3.2.2.2.2.2.2.2]) (v := v4) F Aa (hN ((some 11), b2, [.int .i64 p3.1, .int .i64 p3.2.1, .int .i64 p3.2.2.1, .int .i64 p3.2.2.2.1, v4, .int .i64 p3.2.2.2.2.2.1, .int .i64 p3.2.2.2.2.2.2.1, .int .i64 p3.2.2.2.2.2.2.2]) (.tail _ (.head _)) Aa) E1 Aa) (by kernel_rfl) Aa fun a F => ?_
 obtain ⟨x2, h6, H⟩ := An H
 refine BR (R := []) F Aa Aa (yC fun M Z hN hZ => Az (r := (Rp.int .i64)) Hl F Aa Aa (Aj h_v4) h6) Aa Aa fun a F => ?_
 refine BR (R := []) F Aa Aa (yC fun M Z hN hZ => Aq (y := Value.int .i64 x2) (j := 0) (i := 0) F Aa Aa (Aj h_v4) h6 Fl.int.to T3 Aa) Aa Aa fun a F => ?_
 refine BR (R := []) F Aa Aa (yC fun M Z hN hZ => Af Fk Aa Aa Aa T3 F Aa 2 Aa) Aa Aa fun a F => ?_
 refine BR (R := [11]) F Aa Aa (yC fun M Z hN hZ => Cl (cs := [.int .i64 p3.1, .int .i64 p3.2.1, .int .i64 p3.2.2.1, .int .i64 p3.2.2.2.1, v4, .int .i64 p3.2.2.2.2.2.1, .int .i64 p3.2.2.2.2.2.2.1, .int .i64 p3.2.2.2.2.2.2.2]) (v := Value.int .i64 p3.2.2.1) F Aa (hN ((some 11), b2, [.int .i64 p3.1, .int .i64 p3.2.1, .int .i64 p3.2.2.1, .int .i64 p3.2.2.2.1, v4, .int .i64 p3.2.2.2.2.2.1, .int .i64 p3.2.2.2.2.2.2.1, .int .i64 p3.2.2.2.2.2.2.2]) (.tail _ (.head _)) Aa) T3 Aa) (by kernel_rfl) Aa fun a F => ?_
 refine FE Aa ?_
 obtain ⟨x3, h7, H⟩ := An H
 refine BW (Ml := []) (Zl := []) (M := [(b2, [.int .i64 p3.1, .int .i64 p3.2.1, .int .i64 p3.2.2.1, .int .i64 p3.2.2.2.1, v4, .int .i64 p3.2.2.2.2.2.1, .int .i64 p3.2.2.2.2.2.2.1, .int .i64 p3.2.2.2.2.2.2.2]), (b1, [.int .i64 p0.1, v1, v2])]) (Z := []) (β := Value) (rv := fun x => .tuple #[x, .int .i64 x3.2]) (MM := fun x => []) (ZZ := fun x => [row x 3 (Rp.int .i64) x3.1]) F W RC Aa Aa (fun hL => KM _ w (v1) (v2) ((v6.1)) p0 x1 x2 p3.2.2.1 _ h7 ((Aj h_v1) w W).nx ((Aj h_v2) w W).nx ((BA Ep (congrArg (fun q : List (List Int) => q) h4) (CS (Aj h_v3) h3 CR.here Aa)) w W).nx) fun x a w F W => ?_
 obtain ⟨v7, rfl⟩ : ∃ y, y = x := ⟨x, rfl⟩
 have W : Stw ⟨Y, [], w0⟩ [(b2, [.int .i64 p3.1, .int .i64 p3.2.1, .int .i64 p3.2.2.1, .int .i64 p3.2.2.2.1, v4, .int .i64 p3.2.2.2.2.2.1, .int .i64 p3.2.2.2.2.2.2.1, .int .i64 p3.2.2.2.2.2.2.2]), (b1, [.int .i64 p0.1, v1, v2])] [row v7 3 (Rp.int .i64) x3.1] w := W
 refine Ce (N2 := []) (NZ2 := []) (N3 := [(some 11, b1, [.int .i64 p0.1, v1, v2]), (some 11, b2, [.int .i64 p3.1, .int .i64 p3.2.1, .int .i64 p3.2.2.1, .int .i64 p3.2.2.2.1, v4, .int .i64 p3.2.2.2.2.2.1, .int .i64 p3.2.2.2.2.2.2.1, .int .i64 p3.2.2.2.2.2.2.2])]) (NZ3 := []) W Aa Aa (all_cons (fun h => Ba (by kernel_rfl) h) (all_cons (fun h => Ba (by kernel_rfl) h) AQ)) AQ ?_
 refine BR (R := []) F Aa Aa (yC fun M Z hN hZ => Ag F Aa) Aa Aa fun a F => ?_
 refine BR (R := []) F Aa Aa (yC fun M Z hN hZ => Bj (v := v7) F Aa Aa) Aa Aa fun a F => ?_
 refine BR (R := []) F Aa Aa (yC fun M Z hN hZ => Bj (v := Value.int .i64 x3.2) F Aa Aa) Aa Aa fun a F => ?_
 refine FE Aa ?_
 refine ls F W Aa (Ah F Aa).q fun a w F W => ?_
 refine Ce (N2 := []) (NZ2 := []) (N3 := [(some 11, b1, [.int .i64 p0.1, v1, v2]), (some 11, b2, [.int .i64 p3.1, .int .i64 p3.2.1, .int .i64 p3.2.2.1, .int .i64 p3.2.2.2.1, v4, .int .i64 p3.2.2.2.2.2.1, .int .i64 p3.2.2.2.2.2.2.1, .int .i64 p3.2.2.2.2.2.2.2])]) (NZ3 := []) W Aa Aa (all_cons (fun h => Ba (by kernel_rfl) h) (all_cons (fun h => Ba (by kernel_rfl) h) AQ)) AQ ?_
 refine FE Aa ?_
 refine ls F W Aa (Ah F Aa).q fun a w F W => ?_
 refine Ce (N2 := []) (NZ2 := []) (N3 := [(some 11, b1, [.int .i64 p0.1, v1, v2]), (some 11, b2, [.int .i64 p3.1, .int .i64 p3.2.1, .int .i64 p3.2.2.1, .int .i64 p3.2.2.2.1, v4, .int .i64 p3.2.2.2.2.2.1, .int .i64 p3.2.2.2.2.2.2.1, .int .i64 p3.2.2.2.2.2.2.2])]) (NZ3 := []) W Aa Aa (all_cons (fun h => Ba (by kernel_rfl) h) (all_cons (fun h => Ba (by kernel_rfl) h) AQ)) AQ ?_
 refine Hs (Ab (Ai (Ai (Ac ?_))))
 refine ls F W Aa (Ag F Aa).q fun a w F W => ?_
 refine ls F W Aa (Dx F Aa Aa).q fun a w F W => ?_
 refine Ad (Ab ?_)
 refine Ax F Aa (fun hb => ?_) fun hb => ?_
 ·
  have H := AK (Bd hb) H
  rw [hb] at F
  clear hb
  refine Ai (Ac ?_)
  refine ls F W Aa (Ah F Aa).q fun a w F W => ?_
  refine Ad (Ab (AA (AD ?_)))
  have H := AN H
  subst H
  refine AW (.inl Aa) F W Aa (As F Aa) ?_
  exact ⟨rfl, W.done⟩
 have H := AL (Bc hb) H
 rw [hb] at F
 clear hb
 refine Ap (Ab ?_)
 obtain ⟨o1, G1, K1⟩ := An H
 refine AB (fun a w => ∃ x4 : List Int, ∃ v8 : Value, some (x4) = some o1 ∧ Fr 56 [] [(7, .pointer (some ⟨b2, 0, none⟩)), (8, .bool false), (9, v8)] a ∧ Stw ⟨Y, [], w0⟩ [(b2, [.int .i64 p3.1, .int .i64 p3.2.1, .int .i64 p3.2.2.1, .int .i64 p3.2.2.2.1, v4, .int .i64 p3.2.2.2.2.2.1, .int .i64 p3.2.2.2.2.2.2.1, .int .i64 p3.2.2.2.2.2.2.2]), (b1, [.int .i64 p0.1, v1, v2])] [row v8 3 (Rp.int .i64) x4] w) ?_ ?_
 ·
  have H := G1
  clear G1 K1
  refine AB (fun a w => Fr 56 [] [(7, .pointer (some ⟨b2, 0, none⟩)), (8, .bool false), (9, v7), (46, .bool (decide (p3.2.2.2.2.2.1 = 0) && decide ((p3.2.2.2.2.1.length : Int) < (x3.1.length : Int))))] a ∧ Stw ⟨Y, [], w0⟩ [(b2, [.int .i64 p3.1, .int .i64 p3.2.1, .int .i64 p3.2.2.1, .int .i64 p3.2.2.2.1, v4, .int .i64 p3.2.2.2.2.2.1, .int .i64 p3.2.2.2.2.2.2.1, .int .i64 p3.2.2.2.2.2.2.2]), (b1, [.int .i64 p0.1, v1, v2])] [row v7 3 (Rp.int .i64) x3.1] w) ?_ ?_
  ·
   refine Ac ?_
   refine ls F W Aa (Af Fk Aa Aa Aa T3 F Aa 5 Aa).q fun a w F W => ?_
   refine ls F W Aa (Am (v := Value.int .i64 p3.2.2.2.2.2.1) 0 F Aa Aa T3 Aa).q fun a w F W => ?_
   refine ls F W Aa (Bz F Aa Aa).q fun a w F W => ?_
   refine ls F W Aa (Ag F Aa).q fun a w F W => ?_
   rcases Bool.eq_false_or_eq_true (decide (p3.2.2.2.2.2.1 = 0)) with hb0 | hb0
   ·
    rw [hb0] at F
    refine Ay F W (Ae F Aa Aa Aa Aa) Aa (Ak Aa) (Af Fk Aa Aa Aa E1 F Aa 4 Aa).q fun a w F W => ?_
    refine Ay F W (Ae F Aa Aa Aa Aa) Aa (Ak Aa) (Am (v := v4) 0 F Aa Aa E1 Aa).q fun a w F W => ?_
    refine Ay F W (Ae F Aa Aa Aa Aa) Aa (Ak Aa) (A6 (r := (Rp.int .i64)) (l := p3.2.2.2.2.1) Fc Aa F Aa (Aj h_v4)).q fun a w F W => ?_
    refine Ay F W (Ae F Aa Aa Aa Aa) Aa (Ak Aa) (Ag F Aa).q fun a w F W => ?_
    refine Ay F W (Ae F Aa Aa Aa Aa) Aa (Ak Aa) (A6 (r := (Rp.int .i64)) (l := x3.1) Fc Aa F Aa (AE 0 Aa)).q fun a w F W => ?_
    refine Ay F W (Ae F Aa Aa Aa Aa) Aa (Ak Aa) (Bi F Aa Aa).q fun a w F W => ?_
    refine ls F W Aa (Ao F Aa Aa Aa).q fun a w F W => ?_
    refine Ad (Ab ?_)
    exact ⟨F.re ⟨rfl, Aa, Aa, (by show some (Value.bool (decide ((p3.2.2.2.2.1.length : Int) < (x3.1.length : Int)))) = some (Value.bool (decide (p3.2.2.2.2.2.1 = 0) && decide ((p3.2.2.2.2.1.length : Int) < (x3.1.length : Int)))); try rw [hb0]; all_goals simp only [Bool.not_true, Bool.not_false, Bool.true_and, Bool.false_and, Bool.true_or, Bool.false_or, Bool.and_true, Bool.or_false, cond_true, cond_false]), trivial⟩, W⟩
   rw [hb0] at F
   iterate 6 refine B4 F Aa Aa Aa Aa Aa Aa Aa fun a F => ?_
   refine ls F W Aa (Av F Aa Aa Aa).q fun a w F W => ?_
   refine Ad (Ab ?_)
   exact ⟨F.re ⟨rfl, Aa, Aa, (by show some (Value.bool false) = some (Value.bool (decide (p3.2.2.2.2.2.1 = 0) && decide ((p3.2.2.2.2.1.length : Int) < (x3.1.length : Int)))); try rw [hb0]; all_goals simp only [Bool.not_true, Bool.not_false, Bool.true_and, Bool.false_and, Bool.true_or, Bool.false_or, Bool.and_true, Bool.or_false, cond_true, cond_false]), trivial⟩, W⟩
  rintro a w ⟨F, W⟩
  refine Ax F Aa (fun hb => ?_) fun hb => ?_
  ·
   have H := AK hb H
   rw [hb] at F
   clear hb
   refine Ac ?_
   refine ls F W Aa (Ag F Aa).q fun a w F W => ?_
   refine ls F W Aa (Af Fk Aa Aa Aa E1 F Aa 4 Aa).q fun a w F W => ?_
   refine ls F W Aa (Am (v := v4) 0 F Aa Aa E1 Aa).q fun a w F W => ?_
   refine ls F W Aa (A6 (r := (Rp.int .i64)) (l := p3.2.2.2.2.1) Fc Aa F Aa (Aj h_v4)).q fun a w F W => ?_
   obtain ⟨x5, h8, H⟩ := An H
   refine ls F W Aa (Oc (r := (Rp.int .i64)) Hl F Aa Aa Aa (AE 0 Aa) h8).q fun a w F W => ?_
   refine ls F W Aa (Ah F Aa).q fun a w F W => ?_
   refine Ad (Ab ?_)
   have W := W.subRow (k := 0) Aa Aa h8
   have W := W.frontM (i := 1) Aa Aa
   have W := W.frontM (i := 1) Aa Aa
   exact ⟨_, ((D4 v7 (0 : Int) (p3.2.2.2.2.1.length : Int) 1)), H, F.re ⟨rfl, Aa, Aa, trivial⟩, W⟩
  have H := AL (by rw [hb]; decide) H
  rw [hb] at F
  clear hb
  refine Ap (Ab ?_)
  have W := W.frontM (i := 1) Aa Aa
  have W := W.frontM (i := 1) Aa Aa
  exact ⟨_, (v7), H, F.re ⟨rfl, Aa, Aa, trivial⟩, W⟩
 rintro a w ⟨x4, v8, hj, F, W⟩
 have hj := AN hj
 subst hj
 have H := K1
 clear G1 K1
 refine Ai (Ac ?_)
 refine ls F W Aa (Af Fk Aa Aa Aa E1 F Aa 4 Aa).q fun a w F W => ?_
 refine ls F W Aa (Am (v := v4) 0 F Aa Aa E1 Aa).q fun a w F W => ?_
 refine ls F W Aa (Ag F Aa).q fun a w F W => ?_
 obtain ⟨x6, h9, H⟩ := An H
 refine ls F W Aa (Bl (v := Value.bool x6) F RN Aa (fun w W => Gr any w (v4) (v8) p3.2.2.2.2.1 x4 _ h9 (((Aj h_v4) : CH _ _ _ _ _ _) w W).nx (((AE 0 Aa) : CH _ _ _ _ _ _) w W).nx)) fun a w F W => ?_
 refine ls F W Aa (Ah F Aa).q fun a w F W => ?_
 refine Ad (Ab (AA ?_))
 have H := AN H
 subst H
 refine AW (.inl Aa) F W Aa (As F Aa) ?_
 exact ⟨rfl, W.done⟩
end Go.Proofs.Ytflaelbmglmmcaa
