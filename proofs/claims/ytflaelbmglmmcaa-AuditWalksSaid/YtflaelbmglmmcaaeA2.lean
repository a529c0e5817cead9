/- The functions of layer 42, ET. Conditions: none. -/
import Derived.Test.YtflaelbmglmmcaaeA1
namespace Go.Proofs.Ytflaelbmglmmcaa
open Go Go.RowKit
set_option linter.unusedVariables false
set_option linter.unusedSimpArgs false
set_option maxRecDepth 20000
theorem Qu : Has Try.prog 60 := ⟨fun args w => Am Try.func60 rfl (by decide) args w⟩
noncomputable def AR (p0 : List Int) : Int → Option (Int ⊕ (Unit ⊕ Int))
  | x1 => (if x1 < (p0.length : Int) then (ix p0 x1).bind fun x2 => (if (B7 x2) = true then some (.inr (.inr x1)) else some (.inl (DH (x1 + 1)))) else some (.inr (.inl ())))
noncomputable def BB (p0 : List Int) : Option Int := D7 (AQ (AR p0) 0) fun _ => some (-1)
theorem EU (Y : Nat → Prop) (w0 : World) (v1 : Value) (p0 : List Int) (r : Int) (H : BB p0 = some r) (h_v1 : Sl w0 (NX []) (Rp.int .i64) v1 p0) :
    Calls Try.prog 67 #[v1, .func (.func 60) #[] #[]] w0 fun e w' => e = .returned (.int .i64 r) ∧ Below w0.heap.size w0 w' := by
 refine enter Try.func67 Aa Try.ntmps67 Aa fun a F => ?_
 have W := Stw.start Y w0
 unfold BB at H
 refine Ai (Ac ?_)
 refine ls F W Aa (Ah F Aa).q fun a w F W => ?_
 refine Ad (Ab ?_)
 obtain ⟨o1, G1, K1, L1⟩ := IY H
 refine AH (fun a w => some (Sum.inl ()) = some o1 ∧ Fr 19 [] [(4, .int .i64 0)] a ∧ Stw ⟨Y, [], w0⟩ [] [] w) ?_ ?_
 ·
  have H := G1
  clear G1 K1
  refine Ai (Ac ?_)
  refine ls F W Aa (Ae F Aa).q fun a w F W => ?_
  refine ls F W Aa (A7 (r := (Rp.int .i64)) (l := p0) Fq Aa F Aa (Aj h_v1)).q fun a w F W => ?_
  refine ls F W Aa (Ae F Aa).q fun a w F W => ?_
  refine Ad (Ab (Aw ?_))
  refine Bv H (fun s a w => Fr 19 [] [(0, v1), (1, .func (.func 60) #[] #[]), (4, .int .i64 0), (7, .int .i64 (p0.length : Int)), (8, .int .i64 s)] a ∧ Stw ⟨Y, [], w0⟩ [] [] w) ⟨F.re ⟨rfl, Aa, Aa, Aa, Aa, trivial⟩, W⟩ fun s o a w H L2 hR => ?_
  obtain ⟨x1, rfl⟩ : ∃ x, x = s := ⟨s, rfl⟩
  obtain ⟨F, W⟩ := hR
  have F : Fr 19 [] [(0, v1), (1, .func (.func 60) #[] #[]), (4, .int .i64 0), (7, .int .i64 (p0.length : Int)), (8, .int .i64 x1)] a := F
  have W : Stw ⟨Y, [], w0⟩ [] [] w := W
  rw [AR] at H
  refine Ai (Ac ?_)
  refine ls F W Aa (Bq F Aa Aa).q fun a w F W => ?_
  refine Ad (Ab (Ai ?_))
  refine Ay F Aa (fun hb => ?_) fun hb => ?_
  ·
   have H := AN (Bf hb) H
   rw [hb] at F
   clear hb
   refine Aq (Ab (Ai (Aw (Ai (Ac ?_)))))
   refine ls F W Aa (Ae F Aa).q fun a w F W => ?_
   refine ls F W Aa (Ah F Aa).q fun a w F W => ?_
   refine Ad (Ab (Ai (Ac ?_)))
   iterate 3 refine ls F W Aa (Ae F Aa).q fun a w F W => ?_
   obtain ⟨x2, h1, H⟩ := Ao H
   refine ls F W Aa (AJ (r := (Rp.int .i64)) HV F Aa Aa (Aj h_v1) h1).q fun a w F W => ?_
   refine ls F W Aa (Az (y := Value.int .i64 x2) (j := 0) (i := x1) F Aa Aa (Aj h_v1) h1 Fl.int.to T3 Aa).q fun a w F W => ?_
   refine ls F W Aa (Jt (ws := [.int .i64 x2]) (v := Value.bool (B7 x2)) F Qu Aa (fun w W => GL any w x2 _ Aa)) fun a w F W => ?_
   refine Ad (Ab ?_)
   refine Ay F Aa (fun hb => ?_) fun hb => ?_
   ·
    have H := AN hb H
    rw [hb] at F
    clear hb
    refine Ai (Ac ?_)
    refine ls F W Aa (Ae F Aa).q fun a w F W => ?_
    refine ls F W Aa (Ah F Aa).q fun a w F W => ?_
    refine Ad (Ab (AA (AF ?_)))
    iterate 2 refine AD ?_
    refine AF (AD ?_)
    have H := L2 _ H
    have H := L1 _ H
    have H := AW H
    subst H
    refine A8 (.inl Aa) F W Aa (Ap F Aa) ?_
    exact ⟨rfl, W.done⟩
   have H := AM (by rw [hb]; decide) H
   rw [hb] at F
   clear hb
   refine Aq (AK (Ab (Ac ?_)))
   refine ls F W Aa (Cq F Aa Aa Aa).q fun a w F W => ?_
   refine ls F W Aa (Ae F Aa).q fun a w F W => ?_
   refine Ad (Ab ?_)
   exact ⟨_, H, F.re ⟨rfl, Aa, Aa, Aa, Aa, trivial⟩, W⟩
  have H := AM (Bg hb) H
  rw [hb] at F
  clear hb
  refine Bk ?_
  iterate 2 refine BJ ?_
  refine Bl (Ab ?_)
  have H := L2 _ H
  exact ⟨H, F.re ⟨rfl, trivial⟩, W⟩
 rintro a w ⟨hj, F, W⟩
 have H := K1 _ hj
 clear hj G1 K1 L1
 refine Ai (Ac ?_)
 refine ls F W Aa (Ah F Aa).q fun a w F W => ?_
 refine Ad (Ab (AA ?_))
 have H := AW H
 subst H
 refine A8 (.inl Aa) F W Aa (Ap F Aa) ?_
 exact ⟨rfl, W.done⟩
theorem Qe : Has Try.prog 67 := ⟨fun args w => Am Try.func67 rfl (by decide) args w⟩
noncomputable def Ba (p0 : List Int) : Option Bool := (BB p0).bind fun x1 => some (decide (0 ≤ x1))
theorem Ep (Y : Nat → Prop) (w0 : World) (v1 : Value) (p0 : List Int) (r : Bool) (H : Ba p0 = some r) (h_v1 : Sl w0 (NX []) (Rp.int .i64) v1 p0) :
    Calls Try.prog 59 #[v1, .func (.func 60) #[] #[]] w0 fun e w' => e = .returned (.bool r) ∧ Below w0.heap.size w0 w' := by
 refine enter Try.func59 Aa Try.ntmps59 Aa fun a F => ?_
 have W := Stw.start Y w0
 unfold Ba at H
 refine Ai (Ac ?_)
 refine ls F W Aa (Ah F Aa).q fun a w F W => ?_
 refine Ad (Ab (Ai (Ac ?_)))
 iterate 2 refine ls F W Aa (Ae F Aa).q fun a w F W => ?_
 obtain ⟨x1, h1, H⟩ := Ao H
 refine ls F W Aa (BI (v := Value.int .i64 x1) F Qe Aa (fun w W => EU any w (v1) p0 _ h1 (((Aj h_v1) : CZ _ _ _ _ _ _) w W).nx)) fun a w F W => ?_
 refine ls F W Aa (DC F Aa Aa).q fun a w F W => ?_
 refine ls F W Aa (Ah F Aa).q fun a w F W => ?_
 refine Ad (Ab (AA ?_))
 have H := AW H
 subst H
 refine A8 (.inl Aa) F W Aa (Ap F Aa) ?_
 exact ⟨rfl, W.done⟩
theorem PB : Has Try.prog 59 := ⟨fun args w => Am Try.func59 rfl (by decide) args w⟩
noncomputable def CA (p0 : Int × (List (Int × Int × Int × Int × Int × Int)) × (List (Int × Int))) (p1 : List (List Int)) : Int → Option (Int ⊕ (Unit ⊕ Bool))
  | x3 => (if x3 < (p1.length : Int) then (ix p1 x3).bind fun x4 => (if (x4.length : Int) ≠ (p0.2.2.length : Int) then some true else (Ba x4).bind fun x6 => some x6).bind fun x5 => (if x5 = true then some (.inr (.inr false)) else some (.inl (DH (x3 + 1)))) else some (.inr (.inl ())))
noncomputable def Dl (p0 : Int × (List (Int × Int × Int × Int × Int × Int)) × (List (Int × Int))) (p1 : List (List Int)) : Option Bool := ((DI p0).bind fun x2 => (if (!x2) = true then some true else some (decide ((p1.length : Int) ≠ p0.1)))).bind fun x1 => (if x1 = true then some false else D7 (AQ (CA p0 p1) 0) fun _ => some true)
theorem I4 (Y : Nat → Prop) (w0 : World) (v1 : Value) (v2 : Value) (v3 : Value) (p0 : Int × (List (Int × Int × Int × Int × Int × Int)) × (List (Int × Int))) (p1 : List (List Int)) (r : Bool) (H : Dl p0 p1 = some r) (h_v1 : Sl w0 (NX []) CS v1 p0.2.1) (h_v2 : Sl w0 (NX []) Ec v2 p0.2.2) (h_v3 : Sl w0 (NX []) (Rp.slice (Rp.int .i64)) v3 p1) :
    Calls Try.prog 54 #[.agg #[.int .i64 p0.1, v1, v2], v3] w0 fun e w' => e = .returned (.bool r) ∧ Below w0.heap.size w0 w' := by
 refine enter Try.func54 Aa Try.ntmps54 Aa fun a F => ?_
 have W := Stw.start Y w0
 obtain ⟨v4, h1, h_v3⟩ := h_v3.ex Dc
 unfold Dl at H
 refine Ai (Ac ?_)
 refine B9 (cs := [.int .i64 p0.1, v1, v2]) F W Aa Aa Aa fun b1 a w F W => ?_
 refine ls F W Aa (Ah F Aa).q fun a w F W => ?_
 refine Ad (Ab (Ai ?_))
 obtain ⟨o1, G1, K1⟩ := Ao H
 refine AH (fun a w => ∃ x1 : Bool, some (x1) = some o1 ∧ Fr 34 [] [(1, v3), (2, .pointer (some ⟨b1, 0, none⟩)), (4, .bool false), (16, .bool x1)] a ∧ Stw ⟨Y, [], w0⟩ [(b1, [.int .i64 p0.1, v1, v2])] [] w) ?_ ?_
 ·
  have H := G1
  clear G1 K1
  refine Ac ?_
  refine ls F W Aa (Al (v := Value.agg #[.int .i64 p0.1, v1, v2]) 0 F Aa Aa G0 Aa).q fun a w F W => ?_
  obtain ⟨x2, h2, H⟩ := Ao H
  refine ls F W Aa (BI (v := Value.bool x2) F PM Aa (fun w W => Jy any w (v1) (v2) p0 _ h2 (((Aj h_v1) : CZ _ _ _ _ _ _) w W).nx (((Aj h_v2) : CZ _ _ _ _ _ _) w W).nx)) fun a w F W => ?_
  refine ls F W Aa (EJ F Aa).q fun a w F W => ?_
  refine ls F W Aa (Ae F Aa).q fun a w F W => ?_
  rcases Bool.eq_false_or_eq_true (!x2) with hb | hb
  ·
   have H := AN hb H
   rw [hb] at F
   clear hb
   iterate 5 refine BW F Aa Aa Aa Aa Aa Aa Aa fun a F => ?_
   refine ls F W Aa (An F Aa Aa Aa).q fun a w F W => ?_
   refine Ad (Ab ?_)
   exact ⟨_, H, F.re ⟨rfl, Aa, Aa, Aa, trivial⟩, W⟩
  have H := AM (by rw [hb]; decide) H
  rw [hb] at F
  clear hb
  refine Au F W (Af F Aa Aa Aa Aa) Aa (Ak Aa) (Ae F Aa).q fun a w F W => ?_
  refine Au F W (Af F Aa Aa Aa Aa) Aa (Ak Aa) (A7 (r := (Rp.slice (Rp.int .i64))) (l := p1) Ik Aa F Aa (Bx Dc h1 (Aj h_v3))).q fun a w F W => ?_
  refine Au F W (Af F Aa Aa Aa Aa) Aa (Ak Aa) (Ag CJ Aa Aa Aa T3 F Aa 0 Aa).q fun a w F W => ?_
  refine Au F W (Af F Aa Aa Aa Aa) Aa (Ak Aa) (Al (v := Value.int .i64 p0.1) 0 F Aa Aa T3 Aa).q fun a w F W => ?_
  refine Au F W (Af F Aa Aa Aa Aa) Aa (Ak Aa) (Fd F Aa Aa).q fun a w F W => ?_
  refine ls F W Aa (As F Aa Aa Aa).q fun a w F W => ?_
  refine Ad (Ab ?_)
  exact ⟨_, H, F.re ⟨rfl, Aa, Aa, Aa, trivial⟩, W⟩
 rintro a w ⟨x1, hj, F, W⟩
 have hj := AW hj
 subst hj
 have H := K1
 clear G1 K1
 refine Ay F Aa (fun hb => ?_) fun hb => ?_
 ·
  have H := AN hb H
  rw [hb] at F
  clear hb
  refine Ai (Ac ?_)
  refine ls F W Aa (Ah F Aa).q fun a w F W => ?_
  refine Ad (Ab (AA (AD ?_)))
  have H := AW H
  subst H
  refine A8 (.inl Aa) F W Aa (Ap F Aa) ?_
  exact ⟨rfl, W.done⟩
 have H := AM (by rw [hb]; decide) H
 rw [hb] at F
 clear hb
 refine Aq (Ab ?_)
 obtain ⟨o2, G2, K2, L2⟩ := IY H
 refine AH (fun a w => some (Sum.inl ()) = some o2 ∧ Fr 34 [] [(4, .bool false)] a ∧ Stw ⟨Y, [], w0⟩ [(b1, [.int .i64 p0.1, v1, v2])] [] w) ?_ ?_
 ·
  have H := G2
  clear G2 K2
  refine Ai (Ac ?_)
  refine ls F W Aa (Ae F Aa).q fun a w F W => ?_
  refine ls F W Aa (A7 (r := (Rp.slice (Rp.int .i64))) (l := p1) Ik Aa F Aa (Bx Dc h1 (Aj h_v3))).q fun a w F W => ?_
  refine ls F W Aa (Ae F Aa).q fun a w F W => ?_
  refine Ad (Ab (Aw ?_))
  refine Bv H (fun s a w => Fr 34 [] [(2, .pointer (some ⟨b1, 0, none⟩)), (4, .bool false), (17, v3), (18, .int .i64 (p1.length : Int)), (19, .int .i64 s)] a ∧ Stw ⟨Y, [], w0⟩ [(b1, [.int .i64 p0.1, v1, v2])] [] w) ⟨F.re ⟨rfl, Aa, Aa, Aa, Aa, trivial⟩, W⟩ fun s o a w H L3 hR => ?_
  obtain ⟨x3, rfl⟩ : ∃ x, x = s := ⟨s, rfl⟩
  obtain ⟨F, W⟩ := hR
  have F : Fr 34 [] [(2, .pointer (some ⟨b1, 0, none⟩)), (4, .bool false), (17, v3), (18, .int .i64 (p1.length : Int)), (19, .int .i64 x3)] a := F
  have W : Stw ⟨Y, [], w0⟩ [(b1, [.int .i64 p0.1, v1, v2])] [] w := W
  rw [CA] at H
  refine Ai (Ac ?_)
  refine ls F W Aa (Bq F Aa Aa).q fun a w F W => ?_
  refine Ad (Ab (Ai ?_))
  refine Ay F Aa (fun hb => ?_) fun hb => ?_
  ·
   have H := AN (Bf hb) H
   rw [hb] at F
   clear hb
   refine Aq (Ab (Ai (Aw (Ai (Ac ?_)))))
   obtain ⟨x4, h3, H⟩ := Ao H
   obtain ⟨v5, h4, h5⟩ := DN h1 h3
   have h6 : Ez v5 = [(v5.1)] := congrArg (fun q : List Int => ([(v5.1)] : List Value)) h5
   refine ls F W Aa (AJ (r := (Rp.vsl (Rp.int .i64))) Lw F Aa Aa (Aj h_v3) h4).q fun a w F W => ?_
   refine ls F W Aa (Az (y := (v5.1)) (j := 0) (i := x3) (enc := Ez) F Aa Aa (Aj h_v3) h4 HL FZ (by rw [h6]; rfl)).q fun a w F W => ?_
   refine ls F W Aa (Ah F Aa).q fun a w F W => ?_
   refine Ad (Ab ?_)
   obtain ⟨o4, G4, K4⟩ := Ao H
   refine AH (fun a w => ∃ x5 : Bool, some (x5) = some o4 ∧ Fr 34 [] [(2, .pointer (some ⟨b1, 0, none⟩)), (4, .bool false), (17, v3), (18, .int .i64 (p1.length : Int)), (19, .int .i64 x3), (32, .bool x5)] a ∧ Stw ⟨Y, [], w0⟩ [(b1, [.int .i64 p0.1, v1, v2])] [] w) ?_ ?_
   ·
    have H := G4
    clear G4 K4
    refine Ac ?_
    refine ls F W Aa (Ae F Aa).q fun a w F W => ?_
    refine ls F W Aa (A7 (r := (Rp.int .i64)) (l := x4) Fq Aa F Aa (CT (Aj h_v3) h4 Db.here (congrArg (fun q : List Int => q) h5))).q fun a w F W => ?_
    refine ls F W Aa (Ag CJ Aa Aa Aa FW F Aa 2 Aa).q fun a w F W => ?_
    refine ls F W Aa (Al (v := v2) 0 F Aa Aa FW Aa).q fun a w F W => ?_
    refine ls F W Aa (A7 (r := Ec) (l := p0.2.2) GW Aa F Aa (Aj h_v2)).q fun a w F W => ?_
    refine ls F W Aa (Fd F Aa Aa).q fun a w F W => ?_
    refine ls F W Aa (Ae F Aa).q fun a w F W => ?_
    rcases Bool.eq_false_or_eq_true (decide ((x4.length : Int) ≠ (p0.2.2.length : Int))) with hb | hb
    ·
     have H := AN (Bf hb) H
     rw [hb] at F
     clear hb
     iterate 2 refine BW F Aa Aa Aa Aa Aa Aa Aa fun a F => ?_
     refine ls F W Aa (An F Aa Aa Aa).q fun a w F W => ?_
     refine Ad (Ab ?_)
     exact ⟨_, H, F.re ⟨rfl, Aa, Aa, Aa, Aa, Aa, trivial⟩, W⟩
    have H := AM (Bg hb) H
    rw [hb] at F
    clear hb
    refine Au F W (Af F Aa Aa Aa Aa) Aa (Ak Aa) (Ae F Aa).q fun a w F W => ?_
    refine J2 (Af F Aa Aa Aa Aa) ?_
    obtain ⟨x6, h7, H⟩ := Ao H
    refine ls F W Aa (BI (v := Value.bool x6) F PB Aa (fun w W => Ep any w ((v5.1)) x4 _ h7 (((CT (Aj h_v3) h4 Db.here (congrArg (fun q : List Int => q) h5)) : CZ _ _ _ _ _ _) w W).nx)) fun a w F W => ?_
    refine ls F W Aa (As F Aa Aa Aa).q fun a w F W => ?_
    refine Ad (Ab ?_)
    exact ⟨_, H, F.re ⟨rfl, Aa, Aa, Aa, Aa, Aa, trivial⟩, W⟩
   rintro a w ⟨x5, hj, F, W⟩
   have hj := AW hj
   subst hj
   have H := K4
   clear G4 K4
   refine Ay F Aa (fun hb => ?_) fun hb => ?_
   ·
    have H := AN hb H
    rw [hb] at F
    clear hb
    refine Ai (Ac ?_)
    refine ls F W Aa (Ah F Aa).q fun a w F W => ?_
    refine Ad (Ab (AA (AF ?_)))
    iterate 2 refine AD ?_
    refine AF (AD ?_)
    have H := L3 _ H
    have H := L2 _ H
    have H := AW H
    subst H
    refine A8 (.inl Aa) F W Aa (Ap F Aa) ?_
    exact ⟨rfl, W.done⟩
   have H := AM (by rw [hb]; decide) H
   rw [hb] at F
   clear hb
   refine Aq (AK (Ab (Ac ?_)))
   refine ls F W Aa (Cq F Aa Aa Aa).q fun a w F W => ?_
   refine ls F W Aa (Ae F Aa).q fun a w F W => ?_
   refine Ad (Ab ?_)
   exact ⟨_, H, F.re ⟨rfl, Aa, Aa, Aa, Aa, trivial⟩, W⟩
  have H := AM (Bg hb) H
  rw [hb] at F
  clear hb
  refine Bk ?_
  iterate 2 refine BJ ?_
  refine Bl (Ab ?_)
  have H := L3 _ H
  exact ⟨H, F.re ⟨rfl, trivial⟩, W⟩
 rintro a w ⟨hj, F, W⟩
 have H := K2 _ hj
 clear hj G2 K2 L2
 refine Ai (Ac ?_)
 refine ls F W Aa (Ah F Aa).q fun a w F W => ?_
 refine Ad (Ab (AA ?_))
 have H := AW H
 subst H
 refine A8 (.inl Aa) F W Aa (Ap F Aa) ?_
 exact ⟨rfl, W.done⟩
theorem PD : Has Try.prog 54 := ⟨fun args w => Am Try.func54 rfl (by decide) args w⟩
theorem O0 (dd : Nat) (x0 : Int) (x1 : Int) (y0 : Int) (y1 : Int) (w : World) : (Op.equalIn (dd + 2) 60 (.agg #[.int .i64 x0, .int .i64 x1]) (.agg #[.int .i64 y0, .int .i64 y1])).run Try.prog w = .ok (decide (x0 = y0 ∧ x1 = y1)) w :=
  Hn (d := dd + 1) (rs := [decide (x0 = y0), decide (x1 = y1)]) I1 (by kernel_rfl) ⟨rfl, Gl (d := dd + 0) rfl rfl Nn T3 rfl rfl, rfl, Gl (d := dd + 0) rfl rfl Nn T3 rfl rfl, trivial⟩ (by simp) w
theorem PL : Try.prog.eqGuardType Try.prog.depth 60 = false := by kernel_rfl
theorem Qk (x0 : Int) (x1 : Int) (y0 : Int) (y1 : Int) (w : World) : (Op.equalIn 10000 60 (.agg #[.int .i64 x0, .int .i64 x1]) (.agg #[.int .i64 y0, .int .i64 y1])).run Try.prog w = .ok (decide (x0 = y0 ∧ x1 = y1)) w := O0 9998 x0 x1 y0 y1 w
noncomputable def AE (p0 : List (Int × Int)) (p1 : Int × Int) : Int → Option (Int ⊕ (Unit ⊕ Int))
  | x1 => (if x1 < (p0.length : Int) then (ix p0 x1).bind fun x2 => (if p1.1 = x2.1 ∧ p1.2 = x2.2 then some (.inr (.inr x1)) else some (.inl (DH (x1 + 1)))) else some (.inr (.inl ())))
noncomputable def Bc (p0 : List (Int × Int)) (p1 : Int × Int) : Option Int := D7 (AQ (AE p0 p1) 0) fun _ => some (-1)
theorem DW (Y : Nat → Prop) (w0 : World) (v1 : Value) (p0 : List (Int × Int)) (p1 : Int × Int) (r : Int) (H : Bc p0 p1 = some r) (h_v1 : Sl w0 (NX []) Ec v1 p0) :
    Calls Try.prog 68 #[v1, .agg #[.int .i64 p1.1, .int .i64 p1.2]] w0 fun e w' => e = .returned (.int .i64 r) ∧ Below w0.heap.size w0 w' := by
 refine enter Try.func68 Aa Try.ntmps68 Aa fun a F => ?_
 have W := Stw.start Y w0
 unfold Bc at H
 refine Ai (Ac ?_)
 refine B9 (cs := [.int .i64 p1.1, .int .i64 p1.2]) F W Aa Aa Aa fun b1 a w F W => ?_
 refine ls F W Aa (Ah F Aa).q fun a w F W => ?_
 refine Ad (Ab ?_)
 obtain ⟨o1, G1, K1, L1⟩ := IY H
 refine AH (fun a w => some (Sum.inl ()) = some o1 ∧ Fr 19 [] [(4, .int .i64 0)] a ∧ Stw ⟨Y, [], w0⟩ [(b1, [.int .i64 p1.1, .int .i64 p1.2])] [] w) ?_ ?_
 ·
  have H := G1
  clear G1 K1
  refine Ai (Ac ?_)
  refine ls F W Aa (Ae F Aa).q fun a w F W => ?_
  refine ls F W Aa (A7 (r := Ec) (l := p0) GW Aa F Aa (Aj h_v1)).q fun a w F W => ?_
  refine ls F W Aa (Ae F Aa).q fun a w F W => ?_
  refine Ad (Ab (Aw ?_))
  refine Bv H (fun s a w => Fr 19 [] [(0, v1), (3, .pointer (some ⟨b1, 0, none⟩)), (4, .int .i64 0), (7, .int .i64 (p0.length : Int)), (8, .int .i64 s)] a ∧ Stw ⟨Y, [], w0⟩ [(b1, [.int .i64 p1.1, .int .i64 p1.2])] [] w) ⟨F.re ⟨rfl, Aa, Aa, Aa, Aa, trivial⟩, W⟩ fun s o a w H L2 hR => ?_
  obtain ⟨x1, rfl⟩ : ∃ x, x = s := ⟨s, rfl⟩
  obtain ⟨F, W⟩ := hR
  have F : Fr 19 [] [(0, v1), (3, .pointer (some ⟨b1, 0, none⟩)), (4, .int .i64 0), (7, .int .i64 (p0.length : Int)), (8, .int .i64 x1)] a := F
  have W : Stw ⟨Y, [], w0⟩ [(b1, [.int .i64 p1.1, .int .i64 p1.2])] [] w := W
  rw [AE] at H
  refine Ai (Ac ?_)
  refine ls F W Aa (Bq F Aa Aa).q fun a w F W => ?_
  refine Ad (Ab (Ai ?_))
  refine Ay F Aa (fun hb => ?_) fun hb => ?_
  ·
   have H := AN (Bf hb) H
   rw [hb] at F
   clear hb
   refine Aq (Ab (Ai (Aw (Ai (Ac ?_)))))
   refine ls F W Aa (Ae F Aa).q fun a w F W => ?_
   refine ls F W Aa (Ah F Aa).q fun a w F W => ?_
   refine Ad (Ab (Ai ?_))
   refine Cv W MO (by kernel_rfl) ?_
   refine qs F Aa (Al (v := Value.agg #[.int .i64 p1.1, .int .i64 p1.2]) 0 F Aa Aa OR Aa).q fun a F => ?_
   iterate 2 refine qs F Aa (Ae F Aa).q fun a F => ?_
   obtain ⟨x2, h1, H⟩ := Ao H
   refine qs F Aa (AJ (r := Ec) Nd F Aa Aa (Aj h_v1) h1).q fun a F => ?_
   refine qs F Aa (Az (y := Value.agg #[.int .i64 x2.1, .int .i64 x2.2]) (j := 0) (i := x1) F Aa Aa (Aj h_v1) h1 Nm.to OR Aa).q fun a F => ?_
   refine qs F Aa (JW (t := decide (p1.1 = x2.1 ∧ p1.2 = x2.2)) PL (Qk _ _ _ _) F Aa Aa).q fun a F => ?_
   refine BK fun w W => ?_
   refine Ab ?_
   refine Ay F Aa (fun hb => ?_) fun hb => ?_
   ·
    have H := AN (Bf hb) H
    rw [hb] at F
    clear hb
    refine Ai (Ac ?_)
    refine ls F W Aa (Ae F Aa).q fun a w F W => ?_
    refine ls F W Aa (Ah F Aa).q fun a w F W => ?_
    refine Ad (Ab (AA (AF ?_)))
    iterate 2 refine AD ?_
    refine AF (AD ?_)
    have H := L2 _ H
    have H := L1 _ H
    have H := AW H
    subst H
    refine A8 (.inl Aa) F W Aa (Ap F Aa) ?_
    exact ⟨rfl, W.done⟩
   have H := AM (Bg hb) H
   rw [hb] at F
   clear hb
   refine Aq (AK (Ab (Ac ?_)))
   refine ls F W Aa (Cq F Aa Aa Aa).q fun a w F W => ?_
   refine ls F W Aa (Ae F Aa).q fun a w F W => ?_
   refine Ad (Ab ?_)
   exact ⟨_, H, F.re ⟨rfl, Aa, Aa, Aa, Aa, trivial⟩, W⟩
  have H := AM (Bg hb) H
  rw [hb] at F
  clear hb
  refine Bk ?_
  iterate 2 refine BJ ?_
  refine Bl (Ab ?_)
  have H := L2 _ H
  exact ⟨H, F.re ⟨rfl, trivial⟩, W⟩
 rintro a w ⟨hj, F, W⟩
 have H := K1 _ hj
 clear hj G1 K1 L1
 refine Ai (Ac ?_)
 refine ls F W Aa (Ah F Aa).q fun a w F W => ?_
 refine Ad (Ab (AA ?_))
 have H := AW H
 subst H
 refine A8 (.inl Aa) F W Aa (Ap F Aa) ?_
 exact ⟨rfl, W.done⟩
theorem PZ : Has Try.prog 68 := ⟨fun args w => Am Try.func68 rfl (by decide) args w⟩
noncomputable def C2 (p0 : Int × (List (Int × Int × Int × Int × Int × Int)) × (List (Int × Int))) (p1 : Int) (p2 : Int) : Option Int := (Bc p0.2.2 (p1, p2)).bind fun x1 => some x1
theorem I0 (Y : Nat → Prop) (w0 : World) (v1 : Value) (v2 : Value) (p0 : Int × (List (Int × Int × Int × Int × Int × Int)) × (List (Int × Int))) (p1 : Int) (p2 : Int) (r : Int) (H : C2 p0 p1 p2 = some r) (h_v1 : Sl w0 (NX []) CS v1 p0.2.1) (h_v2 : Sl w0 (NX []) Ec v2 p0.2.2) :
    Calls Try.prog 61 #[.agg #[.int .i64 p0.1, v1, v2], .int .i64 p1, .int .i64 p2] w0 fun e w' => e = .returned (.int .i64 r) ∧ Below w0.heap.size w0 w' := by
 refine enter Try.func61 Aa Try.ntmps61 Aa fun a F => ?_
 have W := Stw.start Y w0
 unfold C2 at H
 refine Ai (Ac ?_)
 refine B9 (cs := [.int .i64 p0.1, v1, v2]) F W Aa Aa Aa fun b1 a w F W => ?_
 refine ls F W Aa (Ah F Aa).q fun a w F W => ?_
 refine Ad (Ab (Ai (Ac ?_)))
 refine ls F W Aa (Ag CJ Aa Aa Aa FW F Aa 2 Aa).q fun a w F W => ?_
 refine ls F W Aa (Al (v := v2) 0 F Aa Aa FW Aa).q fun a w F W => ?_
 iterate 2 refine ls F W Aa (Ae F Aa).q fun a w F W => ?_
 refine ls F W Aa (BA (v := Value.agg #[.int .i64 p1, .int .i64 p2]) Pn F Aa Aa Aa).q fun a w F W => ?_
 obtain ⟨x1, h1, H⟩ := Ao H
 refine ls F W Aa (BI (v := Value.int .i64 x1) F PZ Aa (fun w W => DW any w (v2) p0.2.2 (p1, p2) _ h1 (((Aj h_v2) : CZ _ _ _ _ _ _) w W).nx)) fun a w F W => ?_
 refine ls F W Aa (Ah F Aa).q fun a w F W => ?_
 refine Ad (Ab (AA ?_))
 have H := AW H
 subst H
 refine A8 (.inl Aa) F W Aa (Ap F Aa) ?_
 exact ⟨rfl, W.done⟩
theorem P9 : Has Try.prog 61 := ⟨fun args w => Am Try.func61 rfl (by decide) args w⟩
noncomputable def BU (p0 : Int × (List (Int × Int × Int × Int × Int × Int)) × (List (Int × Int))) (p1 : Int) (p2 : Int) : Int → Option (Int ⊕ (Unit ⊕ (Int × Int × Int × Bool)))
  | x1 => (if x1 < (p0.2.1.length : Int) then (ix p0.2.1 x1).bind fun x2 => (if p1 = x2.1 ∧ p2 = x2.2.1 then some (.inr (.inr (x2.2.2.1, x2.2.2.2.1, x1, true))) else (if p1 = x2.2.2.1 ∧ p2 = x2.2.2.2.1 then some (.inr (.inr (x2.1, x2.2.1, x1, true))) else some (.inl (DH (x1 + 1))))) else some (.inr (.inl ())))
noncomputable def CU (p0 : Int × (List (Int × Int × Int × Int × Int × Int)) × (List (Int × Int))) (p1 : Int) (p2 : Int) : Option (Int × Int × Int × Bool) := D7 (AQ (BU p0 p1 p2) 0) fun _ => some (0, 0, 0, false)
theorem J9 (Y : Nat → Prop) (w0 : World) (v1 : Value) (v2 : Value) (p0 : Int × (List (Int × Int × Int × Int × Int × Int)) × (List (Int × Int))) (p1 : Int) (p2 : Int) (r : Int × Int × Int × Bool) (H : CU p0 p1 p2 = some r) (h_v1 : Sl w0 (NX []) CS v1 p0.2.1) (h_v2 : Sl w0 (NX []) Ec v2 p0.2.2) :
    Calls Try.prog 69 #[.agg #[.int .i64 p0.1, v1, v2], .int .i64 p1, .int .i64 p2] w0 fun e w' => e = .returned (.tuple #[.int .i64 r.1, .int .i64 r.2.1, .int .i64 r.2.2.1, .bool r.2.2.2]) ∧ Below w0.heap.size w0 w' := by
 refine enter Try.func69 Aa Try.ntmps69 Aa fun a F => ?_
 have W := Stw.start Y w0
 unfold CU at H
 refine Ai (Ac ?_)
 refine B9 (cs := [.int .i64 p0.1, v1, v2]) F W Aa Aa Aa fun b1 a w F W => ?_
 iterate 4 refine ls F W Aa (Ah F Aa).q fun a w F W => ?_
 refine Ad (Ab (Ai (Ac ?_)))
 iterate 2 refine ls F W Aa (Ae F Aa).q fun a w F W => ?_
 refine ls F W Aa (BA (v := Value.agg #[.int .i64 p1, .int .i64 p2]) LL F Aa Aa Aa).q fun a w F W => ?_
 refine B1 (cs := [.int .i64 0, .int .i64 0]) F W Aa Nf Aa fun b2 a w F W => ?_
 refine BM (vs := [.int .i64 p1, .int .i64 p2]) (M' := [(b2, [.int .i64 p1, .int .i64 p2]), (b1, [.int .i64 p0.1, v1, v2])]) 0 F W Aa Aa Aa KQ Aa Aa Aa Aa Aa fun w W => ?_
 refine Ad (Ab ?_)
 obtain ⟨o1, G1, K1, L1⟩ := IY H
 refine AH (fun a w => some (Sum.inl ()) = some o1 ∧ Fr 49 [] [(6, .int .i64 0), (7, .int .i64 0), (8, .int .i64 0), (9, .bool false)] a ∧ Stw ⟨Y, [], w0⟩ [(b2, [.int .i64 p1, .int .i64 p2]), (b1, [.int .i64 p0.1, v1, v2])] [] w) ?_ ?_
 ·
  have H := G1
  clear G1 K1
  refine Ai (Ac ?_)
  refine ls F W Aa (Ag CJ Aa Aa Aa H3 F Aa 1 Aa).q fun a w F W => ?_
  refine ls F W Aa (Al (v := v1) 1 F Aa Aa H3 Aa).q fun a w F W => ?_
  refine ls F W Aa (A7 (r := CS) (l := p0.2.1) IX Aa F Aa (Aj h_v1)).q fun a w F W => ?_
  refine ls F W Aa (Ae F Aa).q fun a w F W => ?_
  refine Ad (Ab (Aw ?_))
  have W := W.frontM (i := 1) Aa Aa
  have W := W.frontM (i := 1) Aa Aa
  refine Bv H (fun s a w => Fr 49 [] [(6, .int .i64 0), (7, .int .i64 0), (8, .int .i64 0), (9, .bool false), (10, .pointer (some ⟨b2, 0, none⟩)), (17, v1), (18, .int .i64 (p0.2.1.length : Int)), (19, .int .i64 s)] a ∧ Stw ⟨Y, [], w0⟩ [(b2, [.int .i64 p1, .int .i64 p2]), (b1, [.int .i64 p0.1, v1, v2])] [] w) ⟨F.re ⟨rfl, Aa, Aa, Aa, Aa, Aa, Aa, Aa, trivial⟩, W⟩ fun s o a w H L2 hR => ?_
  obtain ⟨x1, rfl⟩ : ∃ x, x = s := ⟨s, rfl⟩
  obtain ⟨F, W⟩ := hR
  have F : Fr 49 [] [(6, .int .i64 0), (7, .int .i64 0), (8, .int .i64 0), (9, .bool false), (10, .pointer (some ⟨b2, 0, none⟩)), (17, v1), (18, .int .i64 (p0.2.1.length : Int)), (19, .int .i64 x1)] a := F
  have W : Stw ⟨Y, [], w0⟩ [(b2, [.int .i64 p1, .int .i64 p2]), (b1, [.int .i64 p0.1, v1, v2])] [] w := W
  rw [BU] at H
  refine Ai (Ac ?_)
  refine ls F W Aa (Bq F Aa Aa).q fun a w F W => ?_
  refine Ad (Ab (Ai ?_))
  refine Ay F Aa (fun hb => ?_) fun hb => ?_
  ·
   have H := AN (Bf hb) H
   rw [hb] at F
   clear hb
   refine Aq (Ab (Ai (Aw (Ai (Ac ?_)))))
   refine ls F W Aa (Ae F Aa).q fun a w F W => ?_
   obtain ⟨x2, h1, H⟩ := Ao H
   refine ls F W Aa (AJ (r := CS) Ok F Aa Aa (Aj h_v1) h1).q fun a w F W => ?_
   refine ls F W Aa (Az (y := Value.agg #[.int .i64 x2.1, .int .i64 x2.2.1, .int .i64 x2.2.2.1, .int .i64 x2.2.2.2.1, .int .i64 x2.2.2.2.2.1, .int .i64 x2.2.2.2.2.2]) (j := 0) (i := x1) F Aa Aa (Aj h_v1) h1 LD.to Iv Aa).q fun a w F W => ?_
   refine B1 (cs := [.int .i64 0, .int .i64 0, .int .i64 0, .int .i64 0, .int .i64 0, .int .i64 0]) F W Aa LW Aa fun b3 a w F W => ?_
   refine ls F W Aa (Ah F Aa).q fun a w F W => ?_
   refine BM (vs := [.int .i64 x2.1, .int .i64 x2.2.1, .int .i64 x2.2.2.1, .int .i64 x2.2.2.2.1, .int .i64 x2.2.2.2.2.1, .int .i64 x2.2.2.2.2.2]) (M' := [(b3, [.int .i64 x2.1, .int .i64 x2.2.1, .int .i64 x2.2.2.1, .int .i64 x2.2.2.2.1, .int .i64 x2.2.2.2.2.1, .int .i64 x2.2.2.2.2.2]), (b2, [.int .i64 p1, .int .i64 p2]), (b1, [.int .i64 p0.1, v1, v2])]) 0 F W Aa Aa Aa Iv Aa Aa Aa Aa Aa fun w W => ?_
   refine Ad (Ab (Ai (Ai (Ac ?_))))
   refine ls F W Aa (Al (v := Value.agg #[.int .i64 p1, .int .i64 p2]) 1 F Aa Aa KQ Aa).q fun a w F W => ?_
   refine ls F W Aa (Ag B2 Aa Aa Aa T3 F Aa 0 Aa).q fun a w F W => ?_
   refine ls F W Aa (Al (v := Value.int .i64 x2.1) 0 F Aa Aa T3 Aa).q fun a w F W => ?_
   refine ls F W Aa (Ag B2 Aa Aa Aa T3 F Aa 1 Aa).q fun a w F W => ?_
   refine ls F W Aa (Al (v := Value.int .i64 x2.2.1) 0 F Aa Aa T3 Aa).q fun a w F W => ?_
   refine ls F W Aa (BA (v := Value.agg #[.int .i64 x2.1, .int .i64 x2.2.1]) LL F Aa Aa Aa).q fun a w F W => ?_
   refine ls F W Aa (JW (t := decide (p1 = x2.1 ∧ p2 = x2.2.1)) OC (NT _ _ _ _) F Aa Aa).q fun a w F W => ?_
   refine Ad (Ab ?_)
   refine Ay F Aa (fun hb => ?_) fun hb => ?_
   ·
    have H := AN (Bf hb) H
    rw [hb] at F
    clear hb
    refine Ai ?_
    refine Cv W MO (by kernel_rfl) ?_
    refine qs F Aa (Ag B2 Aa Aa Aa T3 F Aa 2 Aa).q fun a F => ?_
    refine qs F Aa (Al (v := Value.int .i64 x2.2.2.1) 0 F Aa Aa T3 Aa).q fun a F => ?_
    refine qs F Aa (Ag B2 Aa Aa Aa T3 F Aa 3 Aa).q fun a F => ?_
    refine qs F Aa (Al (v := Value.int .i64 x2.2.2.2.1) 0 F Aa Aa T3 Aa).q fun a F => ?_
    refine qs F Aa (Ae F Aa).q fun a F => ?_
    iterate 4 refine qs F Aa (Ah F Aa).q fun a F => ?_
    refine BK fun w W => ?_
    refine Ab (AA (AD (AF ?_)))
    iterate 2 refine AD ?_
    refine AF (AD ?_)
    have H := L2 _ H
    have H := L1 _ H
    have H := AW H
    subst H
    refine Jd (.inl Aa) F W Aa (Ap F Aa) (Ap F Aa) (Ap F Aa) (Ap F Aa) ?_
    exact ⟨rfl, W.done⟩
   have H := AM (Bg hb) H
   rw [hb] at F
   clear hb
   refine Aq (Ab (Ai (Ac ?_)))
   refine ls F W Aa (Al (v := Value.agg #[.int .i64 p1, .int .i64 p2]) 1 F Aa Aa KQ Aa).q fun a w F W => ?_
   refine ls F W Aa (Ag B2 Aa Aa Aa T3 F Aa 2 Aa).q fun a w F W => ?_
   refine ls F W Aa (Al (v := Value.int .i64 x2.2.2.1) 0 F Aa Aa T3 Aa).q fun a w F W => ?_
   refine ls F W Aa (Ag B2 Aa Aa Aa T3 F Aa 3 Aa).q fun a w F W => ?_
   refine ls F W Aa (Al (v := Value.int .i64 x2.2.2.2.1) 0 F Aa Aa T3 Aa).q fun a w F W => ?_
   refine ls F W Aa (BA (v := Value.agg #[.int .i64 x2.2.2.1, .int .i64 x2.2.2.2.1]) LL F Aa Aa Aa).q fun a w F W => ?_
   refine ls F W Aa (JW (t := decide (p1 = x2.2.2.1 ∧ p2 = x2.2.2.2.1)) OC (NT _ _ _ _) F Aa Aa).q fun a w F W => ?_
   refine Ad (Ab ?_)
   refine Ay F Aa (fun hb => ?_) fun hb => ?_
   ·
    have H := AN (Bf hb) H
    rw [hb] at F
    clear hb
    refine Ai ?_
    refine Cv W MO (by kernel_rfl) ?_
    refine qs F Aa (Ag B2 Aa Aa Aa T3 F Aa 0 Aa).q fun a F => ?_
    refine qs F Aa (Al (v := Value.int .i64 x2.1) 0 F Aa Aa T3 Aa).q fun a F => ?_
    refine qs F Aa (Ag B2 Aa Aa Aa T3 F Aa 1 Aa).q fun a F => ?_
    refine qs F Aa (Al (v := Value.int .i64 x2.2.1) 0 F Aa Aa T3 Aa).q fun a F => ?_
    refine qs F Aa (Ae F Aa).q fun a F => ?_
    iterate 4 refine qs F Aa (Ah F Aa).q fun a F => ?_
    refine BK fun w W => ?_
    refine Ab (AA (AF ?_))
    iterate 2 refine AD ?_
    refine AF (AD ?_)
    have H := L2 _ H
    have H := L1 _ H
    have H := AW H
    subst H
    refine Jd (.inl Aa) F W Aa (Ap F Aa) (Ap F Aa) (Ap F Aa) (Ap F Aa) ?_
    exact ⟨rfl, W.done⟩
   have H := AM (Bg hb) H
   rw [hb] at F
   clear hb
   refine Aq (AK (Ab (Ac ?_)))
   refine ls F W Aa (Cq F Aa Aa Aa).q fun a w F W => ?_
   refine ls F W Aa (Ae F Aa).q fun a w F W => ?_
   refine Ad (Ab ?_)
   have W := W.frontM (i := 2) Aa Aa
   have W := W.frontM (i := 2) Aa Aa
   have W := W.sub (M' := [(b2, [.int .i64 p1, .int .i64 p2]), (b1, [.int .i64 p0.1, v1, v2])]) (Z' := []) (List.Sublist.cons_cons _ (List.Sublist.cons_cons _ (List.nil_sublist _))) (List.Sublist.refl _)
   exact ⟨_, H, F.re ⟨rfl, Aa, Aa, Aa, Aa, Aa, Aa, Aa, trivial⟩, W⟩
  have H := AM (Bg hb) H
  rw [hb] at F
  clear hb
  refine Bk ?_
  iterate 2 refine BJ ?_
  refine Bl (Ab ?_)
  have W := W.frontM (i := 1) Aa Aa
  have W := W.frontM (i := 1) Aa Aa
  have H := L2 _ H
  exact ⟨H, F.re ⟨rfl, Aa, Aa, Aa, trivial⟩, W⟩
 rintro a w ⟨hj, F, W⟩
 have H := K1 _ hj
 clear hj G1 K1 L1
 refine Ai (Ac ?_)
 iterate 4 refine ls F W Aa (Ah F Aa).q fun a w F W => ?_
 refine Ad (Ab (AA ?_))
 have H := AW H
 subst H
 refine Jd (.inl Aa) F W Aa (Ap F Aa) (Ap F Aa) (Ap F Aa) (Ap F Aa) ?_
 exact ⟨rfl, W.done⟩
theorem Qc : Has Try.prog 69 := ⟨fun args w => Am Try.func69 rfl (by decide) args w⟩
noncomputable def DK (p0 : Int × (List (Int × Int × Int × Int × Int × Int)) × (List (Int × Int))) (p1 : List (List Int)) (p2 : Int) (p3 : Int) : Option (Int × Bool) := (if p2 < 0 then some true else (if (p1.length : Int) ≤ p2 then some true else (if p3 < 0 then some true else (ix p1 p2).bind fun x2 => some (decide ((x2.length : Int) ≤ p3))))).bind fun x1 => (if x1 = true then some (0, false) else (ix p1 p2).bind fun x3 => (ix x3 p3).bind fun x4 => (CU p0 p2 x4).bind fun x5 => some (x5.1, x5.2.2.2))
theorem Jp (Y : Nat → Prop) (w0 : World) (v1 : Value) (v2 : Value) (v3 : Value) (p0 : Int × (List (Int × Int × Int × Int × Int × Int)) × (List (Int × Int))) (p1 : List (List Int)) (p2 : Int) (p3 : Int) (r : Int × Bool) (H : DK p0 p1 p2 p3 = some r) (h_v1 : Sl w0 (NX []) CS v1 p0.2.1) (h_v2 : Sl w0 (NX []) Ec v2 p0.2.2) (h_v3 : Sl w0 (NX []) (Rp.slice (Rp.int .i64)) v3 p1) :
    Calls Try.prog 62 #[.agg #[.int .i64 p0.1, v1, v2], v3, .int .i64 p2, .int .i64 p3] w0 fun e w' => e = .returned (.tuple #[.int .i64 r.1, .bool r.2]) ∧ Below w0.heap.size w0 w' := by
 refine enter Try.func62 Aa Try.ntmps62 Aa fun a F => ?_
 have W := Stw.start Y w0
 obtain ⟨v4, h1, h_v3⟩ := h_v3.ex Dc
 unfold DK at H
 refine Ai (Ac ?_)
 refine B9 (cs := [.int .i64 p0.1, v1, v2]) F W Aa Aa Aa fun b1 a w F W => ?_
 iterate 2 refine ls F W Aa (Ah F Aa).q fun a w F W => ?_
 refine Ad (Ab (Ai ?_))
 obtain ⟨o1, G1, K1⟩ := Ao H
 refine AH (fun a w => ∃ x1 : Bool, some (x1) = some o1 ∧ Fr 52 [] [(1, v3), (2, .int .i64 p2), (3, .int .i64 p3), (4, .pointer (some ⟨b1, 0, none⟩)), (8, .int .i64 0), (9, .bool false), (34, .bool x1)] a ∧ Stw ⟨Y, [], w0⟩ [(b1, [.int .i64 p0.1, v1, v2])] [] w) ?_ ?_
 ·
  have H := G1
  clear G1 K1
  refine Ac ?_
  refine ls F W Aa (Ae F Aa).q fun a w F W => ?_
  refine ls F W Aa (Bq F Aa Aa).q fun a w F W => ?_
  refine ls F W Aa (Ae F Aa).q fun a w F W => ?_
  rcases Bool.eq_false_or_eq_true (decide (p2 < 0)) with hb | hb
  ·
   have H := AN (Bf hb) H
   rw [hb] at F
   clear hb
   iterate 4 refine BW F Aa Aa Aa Aa Aa Aa Aa fun a F => ?_
   refine ls F W Aa (An F Aa Aa Aa).q fun a w F W => ?_
   refine ls F W Aa (Ae F Aa).q fun a w F W => ?_
   iterate 2 refine BW F Aa Aa Aa Aa Aa Aa Aa fun a F => ?_
   refine ls F W Aa (An F Aa Aa Aa).q fun a w F W => ?_
   refine ls F W Aa (Ae F Aa).q fun a w F W => ?_
   iterate 7 refine BW F Aa Aa Aa Aa Aa Aa Aa fun a F => ?_
   refine ls F W Aa (An F Aa Aa Aa).q fun a w F W => ?_
   refine Ad (Ab ?_)
   exact ⟨_, H, F.re ⟨rfl, Aa, Aa, Aa, Aa, Aa, Aa, trivial⟩, W⟩
  have H := AM (Bg hb) H
  rw [hb] at F
  clear hb
  iterate 2 refine Au F W (Af F Aa Aa Aa Aa) Aa (Ak Aa) (Ae F Aa).q fun a w F W => ?_
  refine Au F W (Af F Aa Aa Aa Aa) Aa (Ak Aa) (A7 (r := (Rp.slice (Rp.int .i64))) (l := p1) Ik Aa F Aa (Bx Dc h1 (Aj h_v3))).q fun a w F W => ?_
  refine Au F W (Af F Aa Aa Aa Aa) Aa (Ak Aa) (DC F Aa Aa).q fun a w F W => ?_
  refine ls F W Aa (As F Aa Aa Aa).q fun a w F W => ?_
  refine ls F W Aa (Ae F Aa).q fun a w F W => ?_
  rcases Bool.eq_false_or_eq_true (decide ((p1.length : Int) ≤ p2)) with hb | hb
  ·
   have H := AN (Bf hb) H
   rw [hb] at F
   clear hb
   iterate 2 refine BW F Aa Aa Aa Aa Aa Aa Aa fun a F => ?_
   refine ls F W Aa (An F Aa Aa Aa).q fun a w F W => ?_
   refine ls F W Aa (Ae F Aa).q fun a w F W => ?_
   iterate 7 refine BW F Aa Aa Aa Aa Aa Aa Aa fun a F => ?_
   refine ls F W Aa (An F Aa Aa Aa).q fun a w F W => ?_
   refine Ad (Ab ?_)
   exact ⟨_, H, F.re ⟨rfl, Aa, Aa, Aa, Aa, Aa, Aa, trivial⟩, W⟩
  have H := AM (Bg hb) H
  rw [hb] at F
  clear hb
  refine Au F W (Af F Aa Aa Aa Aa) Aa (Ak Aa) (Ae F Aa).q fun a w F W => ?_
  refine Au F W (Af F Aa Aa Aa Aa) Aa (Ak Aa) (Bq F Aa Aa).q fun a w F W => ?_
  refine ls F W Aa (As F Aa Aa Aa).q fun a w F W => ?_
  refine ls F W Aa (Ae F Aa).q fun a w F W => ?_
  rcases Bool.eq_false_or_eq_true (decide (p3 < 0)) with hb | hb
  ·
   have H := AN (Bf hb) H
   rw [hb] at F
   clear hb
   iterate 7 refine BW F Aa Aa Aa Aa Aa Aa Aa fun a F => ?_
   refine ls F W Aa (An F Aa Aa Aa).q fun a w F W => ?_
   refine Ad (Ab ?_)
   exact ⟨_, H, F.re ⟨rfl, Aa, Aa, Aa, Aa, Aa, Aa, trivial⟩, W⟩
  have H := AM (Bg hb) H
  rw [hb] at F
  clear hb
  iterate 3 refine Au F W (Af F Aa Aa Aa Aa) Aa (Ak Aa) (Ae F Aa).q fun a w F W => ?_
  obtain ⟨x2, h2, H⟩ := Ao H
  obtain ⟨v5, h3, h4⟩ := DN h1 h2
  have h5 : Ez v5 = [(v5.1)] := congrArg (fun q : List Int => ([(v5.1)] : List Value)) h4
  refine Au F W (Af F Aa Aa Aa Aa) Aa (Ak Aa) (AJ (r := (Rp.vsl (Rp.int .i64))) Lw F Aa Aa (Aj h_v3) h3).q fun a w F W => ?_
  refine Au F W (Af F Aa Aa Aa Aa) Aa (Ak Aa) (Az (y := (v5.1)) (j := 0) (i := p2) (enc := Ez) F Aa Aa (Aj h_v3) h3 HL FZ (by rw [h5]; rfl)).q fun a w F W => ?_
  refine Au F W (Af F Aa Aa Aa Aa) Aa (Ak Aa) (A7 (r := (Rp.int .i64)) (l := x2) Fq Aa F Aa (CT (Aj h_v3) h3 Db.here (congrArg (fun q : List Int => q) h4))).q fun a w F W => ?_
  refine Au F W (Af F Aa Aa Aa Aa) Aa (Ak Aa) (DC F Aa Aa).q fun a w F W => ?_
  refine ls F W Aa (As F Aa Aa Aa).q fun a w F W => ?_
  refine Ad (Ab ?_)
  exact ⟨_, H, F.re ⟨rfl, Aa, Aa, Aa, Aa, Aa, Aa, trivial⟩, W⟩
 rintro a w ⟨x1, hj, F, W⟩
 have hj := AW hj
 subst hj
 have H := K1
 clear G1 K1
 refine Ay F Aa (fun hb => ?_) fun hb => ?_
 ·
  have H := AN hb H
  rw [hb] at F
  clear hb
  refine Ai (Ac ?_)
  iterate 2 refine ls F W Aa (Ah F Aa).q fun a w F W => ?_
  refine Ad (Ab (AA (AD ?_)))
  have H := AW H
  subst H
  refine Eb (.inl Aa) F W Aa (Ap F Aa) (Ap F Aa) ?_
  exact ⟨rfl, W.done⟩
 have H := AM (by rw [hb]; decide) H
 rw [hb] at F
 clear hb
 refine Aq (Ab (Ai ?_))
 refine Cv W MO (by kernel_rfl) ?_
 refine qs F Aa (Al (v := Value.agg #[.int .i64 p0.1, v1, v2]) 0 F Aa Aa G0 Aa).q fun a F => ?_
 iterate 3 refine qs F Aa (Ae F Aa).q fun a F => ?_
 obtain ⟨x3, h6, H⟩ := Ao H
 obtain ⟨v6, h7, h8⟩ := DN h1 h6
 have h9 : Ez v6 = [(v6.1)] := congrArg (fun q : List Int => ([(v6.1)] : List Value)) h8
 refine qs F Aa (AJ (r := (Rp.vsl (Rp.int .i64))) Lw F Aa Aa (Aj h_v3) h7).q fun a F => ?_
 refine qs F Aa (Az (y := (v6.1)) (j := 0) (i := p2) (enc := Ez) F Aa Aa (Aj h_v3) h7 HL FZ (by rw [h9]; rfl)).q fun a F => ?_
 refine qs F Aa (Ae F Aa).q fun a F => ?_
 obtain ⟨x4, h10, H⟩ := Ao H
 refine qs F Aa (AJ (r := (Rp.int .i64)) HV F Aa Aa (CT (Aj h_v3) h7 Db.here (congrArg (fun q : List Int => q) h8)) h10).q fun a F => ?_
 refine qs F Aa (Az (y := Value.int .i64 x4) (j := 0) (i := p3) F Aa Aa (CT (Aj h_v3) h7 Db.here (congrArg (fun q : List Int => q) h8)) h10 Fl.int.to T3 Aa).q fun a F => ?_
 obtain ⟨x5, h11, H⟩ := Ao H
 refine qs F Aa (BI (v := Value.tuple #[.int .i64 x5.1, .int .i64 x5.2.1, .int .i64 x5.2.2.1, .bool x5.2.2.2]) F Qc Aa (fun w W => J9 any w (v1) (v2) p0 p2 x4 _ h11 (((Aj h_v1) : CZ _ _ _ _ _ _) w W).nx (((Aj h_v2) : CZ _ _ _ _ _ _) w W).nx)) fun a F => ?_
 refine qs F Aa (Ae F Aa).q fun a F => ?_
 refine qs F Aa (AZ (v := Value.int .i64 x5.1) F Aa Aa).q fun a F => ?_
 refine qs F Aa (AZ (v := Value.int .i64 x5.2.1) F Aa Aa).q fun a F => ?_
 refine qs F Aa (AZ (v := Value.int .i64 x5.2.2.1) F Aa Aa).q fun a F => ?_
 refine qs F Aa (AZ (v := Value.bool x5.2.2.2) F Aa Aa).q fun a F => ?_
 iterate 4 refine qs F Aa (Ah F Aa).q fun a F => ?_
 refine BK fun w W => ?_
 refine Ab (Ai (Ac ?_))
 iterate 2 refine ls F W Aa (Ae F Aa).q fun a w F W => ?_
 iterate 2 refine ls F W Aa (Ah F Aa).q fun a w F W => ?_
 refine Ad (Ab (AA ?_))
 have H := AW H
 subst H
 refine Eb (.inl Aa) F W Aa (Ap F Aa) (Ap F Aa) ?_
 exact ⟨rfl, W.done⟩
theorem Qq : Has Try.prog 62 := ⟨fun args w => Am Try.func62 rfl (by decide) args w⟩
noncomputable def BC (p0 : List Int) (p1 : Int) : Int → Option (Int ⊕ (Unit ⊕ Bool))
  | x1 => (if x1 < (p0.length : Int) then (ix p0 x1).bind fun x2 => (if p1 = x2 then some (.inr (.inr true)) else some (.inl (DH (x1 + 1)))) else some (.inr (.inl ())))
noncomputable def BV (p0 : List Int) (p1 : Int) : Option Bool := D7 (AQ (BC p0 p1) 0) fun _ => some false
theorem F5 (Y : Nat → Prop) (w0 : World) (v1 : Value) (p0 : List Int) (p1 : Int) (r : Bool) (H : BV p0 p1 = some r) (h_v1 : Sl w0 (NX []) (Rp.int .i64) v1 p0) :
    Calls Try.prog 63 #[v1, .int .i64 p1] w0 fun e w' => e = .returned (.bool r) ∧ Below w0.heap.size w0 w' := by
 refine enter Try.func63 Aa Try.ntmps63 Aa fun a F => ?_
 have W := Stw.start Y w0
 unfold BV at H
 refine Ai (Ac ?_)
 refine ls F W Aa (Ah F Aa).q fun a w F W => ?_
 refine Ad (Ab ?_)
 obtain ⟨o1, G1, K1, L1⟩ := IY H
 refine AH (fun a w => some (Sum.inl ()) = some o1 ∧ Fr 17 [] [(4, .bool false)] a ∧ Stw ⟨Y, [], w0⟩ [] [] w) ?_ ?_
 ·
  have H := G1
  clear G1 K1
  refine Ai (Ac ?_)
  refine ls F W Aa (Ae F Aa).q fun a w F W => ?_
  refine ls F W Aa (A7 (r := (Rp.int .i64)) (l := p0) Fq Aa F Aa (Aj h_v1)).q fun a w F W => ?_
  refine ls F W Aa (Ae F Aa).q fun a w F W => ?_
  refine Ad (Ab (Aw ?_))
  refine Bv H (fun s a w => Fr 17 [] [(1, .int .i64 p1), (4, .bool false), (7, v1), (8, .int .i64 (p0.length : Int)), (9, .int .i64 s)] a ∧ Stw ⟨Y, [], w0⟩ [] [] w) ⟨F.re ⟨rfl, Aa, Aa, Aa, Aa, trivial⟩, W⟩ fun s o a w H L2 hR => ?_
  obtain ⟨x1, rfl⟩ : ∃ x, x = s := ⟨s, rfl⟩
  obtain ⟨F, W⟩ := hR
  have F : Fr 17 [] [(1, .int .i64 p1), (4, .bool false), (7, v1), (8, .int .i64 (p0.length : Int)), (9, .int .i64 x1)] a := F
  have W : Stw ⟨Y, [], w0⟩ [] [] w := W
  rw [BC] at H
  refine Ai (Ac ?_)
  refine ls F W Aa (Bq F Aa Aa).q fun a w F W => ?_
  refine Ad (Ab (Ai ?_))
  refine Ay F Aa (fun hb => ?_) fun hb => ?_
  ·
   have H := AN (Bf hb) H
   rw [hb] at F
   clear hb
   refine Aq (Ab (Ai (Aw (Ai (Ac ?_)))))
   obtain ⟨x2, h1, H⟩ := Ao H
   refine ls F W Aa (AJ (r := (Rp.int .i64)) HV F Aa Aa (Aj h_v1) h1).q fun a w F W => ?_
   refine ls F W Aa (Az (y := Value.int .i64 x2) (j := 0) (i := x1) F Aa Aa (Aj h_v1) h1 Fl.int.to T3 Aa).q fun a w F W => ?_
   refine ls F W Aa (Ah F Aa).q fun a w F W => ?_
   refine Ad (Ab (Ai (Ac ?_)))
   iterate 2 refine ls F W Aa (Ae F Aa).q fun a w F W => ?_
   refine ls F W Aa (BZ F Aa Aa).q fun a w F W => ?_
   refine Ad (Ab ?_)
   refine Ay F Aa (fun hb => ?_) fun hb => ?_
   ·
    have H := AN (Bf hb) H
    rw [hb] at F
    clear hb
    refine Ai (Ac ?_)
    refine ls F W Aa (Ah F Aa).q fun a w F W => ?_
    refine Ad (Ab (AA (AF ?_)))
    iterate 2 refine AD ?_
    refine AF (AD ?_)
    have H := L2 _ H
    have H := L1 _ H
    have H := AW H
    subst H
    refine A8 (.inl Aa) F W Aa (Ap F Aa) ?_
    exact ⟨rfl, W.done⟩
   have H := AM (Bg hb) H
   rw [hb] at F
   clear hb
   refine Aq (AK (Ab (Ac ?_)))
   refine ls F W Aa (Cq F Aa Aa Aa).q fun a w F W => ?_
   refine ls F W Aa (Ae F Aa).q fun a w F W => ?_
   refine Ad (Ab ?_)
   exact ⟨_, H, F.re ⟨rfl, Aa, Aa, Aa, Aa, trivial⟩, W⟩
  have H := AM (Bg hb) H
  rw [hb] at F
  clear hb
  refine Bk ?_
  iterate 2 refine BJ ?_
  refine Bl (Ab ?_)
  have H := L2 _ H
  exact ⟨H, F.re ⟨rfl, trivial⟩, W⟩
 rintro a w ⟨hj, F, W⟩
 have H := K1 _ hj
 clear hj G1 K1 L1
 refine Ai (Ac ?_)
 refine ls F W Aa (Ah F Aa).q fun a w F W => ?_
 refine Ad (Ab (AA ?_))
 have H := AW H
 subst H
 refine A8 (.inl Aa) F W Aa (Ap F Aa) ?_
 exact ⟨rfl, W.done⟩
theorem P1 : Has Try.prog 63 := ⟨fun args w => Am Try.func63 rfl (by decide) args w⟩
noncomputable def Ce (p0 : Int × (List (Int × Int × Int × Int × Int × Int)) × (List (Int × Int))) (p1 : List (List Int)) (p3 : Int) : (Int × List Int) → Option ((Int × List Int) ⊕ ((List Int) ⊕ (List Int × Int)))
  | (x2, x3) => (ix p1 x2).bind fun x4 => (ix x4 p3).bind fun x5 => (C2 p0 x2 x5).bind fun x6 => (if x6 ≠ p3 then (DK p0 p1 x2 p3).bind fun x7 => (if (!x7.2) = true then some (.inr (.inr (([] : List Int), 13))) else (BV x3 x7.1).bind fun x8 => (if x8 = true then some (.inr (.inr (([] : List Int), 12))) else (FR x3 ([x7.1] : List Int)).bind fun x9 => some (.inl (x7.1, x9)))) else some (.inr (.inl x3)))
noncomputable def DF (p0 : Int × (List (Int × Int × Int × Int × Int × Int)) × (List (Int × Int))) (p1 : List (List Int)) (p2 : Int) (p3 : Int) : Option (List Int × Int) := D7 (AQ (Ce p0 p1 p3) (p2, ([p2] : List Int))) fun x1 => some (x1, 0)
theorem Jz (Y : Nat → Prop) (w0 : World) (v1 : Value) (v2 : Value) (v3 : Value) (p0 : Int × (List (Int × Int × Int × Int × Int × Int)) × (List (Int × Int))) (p1 : List (List Int)) (p2 : Int) (p3 : Int) (r : List Int × Int) (H : DF p0 p1 p2 p3 = some r) (h_v1 : Sl w0 (NX []) CS v1 p0.2.1) (h_v2 : Sl w0 (NX []) Ec v2 p0.2.2) (h_v3 : Sl w0 (NX []) (Rp.slice (Rp.int .i64)) v3 p1) :
    Calls Try.prog 55 #[.agg #[.int .i64 p0.1, v1, v2], v3, .int .i64 p2, .int .i64 p3] w0 fun e w' => ∃ x : Value, e = .returned (.tuple #[x, .int .i64 r.2]) ∧ Stw ⟨Y, [], w0⟩ [] [row (x) 3 (Rp.int .i64) r.1] w' := by
 refine enter Try.func55 Aa Try.ntmps55 Aa fun a F => ?_
 have W := Stw.start Y w0
 obtain ⟨v4, h1, h_v3⟩ := h_v3.ex Dc
 unfold DF at H
 refine Ai (Ac ?_)
 refine B9 (cs := [.int .i64 p0.1, v1, v2]) F W Aa Aa Aa fun b1 a w F W => ?_
 iterate 2 refine ls F W Aa (Ah F Aa).q fun a w F W => ?_
 refine Ad (Ab (Ai (Ac ?_)))
 refine ls F W Aa (Ae F Aa).q fun a w F W => ?_
 refine C1 (z := Value.int .i64 0) (cs := [.int .i64 p2]) (Rp.int .i64) ([p2] : List Int) F W Aa HV Z3 Aa Aa Aa Aa Aa Aa (Fl.int.repL _ _ ([p2] : List Int)) fun v5 a w F W => ?_
 refine ls F W Aa (Ah F Aa).q fun a w F W => ?_
 refine Ad (Ab ?_)
 obtain ⟨o1, G1, K1, L1⟩ := IY H
 refine AH (fun a w => ∃ x1 : List Int, ∃ v6 : Value, some (Sum.inl x1) = some o1 ∧ Fr 46 [] [(8, .slice none 0 0), (9, .int .i64 0), (10, v6)] a ∧ Stw ⟨Y, [], w0⟩ [(b1, [.int .i64 p0.1, v1, v2])] [row v6 3 (Rp.int .i64) x1] w) ?_ ?_
 ·
  have H := G1
  clear G1 K1
  refine Aw ?_
  refine Bv H (fun s a w => ∃ v7 : Value, Fr 46 [] [(1, v3), (2, .int .i64 s.1), (3, .int .i64 p3), (4, .pointer (some ⟨b1, 0, none⟩)), (8, .slice none 0 0), (9, .int .i64 0), (10, v7)] a ∧ Stw ⟨Y, [], w0⟩ [(b1, [.int .i64 p0.1, v1, v2])] [row v7 3 (Rp.int .i64) s.2] w) ⟨(v5), F.re ⟨rfl, Aa, Aa, Aa, Aa, Aa, Aa, trivial⟩, W⟩ fun s o a w H L2 hR => ?_
  obtain ⟨x2, x3⟩ := s
  obtain ⟨v7, F, W⟩ := hR
  have F : Fr 46 [] [(1, v3), (2, .int .i64 x2), (3, .int .i64 p3), (4, .pointer (some ⟨b1, 0, none⟩)), (8, .slice none 0 0), (9, .int .i64 0), (10, v7)] a := F
  have W : Stw ⟨Y, [], w0⟩ [(b1, [.int .i64 p0.1, v1, v2])] [row v7 3 (Rp.int .i64) x3] w := W
  rw [Ce] at H
  iterate 2 refine Ai ?_
  refine Cv W MO (by kernel_rfl) ?_
  refine qs F Aa (Al (v := Value.agg #[.int .i64 p0.1, v1, v2]) 0 F Aa Aa G0 Aa).q fun a F => ?_
  iterate 3 refine qs F Aa (Ae F Aa).q fun a F => ?_
  obtain ⟨x4, h2, H⟩ := Ao H
  obtain ⟨v8, h3, h4⟩ := DN h1 h2
  have h5 : Ez v8 = [(v8.1)] := congrArg (fun q : List Int => ([(v8.1)] : List Value)) h4
  refine qs F Aa (AJ (r := (Rp.vsl (Rp.int .i64))) Lw F Aa Aa (Aj h_v3) h3).q fun a F => ?_
  refine qs F Aa (Az (y := (v8.1)) (j := 0) (i := x2) (enc := Ez) F Aa Aa (Aj h_v3) h3 HL FZ (by rw [h5]; rfl)).q fun a F => ?_
  refine qs F Aa (Ae F Aa).q fun a F => ?_
  obtain ⟨x5, h6, H⟩ := Ao H
  refine qs F Aa (AJ (r := (Rp.int .i64)) HV F Aa Aa (CT (Aj h_v3) h3 Db.here (congrArg (fun q : List Int => q) h4)) h6).q fun a F => ?_
  refine qs F Aa (Az (y := Value.int .i64 x5) (j := 0) (i := p3) F Aa Aa (CT (Aj h_v3) h3 Db.here (congrArg (fun q : List Int => q) h4)) h6 Fl.int.to T3 Aa).q fun a F => ?_
  obtain ⟨x6, h7, H⟩ := Ao H
  refine qs F Aa (BI (v := Value.int .i64 x6) F P9 Aa (fun w W => I0 any w (v1) (v2) p0 x2 x5 _ h7 (((Aj h_v1) : CZ _ _ _ _ _ _) w W).nx (((Aj h_v2) : CZ _ _ _ _ _ _) w W).nx)) fun a F => ?_
  refine qs F Aa (Ae F Aa).q fun a F => ?_
  refine qs F Aa (Fd F Aa Aa).q fun a F => ?_
  refine BK fun w W => ?_
  refine Ab ?_
  refine Ay F Aa (fun hb => ?_) fun hb => ?_
  ·
   have H := AN (Bf hb) H
   rw [hb] at F
   clear hb
   refine Aq (Ab (Aw (Ai (Ac ?_))))
   refine ls F W Aa (Al (v := Value.agg #[.int .i64 p0.1, v1, v2]) 0 F Aa Aa G0 Aa).q fun a w F W => ?_
   iterate 3 refine ls F W Aa (Ae F Aa).q fun a w F W => ?_
   obtain ⟨x7, h8, H⟩ := Ao H
   refine ls F W Aa (BI (v := Value.tuple #[.int .i64 x7.1, .bool x7.2]) F Qq Aa (fun w W => Jp any w (v1) (v2) (v3) p0 p1 x2 p3 _ h8 (((Aj h_v1) : CZ _ _ _ _ _ _) w W).nx (((Aj h_v2) : CZ _ _ _ _ _ _) w W).nx (((Bx Dc h1 (Aj h_v3)) : CZ _ _ _ _ _ _) w W).nx)) fun a w F W => ?_
   refine ls F W Aa (Ae F Aa).q fun a w F W => ?_
   refine ls F W Aa (AZ (v := Value.int .i64 x7.1) F Aa Aa).q fun a w F W => ?_
   refine ls F W Aa (AZ (v := Value.bool x7.2) F Aa Aa).q fun a w F W => ?_
   iterate 2 refine ls F W Aa (Ah F Aa).q fun a w F W => ?_
   refine Ad (Ab (Ai (Ai (Ac ?_))))
   refine ls F W Aa (Ae F Aa).q fun a w F W => ?_
   refine ls F W Aa (EJ F Aa).q fun a w F W => ?_
   refine Ad (Ab ?_)
   refine Ay F Aa (fun hb => ?_) fun hb => ?_
   ·
    have H := AN hb H
    rw [hb] at F
    clear hb
    refine Ai (Ac ?_)
    iterate 2 refine ls F W Aa (Ah F Aa).q fun a w F W => ?_
    refine Ad (Ab (AA (AD (AF (AD (AF (AD ?_)))))))
    have H := L2 _ H
    have H := L1 _ H
    have H := AW H
    subst H
    refine Eb (.inl Aa) F W Aa (Ap F Aa) (Ap F Aa) ?_
    have W := W.nilRow 3 (Rp.int .i64)
    have W := W.sub (M' := []) (Z' := [row (Value.slice none 0 0) 3 (Rp.int .i64) ([])]) (List.nil_sublist _) (List.Sublist.cons_cons _ (List.nil_sublist _))
    exact ⟨(Value.slice none 0 0), Aa, W⟩
   have H := AM (by rw [hb]; decide) H
   rw [hb] at F
   clear hb
   refine Aq (Ab (Ai (Ai (Ac ?_))))
   iterate 2 refine ls F W Aa (Ae F Aa).q fun a w F W => ?_
   obtain ⟨x8, h9, H⟩ := Ao H
   refine ls F W Aa (BI (v := Value.bool x8) F P1 Aa (fun w W => F5 any w (v7) x3 x7.1 _ h9 (((AP 0 Aa) : CZ _ _ _ _ _ _) w W).nx)) fun a w F W => ?_
   refine Ad (Ab ?_)
   refine Ay F Aa (fun hb => ?_) fun hb => ?_
   ·
    have H := AN hb H
    rw [hb] at F
    clear hb
    refine Ai (Ac ?_)
    iterate 2 refine ls F W Aa (Ah F Aa).q fun a w F W => ?_
    refine Ad (Ab (AA (AD (AF (AD (AF (AD ?_)))))))
    have H := L2 _ H
    have H := L1 _ H
    have H := AW H
    subst H
    refine Eb (.inl Aa) F W Aa (Ap F Aa) (Ap F Aa) ?_
    have W := W.nilRow 3 (Rp.int .i64)
    have W := W.sub (M' := []) (Z' := [row (Value.slice none 0 0) 3 (Rp.int .i64) ([])]) (List.nil_sublist _) (List.Sublist.cons_cons _ (List.nil_sublist _))
    exact ⟨(Value.slice none 0 0), Aa, W⟩
   have H := AM (by rw [hb]; decide) H
   rw [hb] at F
   clear hb
   refine Aq (Ab (Ai (Ac ?_)))
   iterate 2 refine ls F W Aa (Ae F Aa).q fun a w F W => ?_
   refine C1 (z := Value.int .i64 0) (cs := [.int .i64 x7.1]) (Rp.int .i64) ([x7.1] : List Int) F W Aa HV Z3 Aa Aa Aa Aa Aa Aa (Fl.int.repL _ _ ([x7.1] : List Int)) fun v9 a w F W => ?_
   obtain ⟨x9, h10, H⟩ := Ao H
   refine Cz (r := (Rp.int .i64)) (i := 1) F W Aa HV Aa Aa Aa Aa (C7 W 0 Aa) h10 Aa fun v10 a w F W => ?_
   have W : Stw ⟨Y, [], w0⟩ [(b1, [.int .i64 p0.1, v1, v2])] [row v10 3 (Rp.int .i64) x9, row v9 3 (Rp.int .i64) ([x7.1] : List Int)] w := W
   refine ls F W Aa (Ah F Aa).q fun a w F W => ?_
   refine Ad (Ab (Ac ?_))
   refine ls F W Aa (Ae F Aa).q fun a w F W => ?_
   refine ls F W Aa (Ah F Aa).q fun a w F W => ?_
   refine Ad (AK (Ab ?_))
   have W := W.sub (M' := [(b1, [.int .i64 p0.1, v1, v2])]) (Z' := [row v10 3 (Rp.int .i64) x9]) (List.Sublist.refl _) (List.Sublist.cons_cons _ (List.nil_sublist _))
   exact ⟨_, H, (v10), F.re ⟨rfl, Aa, Aa, Aa, Aa, Aa, Aa, trivial⟩, W⟩
  have H := AM (Bg hb) H
  rw [hb] at F
  clear hb
  refine Bk ?_
  iterate 2 refine BJ ?_
  refine Bl (Ab ?_)
  have H := L2 _ H
  exact ⟨_, (v7), H, F.re ⟨rfl, Aa, Aa, trivial⟩, W⟩
 rintro a w ⟨x1, v6, hj, F, W⟩
 have H := K1 _ hj
 clear hj G1 K1 L1
 refine Ai (Ac ?_)
 refine ls F W Aa (Ae F Aa).q fun a w F W => ?_
 iterate 2 refine ls F W Aa (Ah F Aa).q fun a w F W => ?_
 refine Ad (Ab (AA ?_))
 have H := AW H
 subst H
 refine Eb (.inl Aa) F W Aa (Ap F Aa) (Ap F Aa) ?_
 have W := W.sub (M' := []) (Z' := [row v6 3 (Rp.int .i64) x1]) (List.nil_sublist _) (List.Sublist.refl _)
 exact ⟨(v6), Aa, W⟩
theorem Qo : Has Try.prog 55 := ⟨fun args w => Am Try.func55 rfl (by decide) args w⟩
noncomputable def Ca (p0 : Int × (List (Int × Int × Int × Int × Int × Int)) × (List (Int × Int))) (p1 : List (List Int)) (p2 : Int) (p3 : Int) : Option (List Int × Int) := ((Dl p0 p1).bind fun x2 => (if (!x2) = true then some true else (if p2 < 0 then some true else (if p0.1 ≤ p2 then some true else (if p3 < 0 then some true else some (decide ((p0.2.2.length : Int) ≤ p3))))))).bind fun x1 => (if x1 = true then some (([] : List Int), 2) else (DF p0 p1 p2 p3).bind fun x3 => some (x3.1, x3.2))
theorem Jq (Y : Nat → Prop) (w0 : World) (v1 : Value) (v2 : Value) (v3 : Value) (p0 : Int × (List (Int × Int × Int × Int × Int × Int)) × (List (Int × Int))) (p1 : List (List Int)) (p2 : Int) (p3 : Int) (r : List Int × Int) (H : Ca p0 p1 p2 p3 = some r) (h_v1 : Sl w0 (NX []) CS v1 p0.2.1) (h_v2 : Sl w0 (NX []) Ec v2 p0.2.2) (h_v3 : Sl w0 (NX []) (Rp.slice (Rp.int .i64)) v3 p1) :
    Calls Try.prog 44 #[.agg #[.int .i64 p0.1, v1, v2], v3, .int .i64 p2, .int .i64 p3] w0 fun e w' => ∃ x : Value, e = .returned (.tuple #[x, .int .i64 r.2]) ∧ Stw ⟨Y, [], w0⟩ [] [row (x) 3 (Rp.int .i64) r.1] w' := by
 refine enter Try.func44 Aa Try.ntmps44 Aa fun a F => ?_
 have W := Stw.start Y w0
 obtain ⟨v4, h1, h_v3⟩ := h_v3.ex Dc
 unfold Ca at H
 refine Ai (Ac ?_)
 refine B9 (cs := [.int .i64 p0.1, v1, v2]) F W Aa Aa Aa fun b1 a w F W => ?_
 iterate 2 refine ls F W Aa (Ah F Aa).q fun a w F W => ?_
 refine Ad (Ab (Ai ?_))
 obtain ⟨o1, G1, K1⟩ := Ao H
 refine AH (fun a w => ∃ x1 : Bool, some (x1) = some o1 ∧ Fr 42 [] [(1, v3), (2, .int .i64 p2), (3, .int .i64 p3), (4, .pointer (some ⟨b1, 0, none⟩)), (8, .slice none 0 0), (9, .int .i64 0), (34, .bool x1)] a ∧ Stw ⟨Y, [], w0⟩ [(b1, [.int .i64 p0.1, v1, v2])] [] w) ?_ ?_
 ·
  have H := G1
  clear G1 K1
  refine Ac ?_
  refine ls F W Aa (Al (v := Value.agg #[.int .i64 p0.1, v1, v2]) 0 F Aa Aa G0 Aa).q fun a w F W => ?_
  refine ls F W Aa (Ae F Aa).q fun a w F W => ?_
  obtain ⟨x2, h2, H⟩ := Ao H
  refine ls F W Aa (BI (v := Value.bool x2) F PD Aa (fun w W => I4 any w (v1) (v2) (v3) p0 p1 _ h2 (((Aj h_v1) : CZ _ _ _ _ _ _) w W).nx (((Aj h_v2) : CZ _ _ _ _ _ _) w W).nx (((Bx Dc h1 (Aj h_v3)) : CZ _ _ _ _ _ _) w W).nx)) fun a w F W => ?_
  refine ls F W Aa (EJ F Aa).q fun a w F W => ?_
  refine ls F W Aa (Ae F Aa).q fun a w F W => ?_
  rcases Bool.eq_false_or_eq_true (!x2) with hb | hb
  ·
   have H := AN hb H
   rw [hb] at F
   clear hb
   iterate 2 refine BW F Aa Aa Aa Aa Aa Aa Aa fun a F => ?_
   refine ls F W Aa (An F Aa Aa Aa).q fun a w F W => ?_
   refine ls F W Aa (Ae F Aa).q fun a w F W => ?_
   iterate 4 refine BW F Aa Aa Aa Aa Aa Aa Aa fun a F => ?_
   refine ls F W Aa (An F Aa Aa Aa).q fun a w F W => ?_
   refine ls F W Aa (Ae F Aa).q fun a w F W => ?_
   iterate 2 refine BW F Aa Aa Aa Aa Aa Aa Aa fun a F => ?_
   refine ls F W Aa (An F Aa Aa Aa).q fun a w F W => ?_
   refine ls F W Aa (Ae F Aa).q fun a w F W => ?_
   iterate 5 refine BW F Aa Aa Aa Aa Aa Aa Aa fun a F => ?_
   refine ls F W Aa (An F Aa Aa Aa).q fun a w F W => ?_
   refine Ad (Ab ?_)
   exact ⟨_, H, F.re ⟨rfl, Aa, Aa, Aa, Aa, Aa, Aa, trivial⟩, W⟩
  have H := AM (by rw [hb]; decide) H
  rw [hb] at F
  clear hb
  refine Au F W (Af F Aa Aa Aa Aa) Aa (Ak Aa) (Ae F Aa).q fun a w F W => ?_
  refine Au F W (Af F Aa Aa Aa Aa) Aa (Ak Aa) (Bq F Aa Aa).q fun a w F W => ?_
  refine ls F W Aa (As F Aa Aa Aa).q fun a w F W => ?_
  refine ls F W Aa (Ae F Aa).q fun a w F W => ?_
  rcases Bool.eq_false_or_eq_true (decide (p2 < 0)) with hb | hb
  ·
   have H := AN (Bf hb) H
   rw [hb] at F
   clear hb
   iterate 4 refine BW F Aa Aa Aa Aa Aa Aa Aa fun a F => ?_
   refine ls F W Aa (An F Aa Aa Aa).q fun a w F W => ?_
   refine ls F W Aa (Ae F Aa).q fun a w F W => ?_
   iterate 2 refine BW F Aa Aa Aa Aa Aa Aa Aa fun a F => ?_
   refine ls F W Aa (An F Aa Aa Aa).q fun a w F W => ?_
   refine ls F W Aa (Ae F Aa).q fun a w F W => ?_
   iterate 5 refine BW F Aa Aa Aa Aa Aa Aa Aa fun a F => ?_
   refine ls F W Aa (An F Aa Aa Aa).q fun a w F W => ?_
   refine Ad (Ab ?_)
   exact ⟨_, H, F.re ⟨rfl, Aa, Aa, Aa, Aa, Aa, Aa, trivial⟩, W⟩
  have H := AM (Bg hb) H
  rw [hb] at F
  clear hb
  refine Au F W (Af F Aa Aa Aa Aa) Aa (Ak Aa) (Ae F Aa).q fun a w F W => ?_
  refine Au F W (Af F Aa Aa Aa Aa) Aa (Ak Aa) (Ag CJ Aa Aa Aa T3 F Aa 0 Aa).q fun a w F W => ?_
  refine Au F W (Af F Aa Aa Aa Aa) Aa (Ak Aa) (Al (v := Value.int .i64 p0.1) 0 F Aa Aa T3 Aa).q fun a w F W => ?_
  refine Au F W (Af F Aa Aa Aa Aa) Aa (Ak Aa) (DC F Aa Aa).q fun a w F W => ?_
  refine ls F W Aa (As F Aa Aa Aa).q fun a w F W => ?_
  refine ls F W Aa (Ae F Aa).q fun a w F W => ?_
  rcases Bool.eq_false_or_eq_true (decide (p0.1 ≤ p2)) with hb | hb
  ·
   have H := AN (Bf hb) H
   rw [hb] at F
   clear hb
   iterate 2 refine BW F Aa Aa Aa Aa Aa Aa Aa fun a F => ?_
   refine ls F W Aa (An F Aa Aa Aa).q fun a w F W => ?_
   refine ls F W Aa (Ae F Aa).q fun a w F W => ?_
   iterate 5 refine BW F Aa Aa Aa Aa Aa Aa Aa fun a F => ?_
   refine ls F W Aa (An F Aa Aa Aa).q fun a w F W => ?_
   refine Ad (Ab ?_)
   exact ⟨_, H, F.re ⟨rfl, Aa, Aa, Aa, Aa, Aa, Aa, trivial⟩, W⟩
  have H := AM (Bg hb) H
  rw [hb] at F
  clear hb
  refine Au F W (Af F Aa Aa Aa Aa) Aa (Ak Aa) (Ae F Aa).q fun a w F W => ?_
  refine Au F W (Af F Aa Aa Aa Aa) Aa (Ak Aa) (Bq F Aa Aa).q fun a w F W => ?_
  refine ls F W Aa (As F Aa Aa Aa).q fun a w F W => ?_
  refine ls F W Aa (Ae F Aa).q fun a w F W => ?_
  rcases Bool.eq_false_or_eq_true (decide (p3 < 0)) with hb | hb
  ·
   have H := AN (Bf hb) H
   rw [hb] at F
   clear hb
   iterate 5 refine BW F Aa Aa Aa Aa Aa Aa Aa fun a F => ?_
   refine ls F W Aa (An F Aa Aa Aa).q fun a w F W => ?_
   refine Ad (Ab ?_)
   exact ⟨_, H, F.re ⟨rfl, Aa, Aa, Aa, Aa, Aa, Aa, trivial⟩, W⟩
  have H := AM (Bg hb) H
  rw [hb] at F
  clear hb
  refine Au F W (Af F Aa Aa Aa Aa) Aa (Ak Aa) (Ae F Aa).q fun a w F W => ?_
  refine Au F W (Af F Aa Aa Aa Aa) Aa (Ak Aa) (Ag CJ Aa Aa Aa FW F Aa 2 Aa).q fun a w F W => ?_
  refine Au F W (Af F Aa Aa Aa Aa) Aa (Ak Aa) (Al (v := v2) 0 F Aa Aa FW Aa).q fun a w F W => ?_
  refine Au F W (Af F Aa Aa Aa Aa) Aa (Ak Aa) (A7 (r := Ec) (l := p0.2.2) GW Aa F Aa (Aj h_v2)).q fun a w F W => ?_
  refine Au F W (Af F Aa Aa Aa Aa) Aa (Ak Aa) (DC F Aa Aa).q fun a w F W => ?_
  refine ls F W Aa (As F Aa Aa Aa).q fun a w F W => ?_
  refine Ad (Ab ?_)
  exact ⟨_, H, F.re ⟨rfl, Aa, Aa, Aa, Aa, Aa, Aa, trivial⟩, W⟩
 rintro a w ⟨x1, hj, F, W⟩
 have hj := AW hj
 subst hj
 have H := K1
 clear G1 K1
 refine Ay F Aa (fun hb => ?_) fun hb => ?_
 ·
  have H := AN hb H
  rw [hb] at F
  clear hb
  refine Ai (Ac ?_)
  iterate 2 refine ls F W Aa (Ah F Aa).q fun a w F W => ?_
  refine Ad (Ab (AA (AD ?_)))
  have H := AW H
  subst H
  refine Eb (.inl Aa) F W Aa (Ap F Aa) (Ap F Aa) ?_
  have W := W.nilRow 3 (Rp.int .i64)
  have W := W.sub (M' := []) (Z' := [row (Value.slice none 0 0) 3 (Rp.int .i64) ([])]) (List.nil_sublist _) (List.Sublist.refl _)
  exact ⟨(Value.slice none 0 0), Aa, W⟩
 have H := AM (by rw [hb]; decide) H
 rw [hb] at F
 clear hb
 refine Aq (Ab (Ai (Ac ?_)))
 refine ls F W Aa (Al (v := Value.agg #[.int .i64 p0.1, v1, v2]) 0 F Aa Aa G0 Aa).q fun a w F W => ?_
 iterate 3 refine ls F W Aa (Ae F Aa).q fun a w F W => ?_
 obtain ⟨x3, h3, H⟩ := Ao H
 refine Cf (Ml := []) (Zl := []) (M := [(b1, [.int .i64 p0.1, v1, v2])]) (Z := []) (β := Value) (rv := fun x => .tuple #[x, .int .i64 x3.2]) (MM := fun x => []) (ZZ := fun x => [row x 3 (Rp.int .i64) x3.1]) F W Qo Aa Aa (fun hL => Jz _ w (v1) (v2) (v3) p0 p1 p2 p3 _ h3 ((Aj h_v1) w W).nx ((Aj h_v2) w W).nx ((Bx Dc h1 (Aj h_v3)) w W).nx) fun x a w F W => ?_
 obtain ⟨v5, rfl⟩ : ∃ y, y = x := ⟨x, rfl⟩
 have W : Stw ⟨Y, [], w0⟩ [(b1, [.int .i64 p0.1, v1, v2])] [row v5 3 (Rp.int .i64) x3.1] w := W
 refine ls F W Aa (AZ (v := v5) F Aa Aa).q fun a w F W => ?_
 refine ls F W Aa (AZ (v := Value.int .i64 x3.2) F Aa Aa).q fun a w F W => ?_
 iterate 2 refine ls F W Aa (Ah F Aa).q fun a w F W => ?_
 refine Ad (Ab (AA ?_))
 have H := AW H
 subst H
 refine Eb (.inl Aa) F W Aa (Ap F Aa) (Ap F Aa) ?_
 have W := W.sub (M' := []) (Z' := [row v5 3 (Rp.int .i64) x3.1]) (List.nil_sublist _) (List.Sublist.refl _)
 exact ⟨(v5), Aa, W⟩
theorem Qs : Has Try.prog 44 := ⟨fun args w => Am Try.func44 rfl (by decide) args w⟩
noncomputable def Bd (p0 : List Int) (p1 : List Int) : Int → Option (Int ⊕ (Unit ⊕ Bool))
  | x1 => (if x1 < (p0.length : Int) then (ix p0 x1).bind fun x2 => (ix p1 x1).bind fun x3 => (if x2 ≠ x3 then some (.inr (.inr false)) else some (.inl (DH (x1 + 1)))) else some (.inr (.inl ())))
noncomputable def BH (p0 : List Int) (p1 : List Int) : Option Bool := (if (p0.length : Int) ≠ (p1.length : Int) then some false else D7 (AQ (Bd p0 p1) 0) fun _ => some true)
theorem FG (Y : Nat → Prop) (w0 : World) (v1 : Value) (v2 : Value) (p0 : List Int) (p1 : List Int) (r : Bool) (H : BH p0 p1 = some r) (h_v1 : Sl w0 (NX []) (Rp.int .i64) v1 p0) (h_v2 : Sl w0 (NX []) (Rp.int .i64) v2 p1) :
    Calls Try.prog 45 #[v1, v2] w0 fun e w' => e = .returned (.bool r) ∧ Below w0.heap.size w0 w' := by
 refine enter Try.func45 Aa Try.ntmps45 Aa fun a F => ?_
 have W := Stw.start Y w0
 unfold BH at H
 refine Ai (Ac ?_)
 refine ls F W Aa (Ah F Aa).q fun a w F W => ?_
 refine Ad (Ab (Ai (Ai (Ac ?_))))
 refine ls F W Aa (Ae F Aa).q fun a w F W => ?_
 refine ls F W Aa (A7 (r := (Rp.int .i64)) (l := p0) Fq Aa F Aa (Aj h_v1)).q fun a w F W => ?_
 refine ls F W Aa (Ae F Aa).q fun a w F W => ?_
 refine ls F W Aa (A7 (r := (Rp.int .i64)) (l := p1) Fq Aa F Aa (Aj h_v2)).q fun a w F W => ?_
 refine ls F W Aa (Fd F Aa Aa).q fun a w F W => ?_
 refine Ad (Ab ?_)
 refine Ay F Aa (fun hb => ?_) fun hb => ?_
 ·
  have H := AN (Bf hb) H
  rw [hb] at F
  clear hb
  refine Ai (Ac ?_)
  refine ls F W Aa (Ah F Aa).q fun a w F W => ?_
  refine Ad (Ab (AA (AD ?_)))
  have H := AW H
  subst H
  refine A8 (.inl Aa) F W Aa (Ap F Aa) ?_
  exact ⟨rfl, W.done⟩
 have H := AM (Bg hb) H
 rw [hb] at F
 clear hb
 refine Aq (Ab ?_)
 obtain ⟨o1, G1, K1, L1⟩ := IY H
 refine AH (fun a w => some (Sum.inl ()) = some o1 ∧ Fr 26 [] [(4, .bool false)] a ∧ Stw ⟨Y, [], w0⟩ [] [] w) ?_ ?_
 ·
  have H := G1
  clear G1 K1
  refine Ai (Ac ?_)
  refine ls F W Aa (Ae F Aa).q fun a w F W => ?_
  refine ls F W Aa (A7 (r := (Rp.int .i64)) (l := p0) Fq Aa F Aa (Aj h_v1)).q fun a w F W => ?_
  refine ls F W Aa (Ae F Aa).q fun a w F W => ?_
  refine Ad (Ab (Aw ?_))
  refine Bv H (fun s a w => Fr 26 [] [(0, v1), (1, v2), (4, .bool false), (12, .int .i64 (p0.length : Int)), (13, .int .i64 s)] a ∧ Stw ⟨Y, [], w0⟩ [] [] w) ⟨F.re ⟨rfl, Aa, Aa, Aa, Aa, trivial⟩, W⟩ fun s o a w H L2 hR => ?_
  obtain ⟨x1, rfl⟩ : ∃ x, x = s := ⟨s, rfl⟩
  obtain ⟨F, W⟩ := hR
  have F : Fr 26 [] [(0, v1), (1, v2), (4, .bool false), (12, .int .i64 (p0.length : Int)), (13, .int .i64 x1)] a := F
  have W : Stw ⟨Y, [], w0⟩ [] [] w := W
  rw [Bd] at H
  refine Ai (Ac ?_)
  refine ls F W Aa (Bq F Aa Aa).q fun a w F W => ?_
  refine Ad (Ab (Ai ?_))
  refine Ay F Aa (fun hb => ?_) fun hb => ?_
  ·
   have H := AN (Bf hb) H
   rw [hb] at F
   clear hb
   refine Aq (Ab (Ai (Aw (Ai (Ac ?_)))))
   refine ls F W Aa (Ae F Aa).q fun a w F W => ?_
   refine ls F W Aa (Ah F Aa).q fun a w F W => ?_
   refine Ad (Ab (Ai ?_))
   refine Cv W MO (by kernel_rfl) ?_
   iterate 2 refine qs F Aa (Ae F Aa).q fun a F => ?_
   obtain ⟨x2, h1, H⟩ := Ao H
   refine qs F Aa (AJ (r := (Rp.int .i64)) HV F Aa Aa (Aj h_v1) h1).q fun a F => ?_
   refine qs F Aa (Az (y := Value.int .i64 x2) (j := 0) (i := x1) F Aa Aa (Aj h_v1) h1 Fl.int.to T3 Aa).q fun a F => ?_
   iterate 2 refine qs F Aa (Ae F Aa).q fun a F => ?_
   obtain ⟨x3, h2, H⟩ := Ao H
   refine qs F Aa (AJ (r := (Rp.int .i64)) HV F Aa Aa (Aj h_v2) h2).q fun a F => ?_
   refine qs F Aa (Az (y := Value.int .i64 x3) (j := 0) (i := x1) F Aa Aa (Aj h_v2) h2 Fl.int.to T3 Aa).q fun a F => ?_
   refine qs F Aa (Fd F Aa Aa).q fun a F => ?_
   refine BK fun w W => ?_
   refine Ab ?_
   refine Ay F Aa (fun hb => ?_) fun hb => ?_
   ·
    have H := AN (Bf hb) H
    rw [hb] at F
    clear hb
    refine Ai (Ac ?_)
    refine ls F W Aa (Ah F Aa).q fun a w F W => ?_
    refine Ad (Ab (AA (AF ?_)))
    iterate 2 refine AD ?_
    refine AF (AD ?_)
    have H := L2 _ H
    have H := L1 _ H
    have H := AW H
    subst H
    refine A8 (.inl Aa) F W Aa (Ap F Aa) ?_
    exact ⟨rfl, W.done⟩
   have H := AM (Bg hb) H
   rw [hb] at F
   clear hb
   refine Aq (AK (Ab (Ac ?_)))
   refine ls F W Aa (Cq F Aa Aa Aa).q fun a w F W => ?_
   refine ls F W Aa (Ae F Aa).q fun a w F W => ?_
   refine Ad (Ab ?_)
   exact ⟨_, H, F.re ⟨rfl, Aa, Aa, Aa, Aa, trivial⟩, W⟩
  have H := AM (Bg hb) H
  rw [hb] at F
  clear hb
  refine Bk ?_
  iterate 2 refine BJ ?_
  refine Bl (Ab ?_)
  have H := L2 _ H
  exact ⟨H, F.re ⟨rfl, trivial⟩, W⟩
 rintro a w ⟨hj, F, W⟩
 have H := K1 _ hj
 clear hj G1 K1 L1
 refine Ai (Ac ?_)
 refine ls F W Aa (Ah F Aa).q fun a w F W => ?_
 refine Ad (Ab (AA ?_))
 have H := AW H
 subst H
 refine A8 (.inl Aa) F W Aa (Ap F Aa) ?_
 exact ⟨rfl, W.done⟩
theorem P7 : Has Try.prog 45 := ⟨fun args w => Am Try.func45 rfl (by decide) args w⟩
noncomputable def BS (p0 : Int × (List (Int × Int × Int × Int × Int × Int)) × (List (Int × Int))) (p1 : List (List (List Int))) (p2 : Int) (p3 : Int × Int × Int × Int × List Int × Int × Int × Int) : Option Bool := (if (decide (p2 < 0) || decide ((p1.length : Int) ≤ p2)) = true then some false else (ix p1 p2).bind fun x1 => (ix p3.2.2.2.2.1 0).bind fun x2 => (Ca p0 x1 x2 p3.2.2.1).bind fun x3 => (if x3.2 ≠ 0 then some false else (if (decide (p3.2.2.2.2.2.1 = 0) && decide ((p3.2.2.2.2.1.length : Int) < (x3.1.length : Int))) = true then (Hc x3.1 0 (p3.2.2.2.2.1.length : Int)).bind fun x5 => some x5 else some x3.1).bind fun x4 => (BH p3.2.2.2.2.1 x4).bind fun x6 => some x6))
theorem HR (Y : Nat → Prop) (w0 : World) (v1 : Value) (v2 : Value) (v3 : Value) (v4 : Value) (p0 : Int × (List (Int × Int × Int × Int × Int × Int)) × (List (Int × Int))) (p1 : List (List (List Int))) (p2 : Int) (p3 : Int × Int × Int × Int × List Int × Int × Int × Int) (r : Bool) (H : BS p0 p1 p2 p3 = some r) (h_v1 : Sl w0 (NX []) CS v1 p0.2.1) (h_v2 : Sl w0 (NX []) Ec v2 p0.2.2) (h_v3 : Sl w0 (NX []) (Rp.slice (Rp.slice (Rp.int .i64))) v3 p1) (h_v4 : Sl w0 (NX []) (Rp.int .i64) v4 p3.2.2.2.2.1) :
    Calls Try.prog 31 #[.agg #[.int .i64 p0.1, v1, v2], v3, .int .i64 p2, .agg #[.int .i64 p3.1, .int .i64 p3.2.1, .int .i64 p3.2.2.1, .int .i64 p3.2.2.2.1, v4, .int .i64 p3.2.2.2.2.2.1, .int .i64 p3.2.2.2.2.2.2.1, .int .i64 p3.2.2.2.2.2.2.2]] w0 fun e w' => e = .returned (.bool r) ∧ Below w0.heap.size w0 w' := by
 refine enter Try.func31 Aa Try.ntmps31 Aa fun a F => ?_
 have W := Stw.start Y w0
 obtain ⟨v5, h1, h_v3⟩ := h_v3.ex Nt
 unfold BS at H
 refine Ai (Ac ?_)
 refine B9 (cs := [.int .i64 p0.1, v1, v2]) F W Aa Aa Aa fun b1 a w F W => ?_
 refine B9 (cs := [.int .i64 p3.1, .int .i64 p3.2.1, .int .i64 p3.2.2.1, .int .i64 p3.2.2.2.1, v4, .int .i64 p3.2.2.2.2.2.1, .int .i64 p3.2.2.2.2.2.2.1, .int .i64 p3.2.2.2.2.2.2.2]) F W Aa Aa Aa fun b2 a w F W => ?_
 refine ls F W Aa (Ah F Aa).q fun a w F W => ?_
 refine Ad (Ab (Ai ?_))
 refine AH (fun a w => Fr 56 [] [(1, v3), (2, .int .i64 p2), (4, .pointer (some ⟨b1, 0, none⟩)), (7, .pointer (some ⟨b2, 0, none⟩)), (8, .bool false), (18, .bool (decide (p2 < 0) || decide ((p1.length : Int) ≤ p2)))] a ∧ Stw ⟨Y, [], w0⟩ [(b2, [.int .i64 p3.1, .int .i64 p3.2.1, .int .i64 p3.2.2.1, .int .i64 p3.2.2.2.1, v4, .int .i64 p3.2.2.2.2.2.1, .int .i64 p3.2.2.2.2.2.2.1, .int .i64 p3.2.2.2.2.2.2.2]), (b1, [.int .i64 p0.1, v1, v2])] [] w) ?_ ?_
 ·
  refine Ac ?_
  refine ls F W Aa (Ae F Aa).q fun a w F W => ?_
  refine ls F W Aa (Bq F Aa Aa).q fun a w F W => ?_
  refine ls F W Aa (Ae F Aa).q fun a w F W => ?_
  rcases Bool.eq_false_or_eq_true (decide (p2 < 0)) with hb0 | hb0
  ·
   rw [hb0] at F
   iterate 4 refine BW F Aa Aa Aa Aa Aa Aa Aa fun a F => ?_
   refine ls F W Aa (An F Aa Aa Aa).q fun a w F W => ?_
   refine Ad (Ab ?_)
   exact ⟨F.re ⟨rfl, Aa, Aa, Aa, Aa, (by show some (Value.bool true) = some (Value.bool (decide (p2 < 0) || decide ((p1.length : Int) ≤ p2))); try rw [hb0]; all_goals simp only [Bool.not_true, Bool.not_false, Bool.true_and, Bool.false_and, Bool.true_or, Bool.false_or, Bool.and_true, Bool.or_false, cond_true, cond_false]), trivial⟩, W⟩
  rw [hb0] at F
  iterate 2 refine Au F W (Af F Aa Aa Aa Aa) Aa (Ak Aa) (Ae F Aa).q fun a w F W => ?_
  refine Au F W (Af F Aa Aa Aa Aa) Aa (Ak Aa) (A7 (r := (Rp.slice (Rp.slice (Rp.int .i64)))) (l := p1) OL Aa F Aa (Bx Nt h1 (Aj h_v3))).q fun a w F W => ?_
  refine Au F W (Af F Aa Aa Aa Aa) Aa (Ak Aa) (DC F Aa Aa).q fun a w F W => ?_
  refine ls F W Aa (As F Aa Aa Aa).q fun a w F W => ?_
  refine Ad (Ab ?_)
  exact ⟨F.re ⟨rfl, Aa, Aa, Aa, Aa, (by show some (Value.bool (decide ((p1.length : Int) ≤ p2))) = some (Value.bool (decide (p2 < 0) || decide ((p1.length : Int) ≤ p2))); try rw [hb0]; all_goals simp only [Bool.not_true, Bool.not_false, Bool.true_and, Bool.false_and, Bool.true_or, Bool.false_or, Bool.and_true, Bool.or_false, cond_true, cond_false]), trivial⟩, W⟩
 rintro a w ⟨F, W⟩
 refine Ay F Aa (fun hb => ?_) fun hb => ?_
 ·
  have H := AN hb H
  rw [hb] at F
  clear hb
  refine Ai (Ac ?_)
  refine ls F W Aa (Ah F Aa).q fun a w F W => ?_
  refine Ad (Ab (AA (AD ?_)))
  have H := AW H
  subst H
  refine A8 (.inl Aa) F W Aa (Ap F Aa) ?_
  exact ⟨rfl, W.done⟩
 have H := AM (by rw [hb]; decide) H
 rw [hb] at F
 clear hb
 refine Aq (Ab (Ai ?_))
 refine Gc [(true, 0), (true, 1), (true, 2), (true, 3), (true, 4), (true, 5), (true, 6), (true, 7), (true, 8), (true, 9), (true, 10), (false, 11), (true, 12), (true, 13), (true, 14), (false, 15), (false, 16)] (CN ⟨Y, [], w0⟩ [(some 11, b1, [.int .i64 p0.1, v1, v2]), (some 11, b2, [.int .i64 p3.1, .int .i64 p3.2.1, .int .i64 p3.2.2.1, .int .i64 p3.2.2.2.1, v4, .int .i64 p3.2.2.2.2.2.1, .int .i64 p3.2.2.2.2.2.2.1, .int .i64 p3.2.2.2.2.2.2.2])] []) (fun ch a d v w h => by cases d <;> exact h) MO (by kernel_rfl) W (fun w W => ⟨_, _, W, (all_cons (fun _ => (.tail _ (.head _))) (all_cons (fun _ => (.head _)) AX)), AX⟩) fun w W => ?_
 refine Cd (R := [11]) F Aa Aa (yC fun M Z hN hZ => CK (cs := [.int .i64 p0.1, v1, v2]) (v := Value.agg #[.int .i64 p0.1, v1, v2]) F Aa (hN ((some 11), b1, [.int .i64 p0.1, v1, v2]) (.head _) Aa) G0 Aa) (by kernel_rfl) Aa fun a F => ?_
 iterate 2 refine Cd (R := []) F Aa Aa (yC fun M Z hN hZ => Ae F Aa) Aa Aa fun a F => ?_
 obtain ⟨x1, h2, H⟩ := Ao H
 obtain ⟨v6, h3, h4⟩ := DN h1 h2
 have h5 : N6 v6 = [(v6.1)] := congrArg (fun q : List (List Int) => ([(v6.1)] : List Value)) h4
 refine Cd (R := []) F Aa Aa (yC fun M Z hN hZ => AJ (r := (Rp.vsl (Rp.vsl (Rp.int .i64)))) Ol F Aa Aa (Aj h_v3) h3) Aa Aa fun a F => ?_
 refine Cd (R := []) F Aa Aa (yC fun M Z hN hZ => Az (y := (v6.1)) (j := 0) (i := p2) (enc := N6) F Aa Aa (Aj h_v3) h3 OS Qz (by rw [h5]; rfl)) Aa Aa fun a F => ?_
 refine Cd (R := []) F Aa Aa (yC fun M Z hN hZ => Ag Ew Aa Aa Aa FZ F Aa 4 Aa) Aa Aa fun a F => ?_
 refine Cd (R := [11, 8, 7]) F Aa Aa (yC fun M Z hN hZ => CK (cs := [.int .i64 p3.1, .int .i64 p3.2.1, .int .i64 p3.2.2.1, .int .i64 p3.2.2.2.1, v4, .int .i64 p3.2.2.2.2.2.1, .int .i64 p3.2.2.2.2.2.2.1, .int .i64 p3.2.2.2.2.2.2.2]) (v := v4) F Aa (hN ((some 11), b2, [.int .i64 p3.1, .int .i64 p3.2.1, .int .i64 p3.2.2.1, .int .i64 p3.2.2.2.1, v4, .int .i64 p3.2.2.2.2.2.1, .int .i64 p3.2.2.2.2.2.2.1, .int .i64 p3.2.2.2.2.2.2.2]) (.tail _ (.head _)) Aa) FZ Aa) (by kernel_rfl) Aa fun a F => ?_
 obtain ⟨x2, h6, H⟩ := Ao H
 refine Cd (R := []) F Aa Aa (yC fun M Z hN hZ => AJ (r := (Rp.int .i64)) HV F Aa Aa (Aj h_v4) h6) Aa Aa fun a F => ?_
 refine Cd (R := []) F Aa Aa (yC fun M Z hN hZ => Az (y := Value.int .i64 x2) (j := 0) (i := 0) F Aa Aa (Aj h_v4) h6 Fl.int.to T3 Aa) Aa Aa fun a F => ?_
 refine Cd (R := []) F Aa Aa (yC fun M Z hN hZ => Ag Ew Aa Aa Aa T3 F Aa 2 Aa) Aa Aa fun a F => ?_
 refine Cd (R := [11]) F Aa Aa (yC fun M Z hN hZ => CK (cs := [.int .i64 p3.1, .int .i64 p3.2.1, .int .i64 p3.2.2.1, .int .i64 p3.2.2.2.1, v4, .int .i64 p3.2.2.2.2.2.1, .int .i64 p3.2.2.2.2.2.2.1, .int .i64 p3.2.2.2.2.2.2.2]) (v := Value.int .i64 p3.2.2.1) F Aa (hN ((some 11), b2, [.int .i64 p3.1, .int .i64 p3.2.1, .int .i64 p3.2.2.1, .int .i64 p3.2.2.2.1, v4, .int .i64 p3.2.2.2.2.2.1, .int .i64 p3.2.2.2.2.2.2.1, .int .i64 p3.2.2.2.2.2.2.2]) (.tail _ (.head _)) Aa) T3 Aa) (by kernel_rfl) Aa fun a F => ?_
 refine FN Aa ?_
 obtain ⟨x3, h7, H⟩ := Ao H
 refine Cf (Ml := []) (Zl := []) (M := [(b2, [.int .i64 p3.1, .int .i64 p3.2.1, .int .i64 p3.2.2.1, .int .i64 p3.2.2.2.1, v4, .int .i64 p3.2.2.2.2.2.1, .int .i64 p3.2.2.2.2.2.2.1, .int .i64 p3.2.2.2.2.2.2.2]), (b1, [.int .i64 p0.1, v1, v2])]) (Z := []) (β := Value) (rv := fun x => .tuple #[x, .int .i64 x3.2]) (MM := fun x => []) (ZZ := fun x => [row x 3 (Rp.int .i64) x3.1]) F W Qs Aa Aa (fun hL => Jq _ w (v1) (v2) ((v6.1)) p0 x1 x2 p3.2.2.1 _ h7 ((Aj h_v1) w W).nx ((Aj h_v2) w W).nx ((Bx Dc (congrArg (fun q : List (List Int) => q) h4) (CT (Aj h_v3) h3 Db.here Aa)) w W).nx) fun x a w F W => ?_
 obtain ⟨v7, rfl⟩ : ∃ y, y = x := ⟨x, rfl⟩
 have W : Stw ⟨Y, [], w0⟩ [(b2, [.int .i64 p3.1, .int .i64 p3.2.1, .int .i64 p3.2.2.1, .int .i64 p3.2.2.2.1, v4, .int .i64 p3.2.2.2.2.2.1, .int .i64 p3.2.2.2.2.2.2.1, .int .i64 p3.2.2.2.2.2.2.2]), (b1, [.int .i64 p0.1, v1, v2])] [row v7 3 (Rp.int .i64) x3.1] w := W
 refine Ct (N2 := []) (NZ2 := []) (N3 := [(some 11, b1, [.int .i64 p0.1, v1, v2]), (some 11, b2, [.int .i64 p3.1, .int .i64 p3.2.1, .int .i64 p3.2.2.1, .int .i64 p3.2.2.2.1, v4, .int .i64 p3.2.2.2.2.2.1, .int .i64 p3.2.2.2.2.2.2.1, .int .i64 p3.2.2.2.2.2.2.2])]) (NZ3 := []) W Aa Aa (all_cons (fun h => A6 (by kernel_rfl) h) (all_cons (fun h => A6 (by kernel_rfl) h) AX)) AX ?_
 refine Cd (R := []) F Aa Aa (yC fun M Z hN hZ => Ae F Aa) Aa Aa fun a F => ?_
 refine Cd (R := []) F Aa Aa (yC fun M Z hN hZ => AZ (v := v7) F Aa Aa) Aa Aa fun a F => ?_
 refine Cd (R := []) F Aa Aa (yC fun M Z hN hZ => AZ (v := Value.int .i64 x3.2) F Aa Aa) Aa Aa fun a F => ?_
 refine FN Aa ?_
 refine ls F W Aa (Ah F Aa).q fun a w F W => ?_
 refine Ct (N2 := []) (NZ2 := []) (N3 := [(some 11, b1, [.int .i64 p0.1, v1, v2]), (some 11, b2, [.int .i64 p3.1, .int .i64 p3.2.1, .int .i64 p3.2.2.1, .int .i64 p3.2.2.2.1, v4, .int .i64 p3.2.2.2.2.2.1, .int .i64 p3.2.2.2.2.2.2.1, .int .i64 p3.2.2.2.2.2.2.2])]) (NZ3 := []) W Aa Aa (all_cons (fun h => A6 (by kernel_rfl) h) (all_cons (fun h => A6 (by kernel_rfl) h) AX)) AX ?_
 refine FN Aa ?_
 refine ls F W Aa (Ah F Aa).q fun a w F W => ?_
 refine Ct (N2 := []) (NZ2 := []) (N3 := [(some 11, b1, [.int .i64 p0.1, v1, v2]), (some 11, b2, [.int .i64 p3.1, .int .i64 p3.2.1, .int .i64 p3.2.2.1, .int .i64 p3.2.2.2.1, v4, .int .i64 p3.2.2.2.2.2.1, .int .i64 p3.2.2.2.2.2.2.1, .int .i64 p3.2.2.2.2.2.2.2])]) (NZ3 := []) W Aa Aa (all_cons (fun h => A6 (by kernel_rfl) h) (all_cons (fun h => A6 (by kernel_rfl) h) AX)) AX ?_
 refine Hh (Ab (Ai (Ai (Ac ?_))))
 refine ls F W Aa (Ae F Aa).q fun a w F W => ?_
 refine ls F W Aa (Fd F Aa Aa).q fun a w F W => ?_
 refine Ad (Ab ?_)
 refine Ay F Aa (fun hb => ?_) fun hb => ?_
 ·
  have H := AN (Bf hb) H
  rw [hb] at F
  clear hb
  refine Ai (Ac ?_)
  refine ls F W Aa (Ah F Aa).q fun a w F W => ?_
  refine Ad (Ab (AA (AD ?_)))
  have H := AW H
  subst H
  refine A8 (.inl Aa) F W Aa (Ap F Aa) ?_
  exact ⟨rfl, W.done⟩
 have H := AM (Bg hb) H
 rw [hb] at F
 clear hb
 refine Aq (Ab ?_)
 obtain ⟨o1, G1, K1⟩ := Ao H
 refine AH (fun a w => ∃ x4 : List Int, ∃ v8 : Value, some (x4) = some o1 ∧ Fr 56 [] [(7, .pointer (some ⟨b2, 0, none⟩)), (8, .bool false), (9, v8)] a ∧ Stw ⟨Y, [], w0⟩ [(b2, [.int .i64 p3.1, .int .i64 p3.2.1, .int .i64 p3.2.2.1, .int .i64 p3.2.2.2.1, v4, .int .i64 p3.2.2.2.2.2.1, .int .i64 p3.2.2.2.2.2.2.1, .int .i64 p3.2.2.2.2.2.2.2]), (b1, [.int .i64 p0.1, v1, v2])] [row v8 3 (Rp.int .i64) x4] w) ?_ ?_
 ·
  have H := G1
  clear G1 K1
  refine AH (fun a w => Fr 56 [] [(7, .pointer (some ⟨b2, 0, none⟩)), (8, .bool false), (9, v7), (46, .bool (decide (p3.2.2.2.2.2.1 = 0) && decide ((p3.2.2.2.2.1.length : Int) < (x3.1.length : Int))))] a ∧ Stw ⟨Y, [], w0⟩ [(b2, [.int .i64 p3.1, .int .i64 p3.2.1, .int .i64 p3.2.2.1, .int .i64 p3.2.2.2.1, v4, .int .i64 p3.2.2.2.2.2.1, .int .i64 p3.2.2.2.2.2.2.1, .int .i64 p3.2.2.2.2.2.2.2]), (b1, [.int .i64 p0.1, v1, v2])] [row v7 3 (Rp.int .i64) x3.1] w) ?_ ?_
  ·
   refine Ac ?_
   refine ls F W Aa (Ag Ew Aa Aa Aa T3 F Aa 5 Aa).q fun a w F W => ?_
   refine ls F W Aa (Al (v := Value.int .i64 p3.2.2.2.2.2.1) 0 F Aa Aa T3 Aa).q fun a w F W => ?_
   refine ls F W Aa (BZ F Aa Aa).q fun a w F W => ?_
   refine ls F W Aa (Ae F Aa).q fun a w F W => ?_
   rcases Bool.eq_false_or_eq_true (decide (p3.2.2.2.2.2.1 = 0)) with hb0 | hb0
   ·
    rw [hb0] at F
    refine Au F W (Af F Aa Aa Aa Aa) Aa (Ak Aa) (Ag Ew Aa Aa Aa FZ F Aa 4 Aa).q fun a w F W => ?_
    refine Au F W (Af F Aa Aa Aa Aa) Aa (Ak Aa) (Al (v := v4) 0 F Aa Aa FZ Aa).q fun a w F W => ?_
    refine Au F W (Af F Aa Aa Aa Aa) Aa (Ak Aa) (A7 (r := (Rp.int .i64)) (l := p3.2.2.2.2.1) Fq Aa F Aa (Aj h_v4)).q fun a w F W => ?_
    refine Au F W (Af F Aa Aa Aa Aa) Aa (Ak Aa) (Ae F Aa).q fun a w F W => ?_
    refine Au F W (Af F Aa Aa Aa Aa) Aa (Ak Aa) (A7 (r := (Rp.int .i64)) (l := x3.1) Fq Aa F Aa (AP 0 Aa)).q fun a w F W => ?_
    refine Au F W (Af F Aa Aa Aa Aa) Aa (Ak Aa) (Bq F Aa Aa).q fun a w F W => ?_
    refine ls F W Aa (An F Aa Aa Aa).q fun a w F W => ?_
    refine Ad (Ab ?_)
    exact ⟨F.re ⟨rfl, Aa, Aa, (by show some (Value.bool (decide ((p3.2.2.2.2.1.length : Int) < (x3.1.length : Int)))) = some (Value.bool (decide (p3.2.2.2.2.2.1 = 0) && decide ((p3.2.2.2.2.1.length : Int) < (x3.1.length : Int)))); try rw [hb0]; all_goals simp only [Bool.not_true, Bool.not_false, Bool.true_and, Bool.false_and, Bool.true_or, Bool.false_or, Bool.and_true, Bool.or_false, cond_true, cond_false]), trivial⟩, W⟩
   rw [hb0] at F
   iterate 6 refine BW F Aa Aa Aa Aa Aa Aa Aa fun a F => ?_
   refine ls F W Aa (As F Aa Aa Aa).q fun a w F W => ?_
   refine Ad (Ab ?_)
   exact ⟨F.re ⟨rfl, Aa, Aa, (by show some (Value.bool false) = some (Value.bool (decide (p3.2.2.2.2.2.1 = 0) && decide ((p3.2.2.2.2.1.length : Int) < (x3.1.length : Int)))); try rw [hb0]; all_goals simp only [Bool.not_true, Bool.not_false, Bool.true_and, Bool.false_and, Bool.true_or, Bool.false_or, Bool.and_true, Bool.or_false, cond_true, cond_false]), trivial⟩, W⟩
  rintro a w ⟨F, W⟩
  refine Ay F Aa (fun hb => ?_) fun hb => ?_
  ·
   have H := AN hb H
   rw [hb] at F
   clear hb
   refine Ac ?_
   refine ls F W Aa (Ae F Aa).q fun a w F W => ?_
   refine ls F W Aa (Ag Ew Aa Aa Aa FZ F Aa 4 Aa).q fun a w F W => ?_
   refine ls F W Aa (Al (v := v4) 0 F Aa Aa FZ Aa).q fun a w F W => ?_
   refine ls F W Aa (A7 (r := (Rp.int .i64)) (l := p3.2.2.2.2.1) Fq Aa F Aa (Aj h_v4)).q fun a w F W => ?_
   obtain ⟨x5, h8, H⟩ := Ao H
   refine ls F W Aa (Lb (r := (Rp.int .i64)) HV F Aa Aa Aa (AP 0 Aa) h8).q fun a w F W => ?_
   refine ls F W Aa (Ah F Aa).q fun a w F W => ?_
   refine Ad (Ab ?_)
   have W := W.subRow (k := 0) Aa Aa h8
   have W := W.frontM (i := 1) Aa Aa
   have W := W.frontM (i := 1) Aa Aa
   exact ⟨_, ((Do v7 (0 : Int) (p3.2.2.2.2.1.length : Int) 1)), H, F.re ⟨rfl, Aa, Aa, trivial⟩, W⟩
  have H := AM (by rw [hb]; decide) H
  rw [hb] at F
  clear hb
  refine Aq (Ab ?_)
  have W := W.frontM (i := 1) Aa Aa
  have W := W.frontM (i := 1) Aa Aa
  exact ⟨_, (v7), H, F.re ⟨rfl, Aa, Aa, trivial⟩, W⟩
 rintro a w ⟨x4, v8, hj, F, W⟩
 have hj := AW hj
 subst hj
 have H := K1
 clear G1 K1
 refine Ai (Ac ?_)
 refine ls F W Aa (Ag Ew Aa Aa Aa FZ F Aa 4 Aa).q fun a w F W => ?_
 refine ls F W Aa (Al (v := v4) 0 F Aa Aa FZ Aa).q fun a w F W => ?_
 refine ls F W Aa (Ae F Aa).q fun a w F W => ?_
 obtain ⟨x6, h9, H⟩ := Ao H
 refine ls F W Aa (BI (v := Value.bool x6) F P7 Aa (fun w W => FG any w (v4) (v8) p3.2.2.2.2.1 x4 _ h9 (((Aj h_v4) : CZ _ _ _ _ _ _) w W).nx (((AP 0 Aa) : CZ _ _ _ _ _ _) w W).nx)) fun a w F W => ?_
 refine ls F W Aa (Ah F Aa).q fun a w F W => ?_
 refine Ad (Ab (AA ?_))
 have H := AW H
 subst H
 refine A8 (.inl Aa) F W Aa (Ap F Aa) ?_
 exact ⟨rfl, W.done⟩
end Go.Proofs.Ytflaelbmglmmcaa
