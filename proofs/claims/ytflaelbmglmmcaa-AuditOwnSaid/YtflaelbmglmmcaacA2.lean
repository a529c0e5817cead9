/- The functions of layer 42, EK. Conditions: none. -/
import Derived.Test.YtflaelbmglmmcaacA1
namespace Go.Proofs.Ytflaelbmglmmcaa
open Go Go.RowKit
set_option linter.unusedVariables false
set_option linter.unusedSimpArgs false
set_option maxRecDepth 20000
theorem Ql : Has Try.prog 60 := ⟨fun args w => Aj Try.func60 rfl (by decide) args w⟩
noncomputable def AG (p0 : List Int) : Int → Option (Int ⊕ (Unit ⊕ Int))
  | x1 => (if x1 < (p0.length : Int) then (ix p0 x1).bind fun x2 => (if (BX x2) = true then some (.inr (.inr x1)) else some (.inl (DC (x1 + 1)))) else some (.inr (.inl ())))
noncomputable def Bq (p0 : List Int) : Option Int := DQ (AF (AG p0) 0) fun _ => some (-1)
theorem EG (Y : Nat → Prop) (w0 : World) (v1 : Value) (p0 : List Int) (r : Int) (H : Bq p0 = some r) (h_v1 : Sl w0 (NX []) (Rp.int .i64) v1 p0) :
    Calls Try.prog 67 #[v1, .func (.func 60) #[] #[]] w0 fun e w' => e = .returned (.int .i64 r) ∧ Below w0.heap.size w0 w' := by
 refine enter Try.func67 Aa Try.ntmps67 Aa fun a F => ?_
 have W := Stw.start Y w0
 unfold Bq at H
 refine Ah (Ab ?_)
 refine ls F W Aa (Ae F Aa).q fun a w F W => ?_
 refine Ad (Ac ?_)
 obtain ⟨o1, G1, K1, L1⟩ := KM H
 refine AR (fun a w => some (Sum.inl ()) = some o1 ∧ Fr 19 [] [(4, .int .i64 0)] a ∧ Stw ⟨Y, [], w0⟩ [] [] w) ?_ ?_
 ·
  have H := G1
  clear G1 K1
  refine Ah (Ab ?_)
  refine ls F W Aa (Ag F Aa).q fun a w F W => ?_
  refine ls F W Aa (Bl (r := (Rp.int .i64)) (l := p0) Gn Aa F Aa (Ak h_v1)).q fun a w F W => ?_
  refine ls F W Aa (Ag F Aa).q fun a w F W => ?_
  refine Ad (Ac (Ax ?_))
  refine BZ H (fun s a w => Fr 19 [] [(0, v1), (1, .func (.func 60) #[] #[]), (4, .int .i64 0), (7, .int .i64 (p0.length : Int)), (8, .int .i64 s)] a ∧ Stw ⟨Y, [], w0⟩ [] [] w) ⟨F.re ⟨rfl, Aa, Aa, Aa, Aa, trivial⟩, W⟩ fun s o a w H L2 hR => ?_
  obtain ⟨x1, rfl⟩ : ∃ x, x = s := ⟨s, rfl⟩
  obtain ⟨F, W⟩ := hR
  have F : Fr 19 [] [(0, v1), (1, .func (.func 60) #[] #[]), (4, .int .i64 0), (7, .int .i64 (p0.length : Int)), (8, .int .i64 x1)] a := F
  have W : Stw ⟨Y, [], w0⟩ [] [] w := W
  rw [AG] at H
  refine Ah (Ab ?_)
  refine ls F W Aa (B0 F Aa Aa).q fun a w F W => ?_
  refine Ad (Ac (Ah ?_))
  refine AA F Aa (fun hb => ?_) fun hb => ?_
  ·
   have H := Ba (BO hb) H
   rw [hb] at F
   clear hb
   refine As (Ac (Ah (Ax (Ah (Ab ?_)))))
   refine ls F W Aa (Ag F Aa).q fun a w F W => ?_
   refine ls F W Aa (Ae F Aa).q fun a w F W => ?_
   refine Ad (Ac (Ah (Ab ?_)))
   iterate 3 refine ls F W Aa (Ag F Aa).q fun a w F W => ?_
   obtain ⟨x2, h1, H⟩ := An H
   refine ls F W Aa (AU (r := (Rp.int .i64)) Jy F Aa Aa (Ak h_v1) h1).q fun a w F W => ?_
   refine ls F W Aa (AC (y := Value.int .i64 x2) (j := 0) (i := x1) F Aa Aa (Ak h_v1) h1 Fl.int.to T3 Aa).q fun a w F W => ?_
   refine ls F W Aa (I4 (ws := [.int .i64 x2]) (v := Value.bool (BX x2)) F Ql Aa (fun w W => GJ any w x2 _ Aa)) fun a w F W => ?_
   refine Ad (Ac ?_)
   refine AA F Aa (fun hb => ?_) fun hb => ?_
   ·
    have H := Ba hb H
    rw [hb] at F
    clear hb
    refine Ah (Ab ?_)
    refine ls F W Aa (Ag F Aa).q fun a w F W => ?_
    refine ls F W Aa (Ae F Aa).q fun a w F W => ?_
    refine Ad (Ac (AB (AV ?_)))
    iterate 2 refine AO ?_
    refine AV (AO ?_)
    have H := L2 _ H
    have H := L1 _ H
    have H := A1 H
    subst H
    refine Be (.inl Aa) F W Aa (Aw F Aa) ?_
    exact ⟨rfl, W.done⟩
   have H := A9 (by rw [hb]; decide) H
   rw [hb] at F
   clear hb
   refine As (AP (Ac (Ab ?_)))
   refine ls F W Aa (Dk F Aa Aa Aa).q fun a w F W => ?_
   refine ls F W Aa (Ag F Aa).q fun a w F W => ?_
   refine Ad (Ac ?_)
   exact ⟨_, H, F.re ⟨rfl, Aa, Aa, Aa, Aa, trivial⟩, W⟩
  have H := A9 (BS hb) H
  rw [hb] at F
  clear hb
  refine BH ?_
  iterate 2 refine Cj ?_
  refine BI (Ac ?_)
  have H := L2 _ H
  exact ⟨H, F.re ⟨rfl, trivial⟩, W⟩
 rintro a w ⟨hj, F, W⟩
 have H := K1 _ hj
 clear hj G1 K1 L1
 refine Ah (Ab ?_)
 refine ls F W Aa (Ae F Aa).q fun a w F W => ?_
 refine Ad (Ac (AB ?_))
 have H := A1 H
 subst H
 refine Be (.inl Aa) F W Aa (Aw F Aa) ?_
 exact ⟨rfl, W.done⟩
theorem Qh : Has Try.prog 67 := ⟨fun args w => Aj Try.func67 rfl (by decide) args w⟩
noncomputable def AX (p0 : List Int) : Option Bool := (Bq p0).bind fun x1 => some (decide (0 ≤ x1))
theorem Eb (Y : Nat → Prop) (w0 : World) (v1 : Value) (p0 : List Int) (r : Bool) (H : AX p0 = some r) (h_v1 : Sl w0 (NX []) (Rp.int .i64) v1 p0) :
    Calls Try.prog 59 #[v1, .func (.func 60) #[] #[]] w0 fun e w' => e = .returned (.bool r) ∧ Below w0.heap.size w0 w' := by
 refine enter Try.func59 Aa Try.ntmps59 Aa fun a F => ?_
 have W := Stw.start Y w0
 unfold AX at H
 refine Ah (Ab ?_)
 refine ls F W Aa (Ae F Aa).q fun a w F W => ?_
 refine Ad (Ac (Ah (Ab ?_)))
 iterate 2 refine ls F W Aa (Ag F Aa).q fun a w F W => ?_
 obtain ⟨x1, h1, H⟩ := An H
 refine ls F W Aa (Ch (v := Value.int .i64 x1) F Qh Aa (fun w W => EG any w (v1) p0 _ h1 (((Ak h_v1) : DV _ _ _ _ _ _) w W).nx)) fun a w F W => ?_
 refine ls F W Aa (E0 F Aa Aa).q fun a w F W => ?_
 refine ls F W Aa (Ae F Aa).q fun a w F W => ?_
 refine Ad (Ac (AB ?_))
 have H := A1 H
 subst H
 refine Be (.inl Aa) F W Aa (Aw F Aa) ?_
 exact ⟨rfl, W.done⟩
theorem Qi : Has Try.prog 59 := ⟨fun args w => Aj Try.func59 rfl (by decide) args w⟩
noncomputable def Cp (p0 : Int × (List (Int × Int × Int × Int × Int × Int)) × (List (Int × Int))) (p1 : List (List Int)) : Int → Option (Int ⊕ (Unit ⊕ Bool))
  | x3 => (if x3 < (p1.length : Int) then (ix p1 x3).bind fun x4 => (if (x4.length : Int) ≠ (p0.2.2.length : Int) then some true else (AX x4).bind fun x6 => some x6).bind fun x5 => (if x5 = true then some (.inr (.inr false)) else some (.inl (DC (x3 + 1)))) else some (.inr (.inl ())))
noncomputable def Da (p0 : Int × (List (Int × Int × Int × Int × Int × Int)) × (List (Int × Int))) (p1 : List (List Int)) : Option Bool := ((Dz p0).bind fun x2 => (if (!x2) = true then some true else some (decide ((p1.length : Int) ≠ p0.1)))).bind fun x1 => (if x1 = true then some false else DQ (AF (Cp p0 p1) 0) fun _ => some true)
theorem IC (Y : Nat → Prop) (w0 : World) (v1 : Value) (v2 : Value) (v3 : Value) (p0 : Int × (List (Int × Int × Int × Int × Int × Int)) × (List (Int × Int))) (p1 : List (List Int)) (r : Bool) (H : Da p0 p1 = some r) (h_v1 : Sl w0 (NX []) D6 v1 p0.2.1) (h_v2 : Sl w0 (NX []) FI v2 p0.2.2) (h_v3 : Sl w0 (NX []) (Rp.slice (Rp.int .i64)) v3 p1) :
    Calls Try.prog 54 #[.agg #[.int .i64 p0.1, v1, v2], v3] w0 fun e w' => e = .returned (.bool r) ∧ Below w0.heap.size w0 w' := by
 refine enter Try.func54 Aa Try.ntmps54 Aa fun a F => ?_
 have W := Stw.start Y w0
 obtain ⟨v4, h1, h_v3⟩ := h_v3.ex F8
 unfold Da at H
 refine Ah (Ab ?_)
 refine Cx (cs := [.int .i64 p0.1, v1, v2]) F W Aa Aa Aa fun b1 a w F W => ?_
 refine ls F W Aa (Ae F Aa).q fun a w F W => ?_
 refine Ad (Ac (Ah ?_))
 obtain ⟨o1, G1, K1⟩ := An H
 refine AR (fun a w => ∃ x1 : Bool, some (x1) = some o1 ∧ Fr 34 [] [(1, v3), (2, .pointer (some ⟨b1, 0, none⟩)), (4, .bool false), (16, .bool x1)] a ∧ Stw ⟨Y, [], w0⟩ [(b1, [.int .i64 p0.1, v1, v2])] [] w) ?_ ?_
 ·
  have H := G1
  clear G1 K1
  refine Ab ?_
  refine ls F W Aa (Al (v := Value.agg #[.int .i64 p0.1, v1, v2]) 0 F Aa Aa JQ Aa).q fun a w F W => ?_
  obtain ⟨x2, h2, H⟩ := An H
  refine ls F W Aa (Ch (v := Value.bool x2) F PE Aa (fun w W => Jh any w (v1) (v2) p0 _ h2 (((Ak h_v1) : DV _ _ _ _ _ _) w W).nx (((Ak h_v2) : DV _ _ _ _ _ _) w W).nx)) fun a w F W => ?_
  refine ls F W Aa (Ga F Aa).q fun a w F W => ?_
  refine ls F W Aa (Ag F Aa).q fun a w F W => ?_
  rcases Bool.eq_false_or_eq_true (!x2) with hb | hb
  ·
   have H := Ba hb H
   rw [hb] at F
   clear hb
   iterate 5 refine DU F Aa Aa Aa Aa Aa Aa Aa fun a F => ?_
   refine ls F W Aa (Ay F Aa Aa Aa).q fun a w F W => ?_
   refine Ad (Ac ?_)
   exact ⟨_, H, F.re ⟨rfl, Aa, Aa, Aa, trivial⟩, W⟩
  have H := A9 (by rw [hb]; decide) H
  rw [hb] at F
  clear hb
  refine AM F W (Ai F Aa Aa Aa Aa) Aa (Ao Aa) (Ag F Aa).q fun a w F W => ?_
  refine AM F W (Ai F Aa Aa Aa Aa) Aa (Ao Aa) (Bl (r := (Rp.slice (Rp.int .i64))) (l := p1) Lt Aa F Aa (Cc F8 h1 (Ak h_v3))).q fun a w F W => ?_
  refine AM F W (Ai F Aa Aa Aa Aa) Aa (Ao Aa) (Af FM Aa Aa Aa T3 F Aa 0 Aa).q fun a w F W => ?_
  refine AM F W (Ai F Aa Aa Aa Aa) Aa (Ao Aa) (Al (v := Value.int .i64 p0.1) 0 F Aa Aa T3 Aa).q fun a w F W => ?_
  refine AM F W (Ai F Aa Aa Aa Aa) Aa (Ao Aa) (GO F Aa Aa).q fun a w F W => ?_
  refine ls F W Aa (AL F Aa Aa Aa).q fun a w F W => ?_
  refine Ad (Ac ?_)
  exact ⟨_, H, F.re ⟨rfl, Aa, Aa, Aa, trivial⟩, W⟩
 rintro a w ⟨x1, hj, F, W⟩
 have hj := A1 hj
 subst hj
 have H := K1
 clear G1 K1
 refine AA F Aa (fun hb => ?_) fun hb => ?_
 ·
  have H := Ba hb H
  rw [hb] at F
  clear hb
  refine Ah (Ab ?_)
  refine ls F W Aa (Ae F Aa).q fun a w F W => ?_
  refine Ad (Ac (AB (AO ?_)))
  have H := A1 H
  subst H
  refine Be (.inl Aa) F W Aa (Aw F Aa) ?_
  exact ⟨rfl, W.done⟩
 have H := A9 (by rw [hb]; decide) H
 rw [hb] at F
 clear hb
 refine As (Ac ?_)
 obtain ⟨o2, G2, K2, L2⟩ := KM H
 refine AR (fun a w => some (Sum.inl ()) = some o2 ∧ Fr 34 [] [(4, .bool false)] a ∧ Stw ⟨Y, [], w0⟩ [(b1, [.int .i64 p0.1, v1, v2])] [] w) ?_ ?_
 ·
  have H := G2
  clear G2 K2
  refine Ah (Ab ?_)
  refine ls F W Aa (Ag F Aa).q fun a w F W => ?_
  refine ls F W Aa (Bl (r := (Rp.slice (Rp.int .i64))) (l := p1) Lt Aa F Aa (Cc F8 h1 (Ak h_v3))).q fun a w F W => ?_
  refine ls F W Aa (Ag F Aa).q fun a w F W => ?_
  refine Ad (Ac (Ax ?_))
  refine BZ H (fun s a w => Fr 34 [] [(2, .pointer (some ⟨b1, 0, none⟩)), (4, .bool false), (17, v3), (18, .int .i64 (p1.length : Int)), (19, .int .i64 s)] a ∧ Stw ⟨Y, [], w0⟩ [(b1, [.int .i64 p0.1, v1, v2])] [] w) ⟨F.re ⟨rfl, Aa, Aa, Aa, Aa, trivial⟩, W⟩ fun s o a w H L3 hR => ?_
  obtain ⟨x3, rfl⟩ : ∃ x, x = s := ⟨s, rfl⟩
  obtain ⟨F, W⟩ := hR
  have F : Fr 34 [] [(2, .pointer (some ⟨b1, 0, none⟩)), (4, .bool false), (17, v3), (18, .int .i64 (p1.length : Int)), (19, .int .i64 x3)] a := F
  have W : Stw ⟨Y, [], w0⟩ [(b1, [.int .i64 p0.1, v1, v2])] [] w := W
  rw [Cp] at H
  refine Ah (Ab ?_)
  refine ls F W Aa (B0 F Aa Aa).q fun a w F W => ?_
  refine Ad (Ac (Ah ?_))
  refine AA F Aa (fun hb => ?_) fun hb => ?_
  ·
   have H := Ba (BO hb) H
   rw [hb] at F
   clear hb
   refine As (Ac (Ah (Ax (Ah (Ab ?_)))))
   obtain ⟨x4, h3, H⟩ := An H
   obtain ⟨v5, h4, h5⟩ := EY h1 h3
   have h6 : Io v5 = [(v5.1)] := congrArg (fun q : List Int => ([(v5.1)] : List Value)) h5
   refine ls F W Aa (AU (r := (Rp.vsl (Rp.int .i64))) NY F Aa Aa (Ak h_v3) h4).q fun a w F W => ?_
   refine ls F W Aa (AC (y := (v5.1)) (j := 0) (i := x3) (enc := Io) F Aa Aa (Ak h_v3) h4 L7 Gy (by rw [h6]; rfl)).q fun a w F W => ?_
   refine ls F W Aa (Ae F Aa).q fun a w F W => ?_
   refine Ad (Ac ?_)
   obtain ⟨o4, G4, K4⟩ := An H
   refine AR (fun a w => ∃ x5 : Bool, some (x5) = some o4 ∧ Fr 34 [] [(2, .pointer (some ⟨b1, 0, none⟩)), (4, .bool false), (17, v3), (18, .int .i64 (p1.length : Int)), (19, .int .i64 x3), (32, .bool x5)] a ∧ Stw ⟨Y, [], w0⟩ [(b1, [.int .i64 p0.1, v1, v2])] [] w) ?_ ?_
   ·
    have H := G4
    clear G4 K4
    refine Ab ?_
    refine ls F W Aa (Ag F Aa).q fun a w F W => ?_
    refine ls F W Aa (Bl (r := (Rp.int .i64)) (l := x4) Gn Aa F Aa (E9 (Ak h_v3) h4 DR.here (congrArg (fun q : List Int => q) h5))).q fun a w F W => ?_
    refine ls F W Aa (Af FM Aa Aa Aa Lv F Aa 2 Aa).q fun a w F W => ?_
    refine ls F W Aa (Al (v := v2) 0 F Aa Aa Lv Aa).q fun a w F W => ?_
    refine ls F W Aa (Bl (r := FI) (l := p0.2.2) J9 Aa F Aa (Ak h_v2)).q fun a w F W => ?_
    refine ls F W Aa (GO F Aa Aa).q fun a w F W => ?_
    refine ls F W Aa (Ag F Aa).q fun a w F W => ?_
    rcases Bool.eq_false_or_eq_true (decide ((x4.length : Int) ≠ (p0.2.2.length : Int))) with hb | hb
    ·
     have H := Ba (BO hb) H
     rw [hb] at F
     clear hb
     iterate 2 refine DU F Aa Aa Aa Aa Aa Aa Aa fun a F => ?_
     refine ls F W Aa (Ay F Aa Aa Aa).q fun a w F W => ?_
     refine Ad (Ac ?_)
     exact ⟨_, H, F.re ⟨rfl, Aa, Aa, Aa, Aa, Aa, trivial⟩, W⟩
    have H := A9 (BS hb) H
    rw [hb] at F
    clear hb
    refine AM F W (Ai F Aa Aa Aa Aa) Aa (Ao Aa) (Ag F Aa).q fun a w F W => ?_
    refine Oh (Ai F Aa Aa Aa Aa) ?_
    obtain ⟨x6, h7, H⟩ := An H
    refine ls F W Aa (Ch (v := Value.bool x6) F Qi Aa (fun w W => Eb any w ((v5.1)) x4 _ h7 (((E9 (Ak h_v3) h4 DR.here (congrArg (fun q : List Int => q) h5)) : DV _ _ _ _ _ _) w W).nx)) fun a w F W => ?_
    refine ls F W Aa (AL F Aa Aa Aa).q fun a w F W => ?_
    refine Ad (Ac ?_)
    exact ⟨_, H, F.re ⟨rfl, Aa, Aa, Aa, Aa, Aa, trivial⟩, W⟩
   rintro a w ⟨x5, hj, F, W⟩
   have hj := A1 hj
   subst hj
   have H := K4
   clear G4 K4
   refine AA F Aa (fun hb => ?_) fun hb => ?_
   ·
    have H := Ba hb H
    rw [hb] at F
    clear hb
    refine Ah (Ab ?_)
    refine ls F W Aa (Ae F Aa).q fun a w F W => ?_
    refine Ad (Ac (AB (AV ?_)))
    iterate 2 refine AO ?_
    refine AV (AO ?_)
    have H := L3 _ H
    have H := L2 _ H
    have H := A1 H
    subst H
    refine Be (.inl Aa) F W Aa (Aw F Aa) ?_
    exact ⟨rfl, W.done⟩
   have H := A9 (by rw [hb]; decide) H
   rw [hb] at F
   clear hb
   refine As (AP (Ac (Ab ?_)))
   refine ls F W Aa (Dk F Aa Aa Aa).q fun a w F W => ?_
   refine ls F W Aa (Ag F Aa).q fun a w F W => ?_
   refine Ad (Ac ?_)
   exact ⟨_, H, F.re ⟨rfl, Aa, Aa, Aa, Aa, trivial⟩, W⟩
  have H := A9 (BS hb) H
  rw [hb] at F
  clear hb
  refine BH ?_
  iterate 2 refine Cj ?_
  refine BI (Ac ?_)
  have H := L3 _ H
  exact ⟨H, F.re ⟨rfl, trivial⟩, W⟩
 rintro a w ⟨hj, F, W⟩
 have H := K2 _ hj
 clear hj G2 K2 L2
 refine Ah (Ab ?_)
 refine ls F W Aa (Ae F Aa).q fun a w F W => ?_
 refine Ad (Ac (AB ?_))
 have H := A1 H
 subst H
 refine Be (.inl Aa) F W Aa (Aw F Aa) ?_
 exact ⟨rfl, W.done⟩
theorem Pg : Has Try.prog 54 := ⟨fun args w => Aj Try.func54 rfl (by decide) args w⟩
theorem OK (dd : Nat) (x0 : Int) (x1 : Int) (y0 : Int) (y1 : Int) (w : World) : (Op.equalIn (dd + 2) 60 (.agg #[.int .i64 x0, .int .i64 x1]) (.agg #[.int .i64 y0, .int .i64 y1])).run Try.prog w = .ok (decide (x0 = y0 ∧ x1 = y1)) w :=
  GU (d := dd + 1) (rs := [decide (x0 = y0), decide (x1 = y1)]) MF (by kernel_rfl) ⟨rfl, F6 (d := dd + 0) rfl rfl MS T3 rfl rfl, rfl, F6 (d := dd + 0) rfl rfl MS T3 rfl rfl, trivial⟩ (by simp) w
theorem Qm : Try.prog.eqGuardType Try.prog.depth 60 = false := by kernel_rfl
theorem PL (x0 : Int) (x1 : Int) (y0 : Int) (y1 : Int) (w : World) : (Op.equalIn 10000 60 (.agg #[.int .i64 x0, .int .i64 x1]) (.agg #[.int .i64 y0, .int .i64 y1])).run Try.prog w = .ok (decide (x0 = y0 ∧ x1 = y1)) w := OK 9998 x0 x1 y0 y1 w
noncomputable def Av (p0 : List (Int × Int)) (p1 : Int × Int) : Int → Option (Int ⊕ (Unit ⊕ Int))
  | x1 => (if x1 < (p0.length : Int) then (ix p0 x1).bind fun x2 => (if p1.1 = x2.1 ∧ p1.2 = x2.2 then some (.inr (.inr x1)) else some (.inl (DC (x1 + 1)))) else some (.inr (.inl ())))
noncomputable def AZ (p0 : List (Int × Int)) (p1 : Int × Int) : Option Int := DQ (AF (Av p0 p1) 0) fun _ => some (-1)
theorem DN (Y : Nat → Prop) (w0 : World) (v1 : Value) (p0 : List (Int × Int)) (p1 : Int × Int) (r : Int) (H : AZ p0 p1 = some r) (h_v1 : Sl w0 (NX []) FI v1 p0) :
    Calls Try.prog 68 #[v1, .agg #[.int .i64 p1.1, .int .i64 p1.2]] w0 fun e w' => e = .returned (.int .i64 r) ∧ Below w0.heap.size w0 w' := by
 refine enter Try.func68 Aa Try.ntmps68 Aa fun a F => ?_
 have W := Stw.start Y w0
 unfold AZ at H
 refine Ah (Ab ?_)
 refine Cx (cs := [.int .i64 p1.1, .int .i64 p1.2]) F W Aa Aa Aa fun b1 a w F W => ?_
 refine ls F W Aa (Ae F Aa).q fun a w F W => ?_
 refine Ad (Ac ?_)
 obtain ⟨o1, G1, K1, L1⟩ := KM H
 refine AR (fun a w => some (Sum.inl ()) = some o1 ∧ Fr 19 [] [(4, .int .i64 0)] a ∧ Stw ⟨Y, [], w0⟩ [(b1, [.int .i64 p1.1, .int .i64 p1.2])] [] w) ?_ ?_
 ·
  have H := G1
  clear G1 K1
  refine Ah (Ab ?_)
  refine ls F W Aa (Ag F Aa).q fun a w F W => ?_
  refine ls F W Aa (Bl (r := FI) (l := p0) J9 Aa F Aa (Ak h_v1)).q fun a w F W => ?_
  refine ls F W Aa (Ag F Aa).q fun a w F W => ?_
  refine Ad (Ac (Ax ?_))
  refine BZ H (fun s a w => Fr 19 [] [(0, v1), (3, .pointer (some ⟨b1, 0, none⟩)), (4, .int .i64 0), (7, .int .i64 (p0.length : Int)), (8, .int .i64 s)] a ∧ Stw ⟨Y, [], w0⟩ [(b1, [.int .i64 p1.1, .int .i64 p1.2])] [] w) ⟨F.re ⟨rfl, Aa, Aa, Aa, Aa, trivial⟩, W⟩ fun s o a w H L2 hR => ?_
  obtain ⟨x1, rfl⟩ : ∃ x, x = s := ⟨s, rfl⟩
  obtain ⟨F, W⟩ := hR
  have F : Fr 19 [] [(0, v1), (3, .pointer (some ⟨b1, 0, none⟩)), (4, .int .i64 0), (7, .int .i64 (p0.length : Int)), (8, .int .i64 x1)] a := F
  have W : Stw ⟨Y, [], w0⟩ [(b1, [.int .i64 p1.1, .int .i64 p1.2])] [] w := W
  rw [Av] at H
  refine Ah (Ab ?_)
  refine ls F W Aa (B0 F Aa Aa).q fun a w F W => ?_
  refine Ad (Ac (Ah ?_))
  refine AA F Aa (fun hb => ?_) fun hb => ?_
  ·
   have H := Ba (BO hb) H
   rw [hb] at F
   clear hb
   refine As (Ac (Ah (Ax (Ah (Ab ?_)))))
   refine ls F W Aa (Ag F Aa).q fun a w F W => ?_
   refine ls F W Aa (Ae F Aa).q fun a w F W => ?_
   refine Ad (Ac (Ah ?_))
   refine Df W MO (by kernel_rfl) ?_
   refine qs F Aa (Al (v := Value.agg #[.int .i64 p1.1, .int .i64 p1.2]) 0 F Aa Aa Ox Aa).q fun a F => ?_
   iterate 2 refine qs F Aa (Ag F Aa).q fun a F => ?_
   obtain ⟨x2, h1, H⟩ := An H
   refine qs F Aa (AU (r := FI) OE F Aa Aa (Ak h_v1) h1).q fun a F => ?_
   refine qs F Aa (AC (y := Value.agg #[.int .i64 x2.1, .int .i64 x2.2]) (j := 0) (i := x1) F Aa Aa (Ak h_v1) h1 OI.to Ox Aa).q fun a F => ?_
   refine qs F Aa (KQ (t := decide (p1.1 = x2.1 ∧ p1.2 = x2.2)) Qm (PL _ _ _ _) F Aa Aa).q fun a F => ?_
   refine Cf fun w W => ?_
   refine Ac ?_
   refine AA F Aa (fun hb => ?_) fun hb => ?_
   ·
    have H := Ba (BO hb) H
    rw [hb] at F
    clear hb
    refine Ah (Ab ?_)
    refine ls F W Aa (Ag F Aa).q fun a w F W => ?_
    refine ls F W Aa (Ae F Aa).q fun a w F W => ?_
    refine Ad (Ac (AB (AV ?_)))
    iterate 2 refine AO ?_
    refine AV (AO ?_)
    have H := L2 _ H
    have H := L1 _ H
    have H := A1 H
    subst H
    refine Be (.inl Aa) F W Aa (Aw F Aa) ?_
    exact ⟨rfl, W.done⟩
   have H := A9 (BS hb) H
   rw [hb] at F
   clear hb
   refine As (AP (Ac (Ab ?_)))
   refine ls F W Aa (Dk F Aa Aa Aa).q fun a w F W => ?_
   refine ls F W Aa (Ag F Aa).q fun a w F W => ?_
   refine Ad (Ac ?_)
   exact ⟨_, H, F.re ⟨rfl, Aa, Aa, Aa, Aa, trivial⟩, W⟩
  have H := A9 (BS hb) H
  rw [hb] at F
  clear hb
  refine BH ?_
  iterate 2 refine Cj ?_
  refine BI (Ac ?_)
  have H := L2 _ H
  exact ⟨H, F.re ⟨rfl, trivial⟩, W⟩
 rintro a w ⟨hj, F, W⟩
 have H := K1 _ hj
 clear hj G1 K1 L1
 refine Ah (Ab ?_)
 refine ls F W Aa (Ae F Aa).q fun a w F W => ?_
 refine Ad (Ac (AB ?_))
 have H := A1 H
 subst H
 refine Be (.inl Aa) F W Aa (Aw F Aa) ?_
 exact ⟨rfl, W.done⟩
theorem PH : Has Try.prog 68 := ⟨fun args w => Aj Try.func68 rfl (by decide) args w⟩
noncomputable def CQ (p0 : Int × (List (Int × Int × Int × Int × Int × Int)) × (List (Int × Int))) (p1 : Int) (p2 : Int) : Option Int := (AZ p0.2.2 (p1, p2)).bind fun x1 => some x1
theorem Iw (Y : Nat → Prop) (w0 : World) (v1 : Value) (v2 : Value) (p0 : Int × (List (Int × Int × Int × Int × Int × Int)) × (List (Int × Int))) (p1 : Int) (p2 : Int) (r : Int) (H : CQ p0 p1 p2 = some r) (h_v1 : Sl w0 (NX []) D6 v1 p0.2.1) (h_v2 : Sl w0 (NX []) FI v2 p0.2.2) :
    Calls Try.prog 61 #[.agg #[.int .i64 p0.1, v1, v2], .int .i64 p1, .int .i64 p2] w0 fun e w' => e = .returned (.int .i64 r) ∧ Below w0.heap.size w0 w' := by
 refine enter Try.func61 Aa Try.ntmps61 Aa fun a F => ?_
 have W := Stw.start Y w0
 unfold CQ at H
 refine Ah (Ab ?_)
 refine Cx (cs := [.int .i64 p0.1, v1, v2]) F W Aa Aa Aa fun b1 a w F W => ?_
 refine ls F W Aa (Ae F Aa).q fun a w F W => ?_
 refine Ad (Ac (Ah (Ab ?_)))
 refine ls F W Aa (Af FM Aa Aa Aa Lv F Aa 2 Aa).q fun a w F W => ?_
 refine ls F W Aa (Al (v := v2) 0 F Aa Aa Lv Aa).q fun a w F W => ?_
 iterate 2 refine ls F W Aa (Ag F Aa).q fun a w F W => ?_
 refine ls F W Aa (Bx (v := Value.agg #[.int .i64 p1, .int .i64 p2]) O5 F Aa Aa Aa).q fun a w F W => ?_
 obtain ⟨x1, h1, H⟩ := An H
 refine ls F W Aa (Ch (v := Value.int .i64 x1) F PH Aa (fun w W => DN any w (v2) p0.2.2 (p1, p2) _ h1 (((Ak h_v2) : DV _ _ _ _ _ _) w W).nx)) fun a w F W => ?_
 refine ls F W Aa (Ae F Aa).q fun a w F W => ?_
 refine Ad (Ac (AB ?_))
 have H := A1 H
 subst H
 refine Be (.inl Aa) F W Aa (Aw F Aa) ?_
 exact ⟨rfl, W.done⟩
theorem P6 : Has Try.prog 61 := ⟨fun args w => Aj Try.func61 rfl (by decide) args w⟩
noncomputable def BK (p0 : Int × (List (Int × Int × Int × Int × Int × Int)) × (List (Int × Int))) (p1 : Int) (p2 : Int) : Int → Option (Int ⊕ (Unit ⊕ (Int × Int × Int × Bool)))
  | x1 => (if x1 < (p0.2.1.length : Int) then (ix p0.2.1 x1).bind fun x2 => (if p1 = x2.1 ∧ p2 = x2.2.1 then some (.inr (.inr (x2.2.2.1, x2.2.2.2.1, x1, true))) else (if p1 = x2.2.2.1 ∧ p2 = x2.2.2.2.1 then some (.inr (.inr (x2.1, x2.2.1, x1, true))) else some (.inl (DC (x1 + 1))))) else some (.inr (.inl ())))
noncomputable def CI (p0 : Int × (List (Int × Int × Int × Int × Int × Int)) × (List (Int × Int))) (p1 : Int) (p2 : Int) : Option (Int × Int × Int × Bool) := DQ (AF (BK p0 p1 p2) 0) fun _ => some (0, 0, 0, false)
theorem Jz (Y : Nat → Prop) (w0 : World) (v1 : Value) (v2 : Value) (p0 : Int × (List (Int × Int × Int × Int × Int × Int)) × (List (Int × Int))) (p1 : Int) (p2 : Int) (r : Int × Int × Int × Bool) (H : CI p0 p1 p2 = some r) (h_v1 : Sl w0 (NX []) D6 v1 p0.2.1) (h_v2 : Sl w0 (NX []) FI v2 p0.2.2) :
    Calls Try.prog 69 #[.agg #[.int .i64 p0.1, v1, v2], .int .i64 p1, .int .i64 p2] w0 fun e w' => e = .returned (.tuple #[.int .i64 r.1, .int .i64 r.2.1, .int .i64 r.2.2.1, .bool r.2.2.2]) ∧ Below w0.heap.size w0 w' := by
 refine enter Try.func69 Aa Try.ntmps69 Aa fun a F => ?_
 have W := Stw.start Y w0
 unfold CI at H
 refine Ah (Ab ?_)
 refine Cx (cs := [.int .i64 p0.1, v1, v2]) F W Aa Aa Aa fun b1 a w F W => ?_
 iterate 4 refine ls F W Aa (Ae F Aa).q fun a w F W => ?_
 refine Ad (Ac (Ah (Ab ?_)))
 iterate 2 refine ls F W Aa (Ag F Aa).q fun a w F W => ?_
 refine ls F W Aa (Bx (v := Value.agg #[.int .i64 p1, .int .i64 p2]) Lb F Aa Aa Aa).q fun a w F W => ?_
 refine B3 (cs := [.int .i64 0, .int .i64 0]) F W Aa MN Aa fun b2 a w F W => ?_
 refine BQ (vs := [.int .i64 p1, .int .i64 p2]) (M' := [(b2, [.int .i64 p1, .int .i64 p2]), (b1, [.int .i64 p0.1, v1, v2])]) 0 F W Aa Aa Aa J5 Aa Aa Aa Aa Aa fun w W => ?_
 refine Ad (Ac ?_)
 obtain ⟨o1, G1, K1, L1⟩ := KM H
 refine AR (fun a w => some (Sum.inl ()) = some o1 ∧ Fr 49 [] [(6, .int .i64 0), (7, .int .i64 0), (8, .int .i64 0), (9, .bool false)] a ∧ Stw ⟨Y, [], w0⟩ [(b2, [.int .i64 p1, .int .i64 p2]), (b1, [.int .i64 p0.1, v1, v2])] [] w) ?_ ?_
 ·
  have H := G1
  clear G1 K1
  refine Ah (Ab ?_)
  refine ls F W Aa (Af FM Aa Aa Aa Mt F Aa 1 Aa).q fun a w F W => ?_
  refine ls F W Aa (Al (v := v1) 1 F Aa Aa Mt Aa).q fun a w F W => ?_
  refine ls F W Aa (Bl (r := D6) (l := p0.2.1) K9 Aa F Aa (Ak h_v1)).q fun a w F W => ?_
  refine ls F W Aa (Ag F Aa).q fun a w F W => ?_
  refine Ad (Ac (Ax ?_))
  have W := W.frontM (i := 1) Aa Aa
  have W := W.frontM (i := 1) Aa Aa
  refine BZ H (fun s a w => Fr 49 [] [(6, .int .i64 0), (7, .int .i64 0), (8, .int .i64 0), (9, .bool false), (10, .pointer (some ⟨b2, 0, none⟩)), (17, v1), (18, .int .i64 (p0.2.1.length : Int)), (19, .int .i64 s)] a ∧ Stw ⟨Y, [], w0⟩ [(b2, [.int .i64 p1, .int .i64 p2]), (b1, [.int .i64 p0.1, v1, v2])] [] w) ⟨F.re ⟨rfl, Aa, Aa, Aa, Aa, Aa, Aa, Aa, trivial⟩, W⟩ fun s o a w H L2 hR => ?_
  obtain ⟨x1, rfl⟩ : ∃ x, x = s := ⟨s, rfl⟩
  obtain ⟨F, W⟩ := hR
  have F : Fr 49 [] [(6, .int .i64 0), (7, .int .i64 0), (8, .int .i64 0), (9, .bool false), (10, .pointer (some ⟨b2, 0, none⟩)), (17, v1), (18, .int .i64 (p0.2.1.length : Int)), (19, .int .i64 x1)] a := F
  have W : Stw ⟨Y, [], w0⟩ [(b2, [.int .i64 p1, .int .i64 p2]), (b1, [.int .i64 p0.1, v1, v2])] [] w := W
  rw [BK] at H
  refine Ah (Ab ?_)
  refine ls F W Aa (B0 F Aa Aa).q fun a w F W => ?_
  refine Ad (Ac (Ah ?_))
  refine AA F Aa (fun hb => ?_) fun hb => ?_
  ·
   have H := Ba (BO hb) H
   rw [hb] at F
   clear hb
   refine As (Ac (Ah (Ax (Ah (Ab ?_)))))
   refine ls F W Aa (Ag F Aa).q fun a w F W => ?_
   obtain ⟨x2, h1, H⟩ := An H
   refine ls F W Aa (AU (r := D6) OP F Aa Aa (Ak h_v1) h1).q fun a w F W => ?_
   refine ls F W Aa (AC (y := Value.agg #[.int .i64 x2.1, .int .i64 x2.2.1, .int .i64 x2.2.2.1, .int .i64 x2.2.2.2.1, .int .i64 x2.2.2.2.2.1, .int .i64 x2.2.2.2.2.2]) (j := 0) (i := x1) F Aa Aa (Ak h_v1) h1 NB.to LK Aa).q fun a w F W => ?_
   refine B3 (cs := [.int .i64 0, .int .i64 0, .int .i64 0, .int .i64 0, .int .i64 0, .int .i64 0]) F W Aa N8 Aa fun b3 a w F W => ?_
   refine ls F W Aa (Ae F Aa).q fun a w F W => ?_
   refine BQ (vs := [.int .i64 x2.1, .int .i64 x2.2.1, .int .i64 x2.2.2.1, .int .i64 x2.2.2.2.1, .int .i64 x2.2.2.2.2.1, .int .i64 x2.2.2.2.2.2]) (M' := [(b3, [.int .i64 x2.1, .int .i64 x2.2.1, .int .i64 x2.2.2.1, .int .i64 x2.2.2.2.1, .int .i64 x2.2.2.2.2.1, .int .i64 x2.2.2.2.2.2]), (b2, [.int .i64 p1, .int .i64 p2]), (b1, [.int .i64 p0.1, v1, v2])]) 0 F W Aa Aa Aa LK Aa Aa Aa Aa Aa fun w W => ?_
   refine Ad (Ac (Ah (Ah (Ab ?_))))
   refine ls F W Aa (Al (v := Value.agg #[.int .i64 p1, .int .i64 p2]) 1 F Aa Aa J5 Aa).q fun a w F W => ?_
   refine ls F W Aa (Af DS Aa Aa Aa T3 F Aa 0 Aa).q fun a w F W => ?_
   refine ls F W Aa (Al (v := Value.int .i64 x2.1) 0 F Aa Aa T3 Aa).q fun a w F W => ?_
   refine ls F W Aa (Af DS Aa Aa Aa T3 F Aa 1 Aa).q fun a w F W => ?_
   refine ls F W Aa (Al (v := Value.int .i64 x2.2.1) 0 F Aa Aa T3 Aa).q fun a w F W => ?_
   refine ls F W Aa (Bx (v := Value.agg #[.int .i64 x2.1, .int .i64 x2.2.1]) Lb F Aa Aa Aa).q fun a w F W => ?_
   refine ls F W Aa (KQ (t := decide (p1 = x2.1 ∧ p2 = x2.2.1)) Oa (NC _ _ _ _) F Aa Aa).q fun a w F W => ?_
   refine Ad (Ac ?_)
   refine AA F Aa (fun hb => ?_) fun hb => ?_
   ·
    have H := Ba (BO hb) H
    rw [hb] at F
    clear hb
    refine Ah ?_
    refine Df W MO (by kernel_rfl) ?_
    refine qs F Aa (Af DS Aa Aa Aa T3 F Aa 2 Aa).q fun a F => ?_
    refine qs F Aa (Al (v := Value.int .i64 x2.2.2.1) 0 F Aa Aa T3 Aa).q fun a F => ?_
    refine qs F Aa (Af DS Aa Aa Aa T3 F Aa 3 Aa).q fun a F => ?_
    refine qs F Aa (Al (v := Value.int .i64 x2.2.2.2.1) 0 F Aa Aa T3 Aa).q fun a F => ?_
    refine qs F Aa (Ag F Aa).q fun a F => ?_
    iterate 4 refine qs F Aa (Ae F Aa).q fun a F => ?_
    refine Cf fun w W => ?_
    refine Ac (AB (AO (AV ?_)))
    iterate 2 refine AO ?_
    refine AV (AO ?_)
    have H := L2 _ H
    have H := L1 _ H
    have H := A1 H
    subst H
    refine Mb (.inl Aa) F W Aa (Aw F Aa) (Aw F Aa) (Aw F Aa) (Aw F Aa) ?_
    exact ⟨rfl, W.done⟩
   have H := A9 (BS hb) H
   rw [hb] at F
   clear hb
   refine As (Ac (Ah (Ab ?_)))
   refine ls F W Aa (Al (v := Value.agg #[.int .i64 p1, .int .i64 p2]) 1 F Aa Aa J5 Aa).q fun a w F W => ?_
   refine ls F W Aa (Af DS Aa Aa Aa T3 F Aa 2 Aa).q fun a w F W => ?_
   refine ls F W Aa (Al (v := Value.int .i64 x2.2.2.1) 0 F Aa Aa T3 Aa).q fun a w F W => ?_
   refine ls F W Aa (Af DS Aa Aa Aa T3 F Aa 3 Aa).q fun a w F W => ?_
   refine ls F W Aa (Al (v := Value.int .i64 x2.2.2.2.1) 0 F Aa Aa T3 Aa).q fun a w F W => ?_
   refine ls F W Aa (Bx (v := Value.agg #[.int .i64 x2.2.2.1, .int .i64 x2.2.2.2.1]) Lb F Aa Aa Aa).q fun a w F W => ?_
   refine ls F W Aa (KQ (t := decide (p1 = x2.2.2.1 ∧ p2 = x2.2.2.2.1)) Oa (NC _ _ _ _) F Aa Aa).q fun a w F W => ?_
   refine Ad (Ac ?_)
   refine AA F Aa (fun hb => ?_) fun hb => ?_
   ·
    have H := Ba (BO hb) H
    rw [hb] at F
    clear hb
    refine Ah ?_
    refine Df W MO (by kernel_rfl) ?_
    refine qs F Aa (Af DS Aa Aa Aa T3 F Aa 0 Aa).q fun a F => ?_
    refine qs F Aa (Al (v := Value.int .i64 x2.1) 0 F Aa Aa T3 Aa).q fun a F => ?_
    refine qs F Aa (Af DS Aa Aa Aa T3 F Aa 1 Aa).q fun a F => ?_
    refine qs F Aa (Al (v := Value.int .i64 x2.2.1) 0 F Aa Aa T3 Aa).q fun a F => ?_
    refine qs F Aa (Ag F Aa).q fun a F => ?_
    iterate 4 refine qs F Aa (Ae F Aa).q fun a F => ?_
    refine Cf fun w W => ?_
    refine Ac (AB (AV ?_))
    iterate 2 refine AO ?_
    refine AV (AO ?_)
    have H := L2 _ H
    have H := L1 _ H
    have H := A1 H
    subst H
    refine Mb (.inl Aa) F W Aa (Aw F Aa) (Aw F Aa) (Aw F Aa) (Aw F Aa) ?_
    exact ⟨rfl, W.done⟩
   have H := A9 (BS hb) H
   rw [hb] at F
   clear hb
   refine As (AP (Ac (Ab ?_)))
   refine ls F W Aa (Dk F Aa Aa Aa).q fun a w F W => ?_
   refine ls F W Aa (Ag F Aa).q fun a w F W => ?_
   refine Ad (Ac ?_)
   have W := W.frontM (i := 2) Aa Aa
   have W := W.frontM (i := 2) Aa Aa
   have W := W.sub (M' := [(b2, [.int .i64 p1, .int .i64 p2]), (b1, [.int .i64 p0.1, v1, v2])]) (Z' := []) (List.Sublist.cons_cons _ (List.Sublist.cons_cons _ (List.nil_sublist _))) (List.Sublist.refl _)
   exact ⟨_, H, F.re ⟨rfl, Aa, Aa, Aa, Aa, Aa, Aa, Aa, trivial⟩, W⟩
  have H := A9 (BS hb) H
  rw [hb] at F
  clear hb
  refine BH ?_
  iterate 2 refine Cj ?_
  refine BI (Ac ?_)
  have W := W.frontM (i := 1) Aa Aa
  have W := W.frontM (i := 1) Aa Aa
  have H := L2 _ H
  exact ⟨H, F.re ⟨rfl, Aa, Aa, Aa, trivial⟩, W⟩
 rintro a w ⟨hj, F, W⟩
 have H := K1 _ hj
 clear hj G1 K1 L1
 refine Ah (Ab ?_)
 iterate 4 refine ls F W Aa (Ae F Aa).q fun a w F W => ?_
 refine Ad (Ac (AB ?_))
 have H := A1 H
 subst H
 refine Mb (.inl Aa) F W Aa (Aw F Aa) (Aw F Aa) (Aw F Aa) (Aw F Aa) ?_
 exact ⟨rfl, W.done⟩
theorem PF : Has Try.prog 69 := ⟨fun args w => Aj Try.func69 rfl (by decide) args w⟩
noncomputable def Dy (p0 : Int × (List (Int × Int × Int × Int × Int × Int)) × (List (Int × Int))) (p1 : List (List Int)) (p2 : Int) (p3 : Int) : Option (Int × Bool) := (if p2 < 0 then some true else (if (p1.length : Int) ≤ p2 then some true else (if p3 < 0 then some true else (ix p1 p2).bind fun x2 => some (decide ((x2.length : Int) ≤ p3))))).bind fun x1 => (if x1 = true then some (0, false) else (ix p1 p2).bind fun x3 => (ix x3 p3).bind fun x4 => (CI p0 p2 x4).bind fun x5 => some (x5.1, x5.2.2.2))
theorem Jd (Y : Nat → Prop) (w0 : World) (v1 : Value) (v2 : Value) (v3 : Value) (p0 : Int × (List (Int × Int × Int × Int × Int × Int)) × (List (Int × Int))) (p1 : List (List Int)) (p2 : Int) (p3 : Int) (r : Int × Bool) (H : Dy p0 p1 p2 p3 = some r) (h_v1 : Sl w0 (NX []) D6 v1 p0.2.1) (h_v2 : Sl w0 (NX []) FI v2 p0.2.2) (h_v3 : Sl w0 (NX []) (Rp.slice (Rp.int .i64)) v3 p1) :
    Calls Try.prog 62 #[.agg #[.int .i64 p0.1, v1, v2], v3, .int .i64 p2, .int .i64 p3] w0 fun e w' => e = .returned (.tuple #[.int .i64 r.1, .bool r.2]) ∧ Below w0.heap.size w0 w' := by
 refine enter Try.func62 Aa Try.ntmps62 Aa fun a F => ?_
 have W := Stw.start Y w0
 obtain ⟨v4, h1, h_v3⟩ := h_v3.ex F8
 unfold Dy at H
 refine Ah (Ab ?_)
 refine Cx (cs := [.int .i64 p0.1, v1, v2]) F W Aa Aa Aa fun b1 a w F W => ?_
 iterate 2 refine ls F W Aa (Ae F Aa).q fun a w F W => ?_
 refine Ad (Ac (Ah ?_))
 obtain ⟨o1, G1, K1⟩ := An H
 refine AR (fun a w => ∃ x1 : Bool, some (x1) = some o1 ∧ Fr 52 [] [(1, v3), (2, .int .i64 p2), (3, .int .i64 p3), (4, .pointer (some ⟨b1, 0, none⟩)), (8, .int .i64 0), (9, .bool false), (34, .bool x1)] a ∧ Stw ⟨Y, [], w0⟩ [(b1, [.int .i64 p0.1, v1, v2])] [] w) ?_ ?_
 ·
  have H := G1
  clear G1 K1
  refine Ab ?_
  refine ls F W Aa (Ag F Aa).q fun a w F W => ?_
  refine ls F W Aa (B0 F Aa Aa).q fun a w F W => ?_
  refine ls F W Aa (Ag F Aa).q fun a w F W => ?_
  rcases Bool.eq_false_or_eq_true (decide (p2 < 0)) with hb | hb
  ·
   have H := Ba (BO hb) H
   rw [hb] at F
   clear hb
   iterate 4 refine DU F Aa Aa Aa Aa Aa Aa Aa fun a F => ?_
   refine ls F W Aa (Ay F Aa Aa Aa).q fun a w F W => ?_
   refine ls F W Aa (Ag F Aa).q fun a w F W => ?_
   iterate 2 refine DU F Aa Aa Aa Aa Aa Aa Aa fun a F => ?_
   refine ls F W Aa (Ay F Aa Aa Aa).q fun a w F W => ?_
   refine ls F W Aa (Ag F Aa).q fun a w F W => ?_
   iterate 7 refine DU F Aa Aa Aa Aa Aa Aa Aa fun a F => ?_
   refine ls F W Aa (Ay F Aa Aa Aa).q fun a w F W => ?_
   refine Ad (Ac ?_)
   exact ⟨_, H, F.re ⟨rfl, Aa, Aa, Aa, Aa, Aa, Aa, trivial⟩, W⟩
  have H := A9 (BS hb) H
  rw [hb] at F
  clear hb
  iterate 2 refine AM F W (Ai F Aa Aa Aa Aa) Aa (Ao Aa) (Ag F Aa).q fun a w F W => ?_
  refine AM F W (Ai F Aa Aa Aa Aa) Aa (Ao Aa) (Bl (r := (Rp.slice (Rp.int .i64))) (l := p1) Lt Aa F Aa (Cc F8 h1 (Ak h_v3))).q fun a w F W => ?_
  refine AM F W (Ai F Aa Aa Aa Aa) Aa (Ao Aa) (E0 F Aa Aa).q fun a w F W => ?_
  refine ls F W Aa (AL F Aa Aa Aa).q fun a w F W => ?_
  refine ls F W Aa (Ag F Aa).q fun a w F W => ?_
  rcases Bool.eq_false_or_eq_true (decide ((p1.length : Int) ≤ p2)) with hb | hb
  ·
   have H := Ba (BO hb) H
   rw [hb] at F
   clear hb
   iterate 2 refine DU F Aa Aa Aa Aa Aa Aa Aa fun a F => ?_
   refine ls F W Aa (Ay F Aa Aa Aa).q fun a w F W => ?_
   refine ls F W Aa (Ag F Aa).q fun a w F W => ?_
   iterate 7 refine DU F Aa Aa Aa Aa Aa Aa Aa fun a F => ?_
   refine ls F W Aa (Ay F Aa Aa Aa).q fun a w F W => ?_
   refine Ad (Ac ?_)
   exact ⟨_, H, F.re ⟨rfl, Aa, Aa, Aa, Aa, Aa, Aa, trivial⟩, W⟩
  have H := A9 (BS hb) H
  rw [hb] at F
  clear hb
  refine AM F W (Ai F Aa Aa Aa Aa) Aa (Ao Aa) (Ag F Aa).q fun a w F W => ?_
  refine AM F W (Ai F Aa Aa Aa Aa) Aa (Ao Aa) (B0 F Aa Aa).q fun a w F W => ?_
  refine ls F W Aa (AL F Aa Aa Aa).q fun a w F W => ?_
  refine ls F W Aa (Ag F Aa).q fun a w F W => ?_
  rcases Bool.eq_false_or_eq_true (decide (p3 < 0)) with hb | hb
  ·
   have H := Ba (BO hb) H
   rw [hb] at F
   clear hb
   iterate 7 refine DU F Aa Aa Aa Aa Aa Aa Aa fun a F => ?_
   refine ls F W Aa (Ay F Aa Aa Aa).q fun a w F W => ?_
   refine Ad (Ac ?_)
   exact ⟨_, H, F.re ⟨rfl, Aa, Aa, Aa, Aa, Aa, Aa, trivial⟩, W⟩
  have H := A9 (BS hb) H
  rw [hb] at F
  clear hb
  iterate 3 refine AM F W (Ai F Aa Aa Aa Aa) Aa (Ao Aa) (Ag F Aa).q fun a w F W => ?_
  obtain ⟨x2, h2, H⟩ := An H
  obtain ⟨v5, h3, h4⟩ := EY h1 h2
  have h5 : Io v5 = [(v5.1)] := congrArg (fun q : List Int => ([(v5.1)] : List Value)) h4
  refine AM F W (Ai F Aa Aa Aa Aa) Aa (Ao Aa) (AU (r := (Rp.vsl (Rp.int .i64))) NY F Aa Aa (Ak h_v3) h3).q fun a w F W => ?_
  refine AM F W (Ai F Aa Aa Aa Aa) Aa (Ao Aa) (AC (y := (v5.1)) (j := 0) (i := p2) (enc := Io) F Aa Aa (Ak h_v3) h3 L7 Gy (by rw [h5]; rfl)).q fun a w F W => ?_
  refine AM F W (Ai F Aa Aa Aa Aa) Aa (Ao Aa) (Bl (r := (Rp.int .i64)) (l := x2) Gn Aa F Aa (E9 (Ak h_v3) h3 DR.here (congrArg (fun q : List Int => q) h4))).q fun a w F W => ?_
  refine AM F W (Ai F Aa Aa Aa Aa) Aa (Ao Aa) (E0 F Aa Aa).q fun a w F W => ?_
  refine ls F W Aa (AL F Aa Aa Aa).q fun a w F W => ?_
  refine Ad (Ac ?_)
  exact ⟨_, H, F.re ⟨rfl, Aa, Aa, Aa, Aa, Aa, Aa, trivial⟩, W⟩
 rintro a w ⟨x1, hj, F, W⟩
 have hj := A1 hj
 subst hj
 have H := K1
 clear G1 K1
 refine AA F Aa (fun hb => ?_) fun hb => ?_
 ·
  have H := Ba hb H
  rw [hb] at F
  clear hb
  refine Ah (Ab ?_)
  iterate 2 refine ls F W Aa (Ae F Aa).q fun a w F W => ?_
  refine Ad (Ac (AB (AO ?_)))
  have H := A1 H
  subst H
  refine Ib (.inl Aa) F W Aa (Aw F Aa) (Aw F Aa) ?_
  exact ⟨rfl, W.done⟩
 have H := A9 (by rw [hb]; decide) H
 rw [hb] at F
 clear hb
 refine As (Ac (Ah ?_))
 refine Df W MO (by kernel_rfl) ?_
 refine qs F Aa (Al (v := Value.agg #[.int .i64 p0.1, v1, v2]) 0 F Aa Aa JQ Aa).q fun a F => ?_
 iterate 3 refine qs F Aa (Ag F Aa).q fun a F => ?_
 obtain ⟨x3, h6, H⟩ := An H
 obtain ⟨v6, h7, h8⟩ := EY h1 h6
 have h9 : Io v6 = [(v6.1)] := congrArg (fun q : List Int => ([(v6.1)] : List Value)) h8
 refine qs F Aa (AU (r := (Rp.vsl (Rp.int .i64))) NY F Aa Aa (Ak h_v3) h7).q fun a F => ?_
 refine qs F Aa (AC (y := (v6.1)) (j := 0) (i := p2) (enc := Io) F Aa Aa (Ak h_v3) h7 L7 Gy (by rw [h9]; rfl)).q fun a F => ?_
 refine qs F Aa (Ag F Aa).q fun a F => ?_
 obtain ⟨x4, h10, H⟩ := An H
 refine qs F Aa (AU (r := (Rp.int .i64)) Jy F Aa Aa (E9 (Ak h_v3) h7 DR.here (congrArg (fun q : List Int => q) h8)) h10).q fun a F => ?_
 refine qs F Aa (AC (y := Value.int .i64 x4) (j := 0) (i := p3) F Aa Aa (E9 (Ak h_v3) h7 DR.here (congrArg (fun q : List Int => q) h8)) h10 Fl.int.to T3 Aa).q fun a F => ?_
 obtain ⟨x5, h11, H⟩ := An H
 refine qs F Aa (Ch (v := Value.tuple #[.int .i64 x5.1, .int .i64 x5.2.1, .int .i64 x5.2.2.1, .bool x5.2.2.2]) F PF Aa (fun w W => Jz any w (v1) (v2) p0 p2 x4 _ h11 (((Ak h_v1) : DV _ _ _ _ _ _) w W).nx (((Ak h_v2) : DV _ _ _ _ _ _) w W).nx)) fun a F => ?_
 refine qs F Aa (Ag F Aa).q fun a F => ?_
 refine qs F Aa (BV (v := Value.int .i64 x5.1) F Aa Aa).q fun a F => ?_
 refine qs F Aa (BV (v := Value.int .i64 x5.2.1) F Aa Aa).q fun a F => ?_
 refine qs F Aa (BV (v := Value.int .i64 x5.2.2.1) F Aa Aa).q fun a F => ?_
 refine qs F Aa (BV (v := Value.bool x5.2.2.2) F Aa Aa).q fun a F => ?_
 iterate 4 refine qs F Aa (Ae F Aa).q fun a F => ?_
 refine Cf fun w W => ?_
 refine Ac (Ah (Ab ?_))
 iterate 2 refine ls F W Aa (Ag F Aa).q fun a w F W => ?_
 iterate 2 refine ls F W Aa (Ae F Aa).q fun a w F W => ?_
 refine Ad (Ac (AB ?_))
 have H := A1 H
 subst H
 refine Ib (.inl Aa) F W Aa (Aw F Aa) (Aw F Aa) ?_
 exact ⟨rfl, W.done⟩
theorem Ph : Has Try.prog 62 := ⟨fun args w => Aj Try.func62 rfl (by decide) args w⟩
noncomputable def Bu (p0 : List Int) (p1 : Int) : Int → Option (Int ⊕ (Unit ⊕ Bool))
  | x1 => (if x1 < (p0.length : Int) then (ix p0 x1).bind fun x2 => (if p1 = x2 then some (.inr (.inr true)) else some (.inl (DC (x1 + 1)))) else some (.inr (.inl ())))
noncomputable def BL (p0 : List Int) (p1 : Int) : Option Bool := DQ (AF (Bu p0 p1) 0) fun _ => some false
theorem FJ (Y : Nat → Prop) (w0 : World) (v1 : Value) (p0 : List Int) (p1 : Int) (r : Bool) (H : BL p0 p1 = some r) (h_v1 : Sl w0 (NX []) (Rp.int .i64) v1 p0) :
    Calls Try.prog 63 #[v1, .int .i64 p1] w0 fun e w' => e = .returned (.bool r) ∧ Below w0.heap.size w0 w' := by
 refine enter Try.func63 Aa Try.ntmps63 Aa fun a F => ?_
 have W := Stw.start Y w0
 unfold BL at H
 refine Ah (Ab ?_)
 refine ls F W Aa (Ae F Aa).q fun a w F W => ?_
 refine Ad (Ac ?_)
 obtain ⟨o1, G1, K1, L1⟩ := KM H
 refine AR (fun a w => some (Sum.inl ()) = some o1 ∧ Fr 17 [] [(4, .bool false)] a ∧ Stw ⟨Y, [], w0⟩ [] [] w) ?_ ?_
 ·
  have H := G1
  clear G1 K1
  refine Ah (Ab ?_)
  refine ls F W Aa (Ag F Aa).q fun a w F W => ?_
  refine ls F W Aa (Bl (r := (Rp.int .i64)) (l := p0) Gn Aa F Aa (Ak h_v1)).q fun a w F W => ?_
  refine ls F W Aa (Ag F Aa).q fun a w F W => ?_
  refine Ad (Ac (Ax ?_))
  refine BZ H (fun s a w => Fr 17 [] [(1, .int .i64 p1), (4, .bool false), (7, v1), (8, .int .i64 (p0.length : Int)), (9, .int .i64 s)] a ∧ Stw ⟨Y, [], w0⟩ [] [] w) ⟨F.re ⟨rfl, Aa, Aa, Aa, Aa, trivial⟩, W⟩ fun s o a w H L2 hR => ?_
  obtain ⟨x1, rfl⟩ : ∃ x, x = s := ⟨s, rfl⟩
  obtain ⟨F, W⟩ := hR
  have F : Fr 17 [] [(1, .int .i64 p1), (4, .bool false), (7, v1), (8, .int .i64 (p0.length : Int)), (9, .int .i64 x1)] a := F
  have W : Stw ⟨Y, [], w0⟩ [] [] w := W
  rw [Bu] at H
  refine Ah (Ab ?_)
  refine ls F W Aa (B0 F Aa Aa).q fun a w F W => ?_
  refine Ad (Ac (Ah ?_))
  refine AA F Aa (fun hb => ?_) fun hb => ?_
  ·
   have H := Ba (BO hb) H
   rw [hb] at F
   clear hb
   refine As (Ac (Ah (Ax (Ah (Ab ?_)))))
   obtain ⟨x2, h1, H⟩ := An H
   refine ls F W Aa (AU (r := (Rp.int .i64)) Jy F Aa Aa (Ak h_v1) h1).q fun a w F W => ?_
   refine ls F W Aa (AC (y := Value.int .i64 x2) (j := 0) (i := x1) F Aa Aa (Ak h_v1) h1 Fl.int.to T3 Aa).q fun a w F W => ?_
   refine ls F W Aa (Ae F Aa).q fun a w F W => ?_
   refine Ad (Ac (Ah (Ab ?_)))
   iterate 2 refine ls F W Aa (Ag F Aa).q fun a w F W => ?_
   refine ls F W Aa (C9 F Aa Aa).q fun a w F W => ?_
   refine Ad (Ac ?_)
   refine AA F Aa (fun hb => ?_) fun hb => ?_
   ·
    have H := Ba (BO hb) H
    rw [hb] at F
    clear hb
    refine Ah (Ab ?_)
    refine ls F W Aa (Ae F Aa).q fun a w F W => ?_
    refine Ad (Ac (AB (AV ?_)))
    iterate 2 refine AO ?_
    refine AV (AO ?_)
    have H := L2 _ H
    have H := L1 _ H
    have H := A1 H
    subst H
    refine Be (.inl Aa) F W Aa (Aw F Aa) ?_
    exact ⟨rfl, W.done⟩
   have H := A9 (BS hb) H
   rw [hb] at F
   clear hb
   refine As (AP (Ac (Ab ?_)))
   refine ls F W Aa (Dk F Aa Aa Aa).q fun a w F W => ?_
   refine ls F W Aa (Ag F Aa).q fun a w F W => ?_
   refine Ad (Ac ?_)
   exact ⟨_, H, F.re ⟨rfl, Aa, Aa, Aa, Aa, trivial⟩, W⟩
  have H := A9 (BS hb) H
  rw [hb] at F
  clear hb
  refine BH ?_
  iterate 2 refine Cj ?_
  refine BI (Ac ?_)
  have H := L2 _ H
  exact ⟨H, F.re ⟨rfl, trivial⟩, W⟩
 rintro a w ⟨hj, F, W⟩
 have H := K1 _ hj
 clear hj G1 K1 L1
 refine Ah (Ab ?_)
 refine ls F W Aa (Ae F Aa).q fun a w F W => ?_
 refine Ad (Ac (AB ?_))
 have H := A1 H
 subst H
 refine Be (.inl Aa) F W Aa (Aw F Aa) ?_
 exact ⟨rfl, W.done⟩
theorem Pv : Has Try.prog 63 := ⟨fun args w => Aj Try.func63 rfl (by decide) args w⟩
noncomputable def B2 (p0 : Int × (List (Int × Int × Int × Int × Int × Int)) × (List (Int × Int))) (p1 : List (List Int)) (p3 : Int) : (Int × List Int) → Option ((Int × List Int) ⊕ ((List Int) ⊕ (List Int × Int)))
  | (x2, x3) => (ix p1 x2).bind fun x4 => (ix x4 p3).bind fun x5 => (CQ p0 x2 x5).bind fun x6 => (if x6 ≠ p3 then (Dy p0 p1 x2 p3).bind fun x7 => (if (!x7.2) = true then some (.inr (.inr (([] : List Int), 13))) else (BL x3 x7.1).bind fun x8 => (if x8 = true then some (.inr (.inr (([] : List Int), 12))) else (Fo x3 ([x7.1] : List Int)).bind fun x9 => some (.inl (x7.1, x9)))) else some (.inr (.inl x3)))
noncomputable def Dw (p0 : Int × (List (Int × Int × Int × Int × Int × Int)) × (List (Int × Int))) (p1 : List (List Int)) (p2 : Int) (p3 : Int) : Option (List Int × Int) := DQ (AF (B2 p0 p1 p3) (p2, ([p2] : List Int))) fun x1 => some (x1, 0)
theorem Jv (Y : Nat → Prop) (w0 : World) (v1 : Value) (v2 : Value) (v3 : Value) (p0 : Int × (List (Int × Int × Int × Int × Int × Int)) × (List (Int × Int))) (p1 : List (List Int)) (p2 : Int) (p3 : Int) (r : List Int × Int) (H : Dw p0 p1 p2 p3 = some r) (h_v1 : Sl w0 (NX []) D6 v1 p0.2.1) (h_v2 : Sl w0 (NX []) FI v2 p0.2.2) (h_v3 : Sl w0 (NX []) (Rp.slice (Rp.int .i64)) v3 p1) :
    Calls Try.prog 55 #[.agg #[.int .i64 p0.1, v1, v2], v3, .int .i64 p2, .int .i64 p3] w0 fun e w' => ∃ x : Value, e = .returned (.tuple #[x, .int .i64 r.2]) ∧ Stw ⟨Y, [], w0⟩ [] [row (x) 3 (Rp.int .i64) r.1] w' := by
 refine enter Try.func55 Aa Try.ntmps55 Aa fun a F => ?_
 have W := Stw.start Y w0
 obtain ⟨v4, h1, h_v3⟩ := h_v3.ex F8
 unfold Dw at H
 refine Ah (Ab ?_)
 refine Cx (cs := [.int .i64 p0.1, v1, v2]) F W Aa Aa Aa fun b1 a w F W => ?_
 iterate 2 refine ls F W Aa (Ae F Aa).q fun a w F W => ?_
 refine Ad (Ac (Ah (Ab ?_)))
 refine ls F W Aa (Ag F Aa).q fun a w F W => ?_
 refine Do (z := Value.int .i64 0) (cs := [.int .i64 p2]) (Rp.int .i64) ([p2] : List Int) F W Aa Jy Z3 Aa Aa Aa Aa Aa Aa (Fl.int.repL _ _ ([p2] : List Int)) fun v5 a w F W => ?_
 refine ls F W Aa (Ae F Aa).q fun a w F W => ?_
 refine Ad (Ac ?_)
 obtain ⟨o1, G1, K1, L1⟩ := KM H
 refine AR (fun a w => ∃ x1 : List Int, ∃ v6 : Value, some (Sum.inl x1) = some o1 ∧ Fr 46 [] [(8, .slice none 0 0), (9, .int .i64 0), (10, v6)] a ∧ Stw ⟨Y, [], w0⟩ [(b1, [.int .i64 p0.1, v1, v2])] [row v6 3 (Rp.int .i64) x1] w) ?_ ?_
 ·
  have H := G1
  clear G1 K1
  refine Ax ?_
  refine BZ H (fun s a w => ∃ v7 : Value, Fr 46 [] [(1, v3), (2, .int .i64 s.1), (3, .int .i64 p3), (4, .pointer (some ⟨b1, 0, none⟩)), (8, .slice none 0 0), (9, .int .i64 0), (10, v7)] a ∧ Stw ⟨Y, [], w0⟩ [(b1, [.int .i64 p0.1, v1, v2])] [row v7 3 (Rp.int .i64) s.2] w) ⟨(v5), F.re ⟨rfl, Aa, Aa, Aa, Aa, Aa, Aa, trivial⟩, W⟩ fun s o a w H L2 hR => ?_
  obtain ⟨x2, x3⟩ := s
  obtain ⟨v7, F, W⟩ := hR
  have F : Fr 46 [] [(1, v3), (2, .int .i64 x2), (3, .int .i64 p3), (4, .pointer (some ⟨b1, 0, none⟩)), (8, .slice none 0 0), (9, .int .i64 0), (10, v7)] a := F
  have W : Stw ⟨Y, [], w0⟩ [(b1, [.int .i64 p0.1, v1, v2])] [row v7 3 (Rp.int .i64) x3] w := W
  rw [B2] at H
  iterate 2 refine Ah ?_
  refine Df W MO (by kernel_rfl) ?_
  refine qs F Aa (Al (v := Value.agg #[.int .i64 p0.1, v1, v2]) 0 F Aa Aa JQ Aa).q fun a F => ?_
  iterate 3 refine qs F Aa (Ag F Aa).q fun a F => ?_
  obtain ⟨x4, h2, H⟩ := An H
  obtain ⟨v8, h3, h4⟩ := EY h1 h2
  have h5 : Io v8 = [(v8.1)] := congrArg (fun q : List Int => ([(v8.1)] : List Value)) h4
  refine qs F Aa (AU (r := (Rp.vsl (Rp.int .i64))) NY F Aa Aa (Ak h_v3) h3).q fun a F => ?_
  refine qs F Aa (AC (y := (v8.1)) (j := 0) (i := x2) (enc := Io) F Aa Aa (Ak h_v3) h3 L7 Gy (by rw [h5]; rfl)).q fun a F => ?_
  refine qs F Aa (Ag F Aa).q fun a F => ?_
  obtain ⟨x5, h6, H⟩ := An H
  refine qs F Aa (AU (r := (Rp.int .i64)) Jy F Aa Aa (E9 (Ak h_v3) h3 DR.here (congrArg (fun q : List Int => q) h4)) h6).q fun a F => ?_
  refine qs F Aa (AC (y := Value.int .i64 x5) (j := 0) (i := p3) F Aa Aa (E9 (Ak h_v3) h3 DR.here (congrArg (fun q : List Int => q) h4)) h6 Fl.int.to T3 Aa).q fun a F => ?_
  obtain ⟨x6, h7, H⟩ := An H
  refine qs F Aa (Ch (v := Value.int .i64 x6) F P6 Aa (fun w W => Iw any w (v1) (v2) p0 x2 x5 _ h7 (((Ak h_v1) : DV _ _ _ _ _ _) w W).nx (((Ak h_v2) : DV _ _ _ _ _ _) w W).nx)) fun a F => ?_
  refine qs F Aa (Ag F Aa).q fun a F => ?_
  refine qs F Aa (GO F Aa Aa).q fun a F => ?_
  refine Cf fun w W => ?_
  refine Ac ?_
  refine AA F Aa (fun hb => ?_) fun hb => ?_
  ·
   have H := Ba (BO hb) H
   rw [hb] at F
   clear hb
   refine As (Ac (Ax (Ah (Ab ?_))))
   refine ls F W Aa (Al (v := Value.agg #[.int .i64 p0.1, v1, v2]) 0 F Aa Aa JQ Aa).q fun a w F W => ?_
   iterate 3 refine ls F W Aa (Ag F Aa).q fun a w F W => ?_
   obtain ⟨x7, h8, H⟩ := An H
   refine ls F W Aa (Ch (v := Value.tuple #[.int .i64 x7.1, .bool x7.2]) F Ph Aa (fun w W => Jd any w (v1) (v2) (v3) p0 p1 x2 p3 _ h8 (((Ak h_v1) : DV _ _ _ _ _ _) w W).nx (((Ak h_v2) : DV _ _ _ _ _ _) w W).nx (((Cc F8 h1 (Ak h_v3)) : DV _ _ _ _ _ _) w W).nx)) fun a w F W => ?_
   refine ls F W Aa (Ag F Aa).q fun a w F W => ?_
   refine ls F W Aa (BV (v := Value.int .i64 x7.1) F Aa Aa).q fun a w F W => ?_
   refine ls F W Aa (BV (v := Value.bool x7.2) F Aa Aa).q fun a w F W => ?_
   iterate 2 refine ls F W Aa (Ae F Aa).q fun a w F W => ?_
   refine Ad (Ac (Ah (Ah (Ab ?_))))
   refine ls F W Aa (Ag F Aa).q fun a w F W => ?_
   refine ls F W Aa (Ga F Aa).q fun a w F W => ?_
   refine Ad (Ac ?_)
   refine AA F Aa (fun hb => ?_) fun hb => ?_
   ·
    have H := Ba hb H
    rw [hb] at F
    clear hb
    refine Ah (Ab ?_)
    iterate 2 refine ls F W Aa (Ae F Aa).q fun a w F W => ?_
    refine Ad (Ac (AB (AO (AV (AO (AV (AO ?_)))))))
    have H := L2 _ H
    have H := L1 _ H
    have H := A1 H
    subst H
    refine Ib (.inl Aa) F W Aa (Aw F Aa) (Aw F Aa) ?_
    have W := W.nilRow 3 (Rp.int .i64)
    have W := W.sub (M' := []) (Z' := [row (Value.slice none 0 0) 3 (Rp.int .i64) ([])]) (List.nil_sublist _) (List.Sublist.cons_cons _ (List.nil_sublist _))
    exact ⟨(Value.slice none 0 0), Aa, W⟩
   have H := A9 (by rw [hb]; decide) H
   rw [hb] at F
   clear hb
   refine As (Ac (Ah (Ah (Ab ?_))))
   iterate 2 refine ls F W Aa (Ag F Aa).q fun a w F W => ?_
   obtain ⟨x8, h9, H⟩ := An H
   refine ls F W Aa (Ch (v := Value.bool x8) F Pv Aa (fun w W => FJ any w (v7) x3 x7.1 _ h9 (((AN 0 Aa) : DV _ _ _ _ _ _) w W).nx)) fun a w F W => ?_
   refine Ad (Ac ?_)
   refine AA F Aa (fun hb => ?_) fun hb => ?_
   ·
    have H := Ba hb H
    rw [hb] at F
    clear hb
    refine Ah (Ab ?_)
    iterate 2 refine ls F W Aa (Ae F Aa).q fun a w F W => ?_
    refine Ad (Ac (AB (AO (AV (AO (AV (AO ?_)))))))
    have H := L2 _ H
    have H := L1 _ H
    have H := A1 H
    subst H
    refine Ib (.inl Aa) F W Aa (Aw F Aa) (Aw F Aa) ?_
    have W := W.nilRow 3 (Rp.int .i64)
    have W := W.sub (M' := []) (Z' := [row (Value.slice none 0 0) 3 (Rp.int .i64) ([])]) (List.nil_sublist _) (List.Sublist.cons_cons _ (List.nil_sublist _))
    exact ⟨(Value.slice none 0 0), Aa, W⟩
   have H := A9 (by rw [hb]; decide) H
   rw [hb] at F
   clear hb
   refine As (Ac (Ah (Ab ?_)))
   iterate 2 refine ls F W Aa (Ag F Aa).q fun a w F W => ?_
   refine Do (z := Value.int .i64 0) (cs := [.int .i64 x7.1]) (Rp.int .i64) ([x7.1] : List Int) F W Aa Jy Z3 Aa Aa Aa Aa Aa Aa (Fl.int.repL _ _ ([x7.1] : List Int)) fun v9 a w F W => ?_
   obtain ⟨x9, h10, H⟩ := An H
   refine Cr (r := (Rp.int .i64)) (i := 1) F W Aa Jy Aa Aa Aa Aa (C5 W 0 Aa) h10 Aa fun v10 a w F W => ?_
   have W : Stw ⟨Y, [], w0⟩ [(b1, [.int .i64 p0.1, v1, v2])] [row v10 3 (Rp.int .i64) x9, row v9 3 (Rp.int .i64) ([x7.1] : List Int)] w := W
   refine ls F W Aa (Ae F Aa).q fun a w F W => ?_
   refine Ad (Ac (Ab ?_))
   refine ls F W Aa (Ag F Aa).q fun a w F W => ?_
   refine ls F W Aa (Ae F Aa).q fun a w F W => ?_
   refine Ad (AP (Ac ?_))
   have W := W.sub (M' := [(b1, [.int .i64 p0.1, v1, v2])]) (Z' := [row v10 3 (Rp.int .i64) x9]) (List.Sublist.refl _) (List.Sublist.cons_cons _ (List.nil_sublist _))
   exact ⟨_, H, (v10), F.re ⟨rfl, Aa, Aa, Aa, Aa, Aa, Aa, trivial⟩, W⟩
  have H := A9 (BS hb) H
  rw [hb] at F
  clear hb
  refine BH ?_
  iterate 2 refine Cj ?_
  refine BI (Ac ?_)
  have H := L2 _ H
  exact ⟨_, (v7), H, F.re ⟨rfl, Aa, Aa, trivial⟩, W⟩
 rintro a w ⟨x1, v6, hj, F, W⟩
 have H := K1 _ hj
 clear hj G1 K1 L1
 refine Ah (Ab ?_)
 refine ls F W Aa (Ag F Aa).q fun a w F W => ?_
 iterate 2 refine ls F W Aa (Ae F Aa).q fun a w F W => ?_
 refine Ad (Ac (AB ?_))
 have H := A1 H
 subst H
 refine Ib (.inl Aa) F W Aa (Aw F Aa) (Aw F Aa) ?_
 have W := W.sub (M' := []) (Z' := [row v6 3 (Rp.int .i64) x1]) (List.nil_sublist _) (List.Sublist.refl _)
 exact ⟨(v6), Aa, W⟩
theorem Pn : Has Try.prog 55 := ⟨fun args w => Aj Try.func55 rfl (by decide) args w⟩
noncomputable def CE (p0 : Int × (List (Int × Int × Int × Int × Int × Int)) × (List (Int × Int))) (p1 : List (List Int)) (p2 : Int) (p3 : Int) : Option (List Int × Int) := ((Da p0 p1).bind fun x2 => (if (!x2) = true then some true else (if p2 < 0 then some true else (if p0.1 ≤ p2 then some true else (if p3 < 0 then some true else some (decide ((p0.2.2.length : Int) ≤ p3))))))).bind fun x1 => (if x1 = true then some (([] : List Int), 2) else (Dw p0 p1 p2 p3).bind fun x3 => some (x3.1, x3.2))
theorem Jt (Y : Nat → Prop) (w0 : World) (v1 : Value) (v2 : Value) (v3 : Value) (p0 : Int × (List (Int × Int × Int × Int × Int × Int)) × (List (Int × Int))) (p1 : List (List Int)) (p2 : Int) (p3 : Int) (r : List Int × Int) (H : CE p0 p1 p2 p3 = some r) (h_v1 : Sl w0 (NX []) D6 v1 p0.2.1) (h_v2 : Sl w0 (NX []) FI v2 p0.2.2) (h_v3 : Sl w0 (NX []) (Rp.slice (Rp.int .i64)) v3 p1) :
    Calls Try.prog 44 #[.agg #[.int .i64 p0.1, v1, v2], v3, .int .i64 p2, .int .i64 p3] w0 fun e w' => ∃ x : Value, e = .returned (.tuple #[x, .int .i64 r.2]) ∧ Stw ⟨Y, [], w0⟩ [] [row (x) 3 (Rp.int .i64) r.1] w' := by
 refine enter Try.func44 Aa Try.ntmps44 Aa fun a F => ?_
 have W := Stw.start Y w0
 obtain ⟨v4, h1, h_v3⟩ := h_v3.ex F8
 unfold CE at H
 refine Ah (Ab ?_)
 refine Cx (cs := [.int .i64 p0.1, v1, v2]) F W Aa Aa Aa fun b1 a w F W => ?_
 iterate 2 refine ls F W Aa (Ae F Aa).q fun a w F W => ?_
 refine Ad (Ac (Ah ?_))
 obtain ⟨o1, G1, K1⟩ := An H
 refine AR (fun a w => ∃ x1 : Bool, some (x1) = some o1 ∧ Fr 42 [] [(1, v3), (2, .int .i64 p2), (3, .int .i64 p3), (4, .pointer (some ⟨b1, 0, none⟩)), (8, .slice none 0 0), (9, .int .i64 0), (34, .bool x1)] a ∧ Stw ⟨Y, [], w0⟩ [(b1, [.int .i64 p0.1, v1, v2])] [] w) ?_ ?_
 ·
  have H := G1
  clear G1 K1
  refine Ab ?_
  refine ls F W Aa (Al (v := Value.agg #[.int .i64 p0.1, v1, v2]) 0 F Aa Aa JQ Aa).q fun a w F W => ?_
  refine ls F W Aa (Ag F Aa).q fun a w F W => ?_
  obtain ⟨x2, h2, H⟩ := An H
  refine ls F W Aa (Ch (v := Value.bool x2) F Pg Aa (fun w W => IC any w (v1) (v2) (v3) p0 p1 _ h2 (((Ak h_v1) : DV _ _ _ _ _ _) w W).nx (((Ak h_v2) : DV _ _ _ _ _ _) w W).nx (((Cc F8 h1 (Ak h_v3)) : DV _ _ _ _ _ _) w W).nx)) fun a w F W => ?_
  refine ls F W Aa (Ga F Aa).q fun a w F W => ?_
  refine ls F W Aa (Ag F Aa).q fun a w F W => ?_
  rcases Bool.eq_false_or_eq_true (!x2) with hb | hb
  ·
   have H := Ba hb H
   rw [hb] at F
   clear hb
   iterate 2 refine DU F Aa Aa Aa Aa Aa Aa Aa fun a F => ?_
   refine ls F W Aa (Ay F Aa Aa Aa).q fun a w F W => ?_
   refine ls F W Aa (Ag F Aa).q fun a w F W => ?_
   iterate 4 refine DU F Aa Aa Aa Aa Aa Aa Aa fun a F => ?_
   refine ls F W Aa (Ay F Aa Aa Aa).q fun a w F W => ?_
   refine ls F W Aa (Ag F Aa).q fun a w F W => ?_
   iterate 2 refine DU F Aa Aa Aa Aa Aa Aa Aa fun a F => ?_
   refine ls F W Aa (Ay F Aa Aa Aa).q fun a w F W => ?_
   refine ls F W Aa (Ag F Aa).q fun a w F W => ?_
   iterate 5 refine DU F Aa Aa Aa Aa Aa Aa Aa fun a F => ?_
   refine ls F W Aa (Ay F Aa Aa Aa).q fun a w F W => ?_
   refine Ad (Ac ?_)
   exact ⟨_, H, F.re ⟨rfl, Aa, Aa, Aa, Aa, Aa, Aa, trivial⟩, W⟩
  have H := A9 (by rw [hb]; decide) H
  rw [hb] at F
  clear hb
  refine AM F W (Ai F Aa Aa Aa Aa) Aa (Ao Aa) (Ag F Aa).q fun a w F W => ?_
  refine AM F W (Ai F Aa Aa Aa Aa) Aa (Ao Aa) (B0 F Aa Aa).q fun a w F W => ?_
  refine ls F W Aa (AL F Aa Aa Aa).q fun a w F W => ?_
  refine ls F W Aa (Ag F Aa).q fun a w F W => ?_
  rcases Bool.eq_false_or_eq_true (decide (p2 < 0)) with hb | hb
  ·
   have H := Ba (BO hb) H
   rw [hb] at F
   clear hb
   iterate 4 refine DU F Aa Aa Aa Aa Aa Aa Aa fun a F => ?_
   refine ls F W Aa (Ay F Aa Aa Aa).q fun a w F W => ?_
   refine ls F W Aa (Ag F Aa).q fun a w F W => ?_
   iterate 2 refine DU F Aa Aa Aa Aa Aa Aa Aa fun a F => ?_
   refine ls F W Aa (Ay F Aa Aa Aa).q fun a w F W => ?_
   refine ls F W Aa (Ag F Aa).q fun a w F W => ?_
   iterate 5 refine DU F Aa Aa Aa Aa Aa Aa Aa fun a F => ?_
   refine ls F W Aa (Ay F Aa Aa Aa).q fun a w F W => ?_
   refine Ad (Ac ?_)
   exact ⟨_, H, F.re ⟨rfl, Aa, Aa, Aa, Aa, Aa, Aa, trivial⟩, W⟩
  have H := A9 (BS hb) H
  rw [hb] at F
  clear hb
  refine AM F W (Ai F Aa Aa Aa Aa) Aa (Ao Aa) (Ag F Aa).q fun a w F W => ?_
  refine AM F W (Ai F Aa Aa Aa Aa) Aa (Ao Aa) (Af FM Aa Aa Aa T3 F Aa 0 Aa).q fun a w F W => ?_
  refine AM F W (Ai F Aa Aa Aa Aa) Aa (Ao Aa) (Al (v := Value.int .i64 p0.1) 0 F Aa Aa T3 Aa).q fun a w F W => ?_
  refine AM F W (Ai F Aa Aa Aa Aa) Aa (Ao Aa) (E0 F Aa Aa).q fun a w F W => ?_
  refine ls F W Aa (AL F Aa Aa Aa).q fun a w F W => ?_
  refine ls F W Aa (Ag F Aa).q fun a w F W => ?_
  rcases Bool.eq_false_or_eq_true (decide (p0.1 ≤ p2)) with hb | hb
  ·
   have H := Ba (BO hb) H
   rw [hb] at F
   clear hb
   iterate 2 refine DU F Aa Aa Aa Aa Aa Aa Aa fun a F => ?_
   refine ls F W Aa (Ay F Aa Aa Aa).q fun a w F W => ?_
   refine ls F W Aa (Ag F Aa).q fun a w F W => ?_
   iterate 5 refine DU F Aa Aa Aa Aa Aa Aa Aa fun a F => ?_
   refine ls F W Aa (Ay F Aa Aa Aa).q fun a w F W => ?_
   refine Ad (Ac ?_)
   exact ⟨_, H, F.re ⟨rfl, Aa, Aa, Aa, Aa, Aa, Aa, trivial⟩, W⟩
  have H := A9 (BS hb) H
  rw [hb] at F
  clear hb
  refine AM F W (Ai F Aa Aa Aa Aa) Aa (Ao Aa) (Ag F Aa).q fun a w F W => ?_
  refine AM F W (Ai F Aa Aa Aa Aa) Aa (Ao Aa) (B0 F Aa Aa).q fun a w F W => ?_
  refine ls F W Aa (AL F Aa Aa Aa).q fun a w F W => ?_
  refine ls F W Aa (Ag F Aa).q fun a w F W => ?_
  rcases Bool.eq_false_or_eq_true (decide (p3 < 0)) with hb | hb
  ·
   have H := Ba (BO hb) H
   rw [hb] at F
   clear hb
   iterate 5 refine DU F Aa Aa Aa Aa Aa Aa Aa fun a F => ?_
   refine ls F W Aa (Ay F Aa Aa Aa).q fun a w F W => ?_
   refine Ad (Ac ?_)
   exact ⟨_, H, F.re ⟨rfl, Aa, Aa, Aa, Aa, Aa, Aa, trivial⟩, W⟩
  have H := A9 (BS hb) H
  rw [hb] at F
  clear hb
  refine AM F W (Ai F Aa Aa Aa Aa) Aa (Ao Aa) (Ag F Aa).q fun a w F W => ?_
  refine AM F W (Ai F Aa Aa Aa Aa) Aa (Ao Aa) (Af FM Aa Aa Aa Lv F Aa 2 Aa).q fun a w F W => ?_
  refine AM F W (Ai F Aa Aa Aa Aa) Aa (Ao Aa) (Al (v := v2) 0 F Aa Aa Lv Aa).q fun a w F W => ?_
  refine AM F W (Ai F Aa Aa Aa Aa) Aa (Ao Aa) (Bl (r := FI) (l := p0.2.2) J9 Aa F Aa (Ak h_v2)).q fun a w F W => ?_
  refine AM F W (Ai F Aa Aa Aa Aa) Aa (Ao Aa) (E0 F Aa Aa).q fun a w F W => ?_
  refine ls F W Aa (AL F Aa Aa Aa).q fun a w F W => ?_
  refine Ad (Ac ?_)
  exact ⟨_, H, F.re ⟨rfl, Aa, Aa, Aa, Aa, Aa, Aa, trivial⟩, W⟩
 rintro a w ⟨x1, hj, F, W⟩
 have hj := A1 hj
 subst hj
 have H := K1
 clear G1 K1
 refine AA F Aa (fun hb => ?_) fun hb => ?_
 ·
  have H := Ba hb H
  rw [hb] at F
  clear hb
  refine Ah (Ab ?_)
  iterate 2 refine ls F W Aa (Ae F Aa).q fun a w F W => ?_
  refine Ad (Ac (AB (AO ?_)))
  have H := A1 H
  subst H
  refine Ib (.inl Aa) F W Aa (Aw F Aa) (Aw F Aa) ?_
  have W := W.nilRow 3 (Rp.int .i64)
  have W := W.sub (M' := []) (Z' := [row (Value.slice none 0 0) 3 (Rp.int .i64) ([])]) (List.nil_sublist _) (List.Sublist.refl _)
  exact ⟨(Value.slice none 0 0), Aa, W⟩
 have H := A9 (by rw [hb]; decide) H
 rw [hb] at F
 clear hb
 refine As (Ac (Ah (Ab ?_)))
 refine ls F W Aa (Al (v := Value.agg #[.int .i64 p0.1, v1, v2]) 0 F Aa Aa JQ Aa).q fun a w F W => ?_
 iterate 3 refine ls F W Aa (Ag F Aa).q fun a w F W => ?_
 obtain ⟨x3, h3, H⟩ := An H
 refine Cw (Ml := []) (Zl := []) (M := [(b1, [.int .i64 p0.1, v1, v2])]) (Z := []) (β := Value) (rv := fun x => .tuple #[x, .int .i64 x3.2]) (MM := fun x => []) (ZZ := fun x => [row x 3 (Rp.int .i64) x3.1]) F W Pn Aa Aa (fun hL => Jv _ w (v1) (v2) (v3) p0 p1 p2 p3 _ h3 ((Ak h_v1) w W).nx ((Ak h_v2) w W).nx ((Cc F8 h1 (Ak h_v3)) w W).nx) fun x a w F W => ?_
 obtain ⟨v5, rfl⟩ : ∃ y, y = x := ⟨x, rfl⟩
 have W : Stw ⟨Y, [], w0⟩ [(b1, [.int .i64 p0.1, v1, v2])] [row v5 3 (Rp.int .i64) x3.1] w := W
 refine ls F W Aa (BV (v := v5) F Aa Aa).q fun a w F W => ?_
 refine ls F W Aa (BV (v := Value.int .i64 x3.2) F Aa Aa).q fun a w F W => ?_
 iterate 2 refine ls F W Aa (Ae F Aa).q fun a w F W => ?_
 refine Ad (Ac (AB ?_))
 have H := A1 H
 subst H
 refine Ib (.inl Aa) F W Aa (Aw F Aa) (Aw F Aa) ?_
 have W := W.sub (M' := []) (Z' := [row v5 3 (Rp.int .i64) x3.1]) (List.nil_sublist _) (List.Sublist.refl _)
 exact ⟨(v5), Aa, W⟩
theorem Pl : Has Try.prog 44 := ⟨fun args w => Aj Try.func44 rfl (by decide) args w⟩
noncomputable def A8 (p0 : List Int) (p1 : List Int) : Int → Option (Int ⊕ (Unit ⊕ Bool))
  | x1 => (if x1 < (p0.length : Int) then (ix p0 x1).bind fun x2 => (ix p1 x1).bind fun x3 => (if x2 ≠ x3 then some (.inr (.inr false)) else some (.inl (DC (x1 + 1)))) else some (.inr (.inl ())))
noncomputable def Bz (p0 : List Int) (p1 : List Int) : Option Bool := (if (p0.length : Int) ≠ (p1.length : Int) then some false else DQ (AF (A8 p0 p1) 0) fun _ => some true)
theorem Fp (Y : Nat → Prop) (w0 : World) (v1 : Value) (v2 : Value) (p0 : List Int) (p1 : List Int) (r : Bool) (H : Bz p0 p1 = some r) (h_v1 : Sl w0 (NX []) (Rp.int .i64) v1 p0) (h_v2 : Sl w0 (NX []) (Rp.int .i64) v2 p1) :
    Calls Try.prog 45 #[v1, v2] w0 fun e w' => e = .returned (.bool r) ∧ Below w0.heap.size w0 w' := by
 refine enter Try.func45 Aa Try.ntmps45 Aa fun a F => ?_
 have W := Stw.start Y w0
 unfold Bz at H
 refine Ah (Ab ?_)
 refine ls F W Aa (Ae F Aa).q fun a w F W => ?_
 refine Ad (Ac (Ah (Ah (Ab ?_))))
 refine ls F W Aa (Ag F Aa).q fun a w F W => ?_
 refine ls F W Aa (Bl (r := (Rp.int .i64)) (l := p0) Gn Aa F Aa (Ak h_v1)).q fun a w F W => ?_
 refine ls F W Aa (Ag F Aa).q fun a w F W => ?_
 refine ls F W Aa (Bl (r := (Rp.int .i64)) (l := p1) Gn Aa F Aa (Ak h_v2)).q fun a w F W => ?_
 refine ls F W Aa (GO F Aa Aa).q fun a w F W => ?_
 refine Ad (Ac ?_)
 refine AA F Aa (fun hb => ?_) fun hb => ?_
 ·
  have H := Ba (BO hb) H
  rw [hb] at F
  clear hb
  refine Ah (Ab ?_)
  refine ls F W Aa (Ae F Aa).q fun a w F W => ?_
  refine Ad (Ac (AB (AO ?_)))
  have H := A1 H
  subst H
  refine Be (.inl Aa) F W Aa (Aw F Aa) ?_
  exact ⟨rfl, W.done⟩
 have H := A9 (BS hb) H
 rw [hb] at F
 clear hb
 refine As (Ac ?_)
 obtain ⟨o1, G1, K1, L1⟩ := KM H
 refine AR (fun a w => some (Sum.inl ()) = some o1 ∧ Fr 26 [] [(4, .bool false)] a ∧ Stw ⟨Y, [], w0⟩ [] [] w) ?_ ?_
 ·
  have H := G1
  clear G1 K1
  refine Ah (Ab ?_)
  refine ls F W Aa (Ag F Aa).q fun a w F W => ?_
  refine ls F W Aa (Bl (r := (Rp.int .i64)) (l := p0) Gn Aa F Aa (Ak h_v1)).q fun a w F W => ?_
  refine ls F W Aa (Ag F Aa).q fun a w F W => ?_
  refine Ad (Ac (Ax ?_))
  refine BZ H (fun s a w => Fr 26 [] [(0, v1), (1, v2), (4, .bool false), (12, .int .i64 (p0.length : Int)), (13, .int .i64 s)] a ∧ Stw ⟨Y, [], w0⟩ [] [] w) ⟨F.re ⟨rfl, Aa, Aa, Aa, Aa, trivial⟩, W⟩ fun s o a w H L2 hR => ?_
  obtain ⟨x1, rfl⟩ : ∃ x, x = s := ⟨s, rfl⟩
  obtain ⟨F, W⟩ := hR
  have F : Fr 26 [] [(0, v1), (1, v2), (4, .bool false), (12, .int .i64 (p0.length : Int)), (13, .int .i64 x1)] a := F
  have W : Stw ⟨Y, [], w0⟩ [] [] w := W
  rw [A8] at H
  refine Ah (Ab ?_)
  refine ls F W Aa (B0 F Aa Aa).q fun a w F W => ?_
  refine Ad (Ac (Ah ?_))
  refine AA F Aa (fun hb => ?_) fun hb => ?_
  ·
   have H := Ba (BO hb) H
   rw [hb] at F
   clear hb
   refine As (Ac (Ah (Ax (Ah (Ab ?_)))))
   refine ls F W Aa (Ag F Aa).q fun a w F W => ?_
   refine ls F W Aa (Ae F Aa).q fun a w F W => ?_
   refine Ad (Ac (Ah ?_))
   refine Df W MO (by kernel_rfl) ?_
   iterate 2 refine qs F Aa (Ag F Aa).q fun a F => ?_
   obtain ⟨x2, h1, H⟩ := An H
   refine qs F Aa (AU (r := (Rp.int .i64)) Jy F Aa Aa (Ak h_v1) h1).q fun a F => ?_
   refine qs F Aa (AC (y := Value.int .i64 x2) (j := 0) (i := x1) F Aa Aa (Ak h_v1) h1 Fl.int.to T3 Aa).q fun a F => ?_
   iterate 2 refine qs F Aa (Ag F Aa).q fun a F => ?_
   obtain ⟨x3, h2, H⟩ := An H
   refine qs F Aa (AU (r := (Rp.int .i64)) Jy F Aa Aa (Ak h_v2) h2).q fun a F => ?_
   refine qs F Aa (AC (y := Value.int .i64 x3) (j := 0) (i := x1) F Aa Aa (Ak h_v2) h2 Fl.int.to T3 Aa).q fun a F => ?_
   refine qs F Aa (GO F Aa Aa).q fun a F => ?_
   refine Cf fun w W => ?_
   refine Ac ?_
   refine AA F Aa (fun hb => ?_) fun hb => ?_
   ·
    have H := Ba (BO hb) H
    rw [hb] at F
    clear hb
    refine Ah (Ab ?_)
    refine ls F W Aa (Ae F Aa).q fun a w F W => ?_
    refine Ad (Ac (AB (AV ?_)))
    iterate 2 refine AO ?_
    refine AV (AO ?_)
    have H := L2 _ H
    have H := L1 _ H
    have H := A1 H
    subst H
    refine Be (.inl Aa) F W Aa (Aw F Aa) ?_
    exact ⟨rfl, W.done⟩
   have H := A9 (BS hb) H
   rw [hb] at F
   clear hb
   refine As (AP (Ac (Ab ?_)))
   refine ls F W Aa (Dk F Aa Aa Aa).q fun a w F W => ?_
   refine ls F W Aa (Ag F Aa).q fun a w F W => ?_
   refine Ad (Ac ?_)
   exact ⟨_, H, F.re ⟨rfl, Aa, Aa, Aa, Aa, trivial⟩, W⟩
  have H := A9 (BS hb) H
  rw [hb] at F
  clear hb
  refine BH ?_
  iterate 2 refine Cj ?_
  refine BI (Ac ?_)
  have H := L2 _ H
  exact ⟨H, F.re ⟨rfl, trivial⟩, W⟩
 rintro a w ⟨hj, F, W⟩
 have H := K1 _ hj
 clear hj G1 K1 L1
 refine Ah (Ab ?_)
 refine ls F W Aa (Ae F Aa).q fun a w F W => ?_
 refine Ad (Ac (AB ?_))
 have H := A1 H
 subst H
 refine Be (.inl Aa) F W Aa (Aw F Aa) ?_
 exact ⟨rfl, W.done⟩
theorem PR : Has Try.prog 45 := ⟨fun args w => Aj Try.func45 rfl (by decide) args w⟩
noncomputable def B5 (p0 : Int × (List (Int × Int × Int × Int × Int × Int)) × (List (Int × Int))) (p1 : List (List (List Int))) (p2 : Int) (p3 : Int × Int × Int × Int × List Int × Int × Int × Int) : Option Bool := (if (decide (p2 < 0) || decide ((p1.length : Int) ≤ p2)) = true then some false else (ix p1 p2).bind fun x1 => (ix p3.2.2.2.2.1 0).bind fun x2 => (CE p0 x1 x2 p3.2.2.1).bind fun x3 => (if x3.2 ≠ 0 then some false else (if (decide (p3.2.2.2.2.2.1 = 0) && decide ((p3.2.2.2.2.1.length : Int) < (x3.1.length : Int))) = true then (Ij x3.1 0 (p3.2.2.2.2.1.length : Int)).bind fun x5 => some x5 else some x3.1).bind fun x4 => (Bz p3.2.2.2.2.1 x4).bind fun x6 => some x6))
theorem HD (Y : Nat → Prop) (w0 : World) (v1 : Value) (v2 : Value) (v3 : Value) (v4 : Value) (p0 : Int × (List (Int × Int × Int × Int × Int × Int)) × (List (Int × Int))) (p1 : List (List (List Int))) (p2 : Int) (p3 : Int × Int × Int × Int × List Int × Int × Int × Int) (r : Bool) (H : B5 p0 p1 p2 p3 = some r) (h_v1 : Sl w0 (NX []) D6 v1 p0.2.1) (h_v2 : Sl w0 (NX []) FI v2 p0.2.2) (h_v3 : Sl w0 (NX []) (Rp.slice (Rp.slice (Rp.int .i64))) v3 p1) (h_v4 : Sl w0 (NX []) (Rp.int .i64) v4 p3.2.2.2.2.1) :
    Calls Try.prog 31 #[.agg #[.int .i64 p0.1, v1, v2], v3, .int .i64 p2, .agg #[.int .i64 p3.1, .int .i64 p3.2.1, .int .i64 p3.2.2.1, .int .i64 p3.2.2.2.1, v4, .int .i64 p3.2.2.2.2.2.1, .int .i64 p3.2.2.2.2.2.2.1, .int .i64 p3.2.2.2.2.2.2.2]] w0 fun e w' => e = .returned (.bool r) ∧ Below w0.heap.size w0 w' := by
 refine enter Try.func31 Aa Try.ntmps31 Aa fun a F => ?_
 have W := Stw.start Y w0
 obtain ⟨v5, h1, h_v3⟩ := h_v3.ex Ir
 unfold B5 at H
 refine Ah (Ab ?_)
 refine Cx (cs := [.int .i64 p0.1, v1, v2]) F W Aa Aa Aa fun b1 a w F W => ?_
 refine Cx (cs := [.int .i64 p3.1, .int .i64 p3.2.1, .int .i64 p3.2.2.1, .int .i64 p3.2.2.2.1, v4, .int .i64 p3.2.2.2.2.2.1, .int .i64 p3.2.2.2.2.2.2.1, .int .i64 p3.2.2.2.2.2.2.2]) F W Aa Aa Aa fun b2 a w F W => ?_
 refine ls F W Aa (Ae F Aa).q fun a w F W => ?_
 refine Ad (Ac (Ah ?_))
 refine AR (fun a w => Fr 56 [] [(1, v3), (2, .int .i64 p2), (4, .pointer (some ⟨b1, 0, none⟩)), (7, .pointer (some ⟨b2, 0, none⟩)), (8, .bool false), (18, .bool (decide (p2 < 0) || decide ((p1.length : Int) ≤ p2)))] a ∧ Stw ⟨Y, [], w0⟩ [(b2, [.int .i64 p3.1, .int .i64 p3.2.1, .int .i64 p3.2.2.1, .int .i64 p3.2.2.2.1, v4, .int .i64 p3.2.2.2.2.2.1, .int .i64 p3.2.2.2.2.2.2.1, .int .i64 p3.2.2.2.2.2.2.2]), (b1, [.int .i64 p0.1, v1, v2])] [] w) ?_ ?_
 ·
  refine Ab ?_
  refine ls F W Aa (Ag F Aa).q fun a w F W => ?_
  refine ls F W Aa (B0 F Aa Aa).q fun a w F W => ?_
  refine ls F W Aa (Ag F Aa).q fun a w F W => ?_
  rcases Bool.eq_false_or_eq_true (decide (p2 < 0)) with hb0 | hb0
  ·
   rw [hb0] at F
   iterate 4 refine DU F Aa Aa Aa Aa Aa Aa Aa fun a F => ?_
   refine ls F W Aa (Ay F Aa Aa Aa).q fun a w F W => ?_
   refine Ad (Ac ?_)
   exact ⟨F.re ⟨rfl, Aa, Aa, Aa, Aa, (by show some (Value.bool true) = some (Value.bool (decide (p2 < 0) || decide ((p1.length : Int) ≤ p2))); try rw [hb0]; all_goals simp only [Bool.not_true, Bool.not_false, Bool.true_and, Bool.false_and, Bool.true_or, Bool.false_or, Bool.and_true, Bool.or_false, cond_true, cond_false]), trivial⟩, W⟩
  rw [hb0] at F
  iterate 2 refine AM F W (Ai F Aa Aa Aa Aa) Aa (Ao Aa) (Ag F Aa).q fun a w F W => ?_
  refine AM F W (Ai F Aa Aa Aa Aa) Aa (Ao Aa) (Bl (r := (Rp.slice (Rp.slice (Rp.int .i64)))) (l := p1) M0 Aa F Aa (Cc Ir h1 (Ak h_v3))).q fun a w F W => ?_
  refine AM F W (Ai F Aa Aa Aa Aa) Aa (Ao Aa) (E0 F Aa Aa).q fun a w F W => ?_
  refine ls F W Aa (AL F Aa Aa Aa).q fun a w F W => ?_
  refine Ad (Ac ?_)
  exact ⟨F.re ⟨rfl, Aa, Aa, Aa, Aa, (by show some (Value.bool (decide ((p1.length : Int) ≤ p2))) = some (Value.bool (decide (p2 < 0) || decide ((p1.length : Int) ≤ p2))); try rw [hb0]; all_goals simp only [Bool.not_true, Bool.not_false, Bool.true_and, Bool.false_and, Bool.true_or, Bool.false_or, Bool.and_true, Bool.or_false, cond_true, cond_false]), trivial⟩, W⟩
 rintro a w ⟨F, W⟩
 refine AA F Aa (fun hb => ?_) fun hb => ?_
 ·
  have H := Ba hb H
  rw [hb] at F
  clear hb
  refine Ah (Ab ?_)
  refine ls F W Aa (Ae F Aa).q fun a w F W => ?_
  refine Ad (Ac (AB (AO ?_)))
  have H := A1 H
  subst H
  refine Be (.inl Aa) F W Aa (Aw F Aa) ?_
  exact ⟨rfl, W.done⟩
 have H := A9 (by rw [hb]; decide) H
 rw [hb] at F
 clear hb
 refine As (Ac (Ah ?_))
 refine GP [(true, 0), (true, 1), (true, 2), (true, 3), (true, 4), (true, 5), (true, 6), (true, 7), (true, 8), (true, 9), (true, 10), (false, 11), (true, 12), (true, 13), (true, 14), (false, 15), (false, 16)] (CN ⟨Y, [], w0⟩ [(some 11, b1, [.int .i64 p0.1, v1, v2]), (some 11, b2, [.int .i64 p3.1, .int .i64 p3.2.1, .int .i64 p3.2.2.1, .int .i64 p3.2.2.2.1, v4, .int .i64 p3.2.2.2.2.2.1, .int .i64 p3.2.2.2.2.2.2.1, .int .i64 p3.2.2.2.2.2.2.2])] []) (fun ch a d v w h => by cases d <;> exact h) MO (by kernel_rfl) W (fun w W => ⟨_, _, W, (all_cons (fun _ => (.tail _ (.head _))) (all_cons (fun _ => (.head _)) Bf)), Bf⟩) fun w W => ?_
 refine Cs (R := [11]) F Aa Aa (yC fun M Z hN hZ => CZ (cs := [.int .i64 p0.1, v1, v2]) (v := Value.agg #[.int .i64 p0.1, v1, v2]) F Aa (hN ((some 11), b1, [.int .i64 p0.1, v1, v2]) (.head _) Aa) JQ Aa) (by kernel_rfl) Aa fun a F => ?_
 iterate 2 refine Cs (R := []) F Aa Aa (yC fun M Z hN hZ => Ag F Aa) Aa Aa fun a F => ?_
 obtain ⟨x1, h2, H⟩ := An H
 obtain ⟨v6, h3, h4⟩ := EY h1 h2
 have h5 : LD v6 = [(v6.1)] := congrArg (fun q : List (List Int) => ([(v6.1)] : List Value)) h4
 refine Cs (R := []) F Aa Aa (yC fun M Z hN hZ => AU (r := (Rp.vsl (Rp.vsl (Rp.int .i64)))) OZ F Aa Aa (Ak h_v3) h3) Aa Aa fun a F => ?_
 refine Cs (R := []) F Aa Aa (yC fun M Z hN hZ => AC (y := (v6.1)) (j := 0) (i := p2) (enc := LD) F Aa Aa (Ak h_v3) h3 Og O4 (by rw [h5]; rfl)) Aa Aa fun a F => ?_
 refine Cs (R := []) F Aa Aa (yC fun M Z hN hZ => Af Ek Aa Aa Aa Gy F Aa 4 Aa) Aa Aa fun a F => ?_
 refine Cs (R := [11, 8, 7]) F Aa Aa (yC fun M Z hN hZ => CZ (cs := [.int .i64 p3.1, .int .i64 p3.2.1, .int .i64 p3.2.2.1, .int .i64 p3.2.2.2.1, v4, .int .i64 p3.2.2.2.2.2.1, .int .i64 p3.2.2.2.2.2.2.1, .int .i64 p3.2.2.2.2.2.2.2]) (v := v4) F Aa (hN ((some 11), b2, [.int .i64 p3.1, .int .i64 p3.2.1, .int .i64 p3.2.2.1, .int .i64 p3.2.2.2.1, v4, .int .i64 p3.2.2.2.2.2.1, .int .i64 p3.2.2.2.2.2.2.1, .int .i64 p3.2.2.2.2.2.2.2]) (.tail _ (.head _)) Aa) Gy Aa) (by kernel_rfl) Aa fun a F => ?_
 obtain ⟨x2, h6, H⟩ := An H
 refine Cs (R := []) F Aa Aa (yC fun M Z hN hZ => AU (r := (Rp.int .i64)) Jy F Aa Aa (Ak h_v4) h6) Aa Aa fun a F => ?_
 refine Cs (R := []) F Aa Aa (yC fun M Z hN hZ => AC (y := Value.int .i64 x2) (j := 0) (i := 0) F Aa Aa (Ak h_v4) h6 Fl.int.to T3 Aa) Aa Aa fun a F => ?_
 refine Cs (R := []) F Aa Aa (yC fun M Z hN hZ => Af Ek Aa Aa Aa T3 F Aa 2 Aa) Aa Aa fun a F => ?_
 refine Cs (R := [11]) F Aa Aa (yC fun M Z hN hZ => CZ (cs := [.int .i64 p3.1, .int .i64 p3.2.1, .int .i64 p3.2.2.1, .int .i64 p3.2.2.2.1, v4, .int .i64 p3.2.2.2.2.2.1, .int .i64 p3.2.2.2.2.2.2.1, .int .i64 p3.2.2.2.2.2.2.2]) (v := Value.int .i64 p3.2.2.1) F Aa (hN ((some 11), b2, [.int .i64 p3.1, .int .i64 p3.2.1, .int .i64 p3.2.2.1, .int .i64 p3.2.2.2.1, v4, .int .i64 p3.2.2.2.2.2.1, .int .i64 p3.2.2.2.2.2.2.1, .int .i64 p3.2.2.2.2.2.2.2]) (.tail _ (.head _)) Aa) T3 Aa) (by kernel_rfl) Aa fun a F => ?_
 refine GV Aa ?_
 obtain ⟨x3, h7, H⟩ := An H
 refine Cw (Ml := []) (Zl := []) (M := [(b2, [.int .i64 p3.1, .int .i64 p3.2.1, .int .i64 p3.2.2.1, .int .i64 p3.2.2.2.1, v4, .int .i64 p3.2.2.2.2.2.1, .int .i64 p3.2.2.2.2.2.2.1, .int .i64 p3.2.2.2.2.2.2.2]), (b1, [.int .i64 p0.1, v1, v2])]) (Z := []) (β := Value) (rv := fun x => .tuple #[x, .int .i64 x3.2]) (MM := fun x => []) (ZZ := fun x => [row x 3 (Rp.int .i64) x3.1]) F W Pl Aa Aa (fun hL => Jt _ w (v1) (v2) ((v6.1)) p0 x1 x2 p3.2.2.1 _ h7 ((Ak h_v1) w W).nx ((Ak h_v2) w W).nx ((Cc F8 (congrArg (fun q : List (List Int) => q) h4) (E9 (Ak h_v3) h3 DR.here Aa)) w W).nx) fun x a w F W => ?_
 obtain ⟨v7, rfl⟩ : ∃ y, y = x := ⟨x, rfl⟩
 have W : Stw ⟨Y, [], w0⟩ [(b2, [.int .i64 p3.1, .int .i64 p3.2.1, .int .i64 p3.2.2.1, .int .i64 p3.2.2.2.1, v4, .int .i64 p3.2.2.2.2.2.1, .int .i64 p3.2.2.2.2.2.2.1, .int .i64 p3.2.2.2.2.2.2.2]), (b1, [.int .i64 p0.1, v1, v2])] [row v7 3 (Rp.int .i64) x3.1] w := W
 refine Dh (N2 := []) (NZ2 := []) (N3 := [(some 11, b1, [.int .i64 p0.1, v1, v2]), (some 11, b2, [.int .i64 p3.1, .int .i64 p3.2.1, .int .i64 p3.2.2.1, .int .i64 p3.2.2.2.1, v4, .int .i64 p3.2.2.2.2.2.1, .int .i64 p3.2.2.2.2.2.2.1, .int .i64 p3.2.2.2.2.2.2.2])]) (NZ3 := []) W Aa Aa (all_cons (fun h => BA (by kernel_rfl) h) (all_cons (fun h => BA (by kernel_rfl) h) Bf)) Bf ?_
 refine Cs (R := []) F Aa Aa (yC fun M Z hN hZ => Ag F Aa) Aa Aa fun a F => ?_
 refine Cs (R := []) F Aa Aa (yC fun M Z hN hZ => BV (v := v7) F Aa Aa) Aa Aa fun a F => ?_
 refine Cs (R := []) F Aa Aa (yC fun M Z hN hZ => BV (v := Value.int .i64 x3.2) F Aa Aa) Aa Aa fun a F => ?_
 refine GV Aa ?_
 refine ls F W Aa (Ae F Aa).q fun a w F W => ?_
 refine Dh (N2 := []) (NZ2 := []) (N3 := [(some 11, b1, [.int .i64 p0.1, v1, v2]), (some 11, b2, [.int .i64 p3.1, .int .i64 p3.2.1, .int .i64 p3.2.2.1, .int .i64 p3.2.2.2.1, v4, .int .i64 p3.2.2.2.2.2.1, .int .i64 p3.2.2.2.2.2.2.1, .int .i64 p3.2.2.2.2.2.2.2])]) (NZ3 := []) W Aa Aa (all_cons (fun h => BA (by kernel_rfl) h) (all_cons (fun h => BA (by kernel_rfl) h) Bf)) Bf ?_
 refine GV Aa ?_
 refine ls F W Aa (Ae F Aa).q fun a w F W => ?_
 refine Dh (N2 := []) (NZ2 := []) (N3 := [(some 11, b1, [.int .i64 p0.1, v1, v2]), (some 11, b2, [.int .i64 p3.1, .int .i64 p3.2.1, .int .i64 p3.2.2.1, .int .i64 p3.2.2.2.1, v4, .int .i64 p3.2.2.2.2.2.1, .int .i64 p3.2.2.2.2.2.2.1, .int .i64 p3.2.2.2.2.2.2.2])]) (NZ3 := []) W Aa Aa (all_cons (fun h => BA (by kernel_rfl) h) (all_cons (fun h => BA (by kernel_rfl) h) Bf)) Bf ?_
 refine I5 (Ac (Ah (Ah (Ab ?_))))
 refine ls F W Aa (Ag F Aa).q fun a w F W => ?_
 refine ls F W Aa (GO F Aa Aa).q fun a w F W => ?_
 refine Ad (Ac ?_)
 refine AA F Aa (fun hb => ?_) fun hb => ?_
 ·
  have H := Ba (BO hb) H
  rw [hb] at F
  clear hb
  refine Ah (Ab ?_)
  refine ls F W Aa (Ae F Aa).q fun a w F W => ?_
  refine Ad (Ac (AB (AO ?_)))
  have H := A1 H
  subst H
  refine Be (.inl Aa) F W Aa (Aw F Aa) ?_
  exact ⟨rfl, W.done⟩
 have H := A9 (BS hb) H
 rw [hb] at F
 clear hb
 refine As (Ac ?_)
 obtain ⟨o1, G1, K1⟩ := An H
 refine AR (fun a w => ∃ x4 : List Int, ∃ v8 : Value, some (x4) = some o1 ∧ Fr 56 [] [(7, .pointer (some ⟨b2, 0, none⟩)), (8, .bool false), (9, v8)] a ∧ Stw ⟨Y, [], w0⟩ [(b2, [.int .i64 p3.1, .int .i64 p3.2.1, .int .i64 p3.2.2.1, .int .i64 p3.2.2.2.1, v4, .int .i64 p3.2.2.2.2.2.1, .int .i64 p3.2.2.2.2.2.2.1, .int .i64 p3.2.2.2.2.2.2.2]), (b1, [.int .i64 p0.1, v1, v2])] [row v8 3 (Rp.int .i64) x4] w) ?_ ?_
 ·
  have H := G1
  clear G1 K1
  refine AR (fun a w => Fr 56 [] [(7, .pointer (some ⟨b2, 0, none⟩)), (8, .bool false), (9, v7), (46, .bool (decide (p3.2.2.2.2.2.1 = 0) && decide ((p3.2.2.2.2.1.length : Int) < (x3.1.length : Int))))] a ∧ Stw ⟨Y, [], w0⟩ [(b2, [.int .i64 p3.1, .int .i64 p3.2.1, .int .i64 p3.2.2.1, .int .i64 p3.2.2.2.1, v4, .int .i64 p3.2.2.2.2.2.1, .int .i64 p3.2.2.2.2.2.2.1, .int .i64 p3.2.2.2.2.2.2.2]), (b1, [.int .i64 p0.1, v1, v2])] [row v7 3 (Rp.int .i64) x3.1] w) ?_ ?_
  ·
   refine Ab ?_
   refine ls F W Aa (Af Ek Aa Aa Aa T3 F Aa 5 Aa).q fun a w F W => ?_
   refine ls F W Aa (Al (v := Value.int .i64 p3.2.2.2.2.2.1) 0 F Aa Aa T3 Aa).q fun a w F W => ?_
   refine ls F W Aa (C9 F Aa Aa).q fun a w F W => ?_
   refine ls F W Aa (Ag F Aa).q fun a w F W => ?_
   rcases Bool.eq_false_or_eq_true (decide (p3.2.2.2.2.2.1 = 0)) with hb0 | hb0
   ·
    rw [hb0] at F
    refine AM F W (Ai F Aa Aa Aa Aa) Aa (Ao Aa) (Af Ek Aa Aa Aa Gy F Aa 4 Aa).q fun a w F W => ?_
    refine AM F W (Ai F Aa Aa Aa Aa) Aa (Ao Aa) (Al (v := v4) 0 F Aa Aa Gy Aa).q fun a w F W => ?_
    refine AM F W (Ai F Aa Aa Aa Aa) Aa (Ao Aa) (Bl (r := (Rp.int .i64)) (l := p3.2.2.2.2.1) Gn Aa F Aa (Ak h_v4)).q fun a w F W => ?_
    refine AM F W (Ai F Aa Aa Aa Aa) Aa (Ao Aa) (Ag F Aa).q fun a w F W => ?_
    refine AM F W (Ai F Aa Aa Aa Aa) Aa (Ao Aa) (Bl (r := (Rp.int .i64)) (l := x3.1) Gn Aa F Aa (AN 0 Aa)).q fun a w F W => ?_
    refine AM F W (Ai F Aa Aa Aa Aa) Aa (Ao Aa) (B0 F Aa Aa).q fun a w F W => ?_
    refine ls F W Aa (Ay F Aa Aa Aa).q fun a w F W => ?_
    refine Ad (Ac ?_)
    exact ⟨F.re ⟨rfl, Aa, Aa, (by show some (Value.bool (decide ((p3.2.2.2.2.1.length : Int) < (x3.1.length : Int)))) = some (Value.bool (decide (p3.2.2.2.2.2.1 = 0) && decide ((p3.2.2.2.2.1.length : Int) < (x3.1.length : Int)))); try rw [hb0]; all_goals simp only [Bool.not_true, Bool.not_false, Bool.true_and, Bool.false_and, Bool.true_or, Bool.false_or, Bool.and_true, Bool.or_false, cond_true, cond_false]), trivial⟩, W⟩
   rw [hb0] at F
   iterate 6 refine DU F Aa Aa Aa Aa Aa Aa Aa fun a F => ?_
   refine ls F W Aa (AL F Aa Aa Aa).q fun a w F W => ?_
   refine Ad (Ac ?_)
   exact ⟨F.re ⟨rfl, Aa, Aa, (by show some (Value.bool false) = some (Value.bool (decide (p3.2.2.2.2.2.1 = 0) && decide ((p3.2.2.2.2.1.length : Int) < (x3.1.length : Int)))); try rw [hb0]; all_goals simp only [Bool.not_true, Bool.not_false, Bool.true_and, Bool.false_and, Bool.true_or, Bool.false_or, Bool.and_true, Bool.or_false, cond_true, cond_false]), trivial⟩, W⟩
  rintro a w ⟨F, W⟩
  refine AA F Aa (fun hb => ?_) fun hb => ?_
  ·
   have H := Ba hb H
   rw [hb] at F
   clear hb
   refine Ab ?_
   refine ls F W Aa (Ag F Aa).q fun a w F W => ?_
   refine ls F W Aa (Af Ek Aa Aa Aa Gy F Aa 4 Aa).q fun a w F W => ?_
   refine ls F W Aa (Al (v := v4) 0 F Aa Aa Gy Aa).q fun a w F W => ?_
   refine ls F W Aa (Bl (r := (Rp.int .i64)) (l := p3.2.2.2.2.1) Gn Aa F Aa (Ak h_v4)).q fun a w F W => ?_
   obtain ⟨x5, h8, H⟩ := An H
   refine ls F W Aa (MZ (r := (Rp.int .i64)) Jy F Aa Aa Aa (AN 0 Aa) h8).q fun a w F W => ?_
   refine ls F W Aa (Ae F Aa).q fun a w F W => ?_
   refine Ad (Ac ?_)
   have W := W.subRow (k := 0) Aa Aa h8
   have W := W.frontM (i := 1) Aa Aa
   have W := W.frontM (i := 1) Aa Aa
   exact ⟨_, ((Dt v7 (0 : Int) (p3.2.2.2.2.1.length : Int) 1)), H, F.re ⟨rfl, Aa, Aa, trivial⟩, W⟩
  have H := A9 (by rw [hb]; decide) H
  rw [hb] at F
  clear hb
  refine As (Ac ?_)
  have W := W.frontM (i := 1) Aa Aa
  have W := W.frontM (i := 1) Aa Aa
  exact ⟨_, (v7), H, F.re ⟨rfl, Aa, Aa, trivial⟩, W⟩
 rintro a w ⟨x4, v8, hj, F, W⟩
 have hj := A1 hj
 subst hj
 have H := K1
 clear G1 K1
 refine Ah (Ab ?_)
 refine ls F W Aa (Af Ek Aa Aa Aa Gy F Aa 4 Aa).q fun a w F W => ?_
 refine ls F W Aa (Al (v := v4) 0 F Aa Aa Gy Aa).q fun a w F W => ?_
 refine ls F W Aa (Ag F Aa).q fun a w F W => ?_
 obtain ⟨x6, h9, H⟩ := An H
 refine ls F W Aa (Ch (v := Value.bool x6) F PR Aa (fun w W => Fp any w (v4) (v8) p3.2.2.2.2.1 x4 _ h9 (((Ak h_v4) : DV _ _ _ _ _ _) w W).nx (((AN 0 Aa) : DV _ _ _ _ _ _) w W).nx)) fun a w F W => ?_
 refine ls F W Aa (Ae F Aa).q fun a w F W => ?_
 refine Ad (Ac (AB ?_))
 have H := A1 H
 subst H
 refine Be (.inl Aa) F W Aa (Aw F Aa) ?_
 exact ⟨rfl, W.done⟩
end Go.Proofs.Ytflaelbmglmmcaa
