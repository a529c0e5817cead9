/- The functions of layer 42, Gn. Conditions: none. -/
import Derived.Test.YtflaelbmglmmcaabA1
namespace Go.Proofs.Ytflaelbmglmmcaa
open Go Go.RowKit
set_option linter.unusedVariables false
set_option linter.unusedSimpArgs false
set_option maxRecDepth 20000
theorem MG : Has Try.prog 60 := ⟨fun args w => Aj Try.func60 rfl (by decide) args w⟩
noncomputable def Br (p0 : List Int) : Int → Option (Int ⊕ (Unit ⊕ Int))
  | x1 => (if x1 < (p0.length : Int) then (ix p0 x1).bind fun x2 => (if (Cp x2) = true then some (.inr (.inr x1)) else some (.inl (D8 (x1 + 1)))) else some (.inr (.inl ())))
noncomputable def Bo (p0 : List Int) : Option Int := F6 (Bj (Br p0) 0) fun _ => some (-1)
theorem Eg (Y : Nat → Prop) (w0 : World) (v1 : Value) (p0 : List Int) (r : Int) (H : Bo p0 = some r) (h_v1 : Sl w0 (NX []) (Rp.int .i64) v1 p0) :
    Calls Try.prog 67 #[v1, .func (.func 60) #[] #[]] w0 fun e w' => e = .returned (.int .i64 r) ∧ Below w0.heap.size w0 w' := by
 refine enter Try.func67 Aa Try.ntmps67 Aa fun a F => ?_
 have W := Stw.start Y w0
 unfold Bo at H
 refine Ah (Ab ?_)
 refine ls F W Aa (Ae F Aa).q fun a w F W => ?_
 refine Ad (Ac ?_)
 obtain ⟨o1, G1, K1, L1⟩ := JO H
 refine AR (fun a w => some (Sum.inl ()) = some o1 ∧ Fr 19 [] [(4, .int .i64 0)] a ∧ Stw ⟨Y, [], w0⟩ [] [] w) ?_ ?_
 ·
  have H := G1
  clear G1 K1
  refine Ah (Ab ?_)
  refine ls F W Aa (Ag F Aa).q fun a w F W => ?_
  refine ls F W Aa (Bi (r := (Rp.int .i64)) (l := p0) F4 Aa F Aa (Al h_v1)).q fun a w F W => ?_
  refine ls F W Aa (Ag F Aa).q fun a w F W => ?_
  refine Ad (Ac (Ax ?_))
  refine BT H (fun s a w => Fr 19 [] [(0, v1), (1, .func (.func 60) #[] #[]), (4, .int .i64 0), (7, .int .i64 (p0.length : Int)), (8, .int .i64 s)] a ∧ Stw ⟨Y, [], w0⟩ [] [] w) ⟨F.re ⟨rfl, Aa, Aa, Aa, Aa, trivial⟩, W⟩ fun s o a w H L2 hR => ?_
  obtain ⟨x1, rfl⟩ : ∃ x, x = s := ⟨s, rfl⟩
  obtain ⟨F, W⟩ := hR
  have F : Fr 19 [] [(0, v1), (1, .func (.func 60) #[] #[]), (4, .int .i64 0), (7, .int .i64 (p0.length : Int)), (8, .int .i64 x1)] a := F
  have W : Stw ⟨Y, [], w0⟩ [] [] w := W
  rw [Br] at H
  refine Ah (Ab ?_)
  refine ls F W Aa (BU F Aa Aa).q fun a w F W => ?_
  refine Ad (Ac (Ah ?_))
  refine AB F Aa (fun hb => ?_) fun hb => ?_
  ·
   have H := AU (Bv hb) H
   rw [hb] at F
   clear hb
   refine As (Ac (Ah (Ax (Ah (Ab ?_)))))
   refine ls F W Aa (Ag F Aa).q fun a w F W => ?_
   refine ls F W Aa (Ae F Aa).q fun a w F W => ?_
   refine Ad (Ac (Ah (Ab ?_)))
   iterate 3 refine ls F W Aa (Ag F Aa).q fun a w F W => ?_
   obtain ⟨x2, h1, H⟩ := An H
   refine ls F W Aa (AN (r := (Rp.int .i64)) Ip F Aa Aa (Al h_v1) h1).q fun a w F W => ?_
   refine ls F W Aa (AG (y := Value.int .i64 x2) (j := 0) (i := x1) F Aa Aa (Al h_v1) h1 Fl.int.to T3 Aa).q fun a w F W => ?_
   refine ls F W Aa (H1 (ws := [.int .i64 x2]) (v := Value.bool (Cp x2)) F MG Aa (fun w W => FM any w x2 _ Aa)) fun a w F W => ?_
   refine Ad (Ac ?_)
   refine AB F Aa (fun hb => ?_) fun hb => ?_
   ·
    have H := AU hb H
    rw [hb] at F
    clear hb
    refine Ah (Ab ?_)
    refine ls F W Aa (Ag F Aa).q fun a w F W => ?_
    refine ls F W Aa (Ae F Aa).q fun a w F W => ?_
    refine Ad (Ac (Ay (AP ?_)))
    iterate 2 refine AL ?_
    refine AP (AL ?_)
    have H := L2 _ H
    have H := L1 _ H
    have H := AV H
    subst H
    refine A5 (.inl Aa) F W Aa (Au F Aa) ?_
    exact ⟨rfl, W.done⟩
   have H := AW (by rw [hb]; decide) H
   rw [hb] at F
   clear hb
   refine As (AJ (Ac (Ab ?_)))
   refine ls F W Aa (CW F Aa Aa Aa).q fun a w F W => ?_
   refine ls F W Aa (Ag F Aa).q fun a w F W => ?_
   refine Ad (Ac ?_)
   exact ⟨_, H, F.re ⟨rfl, Aa, Aa, Aa, Aa, trivial⟩, W⟩
  have H := AW (Bu hb) H
  rw [hb] at F
  clear hb
  refine BC ?_
  iterate 2 refine B6 ?_
  refine BD (Ac ?_)
  have H := L2 _ H
  exact ⟨H, F.re ⟨rfl, trivial⟩, W⟩
 rintro a w ⟨hj, F, W⟩
 have H := K1 _ hj
 clear hj G1 K1 L1
 refine Ah (Ab ?_)
 refine ls F W Aa (Ae F Aa).q fun a w F W => ?_
 refine Ad (Ac (Ay ?_))
 have H := AV H
 subst H
 refine A5 (.inl Aa) F W Aa (Au F Aa) ?_
 exact ⟨rfl, W.done⟩
theorem Ny : Has Try.prog 67 := ⟨fun args w => Aj Try.func67 rfl (by decide) args w⟩
noncomputable def Bc (p0 : List Int) : Option Bool := (Bo p0).bind fun x1 => some (decide (0 ≤ x1))
theorem DF (Y : Nat → Prop) (w0 : World) (v1 : Value) (p0 : List Int) (r : Bool) (H : Bc p0 = some r) (h_v1 : Sl w0 (NX []) (Rp.int .i64) v1 p0) :
    Calls Try.prog 59 #[v1, .func (.func 60) #[] #[]] w0 fun e w' => e = .returned (.bool r) ∧ Below w0.heap.size w0 w' := by
 refine enter Try.func59 Aa Try.ntmps59 Aa fun a F => ?_
 have W := Stw.start Y w0
 unfold Bc at H
 refine Ah (Ab ?_)
 refine ls F W Aa (Ae F Aa).q fun a w F W => ?_
 refine Ad (Ac (Ah (Ab ?_)))
 iterate 2 refine ls F W Aa (Ag F Aa).q fun a w F W => ?_
 obtain ⟨x1, h1, H⟩ := An H
 refine ls F W Aa (BB (v := Value.int .i64 x1) F Ny Aa (fun w W => Eg any w (v1) p0 _ h1 (((Al h_v1) : DC _ _ _ _ _ _) w W).nx)) fun a w F W => ?_
 refine ls F W Aa (Ep F Aa Aa).q fun a w F W => ?_
 refine ls F W Aa (Ae F Aa).q fun a w F W => ?_
 refine Ad (Ac (Ay ?_))
 have H := AV H
 subst H
 refine A5 (.inl Aa) F W Aa (Au F Aa) ?_
 exact ⟨rfl, W.done⟩
theorem MJ : Has Try.prog 59 := ⟨fun args w => Aj Try.func59 rfl (by decide) args w⟩
noncomputable def Db (p0 : Int × (List (Int × Int × Int × Int × Int × Int)) × (List (Int × Int))) (p1 : List (List Int)) : Int → Option (Int ⊕ (Unit ⊕ Bool))
  | x3 => (if x3 < (p1.length : Int) then (ix p1 x3).bind fun x4 => (if (x4.length : Int) ≠ (p0.2.2.length : Int) then some true else (Bc x4).bind fun x6 => some x6).bind fun x5 => (if x5 = true then some (.inr (.inr false)) else some (.inl (D8 (x3 + 1)))) else some (.inr (.inl ())))
noncomputable def DG (p0 : Int × (List (Int × Int × Int × Int × Int × Int)) × (List (Int × Int))) (p1 : List (List Int)) : Option Bool := ((D7 p0).bind fun x2 => (if (!x2) = true then some true else some (decide ((p1.length : Int) ≠ p0.1)))).bind fun x1 => (if x1 = true then some false else F6 (Bj (Db p0 p1) 0) fun _ => some true)
theorem Hz (Y : Nat → Prop) (w0 : World) (v1 : Value) (v2 : Value) (v3 : Value) (p0 : Int × (List (Int × Int × Int × Int × Int × Int)) × (List (Int × Int))) (p1 : List (List Int)) (r : Bool) (H : DG p0 p1 = some r) (h_v1 : Sl w0 (NX []) EM v1 p0.2.1) (h_v2 : Sl w0 (NX []) F2 v2 p0.2.2) (h_v3 : Sl w0 (NX []) (Rp.slice (Rp.int .i64)) v3 p1) :
    Calls Try.prog 54 #[.agg #[.int .i64 p0.1, v1, v2], v3] w0 fun e w' => e = .returned (.bool r) ∧ Below w0.heap.size w0 w' := by
 refine enter Try.func54 Aa Try.ntmps54 Aa fun a F => ?_
 have W := Stw.start Y w0
 obtain ⟨v4, h1, h_v3⟩ := h_v3.ex GB
 unfold DG at H
 refine Ah (Ab ?_)
 refine Cf (cs := [.int .i64 p0.1, v1, v2]) F W Aa Aa Aa fun b1 a w F W => ?_
 refine ls F W Aa (Ae F Aa).q fun a w F W => ?_
 refine Ad (Ac (Ah ?_))
 obtain ⟨o1, G1, K1⟩ := An H
 refine AR (fun a w => ∃ x1 : Bool, some (x1) = some o1 ∧ Fr 34 [] [(1, v3), (2, .pointer (some ⟨b1, 0, none⟩)), (4, .bool false), (16, .bool x1)] a ∧ Stw ⟨Y, [], w0⟩ [(b1, [.int .i64 p0.1, v1, v2])] [] w) ?_ ?_
 ·
  have H := G1
  clear G1 K1
  refine Ab ?_
  refine ls F W Aa (Ak (v := Value.agg #[.int .i64 p0.1, v1, v2]) 0 F Aa Aa Jv Aa).q fun a w F W => ?_
  obtain ⟨x2, h2, H⟩ := An H
  refine ls F W Aa (BB (v := Value.bool x2) F ME Aa (fun w W => In any w (v1) (v2) p0 _ h2 (((Al h_v1) : DC _ _ _ _ _ _) w W).nx (((Al h_v2) : DC _ _ _ _ _ _) w W).nx)) fun a w F W => ?_
  refine ls F W Aa (Gr F Aa).q fun a w F W => ?_
  refine ls F W Aa (Ag F Aa).q fun a w F W => ?_
  rcases Bool.eq_false_or_eq_true (!x2) with hb | hb
  ·
   have H := AU hb H
   rw [hb] at F
   clear hb
   iterate 5 refine Dm F Aa Aa Aa Aa Aa Aa Aa fun a F => ?_
   refine ls F W Aa (Av F Aa Aa Aa).q fun a w F W => ?_
   refine Ad (Ac ?_)
   exact ⟨_, H, F.re ⟨rfl, Aa, Aa, Aa, trivial⟩, W⟩
  have H := AW (by rw [hb]; decide) H
  rw [hb] at F
  clear hb
  refine AH F W (Ai F Aa Aa Aa Aa) Aa (Ao Aa) (Ag F Aa).q fun a w F W => ?_
  refine AH F W (Ai F Aa Aa Aa Aa) Aa (Ao Aa) (Bi (r := (Rp.slice (Rp.int .i64))) (l := p1) Kd Aa F Aa (C5 GB h1 (Al h_v3))).q fun a w F W => ?_
  refine AH F W (Ai F Aa Aa Aa Aa) Aa (Ao Aa) (Af FK Aa Aa Aa T3 F Aa 0 Aa).q fun a w F W => ?_
  refine AH F W (Ai F Aa Aa Aa Aa) Aa (Ao Aa) (Ak (v := Value.int .i64 p0.1) 0 F Aa Aa T3 Aa).q fun a w F W => ?_
  refine AH F W (Ai F Aa Aa Aa Aa) Aa (Ao Aa) (Fv F Aa Aa).q fun a w F W => ?_
  refine ls F W Aa (AF F Aa Aa Aa).q fun a w F W => ?_
  refine Ad (Ac ?_)
  exact ⟨_, H, F.re ⟨rfl, Aa, Aa, Aa, trivial⟩, W⟩
 rintro a w ⟨x1, hj, F, W⟩
 have hj := AV hj
 subst hj
 have H := K1
 clear G1 K1
 refine AB F Aa (fun hb => ?_) fun hb => ?_
 ·
  have H := AU hb H
  rw [hb] at F
  clear hb
  refine Ah (Ab ?_)
  refine ls F W Aa (Ae F Aa).q fun a w F W => ?_
  refine Ad (Ac (Ay (AL ?_)))
  have H := AV H
  subst H
  refine A5 (.inl Aa) F W Aa (Au F Aa) ?_
  exact ⟨rfl, W.done⟩
 have H := AW (by rw [hb]; decide) H
 rw [hb] at F
 clear hb
 refine As (Ac ?_)
 obtain ⟨o2, G2, K2, L2⟩ := JO H
 refine AR (fun a w => some (Sum.inl ()) = some o2 ∧ Fr 34 [] [(4, .bool false)] a ∧ Stw ⟨Y, [], w0⟩ [(b1, [.int .i64 p0.1, v1, v2])] [] w) ?_ ?_
 ·
  have H := G2
  clear G2 K2
  refine Ah (Ab ?_)
  refine ls F W Aa (Ag F Aa).q fun a w F W => ?_
  refine ls F W Aa (Bi (r := (Rp.slice (Rp.int .i64))) (l := p1) Kd Aa F Aa (C5 GB h1 (Al h_v3))).q fun a w F W => ?_
  refine ls F W Aa (Ag F Aa).q fun a w F W => ?_
  refine Ad (Ac (Ax ?_))
  refine BT H (fun s a w => Fr 34 [] [(2, .pointer (some ⟨b1, 0, none⟩)), (4, .bool false), (17, v3), (18, .int .i64 (p1.length : Int)), (19, .int .i64 s)] a ∧ Stw ⟨Y, [], w0⟩ [(b1, [.int .i64 p0.1, v1, v2])] [] w) ⟨F.re ⟨rfl, Aa, Aa, Aa, Aa, trivial⟩, W⟩ fun s o a w H L3 hR => ?_
  obtain ⟨x3, rfl⟩ : ∃ x, x = s := ⟨s, rfl⟩
  obtain ⟨F, W⟩ := hR
  have F : Fr 34 [] [(2, .pointer (some ⟨b1, 0, none⟩)), (4, .bool false), (17, v3), (18, .int .i64 (p1.length : Int)), (19, .int .i64 x3)] a := F
  have W : Stw ⟨Y, [], w0⟩ [(b1, [.int .i64 p0.1, v1, v2])] [] w := W
  rw [Db] at H
  refine Ah (Ab ?_)
  refine ls F W Aa (BU F Aa Aa).q fun a w F W => ?_
  refine Ad (Ac (Ah ?_))
  refine AB F Aa (fun hb => ?_) fun hb => ?_
  ·
   have H := AU (Bv hb) H
   rw [hb] at F
   clear hb
   refine As (Ac (Ah (Ax (Ah (Ab ?_)))))
   obtain ⟨x4, h3, H⟩ := An H
   obtain ⟨v5, h4, h5⟩ := E0 h1 h3
   have h6 : H6 v5 = [(v5.1)] := congrArg (fun q : List Int => ([(v5.1)] : List Value)) h5
   refine ls F W Aa (AN (r := (Rp.vsl (Rp.int .i64))) Lr F Aa Aa (Al h_v3) h4).q fun a w F W => ?_
   refine ls F W Aa (AG (y := (v5.1)) (j := 0) (i := x3) (enc := H6) F Aa Aa (Al h_v3) h4 KB F8 (by rw [h6]; rfl)).q fun a w F W => ?_
   refine ls F W Aa (Ae F Aa).q fun a w F W => ?_
   refine Ad (Ac ?_)
   obtain ⟨o4, G4, K4⟩ := An H
   refine AR (fun a w => ∃ x5 : Bool, some (x5) = some o4 ∧ Fr 34 [] [(2, .pointer (some ⟨b1, 0, none⟩)), (4, .bool false), (17, v3), (18, .int .i64 (p1.length : Int)), (19, .int .i64 x3), (32, .bool x5)] a ∧ Stw ⟨Y, [], w0⟩ [(b1, [.int .i64 p0.1, v1, v2])] [] w) ?_ ?_
   ·
    have H := G4
    clear G4 K4
    refine Ab ?_
    refine ls F W Aa (Ag F Aa).q fun a w F W => ?_
    refine ls F W Aa (Bi (r := (Rp.int .i64)) (l := x4) F4 Aa F Aa (E6 (Al h_v3) h4 DI.here (congrArg (fun q : List Int => q) h5))).q fun a w F W => ?_
    refine ls F W Aa (Af FK Aa Aa Aa J9 F Aa 2 Aa).q fun a w F W => ?_
    refine ls F W Aa (Ak (v := v2) 0 F Aa Aa J9 Aa).q fun a w F W => ?_
    refine ls F W Aa (Bi (r := F2) (l := p0.2.2) Js Aa F Aa (Al h_v2)).q fun a w F W => ?_
    refine ls F W Aa (Fv F Aa Aa).q fun a w F W => ?_
    refine ls F W Aa (Ag F Aa).q fun a w F W => ?_
    rcases Bool.eq_false_or_eq_true (decide ((x4.length : Int) ≠ (p0.2.2.length : Int))) with hb | hb
    ·
     have H := AU (Bv hb) H
     rw [hb] at F
     clear hb
     iterate 2 refine Dm F Aa Aa Aa Aa Aa Aa Aa fun a F => ?_
     refine ls F W Aa (Av F Aa Aa Aa).q fun a w F W => ?_
     refine Ad (Ac ?_)
     exact ⟨_, H, F.re ⟨rfl, Aa, Aa, Aa, Aa, Aa, trivial⟩, W⟩
    have H := AW (Bu hb) H
    rw [hb] at F
    clear hb
    refine AH F W (Ai F Aa Aa Aa Aa) Aa (Ao Aa) (Ag F Aa).q fun a w F W => ?_
    refine Jo (Ai F Aa Aa Aa Aa) ?_
    obtain ⟨x6, h7, H⟩ := An H
    refine ls F W Aa (BB (v := Value.bool x6) F MJ Aa (fun w W => DF any w ((v5.1)) x4 _ h7 (((E6 (Al h_v3) h4 DI.here (congrArg (fun q : List Int => q) h5)) : DC _ _ _ _ _ _) w W).nx)) fun a w F W => ?_
    refine ls F W Aa (AF F Aa Aa Aa).q fun a w F W => ?_
    refine Ad (Ac ?_)
    exact ⟨_, H, F.re ⟨rfl, Aa, Aa, Aa, Aa, Aa, trivial⟩, W⟩
   rintro a w ⟨x5, hj, F, W⟩
   have hj := AV hj
   subst hj
   have H := K4
   clear G4 K4
   refine AB F Aa (fun hb => ?_) fun hb => ?_
   ·
    have H := AU hb H
    rw [hb] at F
    clear hb
    refine Ah (Ab ?_)
    refine ls F W Aa (Ae F Aa).q fun a w F W => ?_
    refine Ad (Ac (Ay (AP ?_)))
    iterate 2 refine AL ?_
    refine AP (AL ?_)
    have H := L3 _ H
    have H := L2 _ H
    have H := AV H
    subst H
    refine A5 (.inl Aa) F W Aa (Au F Aa) ?_
    exact ⟨rfl, W.done⟩
   have H := AW (by rw [hb]; decide) H
   rw [hb] at F
   clear hb
   refine As (AJ (Ac (Ab ?_)))
   refine ls F W Aa (CW F Aa Aa Aa).q fun a w F W => ?_
   refine ls F W Aa (Ag F Aa).q fun a w F W => ?_
   refine Ad (Ac ?_)
   exact ⟨_, H, F.re ⟨rfl, Aa, Aa, Aa, Aa, trivial⟩, W⟩
  have H := AW (Bu hb) H
  rw [hb] at F
  clear hb
  refine BC ?_
  iterate 2 refine B6 ?_
  refine BD (Ac ?_)
  have H := L3 _ H
  exact ⟨H, F.re ⟨rfl, trivial⟩, W⟩
 rintro a w ⟨hj, F, W⟩
 have H := K2 _ hj
 clear hj G2 K2 L2
 refine Ah (Ab ?_)
 refine ls F W Aa (Ae F Aa).q fun a w F W => ?_
 refine Ad (Ac (Ay ?_))
 have H := AV H
 subst H
 refine A5 (.inl Aa) F W Aa (Au F Aa) ?_
 exact ⟨rfl, W.done⟩
theorem Nq : Has Try.prog 54 := ⟨fun args w => Aj Try.func54 rfl (by decide) args w⟩
theorem LX (dd : Nat) (x0 : Int) (x1 : Int) (y0 : Int) (y1 : Int) (w : World) : (Op.equalIn (dd + 2) 60 (.agg #[.int .i64 x0, .int .i64 x1]) (.agg #[.int .i64 y0, .int .i64 y1])).run Try.prog w = .ok (decide (x0 = y0 ∧ x1 = y1)) w :=
  Fj (d := dd + 1) (rs := [decide (x0 = y0), decide (x1 = y1)]) Kp (by kernel_rfl) ⟨rfl, DY (d := dd + 0) rfl rfl Jw T3 rfl rfl, rfl, DY (d := dd + 0) rfl rfl Jw T3 rfl rfl, trivial⟩ (by simp) w
theorem NI : Try.prog.eqGuardType Try.prog.depth 60 = false := by kernel_rfl
theorem NJ (x0 : Int) (x1 : Int) (y0 : Int) (y1 : Int) (w : World) : (Op.equalIn 10000 60 (.agg #[.int .i64 x0, .int .i64 x1]) (.agg #[.int .i64 y0, .int .i64 y1])).run Try.prog w = .ok (decide (x0 = y0 ∧ x1 = y1)) w := LX 9998 x0 x1 y0 y1 w
noncomputable def Ba (p0 : List (Int × Int)) (p1 : Int × Int) : Int → Option (Int ⊕ (Unit ⊕ Int))
  | x1 => (if x1 < (p0.length : Int) then (ix p0 x1).bind fun x2 => (if p1.1 = x2.1 ∧ p1.2 = x2.2 then some (.inr (.inr x1)) else some (.inl (D8 (x1 + 1)))) else some (.inr (.inl ())))
noncomputable def A3 (p0 : List (Int × Int)) (p1 : Int × Int) : Option Int := F6 (Bj (Ba p0 p1) 0) fun _ => some (-1)
theorem Dg (Y : Nat → Prop) (w0 : World) (v1 : Value) (p0 : List (Int × Int)) (p1 : Int × Int) (r : Int) (H : A3 p0 p1 = some r) (h_v1 : Sl w0 (NX []) F2 v1 p0) :
    Calls Try.prog 68 #[v1, .agg #[.int .i64 p1.1, .int .i64 p1.2]] w0 fun e w' => e = .returned (.int .i64 r) ∧ Below w0.heap.size w0 w' := by
 refine enter Try.func68 Aa Try.ntmps68 Aa fun a F => ?_
 have W := Stw.start Y w0
 unfold A3 at H
 refine Ah (Ab ?_)
 refine Cf (cs := [.int .i64 p1.1, .int .i64 p1.2]) F W Aa Aa Aa fun b1 a w F W => ?_
 refine ls F W Aa (Ae F Aa).q fun a w F W => ?_
 refine Ad (Ac ?_)
 obtain ⟨o1, G1, K1, L1⟩ := JO H
 refine AR (fun a w => some (Sum.inl ()) = some o1 ∧ Fr 19 [] [(4, .int .i64 0)] a ∧ Stw ⟨Y, [], w0⟩ [(b1, [.int .i64 p1.1, .int .i64 p1.2])] [] w) ?_ ?_
 ·
  have H := G1
  clear G1 K1
  refine Ah (Ab ?_)
  refine ls F W Aa (Ag F Aa).q fun a w F W => ?_
  refine ls F W Aa (Bi (r := F2) (l := p0) Js Aa F Aa (Al h_v1)).q fun a w F W => ?_
  refine ls F W Aa (Ag F Aa).q fun a w F W => ?_
  refine Ad (Ac (Ax ?_))
  refine BT H (fun s a w => Fr 19 [] [(0, v1), (3, .pointer (some ⟨b1, 0, none⟩)), (4, .int .i64 0), (7, .int .i64 (p0.length : Int)), (8, .int .i64 s)] a ∧ Stw ⟨Y, [], w0⟩ [(b1, [.int .i64 p1.1, .int .i64 p1.2])] [] w) ⟨F.re ⟨rfl, Aa, Aa, Aa, Aa, trivial⟩, W⟩ fun s o a w H L2 hR => ?_
  obtain ⟨x1, rfl⟩ : ∃ x, x = s := ⟨s, rfl⟩
  obtain ⟨F, W⟩ := hR
  have F : Fr 19 [] [(0, v1), (3, .pointer (some ⟨b1, 0, none⟩)), (4, .int .i64 0), (7, .int .i64 (p0.length : Int)), (8, .int .i64 x1)] a := F
  have W : Stw ⟨Y, [], w0⟩ [(b1, [.int .i64 p1.1, .int .i64 p1.2])] [] w := W
  rw [Ba] at H
  refine Ah (Ab ?_)
  refine ls F W Aa (BU F Aa Aa).q fun a w F W => ?_
  refine Ad (Ac (Ah ?_))
  refine AB F Aa (fun hb => ?_) fun hb => ?_
  ·
   have H := AU (Bv hb) H
   rw [hb] at F
   clear hb
   refine As (Ac (Ah (Ax (Ah (Ab ?_)))))
   refine ls F W Aa (Ag F Aa).q fun a w F W => ?_
   refine ls F W Aa (Ae F Aa).q fun a w F W => ?_
   refine Ad (Ac (Ah ?_))
   refine Du W MO (by kernel_rfl) ?_
   refine qs F Aa (Ak (v := Value.agg #[.int .i64 p1.1, .int .i64 p1.2]) 0 F Aa Aa LJ Aa).q fun a F => ?_
   iterate 2 refine qs F Aa (Ag F Aa).q fun a F => ?_
   obtain ⟨x2, h1, H⟩ := An H
   refine qs F Aa (AN (r := F2) LQ F Aa Aa (Al h_v1) h1).q fun a F => ?_
   refine qs F Aa (AG (y := Value.agg #[.int .i64 x2.1, .int .i64 x2.2]) (j := 0) (i := x1) F Aa Aa (Al h_v1) h1 Me.to LJ Aa).q fun a F => ?_
   refine qs F Aa (I1 (t := decide (p1.1 = x2.1 ∧ p1.2 = x2.2)) NI (NJ _ _ _ _) F Aa Aa).q fun a F => ?_
   refine B8 fun w W => ?_
   refine Ac ?_
   refine AB F Aa (fun hb => ?_) fun hb => ?_
   ·
    have H := AU (Bv hb) H
    rw [hb] at F
    clear hb
    refine Ah (Ab ?_)
    refine ls F W Aa (Ag F Aa).q fun a w F W => ?_
    refine ls F W Aa (Ae F Aa).q fun a w F W => ?_
    refine Ad (Ac (Ay (AP ?_)))
    iterate 2 refine AL ?_
    refine AP (AL ?_)
    have H := L2 _ H
    have H := L1 _ H
    have H := AV H
    subst H
    refine A5 (.inl Aa) F W Aa (Au F Aa) ?_
    exact ⟨rfl, W.done⟩
   have H := AW (Bu hb) H
   rw [hb] at F
   clear hb
   refine As (AJ (Ac (Ab ?_)))
   refine ls F W Aa (CW F Aa Aa Aa).q fun a w F W => ?_
   refine ls F W Aa (Ag F Aa).q fun a w F W => ?_
   refine Ad (Ac ?_)
   exact ⟨_, H, F.re ⟨rfl, Aa, Aa, Aa, Aa, trivial⟩, W⟩
  have H := AW (Bu hb) H
  rw [hb] at F
  clear hb
  refine BC ?_
  iterate 2 refine B6 ?_
  refine BD (Ac ?_)
  have H := L2 _ H
  exact ⟨H, F.re ⟨rfl, trivial⟩, W⟩
 rintro a w ⟨hj, F, W⟩
 have H := K1 _ hj
 clear hj G1 K1 L1
 refine Ah (Ab ?_)
 refine ls F W Aa (Ae F Aa).q fun a w F W => ?_
 refine Ad (Ac (Ay ?_))
 have H := AV H
 subst H
 refine A5 (.inl Aa) F W Aa (Au F Aa) ?_
 exact ⟨rfl, W.done⟩
theorem NK : Has Try.prog 68 := ⟨fun args w => Aj Try.func68 rfl (by decide) args w⟩
noncomputable def DJ (p0 : Int × (List (Int × Int × Int × Int × Int × Int)) × (List (Int × Int))) (p1 : Int) (p2 : Int) : Option Int := (A3 p0.2.2 (p1, p2)).bind fun x1 => some x1
theorem Hp (Y : Nat → Prop) (w0 : World) (v1 : Value) (v2 : Value) (p0 : Int × (List (Int × Int × Int × Int × Int × Int)) × (List (Int × Int))) (p1 : Int) (p2 : Int) (r : Int) (H : DJ p0 p1 p2 = some r) (h_v1 : Sl w0 (NX []) EM v1 p0.2.1) (h_v2 : Sl w0 (NX []) F2 v2 p0.2.2) :
    Calls Try.prog 61 #[.agg #[.int .i64 p0.1, v1, v2], .int .i64 p1, .int .i64 p2] w0 fun e w' => e = .returned (.int .i64 r) ∧ Below w0.heap.size w0 w' := by
 refine enter Try.func61 Aa Try.ntmps61 Aa fun a F => ?_
 have W := Stw.start Y w0
 unfold DJ at H
 refine Ah (Ab ?_)
 refine Cf (cs := [.int .i64 p0.1, v1, v2]) F W Aa Aa Aa fun b1 a w F W => ?_
 refine ls F W Aa (Ae F Aa).q fun a w F W => ?_
 refine Ad (Ac (Ah (Ab ?_)))
 refine ls F W Aa (Af FK Aa Aa Aa J9 F Aa 2 Aa).q fun a w F W => ?_
 refine ls F W Aa (Ak (v := v2) 0 F Aa Aa J9 Aa).q fun a w F W => ?_
 iterate 2 refine ls F W Aa (Ag F Aa).q fun a w F W => ?_
 refine ls F W Aa (Bf (v := Value.agg #[.int .i64 p1, .int .i64 p2]) Mi F Aa Aa Aa).q fun a w F W => ?_
 obtain ⟨x1, h1, H⟩ := An H
 refine ls F W Aa (BB (v := Value.int .i64 x1) F NK Aa (fun w W => Dg any w (v2) p0.2.2 (p1, p2) _ h1 (((Al h_v2) : DC _ _ _ _ _ _) w W).nx)) fun a w F W => ?_
 refine ls F W Aa (Ae F Aa).q fun a w F W => ?_
 refine Ad (Ac (Ay ?_))
 have H := AV H
 subst H
 refine A5 (.inl Aa) F W Aa (Au F Aa) ?_
 exact ⟨rfl, W.done⟩
theorem MY : Has Try.prog 61 := ⟨fun args w => Aj Try.func61 rfl (by decide) args w⟩
noncomputable def DZ (p0 : Int × (List (Int × Int × Int × Int × Int × Int)) × (List (Int × Int))) (p1 : Int) (p2 : Int) : Int → Option (Int ⊕ (Unit ⊕ (Int × Int × Int × Bool)))
  | x1 => (if x1 < (p0.2.1.length : Int) then (ix p0.2.1 x1).bind fun x2 => (if p1 = x2.1 ∧ p2 = x2.2.1 then some (.inr (.inr (x2.2.2.1, x2.2.2.2.1, x1, true))) else (if p1 = x2.2.2.1 ∧ p2 = x2.2.2.2.1 then some (.inr (.inr (x2.1, x2.2.1, x1, true))) else some (.inl (D8 (x1 + 1))))) else some (.inr (.inl ())))
noncomputable def EH (p0 : Int × (List (Int × Int × Int × Int × Int × Int)) × (List (Int × Int))) (p1 : Int) (p2 : Int) : Option (Int × Int × Int × Bool) := F6 (Bj (DZ p0 p1 p2) 0) fun _ => some (0, 0, 0, false)
theorem Iv (Y : Nat → Prop) (w0 : World) (v1 : Value) (v2 : Value) (p0 : Int × (List (Int × Int × Int × Int × Int × Int)) × (List (Int × Int))) (p1 : Int) (p2 : Int) (r : Int × Int × Int × Bool) (H : EH p0 p1 p2 = some r) (h_v1 : Sl w0 (NX []) EM v1 p0.2.1) (h_v2 : Sl w0 (NX []) F2 v2 p0.2.2) :
    Calls Try.prog 69 #[.agg #[.int .i64 p0.1, v1, v2], .int .i64 p1, .int .i64 p2] w0 fun e w' => e = .returned (.tuple #[.int .i64 r.1, .int .i64 r.2.1, .int .i64 r.2.2.1, .bool r.2.2.2]) ∧ Below w0.heap.size w0 w' := by
 refine enter Try.func69 Aa Try.ntmps69 Aa fun a F => ?_
 have W := Stw.start Y w0
 unfold EH at H
 refine Ah (Ab ?_)
 refine Cf (cs := [.int .i64 p0.1, v1, v2]) F W Aa Aa Aa fun b1 a w F W => ?_
 iterate 4 refine ls F W Aa (Ae F Aa).q fun a w F W => ?_
 refine Ad (Ac (Ah (Ab ?_)))
 iterate 2 refine ls F W Aa (Ag F Aa).q fun a w F W => ?_
 refine ls F W Aa (Bf (v := Value.agg #[.int .i64 p1, .int .i64 p2]) Jt F Aa Aa Aa).q fun a w F W => ?_
 refine BI (cs := [.int .i64 0, .int .i64 0]) F W Aa Kq Aa fun b2 a w F W => ?_
 refine Bx (vs := [.int .i64 p1, .int .i64 p2]) (M' := [(b2, [.int .i64 p1, .int .i64 p2]), (b1, [.int .i64 p0.1, v1, v2])]) 0 F W Aa Aa Aa IY Aa Aa Aa Aa Aa fun w W => ?_
 refine Ad (Ac ?_)
 obtain ⟨o1, G1, K1, L1⟩ := JO H
 refine AR (fun a w => some (Sum.inl ()) = some o1 ∧ Fr 49 [] [(6, .int .i64 0), (7, .int .i64 0), (8, .int .i64 0), (9, .bool false)] a ∧ Stw ⟨Y, [], w0⟩ [(b2, [.int .i64 p1, .int .i64 p2]), (b1, [.int .i64 p0.1, v1, v2])] [] w) ?_ ?_
 ·
  have H := G1
  clear G1 K1
  refine Ah (Ab ?_)
  refine ls F W Aa (Af FK Aa Aa Aa KD F Aa 1 Aa).q fun a w F W => ?_
  refine ls F W Aa (Ak (v := v1) 1 F Aa Aa KD Aa).q fun a w F W => ?_
  refine ls F W Aa (Bi (r := EM) (l := p0.2.1) JN Aa F Aa (Al h_v1)).q fun a w F W => ?_
  refine ls F W Aa (Ag F Aa).q fun a w F W => ?_
  refine Ad (Ac (Ax ?_))
  have W := W.frontM (i := 1) Aa Aa
  have W := W.frontM (i := 1) Aa Aa
  refine BT H (fun s a w => Fr 49 [] [(6, .int .i64 0), (7, .int .i64 0), (8, .int .i64 0), (9, .bool false), (10, .pointer (some ⟨b2, 0, none⟩)), (17, v1), (18, .int .i64 (p0.2.1.length : Int)), (19, .int .i64 s)] a ∧ Stw ⟨Y, [], w0⟩ [(b2, [.int .i64 p1, .int .i64 p2]), (b1, [.int .i64 p0.1, v1, v2])] [] w) ⟨F.re ⟨rfl, Aa, Aa, Aa, Aa, Aa, Aa, Aa, trivial⟩, W⟩ fun s o a w H L2 hR => ?_
  obtain ⟨x1, rfl⟩ : ∃ x, x = s := ⟨s, rfl⟩
  obtain ⟨F, W⟩ := hR
  have F : Fr 49 [] [(6, .int .i64 0), (7, .int .i64 0), (8, .int .i64 0), (9, .bool false), (10, .pointer (some ⟨b2, 0, none⟩)), (17, v1), (18, .int .i64 (p0.2.1.length : Int)), (19, .int .i64 x1)] a := F
  have W : Stw ⟨Y, [], w0⟩ [(b2, [.int .i64 p1, .int .i64 p2]), (b1, [.int .i64 p0.1, v1, v2])] [] w := W
  rw [DZ] at H
  refine Ah (Ab ?_)
  refine ls F W Aa (BU F Aa Aa).q fun a w F W => ?_
  refine Ad (Ac (Ah ?_))
  refine AB F Aa (fun hb => ?_) fun hb => ?_
  ·
   have H := AU (Bv hb) H
   rw [hb] at F
   clear hb
   refine As (Ac (Ah (Ax (Ah (Ab ?_)))))
   refine ls F W Aa (Ag F Aa).q fun a w F W => ?_
   obtain ⟨x2, h1, H⟩ := An H
   refine ls F W Aa (AN (r := EM) Mf F Aa Aa (Al h_v1) h1).q fun a w F W => ?_
   refine ls F W Aa (AG (y := Value.agg #[.int .i64 x2.1, .int .i64 x2.2.1, .int .i64 x2.2.2.1, .int .i64 x2.2.2.2.1, .int .i64 x2.2.2.2.2.1, .int .i64 x2.2.2.2.2.2]) (j := 0) (i := x1) F Aa Aa (Al h_v1) h1 KV.to JT Aa).q fun a w F W => ?_
   refine BI (cs := [.int .i64 0, .int .i64 0, .int .i64 0, .int .i64 0, .int .i64 0, .int .i64 0]) F W Aa LG Aa fun b3 a w F W => ?_
   refine ls F W Aa (Ae F Aa).q fun a w F W => ?_
   refine Bx (vs := [.int .i64 x2.1, .int .i64 x2.2.1, .int .i64 x2.2.2.1, .int .i64 x2.2.2.2.1, .int .i64 x2.2.2.2.2.1, .int .i64 x2.2.2.2.2.2]) (M' := [(b3, [.int .i64 x2.1, .int .i64 x2.2.1, .int .i64 x2.2.2.1, .int .i64 x2.2.2.2.1, .int .i64 x2.2.2.2.2.1, .int .i64 x2.2.2.2.2.2]), (b2, [.int .i64 p1, .int .i64 p2]), (b1, [.int .i64 p0.1, v1, v2])]) 0 F W Aa Aa Aa JT Aa Aa Aa Aa Aa fun w W => ?_
   refine Ad (Ac (Ah (Ah (Ab ?_))))
   refine ls F W Aa (Ak (v := Value.agg #[.int .i64 p1, .int .i64 p2]) 1 F Aa Aa IY Aa).q fun a w F W => ?_
   refine ls F W Aa (Af Dn Aa Aa Aa T3 F Aa 0 Aa).q fun a w F W => ?_
   refine ls F W Aa (Ak (v := Value.int .i64 x2.1) 0 F Aa Aa T3 Aa).q fun a w F W => ?_
   refine ls F W Aa (Af Dn Aa Aa Aa T3 F Aa 1 Aa).q fun a w F W => ?_
   refine ls F W Aa (Ak (v := Value.int .i64 x2.2.1) 0 F Aa Aa T3 Aa).q fun a w F W => ?_
   refine ls F W Aa (Bf (v := Value.agg #[.int .i64 x2.1, .int .i64 x2.2.1]) Jt F Aa Aa Aa).q fun a w F W => ?_
   refine ls F W Aa (I1 (t := decide (p1 = x2.1 ∧ p2 = x2.2.1)) LA (KU _ _ _ _) F Aa Aa).q fun a w F W => ?_
   refine Ad (Ac ?_)
   refine AB F Aa (fun hb => ?_) fun hb => ?_
   ·
    have H := AU (Bv hb) H
    rw [hb] at F
    clear hb
    refine Ah ?_
    refine Du W MO (by kernel_rfl) ?_
    refine qs F Aa (Af Dn Aa Aa Aa T3 F Aa 2 Aa).q fun a F => ?_
    refine qs F Aa (Ak (v := Value.int .i64 x2.2.2.1) 0 F Aa Aa T3 Aa).q fun a F => ?_
    refine qs F Aa (Af Dn Aa Aa Aa T3 F Aa 3 Aa).q fun a F => ?_
    refine qs F Aa (Ak (v := Value.int .i64 x2.2.2.2.1) 0 F Aa Aa T3 Aa).q fun a F => ?_
    refine qs F Aa (Ag F Aa).q fun a F => ?_
    iterate 4 refine qs F Aa (Ae F Aa).q fun a F => ?_
    refine B8 fun w W => ?_
    refine Ac (Ay (AL (AP ?_)))
    iterate 2 refine AL ?_
    refine AP (AL ?_)
    have H := L2 _ H
    have H := L1 _ H
    have H := AV H
    subst H
    refine JX (.inl Aa) F W Aa (Au F Aa) (Au F Aa) (Au F Aa) (Au F Aa) ?_
    exact ⟨rfl, W.done⟩
   have H := AW (Bu hb) H
   rw [hb] at F
   clear hb
   refine As (Ac (Ah (Ab ?_)))
   refine ls F W Aa (Ak (v := Value.agg #[.int .i64 p1, .int .i64 p2]) 1 F Aa Aa IY Aa).q fun a w F W => ?_
   refine ls F W Aa (Af Dn Aa Aa Aa T3 F Aa 2 Aa).q fun a w F W => ?_
   refine ls F W Aa (Ak (v := Value.int .i64 x2.2.2.1) 0 F Aa Aa T3 Aa).q fun a w F W => ?_
   refine ls F W Aa (Af Dn Aa Aa Aa T3 F Aa 3 Aa).q fun a w F W => ?_
   refine ls F W Aa (Ak (v := Value.int .i64 x2.2.2.2.1) 0 F Aa Aa T3 Aa).q fun a w F W => ?_
   refine ls F W Aa (Bf (v := Value.agg #[.int .i64 x2.2.2.1, .int .i64 x2.2.2.2.1]) Jt F Aa Aa Aa).q fun a w F W => ?_
   refine ls F W Aa (I1 (t := decide (p1 = x2.2.2.1 ∧ p2 = x2.2.2.2.1)) LA (KU _ _ _ _) F Aa Aa).q fun a w F W => ?_
   refine Ad (Ac ?_)
   refine AB F Aa (fun hb => ?_) fun hb => ?_
   ·
    have H := AU (Bv hb) H
    rw [hb] at F
    clear hb
    refine Ah ?_
    refine Du W MO (by kernel_rfl) ?_
    refine qs F Aa (Af Dn Aa Aa Aa T3 F Aa 0 Aa).q fun a F => ?_
    refine qs F Aa (Ak (v := Value.int .i64 x2.1) 0 F Aa Aa T3 Aa).q fun a F => ?_
    refine qs F Aa (Af Dn Aa Aa Aa T3 F Aa 1 Aa).q fun a F => ?_
    refine qs F Aa (Ak (v := Value.int .i64 x2.2.1) 0 F Aa Aa T3 Aa).q fun a F => ?_
    refine qs F Aa (Ag F Aa).q fun a F => ?_
    iterate 4 refine qs F Aa (Ae F Aa).q fun a F => ?_
    refine B8 fun w W => ?_
    refine Ac (Ay (AP ?_))
    iterate 2 refine AL ?_
    refine AP (AL ?_)
    have H := L2 _ H
    have H := L1 _ H
    have H := AV H
    subst H
    refine JX (.inl Aa) F W Aa (Au F Aa) (Au F Aa) (Au F Aa) (Au F Aa) ?_
    exact ⟨rfl, W.done⟩
   have H := AW (Bu hb) H
   rw [hb] at F
   clear hb
   refine As (AJ (Ac (Ab ?_)))
   refine ls F W Aa (CW F Aa Aa Aa).q fun a w F W => ?_
   refine ls F W Aa (Ag F Aa).q fun a w F W => ?_
   refine Ad (Ac ?_)
   have W := W.frontM (i := 2) Aa Aa
   have W := W.frontM (i := 2) Aa Aa
   have W := W.sub (M' := [(b2, [.int .i64 p1, .int .i64 p2]), (b1, [.int .i64 p0.1, v1, v2])]) (Z' := []) (List.Sublist.cons_cons _ (List.Sublist.cons_cons _ (List.nil_sublist _))) (List.Sublist.refl _)
   exact ⟨_, H, F.re ⟨rfl, Aa, Aa, Aa, Aa, Aa, Aa, Aa, trivial⟩, W⟩
  have H := AW (Bu hb) H
  rw [hb] at F
  clear hb
  refine BC ?_
  iterate 2 refine B6 ?_
  refine BD (Ac ?_)
  have W := W.frontM (i := 1) Aa Aa
  have W := W.frontM (i := 1) Aa Aa
  have H := L2 _ H
  exact ⟨H, F.re ⟨rfl, Aa, Aa, Aa, trivial⟩, W⟩
 rintro a w ⟨hj, F, W⟩
 have H := K1 _ hj
 clear hj G1 K1 L1
 refine Ah (Ab ?_)
 iterate 4 refine ls F W Aa (Ae F Aa).q fun a w F W => ?_
 refine Ad (Ac (Ay ?_))
 have H := AV H
 subst H
 refine JX (.inl Aa) F W Aa (Au F Aa) (Au F Aa) (Au F Aa) (Au F Aa) ?_
 exact ⟨rfl, W.done⟩
theorem Nt : Has Try.prog 69 := ⟨fun args w => Aj Try.func69 rfl (by decide) args w⟩
noncomputable def D9 (p0 : Int × (List (Int × Int × Int × Int × Int × Int)) × (List (Int × Int))) (p1 : List (List Int)) (p2 : Int) (p3 : Int) : Option (Int × Bool) := (if p2 < 0 then some true else (if (p1.length : Int) ≤ p2 then some true else (if p3 < 0 then some true else (ix p1 p2).bind fun x2 => some (decide ((x2.length : Int) ≤ p3))))).bind fun x1 => (if x1 = true then some (0, false) else (ix p1 p2).bind fun x3 => (ix x3 p3).bind fun x4 => (EH p0 p2 x4).bind fun x5 => some (x5.1, x5.2.2.2))
theorem H5 (Y : Nat → Prop) (w0 : World) (v1 : Value) (v2 : Value) (v3 : Value) (p0 : Int × (List (Int × Int × Int × Int × Int × Int)) × (List (Int × Int))) (p1 : List (List Int)) (p2 : Int) (p3 : Int) (r : Int × Bool) (H : D9 p0 p1 p2 p3 = some r) (h_v1 : Sl w0 (NX []) EM v1 p0.2.1) (h_v2 : Sl w0 (NX []) F2 v2 p0.2.2) (h_v3 : Sl w0 (NX []) (Rp.slice (Rp.int .i64)) v3 p1) :
    Calls Try.prog 62 #[.agg #[.int .i64 p0.1, v1, v2], v3, .int .i64 p2, .int .i64 p3] w0 fun e w' => e = .returned (.tuple #[.int .i64 r.1, .bool r.2]) ∧ Below w0.heap.size w0 w' := by
 refine enter Try.func62 Aa Try.ntmps62 Aa fun a F => ?_
 have W := Stw.start Y w0
 obtain ⟨v4, h1, h_v3⟩ := h_v3.ex GB
 unfold D9 at H
 refine Ah (Ab ?_)
 refine Cf (cs := [.int .i64 p0.1, v1, v2]) F W Aa Aa Aa fun b1 a w F W => ?_
 iterate 2 refine ls F W Aa (Ae F Aa).q fun a w F W => ?_
 refine Ad (Ac (Ah ?_))
 obtain ⟨o1, G1, K1⟩ := An H
 refine AR (fun a w => ∃ x1 : Bool, some (x1) = some o1 ∧ Fr 52 [] [(1, v3), (2, .int .i64 p2), (3, .int .i64 p3), (4, .pointer (some ⟨b1, 0, none⟩)), (8, .int .i64 0), (9, .bool false), (34, .bool x1)] a ∧ Stw ⟨Y, [], w0⟩ [(b1, [.int .i64 p0.1, v1, v2])] [] w) ?_ ?_
 ·
  have H := G1
  clear G1 K1
  refine Ab ?_
  refine ls F W Aa (Ag F Aa).q fun a w F W => ?_
  refine ls F W Aa (BU F Aa Aa).q fun a w F W => ?_
  refine ls F W Aa (Ag F Aa).q fun a w F W => ?_
  rcases Bool.eq_false_or_eq_true (decide (p2 < 0)) with hb | hb
  ·
   have H := AU (Bv hb) H
   rw [hb] at F
   clear hb
   iterate 4 refine Dm F Aa Aa Aa Aa Aa Aa Aa fun a F => ?_
   refine ls F W Aa (Av F Aa Aa Aa).q fun a w F W => ?_
   refine ls F W Aa (Ag F Aa).q fun a w F W => ?_
   iterate 2 refine Dm F Aa Aa Aa Aa Aa Aa Aa fun a F => ?_
   refine ls F W Aa (Av F Aa Aa Aa).q fun a w F W => ?_
   refine ls F W Aa (Ag F Aa).q fun a w F W => ?_
   iterate 7 refine Dm F Aa Aa Aa Aa Aa Aa Aa fun a F => ?_
   refine ls F W Aa (Av F Aa Aa Aa).q fun a w F W => ?_
   refine Ad (Ac ?_)
   exact ⟨_, H, F.re ⟨rfl, Aa, Aa, Aa, Aa, Aa, Aa, trivial⟩, W⟩
  have H := AW (Bu hb) H
  rw [hb] at F
  clear hb
  iterate 2 refine AH F W (Ai F Aa Aa Aa Aa) Aa (Ao Aa) (Ag F Aa).q fun a w F W => ?_
  refine AH F W (Ai F Aa Aa Aa Aa) Aa (Ao Aa) (Bi (r := (Rp.slice (Rp.int .i64))) (l := p1) Kd Aa F Aa (C5 GB h1 (Al h_v3))).q fun a w F W => ?_
  refine AH F W (Ai F Aa Aa Aa Aa) Aa (Ao Aa) (Ep F Aa Aa).q fun a w F W => ?_
  refine ls F W Aa (AF F Aa Aa Aa).q fun a w F W => ?_
  refine ls F W Aa (Ag F Aa).q fun a w F W => ?_
  rcases Bool.eq_false_or_eq_true (decide ((p1.length : Int) ≤ p2)) with hb | hb
  ·
   have H := AU (Bv hb) H
   rw [hb] at F
   clear hb
   iterate 2 refine Dm F Aa Aa Aa Aa Aa Aa Aa fun a F => ?_
   refine ls F W Aa (Av F Aa Aa Aa).q fun a w F W => ?_
   refine ls F W Aa (Ag F Aa).q fun a w F W => ?_
   iterate 7 refine Dm F Aa Aa Aa Aa Aa Aa Aa fun a F => ?_
   refine ls F W Aa (Av F Aa Aa Aa).q fun a w F W => ?_
   refine Ad (Ac ?_)
   exact ⟨_, H, F.re ⟨rfl, Aa, Aa, Aa, Aa, Aa, Aa, trivial⟩, W⟩
  have H := AW (Bu hb) H
  rw [hb] at F
  clear hb
  refine AH F W (Ai F Aa Aa Aa Aa) Aa (Ao Aa) (Ag F Aa).q fun a w F W => ?_
  refine AH F W (Ai F Aa Aa Aa Aa) Aa (Ao Aa) (BU F Aa Aa).q fun a w F W => ?_
  refine ls F W Aa (AF F Aa Aa Aa).q fun a w F W => ?_
  refine ls F W Aa (Ag F Aa).q fun a w F W => ?_
  rcases Bool.eq_false_or_eq_true (decide (p3 < 0)) with hb | hb
  ·
   have H := AU (Bv hb) H
   rw [hb] at F
   clear hb
   iterate 7 refine Dm F Aa Aa Aa Aa Aa Aa Aa fun a F => ?_
   refine ls F W Aa (Av F Aa Aa Aa).q fun a w F W => ?_
   refine Ad (Ac ?_)
   exact ⟨_, H, F.re ⟨rfl, Aa, Aa, Aa, Aa, Aa, Aa, trivial⟩, W⟩
  have H := AW (Bu hb) H
  rw [hb] at F
  clear hb
  iterate 3 refine AH F W (Ai F Aa Aa Aa Aa) Aa (Ao Aa) (Ag F Aa).q fun a w F W => ?_
  obtain ⟨x2, h2, H⟩ := An H
  obtain ⟨v5, h3, h4⟩ := E0 h1 h2
  have h5 : H6 v5 = [(v5.1)] := congrArg (fun q : List Int => ([(v5.1)] : List Value)) h4
  refine AH F W (Ai F Aa Aa Aa Aa) Aa (Ao Aa) (AN (r := (Rp.vsl (Rp.int .i64))) Lr F Aa Aa (Al h_v3) h3).q fun a w F W => ?_
  refine AH F W (Ai F Aa Aa Aa Aa) Aa (Ao Aa) (AG (y := (v5.1)) (j := 0) (i := p2) (enc := H6) F Aa Aa (Al h_v3) h3 KB F8 (by rw [h5]; rfl)).q fun a w F W => ?_
  refine AH F W (Ai F Aa Aa Aa Aa) Aa (Ao Aa) (Bi (r := (Rp.int .i64)) (l := x2) F4 Aa F Aa (E6 (Al h_v3) h3 DI.here (congrArg (fun q : List Int => q) h4))).q fun a w F W => ?_
  refine AH F W (Ai F Aa Aa Aa Aa) Aa (Ao Aa) (Ep F Aa Aa).q fun a w F W => ?_
  refine ls F W Aa (AF F Aa Aa Aa).q fun a w F W => ?_
  refine Ad (Ac ?_)
  exact ⟨_, H, F.re ⟨rfl, Aa, Aa, Aa, Aa, Aa, Aa, trivial⟩, W⟩
 rintro a w ⟨x1, hj, F, W⟩
 have hj := AV hj
 subst hj
 have H := K1
 clear G1 K1
 refine AB F Aa (fun hb => ?_) fun hb => ?_
 ·
  have H := AU hb H
  rw [hb] at F
  clear hb
  refine Ah (Ab ?_)
  iterate 2 refine ls F W Aa (Ae F Aa).q fun a w F W => ?_
  refine Ad (Ac (Ay (AL ?_)))
  have H := AV H
  subst H
  refine Hg (.inl Aa) F W Aa (Au F Aa) (Au F Aa) ?_
  exact ⟨rfl, W.done⟩
 have H := AW (by rw [hb]; decide) H
 rw [hb] at F
 clear hb
 refine As (Ac (Ah ?_))
 refine Du W MO (by kernel_rfl) ?_
 refine qs F Aa (Ak (v := Value.agg #[.int .i64 p0.1, v1, v2]) 0 F Aa Aa Jv Aa).q fun a F => ?_
 iterate 3 refine qs F Aa (Ag F Aa).q fun a F => ?_
 obtain ⟨x3, h6, H⟩ := An H
 obtain ⟨v6, h7, h8⟩ := E0 h1 h6
 have h9 : H6 v6 = [(v6.1)] := congrArg (fun q : List Int => ([(v6.1)] : List Value)) h8
 refine qs F Aa (AN (r := (Rp.vsl (Rp.int .i64))) Lr F Aa Aa (Al h_v3) h7).q fun a F => ?_
 refine qs F Aa (AG (y := (v6.1)) (j := 0) (i := p2) (enc := H6) F Aa Aa (Al h_v3) h7 KB F8 (by rw [h9]; rfl)).q fun a F => ?_
 refine qs F Aa (Ag F Aa).q fun a F => ?_
 obtain ⟨x4, h10, H⟩ := An H
 refine qs F Aa (AN (r := (Rp.int .i64)) Ip F Aa Aa (E6 (Al h_v3) h7 DI.here (congrArg (fun q : List Int => q) h8)) h10).q fun a F => ?_
 refine qs F Aa (AG (y := Value.int .i64 x4) (j := 0) (i := p3) F Aa Aa (E6 (Al h_v3) h7 DI.here (congrArg (fun q : List Int => q) h8)) h10 Fl.int.to T3 Aa).q fun a F => ?_
 obtain ⟨x5, h11, H⟩ := An H
 refine qs F Aa (BB (v := Value.tuple #[.int .i64 x5.1, .int .i64 x5.2.1, .int .i64 x5.2.2.1, .bool x5.2.2.2]) F Nt Aa (fun w W => Iv any w (v1) (v2) p0 p2 x4 _ h11 (((Al h_v1) : DC _ _ _ _ _ _) w W).nx (((Al h_v2) : DC _ _ _ _ _ _) w W).nx)) fun a F => ?_
 refine qs F Aa (Ag F Aa).q fun a F => ?_
 refine qs F Aa (Bz (v := Value.int .i64 x5.1) F Aa Aa).q fun a F => ?_
 refine qs F Aa (Bz (v := Value.int .i64 x5.2.1) F Aa Aa).q fun a F => ?_
 refine qs F Aa (Bz (v := Value.int .i64 x5.2.2.1) F Aa Aa).q fun a F => ?_
 refine qs F Aa (Bz (v := Value.bool x5.2.2.2) F Aa Aa).q fun a F => ?_
 iterate 4 refine qs F Aa (Ae F Aa).q fun a F => ?_
 refine B8 fun w W => ?_
 refine Ac (Ah (Ab ?_))
 iterate 2 refine ls F W Aa (Ag F Aa).q fun a w F W => ?_
 iterate 2 refine ls F W Aa (Ae F Aa).q fun a w F W => ?_
 refine Ad (Ac (Ay ?_))
 have H := AV H
 subst H
 refine Hg (.inl Aa) F W Aa (Au F Aa) (Au F Aa) ?_
 exact ⟨rfl, W.done⟩
theorem Nx : Has Try.prog 62 := ⟨fun args w => Aj Try.func62 rfl (by decide) args w⟩
noncomputable def B4 (p0 : List Int) (p1 : Int) : Int → Option (Int ⊕ (Unit ⊕ Bool))
  | x1 => (if x1 < (p0.length : Int) then (ix p0 x1).bind fun x2 => (if p1 = x2 then some (.inr (.inr true)) else some (.inl (D8 (x1 + 1)))) else some (.inr (.inl ())))
noncomputable def BW (p0 : List Int) (p1 : Int) : Option Bool := F6 (Bj (B4 p0 p1) 0) fun _ => some false
theorem Fe (Y : Nat → Prop) (w0 : World) (v1 : Value) (p0 : List Int) (p1 : Int) (r : Bool) (H : BW p0 p1 = some r) (h_v1 : Sl w0 (NX []) (Rp.int .i64) v1 p0) :
    Calls Try.prog 63 #[v1, .int .i64 p1] w0 fun e w' => e = .returned (.bool r) ∧ Below w0.heap.size w0 w' := by
 refine enter Try.func63 Aa Try.ntmps63 Aa fun a F => ?_
 have W := Stw.start Y w0
 unfold BW at H
 refine Ah (Ab ?_)
 refine ls F W Aa (Ae F Aa).q fun a w F W => ?_
 refine Ad (Ac ?_)
 obtain ⟨o1, G1, K1, L1⟩ := JO H
 refine AR (fun a w => some (Sum.inl ()) = some o1 ∧ Fr 17 [] [(4, .bool false)] a ∧ Stw ⟨Y, [], w0⟩ [] [] w) ?_ ?_
 ·
  have H := G1
  clear G1 K1
  refine Ah (Ab ?_)
  refine ls F W Aa (Ag F Aa).q fun a w F W => ?_
  refine ls F W Aa (Bi (r := (Rp.int .i64)) (l := p0) F4 Aa F Aa (Al h_v1)).q fun a w F W => ?_
  refine ls F W Aa (Ag F Aa).q fun a w F W => ?_
  refine Ad (Ac (Ax ?_))
  refine BT H (fun s a w => Fr 17 [] [(1, .int .i64 p1), (4, .bool false), (7, v1), (8, .int .i64 (p0.length : Int)), (9, .int .i64 s)] a ∧ Stw ⟨Y, [], w0⟩ [] [] w) ⟨F.re ⟨rfl, Aa, Aa, Aa, Aa, trivial⟩, W⟩ fun s o a w H L2 hR => ?_
  obtain ⟨x1, rfl⟩ : ∃ x, x = s := ⟨s, rfl⟩
  obtain ⟨F, W⟩ := hR
  have F : Fr 17 [] [(1, .int .i64 p1), (4, .bool false), (7, v1), (8, .int .i64 (p0.length : Int)), (9, .int .i64 x1)] a := F
  have W : Stw ⟨Y, [], w0⟩ [] [] w := W
  rw [B4] at H
  refine Ah (Ab ?_)
  refine ls F W Aa (BU F Aa Aa).q fun a w F W => ?_
  refine Ad (Ac (Ah ?_))
  refine AB F Aa (fun hb => ?_) fun hb => ?_
  ·
   have H := AU (Bv hb) H
   rw [hb] at F
   clear hb
   refine As (Ac (Ah (Ax (Ah (Ab ?_)))))
   obtain ⟨x2, h1, H⟩ := An H
   refine ls F W Aa (AN (r := (Rp.int .i64)) Ip F Aa Aa (Al h_v1) h1).q fun a w F W => ?_
   refine ls F W Aa (AG (y := Value.int .i64 x2) (j := 0) (i := x1) F Aa Aa (Al h_v1) h1 Fl.int.to T3 Aa).q fun a w F W => ?_
   refine ls F W Aa (Ae F Aa).q fun a w F W => ?_
   refine Ad (Ac (Ah (Ab ?_)))
   iterate 2 refine ls F W Aa (Ag F Aa).q fun a w F W => ?_
   refine ls F W Aa (CB F Aa Aa).q fun a w F W => ?_
   refine Ad (Ac ?_)
   refine AB F Aa (fun hb => ?_) fun hb => ?_
   ·
    have H := AU (Bv hb) H
    rw [hb] at F
    clear hb
    refine Ah (Ab ?_)
    refine ls F W Aa (Ae F Aa).q fun a w F W => ?_
    refine Ad (Ac (Ay (AP ?_)))
    iterate 2 refine AL ?_
    refine AP (AL ?_)
    have H := L2 _ H
    have H := L1 _ H
    have H := AV H
    subst H
    refine A5 (.inl Aa) F W Aa (Au F Aa) ?_
    exact ⟨rfl, W.done⟩
   have H := AW (Bu hb) H
   rw [hb] at F
   clear hb
   refine As (AJ (Ac (Ab ?_)))
   refine ls F W Aa (CW F Aa Aa Aa).q fun a w F W => ?_
   refine ls F W Aa (Ag F Aa).q fun a w F W => ?_
   refine Ad (Ac ?_)
   exact ⟨_, H, F.re ⟨rfl, Aa, Aa, Aa, Aa, trivial⟩, W⟩
  have H := AW (Bu hb) H
  rw [hb] at F
  clear hb
  refine BC ?_
  iterate 2 refine B6 ?_
  refine BD (Ac ?_)
  have H := L2 _ H
  exact ⟨H, F.re ⟨rfl, trivial⟩, W⟩
 rintro a w ⟨hj, F, W⟩
 have H := K1 _ hj
 clear hj G1 K1 L1
 refine Ah (Ab ?_)
 refine ls F W Aa (Ae F Aa).q fun a w F W => ?_
 refine Ad (Ac (Ay ?_))
 have H := AV H
 subst H
 refine A5 (.inl Aa) F W Aa (Au F Aa) ?_
 exact ⟨rfl, W.done⟩
theorem Np : Has Try.prog 63 := ⟨fun args w => Aj Try.func63 rfl (by decide) args w⟩
noncomputable def DA (p0 : Int × (List (Int × Int × Int × Int × Int × Int)) × (List (Int × Int))) (p1 : List (List Int)) (p3 : Int) : (Int × List Int) → Option ((Int × List Int) ⊕ ((List Int) ⊕ (List Int × Int)))
  | (x2, x3) => (ix p1 x2).bind fun x4 => (ix x4 p3).bind fun x5 => (DJ p0 x2 x5).bind fun x6 => (if x6 ≠ p3 then (D9 p0 p1 x2 p3).bind fun x7 => (if (!x7.2) = true then some (.inr (.inr (([] : List Int), 13))) else (BW x3 x7.1).bind fun x8 => (if x8 = true then some (.inr (.inr (([] : List Int), 12))) else (E9 x3 ([x7.1] : List Int)).bind fun x9 => some (.inl (x7.1, x9)))) else some (.inr (.inl x3)))
noncomputable def Eb (p0 : Int × (List (Int × Int × Int × Int × Int × Int)) × (List (Int × Int))) (p1 : List (List Int)) (p2 : Int) (p3 : Int) : Option (List Int × Int) := F6 (Bj (DA p0 p1 p3) (p2, ([p2] : List Int))) fun x1 => some (x1, 0)
theorem HR (Y : Nat → Prop) (w0 : World) (v1 : Value) (v2 : Value) (v3 : Value) (p0 : Int × (List (Int × Int × Int × Int × Int × Int)) × (List (Int × Int))) (p1 : List (List Int)) (p2 : Int) (p3 : Int) (r : List Int × Int) (H : Eb p0 p1 p2 p3 = some r) (h_v1 : Sl w0 (NX []) EM v1 p0.2.1) (h_v2 : Sl w0 (NX []) F2 v2 p0.2.2) (h_v3 : Sl w0 (NX []) (Rp.slice (Rp.int .i64)) v3 p1) :
    Calls Try.prog 55 #[.agg #[.int .i64 p0.1, v1, v2], v3, .int .i64 p2, .int .i64 p3] w0 fun e w' => ∃ x : Value, e = .returned (.tuple #[x, .int .i64 r.2]) ∧ Stw ⟨Y, [], w0⟩ [] [row (x) 3 (Rp.int .i64) r.1] w' := by
 refine enter Try.func55 Aa Try.ntmps55 Aa fun a F => ?_
 have W := Stw.start Y w0
 obtain ⟨v4, h1, h_v3⟩ := h_v3.ex GB
 unfold Eb at H
 refine Ah (Ab ?_)
 refine Cf (cs := [.int .i64 p0.1, v1, v2]) F W Aa Aa Aa fun b1 a w F W => ?_
 iterate 2 refine ls F W Aa (Ae F Aa).q fun a w F W => ?_
 refine Ad (Ac (Ah (Ab ?_)))
 refine ls F W Aa (Ag F Aa).q fun a w F W => ?_
 refine CV (z := Value.int .i64 0) (cs := [.int .i64 p2]) (Rp.int .i64) ([p2] : List Int) F W Aa Ip Z3 Aa Aa Aa Aa Aa Aa (Fl.int.repL _ _ ([p2] : List Int)) fun v5 a w F W => ?_
 refine ls F W Aa (Ae F Aa).q fun a w F W => ?_
 refine Ad (Ac ?_)
 obtain ⟨o1, G1, K1, L1⟩ := JO H
 refine AR (fun a w => ∃ x1 : List Int, ∃ v6 : Value, some (Sum.inl x1) = some o1 ∧ Fr 46 [] [(8, .slice none 0 0), (9, .int .i64 0), (10, v6)] a ∧ Stw ⟨Y, [], w0⟩ [(b1, [.int .i64 p0.1, v1, v2])] [row v6 3 (Rp.int .i64) x1] w) ?_ ?_
 ·
  have H := G1
  clear G1 K1
  refine Ax ?_
  refine BT H (fun s a w => ∃ v7 : Value, Fr 46 [] [(1, v3), (2, .int .i64 s.1), (3, .int .i64 p3), (4, .pointer (some ⟨b1, 0, none⟩)), (8, .slice none 0 0), (9, .int .i64 0), (10, v7)] a ∧ Stw ⟨Y, [], w0⟩ [(b1, [.int .i64 p0.1, v1, v2])] [row v7 3 (Rp.int .i64) s.2] w) ⟨(v5), F.re ⟨rfl, Aa, Aa, Aa, Aa, Aa, Aa, trivial⟩, W⟩ fun s o a w H L2 hR => ?_
  obtain ⟨x2, x3⟩ := s
  obtain ⟨v7, F, W⟩ := hR
  have F : Fr 46 [] [(1, v3), (2, .int .i64 x2), (3, .int .i64 p3), (4, .pointer (some ⟨b1, 0, none⟩)), (8, .slice none 0 0), (9, .int .i64 0), (10, v7)] a := F
  have W : Stw ⟨Y, [], w0⟩ [(b1, [.int .i64 p0.1, v1, v2])] [row v7 3 (Rp.int .i64) x3] w := W
  rw [DA] at H
  iterate 2 refine Ah ?_
  refine Du W MO (by kernel_rfl) ?_
  refine qs F Aa (Ak (v := Value.agg #[.int .i64 p0.1, v1, v2]) 0 F Aa Aa Jv Aa).q fun a F => ?_
  iterate 3 refine qs F Aa (Ag F Aa).q fun a F => ?_
  obtain ⟨x4, h2, H⟩ := An H
  obtain ⟨v8, h3, h4⟩ := E0 h1 h2
  have h5 : H6 v8 = [(v8.1)] := congrArg (fun q : List Int => ([(v8.1)] : List Value)) h4
  refine qs F Aa (AN (r := (Rp.vsl (Rp.int .i64))) Lr F Aa Aa (Al h_v3) h3).q fun a F => ?_
  refine qs F Aa (AG (y := (v8.1)) (j := 0) (i := x2) (enc := H6) F Aa Aa (Al h_v3) h3 KB F8 (by rw [h5]; rfl)).q fun a F => ?_
  refine qs F Aa (Ag F Aa).q fun a F => ?_
  obtain ⟨x5, h6, H⟩ := An H
  refine qs F Aa (AN (r := (Rp.int .i64)) Ip F Aa Aa (E6 (Al h_v3) h3 DI.here (congrArg (fun q : List Int => q) h4)) h6).q fun a F => ?_
  refine qs F Aa (AG (y := Value.int .i64 x5) (j := 0) (i := p3) F Aa Aa (E6 (Al h_v3) h3 DI.here (congrArg (fun q : List Int => q) h4)) h6 Fl.int.to T3 Aa).q fun a F => ?_
  obtain ⟨x6, h7, H⟩ := An H
  refine qs F Aa (BB (v := Value.int .i64 x6) F MY Aa (fun w W => Hp any w (v1) (v2) p0 x2 x5 _ h7 (((Al h_v1) : DC _ _ _ _ _ _) w W).nx (((Al h_v2) : DC _ _ _ _ _ _) w W).nx)) fun a F => ?_
  refine qs F Aa (Ag F Aa).q fun a F => ?_
  refine qs F Aa (Fv F Aa Aa).q fun a F => ?_
  refine B8 fun w W => ?_
  refine Ac ?_
  refine AB F Aa (fun hb => ?_) fun hb => ?_
  ·
   have H := AU (Bv hb) H
   rw [hb] at F
   clear hb
   refine As (Ac (Ax (Ah (Ab ?_))))
   refine ls F W Aa (Ak (v := Value.agg #[.int .i64 p0.1, v1, v2]) 0 F Aa Aa Jv Aa).q fun a w F W => ?_
   iterate 3 refine ls F W Aa (Ag F Aa).q fun a w F W => ?_
   obtain ⟨x7, h8, H⟩ := An H
   refine ls F W Aa (BB (v := Value.tuple #[.int .i64 x7.1, .bool x7.2]) F Nx Aa (fun w W => H5 any w (v1) (v2) (v3) p0 p1 x2 p3 _ h8 (((Al h_v1) : DC _ _ _ _ _ _) w W).nx (((Al h_v2) : DC _ _ _ _ _ _) w W).nx (((C5 GB h1 (Al h_v3)) : DC _ _ _ _ _ _) w W).nx)) fun a w F W => ?_
   refine ls F W Aa (Ag F Aa).q fun a w F W => ?_
   refine ls F W Aa (Bz (v := Value.int .i64 x7.1) F Aa Aa).q fun a w F W => ?_
   refine ls F W Aa (Bz (v := Value.bool x7.2) F Aa Aa).q fun a w F W => ?_
   iterate 2 refine ls F W Aa (Ae F Aa).q fun a w F W => ?_
   refine Ad (Ac (Ah (Ah (Ab ?_))))
   refine ls F W Aa (Ag F Aa).q fun a w F W => ?_
   refine ls F W Aa (Gr F Aa).q fun a w F W => ?_
   refine Ad (Ac ?_)
   refine AB F Aa (fun hb => ?_) fun hb => ?_
   ·
    have H := AU hb H
    rw [hb] at F
    clear hb
    refine Ah (Ab ?_)
    iterate 2 refine ls F W Aa (Ae F Aa).q fun a w F W => ?_
    refine Ad (Ac (Ay (AL (AP (AL (AP (AL ?_)))))))
    have H := L2 _ H
    have H := L1 _ H
    have H := AV H
    subst H
    refine Hg (.inl Aa) F W Aa (Au F Aa) (Au F Aa) ?_
    have W := W.nilRow 3 (Rp.int .i64)
    have W := W.sub (M' := []) (Z' := [row (Value.slice none 0 0) 3 (Rp.int .i64) ([])]) (List.nil_sublist _) (List.Sublist.cons_cons _ (List.nil_sublist _))
    exact ⟨(Value.slice none 0 0), Aa, W⟩
   have H := AW (by rw [hb]; decide) H
   rw [hb] at F
   clear hb
   refine As (Ac (Ah (Ah (Ab ?_))))
   iterate 2 refine ls F W Aa (Ag F Aa).q fun a w F W => ?_
   obtain ⟨x8, h9, H⟩ := An H
   refine ls F W Aa (BB (v := Value.bool x8) F Np Aa (fun w W => Fe any w (v7) x3 x7.1 _ h9 (((AE 0 Aa) : DC _ _ _ _ _ _) w W).nx)) fun a w F W => ?_
   refine Ad (Ac ?_)
   refine AB F Aa (fun hb => ?_) fun hb => ?_
   ·
    have H := AU hb H
    rw [hb] at F
    clear hb
    refine Ah (Ab ?_)
    iterate 2 refine ls F W Aa (Ae F Aa).q fun a w F W => ?_
    refine Ad (Ac (Ay (AL (AP (AL (AP (AL ?_)))))))
    have H := L2 _ H
    have H := L1 _ H
    have H := AV H
    subst H
    refine Hg (.inl Aa) F W Aa (Au F Aa) (Au F Aa) ?_
    have W := W.nilRow 3 (Rp.int .i64)
    have W := W.sub (M' := []) (Z' := [row (Value.slice none 0 0) 3 (Rp.int .i64) ([])]) (List.nil_sublist _) (List.Sublist.cons_cons _ (List.nil_sublist _))
    exact ⟨(Value.slice none 0 0), Aa, W⟩
   have H := AW (by rw [hb]; decide) H
   rw [hb] at F
   clear hb
   refine As (Ac (Ah (Ab ?_)))
   iterate 2 refine ls F W Aa (Ag F Aa).q fun a w F W => ?_
   refine CV (z := Value.int .i64 0) (cs := [.int .i64 x7.1]) (Rp.int .i64) ([x7.1] : List Int) F W Aa Ip Z3 Aa Aa Aa Aa Aa Aa (Fl.int.repL _ _ ([x7.1] : List Int)) fun v9 a w F W => ?_
   obtain ⟨x9, h10, H⟩ := An H
   refine Ca (r := (Rp.int .i64)) (i := 1) F W Aa Ip Aa Aa Aa Aa (CI W 0 Aa) h10 Aa fun v10 a w F W => ?_
   have W : Stw ⟨Y, [], w0⟩ [(b1, [.int .i64 p0.1, v1, v2])] [row v10 3 (Rp.int .i64) x9, row v9 3 (Rp.int .i64) ([x7.1] : List Int)] w := W
   refine ls F W Aa (Ae F Aa).q fun a w F W => ?_
   refine Ad (Ac (Ab ?_))
   refine ls F W Aa (Ag F Aa).q fun a w F W => ?_
   refine ls F W Aa (Ae F Aa).q fun a w F W => ?_
   refine Ad (AJ (Ac ?_))
   have W := W.sub (M' := [(b1, [.int .i64 p0.1, v1, v2])]) (Z' := [row v10 3 (Rp.int .i64) x9]) (List.Sublist.refl _) (List.Sublist.cons_cons _ (List.nil_sublist _))
   exact ⟨_, H, (v10), F.re ⟨rfl, Aa, Aa, Aa, Aa, Aa, Aa, trivial⟩, W⟩
  have H := AW (Bu hb) H
  rw [hb] at F
  clear hb
  refine BC ?_
  iterate 2 refine B6 ?_
  refine BD (Ac ?_)
  have H := L2 _ H
  exact ⟨_, (v7), H, F.re ⟨rfl, Aa, Aa, trivial⟩, W⟩
 rintro a w ⟨x1, v6, hj, F, W⟩
 have H := K1 _ hj
 clear hj G1 K1 L1
 refine Ah (Ab ?_)
 refine ls F W Aa (Ag F Aa).q fun a w F W => ?_
 iterate 2 refine ls F W Aa (Ae F Aa).q fun a w F W => ?_
 refine Ad (Ac (Ay ?_))
 have H := AV H
 subst H
 refine Hg (.inl Aa) F W Aa (Au F Aa) (Au F Aa) ?_
 have W := W.sub (M' := []) (Z' := [row v6 3 (Rp.int .i64) x1]) (List.nil_sublist _) (List.Sublist.refl _)
 exact ⟨(v6), Aa, W⟩
theorem Nu : Has Try.prog 55 := ⟨fun args w => Aj Try.func55 rfl (by decide) args w⟩
noncomputable def D3 (p0 : Int × (List (Int × Int × Int × Int × Int × Int)) × (List (Int × Int))) (p1 : List (List Int)) (p2 : Int) (p3 : Int) : Option (List Int × Int) := ((DG p0 p1).bind fun x2 => (if (!x2) = true then some true else (if p2 < 0 then some true else (if p0.1 ≤ p2 then some true else (if p3 < 0 then some true else some (decide ((p0.2.2.length : Int) ≤ p3))))))).bind fun x1 => (if x1 = true then some (([] : List Int), 2) else (Eb p0 p1 p2 p3).bind fun x3 => some (x3.1, x3.2))
theorem Id (Y : Nat → Prop) (w0 : World) (v1 : Value) (v2 : Value) (v3 : Value) (p0 : Int × (List (Int × Int × Int × Int × Int × Int)) × (List (Int × Int))) (p1 : List (List Int)) (p2 : Int) (p3 : Int) (r : List Int × Int) (H : D3 p0 p1 p2 p3 = some r) (h_v1 : Sl w0 (NX []) EM v1 p0.2.1) (h_v2 : Sl w0 (NX []) F2 v2 p0.2.2) (h_v3 : Sl w0 (NX []) (Rp.slice (Rp.int .i64)) v3 p1) :
    Calls Try.prog 44 #[.agg #[.int .i64 p0.1, v1, v2], v3, .int .i64 p2, .int .i64 p3] w0 fun e w' => ∃ x : Value, e = .returned (.tuple #[x, .int .i64 r.2]) ∧ Stw ⟨Y, [], w0⟩ [] [row (x) 3 (Rp.int .i64) r.1] w' := by
 refine enter Try.func44 Aa Try.ntmps44 Aa fun a F => ?_
 have W := Stw.start Y w0
 obtain ⟨v4, h1, h_v3⟩ := h_v3.ex GB
 unfold D3 at H
 refine Ah (Ab ?_)
 refine Cf (cs := [.int .i64 p0.1, v1, v2]) F W Aa Aa Aa fun b1 a w F W => ?_
 iterate 2 refine ls F W Aa (Ae F Aa).q fun a w F W => ?_
 refine Ad (Ac (Ah ?_))
 obtain ⟨o1, G1, K1⟩ := An H
 refine AR (fun a w => ∃ x1 : Bool, some (x1) = some o1 ∧ Fr 42 [] [(1, v3), (2, .int .i64 p2), (3, .int .i64 p3), (4, .pointer (some ⟨b1, 0, none⟩)), (8, .slice none 0 0), (9, .int .i64 0), (34, .bool x1)] a ∧ Stw ⟨Y, [], w0⟩ [(b1, [.int .i64 p0.1, v1, v2])] [] w) ?_ ?_
 ·
  have H := G1
  clear G1 K1
  refine Ab ?_
  refine ls F W Aa (Ak (v := Value.agg #[.int .i64 p0.1, v1, v2]) 0 F Aa Aa Jv Aa).q fun a w F W => ?_
  refine ls F W Aa (Ag F Aa).q fun a w F W => ?_
  obtain ⟨x2, h2, H⟩ := An H
  refine ls F W Aa (BB (v := Value.bool x2) F Nq Aa (fun w W => Hz any w (v1) (v2) (v3) p0 p1 _ h2 (((Al h_v1) : DC _ _ _ _ _ _) w W).nx (((Al h_v2) : DC _ _ _ _ _ _) w W).nx (((C5 GB h1 (Al h_v3)) : DC _ _ _ _ _ _) w W).nx)) fun a w F W => ?_
  refine ls F W Aa (Gr F Aa).q fun a w F W => ?_
  refine ls F W Aa (Ag F Aa).q fun a w F W => ?_
  rcases Bool.eq_false_or_eq_true (!x2) with hb | hb
  ·
   have H := AU hb H
   rw [hb] at F
   clear hb
   iterate 2 refine Dm F Aa Aa Aa Aa Aa Aa Aa fun a F => ?_
   refine ls F W Aa (Av F Aa Aa Aa).q fun a w F W => ?_
   refine ls F W Aa (Ag F Aa).q fun a w F W => ?_
   iterate 4 refine Dm F Aa Aa Aa Aa Aa Aa Aa fun a F => ?_
   refine ls F W Aa (Av F Aa Aa Aa).q fun a w F W => ?_
   refine ls F W Aa (Ag F Aa).q fun a w F W => ?_
   iterate 2 refine Dm F Aa Aa Aa Aa Aa Aa Aa fun a F => ?_
   refine ls F W Aa (Av F Aa Aa Aa).q fun a w F W => ?_
   refine ls F W Aa (Ag F Aa).q fun a w F W => ?_
   iterate 5 refine Dm F Aa Aa Aa Aa Aa Aa Aa fun a F => ?_
   refine ls F W Aa (Av F Aa Aa Aa).q fun a w F W => ?_
   refine Ad (Ac ?_)
   exact ⟨_, H, F.re ⟨rfl, Aa, Aa, Aa, Aa, Aa, Aa, trivial⟩, W⟩
  have H := AW (by rw [hb]; decide) H
  rw [hb] at F
  clear hb
  refine AH F W (Ai F Aa Aa Aa Aa) Aa (Ao Aa) (Ag F Aa).q fun a w F W => ?_
  refine AH F W (Ai F Aa Aa Aa Aa) Aa (Ao Aa) (BU F Aa Aa).q fun a w F W => ?_
  refine ls F W Aa (AF F Aa Aa Aa).q fun a w F W => ?_
  refine ls F W Aa (Ag F Aa).q fun a w F W => ?_
  rcases Bool.eq_false_or_eq_true (decide (p2 < 0)) with hb | hb
  ·
   have H := AU (Bv hb) H
   rw [hb] at F
   clear hb
   iterate 4 refine Dm F Aa Aa Aa Aa Aa Aa Aa fun a F => ?_
   refine ls F W Aa (Av F Aa Aa Aa).q fun a w F W => ?_
   refine ls F W Aa (Ag F Aa).q fun a w F W => ?_
   iterate 2 refine Dm F Aa Aa Aa Aa Aa Aa Aa fun a F => ?_
   refine ls F W Aa (Av F Aa Aa Aa).q fun a w F W => ?_
   refine ls F W Aa (Ag F Aa).q fun a w F W => ?_
   iterate 5 refine Dm F Aa Aa Aa Aa Aa Aa Aa fun a F => ?_
   refine ls F W Aa (Av F Aa Aa Aa).q fun a w F W => ?_
   refine Ad (Ac ?_)
   exact ⟨_, H, F.re ⟨rfl, Aa, Aa, Aa, Aa, Aa, Aa, trivial⟩, W⟩
  have H := AW (Bu hb) H
  rw [hb] at F
  clear hb
  refine AH F W (Ai F Aa Aa Aa Aa) Aa (Ao Aa) (Ag F Aa).q fun a w F W => ?_
  refine AH F W (Ai F Aa Aa Aa Aa) Aa (Ao Aa) (Af FK Aa Aa Aa T3 F Aa 0 Aa).q fun a w F W => ?_
  refine AH F W (Ai F Aa Aa Aa Aa) Aa (Ao Aa) (Ak (v := Value.int .i64 p0.1) 0 F Aa Aa T3 Aa).q fun a w F W => ?_
  refine AH F W (Ai F Aa Aa Aa Aa) Aa (Ao Aa) (Ep F Aa Aa).q fun a w F W => ?_
  refine ls F W Aa (AF F Aa Aa Aa).q fun a w F W => ?_
  refine ls F W Aa (Ag F Aa).q fun a w F W => ?_
  rcases Bool.eq_false_or_eq_true (decide (p0.1 ≤ p2)) with hb | hb
  ·
   have H := AU (Bv hb) H
   rw [hb] at F
   clear hb
   iterate 2 refine Dm F Aa Aa Aa Aa Aa Aa Aa fun a F => ?_
   refine ls F W Aa (Av F Aa Aa Aa).q fun a w F W => ?_
   refine ls F W Aa (Ag F Aa).q fun a w F W => ?_
   iterate 5 refine Dm F Aa Aa Aa Aa Aa Aa Aa fun a F => ?_
   refine ls F W Aa (Av F Aa Aa Aa).q fun a w F W => ?_
   refine Ad (Ac ?_)
   exact ⟨_, H, F.re ⟨rfl, Aa, Aa, Aa, Aa, Aa, Aa, trivial⟩, W⟩
  have H := AW (Bu hb) H
  rw [hb] at F
  clear hb
  refine AH F W (Ai F Aa Aa Aa Aa) Aa (Ao Aa) (Ag F Aa).q fun a w F W => ?_
  refine AH F W (Ai F Aa Aa Aa Aa) Aa (Ao Aa) (BU F Aa Aa).q fun a w F W => ?_
  refine ls F W Aa (AF F Aa Aa Aa).q fun a w F W => ?_
  refine ls F W Aa (Ag F Aa).q fun a w F W => ?_
  rcases Bool.eq_false_or_eq_true (decide (p3 < 0)) with hb | hb
  ·
   have H := AU (Bv hb) H
   rw [hb] at F
   clear hb
   iterate 5 refine Dm F Aa Aa Aa Aa Aa Aa Aa fun a F => ?_
   refine ls F W Aa (Av F Aa Aa Aa).q fun a w F W => ?_
   refine Ad (Ac ?_)
   exact ⟨_, H, F.re ⟨rfl, Aa, Aa, Aa, Aa, Aa, Aa, trivial⟩, W⟩
  have H := AW (Bu hb) H
  rw [hb] at F
  clear hb
  refine AH F W (Ai F Aa Aa Aa Aa) Aa (Ao Aa) (Ag F Aa).q fun a w F W => ?_
  refine AH F W (Ai F Aa Aa Aa Aa) Aa (Ao Aa) (Af FK Aa Aa Aa J9 F Aa 2 Aa).q fun a w F W => ?_
  refine AH F W (Ai F Aa Aa Aa Aa) Aa (Ao Aa) (Ak (v := v2) 0 F Aa Aa J9 Aa).q fun a w F W => ?_
  refine AH F W (Ai F Aa Aa Aa Aa) Aa (Ao Aa) (Bi (r := F2) (l := p0.2.2) Js Aa F Aa (Al h_v2)).q fun a w F W => ?_
  refine AH F W (Ai F Aa Aa Aa Aa) Aa (Ao Aa) (Ep F Aa Aa).q fun a w F W => ?_
  refine ls F W Aa (AF F Aa Aa Aa).q fun a w F W => ?_
  refine Ad (Ac ?_)
  exact ⟨_, H, F.re ⟨rfl, Aa, Aa, Aa, Aa, Aa, Aa, trivial⟩, W⟩
 rintro a w ⟨x1, hj, F, W⟩
 have hj := AV hj
 subst hj
 have H := K1
 clear G1 K1
 refine AB F Aa (fun hb => ?_) fun hb => ?_
 ·
  have H := AU hb H
  rw [hb] at F
  clear hb
  refine Ah (Ab ?_)
  iterate 2 refine ls F W Aa (Ae F Aa).q fun a w F W => ?_
  refine Ad (Ac (Ay (AL ?_)))
  have H := AV H
  subst H
  refine Hg (.inl Aa) F W Aa (Au F Aa) (Au F Aa) ?_
  have W := W.nilRow 3 (Rp.int .i64)
  have W := W.sub (M' := []) (Z' := [row (Value.slice none 0 0) 3 (Rp.int .i64) ([])]) (List.nil_sublist _) (List.Sublist.refl _)
  exact ⟨(Value.slice none 0 0), Aa, W⟩
 have H := AW (by rw [hb]; decide) H
 rw [hb] at F
 clear hb
 refine As (Ac (Ah (Ab ?_)))
 refine ls F W Aa (Ak (v := Value.agg #[.int .i64 p0.1, v1, v2]) 0 F Aa Aa Jv Aa).q fun a w F W => ?_
 iterate 3 refine ls F W Aa (Ag F Aa).q fun a w F W => ?_
 obtain ⟨x3, h3, H⟩ := An H
 refine BP (Ml := []) (Zl := []) (M := [(b1, [.int .i64 p0.1, v1, v2])]) (Z := []) (β := Value) (rv := fun x => .tuple #[x, .int .i64 x3.2]) (MM := fun x => []) (ZZ := fun x => [row x 3 (Rp.int .i64) x3.1]) F W Nu Aa Aa (fun hL => HR _ w (v1) (v2) (v3) p0 p1 p2 p3 _ h3 ((Al h_v1) w W).nx ((Al h_v2) w W).nx ((C5 GB h1 (Al h_v3)) w W).nx) fun x a w F W => ?_
 obtain ⟨v5, rfl⟩ : ∃ y, y = x := ⟨x, rfl⟩
 have W : Stw ⟨Y, [], w0⟩ [(b1, [.int .i64 p0.1, v1, v2])] [row v5 3 (Rp.int .i64) x3.1] w := W
 refine ls F W Aa (Bz (v := v5) F Aa Aa).q fun a w F W => ?_
 refine ls F W Aa (Bz (v := Value.int .i64 x3.2) F Aa Aa).q fun a w F W => ?_
 iterate 2 refine ls F W Aa (Ae F Aa).q fun a w F W => ?_
 refine Ad (Ac (Ay ?_))
 have H := AV H
 subst H
 refine Hg (.inl Aa) F W Aa (Au F Aa) (Au F Aa) ?_
 have W := W.sub (M' := []) (Z' := [row v5 3 (Rp.int .i64) x3.1]) (List.nil_sublist _) (List.Sublist.refl _)
 exact ⟨(v5), Aa, W⟩
theorem MS : Has Try.prog 44 := ⟨fun args w => Aj Try.func44 rfl (by decide) args w⟩
noncomputable def BO (p0 : List Int) (p1 : List Int) : Int → Option (Int ⊕ (Unit ⊕ Bool))
  | x1 => (if x1 < (p0.length : Int) then (ix p0 x1).bind fun x2 => (ix p1 x1).bind fun x3 => (if x2 ≠ x3 then some (.inr (.inr false)) else some (.inl (D8 (x1 + 1)))) else some (.inr (.inl ())))
noncomputable def BM (p0 : List Int) (p1 : List Int) : Option Bool := (if (p0.length : Int) ≠ (p1.length : Int) then some false else F6 (Bj (BO p0 p1) 0) fun _ => some true)
theorem EV (Y : Nat → Prop) (w0 : World) (v1 : Value) (v2 : Value) (p0 : List Int) (p1 : List Int) (r : Bool) (H : BM p0 p1 = some r) (h_v1 : Sl w0 (NX []) (Rp.int .i64) v1 p0) (h_v2 : Sl w0 (NX []) (Rp.int .i64) v2 p1) :
    Calls Try.prog 45 #[v1, v2] w0 fun e w' => e = .returned (.bool r) ∧ Below w0.heap.size w0 w' := by
 refine enter Try.func45 Aa Try.ntmps45 Aa fun a F => ?_
 have W := Stw.start Y w0
 unfold BM at H
 refine Ah (Ab ?_)
 refine ls F W Aa (Ae F Aa).q fun a w F W => ?_
 refine Ad (Ac (Ah (Ah (Ab ?_))))
 refine ls F W Aa (Ag F Aa).q fun a w F W => ?_
 refine ls F W Aa (Bi (r := (Rp.int .i64)) (l := p0) F4 Aa F Aa (Al h_v1)).q fun a w F W => ?_
 refine ls F W Aa (Ag F Aa).q fun a w F W => ?_
 refine ls F W Aa (Bi (r := (Rp.int .i64)) (l := p1) F4 Aa F Aa (Al h_v2)).q fun a w F W => ?_
 refine ls F W Aa (Fv F Aa Aa).q fun a w F W => ?_
 refine Ad (Ac ?_)
 refine AB F Aa (fun hb => ?_) fun hb => ?_
 ·
  have H := AU (Bv hb) H
  rw [hb] at F
  clear hb
  refine Ah (Ab ?_)
  refine ls F W Aa (Ae F Aa).q fun a w F W => ?_
  refine Ad (Ac (Ay (AL ?_)))
  have H := AV H
  subst H
  refine A5 (.inl Aa) F W Aa (Au F Aa) ?_
  exact ⟨rfl, W.done⟩
 have H := AW (Bu hb) H
 rw [hb] at F
 clear hb
 refine As (Ac ?_)
 obtain ⟨o1, G1, K1, L1⟩ := JO H
 refine AR (fun a w => some (Sum.inl ()) = some o1 ∧ Fr 26 [] [(4, .bool false)] a ∧ Stw ⟨Y, [], w0⟩ [] [] w) ?_ ?_
 ·
  have H := G1
  clear G1 K1
  refine Ah (Ab ?_)
  refine ls F W Aa (Ag F Aa).q fun a w F W => ?_
  refine ls F W Aa (Bi (r := (Rp.int .i64)) (l := p0) F4 Aa F Aa (Al h_v1)).q fun a w F W => ?_
  refine ls F W Aa (Ag F Aa).q fun a w F W => ?_
  refine Ad (Ac (Ax ?_))
  refine BT H (fun s a w => Fr 26 [] [(0, v1), (1, v2), (4, .bool false), (12, .int .i64 (p0.length : Int)), (13, .int .i64 s)] a ∧ Stw ⟨Y, [], w0⟩ [] [] w) ⟨F.re ⟨rfl, Aa, Aa, Aa, Aa, trivial⟩, W⟩ fun s o a w H L2 hR => ?_
  obtain ⟨x1, rfl⟩ : ∃ x, x = s := ⟨s, rfl⟩
  obtain ⟨F, W⟩ := hR
  have F : Fr 26 [] [(0, v1), (1, v2), (4, .bool false), (12, .int .i64 (p0.length : Int)), (13, .int .i64 x1)] a := F
  have W : Stw ⟨Y, [], w0⟩ [] [] w := W
  rw [BO] at H
  refine Ah (Ab ?_)
  refine ls F W Aa (BU F Aa Aa).q fun a w F W => ?_
  refine Ad (Ac (Ah ?_))
  refine AB F Aa (fun hb => ?_) fun hb => ?_
  ·
   have H := AU (Bv hb) H
   rw [hb] at F
   clear hb
   refine As (Ac (Ah (Ax (Ah (Ab ?_)))))
   refine ls F W Aa (Ag F Aa).q fun a w F W => ?_
   refine ls F W Aa (Ae F Aa).q fun a w F W => ?_
   refine Ad (Ac (Ah ?_))
   refine Du W MO (by kernel_rfl) ?_
   iterate 2 refine qs F Aa (Ag F Aa).q fun a F => ?_
   obtain ⟨x2, h1, H⟩ := An H
   refine qs F Aa (AN (r := (Rp.int .i64)) Ip F Aa Aa (Al h_v1) h1).q fun a F => ?_
   refine qs F Aa (AG (y := Value.int .i64 x2) (j := 0) (i := x1) F Aa Aa (Al h_v1) h1 Fl.int.to T3 Aa).q fun a F => ?_
   iterate 2 refine qs F Aa (Ag F Aa).q fun a F => ?_
   obtain ⟨x3, h2, H⟩ := An H
   refine qs F Aa (AN (r := (Rp.int .i64)) Ip F Aa Aa (Al h_v2) h2).q fun a F => ?_
   refine qs F Aa (AG (y := Value.int .i64 x3) (j := 0) (i := x1) F Aa Aa (Al h_v2) h2 Fl.int.to T3 Aa).q fun a F => ?_
   refine qs F Aa (Fv F Aa Aa).q fun a F => ?_
   refine B8 fun w W => ?_
   refine Ac ?_
   refine AB F Aa (fun hb => ?_) fun hb => ?_
   ·
    have H := AU (Bv hb) H
    rw [hb] at F
    clear hb
    refine Ah (Ab ?_)
    refine ls F W Aa (Ae F Aa).q fun a w F W => ?_
    refine Ad (Ac (Ay (AP ?_)))
    iterate 2 refine AL ?_
    refine AP (AL ?_)
    have H := L2 _ H
    have H := L1 _ H
    have H := AV H
    subst H
    refine A5 (.inl Aa) F W Aa (Au F Aa) ?_
    exact ⟨rfl, W.done⟩
   have H := AW (Bu hb) H
   rw [hb] at F
   clear hb
   refine As (AJ (Ac (Ab ?_)))
   refine ls F W Aa (CW F Aa Aa Aa).q fun a w F W => ?_
   refine ls F W Aa (Ag F Aa).q fun a w F W => ?_
   refine Ad (Ac ?_)
   exact ⟨_, H, F.re ⟨rfl, Aa, Aa, Aa, Aa, trivial⟩, W⟩
  have H := AW (Bu hb) H
  rw [hb] at F
  clear hb
  refine BC ?_
  iterate 2 refine B6 ?_
  refine BD (Ac ?_)
  have H := L2 _ H
  exact ⟨H, F.re ⟨rfl, trivial⟩, W⟩
 rintro a w ⟨hj, F, W⟩
 have H := K1 _ hj
 clear hj G1 K1 L1
 refine Ah (Ab ?_)
 refine ls F W Aa (Ae F Aa).q fun a w F W => ?_
 refine Ad (Ac (Ay ?_))
 have H := AV H
 subst H
 refine A5 (.inl Aa) F W Aa (Au F Aa) ?_
 exact ⟨rfl, W.done⟩
theorem NB : Has Try.prog 45 := ⟨fun args w => Aj Try.func45 rfl (by decide) args w⟩
noncomputable def CS (p0 : Int × (List (Int × Int × Int × Int × Int × Int)) × (List (Int × Int))) (p1 : List (List (List Int))) (p2 : Int) (p3 : Int × Int × Int × Int × List Int × Int × Int × Int) : Option Bool := (if (decide (p2 < 0) || decide ((p1.length : Int) ≤ p2)) = true then some false else (ix p1 p2).bind fun x1 => (ix p3.2.2.2.2.1 0).bind fun x2 => (D3 p0 x1 x2 p3.2.2.1).bind fun x3 => (if x3.2 ≠ 0 then some false else (if (decide (p3.2.2.2.2.2.1 = 0) && decide ((p3.2.2.2.2.1.length : Int) < (x3.1.length : Int))) = true then (H7 x3.1 0 (p3.2.2.2.2.1.length : Int)).bind fun x5 => some x5 else some x3.1).bind fun x4 => (BM p3.2.2.2.2.1 x4).bind fun x6 => some x6))
theorem GE (Y : Nat → Prop) (w0 : World) (v1 : Value) (v2 : Value) (v3 : Value) (v4 : Value) (p0 : Int × (List (Int × Int × Int × Int × Int × Int)) × (List (Int × Int))) (p1 : List (List (List Int))) (p2 : Int) (p3 : Int × Int × Int × Int × List Int × Int × Int × Int) (r : Bool) (H : CS p0 p1 p2 p3 = some r) (h_v1 : Sl w0 (NX []) EM v1 p0.2.1) (h_v2 : Sl w0 (NX []) F2 v2 p0.2.2) (h_v3 : Sl w0 (NX []) (Rp.slice (Rp.slice (Rp.int .i64))) v3 p1) (h_v4 : Sl w0 (NX []) (Rp.int .i64) v4 p3.2.2.2.2.1) :
    Calls Try.prog 31 #[.agg #[.int .i64 p0.1, v1, v2], v3, .int .i64 p2, .agg #[.int .i64 p3.1, .int .i64 p3.2.1, .int .i64 p3.2.2.1, .int .i64 p3.2.2.2.1, v4, .int .i64 p3.2.2.2.2.2.1, .int .i64 p3.2.2.2.2.2.2.1, .int .i64 p3.2.2.2.2.2.2.2]] w0 fun e w' => e = .returned (.bool r) ∧ Below w0.heap.size w0 w' := by
 refine enter Try.func31 Aa Try.ntmps31 Aa fun a F => ?_
 have W := Stw.start Y w0
 obtain ⟨v5, h1, h_v3⟩ := h_v3.ex Kn
 unfold CS at H
 refine Ah (Ab ?_)
 refine Cf (cs := [.int .i64 p0.1, v1, v2]) F W Aa Aa Aa fun b1 a w F W => ?_
 refine Cf (cs := [.int .i64 p3.1, .int .i64 p3.2.1, .int .i64 p3.2.2.1, .int .i64 p3.2.2.2.1, v4, .int .i64 p3.2.2.2.2.2.1, .int .i64 p3.2.2.2.2.2.2.1, .int .i64 p3.2.2.2.2.2.2.2]) F W Aa Aa Aa fun b2 a w F W => ?_
 refine ls F W Aa (Ae F Aa).q fun a w F W => ?_
 refine Ad (Ac (Ah ?_))
 refine AR (fun a w => Fr 56 [] [(1, v3), (2, .int .i64 p2), (4, .pointer (some ⟨b1, 0, none⟩)), (7, .pointer (some ⟨b2, 0, none⟩)), (8, .bool false), (18, .bool (decide (p2 < 0) || decide ((p1.length : Int) ≤ p2)))] a ∧ Stw ⟨Y, [], w0⟩ [(b2, [.int .i64 p3.1, .int .i64 p3.2.1, .int .i64 p3.2.2.1, .int .i64 p3.2.2.2.1, v4, .int .i64 p3.2.2.2.2.2.1, .int .i64 p3.2.2.2.2.2.2.1, .int .i64 p3.2.2.2.2.2.2.2]), (b1, [.int .i64 p0.1, v1, v2])] [] w) ?_ ?_
 ·
  refine Ab ?_
  refine ls F W Aa (Ag F Aa).q fun a w F W => ?_
  refine ls F W Aa (BU F Aa Aa).q fun a w F W => ?_
  refine ls F W Aa (Ag F Aa).q fun a w F W => ?_
  rcases Bool.eq_false_or_eq_true (decide (p2 < 0)) with hb0 | hb0
  ·
   rw [hb0] at F
   iterate 4 refine Dm F Aa Aa Aa Aa Aa Aa Aa fun a F => ?_
   refine ls F W Aa (Av F Aa Aa Aa).q fun a w F W => ?_
   refine Ad (Ac ?_)
   exact ⟨F.re ⟨rfl, Aa, Aa, Aa, Aa, (by show some (Value.bool true) = some (Value.bool (decide (p2 < 0) || decide ((p1.length : Int) ≤ p2))); try rw [hb0]; all_goals simp only [Bool.not_true, Bool.not_false, Bool.true_and, Bool.false_and, Bool.true_or, Bool.false_or, Bool.and_true, Bool.or_false, cond_true, cond_false]), trivial⟩, W⟩
  rw [hb0] at F
  iterate 2 refine AH F W (Ai F Aa Aa Aa Aa) Aa (Ao Aa) (Ag F Aa).q fun a w F W => ?_
  refine AH F W (Ai F Aa Aa Aa Aa) Aa (Ao Aa) (Bi (r := (Rp.slice (Rp.slice (Rp.int .i64)))) (l := p1) Lw Aa F Aa (C5 Kn h1 (Al h_v3))).q fun a w F W => ?_
  refine AH F W (Ai F Aa Aa Aa Aa) Aa (Ao Aa) (Ep F Aa Aa).q fun a w F W => ?_
  refine ls F W Aa (AF F Aa Aa Aa).q fun a w F W => ?_
  refine Ad (Ac ?_)
  exact ⟨F.re ⟨rfl, Aa, Aa, Aa, Aa, (by show some (Value.bool (decide ((p1.length : Int) ≤ p2))) = some (Value.bool (decide (p2 < 0) || decide ((p1.length : Int) ≤ p2))); try rw [hb0]; all_goals simp only [Bool.not_true, Bool.not_false, Bool.true_and, Bool.false_and, Bool.true_or, Bool.false_or, Bool.and_true, Bool.or_false, cond_true, cond_false]), trivial⟩, W⟩
 rintro a w ⟨F, W⟩
 refine AB F Aa (fun hb => ?_) fun hb => ?_
 ·
  have H := AU hb H
  rw [hb] at F
  clear hb
  refine Ah (Ab ?_)
  refine ls F W Aa (Ae F Aa).q fun a w F W => ?_
  refine Ad (Ac (Ay (AL ?_)))
  have H := AV H
  subst H
  refine A5 (.inl Aa) F W Aa (Au F Aa) ?_
  exact ⟨rfl, W.done⟩
 have H := AW (by rw [hb]; decide) H
 rw [hb] at F
 clear hb
 refine As (Ac (Ah ?_))
 refine FZ [(true, 0), (true, 1), (true, 2), (true, 3), (true, 4), (true, 5), (true, 6), (true, 7), (true, 8), (true, 9), (true, 10), (false, 11), (true, 12), (true, 13), (true, 14), (false, 15), (false, 16)] (CN ⟨Y, [], w0⟩ [(some 11, b1, [.int .i64 p0.1, v1, v2]), (some 11, b2, [.int .i64 p3.1, .int .i64 p3.2.1, .int .i64 p3.2.2.1, .int .i64 p3.2.2.2.1, v4, .int .i64 p3.2.2.2.2.2.1, .int .i64 p3.2.2.2.2.2.2.1, .int .i64 p3.2.2.2.2.2.2.2])] []) (fun ch a d v w h => by cases d <;> exact h) MO (by kernel_rfl) W (fun w W => ⟨_, _, W, (all_cons (fun _ => (.tail _ (.head _))) (all_cons (fun _ => (.head _)) AX)), AX⟩) fun w W => ?_
 refine B3 (R := [11]) F Aa Aa (yC fun M Z hN hZ => Cr (cs := [.int .i64 p0.1, v1, v2]) (v := Value.agg #[.int .i64 p0.1, v1, v2]) F Aa (hN ((some 11), b1, [.int .i64 p0.1, v1, v2]) (.head _) Aa) Jv Aa) (by kernel_rfl) Aa fun a F => ?_
 iterate 2 refine B3 (R := []) F Aa Aa (yC fun M Z hN hZ => Ag F Aa) Aa Aa fun a F => ?_
 obtain ⟨x1, h2, H⟩ := An H
 obtain ⟨v6, h3, h4⟩ := E0 h1 h2
 have h5 : KX v6 = [(v6.1)] := congrArg (fun q : List (List Int) => ([(v6.1)] : List Value)) h4
 refine B3 (R := []) F Aa Aa (yC fun M Z hN hZ => AN (r := (Rp.vsl (Rp.vsl (Rp.int .i64)))) Ms F Aa Aa (Al h_v3) h3) Aa Aa fun a F => ?_
 refine B3 (R := []) F Aa Aa (yC fun M Z hN hZ => AG (y := (v6.1)) (j := 0) (i := p2) (enc := KX) F Aa Aa (Al h_v3) h3 LR NC (by rw [h5]; rfl)) Aa Aa fun a F => ?_
 refine B3 (R := []) F Aa Aa (yC fun M Z hN hZ => Af DT Aa Aa Aa F8 F Aa 4 Aa) Aa Aa fun a F => ?_
 refine B3 (R := [11, 8, 7]) F Aa Aa (yC fun M Z hN hZ => Cr (cs := [.int .i64 p3.1, .int .i64 p3.2.1, .int .i64 p3.2.2.1, .int .i64 p3.2.2.2.1, v4, .int .i64 p3.2.2.2.2.2.1, .int .i64 p3.2.2.2.2.2.2.1, .int .i64 p3.2.2.2.2.2.2.2]) (v := v4) F Aa (hN ((some 11), b2, [.int .i64 p3.1, .int .i64 p3.2.1, .int .i64 p3.2.2.1, .int .i64 p3.2.2.2.1, v4, .int .i64 p3.2.2.2.2.2.1, .int .i64 p3.2.2.2.2.2.2.1, .int .i64 p3.2.2.2.2.2.2.2]) (.tail _ (.head _)) Aa) F8 Aa) (by kernel_rfl) Aa fun a F => ?_
 obtain ⟨x2, h6, H⟩ := An H
 refine B3 (R := []) F Aa Aa (yC fun M Z hN hZ => AN (r := (Rp.int .i64)) Ip F Aa Aa (Al h_v4) h6) Aa Aa fun a F => ?_
 refine B3 (R := []) F Aa Aa (yC fun M Z hN hZ => AG (y := Value.int .i64 x2) (j := 0) (i := 0) F Aa Aa (Al h_v4) h6 Fl.int.to T3 Aa) Aa Aa fun a F => ?_
 refine B3 (R := []) F Aa Aa (yC fun M Z hN hZ => Af DT Aa Aa Aa T3 F Aa 2 Aa) Aa Aa fun a F => ?_
 refine B3 (R := [11]) F Aa Aa (yC fun M Z hN hZ => Cr (cs := [.int .i64 p3.1, .int .i64 p3.2.1, .int .i64 p3.2.2.1, .int .i64 p3.2.2.2.1, v4, .int .i64 p3.2.2.2.2.2.1, .int .i64 p3.2.2.2.2.2.2.1, .int .i64 p3.2.2.2.2.2.2.2]) (v := Value.int .i64 p3.2.2.1) F Aa (hN ((some 11), b2, [.int .i64 p3.1, .int .i64 p3.2.1, .int .i64 p3.2.2.1, .int .i64 p3.2.2.2.1, v4, .int .i64 p3.2.2.2.2.2.1, .int .i64 p3.2.2.2.2.2.2.1, .int .i64 p3.2.2.2.2.2.2.2]) (.tail _ (.head _)) Aa) T3 Aa) (by kernel_rfl) Aa fun a F => ?_
 refine Gm Aa ?_
 obtain ⟨x3, h7, H⟩ := An H
 refine BP (Ml := []) (Zl := []) (M := [(b2, [.int .i64 p3.1, .int .i64 p3.2.1, .int .i64 p3.2.2.1, .int .i64 p3.2.2.2.1, v4, .int .i64 p3.2.2.2.2.2.1, .int .i64 p3.2.2.2.2.2.2.1, .int .i64 p3.2.2.2.2.2.2.2]), (b1, [.int .i64 p0.1, v1, v2])]) (Z := []) (β := Value) (rv := fun x => .tuple #[x, .int .i64 x3.2]) (MM := fun x => []) (ZZ := fun x => [row x 3 (Rp.int .i64) x3.1]) F W MS Aa Aa (fun hL => Id _ w (v1) (v2) ((v6.1)) p0 x1 x2 p3.2.2.1 _ h7 ((Al h_v1) w W).nx ((Al h_v2) w W).nx ((C5 GB (congrArg (fun q : List (List Int) => q) h4) (E6 (Al h_v3) h3 DI.here Aa)) w W).nx) fun x a w F W => ?_
 obtain ⟨v7, rfl⟩ : ∃ y, y = x := ⟨x, rfl⟩
 have W : Stw ⟨Y, [], w0⟩ [(b2, [.int .i64 p3.1, .int .i64 p3.2.1, .int .i64 p3.2.2.1, .int .i64 p3.2.2.2.1, v4, .int .i64 p3.2.2.2.2.2.1, .int .i64 p3.2.2.2.2.2.2.1, .int .i64 p3.2.2.2.2.2.2.2]), (b1, [.int .i64 p0.1, v1, v2])] [row v7 3 (Rp.int .i64) x3.1] w := W
 refine CJ (N2 := []) (NZ2 := []) (N3 := [(some 11, b1, [.int .i64 p0.1, v1, v2]), (some 11, b2, [.int .i64 p3.1, .int .i64 p3.2.1, .int .i64 p3.2.2.1, .int .i64 p3.2.2.2.1, v4, .int .i64 p3.2.2.2.2.2.1, .int .i64 p3.2.2.2.2.2.2.1, .int .i64 p3.2.2.2.2.2.2.2])]) (NZ3 := []) W Aa Aa (all_cons (fun h => Bg (by kernel_rfl) h) (all_cons (fun h => Bg (by kernel_rfl) h) AX)) AX ?_
 refine B3 (R := []) F Aa Aa (yC fun M Z hN hZ => Ag F Aa) Aa Aa fun a F => ?_
 refine B3 (R := []) F Aa Aa (yC fun M Z hN hZ => Bz (v := v7) F Aa Aa) Aa Aa fun a F => ?_
 refine B3 (R := []) F Aa Aa (yC fun M Z hN hZ => Bz (v := Value.int .i64 x3.2) F Aa Aa) Aa Aa fun a F => ?_
 refine Gm Aa ?_
 refine ls F W Aa (Ae F Aa).q fun a w F W => ?_
 refine CJ (N2 := []) (NZ2 := []) (N3 := [(some 11, b1, [.int .i64 p0.1, v1, v2]), (some 11, b2, [.int .i64 p3.1, .int .i64 p3.2.1, .int .i64 p3.2.2.1, .int .i64 p3.2.2.2.1, v4, .int .i64 p3.2.2.2.2.2.1, .int .i64 p3.2.2.2.2.2.2.1, .int .i64 p3.2.2.2.2.2.2.2])]) (NZ3 := []) W Aa Aa (all_cons (fun h => Bg (by kernel_rfl) h) (all_cons (fun h => Bg (by kernel_rfl) h) AX)) AX ?_
 refine Gm Aa ?_
 refine ls F W Aa (Ae F Aa).q fun a w F W => ?_
 refine CJ (N2 := []) (NZ2 := []) (N3 := [(some 11, b1, [.int .i64 p0.1, v1, v2]), (some 11, b2, [.int .i64 p3.1, .int .i64 p3.2.1, .int .i64 p3.2.2.1, .int .i64 p3.2.2.2.1, v4, .int .i64 p3.2.2.2.2.2.1, .int .i64 p3.2.2.2.2.2.2.1, .int .i64 p3.2.2.2.2.2.2.2])]) (NZ3 := []) W Aa Aa (all_cons (fun h => Bg (by kernel_rfl) h) (all_cons (fun h => Bg (by kernel_rfl) h) AX)) AX ?_
 refine Io (Ac (Ah (Ah (Ab ?_))))
 refine ls F W Aa (Ag F Aa).q fun a w F W => ?_
 refine ls F W Aa (Fv F Aa Aa).q fun a w F W => ?_
 refine Ad (Ac ?_)
 refine AB F Aa (fun hb => ?_) fun hb => ?_
 ·
  have H := AU (Bv hb) H
  rw [hb] at F
  clear hb
  refine Ah (Ab ?_)
  refine ls F W Aa (Ae F Aa).q fun a w F W => ?_
  refine Ad (Ac (Ay (AL ?_)))
  have H := AV H
  subst H
  refine A5 (.inl Aa) F W Aa (Au F Aa) ?_
  exact ⟨rfl, W.done⟩
 have H := AW (Bu hb) H
 rw [hb] at F
 clear hb
 refine As (Ac ?_)
 obtain ⟨o1, G1, K1⟩ := An H
 refine AR (fun a w => ∃ x4 : List Int, ∃ v8 : Value, some (x4) = some o1 ∧ Fr 56 [] [(7, .pointer (some ⟨b2, 0, none⟩)), (8, .bool false), (9, v8)] a ∧ Stw ⟨Y, [], w0⟩ [(b2, [.int .i64 p3.1, .int .i64 p3.2.1, .int .i64 p3.2.2.1, .int .i64 p3.2.2.2.1, v4, .int .i64 p3.2.2.2.2.2.1, .int .i64 p3.2.2.2.2.2.2.1, .int .i64 p3.2.2.2.2.2.2.2]), (b1, [.int .i64 p0.1, v1, v2])] [row v8 3 (Rp.int .i64) x4] w) ?_ ?_
 ·
  have H := G1
  clear G1 K1
  refine AR (fun a w => Fr 56 [] [(7, .pointer (some ⟨b2, 0, none⟩)), (8, .bool false), (9, v7), (46, .bool (decide (p3.2.2.2.2.2.1 = 0) && decide ((p3.2.2.2.2.1.length : Int) < (x3.1.length : Int))))] a ∧ Stw ⟨Y, [], w0⟩ [(b2, [.int .i64 p3.1, .int .i64 p3.2.1, .int .i64 p3.2.2.1, .int .i64 p3.2.2.2.1, v4, .int .i64 p3.2.2.2.2.2.1, .int .i64 p3.2.2.2.2.2.2.1, .int .i64 p3.2.2.2.2.2.2.2]), (b1, [.int .i64 p0.1, v1, v2])] [row v7 3 (Rp.int .i64) x3.1] w) ?_ ?_
  ·
   refine Ab ?_
   refine ls F W Aa (Af DT Aa Aa Aa T3 F Aa 5 Aa).q fun a w F W => ?_
   refine ls F W Aa (Ak (v := Value.int .i64 p3.2.2.2.2.2.1) 0 F Aa Aa T3 Aa).q fun a w F W => ?_
   refine ls F W Aa (CB F Aa Aa).q fun a w F W => ?_
   refine ls F W Aa (Ag F Aa).q fun a w F W => ?_
   rcases Bool.eq_false_or_eq_true (decide (p3.2.2.2.2.2.1 = 0)) with hb0 | hb0
   ·
    rw [hb0] at F
    refine AH F W (Ai F Aa Aa Aa Aa) Aa (Ao Aa) (Af DT Aa Aa Aa F8 F Aa 4 Aa).q fun a w F W => ?_
    refine AH F W (Ai F Aa Aa Aa Aa) Aa (Ao Aa) (Ak (v := v4) 0 F Aa Aa F8 Aa).q fun a w F W => ?_
    refine AH F W (Ai F Aa Aa Aa Aa) Aa (Ao Aa) (Bi (r := (Rp.int .i64)) (l := p3.2.2.2.2.1) F4 Aa F Aa (Al h_v4)).q fun a w F W => ?_
    refine AH F W (Ai F Aa Aa Aa Aa) Aa (Ao Aa) (Ag F Aa).q fun a w F W => ?_
    refine AH F W (Ai F Aa Aa Aa Aa) Aa (Ao Aa) (Bi (r := (Rp.int .i64)) (l := x3.1) F4 Aa F Aa (AE 0 Aa)).q fun a w F W => ?_
    refine AH F W (Ai F Aa Aa Aa Aa) Aa (Ao Aa) (BU F Aa Aa).q fun a w F W => ?_
    refine ls F W Aa (Av F Aa Aa Aa).q fun a w F W => ?_
    refine Ad (Ac ?_)
    exact ⟨F.re ⟨rfl, Aa, Aa, (by show some (Value.bool (decide ((p3.2.2.2.2.1.length : Int) < (x3.1.length : Int)))) = some (Value.bool (decide (p3.2.2.2.2.2.1 = 0) && decide ((p3.2.2.2.2.1.length : Int) < (x3.1.length : Int)))); try rw [hb0]; all_goals simp only [Bool.not_true, Bool.not_false, Bool.true_and, Bool.false_and, Bool.true_or, Bool.false_or, Bool.and_true, Bool.or_false, cond_true, cond_false]), trivial⟩, W⟩
   rw [hb0] at F
   iterate 6 refine Dm F Aa Aa Aa Aa Aa Aa Aa fun a F => ?_
   refine ls F W Aa (AF F Aa Aa Aa).q fun a w F W => ?_
   refine Ad (Ac ?_)
   exact ⟨F.re ⟨rfl, Aa, Aa, (by show some (Value.bool false) = some (Value.bool (decide (p3.2.2.2.2.2.1 = 0) && decide ((p3.2.2.2.2.1.length : Int) < (x3.1.length : Int)))); try rw [hb0]; all_goals simp only [Bool.not_true, Bool.not_false, Bool.true_and, Bool.false_and, Bool.true_or, Bool.false_or, Bool.and_true, Bool.or_false, cond_true, cond_false]), trivial⟩, W⟩
  rintro a w ⟨F, W⟩
  refine AB F Aa (fun hb => ?_) fun hb => ?_
  ·
   have H := AU hb H
   rw [hb] at F
   clear hb
   refine Ab ?_
   refine ls F W Aa (Ag F Aa).q fun a w F W => ?_
   refine ls F W Aa (Af DT Aa Aa Aa F8 F Aa 4 Aa).q fun a w F W => ?_
   refine ls F W Aa (Ak (v := v4) 0 F Aa Aa F8 Aa).q fun a w F W => ?_
   refine ls F W Aa (Bi (r := (Rp.int .i64)) (l := p3.2.2.2.2.1) F4 Aa F Aa (Al h_v4)).q fun a w F W => ?_
   obtain ⟨x5, h8, H⟩ := An H
   refine ls F W Aa (Ki (r := (Rp.int .i64)) Ip F Aa Aa Aa (AE 0 Aa) h8).q fun a w F W => ?_
   refine ls F W Aa (Ae F Aa).q fun a w F W => ?_
   refine Ad (Ac ?_)
   have W := W.subRow (k := 0) Aa Aa h8
   have W := W.frontM (i := 1) Aa Aa
   have W := W.frontM (i := 1) Aa Aa
   exact ⟨_, ((CT v7 (0 : Int) (p3.2.2.2.2.1.length : Int) 1)), H, F.re ⟨rfl, Aa, Aa, trivial⟩, W⟩
  have H := AW (by rw [hb]; decide) H
  rw [hb] at F
  clear hb
  refine As (Ac ?_)
  have W := W.frontM (i := 1) Aa Aa
  have W := W.frontM (i := 1) Aa Aa
  exact ⟨_, (v7), H, F.re ⟨rfl, Aa, Aa, trivial⟩, W⟩
 rintro a w ⟨x4, v8, hj, F, W⟩
 have hj := AV hj
 subst hj
 have H := K1
 clear G1 K1
 refine Ah (Ab ?_)
 refine ls F W Aa (Af DT Aa Aa Aa F8 F Aa 4 Aa).q fun a w F W => ?_
 refine ls F W Aa (Ak (v := v4) 0 F Aa Aa F8 Aa).q fun a w F W => ?_
 refine ls F W Aa (Ag F Aa).q fun a w F W => ?_
 obtain ⟨x6, h9, H⟩ := An H
 refine ls F W Aa (BB (v := Value.bool x6) F NB Aa (fun w W => EV any w (v4) (v8) p3.2.2.2.2.1 x4 _ h9 (((Al h_v4) : DC _ _ _ _ _ _) w W).nx (((AE 0 Aa) : DC _ _ _ _ _ _) w W).nx)) fun a w F W => ?_
 refine ls F W Aa (Ae F Aa).q fun a w F W => ?_
 refine Ad (Ac (Ay ?_))
 have H := AV H
 subst H
 refine A5 (.inl Aa) F W Aa (Au F Aa) ?_
 exact ⟨rfl, W.done⟩
end Go.Proofs.Ytflaelbmglmmcaa
