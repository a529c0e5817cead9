/- The functions of layer 30, JA. Conditions: none. -/
import Derived.Test.YtgoifghhcekahaaGreatDoorbA6
namespace Go.Proofs.YtgoifghhcekahaaGreatDoor
noncomputable section
open Go Go.RowKit
set_option linter.unusedVariables false
set_option linter.unusedSimpArgs false
set_option maxRecDepth 20000
theorem YF : Has Tryz.prog 42 := ⟨fun args w => Aj Tryz.func42 rfl (by decide) args w⟩
def CJ (p0 : List (Int × Int)) (p1c0 : Int) : Int → Option (Int ⊕ (Unit ⊕ Int))
  | x1 => (if x1 < (p0.length : Int) then (ix p0 x1).bind fun x2 => (if (Hs x2 p1c0) = true then some (.inr (.inr x1)) else some (.inl (AG (x1 + 1)))) else some (.inr (.inl ())))
def Cv (p0 : List (Int × Int)) (p1c0 : Int) : Option Int := Je (A6 (CJ p0 p1c0) 0) fun _ => some (-1)
theorem Ho (Y : Nat → Prop) (w0 : World) (v1 : Value) (q_p1c0 : Nat) (p0 : List (Int × Int)) (p1c0 : Int) (r : Int) (H : Cv p0 p1c0 = some r) (h_v1 : Sl w0 (NX []) Rl v1 p0) (a_q_p1c0 : At ⟨Y, [], w0⟩ q_p1c0 0 [.int .i64 p1c0]) :
    Calls Tryz.prog 81 #[v1, .func (.func 42) #[] #[.pointer (some ⟨q_p1c0, 0, none⟩)]] w0 fun e w' => e = .returned (.int .i64 r) ∧ Below w0.heap.size w0 w' := by
 refine enter Tryz.func81 Aa Tryz.ntmps81 Aa fun a F => ?_
 have W := Stw.start Y w0
 unfold Cv at H
 refine Ah (Ab ?_)
 refine ls F W Aa (Ae F Aa).q fun a w F W => ?_
 refine Ad (Ac ?_)
 obtain ⟨o1, G1, K1, L1⟩ := PQ H
 refine AO (fun a w => some (Sum.inl ()) = some o1 ∧ Fr 19 [] [(4, .int .i64 0)] a ∧ Stw ⟨Y, [], w0⟩ [] [] w) ?_ ?_
 ·
  have H := G1
  refine Ah (Ab ?_)
  refine ls F W Aa (Ag F Aa).q fun a w F W => ?_
  refine ls F W Aa (CA (r := Rl) (l := p0) US Aa F Aa (Aq h_v1)).q fun a w F W => ?_
  refine ls F W Aa (Ag F Aa).q fun a w F W => ?_
  refine Ad (Ac (Az ?_))
  refine BG H (fun s a w => Fr 19 [] [(0, v1), (1, .func (.func 42) #[] #[.pointer (some ⟨q_p1c0, 0, none⟩)]), (4, .int .i64 0), (7, .int .i64 (p0.length : Int)), (8, .int .i64 s)] a ∧ Stw ⟨Y, [], w0⟩ [] [] w) ⟨F.re ⟨rfl, Aa, Aa, Aa, Aa, trivial⟩, W⟩ fun s o a w H L2 hR => ?_
  obtain ⟨x1, rfl⟩ : ∃ x, x = s := ⟨s, rfl⟩
  obtain ⟨F, W⟩ := hR
  have F : Fr 19 [] [(0, v1), (1, .func (.func 42) #[] #[.pointer (some ⟨q_p1c0, 0, none⟩)]), (4, .int .i64 0), (7, .int .i64 (p0.length : Int)), (8, .int .i64 x1)] a := F
  have W : Stw ⟨Y, [], w0⟩ [] [] w := W
  rw [CJ] at H
  refine Ah (Ab ?_)
  refine ls F W Aa (Cu F Aa Aa).q fun a w F W => ?_
  refine Ad (Ac (Ah ?_))
  refine Aw F Aa (fun hb => ?_) fun hb => ?_
  ·
   have H := AV (Bg hb) H
   rw [hb] at F
   refine Ay (Ac (Ah (Az (Ah (Ab ?_)))))
   refine ls F W Aa (Ag F Aa).q fun a w F W => ?_
   refine ls F W Aa (Ae F Aa).q fun a w F W => ?_
   refine Ad (Ac (Ah (Ab ?_)))
   iterate 3 refine ls F W Aa (Ag F Aa).q fun a w F W => ?_
   obtain ⟨x2, h1, H⟩ := Am H
   refine ls F W Aa (AM (r := Rl) XR F Aa Aa (Aq h_v1) h1).q fun a w F W => ?_
   refine ls F W Aa (AA (y := Value.agg #[.int .i64 x2.1, .int .i64 x2.2]) (j := 0) (i := x1) F Aa Aa (Aq h_v1) h1 XQ.to WM Aa).q fun a w F W => ?_
   refine ls F W Aa (I7 (ws := [.agg #[.int .i64 x2.1, .int .i64 x2.2], .pointer (some ⟨q_p1c0, 0, none⟩)]) (v := Value.bool (Hs x2 p1c0)) F YF Aa (fun w W => O6 any w q_p1c0 x2 p1c0 _ Aa (At.re a_q_p1c0 W))) fun a w F W => ?_
   refine Ad (Ac ?_)
   refine Aw F Aa (fun hb => ?_) fun hb => ?_
   ·
    have H := AV hb H
    rw [hb] at F
    refine Ah (Ab ?_)
    refine ls F W Aa (Ag F Aa).q fun a w F W => ?_
    refine ls F W Aa (Ae F Aa).q fun a w F W => ?_
    refine Ad (Ac (Av (AQ ?_)))
    iterate 2 refine AN ?_
    refine AQ (AN ?_)
    have H := L2 _ H
    have H := L1 _ H
    have H := AP H
    subst H
    refine AJ (.inl Aa) F W Aa (AB F Aa) ?_
    exact ⟨rfl, W.done⟩
   have H := AR (by rw [hb]; decide) H
   rw [hb] at F
   refine Ay (AU (Ac (Ab ?_)))
   refine ls F W Aa (BL F Aa Aa Aa).q fun a w F W => ?_
   refine ls F W Aa (Ag F Aa).q fun a w F W => ?_
   refine Ad (Ac ?_)
   exact ⟨_, H, F.re ⟨rfl, Aa, Aa, Aa, Aa, trivial⟩, W⟩
  have H := AR (Bf hb) H
  rw [hb] at F
  refine Bz ?_
  iterate 2 refine BS ?_
  refine Bx (Ac ?_)
  have H := L2 _ H
  exact ⟨H, F.re ⟨rfl, trivial⟩, W⟩
 rintro a w ⟨hj, F, W⟩
 have H := K1 _ hj
 refine Ah (Ab ?_)
 refine ls F W Aa (Ae F Aa).q fun a w F W => ?_
 refine Ad (Ac (Av ?_))
 have H := AP H
 subst H
 refine AJ (.inl Aa) F W Aa (AB F Aa) ?_
 exact ⟨rfl, W.done⟩
theorem Yl : Has Tryz.prog 81 := ⟨fun args w => Aj Tryz.func81 rfl (by decide) args w⟩
def Ci (p0 : List (Int × Int)) (p1c0 : Int) : Option Bool := (Cv p0 p1c0).bind fun x1 => some (decide (0 ≤ x1))
theorem GM (Y : Nat → Prop) (w0 : World) (v1 : Value) (q_p1c0 : Nat) (p0 : List (Int × Int)) (p1c0 : Int) (r : Bool) (H : Ci p0 p1c0 = some r) (h_v1 : Sl w0 (NX []) Rl v1 p0) (a_q_p1c0 : At ⟨Y, [], w0⟩ q_p1c0 0 [.int .i64 p1c0]) :
    Calls Tryz.prog 41 #[v1, .func (.func 42) #[] #[.pointer (some ⟨q_p1c0, 0, none⟩)]] w0 fun e w' => e = .returned (.bool r) ∧ Below w0.heap.size w0 w' := by
 refine enter Tryz.func41 Aa Tryz.ntmps41 Aa fun a F => ?_
 have W := Stw.start Y w0
 unfold Ci at H
 refine Ah (Ab ?_)
 refine ls F W Aa (Ae F Aa).q fun a w F W => ?_
 refine Ad (Ac (Ah (Ab ?_)))
 iterate 2 refine ls F W Aa (Ag F Aa).q fun a w F W => ?_
 obtain ⟨x1, h1, H⟩ := Am H
 refine ls F W Aa (A3 (v := Value.int .i64 x1) F Yl Aa (fun w W => Ho any w (v1) q_p1c0 p0 p1c0 _ h1 (((Aq h_v1) : D1 _ _ _ _ _ _) w W).nx (At.re a_q_p1c0 W))) fun a w F W => ?_
 refine ls F W Aa (D4 F Aa Aa).q fun a w F W => ?_
 refine ls F W Aa (Ae F Aa).q fun a w F W => ?_
 refine Ad (Ac (Av ?_))
 have H := AP H
 subst H
 refine AJ (.inl Aa) F W Aa (AB F Aa) ?_
 exact ⟨rfl, W.done⟩
theorem YE : Has Tryz.prog 41 := ⟨fun args w => Aj Tryz.func41 rfl (by decide) args w⟩
def Jh (p0 : Int × (List (Int × Int × Int × Int × Int × Int)) × (List (Int × Int))) (p1 : Int) : Option Bool := ((Cc p0.2.1 p1).bind fun x2 => (if x2 = true then some true else (Ci p0.2.2 p1).bind fun x3 => some x3)).bind fun x1 => some x1
theorem Qy (Y : Nat → Prop) (w0 : World) (v1 : Value) (v2 : Value) (p0 : Int × (List (Int × Int × Int × Int × Int × Int)) × (List (Int × Int))) (p1 : Int) (r : Bool) (H : Jh p0 p1 = some r) (h_v1 : Sl w0 (NX []) Qb v1 p0.2.1) (h_v2 : Sl w0 (NX []) Rl v2 p0.2.2) :
    Calls Tryz.prog 11 #[.agg #[.int .i64 p0.1, v1, v2], .int .i64 p1] w0 fun e w' => e = .returned (.bool r) ∧ Below w0.heap.size w0 w' := by
 refine enter Tryz.func11 Aa Tryz.ntmps11 Aa fun a F => ?_
 have W := Stw.start Y w0
 unfold Jh at H
 refine Ah (Ab ?_)
 refine CS (cs := [.int .i64 p0.1, v1, v2]) F W Aa Aa Aa fun b1 a w F W => ?_
 refine CS (cs := [.int .i64 p1]) F W Aa Aa Aa fun b2 a w F W => ?_
 refine ls F W Aa (Ae F Aa).q fun a w F W => ?_
 refine Ad (Ac ?_)
 obtain ⟨o1, G1, K1⟩ := Am H
 refine AO (fun a w => ∃ x1 : Bool, some (x1) = some o1 ∧ Fr 15 [] [(4, .bool x1)] a ∧ Stw ⟨Y, [], w0⟩ [(b2, [.int .i64 p1]), (b1, [.int .i64 p0.1, v1, v2])] [] w) ?_ ?_
 ·
  have H := G1
  refine Ab ?_
  refine ls F W Aa (Ai Pc Aa Aa Aa Vg F Aa 1 Aa).q fun a w F W => ?_
  refine ls F W Aa (Ao (v := v1) 1 F Aa Aa Vg Aa).q fun a w F W => ?_
  refine ls F W Aa (GX (us := []) (vs := [.pointer (some ⟨b2, 0, none⟩)]) F Aa Aa).q fun a w F W => ?_
  obtain ⟨x2, h1, H⟩ := Am H
  refine ls F W Aa (A3 (v := Value.bool x2) F X5 Aa (fun w W => Gp any w (v1) b2 p0.2.1 p1 _ h1 (((Aq h_v1) : D1 _ _ _ _ _ _) w W).nx (TE W 0 Aa))) fun a w F W => ?_
  refine ls F W Aa (Ag F Aa).q fun a w F W => ?_
  rcases bxq x2 with hb | hb
  ·
   have H := AV hb H
   rw [hb] at F
   iterate 4 refine Dz F Aa Aa Aa Aa Aa Aa Aa fun a F => ?_
   refine ls F W Aa (Ax F Aa Aa Aa).q fun a w F W => ?_
   refine ls F W Aa (Ae F Aa).q fun a w F W => ?_
   refine Ad (Ac ?_)
   have W := W.frontM (i := 1) Aa Aa
   have W := W.frontM (i := 1) Aa Aa
   exact ⟨_, H, F.re ⟨rfl, trivial⟩, W⟩
  have H := AR (by rw [hb]; decide) H
  rw [hb] at F
  refine AK F W (Af F Aa Aa Aa Aa) Aa (Ak Aa) (Ai Pc Aa Aa Aa V2 F Aa 2 Aa).q fun a w F W => ?_
  refine AK F W (Af F Aa Aa Aa Aa) Aa (Ak Aa) (Ao (v := v2) 1 F Aa Aa V2 Aa).q fun a w F W => ?_
  refine AK F W (Af F Aa Aa Aa Aa) Aa (Ak Aa) (GX (us := []) (vs := [.pointer (some ⟨b2, 0, none⟩)]) F Aa Aa).q fun a w F W => ?_
  refine KH (Af F Aa Aa Aa Aa) ?_
  obtain ⟨x3, h2, H⟩ := Am H
  refine ls F W Aa (A3 (v := Value.bool x3) F YE Aa (fun w W => GM any w (v2) b2 p0.2.2 p1 _ h2 (((Aq h_v2) : D1 _ _ _ _ _ _) w W).nx (TE W 0 Aa))) fun a w F W => ?_
  refine ls F W Aa (As F Aa Aa Aa).q fun a w F W => ?_
  refine ls F W Aa (Ae F Aa).q fun a w F W => ?_
  refine Ad (Ac ?_)
  have W := W.frontM (i := 1) Aa Aa
  have W := W.frontM (i := 1) Aa Aa
  exact ⟨_, H, F.re ⟨rfl, trivial⟩, W⟩
 rintro a w ⟨x1, hj, F, W⟩
 have hj := AP hj
 subst hj
 have H := K1
 refine Av ?_
 have H := AP H
 subst H
 refine AJ (.inl Aa) F W Aa (AB F Aa) ?_
 exact ⟨rfl, W.done⟩
theorem Yg : Has Tryz.prog 11 := ⟨fun args w => Aj Tryz.func11 rfl (by decide) args w⟩
def Fo (p0 : Int) (p1 : Int × (List (Int × Int × Int × Int × Int × Int)) × (List (Int × Int))) : Option Bool := (Jh p1 p0).bind fun x1 => some (!x1)
theorem Mu (Y : Nat → Prop) (w0 : World) (q_p1 : Nat) (v1 : Value) (v2 : Value) (p0 : Int) (p1 : Int × (List (Int × Int × Int × Int × Int × Int)) × (List (Int × Int))) (r : Bool) (H : Fo p0 p1 = some r) (h_v1 : Sl w0 (NX []) Qb v1 p1.2.1) (h_v2 : Sl w0 (NX []) Rl v2 p1.2.2) (a_q_p1 : At ⟨Y, [], w0⟩ q_p1 0 [.int .i64 p1.1, v1, v2]) :
    Calls Tryz.prog 76 #[.int .i64 p0, .pointer (some ⟨q_p1, 0, none⟩)] w0 fun e w' => e = .returned (.bool r) ∧ Below w0.heap.size w0 w' := by
 refine enter Tryz.func76 Aa Tryz.ntmps76 Aa fun a F => ?_
 have W := Stw.start Y w0
 unfold Fo at H
 refine Ah (Ab ?_)
 refine ls F W Aa (Ae F Aa).q fun a w F W => ?_
 refine Ad (Ac (Ah (Ab ?_)))
 refine ls F W Aa (IR (y := Value.agg #[.int .i64 p1.1, v1, v2]) (j := 0) F Aa (Nat.zero_add _).symm a_q_p1 WK Aa).q fun a w F W => ?_
 refine ls F W Aa (Ag F Aa).q fun a w F W => ?_
 obtain ⟨x1, h1, H⟩ := Am H
 refine ls F W Aa (A3 (v := Value.bool x1) F Yg Aa (fun w W => Qy any w (v1) (v2) p1 p0 _ h1 (((Aq h_v1) : D1 _ _ _ _ _ _) w W).nx (((Aq h_v2) : D1 _ _ _ _ _ _) w W).nx)) fun a w F W => ?_
 refine ls F W Aa (F4 F Aa).q fun a w F W => ?_
 refine ls F W Aa (Ae F Aa).q fun a w F W => ?_
 refine Ad (Ac (Av ?_))
 have H := AP H
 subst H
 refine AJ (.inl Aa) F W Aa (AB F Aa) ?_
 exact ⟨rfl, W.done⟩
theorem Ym : Has Tryz.prog 76 := ⟨fun args w => Aj Tryz.func76 rfl (by decide) args w⟩
def DK (p0 : List Int) (p1c0 : Int × (List (Int × Int × Int × Int × Int × Int)) × (List (Int × Int))) : Int → Option (Int ⊕ (Unit ⊕ Int))
  | x1 => (if x1 < (p0.length : Int) then (ix p0 x1).bind fun x2 => (Fo x2 p1c0).bind fun x3 => (if x3 = true then some (.inr (.inr x1)) else some (.inl (AG (x1 + 1)))) else some (.inr (.inl ())))
def DB (p0 : List Int) (p1c0 : Int × (List (Int × Int × Int × Int × Int × Int)) × (List (Int × Int))) : Option Int := Je (A6 (DK p0 p1c0) 0) fun _ => some (-1)
theorem J0 (Y : Nat → Prop) (w0 : World) (v1 : Value) (q_p1c0 : Nat) (v2 : Value) (v3 : Value) (p0 : List Int) (p1c0 : Int × (List (Int × Int × Int × Int × Int × Int)) × (List (Int × Int))) (r : Int) (H : DB p0 p1c0 = some r) (h_v1 : Sl w0 (NX []) (Rp.int .i64) v1 p0) (h_v2 : Sl w0 (NX []) Qb v2 p1c0.2.1) (h_v3 : Sl w0 (NX []) Rl v3 p1c0.2.2) (a_q_p1c0 : At ⟨Y, [], w0⟩ q_p1c0 0 [.int .i64 p1c0.1, v2, v3]) :
    Calls Tryz.prog 108 #[v1, .func (.func 76) #[] #[.pointer (some ⟨q_p1c0, 0, none⟩)]] w0 fun e w' => e = .returned (.int .i64 r) ∧ Below w0.heap.size w0 w' := by
 refine enter Tryz.func108 Aa Tryz.ntmps108 Aa fun a F => ?_
 have W := Stw.start Y w0
 unfold DB at H
 refine Ah (Ab ?_)
 refine ls F W Aa (Ae F Aa).q fun a w F W => ?_
 refine Ad (Ac ?_)
 obtain ⟨o1, G1, K1, L1⟩ := PQ H
 refine AO (fun a w => some (Sum.inl ()) = some o1 ∧ Fr 19 [] [(4, .int .i64 0)] a ∧ Stw ⟨Y, [], w0⟩ [] [] w) ?_ ?_
 ·
  have H := G1
  refine Ah (Ab ?_)
  refine ls F W Aa (Ag F Aa).q fun a w F W => ?_
  refine ls F W Aa (CA (r := (Rp.int .i64)) (l := p0) RS Aa F Aa (Aq h_v1)).q fun a w F W => ?_
  refine ls F W Aa (Ag F Aa).q fun a w F W => ?_
  refine Ad (Ac (Az ?_))
  refine BG H (fun s a w => Fr 19 [] [(0, v1), (1, .func (.func 76) #[] #[.pointer (some ⟨q_p1c0, 0, none⟩)]), (4, .int .i64 0), (7, .int .i64 (p0.length : Int)), (8, .int .i64 s)] a ∧ Stw ⟨Y, [], w0⟩ [] [] w) ⟨F.re ⟨rfl, Aa, Aa, Aa, Aa, trivial⟩, W⟩ fun s o a w H L2 hR => ?_
  obtain ⟨x1, rfl⟩ : ∃ x, x = s := ⟨s, rfl⟩
  obtain ⟨F, W⟩ := hR
  have F : Fr 19 [] [(0, v1), (1, .func (.func 76) #[] #[.pointer (some ⟨q_p1c0, 0, none⟩)]), (4, .int .i64 0), (7, .int .i64 (p0.length : Int)), (8, .int .i64 x1)] a := F
  have W : Stw ⟨Y, [], w0⟩ [] [] w := W
  rw [DK] at H
  refine Ah (Ab ?_)
  refine ls F W Aa (Cu F Aa Aa).q fun a w F W => ?_
  refine Ad (Ac (Ah ?_))
  refine Aw F Aa (fun hb => ?_) fun hb => ?_
  ·
   have H := AV (Bg hb) H
   rw [hb] at F
   refine Ay (Ac (Ah (Az (Ah (Ab ?_)))))
   refine ls F W Aa (Ag F Aa).q fun a w F W => ?_
   refine ls F W Aa (Ae F Aa).q fun a w F W => ?_
   refine Ad (Ac (Ah (Ab ?_)))
   iterate 3 refine ls F W Aa (Ag F Aa).q fun a w F W => ?_
   obtain ⟨x2, h1, H⟩ := Am H
   refine ls F W Aa (AM (r := (Rp.int .i64)) EF F Aa Aa (Aq h_v1) h1).q fun a w F W => ?_
   refine ls F W Aa (AA (y := Value.int .i64 x2) (j := 0) (i := x1) F Aa Aa (Aq h_v1) h1 Fl.int.to T3 Aa).q fun a w F W => ?_
   obtain ⟨x3, h2, H⟩ := Am H
   refine ls F W Aa (I7 (ws := [.int .i64 x2, .pointer (some ⟨q_p1c0, 0, none⟩)]) (v := Value.bool x3) F Ym Aa (fun w W => Mu any w q_p1c0 (v2) (v3) x2 p1c0 _ h2 (((Aq h_v2) : D1 _ _ _ _ _ _) w W).nx (((Aq h_v3) : D1 _ _ _ _ _ _) w W).nx (At.re a_q_p1c0 W))) fun a w F W => ?_
   refine Ad (Ac ?_)
   refine Aw F Aa (fun hb => ?_) fun hb => ?_
   ·
    have H := AV hb H
    rw [hb] at F
    refine Ah (Ab ?_)
    refine ls F W Aa (Ag F Aa).q fun a w F W => ?_
    refine ls F W Aa (Ae F Aa).q fun a w F W => ?_
    refine Ad (Ac (Av (AQ ?_)))
    iterate 2 refine AN ?_
    refine AQ (AN ?_)
    have H := L2 _ H
    have H := L1 _ H
    have H := AP H
    subst H
    refine AJ (.inl Aa) F W Aa (AB F Aa) ?_
    exact ⟨rfl, W.done⟩
   have H := AR (by rw [hb]; decide) H
   rw [hb] at F
   refine Ay (AU (Ac (Ab ?_)))
   refine ls F W Aa (BL F Aa Aa Aa).q fun a w F W => ?_
   refine ls F W Aa (Ag F Aa).q fun a w F W => ?_
   refine Ad (Ac ?_)
   exact ⟨_, H, F.re ⟨rfl, Aa, Aa, Aa, Aa, trivial⟩, W⟩
  have H := AR (Bf hb) H
  rw [hb] at F
  refine Bz ?_
  iterate 2 refine BS ?_
  refine Bx (Ac ?_)
  have H := L2 _ H
  exact ⟨H, F.re ⟨rfl, trivial⟩, W⟩
 rintro a w ⟨hj, F, W⟩
 have H := K1 _ hj
 refine Ah (Ab ?_)
 refine ls F W Aa (Ae F Aa).q fun a w F W => ?_
 refine Ad (Ac (Av ?_))
 have H := AP H
 subst H
 refine AJ (.inl Aa) F W Aa (AB F Aa) ?_
 exact ⟨rfl, W.done⟩
theorem WA : Has Tryz.prog 108 := ⟨fun args w => Aj Tryz.func108 rfl (by decide) args w⟩
def C8 (p0 : List Int) (p1c0 : Int × (List (Int × Int × Int × Int × Int × Int)) × (List (Int × Int))) : Option Bool := (DB p0 p1c0).bind fun x1 => some (decide (0 ≤ x1))
theorem Ji (Y : Nat → Prop) (w0 : World) (v1 : Value) (q_p1c0 : Nat) (v2 : Value) (v3 : Value) (p0 : List Int) (p1c0 : Int × (List (Int × Int × Int × Int × Int × Int)) × (List (Int × Int))) (r : Bool) (H : C8 p0 p1c0 = some r) (h_v1 : Sl w0 (NX []) (Rp.int .i64) v1 p0) (h_v2 : Sl w0 (NX []) Qb v2 p1c0.2.1) (h_v3 : Sl w0 (NX []) Rl v3 p1c0.2.2) (a_q_p1c0 : At ⟨Y, [], w0⟩ q_p1c0 0 [.int .i64 p1c0.1, v2, v3]) :
    Calls Tryz.prog 75 #[v1, .func (.func 76) #[] #[.pointer (some ⟨q_p1c0, 0, none⟩)]] w0 fun e w' => e = .returned (.bool r) ∧ Below w0.heap.size w0 w' := by
 refine enter Tryz.func75 Aa Tryz.ntmps75 Aa fun a F => ?_
 have W := Stw.start Y w0
 unfold C8 at H
 refine Ah (Ab ?_)
 refine ls F W Aa (Ae F Aa).q fun a w F W => ?_
 refine Ad (Ac (Ah (Ab ?_)))
 iterate 2 refine ls F W Aa (Ag F Aa).q fun a w F W => ?_
 obtain ⟨x1, h1, H⟩ := Am H
 refine ls F W Aa (A3 (v := Value.int .i64 x1) F WA Aa (fun w W => J0 any w (v1) q_p1c0 (v2) (v3) p0 p1c0 _ h1 (((Aq h_v1) : D1 _ _ _ _ _ _) w W).nx (((Aq h_v2) : D1 _ _ _ _ _ _) w W).nx (((Aq h_v3) : D1 _ _ _ _ _ _) w W).nx (At.re a_q_p1c0 W))) fun a w F W => ?_
 refine ls F W Aa (D4 F Aa Aa).q fun a w F W => ?_
 refine ls F W Aa (Ae F Aa).q fun a w F W => ?_
 refine Ad (Ac (Av ?_))
 have H := AP H
 subst H
 refine AJ (.inl Aa) F W Aa (AB F Aa) ?_
 exact ⟨rfl, W.done⟩
theorem XG : Has Tryz.prog 75 := ⟨fun args w => Aj Tryz.func75 rfl (by decide) args w⟩
def Ft (p0 : Int) (p1 : Int × (List (Int × Int × Int × Int × Int × Int)) × (List (Int × Int))) : Bool := decide (p1.1 ≤ p0)
theorem MA (Y : Nat → Prop) (w0 : World) (q_p1 : Nat) (v1 : Value) (v2 : Value) (p0 : Int) (p1 : Int × (List (Int × Int × Int × Int × Int × Int)) × (List (Int × Int))) (r : Bool) (H : Ft p0 p1 = r) (h_v1 : Sl w0 (NX []) Qb v1 p1.2.1) (h_v2 : Sl w0 (NX []) Rl v2 p1.2.2) (a_q_p1 : At ⟨Y, [], w0⟩ q_p1 0 [.int .i64 p1.1, v1, v2]) :
    Calls Tryz.prog 77 #[.int .i64 p0, .pointer (some ⟨q_p1, 0, none⟩)] w0 fun e w' => e = .returned (.bool r) ∧ Below w0.heap.size w0 w' := by
 refine enter Tryz.func77 Aa Tryz.ntmps77 Aa fun a F => ?_
 have W := Stw.start Y w0
 unfold Ft at H
 refine Ah (Ab ?_)
 refine ls F W Aa (Ae F Aa).q fun a w F W => ?_
 refine Ad (Ac (Ah (Ab ?_)))
 refine ls F W Aa (Ag F Aa).q fun a w F W => ?_
 refine ls F W Aa (Ai Pc Aa Aa Aa T3 F Aa 0 Aa).q fun a w F W => ?_
 refine ls F W Aa (IR (y := Value.int .i64 p1.1) (j := 0) F Aa (Nat.zero_add _).symm a_q_p1 T3 Aa).q fun a w F W => ?_
 refine ls F W Aa (D4 F Aa Aa).q fun a w F W => ?_
 refine ls F W Aa (Ae F Aa).q fun a w F W => ?_
 refine Ad (Ac (Av ?_))
 subst H
 refine AJ (.inl Aa) F W Aa (AB F Aa) ?_
 exact ⟨rfl, W.done⟩
theorem Yw : Has Tryz.prog 77 := ⟨fun args w => Aj Tryz.func77 rfl (by decide) args w⟩
def Dx (p0 : List Int) (p1c0 : Int × (List (Int × Int × Int × Int × Int × Int)) × (List (Int × Int))) : Int → Option (Int ⊕ (Unit ⊕ Int))
  | x1 => (if x1 < (p0.length : Int) then (ix p0 x1).bind fun x2 => (if (Ft x2 p1c0) = true then some (.inr (.inr x1)) else some (.inl (AG (x1 + 1)))) else some (.inr (.inl ())))
def Df (p0 : List Int) (p1c0 : Int × (List (Int × Int × Int × Int × Int × Int)) × (List (Int × Int))) : Option Int := Je (A6 (Dx p0 p1c0) 0) fun _ => some (-1)
theorem Jz (Y : Nat → Prop) (w0 : World) (v1 : Value) (q_p1c0 : Nat) (v2 : Value) (v3 : Value) (p0 : List Int) (p1c0 : Int × (List (Int × Int × Int × Int × Int × Int)) × (List (Int × Int))) (r : Int) (H : Df p0 p1c0 = some r) (h_v1 : Sl w0 (NX []) (Rp.int .i64) v1 p0) (h_v2 : Sl w0 (NX []) Qb v2 p1c0.2.1) (h_v3 : Sl w0 (NX []) Rl v3 p1c0.2.2) (a_q_p1c0 : At ⟨Y, [], w0⟩ q_p1c0 0 [.int .i64 p1c0.1, v2, v3]) :
    Calls Tryz.prog 108 #[v1, .func (.func 77) #[] #[.pointer (some ⟨q_p1c0, 0, none⟩)]] w0 fun e w' => e = .returned (.int .i64 r) ∧ Below w0.heap.size w0 w' := by
 refine enter Tryz.func108 Aa Tryz.ntmps108 Aa fun a F => ?_
 have W := Stw.start Y w0
 unfold Df at H
 refine Ah (Ab ?_)
 refine ls F W Aa (Ae F Aa).q fun a w F W => ?_
 refine Ad (Ac ?_)
 obtain ⟨o1, G1, K1, L1⟩ := PQ H
 refine AO (fun a w => some (Sum.inl ()) = some o1 ∧ Fr 19 [] [(4, .int .i64 0)] a ∧ Stw ⟨Y, [], w0⟩ [] [] w) ?_ ?_
 ·
  have H := G1
  refine Ah (Ab ?_)
  refine ls F W Aa (Ag F Aa).q fun a w F W => ?_
  refine ls F W Aa (CA (r := (Rp.int .i64)) (l := p0) RS Aa F Aa (Aq h_v1)).q fun a w F W => ?_
  refine ls F W Aa (Ag F Aa).q fun a w F W => ?_
  refine Ad (Ac (Az ?_))
  refine BG H (fun s a w => Fr 19 [] [(0, v1), (1, .func (.func 77) #[] #[.pointer (some ⟨q_p1c0, 0, none⟩)]), (4, .int .i64 0), (7, .int .i64 (p0.length : Int)), (8, .int .i64 s)] a ∧ Stw ⟨Y, [], w0⟩ [] [] w) ⟨F.re ⟨rfl, Aa, Aa, Aa, Aa, trivial⟩, W⟩ fun s o a w H L2 hR => ?_
  obtain ⟨x1, rfl⟩ : ∃ x, x = s := ⟨s, rfl⟩
  obtain ⟨F, W⟩ := hR
  have F : Fr 19 [] [(0, v1), (1, .func (.func 77) #[] #[.pointer (some ⟨q_p1c0, 0, none⟩)]), (4, .int .i64 0), (7, .int .i64 (p0.length : Int)), (8, .int .i64 x1)] a := F
  have W : Stw ⟨Y, [], w0⟩ [] [] w := W
  rw [Dx] at H
  refine Ah (Ab ?_)
  refine ls F W Aa (Cu F Aa Aa).q fun a w F W => ?_
  refine Ad (Ac (Ah ?_))
  refine Aw F Aa (fun hb => ?_) fun hb => ?_
  ·
   have H := AV (Bg hb) H
   rw [hb] at F
   refine Ay (Ac (Ah (Az (Ah (Ab ?_)))))
   refine ls F W Aa (Ag F Aa).q fun a w F W => ?_
   refine ls F W Aa (Ae F Aa).q fun a w F W => ?_
   refine Ad (Ac (Ah (Ab ?_)))
   iterate 3 refine ls F W Aa (Ag F Aa).q fun a w F W => ?_
   obtain ⟨x2, h1, H⟩ := Am H
   refine ls F W Aa (AM (r := (Rp.int .i64)) EF F Aa Aa (Aq h_v1) h1).q fun a w F W => ?_
   refine ls F W Aa (AA (y := Value.int .i64 x2) (j := 0) (i := x1) F Aa Aa (Aq h_v1) h1 Fl.int.to T3 Aa).q fun a w F W => ?_
   refine ls F W Aa (I7 (ws := [.int .i64 x2, .pointer (some ⟨q_p1c0, 0, none⟩)]) (v := Value.bool (Ft x2 p1c0)) F Yw Aa (fun w W => MA any w q_p1c0 (v2) (v3) x2 p1c0 _ Aa (((Aq h_v2) : D1 _ _ _ _ _ _) w W).nx (((Aq h_v3) : D1 _ _ _ _ _ _) w W).nx (At.re a_q_p1c0 W))) fun a w F W => ?_
   refine Ad (Ac ?_)
   refine Aw F Aa (fun hb => ?_) fun hb => ?_
   ·
    have H := AV hb H
    rw [hb] at F
    refine Ah (Ab ?_)
    refine ls F W Aa (Ag F Aa).q fun a w F W => ?_
    refine ls F W Aa (Ae F Aa).q fun a w F W => ?_
    refine Ad (Ac (Av (AQ ?_)))
    iterate 2 refine AN ?_
    refine AQ (AN ?_)
    have H := L2 _ H
    have H := L1 _ H
    have H := AP H
    subst H
    refine AJ (.inl Aa) F W Aa (AB F Aa) ?_
    exact ⟨rfl, W.done⟩
   have H := AR (by rw [hb]; decide) H
   rw [hb] at F
   refine Ay (AU (Ac (Ab ?_)))
   refine ls F W Aa (BL F Aa Aa Aa).q fun a w F W => ?_
   refine ls F W Aa (Ag F Aa).q fun a w F W => ?_
   refine Ad (Ac ?_)
   exact ⟨_, H, F.re ⟨rfl, Aa, Aa, Aa, Aa, trivial⟩, W⟩
  have H := AR (Bf hb) H
  rw [hb] at F
  refine Bz ?_
  iterate 2 refine BS ?_
  refine Bx (Ac ?_)
  have H := L2 _ H
  exact ⟨H, F.re ⟨rfl, trivial⟩, W⟩
 rintro a w ⟨hj, F, W⟩
 have H := K1 _ hj
 refine Ah (Ab ?_)
 refine ls F W Aa (Ae F Aa).q fun a w F W => ?_
 refine Ad (Ac (Av ?_))
 have H := AP H
 subst H
 refine AJ (.inl Aa) F W Aa (AB F Aa) ?_
 exact ⟨rfl, W.done⟩
def CZ (p0 : List Int) (p1c0 : Int × (List (Int × Int × Int × Int × Int × Int)) × (List (Int × Int))) : Option Bool := (Df p0 p1c0).bind fun x1 => some (decide (0 ≤ x1))
theorem Iw (Y : Nat → Prop) (w0 : World) (v1 : Value) (q_p1c0 : Nat) (v2 : Value) (v3 : Value) (p0 : List Int) (p1c0 : Int × (List (Int × Int × Int × Int × Int × Int)) × (List (Int × Int))) (r : Bool) (H : CZ p0 p1c0 = some r) (h_v1 : Sl w0 (NX []) (Rp.int .i64) v1 p0) (h_v2 : Sl w0 (NX []) Qb v2 p1c0.2.1) (h_v3 : Sl w0 (NX []) Rl v3 p1c0.2.2) (a_q_p1c0 : At ⟨Y, [], w0⟩ q_p1c0 0 [.int .i64 p1c0.1, v2, v3]) :
    Calls Tryz.prog 75 #[v1, .func (.func 77) #[] #[.pointer (some ⟨q_p1c0, 0, none⟩)]] w0 fun e w' => e = .returned (.bool r) ∧ Below w0.heap.size w0 w' := by
 refine enter Tryz.func75 Aa Tryz.ntmps75 Aa fun a F => ?_
 have W := Stw.start Y w0
 unfold CZ at H
 refine Ah (Ab ?_)
 refine ls F W Aa (Ae F Aa).q fun a w F W => ?_
 refine Ad (Ac (Ah (Ab ?_)))
 iterate 2 refine ls F W Aa (Ag F Aa).q fun a w F W => ?_
 obtain ⟨x1, h1, H⟩ := Am H
 refine ls F W Aa (A3 (v := Value.int .i64 x1) F WA Aa (fun w W => Jz any w (v1) q_p1c0 (v2) (v3) p0 p1c0 _ h1 (((Aq h_v1) : D1 _ _ _ _ _ _) w W).nx (((Aq h_v2) : D1 _ _ _ _ _ _) w W).nx (((Aq h_v3) : D1 _ _ _ _ _ _) w W).nx (At.re a_q_p1c0 W))) fun a w F W => ?_
 refine ls F W Aa (D4 F Aa Aa).q fun a w F W => ?_
 refine ls F W Aa (Ae F Aa).q fun a w F W => ?_
 refine Ad (Ac (Av ?_))
 have H := AP H
 subst H
 refine AJ (.inl Aa) F W Aa (AB F Aa) ?_
 exact ⟨rfl, W.done⟩
def Gj (p0 : Int × (List (Int × Int × Int × Int × Int × Int)) × (List (Int × Int))) (p1 : Tr39) : Option Bool := ((Fw (Tr39.of (p1.un.1, Tr36.of (p1.un.2.1.un.1, p1.un.2.1.un.2.1, p1.un.2.1.un.2.2.1, p1.un.2.1.un.2.2.2), p1.un.2.2.1, p1.un.2.2.2.1, p1.un.2.2.2.2)) 4).bind fun x2 => (C8 x2 p0).bind fun x3 => (if x3 = true then some true else (Fw (Tr39.of (p1.un.1, Tr36.of (p1.un.2.1.un.1, p1.un.2.1.un.2.1, p1.un.2.1.un.2.2.1, p1.un.2.1.un.2.2.2), p1.un.2.2.1, p1.un.2.2.2.1, p1.un.2.2.2.2)) 5).bind fun x4 => (CZ x4 p0).bind fun x5 => some x5)).bind fun x1 => some x1
theorem NC (Y : Nat → Prop) (w0 : World) (v1 : Value) (v2 : Value) (v3 : Value) (v4 : Value) (p0 : Int × (List (Int × Int × Int × Int × Int × Int)) × (List (Int × Int))) (p1 : Tr39) (r : Bool) (H : Gj p0 p1 = some r) (h_v1 : Sl w0 (NX []) Qb v1 p0.2.1) (h_v2 : Sl w0 (NX []) Rl v2 p0.2.2) (h_v3 : Sl w0 (NX []) BF v3 p1.un.2.1.un.2.2.2) (h_v4 : Sl w0 (NX []) Gy v4 p1.un.2.2.2.2) :
    Calls Tryz.prog 36 #[.agg #[.int .i64 p0.1, v1, v2], .agg #[.int .i64 p1.un.1, .int .i64 p1.un.2.1.un.1, .int .i64 p1.un.2.1.un.2.1, .int .i64 p1.un.2.1.un.2.2.1, v3, .int .i64 p1.un.2.2.1, .int .i64 p1.un.2.2.2.1, v4]] w0 fun e w' => e = .returned (.bool r) ∧ Below w0.heap.size w0 w' := by
 refine enter Tryz.func36 Aa Tryz.ntmps36 Aa fun a F => ?_
 have W := Stw.start Y w0
 obtain ⟨v5, h1, h_v3⟩ := h_v3.ex BV
 obtain ⟨v6, h2, h_v4⟩ := h_v4.ex FD
 unfold Gj at H
 refine Ah (Ab ?_)
 refine CS (cs := [.int .i64 p0.1, v1, v2]) F W Aa Aa Aa fun b1 a w F W => ?_
 refine CS (cs := [.int .i64 p1.un.1, .int .i64 p1.un.2.1.un.1, .int .i64 p1.un.2.1.un.2.1, .int .i64 p1.un.2.1.un.2.2.1, v3, .int .i64 p1.un.2.2.1, .int .i64 p1.un.2.2.2.1, v4]) F W Aa Aa Aa fun b2 a w F W => ?_
 refine ls F W Aa (Ae F Aa).q fun a w F W => ?_
 refine Ad (Ac ?_)
 obtain ⟨o1, G1, K1⟩ := Am H
 refine AO (fun a w => ∃ x1 : Bool, some (x1) = some o1 ∧ Fr 15 [] [(4, .bool x1)] a ∧ Stw ⟨Y, [], w0⟩ [(b2, [.int .i64 p1.un.1, .int .i64 p1.un.2.1.un.1, .int .i64 p1.un.2.1.un.2.1, .int .i64 p1.un.2.1.un.2.2.1, v3, .int .i64 p1.un.2.2.1, .int .i64 p1.un.2.2.2.1, v4]), (b1, [.int .i64 p0.1, v1, v2])] [] w) ?_ ?_
 ·
  have H := G1
  refine Ab ?_
  refine ls F W Aa (Ao (v := Value.agg #[.int .i64 p1.un.1, .int .i64 p1.un.2.1.un.1, .int .i64 p1.un.2.1.un.2.1, .int .i64 p1.un.2.1.un.2.2.1, v3, .int .i64 p1.un.2.2.1, .int .i64 p1.un.2.2.2.1, v4]) 0 F Aa Aa Ka Aa).q fun a w F W => ?_
  obtain ⟨x2, h3, H⟩ := Am H
  refine Bj (Ml := []) (Zl := []) (M := [(b2, [.int .i64 p1.un.1, .int .i64 p1.un.2.1.un.1, .int .i64 p1.un.2.1.un.2.1, .int .i64 p1.un.2.1.un.2.2.1, v3, .int .i64 p1.un.2.2.1, .int .i64 p1.un.2.2.2.1, v4]), (b1, [.int .i64 p0.1, v1, v2])]) (Z := []) (β := Value) (rv := fun x => x) (MM := fun x => []) (ZZ := fun x => [row x 3 (Rp.int .i64) x2]) F W XF Aa Aa (fun hL => JD _ w (v3) (v4) (Tr39.of (p1.un.1, Tr36.of (p1.un.2.1.un.1, p1.un.2.1.un.2.1, p1.un.2.1.un.2.2.1, p1.un.2.1.un.2.2.2), p1.un.2.2.1, p1.un.2.2.2.1, p1.un.2.2.2.2)) 4 _ h3 ((AH BV h1 (Aq h_v3)) w W).nx ((AH FD h2 (Aq h_v4)) w W).nx) fun x a w F W => ?_
  obtain ⟨v7, rfl⟩ : ∃ y, y = x := ⟨x, rfl⟩
  have W : Stw ⟨Y, [], w0⟩ [(b2, [.int .i64 p1.un.1, .int .i64 p1.un.2.1.un.1, .int .i64 p1.un.2.1.un.2.1, .int .i64 p1.un.2.1.un.2.2.1, v3, .int .i64 p1.un.2.2.1, .int .i64 p1.un.2.2.2.1, v4]), (b1, [.int .i64 p0.1, v1, v2])] [row v7 3 (Rp.int .i64) x2] w := W
  refine ls F W Aa (GX (us := []) (vs := [.pointer (some ⟨b1, 0, none⟩)]) F Aa Aa).q fun a w F W => ?_
  obtain ⟨x3, h4, H⟩ := Am H
  refine ls F W Aa (A3 (v := Value.bool x3) F XG Aa (fun w W => Ji any w (v7) b1 (v1) (v2) x2 p0 _ h4 (((Au 0 Aa) : D1 _ _ _ _ _ _) w W).nx (((Aq h_v1) : D1 _ _ _ _ _ _) w W).nx (((Aq h_v2) : D1 _ _ _ _ _ _) w W).nx (TE W 1 Aa))) fun a w F W => ?_
  refine ls F W Aa (Ag F Aa).q fun a w F W => ?_
  rcases bxq x3 with hb | hb
  ·
   have H := AV hb H
   rw [hb] at F
   iterate 4 refine Dz F Aa Aa Aa Aa Aa Aa Aa fun a F => ?_
   refine ls F W Aa (Ax F Aa Aa Aa).q fun a w F W => ?_
   refine ls F W Aa (Ae F Aa).q fun a w F W => ?_
   refine Ad (Ac ?_)
   have W := W.frontM (i := 1) Aa Aa
   have W := W.frontM (i := 1) Aa Aa
   have W := W.sub (M' := [(b2, [.int .i64 p1.un.1, .int .i64 p1.un.2.1.un.1, .int .i64 p1.un.2.1.un.2.1, .int .i64 p1.un.2.1.un.2.2.1, v3, .int .i64 p1.un.2.2.1, .int .i64 p1.un.2.2.2.1, v4]), (b1, [.int .i64 p0.1, v1, v2])]) (Z' := []) (List.Sublist.refl _) (List.nil_sublist _)
   exact ⟨_, H, F.re ⟨rfl, trivial⟩, W⟩
  have H := AR (by rw [hb]; decide) H
  rw [hb] at F
  refine AK F W (Af F Aa Aa Aa Aa) Aa (Ak Aa) (Ao (v := Value.agg #[.int .i64 p1.un.1, .int .i64 p1.un.2.1.un.1, .int .i64 p1.un.2.1.un.2.1, .int .i64 p1.un.2.1.un.2.2.1, v3, .int .i64 p1.un.2.2.1, .int .i64 p1.un.2.2.2.1, v4]) 0 F Aa Aa Ka Aa).q fun a w F W => ?_
  refine KH (Af F Aa Aa Aa Aa) ?_
  obtain ⟨x4, h5, H⟩ := Am H
  refine Bj (Ml := []) (Zl := []) (M := [(b2, [.int .i64 p1.un.1, .int .i64 p1.un.2.1.un.1, .int .i64 p1.un.2.1.un.2.1, .int .i64 p1.un.2.1.un.2.2.1, v3, .int .i64 p1.un.2.2.1, .int .i64 p1.un.2.2.2.1, v4]), (b1, [.int .i64 p0.1, v1, v2])]) (Z := [row v7 3 (Rp.int .i64) x2]) (β := Value) (rv := fun x => x) (MM := fun x => []) (ZZ := fun x => [row x 3 (Rp.int .i64) x4]) F W XF Aa Aa (fun hL => JD _ w (v3) (v4) (Tr39.of (p1.un.1, Tr36.of (p1.un.2.1.un.1, p1.un.2.1.un.2.1, p1.un.2.1.un.2.2.1, p1.un.2.1.un.2.2.2), p1.un.2.2.1, p1.un.2.2.2.1, p1.un.2.2.2.2)) 5 _ h5 ((AH BV h1 (Aq h_v3)) w W).nx ((AH FD h2 (Aq h_v4)) w W).nx) fun x a w F W => ?_
  obtain ⟨v8, rfl⟩ : ∃ y, y = x := ⟨x, rfl⟩
  have W : Stw ⟨Y, [], w0⟩ [(b2, [.int .i64 p1.un.1, .int .i64 p1.un.2.1.un.1, .int .i64 p1.un.2.1.un.2.1, .int .i64 p1.un.2.1.un.2.2.1, v3, .int .i64 p1.un.2.2.1, .int .i64 p1.un.2.2.2.1, v4]), (b1, [.int .i64 p0.1, v1, v2])] [row v8 3 (Rp.int .i64) x4, row v7 3 (Rp.int .i64) x2] w := W
  refine AK F W (Af F Aa Aa Aa Aa) Aa (Ak Aa) (GX (us := []) (vs := [.pointer (some ⟨b1, 0, none⟩)]) F Aa Aa).q fun a w F W => ?_
  refine KH (Af F Aa Aa Aa Aa) ?_
  obtain ⟨x5, h6, H⟩ := Am H
  refine ls F W Aa (A3 (v := Value.bool x5) F XG Aa (fun w W => Iw any w (v8) b1 (v1) (v2) x4 p0 _ h6 (((Au 0 Aa) : D1 _ _ _ _ _ _) w W).nx (((Aq h_v1) : D1 _ _ _ _ _ _) w W).nx (((Aq h_v2) : D1 _ _ _ _ _ _) w W).nx (TE W 1 Aa))) fun a w F W => ?_
  refine ls F W Aa (As F Aa Aa Aa).q fun a w F W => ?_
  refine ls F W Aa (Ae F Aa).q fun a w F W => ?_
  refine Ad (Ac ?_)
  have W := W.frontM (i := 1) Aa Aa
  have W := W.frontM (i := 1) Aa Aa
  have W := W.sub (M' := [(b2, [.int .i64 p1.un.1, .int .i64 p1.un.2.1.un.1, .int .i64 p1.un.2.1.un.2.1, .int .i64 p1.un.2.1.un.2.2.1, v3, .int .i64 p1.un.2.2.1, .int .i64 p1.un.2.2.2.1, v4]), (b1, [.int .i64 p0.1, v1, v2])]) (Z' := []) (List.Sublist.refl _) (List.nil_sublist _)
  exact ⟨_, H, F.re ⟨rfl, trivial⟩, W⟩
 rintro a w ⟨x1, hj, F, W⟩
 have hj := AP hj
 subst hj
 have H := K1
 refine Av ?_
 have H := AP H
 subst H
 refine AJ (.inl Aa) F W Aa (AB F Aa) ?_
 exact ⟨rfl, W.done⟩
theorem Yt : Has Tryz.prog 36 := ⟨fun args w => Aj Tryz.func36 rfl (by decide) args w⟩
def HN (p0 : Int × (List (Int × Int × Int × Int × Int × Int)) × (List (Int × Int))) (p1 : Tr39) : Option Int := (JV p0).bind fun x1 => (if (!x1) = true then some 2 else (Ic (Tr39.of (p1.un.1, Tr36.of (p1.un.2.1.un.1, p1.un.2.1.un.2.1, p1.un.2.1.un.2.2.1, p1.un.2.1.un.2.2.2), p1.un.2.2.1, p1.un.2.2.2.1, p1.un.2.2.2.2))).bind fun x2 => (if (!x2) = true then some 17 else (Gj p0 (Tr39.of (p1.un.1, Tr36.of (p1.un.2.1.un.1, p1.un.2.1.un.2.1, p1.un.2.1.un.2.2.1, p1.un.2.1.un.2.2.2), p1.un.2.2.1, p1.un.2.2.2.1, p1.un.2.2.2.2))).bind fun x3 => (if x3 = true then some 13 else (HO (Tr39.of (p1.un.1, Tr36.of (p1.un.2.1.un.1, p1.un.2.1.un.2.1, p1.un.2.1.un.2.2.1, p1.un.2.1.un.2.2.2), p1.un.2.2.1, p1.un.2.2.2.1, p1.un.2.2.2.2))).bind fun x4 => (if 4096 < x4 then some 6 else some 0))))
theorem MU (Y : Nat → Prop) (w0 : World) (v1 : Value) (v2 : Value) (v3 : Value) (v4 : Value) (p0 : Int × (List (Int × Int × Int × Int × Int × Int)) × (List (Int × Int))) (p1 : Tr39) (r : Int) (H : HN p0 p1 = some r) (h_v1 : Sl w0 (NX []) Qb v1 p0.2.1) (h_v2 : Sl w0 (NX []) Rl v2 p0.2.2) (h_v3 : Sl w0 (NX []) BF v3 p1.un.2.1.un.2.2.2) (h_v4 : Sl w0 (NX []) Gy v4 p1.un.2.2.2.2) :
    Calls Tryz.prog 9 #[.agg #[.int .i64 p0.1, v1, v2], .agg #[.int .i64 p1.un.1, .int .i64 p1.un.2.1.un.1, .int .i64 p1.un.2.1.un.2.1, .int .i64 p1.un.2.1.un.2.2.1, v3, .int .i64 p1.un.2.2.1, .int .i64 p1.un.2.2.2.1, v4]] w0 fun e w' => e = .returned (.int .i64 r) ∧ Below w0.heap.size w0 w' := by
 refine enter Tryz.func9 Aa Tryz.ntmps9 Aa fun a F => ?_
 have W := Stw.start Y w0
 obtain ⟨v5, h1, h_v3⟩ := h_v3.ex BV
 obtain ⟨v6, h2, h_v4⟩ := h_v4.ex FD
 unfold HN at H
 refine Ah (Ab ?_)
 refine CS (cs := [.int .i64 p0.1, v1, v2]) F W Aa Aa Aa fun b1 a w F W => ?_
 refine CS (cs := [.int .i64 p1.un.1, .int .i64 p1.un.2.1.un.1, .int .i64 p1.un.2.1.un.2.1, .int .i64 p1.un.2.1.un.2.2.1, v3, .int .i64 p1.un.2.2.1, .int .i64 p1.un.2.2.2.1, v4]) F W Aa Aa Aa fun b2 a w F W => ?_
 refine ls F W Aa (Ae F Aa).q fun a w F W => ?_
 refine Ad (Ac (Ah (Az (Ah (Ab ?_)))))
 refine ls F W Aa (Ao (v := Value.agg #[.int .i64 p0.1, v1, v2]) 1 F Aa Aa WK Aa).q fun a w F W => ?_
 obtain ⟨x1, h3, H⟩ := Am H
 refine ls F W Aa (A3 (v := Value.bool x1) F YN Aa (fun w W => RC any w (v1) (v2) p0 _ h3 (((Aq h_v1) : D1 _ _ _ _ _ _) w W).nx (((Aq h_v2) : D1 _ _ _ _ _ _) w W).nx)) fun a w F W => ?_
 refine ls F W Aa (F4 F Aa).q fun a w F W => ?_
 refine ls F W Aa (Ae F Aa).q fun a w F W => ?_
 refine Ad (Ac ?_)
 refine Aw F Aa (fun hb => ?_) fun hb => ?_
 ·
  have H := AV hb H
  rw [hb] at F
  refine Ah (Ab ?_)
  refine ls F W Aa (Ae F Aa).q fun a w F W => ?_
  refine Ad (Ac (Av (AQ (AN ?_))))
  have H := AP H
  subst H
  refine AJ (.inl Aa) F W Aa (AB F Aa) ?_
  exact ⟨rfl, W.done⟩
 have H := AR (by rw [hb]; decide) H
 rw [hb] at F
 refine Ah (Ab ?_)
 refine ls F W Aa (Ao (v := Value.agg #[.int .i64 p1.un.1, .int .i64 p1.un.2.1.un.1, .int .i64 p1.un.2.1.un.2.1, .int .i64 p1.un.2.1.un.2.2.1, v3, .int .i64 p1.un.2.2.1, .int .i64 p1.un.2.2.2.1, v4]) 0 F Aa Aa Ka Aa).q fun a w F W => ?_
 obtain ⟨x2, h4, H⟩ := Am H
 refine ls F W Aa (A3 (v := Value.bool x2) F YL Aa (fun w W => PO any w (v3) (v4) (Tr39.of (p1.un.1, Tr36.of (p1.un.2.1.un.1, p1.un.2.1.un.2.1, p1.un.2.1.un.2.2.1, p1.un.2.1.un.2.2.2), p1.un.2.2.1, p1.un.2.2.2.1, p1.un.2.2.2.2)) _ h4 (((AH BV h1 (Aq h_v3)) : D1 _ _ _ _ _ _) w W).nx (((AH FD h2 (Aq h_v4)) : D1 _ _ _ _ _ _) w W).nx)) fun a w F W => ?_
 refine ls F W Aa (F4 F Aa).q fun a w F W => ?_
 refine ls F W Aa (Ae F Aa).q fun a w F W => ?_
 refine Ad (Ac ?_)
 refine Aw F Aa (fun hb => ?_) fun hb => ?_
 ·
  have H := AV hb H
  rw [hb] at F
  refine Ah (Ab ?_)
  refine ls F W Aa (Ae F Aa).q fun a w F W => ?_
  refine Ad (Ac (Av (AQ (AN ?_))))
  have H := AP H
  subst H
  refine AJ (.inl Aa) F W Aa (AB F Aa) ?_
  exact ⟨rfl, W.done⟩
 have H := AR (by rw [hb]; decide) H
 rw [hb] at F
 refine Ah (Ab ?_)
 refine ls F W Aa (Ao (v := Value.agg #[.int .i64 p0.1, v1, v2]) 1 F Aa Aa WK Aa).q fun a w F W => ?_
 refine ls F W Aa (Ao (v := Value.agg #[.int .i64 p1.un.1, .int .i64 p1.un.2.1.un.1, .int .i64 p1.un.2.1.un.2.1, .int .i64 p1.un.2.1.un.2.2.1, v3, .int .i64 p1.un.2.2.1, .int .i64 p1.un.2.2.2.1, v4]) 0 F Aa Aa Ka Aa).q fun a w F W => ?_
 obtain ⟨x3, h5, H⟩ := Am H
 refine ls F W Aa (A3 (v := Value.bool x3) F Yt Aa (fun w W => NC any w (v1) (v2) (v3) (v4) p0 (Tr39.of (p1.un.1, Tr36.of (p1.un.2.1.un.1, p1.un.2.1.un.2.1, p1.un.2.1.un.2.2.1, p1.un.2.1.un.2.2.2), p1.un.2.2.1, p1.un.2.2.2.1, p1.un.2.2.2.2)) _ h5 (((Aq h_v1) : D1 _ _ _ _ _ _) w W).nx (((Aq h_v2) : D1 _ _ _ _ _ _) w W).nx (((AH BV h1 (Aq h_v3)) : D1 _ _ _ _ _ _) w W).nx (((AH FD h2 (Aq h_v4)) : D1 _ _ _ _ _ _) w W).nx)) fun a w F W => ?_
 refine ls F W Aa (Ae F Aa).q fun a w F W => ?_
 refine Ad (Ac ?_)
 refine Aw F Aa (fun hb => ?_) fun hb => ?_
 ·
  have H := AV hb H
  rw [hb] at F
  refine Ah (Ab ?_)
  refine ls F W Aa (Ae F Aa).q fun a w F W => ?_
  refine Ad (Ac (Av (AQ (AN ?_))))
  have H := AP H
  subst H
  refine AJ (.inl Aa) F W Aa (AB F Aa) ?_
  exact ⟨rfl, W.done⟩
 have H := AR (by rw [hb]; decide) H
 rw [hb] at F
 refine Ah (Ab ?_)
 refine ls F W Aa (Ao (v := Value.agg #[.int .i64 p1.un.1, .int .i64 p1.un.2.1.un.1, .int .i64 p1.un.2.1.un.2.1, .int .i64 p1.un.2.1.un.2.2.1, v3, .int .i64 p1.un.2.2.1, .int .i64 p1.un.2.2.2.1, v4]) 0 F Aa Aa Ka Aa).q fun a w F W => ?_
 obtain ⟨x4, h6, H⟩ := Am H
 refine ls F W Aa (A3 (v := Value.int .i64 x4) F XT Aa (fun w W => MX any w (v3) (v4) (Tr39.of (p1.un.1, Tr36.of (p1.un.2.1.un.1, p1.un.2.1.un.2.1, p1.un.2.1.un.2.2.1, p1.un.2.1.un.2.2.2), p1.un.2.2.1, p1.un.2.2.2.1, p1.un.2.2.2.2)) _ h6 (((AH BV h1 (Aq h_v3)) : D1 _ _ _ _ _ _) w W).nx (((AH FD h2 (Aq h_v4)) : D1 _ _ _ _ _ _) w W).nx)) fun a w F W => ?_
 refine ls F W Aa (HL F Aa Aa).q fun a w F W => ?_
 refine ls F W Aa (Ae F Aa).q fun a w F W => ?_
 refine Ad (Ac ?_)
 refine Aw F Aa (fun hb => ?_) fun hb => ?_
 ·
  have H := AV (Bg hb) H
  rw [hb] at F
  refine Ah (Ab ?_)
  refine ls F W Aa (Ae F Aa).q fun a w F W => ?_
  refine Ad (Ac (Av (AQ (AN ?_))))
  have H := AP H
  subst H
  refine AJ (.inl Aa) F W Aa (AB F Aa) ?_
  exact ⟨rfl, W.done⟩
 have H := AR (Bf hb) H
 rw [hb] at F
 refine Ay (AU (Ac (Ah (Ab ?_))))
 refine ls F W Aa (Ae F Aa).q fun a w F W => ?_
 refine Ad (Ac (Av ?_))
 have H := AP H
 subst H
 refine AJ (.inl Aa) F W Aa (AB F Aa) ?_
 exact ⟨rfl, W.done⟩
theorem H9 : Has Tryz.prog 9 := ⟨fun args w => Aj Tryz.func9 rfl (by decide) args w⟩
def IB  : Option Bool := ((Nr (Tr39.of (1, Tr36.of (5, 0, 0, ([Tr36.of (3, 5, 2, ([] : List Tr36)), Tr36.of (3, 1, 1, ([] : List Tr36))] : List Tr36)), 0, 0, ([] : List Tr39))) 2).bind fun x2 => (Ki (Tr39.of (x2.un.1, Tr36.of (x2.un.2.1.un.1, x2.un.2.1.un.2.1, x2.un.2.1.un.2.2.1, x2.un.2.1.un.2.2.2), x2.un.2.2.1, x2.un.2.2.2.1, x2.un.2.2.2.2))).bind fun x3 => (if x3 = ([119, 104, 101, 110, 32, 100, 115, 116, 32, 61, 32, 49] : List UInt8) then (Nr (Tr39.of (1, Tr36.of (5, 0, 0, ([Tr36.of (3, 5, 2, ([] : List Tr36)), Tr36.of (3, 1, 1, ([] : List Tr36))] : List Tr36)), 0, 0, ([] : List Tr39))) 1).bind fun x4 => (Ki (Tr39.of (x4.un.1, Tr36.of (x4.un.2.1.un.1, x4.un.2.1.un.2.1, x4.un.2.1.un.2.2.1, x4.un.2.1.un.2.2.2), x4.un.2.2.1, x4.un.2.2.2.1, x4.un.2.2.2.2))).bind fun x5 => (if x5 = ([100, 114, 111, 112] : List UInt8) then (HO (Tr39.of (1, Tr36.of (5, 0, 0, ([Tr36.of (3, 5, 2, ([] : List Tr36)), Tr36.of (3, 1, 1, ([] : List Tr36))] : List Tr36)), 0, 0, ([] : List Tr39)))).bind fun x6 => (if x6 = 2 then (HN (3, ([] : List (Int × Int × Int × Int × Int × Int)), ([] : List (Int × Int))) (Tr39.of (1, Tr36.of (5, 0, 0, ([Tr36.of (3, 5, 2, ([] : List Tr36)), Tr36.of (3, 1, 1, ([] : List Tr36))] : List Tr36)), 0, 0, ([] : List Tr39)))).bind fun x7 => (if x7 = 0 then (HN (2, ([] : List (Int × Int × Int × Int × Int × Int)), ([] : List (Int × Int))) (Tr39.of (1, Tr36.of (5, 0, 0, ([Tr36.of (3, 5, 2, ([] : List Tr36)), Tr36.of (3, 1, 1, ([] : List Tr36))] : List Tr36)), 0, 0, ([] : List Tr39)))).bind fun x8 => some (decide (x8 = 13)) else some false) else some false) else some false) else some false)).bind fun x1 => some x1
theorem OK (Y : Nat → Prop) (w0 : World)   (r : Bool) (H : IB  = some r) (hG : Gk [] w0) :
    Calls Tryz.prog 7 #[] w0 fun e w' => e = .returned (.bool r) ∧ Below w0.heap.size w0 w' := by
 refine enter Tryz.func7 Aa Tryz.ntmps7 Aa fun a F => ?_
 have W := Stw.start Y w0
 unfold IB at H
 refine Ah (Ab ?_)
 refine ls F W Aa (Ae F Aa).q fun a w F W => ?_
 refine Ad (Ac (Ah (Ab ?_)))
 refine ls F W Aa (De (v := Value.agg #[.int .i64 3, .int .i64 5, .int .i64 2, .slice none 0 0]) UB F Aa Aa Aa).q fun a w F W => ?_
 refine ls F W Aa (De (v := Value.agg #[.int .i64 3, .int .i64 1, .int .i64 1, .slice none 0 0]) UB F Aa Aa Aa).q fun a w F W => ?_
 refine Co (cs := [.int .i64 0, .int .i64 0, .int .i64 0, .slice none 0 0]) F W Aa QT Aa fun b1 a w F W => ?_
 refine Co (cs := [.int .i64 0, .int .i64 0, .int .i64 0, .slice none 0 0]) F W Aa QT Aa fun b2 a w F W => ?_
 refine Be (vs := [.int .i64 3, .int .i64 5, .int .i64 2, .slice none 0 0]) (M' := [(b2, [.int .i64 0, .int .i64 0, .int .i64 0, .slice none 0 0]), (b1, [.int .i64 3, .int .i64 5, .int .i64 2, .slice none 0 0])]) 1 F W Aa Aa Aa ER Aa Aa Aa Aa Aa fun w W => ?_
 refine Be (vs := [.int .i64 3, .int .i64 1, .int .i64 1, .slice none 0 0]) (M' := [(b2, [.int .i64 3, .int .i64 1, .int .i64 1, .slice none 0 0]), (b1, [.int .i64 3, .int .i64 5, .int .i64 2, .slice none 0 0])]) 0 F W Aa Aa Aa ER Aa Aa Aa Aa Aa fun w W => ?_
 refine Ad (Ac (Ah (Ab ?_)))
 refine ls F W Aa (Ao (v := Value.agg #[.int .i64 3, .int .i64 5, .int .i64 2, .slice none 0 0]) 1 F Aa Aa ER Aa).q fun a w F W => ?_
 refine ls F W Aa (Ao (v := Value.agg #[.int .i64 3, .int .i64 1, .int .i64 1, .slice none 0 0]) 0 F Aa Aa ER Aa).q fun a w F W => ?_
 refine Ke (z := Value.agg #[.int .i64 0, .int .i64 0, .int .i64 0, .slice none 0 0]) (cs := [.int .i64 3, .int .i64 5, .int .i64 2, .slice none 0 0, .int .i64 3, .int .i64 1, .int .i64 1, .slice none 0 0]) BF ([Tr36.of (3, 5, 2, ([] : List Tr36)), Tr36.of (3, 1, 1, ([] : List Tr36))] : List Tr36) F W Aa Ps QT Aa Aa Aa (CR Aa Aa Aa (CR Aa Aa Aa Fp)) Aa Aa ⟨[Value.int .i64 3, Value.int .i64 5, Value.int .i64 2, Value.slice none 0 0], _, Aa, (Tp.2 ⟨[Value.int .i64 3], [Value.int .i64 5, Value.int .i64 2, Value.slice none 0 0], Aa, Aa, ⟨[Value.int .i64 5], [Value.int .i64 2, Value.slice none 0 0], Aa, Aa, ⟨[Value.int .i64 2], [Value.slice none 0 0], Aa, Aa, ⟨_, Aa, (Sl.nil (r := BF))⟩⟩⟩⟩), ⟨[Value.int .i64 3, Value.int .i64 1, Value.int .i64 1, Value.slice none 0 0], _, Aa, (Tp.2 ⟨[Value.int .i64 3], [Value.int .i64 1, Value.int .i64 1, Value.slice none 0 0], Aa, Aa, ⟨[Value.int .i64 1], [Value.int .i64 1, Value.slice none 0 0], Aa, Aa, ⟨[Value.int .i64 1], [Value.slice none 0 0], Aa, Aa, ⟨_, Aa, (Sl.nil (r := BF))⟩⟩⟩⟩), Aa⟩⟩ fun v1 a w F W => ?_
 refine ls F W Aa (De (v := Value.agg #[.int .i64 5, .int .i64 0, .int .i64 0, v1]) UB F Aa (CR Aa Aa Aa (CR Aa (JK (W.one (k := 0) Aa)) Aa Fp)) Aa).q fun a w F W => ?_
 refine ls F W Aa (De (v := Value.agg #[.int .i64 1, .int .i64 5, .int .i64 0, .int .i64 0, v1, .int .i64 0, .int .i64 0, .slice none 0 0]) Yc F Aa (CR Aa Aa Aa (CR Aa Aa Aa Fp)) Aa).q fun a w F W => ?_
 refine Co (cs := [.int .i64 0, .int .i64 0, .int .i64 0, .int .i64 0, .slice none 0 0, .int .i64 0, .int .i64 0, .slice none 0 0]) F W Aa UK Aa fun b3 a w F W => ?_
 refine Be (vs := [.int .i64 1, .int .i64 5, .int .i64 0, .int .i64 0, v1, .int .i64 0, .int .i64 0, .slice none 0 0]) (M' := [(b3, [.int .i64 1, .int .i64 5, .int .i64 0, .int .i64 0, v1, .int .i64 0, .int .i64 0, .slice none 0 0]), (b2, [.int .i64 3, .int .i64 1, .int .i64 1, .slice none 0 0]), (b1, [.int .i64 3, .int .i64 5, .int .i64 2, .slice none 0 0])]) 0 F W Aa Aa Aa Ka Aa Aa Aa (An Aa (An Aa (An Aa (An Aa (An (W.one (k := 0) Aa) (An Aa (An Aa (An Aa Cq)))))))) Aa fun w W => ?_
 refine Ad (Ac ?_)
 obtain ⟨o1, G1, K1⟩ := Am H
 refine AO (fun a w => ∃ x1 : Bool, some (x1) = some o1 ∧ Fr 38 [] [(0, .bool x1)] a ∧ Stw ⟨Y, [], w0⟩ [(b3, [.int .i64 1, .int .i64 5, .int .i64 0, .int .i64 0, v1, .int .i64 0, .int .i64 0, .slice none 0 0]), (b2, [.int .i64 3, .int .i64 1, .int .i64 1, .slice none 0 0]), (b1, [.int .i64 3, .int .i64 5, .int .i64 2, .slice none 0 0])] [DE v1 BF ([Tr36.of (3, 5, 2, ([] : List Tr36)), Tr36.of (3, 1, 1, ([] : List Tr36))] : List Tr36)] w) ?_ ?_
 ·
  have H := G1
  refine Ab ?_
  refine ls F W Aa (Ao (v := Value.agg #[.int .i64 1, .int .i64 5, .int .i64 0, .int .i64 0, v1, .int .i64 0, .int .i64 0, .slice none 0 0]) 0 F Aa Aa Ka Aa).q fun a w F W => ?_
  obtain ⟨x2, h1, H⟩ := Am H
  have W := W.freeze
  refine Bj (Ml := []) (Zl := []) (M := [(b3, [.int .i64 1, .int .i64 5, .int .i64 0, .int .i64 0, v1, .int .i64 0, .int .i64 0, .slice none 0 0]), (b2, [.int .i64 3, .int .i64 1, .int .i64 1, .slice none 0 0]), (b1, [.int .i64 3, .int .i64 5, .int .i64 2, .slice none 0 0])]) (Z := [DE v1 BF ([Tr36.of (3, 5, 2, ([] : List Tr36)), Tr36.of (3, 1, 1, ([] : List Tr36))] : List Tr36)]) (β := Value × Value) (rv := fun x => .agg #[.int .i64 x2.un.1, .int .i64 x2.un.2.1.un.1, .int .i64 x2.un.2.1.un.2.1, .int .i64 x2.un.2.1.un.2.2.1, x.1, .int .i64 x2.un.2.2.1, .int .i64 x2.un.2.2.2.1, x.2]) (MM := fun x => []) (ZZ := fun x => [DE x.1 BF x2.un.2.1.un.2.2.2, row x.2 39 Gy x2.un.2.2.2.2]) F W Wg Aa Aa (fun hL => PB _ w (v1) (Value.slice none 0 0) (Tr39.of (1, Tr36.of (5, 0, 0, ([Tr36.of (3, 5, 2, ([] : List Tr36)), Tr36.of (3, 1, 1, ([] : List Tr36))] : List Tr36)), 0, 0, ([] : List Tr39))) 2 _ h1 (W.item (i := 0) Aa) Sl.nil) fun x a w F W => ?_
  obtain ⟨v2, v3⟩ := x
  have W : Stw ⟨Y, [], w0⟩ [(b3, [.int .i64 1, .int .i64 5, .int .i64 0, .int .i64 0, v1, .int .i64 0, .int .i64 0, .slice none 0 0]), (b2, [.int .i64 3, .int .i64 1, .int .i64 1, .slice none 0 0]), (b1, [.int .i64 3, .int .i64 5, .int .i64 2, .slice none 0 0])] [DE v2 BF x2.un.2.1.un.2.2.2, row v3 39 Gy x2.un.2.2.2.2, DE v1 BF ([Tr36.of (3, 5, 2, ([] : List Tr36)), Tr36.of (3, 1, 1, ([] : List Tr36))] : List Tr36)] w := W
  obtain ⟨x3, h2, H⟩ := Am H
  refine ls F W Aa (A3 (v := Value.string (bs x3)) F W7 Aa (fun w W => MR any w (v2) (v3) (Tr39.of (x2.un.1, Tr36.of (x2.un.2.1.un.1, x2.un.2.1.un.2.1, x2.un.2.1.un.2.2.1, x2.un.2.1.un.2.2.2), x2.un.2.2.1, x2.un.2.2.2.1, x2.un.2.2.2.2)) _ h2 (((I0 0 Aa) : D1 _ _ _ _ _ _) w W).nx (((Au 1 Aa) : D1 _ _ _ _ _ _) w W).nx (hG.go0 W))) fun a w F W => ?_
  refine ls F W Aa (Vi (l := x3) (m := ([119, 104, 101, 110, 32, 100, 115, 116, 32, 61, 32, 49] : List UInt8)) F Aa Aa).q fun a w F W => ?_
  refine ls F W Aa (Ag F Aa).q fun a w F W => ?_
  rcases bxq (decide (x3 = ([119, 104, 101, 110, 32, 100, 115, 116, 32, 61, 32, 49] : List UInt8))) with hb | hb
  ·
   have H := AV (Bg hb) H
   rw [hb] at F
   refine AK F W (Af F Aa Aa Aa Aa) Aa (Ak Aa) (Ao (v := Value.agg #[.int .i64 1, .int .i64 5, .int .i64 0, .int .i64 0, v1, .int .i64 0, .int .i64 0, .slice none 0 0]) 0 F Aa Aa Ka Aa).q fun a w F W => ?_
   refine KH (Af F Aa Aa Aa Aa) ?_
   obtain ⟨x4, h3, H⟩ := Am H
   refine Bj (Ml := []) (Zl := []) (M := [(b3, [.int .i64 1, .int .i64 5, .int .i64 0, .int .i64 0, v1, .int .i64 0, .int .i64 0, .slice none 0 0]), (b2, [.int .i64 3, .int .i64 1, .int .i64 1, .slice none 0 0]), (b1, [.int .i64 3, .int .i64 5, .int .i64 2, .slice none 0 0])]) (Z := [DE v2 BF x2.un.2.1.un.2.2.2, row v3 39 Gy x2.un.2.2.2.2, DE v1 BF ([Tr36.of (3, 5, 2, ([] : List Tr36)), Tr36.of (3, 1, 1, ([] : List Tr36))] : List Tr36)]) (β := Value × Value) (rv := fun x => .agg #[.int .i64 x4.un.1, .int .i64 x4.un.2.1.un.1, .int .i64 x4.un.2.1.un.2.1, .int .i64 x4.un.2.1.un.2.2.1, x.1, .int .i64 x4.un.2.2.1, .int .i64 x4.un.2.2.2.1, x.2]) (MM := fun x => []) (ZZ := fun x => [DE x.1 BF x4.un.2.1.un.2.2.2, row x.2 39 Gy x4.un.2.2.2.2]) F W Wg Aa Aa (fun hL => PB _ w (v1) (Value.slice none 0 0) (Tr39.of (1, Tr36.of (5, 0, 0, ([Tr36.of (3, 5, 2, ([] : List Tr36)), Tr36.of (3, 1, 1, ([] : List Tr36))] : List Tr36)), 0, 0, ([] : List Tr39))) 1 _ h3 (W.item (i := 2) Aa) Sl.nil) fun x a w F W => ?_
   obtain ⟨v4, v5⟩ := x
   have W : Stw ⟨Y, [], w0⟩ [(b3, [.int .i64 1, .int .i64 5, .int .i64 0, .int .i64 0, v1, .int .i64 0, .int .i64 0, .slice none 0 0]), (b2, [.int .i64 3, .int .i64 1, .int .i64 1, .slice none 0 0]), (b1, [.int .i64 3, .int .i64 5, .int .i64 2, .slice none 0 0])] [DE v4 BF x4.un.2.1.un.2.2.2, row v5 39 Gy x4.un.2.2.2.2, DE v2 BF x2.un.2.1.un.2.2.2, row v3 39 Gy x2.un.2.2.2.2, DE v1 BF ([Tr36.of (3, 5, 2, ([] : List Tr36)), Tr36.of (3, 1, 1, ([] : List Tr36))] : List Tr36)] w := W
   refine KH (Af F Aa Aa Aa Aa) ?_
   obtain ⟨x5, h4, H⟩ := Am H
   refine ls F W Aa (A3 (v := Value.string (bs x5)) F W7 Aa (fun w W => MR any w (v4) (v5) (Tr39.of (x4.un.1, Tr36.of (x4.un.2.1.un.1, x4.un.2.1.un.2.1, x4.un.2.1.un.2.2.1, x4.un.2.1.un.2.2.2), x4.un.2.2.1, x4.un.2.2.2.1, x4.un.2.2.2.2)) _ h4 (((I0 0 Aa) : D1 _ _ _ _ _ _) w W).nx (((Au 1 Aa) : D1 _ _ _ _ _ _) w W).nx (hG.go0 W))) fun a w F W => ?_
   refine AK F W (Af F Aa Aa Aa Aa) Aa (Ak Aa) (Vi (l := x5) (m := ([100, 114, 111, 112] : List UInt8)) F Aa Aa).q fun a w F W => ?_
   refine ls F W Aa (Ax F Aa Aa Aa).q fun a w F W => ?_
   refine ls F W Aa (Ag F Aa).q fun a w F W => ?_
   rcases bxq (decide (x5 = ([100, 114, 111, 112] : List UInt8))) with hb | hb
   ·
    have H := AV (Bg hb) H
    rw [hb] at F
    refine AK F W (Af F Aa Aa Aa Aa) Aa (Ak Aa) (Ao (v := Value.agg #[.int .i64 1, .int .i64 5, .int .i64 0, .int .i64 0, v1, .int .i64 0, .int .i64 0, .slice none 0 0]) 0 F Aa Aa Ka Aa).q fun a w F W => ?_
    refine KH (Af F Aa Aa Aa Aa) ?_
    obtain ⟨x6, h5, H⟩ := Am H
    refine ls F W Aa (A3 (v := Value.int .i64 x6) F XT Aa (fun w W => MX any w (v1) (Value.slice none 0 0) (Tr39.of (1, Tr36.of (5, 0, 0, ([Tr36.of (3, 5, 2, ([] : List Tr36)), Tr36.of (3, 1, 1, ([] : List Tr36))] : List Tr36)), 0, 0, ([] : List Tr39))) _ h5 (((I0 4 Aa) : D1 _ _ _ _ _ _) w W).nx Sl.nil)) fun a w F W => ?_
    refine AK F W (Af F Aa Aa Aa Aa) Aa (Ak Aa) (A7 F Aa Aa).q fun a w F W => ?_
    refine ls F W Aa (Ax F Aa Aa Aa).q fun a w F W => ?_
    refine ls F W Aa (Ag F Aa).q fun a w F W => ?_
    rcases bxq (decide (x6 = 2)) with hb | hb
    ·
     have H := AV (Bg hb) H
     rw [hb] at F
     refine AK F W (Af F Aa Aa Aa Aa) Aa (Ak Aa) (De (v := Value.agg #[.int .i64 3, .slice none 0 0, .slice none 0 0]) X0 F Aa Aa Aa).q fun a w F W => ?_
     refine AK F W (Af F Aa Aa Aa Aa) Aa (Ak Aa) (Ao (v := Value.agg #[.int .i64 1, .int .i64 5, .int .i64 0, .int .i64 0, v1, .int .i64 0, .int .i64 0, .slice none 0 0]) 0 F Aa Aa Ka Aa).q fun a w F W => ?_
     refine KH (Af F Aa Aa Aa Aa) ?_
     obtain ⟨x7, h6, H⟩ := Am H
     refine ls F W Aa (A3 (v := Value.int .i64 x7) F H9 Aa (fun w W => MU any w (Value.slice none 0 0) (Value.slice none 0 0) (v1) (Value.slice none 0 0) (3, ([] : List (Int × Int × Int × Int × Int × Int)), ([] : List (Int × Int))) (Tr39.of (1, Tr36.of (5, 0, 0, ([Tr36.of (3, 5, 2, ([] : List Tr36)), Tr36.of (3, 1, 1, ([] : List Tr36))] : List Tr36)), 0, 0, ([] : List Tr39))) _ h6 Sl.nil Sl.nil (((I0 4 Aa) : D1 _ _ _ _ _ _) w W).nx Sl.nil)) fun a w F W => ?_
     refine AK F W (Af F Aa Aa Aa Aa) Aa (Ak Aa) (A7 F Aa Aa).q fun a w F W => ?_
     refine ls F W Aa (Ax F Aa Aa Aa).q fun a w F W => ?_
     refine ls F W Aa (Ag F Aa).q fun a w F W => ?_
     rcases bxq (decide (x7 = 0)) with hb | hb
     ·
      have H := AV (Bg hb) H
      rw [hb] at F
      refine AK F W (Af F Aa Aa Aa Aa) Aa (Ak Aa) (De (v := Value.agg #[.int .i64 2, .slice none 0 0, .slice none 0 0]) X0 F Aa Aa Aa).q fun a w F W => ?_
      refine AK F W (Af F Aa Aa Aa Aa) Aa (Ak Aa) (Ao (v := Value.agg #[.int .i64 1, .int .i64 5, .int .i64 0, .int .i64 0, v1, .int .i64 0, .int .i64 0, .slice none 0 0]) 0 F Aa Aa Ka Aa).q fun a w F W => ?_
      refine KH (Af F Aa Aa Aa Aa) ?_
      obtain ⟨x8, h7, H⟩ := Am H
      refine ls F W Aa (A3 (v := Value.int .i64 x8) F H9 Aa (fun w W => MU any w (Value.slice none 0 0) (Value.slice none 0 0) (v1) (Value.slice none 0 0) (2, ([] : List (Int × Int × Int × Int × Int × Int)), ([] : List (Int × Int))) (Tr39.of (1, Tr36.of (5, 0, 0, ([Tr36.of (3, 5, 2, ([] : List Tr36)), Tr36.of (3, 1, 1, ([] : List Tr36))] : List Tr36)), 0, 0, ([] : List Tr39))) _ h7 Sl.nil Sl.nil (((I0 4 Aa) : D1 _ _ _ _ _ _) w W).nx Sl.nil)) fun a w F W => ?_
      refine AK F W (Af F Aa Aa Aa Aa) Aa (Ak Aa) (A7 F Aa Aa).q fun a w F W => ?_
      refine ls F W Aa (Ax F Aa Aa Aa).q fun a w F W => ?_
      refine ls F W Aa (Ae F Aa).q fun a w F W => ?_
      refine Ad (Ac ?_)
      have W := W.frontZ (i := 4) Aa Aa
      have W := W.frontM (i := 2) Aa Aa
      have W := W.frontM (i := 2) Aa Aa
      have W := W.frontM (i := 2) Aa Aa
      have W := W.sub (M' := [(b3, [.int .i64 1, .int .i64 5, .int .i64 0, .int .i64 0, v1, .int .i64 0, .int .i64 0, .slice none 0 0]), (b2, [.int .i64 3, .int .i64 1, .int .i64 1, .slice none 0 0]), (b1, [.int .i64 3, .int .i64 5, .int .i64 2, .slice none 0 0])]) (Z' := [DE v1 BF ([Tr36.of (3, 5, 2, ([] : List Tr36)), Tr36.of (3, 1, 1, ([] : List Tr36))] : List Tr36)]) (List.Sublist.refl _) (List.Sublist.cons_cons _ (List.nil_sublist _))
      exact ⟨_, H, F.re ⟨rfl, trivial⟩, W⟩
     have H := AR (Bf hb) H
     rw [hb] at F
     iterate 4 refine Dz F Aa Aa Aa Aa Aa Aa Aa fun a F => ?_
     refine ls F W Aa (As F Aa Aa Aa).q fun a w F W => ?_
     refine ls F W Aa (Ae F Aa).q fun a w F W => ?_
     refine Ad (Ac ?_)
     have W := W.frontZ (i := 4) Aa Aa
     have W := W.frontM (i := 2) Aa Aa
     have W := W.frontM (i := 2) Aa Aa
     have W := W.frontM (i := 2) Aa Aa
     have W := W.sub (M' := [(b3, [.int .i64 1, .int .i64 5, .int .i64 0, .int .i64 0, v1, .int .i64 0, .int .i64 0, .slice none 0 0]), (b2, [.int .i64 3, .int .i64 1, .int .i64 1, .slice none 0 0]), (b1, [.int .i64 3, .int .i64 5, .int .i64 2, .slice none 0 0])]) (Z' := [DE v1 BF ([Tr36.of (3, 5, 2, ([] : List Tr36)), Tr36.of (3, 1, 1, ([] : List Tr36))] : List Tr36)]) (List.Sublist.refl _) (List.Sublist.cons_cons _ (List.nil_sublist _))
     exact ⟨_, H, F.re ⟨rfl, trivial⟩, W⟩
    have H := AR (Bf hb) H
    rw [hb] at F
    iterate 4 refine Dz F Aa Aa Aa Aa Aa Aa Aa fun a F => ?_
    refine ls F W Aa (As F Aa Aa Aa).q fun a w F W => ?_
    refine ls F W Aa (Ag F Aa).q fun a w F W => ?_
    iterate 4 refine Dz F Aa Aa Aa Aa Aa Aa Aa fun a F => ?_
    refine ls F W Aa (As F Aa Aa Aa).q fun a w F W => ?_
    refine ls F W Aa (Ae F Aa).q fun a w F W => ?_
    refine Ad (Ac ?_)
    have W := W.frontZ (i := 4) Aa Aa
    have W := W.frontM (i := 2) Aa Aa
    have W := W.frontM (i := 2) Aa Aa
    have W := W.frontM (i := 2) Aa Aa
    have W := W.sub (M' := [(b3, [.int .i64 1, .int .i64 5, .int .i64 0, .int .i64 0, v1, .int .i64 0, .int .i64 0, .slice none 0 0]), (b2, [.int .i64 3, .int .i64 1, .int .i64 1, .slice none 0 0]), (b1, [.int .i64 3, .int .i64 5, .int .i64 2, .slice none 0 0])]) (Z' := [DE v1 BF ([Tr36.of (3, 5, 2, ([] : List Tr36)), Tr36.of (3, 1, 1, ([] : List Tr36))] : List Tr36)]) (List.Sublist.refl _) (List.Sublist.cons_cons _ (List.nil_sublist _))
    exact ⟨_, H, F.re ⟨rfl, trivial⟩, W⟩
   have H := AR (Bf hb) H
   rw [hb] at F
   iterate 3 refine Dz F Aa Aa Aa Aa Aa Aa Aa fun a F => ?_
   refine ls F W Aa (As F Aa Aa Aa).q fun a w F W => ?_
   refine ls F W Aa (Ag F Aa).q fun a w F W => ?_
   iterate 4 refine Dz F Aa Aa Aa Aa Aa Aa Aa fun a F => ?_
   refine ls F W Aa (As F Aa Aa Aa).q fun a w F W => ?_
   refine ls F W Aa (Ag F Aa).q fun a w F W => ?_
   iterate 4 refine Dz F Aa Aa Aa Aa Aa Aa Aa fun a F => ?_
   refine ls F W Aa (As F Aa Aa Aa).q fun a w F W => ?_
   refine ls F W Aa (Ae F Aa).q fun a w F W => ?_
   refine Ad (Ac ?_)
   have W := W.frontZ (i := 4) Aa Aa
   have W := W.frontM (i := 2) Aa Aa
   have W := W.frontM (i := 2) Aa Aa
   have W := W.frontM (i := 2) Aa Aa
   have W := W.sub (M' := [(b3, [.int .i64 1, .int .i64 5, .int .i64 0, .int .i64 0, v1, .int .i64 0, .int .i64 0, .slice none 0 0]), (b2, [.int .i64 3, .int .i64 1, .int .i64 1, .slice none 0 0]), (b1, [.int .i64 3, .int .i64 5, .int .i64 2, .slice none 0 0])]) (Z' := [DE v1 BF ([Tr36.of (3, 5, 2, ([] : List Tr36)), Tr36.of (3, 1, 1, ([] : List Tr36))] : List Tr36)]) (List.Sublist.refl _) (List.Sublist.cons_cons _ (List.nil_sublist _))
   exact ⟨_, H, F.re ⟨rfl, trivial⟩, W⟩
  have H := AR (Bf hb) H
  rw [hb] at F
  iterate 4 refine Dz F Aa Aa Aa Aa Aa Aa Aa fun a F => ?_
  refine ls F W Aa (As F Aa Aa Aa).q fun a w F W => ?_
  refine ls F W Aa (Ag F Aa).q fun a w F W => ?_
  iterate 3 refine Dz F Aa Aa Aa Aa Aa Aa Aa fun a F => ?_
  refine ls F W Aa (As F Aa Aa Aa).q fun a w F W => ?_
  refine ls F W Aa (Ag F Aa).q fun a w F W => ?_
  iterate 4 refine Dz F Aa Aa Aa Aa Aa Aa Aa fun a F => ?_
  refine ls F W Aa (As F Aa Aa Aa).q fun a w F W => ?_
  refine ls F W Aa (Ag F Aa).q fun a w F W => ?_
  iterate 4 refine Dz F Aa Aa Aa Aa Aa Aa Aa fun a F => ?_
  refine ls F W Aa (As F Aa Aa Aa).q fun a w F W => ?_
  refine ls F W Aa (Ae F Aa).q fun a w F W => ?_
  refine Ad (Ac ?_)
  have W := W.frontZ (i := 2) Aa Aa
  have W := W.frontM (i := 2) Aa Aa
  have W := W.frontM (i := 2) Aa Aa
  have W := W.frontM (i := 2) Aa Aa
  have W := W.sub (M' := [(b3, [.int .i64 1, .int .i64 5, .int .i64 0, .int .i64 0, v1, .int .i64 0, .int .i64 0, .slice none 0 0]), (b2, [.int .i64 3, .int .i64 1, .int .i64 1, .slice none 0 0]), (b1, [.int .i64 3, .int .i64 5, .int .i64 2, .slice none 0 0])]) (Z' := [DE v1 BF ([Tr36.of (3, 5, 2, ([] : List Tr36)), Tr36.of (3, 1, 1, ([] : List Tr36))] : List Tr36)]) (List.Sublist.refl _) (List.Sublist.cons_cons _ (List.nil_sublist _))
  exact ⟨_, H, F.re ⟨rfl, trivial⟩, W⟩
 rintro a w ⟨x1, hj, F, W⟩
 have hj := AP hj
 subst hj
 have H := K1
 refine Av ?_
 have H := AP H
 subst H
 refine AJ (.inl Aa) F W Aa (AB F Aa) ?_
 exact ⟨rfl, W.done⟩
theorem H7 : Has Tryz.prog 7 := ⟨fun args w => Aj Tryz.func7 rfl (by decide) args w⟩
theorem X2 : Has Tryz.prog 21 := ⟨fun args w => Aj Tryz.func21 rfl (by decide) args w⟩
def ED (fRec : Tr28 → Option Tr36) (p0 : Tr28) : (Int × List Tr36) → Option ((Int × List Tr36) ⊕ (List Tr36))
  | (x2, x3) => (if x2 < (p0.un.2.2.2.length : Int) then (ix p0.un.2.2.2 x2).bind fun x4 => (fRec x4).bind fun x5 => (Ig x3 ([x5] : List Tr36)).bind fun x6 => some (.inl (AG (x2 + 1), x6)) else some (.inr x3))
def F3 (fRec : Tr28 → Option Tr36) (p0 : Tr28) : Option Tr36 := (A6 (ED fRec p0) (0, [])).bind fun x1 => some (Tr36.of (p0.un.1, p0.un.2.1, p0.un.2.2.1, x1))
def E6 : Nat → Tr28 → Option Tr36
  | 0 => fun _ => none
  | n + 1 => F3 (E6 n)
def P8 (p0 : Tr28) : Option Tr36 := Jl fun n => E6 n p0
theorem Rz (fRec : Tr28 → Option Tr36) (ih : ∀ (Y : Nat → Prop) (w0 : World) (v1 : Value) (p0 : Tr28) (r : Tr36) (H : fRec p0 = some r) (h_v1 : Sl w0 (NX []) EC v1 p0.un.2.2.2), Calls Tryz.prog 21 #[.agg #[.int .i64 p0.un.1, .int .i64 p0.un.2.1, .int .i64 p0.un.2.2.1, v1]] w0 fun e w' => ∃ x : Value, e = .returned (.agg #[.int .i64 r.un.1, .int .i64 r.un.2.1, .int .i64 r.un.2.2.1, x]) ∧ Stw ⟨Y, [], w0⟩ [] [row (x) 36 BF r.un.2.2.2] w') (Y : Nat → Prop) (w0 : World) (v1 : Value) (p0 : Tr28) (r : Tr36) (H : F3 fRec p0 = some r) (h_v1 : Sl w0 (NX []) EC v1 p0.un.2.2.2) :
    Calls Tryz.prog 21 #[.agg #[.int .i64 p0.un.1, .int .i64 p0.un.2.1, .int .i64 p0.un.2.2.1, v1]] w0 fun e w' => ∃ x : Value, e = .returned (.agg #[.int .i64 r.un.1, .int .i64 r.un.2.1, .int .i64 r.un.2.2.1, x]) ∧ Stw ⟨Y, [], w0⟩ [] [row (x) 36 BF r.un.2.2.2] w' := by
 refine enter Tryz.func21 Aa Tryz.ntmps21 Aa fun a F => ?_
 have W := Stw.start Y w0
 obtain ⟨v2, h1, h_v1⟩ := h_v1.ex HJ
 unfold F3 at H
 refine Ah (Ab ?_)
 refine CS (cs := [.int .i64 p0.un.1, .int .i64 p0.un.2.1, .int .i64 p0.un.2.2.1, v1]) F W Aa Aa Aa fun b1 a w F W => ?_
 refine Co (cs := [.int .i64 0, .int .i64 0, .int .i64 0, .slice none 0 0]) F W Aa QT Aa fun b2 a w F W => ?_
 refine Ad (Ac (Ah (Ab ?_)))
 refine ls F W Aa (Ai DN Aa Aa Aa T3 F Aa 0 Aa).q fun a w F W => ?_
 refine ls F W Aa (Ao (v := Value.int .i64 p0.un.1) 1 F Aa Aa T3 Aa).q fun a w F W => ?_
 refine ls F W Aa (Ai DN Aa Aa Aa T3 F Aa 1 Aa).q fun a w F W => ?_
 refine ls F W Aa (Ao (v := Value.int .i64 p0.un.2.1) 1 F Aa Aa T3 Aa).q fun a w F W => ?_
 refine ls F W Aa (Ai DN Aa Aa Aa T3 F Aa 2 Aa).q fun a w F W => ?_
 refine ls F W Aa (Ao (v := Value.int .i64 p0.un.2.2.1) 1 F Aa Aa T3 Aa).q fun a w F W => ?_
 refine ls F W Aa (De (v := Value.agg #[.int .i64 p0.un.1, .int .i64 p0.un.2.1, .int .i64 p0.un.2.2.1, .slice none 0 0]) UB F Aa Aa Aa).q fun a w F W => ?_
 refine Co (cs := [.int .i64 0, .int .i64 0, .int .i64 0, .slice none 0 0]) F W Aa QT Aa fun b3 a w F W => ?_
 refine Be (vs := [.int .i64 p0.un.1, .int .i64 p0.un.2.1, .int .i64 p0.un.2.2.1, .slice none 0 0]) (M' := [(b3, [.int .i64 p0.un.1, .int .i64 p0.un.2.1, .int .i64 p0.un.2.2.1, .slice none 0 0]), (b2, [.int .i64 0, .int .i64 0, .int .i64 0, .slice none 0 0]), (b1, [.int .i64 p0.un.1, .int .i64 p0.un.2.1, .int .i64 p0.un.2.2.1, v1])]) 0 F W Aa Aa Aa ER Aa Aa Aa Aa Aa fun w W => ?_
 refine Ad (Ac ?_)
 obtain ⟨o1, G1, K1⟩ := Am H
 refine AO (fun a w => ∃ x1 : List Tr36, ∃ v3 : Value, some (x1) = some o1 ∧ Fr 31 [] [(2, .pointer (some ⟨b2, 0, none⟩)), (3, .pointer (some ⟨b3, 0, none⟩))] a ∧ Stw ⟨Y, [], w0⟩ [(b3, [.int .i64 p0.un.1, .int .i64 p0.un.2.1, .int .i64 p0.un.2.2.1, v3]), (b2, [.int .i64 0, .int .i64 0, .int .i64 0, .slice none 0 0]), (b1, [.int .i64 p0.un.1, .int .i64 p0.un.2.1, .int .i64 p0.un.2.2.1, v1])] [row v3 36 BF x1] w) ?_ ?_
 ·
  have H := G1
  refine Ah (Ab ?_)
  refine ls F W Aa (Ae F Aa).q fun a w F W => ?_
  refine Ad (Ac (Az ?_))
  have W := W.nilRow 36 BF
  have W := W.frontM (i := 2) Aa Aa
  have W := W.frontM (i := 2) Aa Aa
  have W := W.frontM (i := 2) Aa Aa
  refine BG H (fun s a w => ∃ v4 : Value, Fr 31 [] [(1, .pointer (some ⟨b1, 0, none⟩)), (2, .pointer (some ⟨b2, 0, none⟩)), (3, .pointer (some ⟨b3, 0, none⟩)), (4, .int .i64 s.1)] a ∧ Stw ⟨Y, [], w0⟩ [(b3, [.int .i64 p0.un.1, .int .i64 p0.un.2.1, .int .i64 p0.un.2.2.1, v4]), (b2, [.int .i64 0, .int .i64 0, .int .i64 0, .slice none 0 0]), (b1, [.int .i64 p0.un.1, .int .i64 p0.un.2.1, .int .i64 p0.un.2.2.1, v1])] [row v4 36 BF s.2] w) ⟨(Value.slice none 0 0), F.re ⟨rfl, Aa, Aa, Aa, trivial⟩, W⟩ fun s o a w H L2 hR => ?_
  obtain ⟨x2, x3⟩ := s
  obtain ⟨v4, F, W⟩ := hR
  have F : Fr 31 [] [(1, .pointer (some ⟨b1, 0, none⟩)), (2, .pointer (some ⟨b2, 0, none⟩)), (3, .pointer (some ⟨b3, 0, none⟩)), (4, .int .i64 x2)] a := F
  have W : Stw ⟨Y, [], w0⟩ [(b3, [.int .i64 p0.un.1, .int .i64 p0.un.2.1, .int .i64 p0.un.2.2.1, v4]), (b2, [.int .i64 0, .int .i64 0, .int .i64 0, .slice none 0 0]), (b1, [.int .i64 p0.un.1, .int .i64 p0.un.2.1, .int .i64 p0.un.2.2.1, v1])] [row v4 36 BF x3] w := W
  rw [ED] at H
  refine Ah (Ah (Ab ?_))
  refine ls F W Aa (Ag F Aa).q fun a w F W => ?_
  refine ls F W Aa (Ai DN Aa Aa Aa LB F Aa 3 Aa).q fun a w F W => ?_
  refine ls F W Aa (Ao (v := v1) 2 F Aa Aa LB Aa).q fun a w F W => ?_
  refine ls F W Aa (CA (r := EC) (l := p0.un.2.2.2) PI Aa F Aa (AH HJ h1 (Aq h_v1))).q fun a w F W => ?_
  refine ls F W Aa (Cu F Aa Aa).q fun a w F W => ?_
  refine Ad (Ac ?_)
  refine Aw F Aa (fun hb => ?_) fun hb => ?_
  ·
   have H := AV (Bg hb) H
   rw [hb] at F
   refine Ay (Ac (Ah (Az ?_)))
   obtain ⟨v5, h2, W⟩ := W.exR BV
   refine GP [(true, 0), (true, 1), (true, 2), (true, 3), (true, 4), (true, 5), (true, 6), (false, 7), (false, 8), (false, 9), (true, 10), (false, 11)] (CN ⟨Y, [], w0⟩ [(some 9, b3, [.int .i64 p0.un.1, .int .i64 p0.un.2.1, .int .i64 p0.un.2.2.1, v4]), (some 7, b1, [.int .i64 p0.un.1, .int .i64 p0.un.2.1, .int .i64 p0.un.2.2.1, v1])] []) (fun ch a d v w h => by cases d <;> exact h) MO (by kernel_rfl) W (fun w W => ⟨_, _, W, (Al (fun _ => (.head _)) (Al (fun _ => (.tail _ (.tail _ (.head _)))) AE)), AE⟩) fun w W => ?_
   refine BK (R := []) F Aa Aa (yC fun M Z hN hZ => Ai Dt Aa Aa Aa Kg F Aa 3 Aa) Aa Aa fun a F => ?_
   refine BK (R := [9]) F Aa Aa (yC fun M Z hN hZ => Fj (cs := [.int .i64 p0.un.1, .int .i64 p0.un.2.1, .int .i64 p0.un.2.2.1, v4]) (v := v4) F Aa (hN ((some 9), b3, [.int .i64 p0.un.1, .int .i64 p0.un.2.1, .int .i64 p0.un.2.2.1, v4]) (.head _) Aa) Kg Aa) (by kernel_rfl) Aa fun a F => ?_
   refine BK (R := []) F Aa Aa (yC fun M Z hN hZ => Ai DN Aa Aa Aa LB F Aa 3 Aa) Aa Aa fun a F => ?_
   refine BK (R := [7, 6, 5]) F Aa Aa (yC fun M Z hN hZ => Fj (cs := [.int .i64 p0.un.1, .int .i64 p0.un.2.1, .int .i64 p0.un.2.2.1, v1]) (v := v1) F Aa (hN ((some 7), b1, [.int .i64 p0.un.1, .int .i64 p0.un.2.1, .int .i64 p0.un.2.2.1, v1]) (.tail _ (.head _)) Aa) LB Aa) (by kernel_rfl) Aa fun a F => ?_
   refine BK (R := []) F Aa Aa (yC fun M Z hN hZ => Ag F Aa) Aa Aa fun a F => ?_
   obtain ⟨x4, h3, H⟩ := Am H
   obtain ⟨v6, h4, h5⟩ := Ez h1 h3
   have h6 : Kk v6 = [.int .i64 x4.un.1, .int .i64 x4.un.2.1, .int .i64 x4.un.2.2.1, (v6.2.2.2.1)] := congrArg (fun q : Tr28 => ([.int .i64 q.un.1, .int .i64 q.un.2.1, .int .i64 q.un.2.2.1, (v6.2.2.2.1)] : List Value)) h5
   refine BK (R := []) F Aa Aa (yC fun M Z hN hZ => AM (r := Mz) SH F Aa Aa (Aq h_v1) h4) Aa Aa fun a F => ?_
   refine BK (R := []) F Aa Aa (yC fun M Z hN hZ => AA (y := Value.agg #[.int .i64 x4.un.1, .int .i64 x4.un.2.1, .int .i64 x4.un.2.2.1, (v6.2.2.2.1)]) (j := 0) (i := x2) (enc := Kk) F Aa Aa (Aq h_v1) h4 QD Kh (by rw [h6]; rfl)) Aa Aa fun a F => ?_
   refine EK Aa ?_
   obtain ⟨x5, h7, H⟩ := Am H
   refine Bj (Ml := []) (Zl := []) (M := [(b3, [.int .i64 p0.un.1, .int .i64 p0.un.2.1, .int .i64 p0.un.2.2.1, v4]), (b2, [.int .i64 0, .int .i64 0, .int .i64 0, .slice none 0 0]), (b1, [.int .i64 p0.un.1, .int .i64 p0.un.2.1, .int .i64 p0.un.2.2.1, v1])]) (Z := [row v4 36 HW v5]) (β := Value) (rv := fun x => .agg #[.int .i64 x5.un.1, .int .i64 x5.un.2.1, .int .i64 x5.un.2.2.1, x]) (MM := fun x => []) (ZZ := fun x => [row x 36 BF x5.un.2.2.2]) F W X2 Aa Aa (fun hL => ih _ w ((v6.2.2.2.1)) x4 _ h7 ((Cn (Aq h_v1) h4 (AC.snd (AC.snd (AC.snd AC.here))) (congrArg (fun q : Tr28 => q.un.2.2.2) h5)) w W).nx) fun x a w F W => ?_
   obtain ⟨v7, rfl⟩ : ∃ y, y = x := ⟨x, rfl⟩
   have W : Stw ⟨Y, [], w0⟩ [(b3, [.int .i64 p0.un.1, .int .i64 p0.un.2.1, .int .i64 p0.un.2.2.1, v4]), (b2, [.int .i64 0, .int .i64 0, .int .i64 0, .slice none 0 0]), (b1, [.int .i64 p0.un.1, .int .i64 p0.un.2.1, .int .i64 p0.un.2.2.1, v1])] [row v7 36 BF x5.un.2.2.2, row v4 36 HW v5] w := W
   refine BP (N2 := []) (NZ2 := []) (N3 := [(some 9, b3, [.int .i64 p0.un.1, .int .i64 p0.un.2.1, .int .i64 p0.un.2.2.1, v4]), (some 7, b1, [.int .i64 p0.un.1, .int .i64 p0.un.2.1, .int .i64 p0.un.2.2.1, v1])]) (NZ3 := []) W Aa Aa (Al (fun _ => (.head _)) (Al (fun h => Ap (by kernel_rfl) h) AE)) AE ?_
   refine EK Aa ?_
   have W := W.freeze
   refine Ke (z := Value.agg #[.int .i64 0, .int .i64 0, .int .i64 0, .slice none 0 0]) (cs := [.int .i64 x5.un.1, .int .i64 x5.un.2.1, .int .i64 x5.un.2.2.1, v7]) BF ([x5] : List Tr36) F W Aa Ps QT Aa Aa Aa (CR Aa Aa Aa Fp) Aa Aa ⟨[Value.int .i64 x5.un.1, Value.int .i64 x5.un.2.1, Value.int .i64 x5.un.2.2.1, v7], _, Aa, (Tp.2 ⟨[Value.int .i64 x5.un.1], [Value.int .i64 x5.un.2.1, Value.int .i64 x5.un.2.2.1, v7], Aa, Aa, ⟨[Value.int .i64 x5.un.2.1], [Value.int .i64 x5.un.2.2.1, v7], Aa, Aa, ⟨[Value.int .i64 x5.un.2.2.1], [v7], Aa, Aa, ⟨_, Aa, (W.item (i := 0) Aa)⟩⟩⟩⟩), Aa⟩ fun v8 a w F W => ?_
   refine BP (N2 := []) (NZ2 := []) (N3 := [(some 9, b3, [.int .i64 p0.un.1, .int .i64 p0.un.2.1, .int .i64 p0.un.2.2.1, v4]), (some 7, b1, [.int .i64 p0.un.1, .int .i64 p0.un.2.1, .int .i64 p0.un.2.2.1, v1])]) (NZ3 := []) W Aa Aa (Al (fun _ => (.head _)) (Al (fun h => Ap (by kernel_rfl) h) AE)) AE ?_
   refine EK Aa ?_
   have W := W.frontZ (i := 2) Aa Aa
   have W := W.hideR BV h2
   obtain ⟨x6, h8, H⟩ := Am H
   refine Fm (r := BF) (i := 0) F W Aa Ps Aa Aa Aa Aa (GC W 1 Aa) h8 Aa fun v9 a w F W => ?_
   have W : Stw ⟨Y, [], w0⟩ [(b3, [.int .i64 p0.un.1, .int .i64 p0.un.2.1, .int .i64 p0.un.2.2.1, v4]), (b2, [.int .i64 0, .int .i64 0, .int .i64 0, .slice none 0 0]), (b1, [.int .i64 p0.un.1, .int .i64 p0.un.2.1, .int .i64 p0.un.2.2.1, v1])] [row v9 36 BF x6, row v8 36 BF ([x5] : List Tr36), DE v7 BF x5.un.2.2.2] w := W
   refine BP (N2 := []) (NZ2 := []) (N3 := [(some 9, b3, [.int .i64 p0.un.1, .int .i64 p0.un.2.1, .int .i64 p0.un.2.2.1, v4]), (some 7, b1, [.int .i64 p0.un.1, .int .i64 p0.un.2.1, .int .i64 p0.un.2.2.1, v1])]) (NZ3 := []) W Aa Aa (Al (fun h => Ap (by kernel_rfl) h) (Al (fun h => Ap (by kernel_rfl) h) AE)) AE ?_
   refine BK (R := []) F Aa Aa (yC fun M Z hN hZ => Ai Dt Aa Aa Aa Kg F Aa 3 Aa) Aa Aa fun a F => ?_
   refine EK Aa ?_
   refine Qr (M' := [(b3, [.int .i64 p0.un.1, .int .i64 p0.un.2.1, .int .i64 p0.un.2.2.1, v9]), (b2, [.int .i64 0, .int .i64 0, .int .i64 0, .slice none 0 0]), (b1, [.int .i64 p0.un.1, .int .i64 p0.un.2.1, .int .i64 p0.un.2.2.1, v1])]) 0 F W Aa Aa Aa Kg (W.one (k := 0) Aa) Aa Aa fun w W => ?_
   refine BP (N2 := []) (NZ2 := []) (N3 := [(some 9, b3, [.int .i64 p0.un.1, .int .i64 p0.un.2.1, .int .i64 p0.un.2.2.1, v4]), (some 7, b1, [.int .i64 p0.un.1, .int .i64 p0.un.2.1, .int .i64 p0.un.2.2.1, v1])]) (NZ3 := []) W Aa Aa (Al (fun h => Ap (by kernel_rfl) h) (Al (fun h => Ap (by kernel_rfl) h) AE)) AE ?_
   refine HG (AU (Ac (Ab ?_)))
   refine ls F W Aa (Ag F Aa).q fun a w F W => ?_
   refine ls F W Aa (BL F Aa Aa Aa).q fun a w F W => ?_
   refine ls F W Aa (Ae F Aa).q fun a w F W => ?_
   refine Ad (Ac ?_)
   have W := W.frontM (i := 2) Aa Aa
   have W := W.frontM (i := 2) Aa Aa
   have W := W.frontM (i := 2) Aa Aa
   have W := W.sub (M' := [(b3, [.int .i64 p0.un.1, .int .i64 p0.un.2.1, .int .i64 p0.un.2.2.1, v9]), (b2, [.int .i64 0, .int .i64 0, .int .i64 0, .slice none 0 0]), (b1, [.int .i64 p0.un.1, .int .i64 p0.un.2.1, .int .i64 p0.un.2.2.1, v1])]) (Z' := [row v9 36 BF x6]) (List.Sublist.refl _) (List.Sublist.cons_cons _ (List.nil_sublist _))
   exact ⟨_, H, (v9), F.re ⟨rfl, Aa, Aa, Aa, trivial⟩, W⟩
  have H := AR (Bf hb) H
  rw [hb] at F
  refine Bz ?_
  iterate 2 refine BS ?_
  refine Bx (Ac ?_)
  have W := W.frontM (i := 2) Aa Aa
  have W := W.frontM (i := 2) Aa Aa
  have W := W.frontM (i := 2) Aa Aa
  have H := L2 _ H
  exact ⟨_, (v4), H, F.re ⟨rfl, Aa, trivial⟩, W⟩
 rintro a w ⟨x1, v3, hj, F, W⟩
 have hj := AP hj
 subst hj
 have H := K1
 refine Ah (Ab ?_)
 refine ls F W Aa (Ao (v := Value.agg #[.int .i64 p0.un.1, .int .i64 p0.un.2.1, .int .i64 p0.un.2.2.1, v3]) 0 F Aa Aa ER Aa).q fun a w F W => ?_
 refine Be (vs := [.int .i64 p0.un.1, .int .i64 p0.un.2.1, .int .i64 p0.un.2.2.1, v3]) (M' := [(b3, [.int .i64 p0.un.1, .int .i64 p0.un.2.1, .int .i64 p0.un.2.2.1, v3]), (b2, [.int .i64 p0.un.1, .int .i64 p0.un.2.1, .int .i64 p0.un.2.2.1, v3]), (b1, [.int .i64 p0.un.1, .int .i64 p0.un.2.1, .int .i64 p0.un.2.2.1, v1])]) 1 F W Aa Aa Aa ER Aa Aa Aa (An Aa (An Aa (An Aa (An (W.one (k := 0) Aa) Cq)))) Aa fun w W => ?_
 refine Ad (Ac (Av ?_))
 have H := AP H
 subst H
 refine AJ (.inl Aa) F W Aa (Dy 1 F Aa Aa ER Aa) ?_
 have W := W.sub (M' := []) (Z' := [row v3 36 BF x1]) (List.nil_sublist _) (List.Sublist.refl _)
 exact ⟨(v3), Aa, W⟩
theorem Sd : ∀ (n : Nat) (Y : Nat → Prop) (w0 : World) (v1 : Value) (p0 : Tr28) (r : Tr36) (H : E6 n p0 = some r) (h_v1 : Sl w0 (NX []) EC v1 p0.un.2.2.2), Calls Tryz.prog 21 #[.agg #[.int .i64 p0.un.1, .int .i64 p0.un.2.1, .int .i64 p0.un.2.2.1, v1]] w0 fun e w' => ∃ x : Value, e = .returned (.agg #[.int .i64 r.un.1, .int .i64 r.un.2.1, .int .i64 r.un.2.2.1, x]) ∧ Stw ⟨Y, [], w0⟩ [] [row (x) 36 BF r.un.2.2.2] w' := by
  intro n
  induction n with
  | zero => intro Y w0 v1 p0 r H; exact nomatch H
  | succ n ih => intro Y w0 v1 p0 r H h_v1; exact Rz (E6 n) ih Y w0 v1 p0 r H h_v1
theorem SD (Y : Nat → Prop) (w0 : World) (v1 : Value) (p0 : Tr28) (r : Tr36) (H : P8 p0 = some r) (h_v1 : Sl w0 (NX []) EC v1 p0.un.2.2.2) :
    Calls Tryz.prog 21 #[.agg #[.int .i64 p0.un.1, .int .i64 p0.un.2.1, .int .i64 p0.un.2.2.1, v1]] w0 fun e w' => ∃ x : Value, e = .returned (.agg #[.int .i64 r.un.1, .int .i64 r.un.2.1, .int .i64 r.un.2.2.1, x]) ∧ Stw ⟨Y, [], w0⟩ [] [row (x) 36 BF r.un.2.2.2] w' := by
  obtain ⟨n, H⟩ := Dd H
  exact Sd n Y w0 v1 p0 r H h_v1
theorem Vl : (Tryz.prog.info? 28).bind (·.zero) = some (.agg #[.int .i64 0, .int .i64 0, .int .i64 0, .slice none 0 0]) := by kernel_rfl
theorem VI : Bt Tryz.prog 28 [.int .i64 0, .int .i64 0, .int .i64 0, .slice none 0 0] [(0, 1), (1, 1), (2, 1), (3, 1)] := ⟨⟨.agg #[.int .i64 0, .int .i64 0, .int .i64 0, .slice none 0 0], by kernel_rfl, rfl⟩, ⟨_, DN, fun w => by kernel_rfl⟩⟩
theorem XN : Has Tryz.prog 24 := ⟨fun args w => Aj Tryz.func24 rfl (by decide) args w⟩
def DA (fRec : Tr36 → Option Tr28) (p0 : Tr36) : (Int × List Tr28) → Option ((Int × List Tr28) ⊕ (List Tr28))
  | (x2, x3) => (if x2 < (p0.un.2.2.2.length : Int) then (ix p0.un.2.2.2 x2).bind fun x4 => (fRec x4).bind fun x5 => (Ig x3 ([x5] : List Tr28)).bind fun x6 => some (.inl (AG (x2 + 1), x6)) else some (.inr x3))
def ES (fRec : Tr36 → Option Tr28) (p0 : Tr36) : Option Tr28 := (A6 (DA fRec p0) (0, [])).bind fun x1 => some (Tr28.of (p0.un.1, p0.un.2.1, p0.un.2.2.1, x1))
def DZ : Nat → Tr36 → Option Tr28
  | 0 => fun _ => none
  | n + 1 => ES (DZ n)
def M9 (p0 : Tr36) : Option Tr28 := Jl fun n => DZ n p0
theorem Pj (fRec : Tr36 → Option Tr28) (ih : ∀ (Y : Nat → Prop) (w0 : World) (v1 : Value) (p0 : Tr36) (r : Tr28) (H : fRec p0 = some r) (h_v1 : Sl w0 (NX []) BF v1 p0.un.2.2.2), Calls Tryz.prog 24 #[.agg #[.int .i64 p0.un.1, .int .i64 p0.un.2.1, .int .i64 p0.un.2.2.1, v1]] w0 fun e w' => ∃ x : Value, e = .returned (.agg #[.int .i64 r.un.1, .int .i64 r.un.2.1, .int .i64 r.un.2.2.1, x]) ∧ Stw ⟨Y, [], w0⟩ [] [row (x) 28 EC r.un.2.2.2] w') (Y : Nat → Prop) (w0 : World) (v1 : Value) (p0 : Tr36) (r : Tr28) (H : ES fRec p0 = some r) (h_v1 : Sl w0 (NX []) BF v1 p0.un.2.2.2) :
    Calls Tryz.prog 24 #[.agg #[.int .i64 p0.un.1, .int .i64 p0.un.2.1, .int .i64 p0.un.2.2.1, v1]] w0 fun e w' => ∃ x : Value, e = .returned (.agg #[.int .i64 r.un.1, .int .i64 r.un.2.1, .int .i64 r.un.2.2.1, x]) ∧ Stw ⟨Y, [], w0⟩ [] [row (x) 28 EC r.un.2.2.2] w' := by
 refine enter Tryz.func24 Aa Tryz.ntmps24 Aa fun a F => ?_
 have W := Stw.start Y w0
 obtain ⟨v2, h1, h_v1⟩ := h_v1.ex BV
 unfold ES at H
 refine Ah (Ab ?_)
 refine CS (cs := [.int .i64 p0.un.1, .int .i64 p0.un.2.1, .int .i64 p0.un.2.2.1, v1]) F W Aa Aa Aa fun b1 a w F W => ?_
 refine Co (cs := [.int .i64 0, .int .i64 0, .int .i64 0, .slice none 0 0]) F W Aa Vl Aa fun b2 a w F W => ?_
 refine Ad (Ac (Ah (Ab ?_)))
 refine ls F W Aa (Ai Dt Aa Aa Aa T3 F Aa 0 Aa).q fun a w F W => ?_
 refine ls F W Aa (Ao (v := Value.int .i64 p0.un.1) 1 F Aa Aa T3 Aa).q fun a w F W => ?_
 refine ls F W Aa (Ai Dt Aa Aa Aa T3 F Aa 1 Aa).q fun a w F W => ?_
 refine ls F W Aa (Ao (v := Value.int .i64 p0.un.2.1) 1 F Aa Aa T3 Aa).q fun a w F W => ?_
 refine ls F W Aa (Ai Dt Aa Aa Aa T3 F Aa 2 Aa).q fun a w F W => ?_
 refine ls F W Aa (Ao (v := Value.int .i64 p0.un.2.2.1) 1 F Aa Aa T3 Aa).q fun a w F W => ?_
 refine ls F W Aa (De (v := Value.agg #[.int .i64 p0.un.1, .int .i64 p0.un.2.1, .int .i64 p0.un.2.2.1, .slice none 0 0]) VI F Aa Aa Aa).q fun a w F W => ?_
 refine Co (cs := [.int .i64 0, .int .i64 0, .int .i64 0, .slice none 0 0]) F W Aa Vl Aa fun b3 a w F W => ?_
 refine Be (vs := [.int .i64 p0.un.1, .int .i64 p0.un.2.1, .int .i64 p0.un.2.2.1, .slice none 0 0]) (M' := [(b3, [.int .i64 p0.un.1, .int .i64 p0.un.2.1, .int .i64 p0.un.2.2.1, .slice none 0 0]), (b2, [.int .i64 0, .int .i64 0, .int .i64 0, .slice none 0 0]), (b1, [.int .i64 p0.un.1, .int .i64 p0.un.2.1, .int .i64 p0.un.2.2.1, v1])]) 0 F W Aa Aa Aa Kh Aa Aa Aa Aa Aa fun w W => ?_
 refine Ad (Ac ?_)
 obtain ⟨o1, G1, K1⟩ := Am H
 refine AO (fun a w => ∃ x1 : List Tr28, ∃ v3 : Value, some (x1) = some o1 ∧ Fr 31 [] [(2, .pointer (some ⟨b2, 0, none⟩)), (3, .pointer (some ⟨b3, 0, none⟩))] a ∧ Stw ⟨Y, [], w0⟩ [(b3, [.int .i64 p0.un.1, .int .i64 p0.un.2.1, .int .i64 p0.un.2.2.1, v3]), (b2, [.int .i64 0, .int .i64 0, .int .i64 0, .slice none 0 0]), (b1, [.int .i64 p0.un.1, .int .i64 p0.un.2.1, .int .i64 p0.un.2.2.1, v1])] [row v3 28 EC x1] w) ?_ ?_
 ·
  have H := G1
  refine Ah (Ab ?_)
  refine ls F W Aa (Ae F Aa).q fun a w F W => ?_
  refine Ad (Ac (Az ?_))
  have W := W.nilRow 28 EC
  have W := W.frontM (i := 2) Aa Aa
  have W := W.frontM (i := 2) Aa Aa
  have W := W.frontM (i := 2) Aa Aa
  refine BG H (fun s a w => ∃ v4 : Value, Fr 31 [] [(1, .pointer (some ⟨b1, 0, none⟩)), (2, .pointer (some ⟨b2, 0, none⟩)), (3, .pointer (some ⟨b3, 0, none⟩)), (4, .int .i64 s.1)] a ∧ Stw ⟨Y, [], w0⟩ [(b3, [.int .i64 p0.un.1, .int .i64 p0.un.2.1, .int .i64 p0.un.2.2.1, v4]), (b2, [.int .i64 0, .int .i64 0, .int .i64 0, .slice none 0 0]), (b1, [.int .i64 p0.un.1, .int .i64 p0.un.2.1, .int .i64 p0.un.2.2.1, v1])] [row v4 28 EC s.2] w) ⟨(Value.slice none 0 0), F.re ⟨rfl, Aa, Aa, Aa, trivial⟩, W⟩ fun s o a w H L2 hR => ?_
  obtain ⟨x2, x3⟩ := s
  obtain ⟨v4, F, W⟩ := hR
  have F : Fr 31 [] [(1, .pointer (some ⟨b1, 0, none⟩)), (2, .pointer (some ⟨b2, 0, none⟩)), (3, .pointer (some ⟨b3, 0, none⟩)), (4, .int .i64 x2)] a := F
  have W : Stw ⟨Y, [], w0⟩ [(b3, [.int .i64 p0.un.1, .int .i64 p0.un.2.1, .int .i64 p0.un.2.2.1, v4]), (b2, [.int .i64 0, .int .i64 0, .int .i64 0, .slice none 0 0]), (b1, [.int .i64 p0.un.1, .int .i64 p0.un.2.1, .int .i64 p0.un.2.2.1, v1])] [row v4 28 EC x3] w := W
  rw [DA] at H
  refine Ah (Ah (Ab ?_))
  refine ls F W Aa (Ag F Aa).q fun a w F W => ?_
  refine ls F W Aa (Ai Dt Aa Aa Aa Kg F Aa 3 Aa).q fun a w F W => ?_
  refine ls F W Aa (Ao (v := v1) 2 F Aa Aa Kg Aa).q fun a w F W => ?_
  refine ls F W Aa (CA (r := BF) (l := p0.un.2.2.2) JW Aa F Aa (AH BV h1 (Aq h_v1))).q fun a w F W => ?_
  refine ls F W Aa (Cu F Aa Aa).q fun a w F W => ?_
  refine Ad (Ac ?_)
  refine Aw F Aa (fun hb => ?_) fun hb => ?_
  ·
   have H := AV (Bg hb) H
   rw [hb] at F
   refine Ay (Ac (Ah (Az ?_)))
   obtain ⟨v5, h2, W⟩ := W.exR HJ
   refine GP [(true, 0), (true, 1), (true, 2), (true, 3), (true, 4), (true, 5), (true, 6), (false, 7), (false, 8), (false, 9), (true, 10), (false, 11)] (CN ⟨Y, [], w0⟩ [(some 9, b3, [.int .i64 p0.un.1, .int .i64 p0.un.2.1, .int .i64 p0.un.2.2.1, v4]), (some 7, b1, [.int .i64 p0.un.1, .int .i64 p0.un.2.1, .int .i64 p0.un.2.2.1, v1])] []) (fun ch a d v w h => by cases d <;> exact h) MO (by kernel_rfl) W (fun w W => ⟨_, _, W, (Al (fun _ => (.head _)) (Al (fun _ => (.tail _ (.tail _ (.head _)))) AE)), AE⟩) fun w W => ?_
   refine BK (R := []) F Aa Aa (yC fun M Z hN hZ => Ai DN Aa Aa Aa LB F Aa 3 Aa) Aa Aa fun a F => ?_
   refine BK (R := [9]) F Aa Aa (yC fun M Z hN hZ => Fj (cs := [.int .i64 p0.un.1, .int .i64 p0.un.2.1, .int .i64 p0.un.2.2.1, v4]) (v := v4) F Aa (hN ((some 9), b3, [.int .i64 p0.un.1, .int .i64 p0.un.2.1, .int .i64 p0.un.2.2.1, v4]) (.head _) Aa) LB Aa) (by kernel_rfl) Aa fun a F => ?_
   refine BK (R := []) F Aa Aa (yC fun M Z hN hZ => Ai Dt Aa Aa Aa Kg F Aa 3 Aa) Aa Aa fun a F => ?_
   refine BK (R := [7, 6, 5]) F Aa Aa (yC fun M Z hN hZ => Fj (cs := [.int .i64 p0.un.1, .int .i64 p0.un.2.1, .int .i64 p0.un.2.2.1, v1]) (v := v1) F Aa (hN ((some 7), b1, [.int .i64 p0.un.1, .int .i64 p0.un.2.1, .int .i64 p0.un.2.2.1, v1]) (.tail _ (.head _)) Aa) Kg Aa) (by kernel_rfl) Aa fun a F => ?_
   refine BK (R := []) F Aa Aa (yC fun M Z hN hZ => Ag F Aa) Aa Aa fun a F => ?_
   obtain ⟨x4, h3, H⟩ := Am H
   obtain ⟨v6, h4, h5⟩ := Ez h1 h3
   have h6 : Hl v6 = [.int .i64 x4.un.1, .int .i64 x4.un.2.1, .int .i64 x4.un.2.2.1, (v6.2.2.2.1)] := congrArg (fun q : Tr36 => ([.int .i64 q.un.1, .int .i64 q.un.2.1, .int .i64 q.un.2.2.1, (v6.2.2.2.1)] : List Value)) h5
   refine BK (R := []) F Aa Aa (yC fun M Z hN hZ => AM (r := HW) Ps F Aa Aa (Aq h_v1) h4) Aa Aa fun a F => ?_
   refine BK (R := []) F Aa Aa (yC fun M Z hN hZ => AA (y := Value.agg #[.int .i64 x4.un.1, .int .i64 x4.un.2.1, .int .i64 x4.un.2.2.1, (v6.2.2.2.1)]) (j := 0) (i := x2) (enc := Hl) F Aa Aa (Aq h_v1) h4 MD ER (by rw [h6]; rfl)) Aa Aa fun a F => ?_
   refine EK Aa ?_
   obtain ⟨x5, h7, H⟩ := Am H
   refine Bj (Ml := []) (Zl := []) (M := [(b3, [.int .i64 p0.un.1, .int .i64 p0.un.2.1, .int .i64 p0.un.2.2.1, v4]), (b2, [.int .i64 0, .int .i64 0, .int .i64 0, .slice none 0 0]), (b1, [.int .i64 p0.un.1, .int .i64 p0.un.2.1, .int .i64 p0.un.2.2.1, v1])]) (Z := [row v4 28 Mz v5]) (β := Value) (rv := fun x => .agg #[.int .i64 x5.un.1, .int .i64 x5.un.2.1, .int .i64 x5.un.2.2.1, x]) (MM := fun x => []) (ZZ := fun x => [row x 28 EC x5.un.2.2.2]) F W XN Aa Aa (fun hL => ih _ w ((v6.2.2.2.1)) x4 _ h7 ((Cn (Aq h_v1) h4 (AC.snd (AC.snd (AC.snd AC.here))) (congrArg (fun q : Tr36 => q.un.2.2.2) h5)) w W).nx) fun x a w F W => ?_
   obtain ⟨v7, rfl⟩ : ∃ y, y = x := ⟨x, rfl⟩
   have W : Stw ⟨Y, [], w0⟩ [(b3, [.int .i64 p0.un.1, .int .i64 p0.un.2.1, .int .i64 p0.un.2.2.1, v4]), (b2, [.int .i64 0, .int .i64 0, .int .i64 0, .slice none 0 0]), (b1, [.int .i64 p0.un.1, .int .i64 p0.un.2.1, .int .i64 p0.un.2.2.1, v1])] [row v7 28 EC x5.un.2.2.2, row v4 28 Mz v5] w := W
   refine BP (N2 := []) (NZ2 := []) (N3 := [(some 9, b3, [.int .i64 p0.un.1, .int .i64 p0.un.2.1, .int .i64 p0.un.2.2.1, v4]), (some 7, b1, [.int .i64 p0.un.1, .int .i64 p0.un.2.1, .int .i64 p0.un.2.2.1, v1])]) (NZ3 := []) W Aa Aa (Al (fun _ => (.head _)) (Al (fun h => Ap (by kernel_rfl) h) AE)) AE ?_
   refine EK Aa ?_
   have W := W.freeze
   refine Ke (z := Value.agg #[.int .i64 0, .int .i64 0, .int .i64 0, .slice none 0 0]) (cs := [.int .i64 x5.un.1, .int .i64 x5.un.2.1, .int .i64 x5.un.2.2.1, v7]) EC ([x5] : List Tr28) F W Aa SH Vl Aa Aa Aa (CR Aa Aa Aa Fp) Aa Aa ⟨[Value.int .i64 x5.un.1, Value.int .i64 x5.un.2.1, Value.int .i64 x5.un.2.2.1, v7], _, Aa, (UW.2 ⟨[Value.int .i64 x5.un.1], [Value.int .i64 x5.un.2.1, Value.int .i64 x5.un.2.2.1, v7], Aa, Aa, ⟨[Value.int .i64 x5.un.2.1], [Value.int .i64 x5.un.2.2.1, v7], Aa, Aa, ⟨[Value.int .i64 x5.un.2.2.1], [v7], Aa, Aa, ⟨_, Aa, (W.item (i := 0) Aa)⟩⟩⟩⟩), Aa⟩ fun v8 a w F W => ?_
   refine BP (N2 := []) (NZ2 := []) (N3 := [(some 9, b3, [.int .i64 p0.un.1, .int .i64 p0.un.2.1, .int .i64 p0.un.2.2.1, v4]), (some 7, b1, [.int .i64 p0.un.1, .int .i64 p0.un.2.1, .int .i64 p0.un.2.2.1, v1])]) (NZ3 := []) W Aa Aa (Al (fun _ => (.head _)) (Al (fun h => Ap (by kernel_rfl) h) AE)) AE ?_
   refine EK Aa ?_
   have W := W.frontZ (i := 2) Aa Aa
   have W := W.hideR HJ h2
   obtain ⟨x6, h8, H⟩ := Am H
   refine Fm (r := EC) (i := 0) F W Aa SH Aa Aa Aa Aa (GC W 1 Aa) h8 Aa fun v9 a w F W => ?_
   have W : Stw ⟨Y, [], w0⟩ [(b3, [.int .i64 p0.un.1, .int .i64 p0.un.2.1, .int .i64 p0.un.2.2.1, v4]), (b2, [.int .i64 0, .int .i64 0, .int .i64 0, .slice none 0 0]), (b1, [.int .i64 p0.un.1, .int .i64 p0.un.2.1, .int .i64 p0.un.2.2.1, v1])] [row v9 28 EC x6, row v8 28 EC ([x5] : List Tr28), DE v7 EC x5.un.2.2.2] w := W
   refine BP (N2 := []) (NZ2 := []) (N3 := [(some 9, b3, [.int .i64 p0.un.1, .int .i64 p0.un.2.1, .int .i64 p0.un.2.2.1, v4]), (some 7, b1, [.int .i64 p0.un.1, .int .i64 p0.un.2.1, .int .i64 p0.un.2.2.1, v1])]) (NZ3 := []) W Aa Aa (Al (fun h => Ap (by kernel_rfl) h) (Al (fun h => Ap (by kernel_rfl) h) AE)) AE ?_
   refine BK (R := []) F Aa Aa (yC fun M Z hN hZ => Ai DN Aa Aa Aa LB F Aa 3 Aa) Aa Aa fun a F => ?_
   refine EK Aa ?_
   refine Qr (M' := [(b3, [.int .i64 p0.un.1, .int .i64 p0.un.2.1, .int .i64 p0.un.2.2.1, v9]), (b2, [.int .i64 0, .int .i64 0, .int .i64 0, .slice none 0 0]), (b1, [.int .i64 p0.un.1, .int .i64 p0.un.2.1, .int .i64 p0.un.2.2.1, v1])]) 0 F W Aa Aa Aa LB (W.one (k := 0) Aa) Aa Aa fun w W => ?_
   refine BP (N2 := []) (NZ2 := []) (N3 := [(some 9, b3, [.int .i64 p0.un.1, .int .i64 p0.un.2.1, .int .i64 p0.un.2.2.1, v4]), (some 7, b1, [.int .i64 p0.un.1, .int .i64 p0.un.2.1, .int .i64 p0.un.2.2.1, v1])]) (NZ3 := []) W Aa Aa (Al (fun h => Ap (by kernel_rfl) h) (Al (fun h => Ap (by kernel_rfl) h) AE)) AE ?_
   refine HG (AU (Ac (Ab ?_)))
   refine ls F W Aa (Ag F Aa).q fun a w F W => ?_
   refine ls F W Aa (BL F Aa Aa Aa).q fun a w F W => ?_
   refine ls F W Aa (Ae F Aa).q fun a w F W => ?_
   refine Ad (Ac ?_)
   have W := W.frontM (i := 2) Aa Aa
   have W := W.frontM (i := 2) Aa Aa
   have W := W.frontM (i := 2) Aa Aa
   have W := W.sub (M' := [(b3, [.int .i64 p0.un.1, .int .i64 p0.un.2.1, .int .i64 p0.un.2.2.1, v9]), (b2, [.int .i64 0, .int .i64 0, .int .i64 0, .slice none 0 0]), (b1, [.int .i64 p0.un.1, .int .i64 p0.un.2.1, .int .i64 p0.un.2.2.1, v1])]) (Z' := [row v9 28 EC x6]) (List.Sublist.refl _) (List.Sublist.cons_cons _ (List.nil_sublist _))
   exact ⟨_, H, (v9), F.re ⟨rfl, Aa, Aa, Aa, trivial⟩, W⟩
  have H := AR (Bf hb) H
  rw [hb] at F
  refine Bz ?_
  iterate 2 refine BS ?_
  refine Bx (Ac ?_)
  have W := W.frontM (i := 2) Aa Aa
  have W := W.frontM (i := 2) Aa Aa
  have W := W.frontM (i := 2) Aa Aa
  have H := L2 _ H
  exact ⟨_, (v4), H, F.re ⟨rfl, Aa, trivial⟩, W⟩
 rintro a w ⟨x1, v3, hj, F, W⟩
 have hj := AP hj
 subst hj
 have H := K1
 refine Ah (Ab ?_)
 refine ls F W Aa (Ao (v := Value.agg #[.int .i64 p0.un.1, .int .i64 p0.un.2.1, .int .i64 p0.un.2.2.1, v3]) 0 F Aa Aa Kh Aa).q fun a w F W => ?_
 refine Be (vs := [.int .i64 p0.un.1, .int .i64 p0.un.2.1, .int .i64 p0.un.2.2.1, v3]) (M' := [(b3, [.int .i64 p0.un.1, .int .i64 p0.un.2.1, .int .i64 p0.un.2.2.1, v3]), (b2, [.int .i64 p0.un.1, .int .i64 p0.un.2.1, .int .i64 p0.un.2.2.1, v3]), (b1, [.int .i64 p0.un.1, .int .i64 p0.un.2.1, .int .i64 p0.un.2.2.1, v1])]) 1 F W Aa Aa Aa Kh Aa Aa Aa (An Aa (An Aa (An Aa (An (W.one (k := 0) Aa) Cq)))) Aa fun w W => ?_
 refine Ad (Ac (Av ?_))
 have H := AP H
 subst H
 refine AJ (.inl Aa) F W Aa (Dy 1 F Aa Aa Kh Aa) ?_
 have W := W.sub (M' := []) (Z' := [row v3 28 EC x1]) (List.nil_sublist _) (List.Sublist.refl _)
 exact ⟨(v3), Aa, W⟩
theorem QI : ∀ (n : Nat) (Y : Nat → Prop) (w0 : World) (v1 : Value) (p0 : Tr36) (r : Tr28) (H : DZ n p0 = some r) (h_v1 : Sl w0 (NX []) BF v1 p0.un.2.2.2), Calls Tryz.prog 24 #[.agg #[.int .i64 p0.un.1, .int .i64 p0.un.2.1, .int .i64 p0.un.2.2.1, v1]] w0 fun e w' => ∃ x : Value, e = .returned (.agg #[.int .i64 r.un.1, .int .i64 r.un.2.1, .int .i64 r.un.2.2.1, x]) ∧ Stw ⟨Y, [], w0⟩ [] [row (x) 28 EC r.un.2.2.2] w' := by
  intro n
  induction n with
  | zero => intro Y w0 v1 p0 r H; exact nomatch H
  | succ n ih => intro Y w0 v1 p0 r H h_v1; exact Pj (DZ n) ih Y w0 v1 p0 r H h_v1
theorem RH (Y : Nat → Prop) (w0 : World) (v1 : Value) (p0 : Tr36) (r : Tr28) (H : M9 p0 = some r) (h_v1 : Sl w0 (NX []) BF v1 p0.un.2.2.2) :
    Calls Tryz.prog 24 #[.agg #[.int .i64 p0.un.1, .int .i64 p0.un.2.1, .int .i64 p0.un.2.2.1, v1]] w0 fun e w' => ∃ x : Value, e = .returned (.agg #[.int .i64 r.un.1, .int .i64 r.un.2.1, .int .i64 r.un.2.2.1, x]) ∧ Stw ⟨Y, [], w0⟩ [] [row (x) 28 EC r.un.2.2.2] w' := by
  obtain ⟨n, H⟩ := Dd H
  exact QI n Y w0 v1 p0 r H h_v1
end
end Go.Proofs.YtgoifghhcekahaaGreatDoor
