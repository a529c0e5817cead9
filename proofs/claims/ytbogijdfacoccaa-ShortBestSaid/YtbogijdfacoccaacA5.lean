/- The functions of layer 19, FD. Conditions: none. -/
import Derived.Test.YtbogijdfacoccaacA4
namespace Go.Proofs.Ytbogijdfacoccaa
open Go Go.RowKit
set_option linter.unusedVariables false
set_option linter.unusedSimpArgs false
set_option maxRecDepth 20000
noncomputable def Cb (p0 : Int × (List (Int × Int × Int × Int × Int × Int)) × (List (Int × Int))) (p1 : Int) (p2 : Int) : Int → Option (Int ⊕ (Unit ⊕ (Int × Int × Int × Bool)))
  | x1 => (if x1 < (p0.2.1.length : Int) then (ix p0.2.1 x1).bind fun x2 => (if p1 = x2.1 ∧ p2 = x2.2.1 then some (.inr (.inr (x2.2.2.1, x2.2.2.2.1, x1, true))) else (if p1 = x2.2.2.1 ∧ p2 = x2.2.2.2.1 then some (.inr (.inr (x2.1, x2.2.1, x1, true))) else some (.inl (BN (x1 + 1))))) else some (.inr (.inl ())))
noncomputable def Gm (p0 : Int × (List (Int × Int × Int × Int × Int × Int)) × (List (Int × Int))) (p1 : Int) (p2 : Int) : Option (Int × Int × Int × Bool) := Ii (AM (Cb p0 p1 p2) 0) fun _ => some (0, 0, 0, false)
theorem QC (Y : Nat → Prop) (w0 : World) (v : Value) (h1 : v.oneCell' = true) : Calls Try.prog 44 [v].toArray w0 fun e w' => ∃ b, e = .returned (.func (.func 62) #[] #[.pointer (some ⟨b, 0, none⟩)]) ∧ Stw ⟨Y, [], w0⟩ [(b, [v])] [] w' := by
 refine enter Try.func44 Aa Try.ntmps44 Aa fun a F => ?_
 have W := Stw.start Y w0
 refine Ah (Ab ?_)
 refine DX (cs := [v]) F W Aa Aa (EP h1) fun b1 a w F W => ?_
 refine ls F W Aa (Ae F Aa).q fun a w F W => ?_
 refine Ad (Ac (Ah (Ab ?_)))
 refine ls F W Aa (Iw (us := []) (vs := [.pointer (some ⟨b1, 0, none⟩)]) F Aa Aa).q fun a w F W => ?_
 refine ls F W Aa (Ae F Aa).q fun a w F W => ?_
 refine Ad (Ac (Az ?_))
 refine A0 (.inl Aa) F W Aa (Au F Aa) ?_
 exact ⟨b1, Aa, W⟩
theorem RT : Has Try.prog 44 := ⟨fun args w => Aj Try.func44 rfl (by decide) args w⟩
theorem RX (b : Nat) (v : Value) (l : List (Int)) (hn : l.length ≤ 1000000000) :
    P6 Try.prog 62 [.pointer (some ⟨b, 0, none⟩)] (Qt b v (Rp.int .i64) l) (OA l) (fun p => [.int .i64 p.1, Value.int .i64 p.2]) := by
 intro y K Kx w0 hB hR hY h0
 refine enter (args := [.func (.yield y) #[] #[], .pointer (some ⟨b, 0, none⟩)]) Try.func62 Aa Try.ntmps62 Aa fun a F => ?_
 refine Ah (Ab ?_)
 have W := Stw.start any w0
 have hr := hR _ _ h0
 refine ls F W Aa (Ms (cs := [v]) (v := v) hr.1 (by simp) F Aa PW Aa).q fun a w F W => ?_
 refine ls F W Aa (Br (r := (Rp.int .i64)) (l := l) Jd Aa F Aa (Am hr.2.nx)).q fun a w F W => ?_
 refine ls F W Aa (Fx (r := (l.length : Int) - 1) F Aa Aa (Nq hn)).q fun a w F W => ?_
 refine ls F W Aa (Ae F Aa).q fun a w F W => ?_
 refine Ad (Ac ?_)
 have hK := hB _ _ _ h0 W.frm.below
 have F : Fr 19 [] [(0, .func (.yield y) #[] #[]), (1, .pointer (some ⟨b, 0, none⟩)), (3, .int .i64 ((l.length : Int) - 1))] a := F.re ⟨rfl, Aa, Aa, trivial⟩
 clear W hr h0
 have hl : l.take l.length = l := List.take_length
 rw [← hl] at hK
 refine As ?_
 refine Gx (fun m a w => m ≤ l.length ∧ Fr 19 [] [(0, .func (.yield y) #[] #[]), (1, .pointer (some ⟨b, 0, none⟩)), (3, .int .i64 ((m : Int) - 1))] a ∧ K (OA (l.take m)) w) l.length ⟨Nat.le_refl _, F, hK⟩ ?_
 clear F hK w
 rintro m a w ⟨hm, F, hK⟩
 have W := Stw.start any w
 have hr := hR _ _ hK
 refine Ah (Ah (Ab ?_))
 refine ls F W Aa (Af F Aa).q fun a w1 F W => ?_
 refine ls F W Aa (Fa F Aa Aa).q fun a w1 F W => ?_
 refine Ad (Ac ?_)
 cases m with
 | zero =>
  refine F9 F Aa ?_
  refine Bg ?_
  iterate 2 refine BJ ?_
  refine Bh ?_
  exact HU (.inr Aa) (F.re (F' := []) trivial) Aa ⟨⟨_, Aa⟩, .inl (hB _ _ _ hK W.frm.below)⟩
 | succ k =>
  refine IA F (by show some (Value.bool (decide ((0 : Int) ≤ (k + 1 : Nat) - 1))) = some (Value.bool true); rw [decide_eq_true (by omega)]) ?_
  have hk : k < l.length := hm
  have hx : ix l (k : Int) = some l[k] := by unfold ix; rw [if_pos (by omega)]; simp
  have hx2 : l[k]? = some l[k] := by simp
  have e1 : ((k + 1 : Nat) : Int) - 1 = k := by omega
  rw [e1] at F
  rw [Oq hx2] at hK
  refine Ax (Ac (Ah (As (Ah ?_))))
  refine Mw 6 (fun ⟨_, _, h⟩ => by obtain ⟨⟨_, h⟩, _⟩ := h; cases h) ?_
  iterate 2 refine ls F W Aa (Af F Aa).q fun a w1 F W => ?_
  refine ls F W Aa (Ms (cs := [v]) (v := v) hr.1 (by simp) F Aa PW Aa).q fun a w1 F W => ?_
  refine ls F W Aa (Af F Aa).q fun a w1 F W => ?_
  refine ls F W Aa (AF (r := (Rp.int .i64)) FM F Aa Aa (Am hr.2.nx) hx).q fun a w1 F W => ?_
  refine ls F W Aa (Aw (y := Value.int .i64 (l[k])) (j := 0) (i := (k : Int)) F Aa Aa (Am hr.2.nx) hx Fl.int.to T3 Aa).q fun a w1 F W => ?_
  refine Ad ?_
  have hK := hB _ _ _ hK W.frm.below
  refine OL (vs := [.int .i64 k, Value.int .i64 (l[k])]) F Aa Aa Aa (hY _ _ _ hK) ?_
  rintro e w2 (⟨rfl, hK2⟩ | ⟨rfl, hx2⟩)
  · refine ⟨_, rfl, fun a F => ?_⟩
    refine Nn F Aa Aa fun a F => ?_
    refine Ob (Ac ?_)
    refine F9 F Aa ?_
    refine Ax (AO (Ac (Ab ?_)))
    have W := Stw.start any w2
    refine ls F W Aa (Af F Aa).q fun a w3 F W => ?_
    refine ls F W Aa (Fx (r := (k : Int) - 1) F Aa Aa (Nq (by omega))).q fun a w3 F W => ?_
    refine ls F W Aa (Ae F Aa).q fun a w3 F W => ?_
    refine Ad (Ac ?_)
    exact ⟨k, Nat.lt_succ_self k, Nat.le_of_lt hk, F.re ⟨rfl, Aa, Aa, trivial⟩, hB _ _ _ hK2 W.frm.below⟩
  · refine ⟨_, rfl, fun a F => ?_⟩
    refine Nn F Aa Aa fun a F => ?_
    refine Ob (Ac ?_)
    refine IA F Aa ?_
    refine Az (A3 ?_)
    iterate 2 refine AU ?_
    refine A3 ?_
    refine HU (.inl Aa) (F.re (F' := []) trivial) Aa ⟨⟨_, Aa⟩, .inr hx2⟩
theorem Rx : Has Try.prog 62 := ⟨fun args w => Aj Try.func62 rfl (by decide) args w⟩
noncomputable def Dt (p0 : List Nat) (x2 : Int × Int) : Nat → Option (Nat ⊕ Nat)
  | x3 => (if (!(B2 p0 x2.2)) = true then (CV 1).bind fun x4 => some (.inr x4) else (ix p0 x2.2).bind fun x5 => some (.inl (A4 x5 x3)))
noncomputable def EW (p0 : List Nat) (p1 : List Int) : Option Nat := (back p1).bind fun x1 => Ii (FS (Dt p0) x1 0) fun x3 => some x3
theorem JU (Y : Nat → Prop) (w0 : World) (v1 : Value) (v2 : Value) (p0 : List Nat) (p1 : List Int) (r : Nat) (H : EW p0 p1 = some r) (h_v1 : Sl w0 (NX []) (Rp.flt .f64) v1 p0) (h_v2 : Sl w0 (NX []) (Rp.int .i64) v2 p1) :
    Calls Try.prog 24 #[v1, v2] w0 fun e w' => e = .returned (.float .f64 r) ∧ Below w0.heap.size w0 w' := by
 refine PV Try.func24 Aa Try.ntmps24 Aa fun a F => ?_
 have W := Stw.start Y w0
 unfold EW at H
 refine Ah (Ab ?_)
 refine DX (cs := [v1]) F W Aa Aa (EP ((Am h_v1) _ W).one) fun b1 a w F W => ?_
 refine Ck (cs := [.float .f64 0]) F W Aa Pj Aa fun b2 a w F W => ?_
 refine Ad (Ac (Ah (Ab ?_)))
 refine Ck (cs := [.float .f64 0]) F W Aa Pj Aa fun b3 a w F W => ?_
 refine Cs (vs := [.float .f64 0]) (M' := [(b3, [.float .f64 0]), (b2, [.float .f64 0]), (b1, [v1])]) 0 F W Aa Aa Aa Ih Aa Aa Aa Aa Aa fun w W => ?_
 refine Ad (Ac (Ah (Ah (Ab ?_))))
 refine ls F W Aa (Af F Aa).q fun a w F W => ?_
 refine BO (β := Nat) (Ml := []) (M := [(b3, [.float .f64 0]), (b2, [.float .f64 0]), (b1, [v1])]) (Zl := []) (Z := []) (rv := fun b4 => .func (.func 62) #[] #[.pointer (some ⟨b4, 0, none⟩)]) (MM := fun b4 => [(b4, [v2])]) (ZZ := fun _ => []) F W RT Aa Aa (fun _ => QC _ w v2 ((Am h_v2) _ W).one) fun b4 a w F W => ?_
 have W : Stw ⟨Y, [], w0⟩ [(b4, [v2]), (b3, [.float .f64 0]), (b2, [.float .f64 0]), (b1, [v1])] [] w := W
 refine Ad (Ac (As ?_))
 obtain ⟨x1, h1, H⟩ := Al H
 obtain ⟨hn, rfl⟩ := MY h1
 have F : Fr 24 [] [(0, v1), (1, v2), (2, .pointer (some ⟨b1, 0, none⟩)), (4, .pointer (some ⟨b2, 0, none⟩)), (5, .pointer (some ⟨b3, 0, none⟩)), (8, v2), (9, .func (.func 62) #[] #[.pointer (some ⟨b4, 0, none⟩)])] a := F.re ⟨rfl, Aa, Aa, Aa, Aa, Aa, Aa, trivial⟩
 have W := W.frontM (i := 3) Aa Aa
 have W := W.frontM (i := 3) Aa Aa
 have W := W.frontM (i := 3) Aa Aa
 have W := W.frontM (i := 3) Aa Aa
 refine OK (Z := []) (fun s M Z => M = [(b4, [v2]), (b3, [.float .f64 s]), (b2, [.float .f64 0]), (b1, [v1])] ∧ Z = []) H F W ⟨rfl, Aa⟩ Aa Rx (RX b4 v2 p1 hn) (fun _ => rfl) Aa (fun s M Z hK w Z' W => ?_) (fun l dD1 r1a r1b x2 s o M Z a a₂ w H L1 hK F hF2 W => ?_) fun dD1 s M Z a w H hK F W => ?_
 ·
  obtain ⟨x3, rfl⟩ : ∃ x, x = s := ⟨s, rfl⟩
  obtain ⟨rfl, rfl⟩ := hK
  exact Qt.of (i := 0) W Aa (Am h_v2)
 ·
  obtain ⟨x3, rfl⟩ : ∃ x, x = s := ⟨s, rfl⟩
  obtain ⟨rfl, rfl⟩ := hK
  have F : Fr 24 [] [(0, v1), (1, v2), (2, .pointer (some ⟨b1, 0, none⟩)), (4, .pointer (some ⟨b2, 0, none⟩)), (5, .pointer (some ⟨b3, 0, none⟩)), (8, v2), (9, .func (.func 62) #[] #[.pointer (some ⟨b4, 0, none⟩)]), (10, .int .i64 x2.1), (11, .int .i64 x2.2)] a := F.re ⟨rfl, Aa, Aa, Aa, Aa, Aa, Aa, Aa, Aa, trivial⟩
  have W : Stw ⟨Y, [], w0⟩ [(b4, [v2]), (b3, [.float .f64 x3]), (b2, [.float .f64 0]), (b1, [v1])] [r1a, Kq dD1] w := W
  rw [Dt] at H
  refine Ab ?_
  refine ls F W Aa (Ae F Aa).q fun a w F W => ?_
  refine Ad (Ac ?_)
  refine ⟨[(b4, [v2]), (b3, [.float .f64 x3]), (b2, [.float .f64 0]), (b1, [v1])], [], W, fun w W => ?_⟩
  have W : Stw ⟨Y, [], w0⟩ [(b4, [v2]), (b3, [.float .f64 x3]), (b2, [.float .f64 0]), (b1, [v1])] [r1b, Kq dD1] w := W
  refine As (Ah (Ah (Ab ?_)))
  refine ls F W Aa (An (v := v1) 3 F Aa Aa Mc Aa).q fun a w F W => ?_
  refine ls F W Aa (Af F Aa).q fun a w F W => ?_
  refine ls F W Aa (AZ (v := Value.bool (B2 p0 x2.2)) F QV Aa (fun w W => F3 any w (v1) p0 x2.2 _ Aa (((Am h_v1) : D6 _ _ _ _ _ _) w W).nx)) fun a w F W => ?_
  refine ls F W Aa (FP F Aa).q fun a w F W => ?_
  refine Ad (Ac ?_)
  refine AC F Aa (fun hb => ?_) fun hb => ?_
  ·
   have H := AW hb H
   rw [hb] at F
   clear hb
   refine Ah (Ab ?_)
   obtain ⟨x4, h2, H⟩ := Al H
   refine ls F W Aa (AZ (v := Value.float .f64 x4) F P9 Aa (fun w W => EV any w 1 _ h2)) fun a w F W => ?_
   refine Cs (vs := [.float .f64 x4]) (M' := [(b4, [v2]), (b3, [.float .f64 x3]), (b2, [.float .f64 x4]), (b1, [v1])]) 2 F W Aa Aa Aa Ih Aa Aa Aa Aa Aa fun w W => ?_
   refine Ad (Ac (Az (AU (A3 ?_))))
   refine Ps (M := [(b4, [v2]), (b3, [.float .f64 x3]), (b2, [.float .f64 x4]), (b1, [v1])]) (Z := []) W fun w W => ?_
   have W : Stw ⟨Y, [], w0⟩ [(b4, [v2]), (b3, [.float .f64 x3]), (b2, [.float .f64 x4]), (b1, [v1])] [Kq dD1] w := W
   have F := hF2
   refine Az (A3 (AU ?_))
   have H := L1 _ H
   have H := AX H
   subst H
   refine Oe (Z := []) (.inl Aa) F W fun w W => ?_
   have W : Stw ⟨Y, [], w0⟩ [(b4, [v2]), (b3, [.float .f64 x3]), (b2, [.float .f64 x4]), (b1, [v1])] [] w := W
   refine Lc W Aa (LV 2 F Aa Aa Ih Aa) ?_
   exact ⟨rfl, W.done⟩
  have H := AV (by rw [hb]; decide) H
  rw [hb] at F
  clear hb
  refine Ax (Ac ?_)
  refine IZ 6 W MO (by kernel_rfl) ?_
  refine qs F Aa (An (v := v1) 3 F Aa Aa Mc Aa).q fun a F => ?_
  refine qs F Aa (Af F Aa).q fun a F => ?_
  obtain ⟨x5, h3, H⟩ := Al H
  refine qs F Aa (AF (r := (Rp.flt .f64)) Hy F Aa Aa (Am h_v1) h3).q fun a F => ?_
  refine qs F Aa (Aw (y := Value.float .f64 x5) (j := 0) (i := x2.2) F Aa Aa (Am h_v1) h3 Fl.flt.to Ih Aa).q fun a F => ?_
  refine qs F Aa (An (v := Value.float .f64 x3) 1 F Aa Aa Ih Aa).q fun a F => ?_
  refine qs F Aa (AZ (v := Value.float .f64 (A4 x5 x3)) F Qz Aa (fun w W => FI any w x5 x3 _ Aa)) fun a F => ?_
  refine A9 fun w W => ?_
  refine Cs (vs := [.float .f64 (A4 x5 x3)]) (M' := [(b4, [v2]), (b3, [.float .f64 (A4 x5 x3)]), (b2, [.float .f64 0]), (b1, [v1])]) 1 F W Aa Aa Aa Ih Aa Aa Aa Aa Aa fun w W => ?_
  refine Ad (AO ?_)
  have W := W.frontZ (i := 1) Aa Aa
  have W := W.frontZ (i := 1) Aa Aa
  have W := W.frontM (i := 3) Aa Aa
  have W := W.frontM (i := 3) Aa Aa
  have W := W.frontM (i := 3) Aa Aa
  have W := W.frontM (i := 3) Aa Aa
  exact QF ⟨_, _, _, H, ⟨rfl, Aa⟩, W⟩
 obtain ⟨x3, rfl⟩ : ∃ x, x = s := ⟨s, rfl⟩
 obtain ⟨rfl, rfl⟩ := hK
 have F : Fr 24 [OC dD1] [(0, v1), (1, v2), (2, .pointer (some ⟨b1, 0, none⟩)), (4, .pointer (some ⟨b2, 0, none⟩)), (5, .pointer (some ⟨b3, 0, none⟩)), (8, v2), (9, .func (.func 62) #[] #[.pointer (some ⟨b4, 0, none⟩)])] a := F
 have W : Stw ⟨Y, [], w0⟩ [(b4, [v2]), (b3, [.float .f64 x3]), (b2, [.float .f64 0]), (b1, [v1])] [Kq dD1] w := W
 refine AO (Ac (Ah (Ab ?_)))
 refine ls F W Aa (An (v := Value.float .f64 x3) 1 F Aa Aa Ih Aa).q fun a w F W => ?_
 refine Cs (vs := [.float .f64 x3]) (M' := [(b4, [v2]), (b3, [.float .f64 x3]), (b2, [.float .f64 x3]), (b1, [v1])]) 2 F W Aa Aa Aa Ih Aa Aa Aa Aa Aa fun w W => ?_
 refine Ad (Ac (Az ?_))
 have H := AX H
 subst H
 refine Oe (Z := []) (.inl Aa) F W fun w W => ?_
 have W : Stw ⟨Y, [], w0⟩ [(b4, [v2]), (b3, [.float .f64 x3]), (b2, [.float .f64 x3]), (b1, [v1])] [] w := W
 refine Lc W Aa (LV 2 F Aa Aa Ih Aa) ?_
 exact ⟨rfl, W.done⟩
end Go.Proofs.Ytbogijdfacoccaa
