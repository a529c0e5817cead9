/- The functions of layer 19, F7. Conditions: none. -/
import Derived.Test.YtbogijdfacoccaabA4
namespace Go.Proofs.Ytbogijdfacoccaa
open Go Go.RowKit
set_option linter.unusedVariables false
set_option linter.unusedSimpArgs false
set_option maxRecDepth 20000
noncomputable def EN (p1 : List Int) (x3 : List Int) (x4 : List Int) (x7 : Int) (x9 : (List (Int × Int × Int))) : (Int × Int) → Option ((Int × Int) ⊕ Int)
  | (x11, x12) => (if 0 ≤ x12 then (((ix x9 x12).bind fun x15 => (HB p1 x3 x7 x15).bind fun x16 => (if x16 = true then (ix x9 x12).bind fun x17 => (ix x4 x17.2.1).bind fun x18 => (ix x4 x7).bind fun x19 => some (decide ((BH (x18 + 1)) = x19)) else some false)).bind fun x14 => (if x14 = true then (ix x9 x12).bind fun x20 => some x20.1 else some x11)).bind fun x13 => some (.inl (x13, BH (x12 - 1))) else some (.inr x11))
noncomputable def EL (p0 : Int × (List (Int × Int × Int × Int × Int × Int)) × (List (Int × Int))) (p1 : List Int) (p2 : Int) (x2 : Int × Int) (x3 : List Int) (x4 : List Int) : (List Int × Int) → Option ((List Int × Int) ⊕ (List Int))
  | (x6, x7) => (if x7 < p0.1 then ((FR p0 x7).bind fun x9 => (AF (EN p1 x3 x4 x7 x9) ((-1), BH ((x9.length : Int) - 1))).bind fun x10 => (if x7 = x2.1 then (ix p0.2.2 p2).bind fun x22 => some x22.2 else some x10).bind fun x21 => (HV x6 ([x21] : List Int)).bind fun x23 => some x23).bind fun x8 => some (.inl (x8, BH (x7 + 1))) else some (.inr x6))
noncomputable def LO (p0 : Int × (List (Int × Int × Int × Int × Int × Int)) × (List (Int × Int))) (p1 : List Int) (p2 : Int) : Option (List Int × Int) := (DE p0 p1).bind fun x1 => (if (!x1) = true then some (([] : List Int), 2) else (if (decide (p2 < 0) || decide ((p0.2.2.length : Int) ≤ p2)) = true then some (([] : List Int), 7) else (ix p0.2.2 p2).bind fun x2 => (E8 p0 p1 x2.1).bind fun x3 => (GN p0 p1 x2.1).bind fun x4 => (AF (EL p0 p1 p2 x2 x3 x4) ([], 0)).bind fun x5 => some (x5, 0)))
noncomputable def B7 (p0 : Int × (List (Int × Int × Int × Int × Int × Int)) × (List (Int × Int))) (p1 : Int) (p2 : Int) : Int → Option (Int ⊕ (Unit ⊕ (Int × Int × Int × Bool)))
  | x1 => (if x1 < (p0.2.1.length : Int) then (ix p0.2.1 x1).bind fun x2 => (if p1 = x2.1 ∧ p2 = x2.2.1 then some (.inr (.inr (x2.2.2.1, x2.2.2.2.1, x1, true))) else (if p1 = x2.2.2.1 ∧ p2 = x2.2.2.2.1 then some (.inr (.inr (x2.1, x2.2.1, x1, true))) else some (.inl (BH (x1 + 1))))) else some (.inr (.inl ())))
noncomputable def D0 (p0 : Int × (List (Int × Int × Int × Int × Int × Int)) × (List (Int × Int))) (p1 : Int) (p2 : Int) : Option (Int × Int × Int × Bool) := IW (AF (B7 p0 p1 p2) 0) fun _ => some (0, 0, 0, false)
theorem Ly (Y : Nat → Prop) (w0 : World) (v1 : Value) (v2 : Value) (p0 : Int × (List (Int × Int × Int × Int × Int × Int)) × (List (Int × Int))) (p1 : Int) (p2 : Int) (r : Int × Int × Int × Bool) (H : D0 p0 p1 p2 = some r) (h_v1 : Sl w0 (NX []) Fm v1 p0.2.1) (h_v2 : Sl w0 (NX []) Fo v2 p0.2.2) :
    Calls Try.prog 23 #[.agg #[.int .i64 p0.1, v1, v2], .int .i64 p1, .int .i64 p2] w0 fun e w' => e = .returned (.tuple #[.int .i64 r.1, .int .i64 r.2.1, .int .i64 r.2.2.1, .bool r.2.2.2]) ∧ Below w0.heap.size w0 w' := by
 refine enter Try.func23 Aa Try.ntmps23 Aa fun a F => ?_
 have W := Stw.start Y w0
 unfold D0 at H
 refine Ah (Ab ?_)
 refine Eo (cs := [.int .i64 p0.1, v1, v2]) F W Aa Aa Aa fun b1 a w F W => ?_
 iterate 4 refine ls F W Aa (Af F Aa).q fun a w F W => ?_
 refine Ad (Ac (Ah (Ab ?_)))
 iterate 2 refine ls F W Aa (Ae F Aa).q fun a w F W => ?_
 refine ls F W Aa (Dd (v := Value.agg #[.int .i64 p1, .int .i64 p2]) QP F Aa Aa Aa).q fun a w F W => ?_
 refine Ck (cs := [.int .i64 0, .int .i64 0]) F W Aa Rm Aa fun b2 a w F W => ?_
 refine Cw (vs := [.int .i64 p1, .int .i64 p2]) (M' := [(b2, [.int .i64 p1, .int .i64 p2]), (b1, [.int .i64 p0.1, v1, v2])]) 0 F W Aa Aa Aa QJ Aa Aa Aa Aa Aa fun w W => ?_
 refine Ad (Ac ?_)
 obtain ⟨o1, G1, K1, L1⟩ := Pi H
 refine AN (fun a w => some (Sum.inl ()) = some o1 ∧ Fr 49 [] [(6, .int .i64 0), (7, .int .i64 0), (8, .int .i64 0), (9, .bool false)] a ∧ Stw ⟨Y, [], w0⟩ [(b2, [.int .i64 p1, .int .i64 p2]), (b1, [.int .i64 p0.1, v1, v2])] [] w) ?_ ?_
 ·
  have H := G1
  clear G1 K1
  refine Ah (Ab ?_)
  refine ls F W Aa (Ai Ct Aa Aa Aa IC F Aa 1 Aa).q fun a w F W => ?_
  refine ls F W Aa (An (v := v1) 1 F Aa Aa IC Aa).q fun a w F W => ?_
  refine ls F W Aa (BB (r := Fm) (l := p0.2.1) IR Aa F Aa (Am h_v1)).q fun a w F W => ?_
  refine ls F W Aa (Ae F Aa).q fun a w F W => ?_
  refine Ad (Ac (Ay ?_))
  have W := W.frontM (i := 1) Aa Aa
  have W := W.frontM (i := 1) Aa Aa
  refine Bi H (fun s a w => Fr 49 [] [(6, .int .i64 0), (7, .int .i64 0), (8, .int .i64 0), (9, .bool false), (10, .pointer (some ⟨b2, 0, none⟩)), (17, v1), (18, .int .i64 (p0.2.1.length : Int)), (19, .int .i64 s)] a ∧ Stw ⟨Y, [], w0⟩ [(b2, [.int .i64 p1, .int .i64 p2]), (b1, [.int .i64 p0.1, v1, v2])] [] w) ⟨F.re ⟨rfl, Aa, Aa, Aa, Aa, Aa, Aa, Aa, trivial⟩, W⟩ fun s o a w H L2 hR => ?_
  obtain ⟨x1, rfl⟩ : ∃ x, x = s := ⟨s, rfl⟩
  obtain ⟨F, W⟩ := hR
  have F : Fr 49 [] [(6, .int .i64 0), (7, .int .i64 0), (8, .int .i64 0), (9, .bool false), (10, .pointer (some ⟨b2, 0, none⟩)), (17, v1), (18, .int .i64 (p0.2.1.length : Int)), (19, .int .i64 x1)] a := F
  have W : Stw ⟨Y, [], w0⟩ [(b2, [.int .i64 p1, .int .i64 p2]), (b1, [.int .i64 p0.1, v1, v2])] [] w := W
  rw [B7] at H
  refine Ah (Ab ?_)
  refine ls F W Aa (Bo F Aa Aa).q fun a w F W => ?_
  refine Ad (Ac (Ah ?_))
  refine AE F Aa (fun hb => ?_) fun hb => ?_
  ·
   have H := AU (Bz hb) H
   rw [hb] at F
   clear hb
   refine Az (Ac (Ah (Ay (Ah (Ab ?_)))))
   refine ls F W Aa (Ae F Aa).q fun a w F W => ?_
   obtain ⟨x2, h1, H⟩ := Al H
   refine ls F W Aa (AH (r := Fm) Qm F Aa Aa (Am h_v1) h1).q fun a w F W => ?_
   refine ls F W Aa (Ax (y := Value.agg #[.int .i64 x2.1, .int .i64 x2.2.1, .int .i64 x2.2.2.1, .int .i64 x2.2.2.2.1, .int .i64 x2.2.2.2.2.1, .int .i64 x2.2.2.2.2.2]) (j := 0) (i := x1) F Aa Aa (Am h_v1) h1 QC.to ON Aa).q fun a w F W => ?_
   refine Ck (cs := [.int .i64 0, .int .i64 0, .int .i64 0, .int .i64 0, .int .i64 0, .int .i64 0]) F W Aa QO Aa fun b3 a w F W => ?_
   refine ls F W Aa (Af F Aa).q fun a w F W => ?_
   refine Cw (vs := [.int .i64 x2.1, .int .i64 x2.2.1, .int .i64 x2.2.2.1, .int .i64 x2.2.2.2.1, .int .i64 x2.2.2.2.2.1, .int .i64 x2.2.2.2.2.2]) (M' := [(b3, [.int .i64 x2.1, .int .i64 x2.2.1, .int .i64 x2.2.2.1, .int .i64 x2.2.2.2.1, .int .i64 x2.2.2.2.2.1, .int .i64 x2.2.2.2.2.2]), (b2, [.int .i64 p1, .int .i64 p2]), (b1, [.int .i64 p0.1, v1, v2])]) 0 F W Aa Aa Aa ON Aa Aa Aa Aa Aa fun w W => ?_
   refine Ad (Ac (Ah (Ah (Ab ?_))))
   refine ls F W Aa (An (v := Value.agg #[.int .i64 p1, .int .i64 p2]) 1 F Aa Aa QJ Aa).q fun a w F W => ?_
   refine ls F W Aa (Ai C2 Aa Aa Aa T3 F Aa 0 Aa).q fun a w F W => ?_
   refine ls F W Aa (An (v := Value.int .i64 x2.1) 0 F Aa Aa T3 Aa).q fun a w F W => ?_
   refine ls F W Aa (Ai C2 Aa Aa Aa T3 F Aa 1 Aa).q fun a w F W => ?_
   refine ls F W Aa (An (v := Value.int .i64 x2.2.1) 0 F Aa Aa T3 Aa).q fun a w F W => ?_
   refine ls F W Aa (Dd (v := Value.agg #[.int .i64 x2.1, .int .i64 x2.2.1]) QP F Aa Aa Aa).q fun a w F W => ?_
   refine ls F W Aa (Qb (t := decide (p1 = x2.1 ∧ p2 = x2.2.1)) RZ (RH _ _ _ _) F Aa Aa).q fun a w F W => ?_
   refine Ad (Ac ?_)
   refine AE F Aa (fun hb => ?_) fun hb => ?_
   ·
    have H := AU (Bz hb) H
    rw [hb] at F
    clear hb
    refine Ah ?_
    refine CS W MO (by kernel_rfl) ?_
    refine qs F Aa (Ai C2 Aa Aa Aa T3 F Aa 2 Aa).q fun a F => ?_
    refine qs F Aa (An (v := Value.int .i64 x2.2.2.1) 0 F Aa Aa T3 Aa).q fun a F => ?_
    refine qs F Aa (Ai C2 Aa Aa Aa T3 F Aa 3 Aa).q fun a F => ?_
    refine qs F Aa (An (v := Value.int .i64 x2.2.2.2.1) 0 F Aa Aa T3 Aa).q fun a F => ?_
    refine qs F Aa (Ae F Aa).q fun a F => ?_
    iterate 4 refine qs F Aa (Af F Aa).q fun a F => ?_
    refine Be fun w W => ?_
    refine Ac (AC (AO (A5 ?_)))
    iterate 2 refine AO ?_
    refine A5 (AO ?_)
    have H := L2 _ H
    have H := L1 _ H
    have H := A1 H
    subst H
    refine Pf (.inl Aa) F W Aa (Aw F Aa) (Aw F Aa) (Aw F Aa) (Aw F Aa) ?_
    exact ⟨rfl, W.done⟩
   have H := AV (Bw hb) H
   rw [hb] at F
   clear hb
   refine Az (Ac (Ah (Ab ?_)))
   refine ls F W Aa (An (v := Value.agg #[.int .i64 p1, .int .i64 p2]) 1 F Aa Aa QJ Aa).q fun a w F W => ?_
   refine ls F W Aa (Ai C2 Aa Aa Aa T3 F Aa 2 Aa).q fun a w F W => ?_
   refine ls F W Aa (An (v := Value.int .i64 x2.2.2.1) 0 F Aa Aa T3 Aa).q fun a w F W => ?_
   refine ls F W Aa (Ai C2 Aa Aa Aa T3 F Aa 3 Aa).q fun a w F W => ?_
   refine ls F W Aa (An (v := Value.int .i64 x2.2.2.2.1) 0 F Aa Aa T3 Aa).q fun a w F W => ?_
   refine ls F W Aa (Dd (v := Value.agg #[.int .i64 x2.2.2.1, .int .i64 x2.2.2.2.1]) QP F Aa Aa Aa).q fun a w F W => ?_
   refine ls F W Aa (Qb (t := decide (p1 = x2.2.2.1 ∧ p2 = x2.2.2.2.1)) RZ (RH _ _ _ _) F Aa Aa).q fun a w F W => ?_
   refine Ad (Ac ?_)
   refine AE F Aa (fun hb => ?_) fun hb => ?_
   ·
    have H := AU (Bz hb) H
    rw [hb] at F
    clear hb
    refine Ah ?_
    refine CS W MO (by kernel_rfl) ?_
    refine qs F Aa (Ai C2 Aa Aa Aa T3 F Aa 0 Aa).q fun a F => ?_
    refine qs F Aa (An (v := Value.int .i64 x2.1) 0 F Aa Aa T3 Aa).q fun a F => ?_
    refine qs F Aa (Ai C2 Aa Aa Aa T3 F Aa 1 Aa).q fun a F => ?_
    refine qs F Aa (An (v := Value.int .i64 x2.2.1) 0 F Aa Aa T3 Aa).q fun a F => ?_
    refine qs F Aa (Ae F Aa).q fun a F => ?_
    iterate 4 refine qs F Aa (Af F Aa).q fun a F => ?_
    refine Be fun w W => ?_
    refine Ac (AC (A5 ?_))
    iterate 2 refine AO ?_
    refine A5 (AO ?_)
    have H := L2 _ H
    have H := L1 _ H
    have H := A1 H
    subst H
    refine Pf (.inl Aa) F W Aa (Aw F Aa) (Aw F Aa) (Aw F Aa) (Aw F Aa) ?_
    exact ⟨rfl, W.done⟩
   have H := AV (Bw hb) H
   rw [hb] at F
   clear hb
   refine Az (AS (Ac (Ab ?_)))
   refine ls F W Aa (BZ F Aa Aa Aa).q fun a w F W => ?_
   refine ls F W Aa (Ae F Aa).q fun a w F W => ?_
   refine Ad (Ac ?_)
   have W := W.frontM (i := 2) Aa Aa
   have W := W.frontM (i := 2) Aa Aa
   have W := W.sub (M' := [(b2, [.int .i64 p1, .int .i64 p2]), (b1, [.int .i64 p0.1, v1, v2])]) (Z' := []) (List.Sublist.cons_cons _ (List.Sublist.cons_cons _ (List.nil_sublist _))) (List.Sublist.refl _)
   exact ⟨_, H, F.re ⟨rfl, Aa, Aa, Aa, Aa, Aa, Aa, Aa, trivial⟩, W⟩
  have H := AV (Bw hb) H
  rw [hb] at F
  clear hb
  refine Bm ?_
  iterate 2 refine BT ?_
  refine Bn (Ac ?_)
  have W := W.frontM (i := 1) Aa Aa
  have W := W.frontM (i := 1) Aa Aa
  have H := L2 _ H
  exact ⟨H, F.re ⟨rfl, Aa, Aa, Aa, trivial⟩, W⟩
 rintro a w ⟨hj, F, W⟩
 have H := K1 _ hj
 clear hj G1 K1 L1
 refine Ah (Ab ?_)
 iterate 4 refine ls F W Aa (Af F Aa).q fun a w F W => ?_
 refine Ad (Ac (AC ?_))
 have H := A1 H
 subst H
 refine Pf (.inl Aa) F W Aa (Aw F Aa) (Aw F Aa) (Aw F Aa) (Aw F Aa) ?_
 exact ⟨rfl, W.done⟩
theorem SU : Has Try.prog 23 := ⟨fun args w => Aj Try.func23 rfl (by decide) args w⟩
theorem Ru (Y : Nat → Prop) (w0 : World) (v : Value) (h1 : v.oneCell' = true) : Calls Try.prog 44 [v].toArray w0 fun e w' => ∃ b, e = .returned (.func (.func 62) #[] #[.pointer (some ⟨b, 0, none⟩)]) ∧ Stw ⟨Y, [], w0⟩ [(b, [v])] [] w' := by
 refine enter Try.func44 Aa Try.ntmps44 Aa fun a F => ?_
 have W := Stw.start Y w0
 refine Ah (Ab ?_)
 refine Eo (cs := [v]) F W Aa Aa (E9 h1) fun b1 a w F W => ?_
 refine ls F W Aa (Af F Aa).q fun a w F W => ?_
 refine Ad (Ac (Ah (Ab ?_)))
 refine ls F W Aa (Js (us := []) (vs := [.pointer (some ⟨b1, 0, none⟩)]) F Aa Aa).q fun a w F W => ?_
 refine ls F W Aa (Af F Aa).q fun a w F W => ?_
 refine Ad (Ac (AC ?_))
 refine A2 (.inl Aa) F W Aa (Aw F Aa) ?_
 exact ⟨b1, Aa, W⟩
theorem SR : Has Try.prog 44 := ⟨fun args w => Aj Try.func44 rfl (by decide) args w⟩
theorem SP (b : Nat) (v : Value) (l : List (Int)) (hn : l.length ≤ 1000000000) :
    Ra Try.prog 62 [.pointer (some ⟨b, 0, none⟩)] (Ri b v (Rp.int .i64) l) (Po l) (fun p => [.int .i64 p.1, Value.int .i64 p.2]) := by
 intro y K Kx w0 hB hR hY h0
 refine enter (args := [.func (.yield y) #[] #[], .pointer (some ⟨b, 0, none⟩)]) Try.func62 Aa Try.ntmps62 Aa fun a F => ?_
 refine Ah (Ab ?_)
 have W := Stw.start any w0
 have hr := hR _ _ h0
 refine ls F W Aa (Nj (cs := [v]) (v := v) hr.1 (by simp) F Aa Qq Aa).q fun a w F W => ?_
 refine ls F W Aa (BB (r := (Rp.int .i64)) (l := l) JN Aa F Aa (Am hr.2.nx)).q fun a w F W => ?_
 refine ls F W Aa (FN (r := (l.length : Int) - 1) F Aa Aa (Og hn)).q fun a w F W => ?_
 refine ls F W Aa (Af F Aa).q fun a w F W => ?_
 refine Ad (Ac ?_)
 have hK := hB _ _ _ h0 W.frm.below
 have F : Fr 19 [] [(0, .func (.yield y) #[] #[]), (1, .pointer (some ⟨b, 0, none⟩)), (3, .int .i64 ((l.length : Int) - 1))] a := F.re ⟨rfl, Aa, Aa, trivial⟩
 clear W hr h0
 have hl : l.take l.length = l := List.take_length
 rw [← hl] at hK
 refine Ay ?_
 refine Hb (fun m a w => m ≤ l.length ∧ Fr 19 [] [(0, .func (.yield y) #[] #[]), (1, .pointer (some ⟨b, 0, none⟩)), (3, .int .i64 ((m : Int) - 1))] a ∧ K (Po (l.take m)) w) l.length ⟨Nat.le_refl _, F, hK⟩ ?_
 clear F hK w
 rintro m a w ⟨hm, F, hK⟩
 have W := Stw.start any w
 have hr := hR _ _ hK
 refine Ah (Ah (Ab ?_))
 refine ls F W Aa (Ae F Aa).q fun a w1 F W => ?_
 refine ls F W Aa (E0 F Aa Aa).q fun a w1 F W => ?_
 refine Ad (Ac ?_)
 cases m with
 | zero =>
  refine GE F Aa ?_
  refine Bm ?_
  iterate 2 refine BT ?_
  refine Bn ?_
  exact IE (.inr Aa) (F.re (F' := []) trivial) Aa ⟨⟨_, Aa⟩, .inl (hB _ _ _ hK W.frm.below)⟩
 | succ k =>
  refine I7 F (by show some (Value.bool (decide ((0 : Int) ≤ (k + 1 : Nat) - 1))) = some (Value.bool true); rw [decide_eq_true (by omega)]) ?_
  have hk : k < l.length := hm
  have hx : ix l (k : Int) = some l[k] := by unfold ix; rw [if_pos (by omega)]; simp
  have hx2 : l[k]? = some l[k] := by simp
  have e1 : ((k + 1 : Nat) : Int) - 1 = k := by omega
  rw [e1] at F
  rw [On hx2] at hK
  refine Az (Ac (Ah (Ay (Ah ?_))))
  refine NH 6 (fun ⟨_, _, h⟩ => by obtain ⟨⟨_, h⟩, _⟩ := h; cases h) ?_
  iterate 2 refine ls F W Aa (Ae F Aa).q fun a w1 F W => ?_
  refine ls F W Aa (Nj (cs := [v]) (v := v) hr.1 (by simp) F Aa Qq Aa).q fun a w1 F W => ?_
  refine ls F W Aa (Ae F Aa).q fun a w1 F W => ?_
  refine ls F W Aa (AH (r := (Rp.int .i64)) FI F Aa Aa (Am hr.2.nx) hx).q fun a w1 F W => ?_
  refine ls F W Aa (Ax (y := Value.int .i64 (l[k])) (j := 0) (i := (k : Int)) F Aa Aa (Am hr.2.nx) hx Fl.int.to T3 Aa).q fun a w1 F W => ?_
  refine Ad ?_
  have hK := hB _ _ _ hK W.frm.below
  refine PH (vs := [.int .i64 k, Value.int .i64 (l[k])]) F Aa Aa Aa (hY _ _ _ hK) ?_
  rintro e w2 (⟨rfl, hK2⟩ | ⟨rfl, hx2⟩)
  · refine ⟨_, rfl, fun a F => ?_⟩
    refine Ph F Aa Aa fun a F => ?_
    refine OD (Ac ?_)
    refine GE F Aa ?_
    refine Az (AS (Ac (Ab ?_)))
    have W := Stw.start any w2
    refine ls F W Aa (Ae F Aa).q fun a w3 F W => ?_
    refine ls F W Aa (FN (r := (k : Int) - 1) F Aa Aa (Og (by omega))).q fun a w3 F W => ?_
    refine ls F W Aa (Af F Aa).q fun a w3 F W => ?_
    refine Ad (Ac ?_)
    exact ⟨k, Nat.lt_succ_self k, Nat.le_of_lt hk, F.re ⟨rfl, Aa, Aa, trivial⟩, hB _ _ _ hK2 W.frm.below⟩
  · refine ⟨_, rfl, fun a F => ?_⟩
    refine Ph F Aa Aa fun a F => ?_
    refine OD (Ac ?_)
    refine I7 F Aa ?_
    refine AC (A5 ?_)
    iterate 2 refine AO ?_
    refine A5 ?_
    refine IE (.inl Aa) (F.re (F' := []) trivial) Aa ⟨⟨_, Aa⟩, .inr hx2⟩
theorem SA : Has Try.prog 62 := ⟨fun args w => Aj Try.func62 rfl (by decide) args w⟩
noncomputable def DO (p0 : List Nat) (x2 : Int × Int) : Nat → Option (Nat ⊕ Nat)
  | x3 => (if (!(B8 p0 x2.2)) = true then (C6 1).bind fun x4 => some (.inr x4) else (ix p0 x2.2).bind fun x5 => some (.inl (A6 x5 x3)))
noncomputable def DX (p0 : List Nat) (p1 : List Int) : Option Nat := (back p1).bind fun x1 => IW (Gb (DO p0) x1 0) fun x3 => some x3
theorem Kw (Y : Nat → Prop) (w0 : World) (v1 : Value) (v2 : Value) (p0 : List Nat) (p1 : List Int) (r : Nat) (H : DX p0 p1 = some r) (h_v1 : Sl w0 (NX []) (Rp.flt .f64) v1 p0) (h_v2 : Sl w0 (NX []) (Rp.int .i64) v2 p1) :
    Calls Try.prog 24 #[v1, v2] w0 fun e w' => e = .returned (.float .f64 r) ∧ Below w0.heap.size w0 w' := by
 refine QB Try.func24 Aa Try.ntmps24 Aa fun a F => ?_
 have W := Stw.start Y w0
 unfold DX at H
 refine Ah (Ab ?_)
 refine Eo (cs := [v1]) F W Aa Aa (E9 ((Am h_v1) _ W).one) fun b1 a w F W => ?_
 refine Ck (cs := [.float .f64 0]) F W Aa Qe Aa fun b2 a w F W => ?_
 refine Ad (Ac (Ah (Ab ?_)))
 refine Ck (cs := [.float .f64 0]) F W Aa Qe Aa fun b3 a w F W => ?_
 refine Cw (vs := [.float .f64 0]) (M' := [(b3, [.float .f64 0]), (b2, [.float .f64 0]), (b1, [v1])]) 0 F W Aa Aa Aa JB Aa Aa Aa Aa Aa fun w W => ?_
 refine Ad (Ac (Ah (Ah (Ab ?_))))
 refine ls F W Aa (Ae F Aa).q fun a w F W => ?_
 refine BS (β := Nat) (Ml := []) (M := [(b3, [.float .f64 0]), (b2, [.float .f64 0]), (b1, [v1])]) (Zl := []) (Z := []) (rv := fun b4 => .func (.func 62) #[] #[.pointer (some ⟨b4, 0, none⟩)]) (MM := fun b4 => [(b4, [v2])]) (ZZ := fun _ => []) F W SR Aa Aa (fun _ => Ru _ w v2 ((Am h_v2) _ W).one) fun b4 a w F W => ?_
 have W : Stw ⟨Y, [], w0⟩ [(b4, [v2]), (b3, [.float .f64 0]), (b2, [.float .f64 0]), (b1, [v1])] [] w := W
 refine Ad (Ac (Ay ?_))
 obtain ⟨x1, h1, H⟩ := Al H
 obtain ⟨hn, rfl⟩ := NG h1
 have F : Fr 24 [] [(0, v1), (1, v2), (2, .pointer (some ⟨b1, 0, none⟩)), (4, .pointer (some ⟨b2, 0, none⟩)), (5, .pointer (some ⟨b3, 0, none⟩)), (8, v2), (9, .func (.func 62) #[] #[.pointer (some ⟨b4, 0, none⟩)])] a := F.re ⟨rfl, Aa, Aa, Aa, Aa, Aa, Aa, trivial⟩
 have W := W.frontM (i := 3) Aa Aa
 have W := W.frontM (i := 3) Aa Aa
 have W := W.frontM (i := 3) Aa Aa
 have W := W.frontM (i := 3) Aa Aa
 refine PO (Z := []) (fun s M Z => M = [(b4, [v2]), (b3, [.float .f64 s]), (b2, [.float .f64 0]), (b1, [v1])] ∧ Z = []) H F W ⟨rfl, Aa⟩ Aa SA (SP b4 v2 p1 hn) (fun _ => rfl) Aa (fun s M Z hK w Z' W => ?_) (fun l dD1 r1a r1b x2 s o M Z a a₂ w H L1 hK F hF2 W => ?_) fun dD1 s M Z a w H hK F W => ?_
 ·
  obtain ⟨x3, rfl⟩ : ∃ x, x = s := ⟨s, rfl⟩
  obtain ⟨rfl, rfl⟩ := hK
  exact Ri.of (i := 0) W Aa (Am h_v2)
 ·
  obtain ⟨x3, rfl⟩ : ∃ x, x = s := ⟨s, rfl⟩
  obtain ⟨rfl, rfl⟩ := hK
  have F : Fr 24 [] [(0, v1), (1, v2), (2, .pointer (some ⟨b1, 0, none⟩)), (4, .pointer (some ⟨b2, 0, none⟩)), (5, .pointer (some ⟨b3, 0, none⟩)), (8, v2), (9, .func (.func 62) #[] #[.pointer (some ⟨b4, 0, none⟩)]), (10, .int .i64 x2.1), (11, .int .i64 x2.2)] a := F.re ⟨rfl, Aa, Aa, Aa, Aa, Aa, Aa, Aa, Aa, trivial⟩
  have W : Stw ⟨Y, [], w0⟩ [(b4, [v2]), (b3, [.float .f64 x3]), (b2, [.float .f64 0]), (b1, [v1])] [r1a, KU dD1] w := W
  rw [DO] at H
  refine Ab ?_
  refine ls F W Aa (Af F Aa).q fun a w F W => ?_
  refine Ad (Ac ?_)
  refine ⟨[(b4, [v2]), (b3, [.float .f64 x3]), (b2, [.float .f64 0]), (b1, [v1])], [], W, fun w W => ?_⟩
  have W : Stw ⟨Y, [], w0⟩ [(b4, [v2]), (b3, [.float .f64 x3]), (b2, [.float .f64 0]), (b1, [v1])] [r1b, KU dD1] w := W
  refine Ay (Ah (Ah (Ab ?_)))
  refine ls F W Aa (An (v := v1) 3 F Aa Aa MI Aa).q fun a w F W => ?_
  refine ls F W Aa (Ae F Aa).q fun a w F W => ?_
  refine ls F W Aa (AZ (v := Value.bool (B8 p0 x2.2)) F R9 Aa (fun w W => Gq any w (v1) p0 x2.2 _ Aa (((Am h_v1) : Ee _ _ _ _ _ _) w W).nx)) fun a w F W => ?_
  refine ls F W Aa (Fa F Aa).q fun a w F W => ?_
  refine Ad (Ac ?_)
  refine AE F Aa (fun hb => ?_) fun hb => ?_
  ·
   have H := AU hb H
   rw [hb] at F
   clear hb
   refine Ah (Ab ?_)
   obtain ⟨x4, h2, H⟩ := Al H
   refine ls F W Aa (AZ (v := Value.float .f64 x4) F QW Aa (fun w W => Fj any w 1 _ h2)) fun a w F W => ?_
   refine Cw (vs := [.float .f64 x4]) (M' := [(b4, [v2]), (b3, [.float .f64 x3]), (b2, [.float .f64 x4]), (b1, [v1])]) 2 F W Aa Aa Aa JB Aa Aa Aa Aa Aa fun w W => ?_
   refine Ad (Ac (AC (AO (A5 ?_))))
   refine Qu (M := [(b4, [v2]), (b3, [.float .f64 x3]), (b2, [.float .f64 x4]), (b1, [v1])]) (Z := []) W fun w W => ?_
   have W : Stw ⟨Y, [], w0⟩ [(b4, [v2]), (b3, [.float .f64 x3]), (b2, [.float .f64 x4]), (b1, [v1])] [KU dD1] w := W
   have F := hF2
   refine AC (A5 (AO ?_))
   have H := L1 _ H
   have H := A1 H
   subst H
   refine Ou (Z := []) (.inl Aa) F W fun w W => ?_
   have W : Stw ⟨Y, [], w0⟩ [(b4, [v2]), (b3, [.float .f64 x3]), (b2, [.float .f64 x4]), (b1, [v1])] [] w := W
   refine Lp W Aa (ML 2 F Aa Aa JB Aa) ?_
   exact ⟨rfl, W.done⟩
  have H := AV (by rw [hb]; decide) H
  rw [hb] at F
  clear hb
  refine Az (Ac ?_)
  refine JA 6 W MO (by kernel_rfl) ?_
  refine qs F Aa (An (v := v1) 3 F Aa Aa MI Aa).q fun a F => ?_
  refine qs F Aa (Ae F Aa).q fun a F => ?_
  obtain ⟨x5, h3, H⟩ := Al H
  refine qs F Aa (AH (r := (Rp.flt .f64)) Iy F Aa Aa (Am h_v1) h3).q fun a F => ?_
  refine qs F Aa (Ax (y := Value.float .f64 x5) (j := 0) (i := x2.2) F Aa Aa (Am h_v1) h3 Fl.flt.to JB Aa).q fun a F => ?_
  refine qs F Aa (An (v := Value.float .f64 x3) 1 F Aa Aa JB Aa).q fun a F => ?_
  refine qs F Aa (AZ (v := Value.float .f64 (A6 x5 x3)) F Ro Aa (fun w W => FX any w x5 x3 _ Aa)) fun a F => ?_
  refine Be fun w W => ?_
  refine Cw (vs := [.float .f64 (A6 x5 x3)]) (M' := [(b4, [v2]), (b3, [.float .f64 (A6 x5 x3)]), (b2, [.float .f64 0]), (b1, [v1])]) 1 F W Aa Aa Aa JB Aa Aa Aa Aa Aa fun w W => ?_
  refine Ad (AS ?_)
  have W := W.frontZ (i := 1) Aa Aa
  have W := W.frontZ (i := 1) Aa Aa
  have W := W.frontM (i := 3) Aa Aa
  have W := W.frontM (i := 3) Aa Aa
  have W := W.frontM (i := 3) Aa Aa
  have W := W.frontM (i := 3) Aa Aa
  exact RD ⟨_, _, _, H, ⟨rfl, Aa⟩, W⟩
 obtain ⟨x3, rfl⟩ : ∃ x, x = s := ⟨s, rfl⟩
 obtain ⟨rfl, rfl⟩ := hK
 have F : Fr 24 [Pz dD1] [(0, v1), (1, v2), (2, .pointer (some ⟨b1, 0, none⟩)), (4, .pointer (some ⟨b2, 0, none⟩)), (5, .pointer (some ⟨b3, 0, none⟩)), (8, v2), (9, .func (.func 62) #[] #[.pointer (some ⟨b4, 0, none⟩)])] a := F
 have W : Stw ⟨Y, [], w0⟩ [(b4, [v2]), (b3, [.float .f64 x3]), (b2, [.float .f64 0]), (b1, [v1])] [KU dD1] w := W
 refine AS (Ac (Ah (Ab ?_)))
 refine ls F W Aa (An (v := Value.float .f64 x3) 1 F Aa Aa JB Aa).q fun a w F W => ?_
 refine Cw (vs := [.float .f64 x3]) (M' := [(b4, [v2]), (b3, [.float .f64 x3]), (b2, [.float .f64 x3]), (b1, [v1])]) 2 F W Aa Aa Aa JB Aa Aa Aa Aa Aa fun w W => ?_
 refine Ad (Ac (AC ?_))
 have H := A1 H
 subst H
 refine Ou (Z := []) (.inl Aa) F W fun w W => ?_
 have W : Stw ⟨Y, [], w0⟩ [(b4, [v2]), (b3, [.float .f64 x3]), (b2, [.float .f64 x3]), (b1, [v1])] [] w := W
 refine Lp W Aa (ML 2 F Aa Aa JB Aa) ?_
 exact ⟨rfl, W.done⟩
end Go.Proofs.Ytbogijdfacoccaa
