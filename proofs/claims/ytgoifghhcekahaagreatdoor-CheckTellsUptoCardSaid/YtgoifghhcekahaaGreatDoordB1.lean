/- The functions of layer 30, HQ. Conditions: none. -/
import Derived.Test.YtgoifghhcekahaaGreatDoordB0
namespace Go.Proofs.YtgoifghhcekahaaGreatDoor
noncomputable section
open Go Go.RowKit
set_option linter.unusedVariables false
set_option linter.unusedSimpArgs false
set_option maxRecDepth 20000
theorem Ys : type_of% Tryz.underlying112 := Tryz.underlying112
theorem Z0 : Has Tryz.prog 106 := BM Tryz.func106
theorem aF : Has Tryz.prog 69 := BM Tryz.func69
theorem ZM : Has Tryz.prog 72 := BM Tryz.func72
theorem Z9 : (Tryz.prog.info? 9).bind (·.zero) = some (.string (bs ([] : lb_))) := by kernel_rfl
theorem V0 : Et Tryz.prog 112 9 1 16 := Et.of Ys (by kernel_rfl) (by kernel_rfl) (by kernel_rfl) (by decide)
theorem YQ : Has Tryz.prog 70 := BM Tryz.func70
def D1 (fRec_pred_Text : Tr36 → Option lb_) (p0 : List Tr36) : (List lb_ × Int) → Option ((List lb_ × Int) ⊕ (List lb_))
  | (x2, x3) => (if x3 < (p0.length : Int) then (ix p0 x3).bind fun x4 => (fRec_pred_Text x4).bind fun x5 => (if (decide (x4.un.1 = 5) || decide (x4.un.1 = 6)) = true then (GP ([40] : lb_) x5).bind fun x7 => (GP x7 ([41] : lb_)).bind fun x8 => some x8 else some x5).bind fun x6 => (GP x2 ([x6] : List lb_)).bind fun x9 => some (.inl (x9, AJ (x3 + 1))) else some (.inr x2))
def FB (fRec_pred_Text : Tr36 → Option lb_) (p0 : List Tr36) (p1 : lb_) : Option lb_ := (AB (D1 fRec_pred_Text p0) ([], 0)).bind fun x1 => (Kr x1 p1).bind fun x10 => some x10
theorem Jw (fRec_pred_Text : Tr36 → Option lb_) (ih_pred_Text : ∀ (Y : Nat → Prop) (w0 : World) (v1 : Value) (p0 : Tr36) (r : lb_) (H : fRec_pred_Text p0 = some r) (h_v1 : Sl w0 (NX []) Bm v1 p0.un.2.2.2) (hG : Gk [] w0), ca_ 72 #[.agg #[Jint p0.un.1, Jint p0.un.2.1, Jint p0.un.2.2.1, v1]] w0 fun e w' => e = .returned (.string (bs r)) ∧ Below w0.heap.size w0 w') (Y : Nat → Prop) (w0 : World) (v1 : Value) (p0 : List Tr36) (p1 : lb_) (r : lb_) (H : FB fRec_pred_Text p0 p1 = some r) (h_v1 : Sl w0 (NX []) Bm v1 p0) (hG : Gk [] w0) :
    ca_ 107 #[v1, .string (bs p1)] w0 fun e w' => e = .returned (.string (bs r)) ∧ Below w0.heap.size w0 w' := by
 refine enter Tryz.func107 Aa Tryz.ntmps107 Aa fun a F => ?_
 have W := Stw.start Y w0
 obtain ⟨v2, h1, h_v1⟩ := h_v1.ex BK
 unfold FB at H
 refine vc tk 2 F W fun a w F W => ?_
 refine ls F W Aa (Bj (v := Value.string (bs ([] : lb_))) F Aa).q fun a w F W => ?_
 refine Bo tk 7 F W fun a w F W => ?_
 obtain ⟨o1, G1, K1⟩ := Af H
 refine Ap (fun a w => ∃ x1 : List lb_, ∃ v3 : Value, some (x1) = some o1 ∧ Fr 36 [] [(1, .string (bs p1)), (4, .string (bs ([] : lb_))), (5, v3)] a ∧ sy Y w0 [] [row v3 9 Rp.str x1] w) ?_ ?_
 ·
  have H := G1
  refine vc tk 3 F W fun a w F W => ?_
  refine ls F W Aa (Bz (r := Bm) (l := p0) IU Aa F Aa (Al BK h1 (Ae h_v1))).q fun a w F W => ?_
  refine Bo tk 4 F W fun a w F W => ?_
  have W := W.nilRow 9 Rp.str
  refine AQ H (fun s a w => ∃ v4 : Value, Fr 36 [] [(1, .string (bs p1)), (4, .string (bs ([] : lb_))), (5, v4), (9, v1), (10, Jint (p0.length : Int)), (11, Jint s.2)] a ∧ sy Y w0 [] [row v4 9 Rp.str s.1] w) ⟨(Value.slice none 0 0), F.ra Aa, W⟩ fun s o a w H L2 hR => ?_
  obtain ⟨x2, x3⟩ := s
  obtain ⟨v4, F, W⟩ := hR
  have F : Fr 36 [] [(1, .string (bs p1)), (4, .string (bs ([] : lb_))), (5, v4), (9, v1), (10, Jint (p0.length : Int)), (11, Jint x3)] a := F
  have W : sy Y w0 [] [row v4 9 Rp.str x2] w := W
  rw [D1] at H
  refine vc tk 6 F W fun a w F W => ?_
  refine A1 F Aa H (fun F H => ?_) fun F H => ?_
  ·
   refine EX tk 6 F W fun a w F W => ?_
   obtain ⟨x4, h2, H⟩ := Af H
   obtain ⟨v5, h3, h4⟩ := CS h1 h2
   have h5 : He v5 = [Jint x4.un.1, Jint x4.un.2.1, Jint x4.un.2.2.1, (v5.2.2.2.1)] := congrArg (fun q : Tr36 => ([Jint q.un.1, Jint q.un.2.1, Jint q.un.2.2.1, (v5.2.2.2.1)] : List Value)) h4
   refine ls F W Aa (Au (r := HE) PI F Aa Aa (Ae h_v1) h3).q fun a w F W => ?_
   refine ls F W Aa (Aj (y := Value.agg #[Jint x4.un.1, Jint x4.un.2.1, Jint x4.un.2.2.1, (v5.2.2.2.1)]) (j := 0) (i := x3) (enc := He) F Aa Aa (Ae h_v1) h3 Mp GN (by rw [h5]; rfl)).q fun a w F W => ?_
   refine Bw (cs := (Is)) F W Aa Q0 Aa fun b1 a w F W => ?_
   refine CE 0 F W Aa Aa Aa GN Aa Aa (Ac Aa (Ac Aa (Ac Aa (Ac ((Bf (Ae h_v1) h3 (Ag.snd (Ag.snd (Ag.snd Ag.here))) (congrArg (fun q : Tr36 => q.un.2.2.2) h4)) _ W).one Bn)))) fun w W => ?_
   refine Es tk 5 [0] F W (ai fun a w F W => ?_)
   obtain ⟨x5, h6, H⟩ := Af H
   refine ls F W Aa (AA (v := Value.string (bs x5)) F ZM Aa (fun w W => ih_pred_Text any w ((v5.2.2.2.1)) x4 _ h6 (Cl (Bf (Ae h_v1) h3 (Ag.snd (Ag.snd (Ag.snd Ag.here))) (congrArg (fun q : Tr36 => q.un.2.2.2) h4)) W) (hG.go0 W))) fun a w F W => ?_
   refine vl tk 2 F W fun a w F W => ?_
   refine Ab ?_
   obtain ⟨o3, G3, K3⟩ := Af H
   refine Ap (fun a w => ∃ x6 : lb_, some (x6) = some o3 ∧ Fr 36 [] [(1, .string (bs p1)), (4, .string (bs ([] : lb_))), (5, v4), (8, .string (bs x6)), (9, v1), (10, Jint (p0.length : Int)), (11, Jint x3)] a ∧ sy Y w0 [(b1, [Jint x4.un.1, Jint x4.un.2.1, Jint x4.un.2.2.1, (v5.2.2.2.1)])] [row v4 9 Rp.str x2] w) ?_ ?_
   ·
    have H := G3
    refine Ap (fun a w => Fr 36 [] [(1, .string (bs p1)), (4, .string (bs ([] : lb_))), (5, v4), (8, .string (bs x5)), (9, v1), (10, Jint (p0.length : Int)), (11, Jint x3), (24, .bool (decide (x4.un.1 = 5) || decide (x4.un.1 = 6)))] a ∧ sy Y w0 [(b1, [Jint x4.un.1, Jint x4.un.2.1, Jint x4.un.2.2.1, (v5.2.2.2.1)])] [row v4 9 Rp.str x2] w) ?_ ?_
    ·
     refine CT tk 5 [0] F W (ai fun a w F W => ?_)
     rcases bxq (decide (x4.un.1 = 5)) with hb0 | hb0
     ·
      rw [hb0] at F
      refine vl tk 5 F W fun a w F W => ?_
      refine Ab ?_
      exact ⟨F.re ⟨rfl, Aa, Aa, Aa, Aa, Aa, Aa, (CL (by try rw [hb0]; all_goals simp only [CM])), trivial⟩, W⟩
     rw [hb0] at F
     refine DU tk 5 [0] F W (ai fun a w F W => ?_)
     refine Ab ?_
     exact ⟨F.re ⟨rfl, Aa, Aa, Aa, Aa, Aa, Aa, (CL (by try rw [hb0]; all_goals simp only [CM])), trivial⟩, W⟩
    rintro a w ⟨F, W⟩
    refine Bi F Aa H (fun F H => ?_) fun F H => ?_
    ·
     refine vc tk 2 F W fun a w F W => ?_
     obtain ⟨x7, h7, H⟩ := Af H
     refine ls F W Aa (Ha (l := ([40] : lb_)) (m := x5) F Aa Aa h7).q fun a w F W => ?_
     obtain ⟨x8, h8, H⟩ := Af H
     refine ls F W Aa (Ha (l := x7) (m := ([41] : lb_)) F Aa Aa h8).q fun a w F W => ?_
     refine vl tk 2 F W fun a w F W => ?_
     refine Ab ?_
     exact ⟨_, H, F.ra Aa, W⟩
    refine AD (Ab ?_)
    exact ⟨_, H, F.ra Aa, W⟩
   rintro a w ⟨x6, hj, F, W⟩
   have hj := Ay hj
   subst hj
   have H := K3
   refine vc tk 3 F W fun a w F W => ?_
   refine GT (z := Value.string (bs ([] : lb_))) (cs := [.string (bs x6)]) Rp.str ([x6] : List lb_) F W Aa V0 Z9 Aa Aa Aa Aa Aa Aa (Fl.str.repL _ _ ([x6] : List lb_)) fun v6 a w F W => ?_
   obtain ⟨x9, h9, H⟩ := Af H
   refine DL (r := Rp.str) (i := 1) F W Aa V0 Aa Aa Aa Aa (EB W 0 Aa) h9 Aa fun v7 a w F W => ?_
   have W : sy Y w0 [(b1, [Jint x4.un.1, Jint x4.un.2.1, Jint x4.un.2.2.1, (v5.2.2.2.1)])] [row v7 9 Rp.str x9, row v6 9 Rp.str ([x6] : List lb_)] w := W
   refine vl tk 2 F W fun a w F W => ?_
   refine Az ?_
   refine vn tk 4 F W fun a w F W => ?_
   refine Ab ?_
   have W := W.sub (M' := []) (Z' := [row v7 9 Rp.str x9]) nl (sc nl)
   exact ⟨_, H, (v7), F.ra Aa, W⟩
  refine AN ?_
  iterate 2 refine A6 ?_
  refine AP (Ab ?_)
  have H := L2 _ H
  exact ⟨_, (v4), H, F.ra Aa, W⟩
 rintro a w ⟨x1, v3, hj, F, W⟩
 have hj := Ay hj
 subst hj
 have H := K1
 refine vc tk 4 F W fun a w F W => ?_
 obtain ⟨x10, h10, H⟩ := Af H
 refine ls F W Aa (AA (v := Value.string (bs x10)) F YQ Aa (fun w W => Ql any w (v3) x1 p1 _ h10 (Cl (Ai 0 Aa) W))) fun a w F W => ?_
 refine Bo tk 3 F W fun a w F W => ?_
 refine Ah ?_
 have H := Ay H
 subst H
 refine Av (.inl Aa) F W Aa (Am F Aa) ?_
 exact ⟨rfl, W.done⟩
theorem Xf : Has Tryz.prog 107 := BM Tryz.func107
def Ew (fRec : Tr36 → Option lb_) (p0 : Tr36) : Option lb_ := (if p0.un.1 = 1 then some ([116, 114, 117, 101] : lb_) else (if p0.un.1 = 2 then some ([102, 97, 108, 115, 101] : lb_) else (if p0.un.1 = 3 then (GP (EP p0.un.2.1) ([32, 61, 32] : lb_)).bind fun x1 => (PW p0.un.2.2.1).bind fun x2 => (GP x1 x2).bind fun x3 => some x3 else (if p0.un.1 = 4 then ((FB fRec) p0.un.2.2.2 ([] : lb_)).bind fun x4 => (GP ([110, 111, 116, 32] : lb_) x4).bind fun x5 => some x5 else (if p0.un.1 = 5 then ((FB fRec) p0.un.2.2.2 ([32, 97, 110, 100, 32] : lb_)).bind fun x6 => some x6 else (if p0.un.1 = 6 then ((FB fRec) p0.un.2.2.2 ([32, 111, 114, 32] : lb_)).bind fun x7 => some x7 else some ([63] : lb_)))))))
def E7 : Nat → Tr36 → Option lb_
  | 0 => fun _ => none
  | n + 1 => Ew (E7 n)
def Kc (p0 : Tr36) : Option lb_ := FT fun n => E7 n p0
theorem Pu (fRec : Tr36 → Option lb_) (ih : ∀ (Y : Nat → Prop) (w0 : World) (v1 : Value) (p0 : Tr36) (r : lb_) (H : fRec p0 = some r) (h_v1 : Sl w0 (NX []) Bm v1 p0.un.2.2.2) (hG : Gk [] w0), ca_ 72 #[.agg #[Jint p0.un.1, Jint p0.un.2.1, Jint p0.un.2.2.1, v1]] w0 fun e w' => e = .returned (.string (bs r)) ∧ Below w0.heap.size w0 w') (Y : Nat → Prop) (w0 : World) (v1 : Value) (p0 : Tr36) (r : lb_) (H : Ew fRec p0 = some r) (h_v1 : Sl w0 (NX []) Bm v1 p0.un.2.2.2) (hG : Gk [] w0) :
    ca_ 72 #[.agg #[Jint p0.un.1, Jint p0.un.2.1, Jint p0.un.2.2.1, v1]] w0 fun e w' => e = .returned (.string (bs r)) ∧ Below w0.heap.size w0 w' := by
 refine enter Tryz.func72 Aa Tryz.ntmps72 Aa fun a F => ?_
 have W := Stw.start Y w0
 obtain ⟨v2, h1, h_v1⟩ := h_v1.ex BK
 unfold Ew at H
 refine vc tk 2 F W fun a w F W => ?_
 refine BQ (cs := (Hl p0 v1)) F W Aa Aa Aa fun b1 a w F W => ?_
 refine ls F W Aa (Bj (v := Value.string (bs ([] : lb_))) F Aa).q fun a w F W => ?_
 refine Es tk 16 [0] F W (ai fun a w F W => ?_)
 refine BS F Aa (fun hb => ?_) fun hb => ?_
 ·
  have H := BB (B4 hb) H
  rw [hb] at F
  refine vc tk 2 F W fun a w F W => ?_
  refine ls F W Aa (Bj (v := Value.string (bs ([116, 114, 117, 101] : lb_))) F Aa).q fun a w F W => ?_
  refine Bo tk 2 F W fun a w F W => ?_
  refine Ah (AC (Aw ?_))
  have H := Ay H
  subst H
  refine Av (.inl Aa) F W Aa (Am F Aa) ?_
  exact ⟨rfl, W.done⟩
 have H := BC (B1 hb) H
 rw [hb] at F
 refine vc tk 6 F W fun a w F W => ?_
 refine BS F Aa (fun hb => ?_) fun hb => ?_
 ·
  have H := BB (B4 hb) H
  rw [hb] at F
  refine vc tk 2 F W fun a w F W => ?_
  refine ls F W Aa (Bj (v := Value.string (bs ([102, 97, 108, 115, 101] : lb_))) F Aa).q fun a w F W => ?_
  refine Bo tk 2 F W fun a w F W => ?_
  refine Ah (AC (Aw ?_))
  have H := Ay H
  subst H
  refine Av (.inl Aa) F W Aa (Am F Aa) ?_
  exact ⟨rfl, W.done⟩
 have H := BC (B1 hb) H
 rw [hb] at F
 refine vc tk 6 F W fun a w F W => ?_
 refine BS F Aa (fun hb => ?_) fun hb => ?_
 ·
  have H := BB (B4 hb) H
  rw [hb] at F
  refine FG ?_
  refine B5 W MO (by kernel_rfl) ?_
  refine qs F Aa (Aq Mi Aa Aa Aa T3 F Aa 1 Aa).q fun a F => ?_
  refine qs F Aa (Bk (v := Jint p0.un.2.1) 0 F Aa Aa T3 Aa).q fun a F => ?_
  refine qs F Aa (AA (v := Value.string (bs (EP p0.un.2.1))) F Z0 Aa (fun w W => Mq any w p0.un.2.1 _ Aa)) fun a F => ?_
  obtain ⟨x1, h2, H⟩ := Af H
  refine qs F Aa (Ha (l := (EP p0.un.2.1)) (m := ([32, 61, 32] : lb_)) F Aa Aa h2).q fun a F => ?_
  refine qs F Aa (Aq Mi Aa Aa Aa T3 F Aa 2 Aa).q fun a F => ?_
  refine qs F Aa (Bk (v := Jint p0.un.2.2.1) 0 F Aa Aa T3 Aa).q fun a F => ?_
  obtain ⟨x2, h3, H⟩ := Af H
  refine qs F Aa (AA (v := Value.string (bs x2)) F aF Aa (fun w W => VB any w p0.un.2.2.1 _ h3 (hG.go0 W))) fun a F => ?_
  obtain ⟨x3, h4, H⟩ := Af H
  refine qs F Aa (Ha (l := x1) (m := x2) F Aa Aa h4).q fun a F => ?_
  refine qs F Aa (Bj F Aa).q fun a F => ?_
  refine AK fun w W => ?_
  refine Ab (Ah (AC (Aw ?_)))
  have H := Ay H
  subst H
  refine Av (.inl Aa) F W Aa (Am F Aa) ?_
  exact ⟨rfl, W.done⟩
 have H := BC (B1 hb) H
 rw [hb] at F
 refine vc tk 6 F W fun a w F W => ?_
 refine BS F Aa (fun hb => ?_) fun hb => ?_
 ·
  have H := BB (B4 hb) H
  rw [hb] at F
  refine CT tk 4 [0] F W (ai fun a w F W => ?_)
  obtain ⟨x4, h5, H⟩ := Af H
  refine ls F W Aa (AA (v := Value.string (bs x4)) F Xf Aa (fun w W => (Jw fRec ih) any w (v1) p0.un.2.2.2 ([] : lb_) _ h5 (Cl (Al BK h1 (Ae h_v1)) W) (hG.go0 W))) fun a w F W => ?_
  obtain ⟨x5, h6, H⟩ := Af H
  refine ls F W Aa (Ha (l := ([110, 111, 116, 32] : lb_)) (m := x4) F Aa Aa h6).q fun a w F W => ?_
  refine Bo tk 3 F W fun a w F W => ?_
  refine Ah (AC (Aw ?_))
  have H := Ay H
  subst H
  refine Av (.inl Aa) F W Aa (Am F Aa) ?_
  exact ⟨rfl, W.done⟩
 have H := BC (B1 hb) H
 rw [hb] at F
 refine vc tk 6 F W fun a w F W => ?_
 refine BS F Aa (fun hb => ?_) fun hb => ?_
 ·
  have H := BB (B4 hb) H
  rw [hb] at F
  refine CT tk 4 [0] F W (ai fun a w F W => ?_)
  obtain ⟨x6, h7, H⟩ := Af H
  refine ls F W Aa (AA (v := Value.string (bs x6)) F Xf Aa (fun w W => (Jw fRec ih) any w (v1) p0.un.2.2.2 ([32, 97, 110, 100, 32] : lb_) _ h7 (Cl (Al BK h1 (Ae h_v1)) W) (hG.go0 W))) fun a w F W => ?_
  refine Bo tk 3 F W fun a w F W => ?_
  refine Ah (AC (Aw ?_))
  have H := Ay H
  subst H
  refine Av (.inl Aa) F W Aa (Am F Aa) ?_
  exact ⟨rfl, W.done⟩
 have H := BC (B1 hb) H
 rw [hb] at F
 refine vc tk 6 F W fun a w F W => ?_
 refine BS F Aa (fun hb => ?_) fun hb => ?_
 ·
  have H := BB (B4 hb) H
  rw [hb] at F
  refine CT tk 4 [0] F W (ai fun a w F W => ?_)
  obtain ⟨x7, h8, H⟩ := Af H
  refine ls F W Aa (AA (v := Value.string (bs x7)) F Xf Aa (fun w W => (Jw fRec ih) any w (v1) p0.un.2.2.2 ([32, 111, 114, 32] : lb_) _ h8 (Cl (Al BK h1 (Ae h_v1)) W) (hG.go0 W))) fun a w F W => ?_
  refine Bo tk 3 F W fun a w F W => ?_
  refine Ah (AC (Aw ?_))
  have H := Ay H
  subst H
  refine Av (.inl Aa) F W Aa (Am F Aa) ?_
  exact ⟨rfl, W.done⟩
 have H := BC (B1 hb) H
 rw [hb] at F
 refine AD (Az ?_)
 refine vn tk 2 F W fun a w F W => ?_
 refine ls F W Aa (Bj (v := Value.string (bs ([63] : lb_))) F Aa).q fun a w F W => ?_
 refine Bo tk 2 F W fun a w F W => ?_
 refine Ah ?_
 have H := Ay H
 subst H
 refine Av (.inl Aa) F W Aa (Am F Aa) ?_
 exact ⟨rfl, W.done⟩
theorem Qm : ∀ (n : Nat) (Y : Nat → Prop) (w0 : World) (v1 : Value) (p0 : Tr36) (r : lb_) (H : E7 n p0 = some r) (h_v1 : Sl w0 (NX []) Bm v1 p0.un.2.2.2) (hG : Gk [] w0), ca_ 72 #[.agg #[Jint p0.un.1, Jint p0.un.2.1, Jint p0.un.2.2.1, v1]] w0 fun e w' => e = .returned (.string (bs r)) ∧ Below w0.heap.size w0 w' := by
  intro n
  induction n with
  | zero => intro Y w0 v1 p0 r H; exact nomatch H
  | succ n ih => intro Y w0 v1 p0 r H h_v1 hG; exact Pu (E7 n) ih Y w0 v1 p0 r H h_v1 hG
theorem My (Y : Nat → Prop) (w0 : World) (v1 : Value) (p0 : Tr36) (r : lb_) (H : Kc p0 = some r) (h_v1 : Sl w0 (NX []) Bm v1 p0.un.2.2.2) (hG : Gk [] w0) :
    ca_ 72 #[.agg #[Jint p0.un.1, Jint p0.un.2.1, Jint p0.un.2.2.1, v1]] w0 fun e w' => e = .returned (.string (bs r)) ∧ Below w0.heap.size w0 w' := by
  obtain ⟨n, H⟩ := BP H
  exact Qm n Y w0 v1 p0 r H h_v1 hG
def Ey (p0 : Tr36) : Option lb_ := (if p0.un.1 = 1 then some ([105, 100] : lb_) else (if p0.un.1 = 2 then some ([100, 114, 111, 112] : lb_) else (Kc p0).bind fun x1 => (GP ([119, 104, 101, 110, 32] : lb_) x1).bind fun x2 => some x2))
theorem Kp (Y : Nat → Prop) (w0 : World) (v1 : Value) (p0 : Tr36) (r : lb_) (H : Ey p0 = some r) (h_v1 : Sl w0 (NX []) Bm v1 p0.un.2.2.2) (hG : Gk [] w0) :
    ca_ 67 #[.agg #[Jint p0.un.1, Jint p0.un.2.1, Jint p0.un.2.2.1, v1]] w0 fun e w' => e = .returned (.string (bs r)) ∧ Below w0.heap.size w0 w' := by
 refine enter Tryz.func67 Aa Tryz.ntmps67 Aa fun a F => ?_
 have W := Stw.start Y w0
 obtain ⟨v2, h1, h_v1⟩ := h_v1.ex BK
 unfold Ey at H
 refine vc tk 2 F W fun a w F W => ?_
 refine BQ (cs := (Hl p0 v1)) F W Aa Aa Aa fun b1 a w F W => ?_
 refine ls F W Aa (Bj (v := Value.string (bs ([] : lb_))) F Aa).q fun a w F W => ?_
 refine Es tk 16 [0] F W (ai fun a w F W => ?_)
 refine BS F Aa (fun hb => ?_) fun hb => ?_
 ·
  have H := BB (B4 hb) H
  rw [hb] at F
  refine vc tk 2 F W fun a w F W => ?_
  refine ls F W Aa (Bj (v := Value.string (bs ([105, 100] : lb_))) F Aa).q fun a w F W => ?_
  refine Bo tk 2 F W fun a w F W => ?_
  refine Ah (AC (Aw ?_))
  have H := Ay H
  subst H
  refine Av (.inl Aa) F W Aa (Am F Aa) ?_
  exact ⟨rfl, W.done⟩
 have H := BC (B1 hb) H
 rw [hb] at F
 refine vc tk 6 F W fun a w F W => ?_
 refine BS F Aa (fun hb => ?_) fun hb => ?_
 ·
  have H := BB (B4 hb) H
  rw [hb] at F
  refine vc tk 2 F W fun a w F W => ?_
  refine ls F W Aa (Bj (v := Value.string (bs ([100, 114, 111, 112] : lb_))) F Aa).q fun a w F W => ?_
  refine Bo tk 2 F W fun a w F W => ?_
  refine Ah (AC (Aw ?_))
  have H := Ay H
  subst H
  refine Av (.inl Aa) F W Aa (Am F Aa) ?_
  exact ⟨rfl, W.done⟩
 have H := BC (B1 hb) H
 rw [hb] at F
 refine AD (Az ?_)
 refine aT tk 3 [0] F W (ai fun a w F W => ?_)
 obtain ⟨x1, h2, H⟩ := Af H
 refine ls F W Aa (AA (v := Value.string (bs x1)) F ZM Aa (fun w W => My any w (v1) p0 _ h2 (Cl (Al BK h1 (Ae h_v1)) W) (hG.go0 W))) fun a w F W => ?_
 obtain ⟨x2, h3, H⟩ := Af H
 refine ls F W Aa (Ha (l := ([119, 104, 101, 110, 32] : lb_)) (m := x1) F Aa Aa h3).q fun a w F W => ?_
 refine Bo tk 3 F W fun a w F W => ?_
 refine Ah ?_
 have H := Ay H
 subst H
 refine Av (.inl Aa) F W Aa (Am F Aa) ?_
 exact ⟨rfl, W.done⟩
theorem b5 : Has Tryz.prog 67 := BM Tryz.func67
def Ea (p0 : Int) : lb_ := (if p0 = 0 then ([115, 114, 99] : lb_) else (if p0 = 1 then ([100, 115, 116] : lb_) else (if p0 = 2 then ([107, 105, 110, 100] : lb_) else (if p0 = 3 then ([116, 97, 103] : lb_) else (if p0 = 4 then ([112, 111, 114, 116] : lb_) else ([63] : lb_))))))
theorem La (Y : Nat → Prop) (w0 : World)  (p0 : Int) (r : lb_) (H : Ea p0 = r)  :
    ca_ 68 #[Jint p0] w0 fun e w' => e = .returned (.string (bs r)) ∧ Below w0.heap.size w0 w' := by
 refine enter Tryz.func68 Aa Tryz.ntmps68 Aa fun a F => ?_
 have W := Stw.start Y w0
 unfold Ea at H
 refine vc tk 2 F W fun a w F W => ?_
 refine ls F W Aa (Bj (v := Value.string (bs ([] : lb_))) F Aa).q fun a w F W => ?_
 refine Bo tk 15 F W fun a w F W => ?_
 refine BS F Aa (fun hb => ?_) fun hb => ?_
 ·
  have H := BB (B4 hb) H
  rw [hb] at F
  refine vc tk 2 F W fun a w F W => ?_
  refine ls F W Aa (Bj (v := Value.string (bs ([115, 114, 99] : lb_))) F Aa).q fun a w F W => ?_
  refine Bo tk 2 F W fun a w F W => ?_
  refine Ah (AC (Aw ?_))
  subst H
  refine Av (.inl Aa) F W Aa (Am F Aa) ?_
  exact ⟨rfl, W.done⟩
 have H := BC (B1 hb) H
 rw [hb] at F
 refine vc tk 6 F W fun a w F W => ?_
 refine BS F Aa (fun hb => ?_) fun hb => ?_
 ·
  have H := BB (B4 hb) H
  rw [hb] at F
  refine vc tk 2 F W fun a w F W => ?_
  refine ls F W Aa (Bj (v := Value.string (bs ([100, 115, 116] : lb_))) F Aa).q fun a w F W => ?_
  refine Bo tk 2 F W fun a w F W => ?_
  refine Ah (AC (Aw ?_))
  subst H
  refine Av (.inl Aa) F W Aa (Am F Aa) ?_
  exact ⟨rfl, W.done⟩
 have H := BC (B1 hb) H
 rw [hb] at F
 refine vc tk 6 F W fun a w F W => ?_
 refine BS F Aa (fun hb => ?_) fun hb => ?_
 ·
  have H := BB (B4 hb) H
  rw [hb] at F
  refine vc tk 2 F W fun a w F W => ?_
  refine ls F W Aa (Bj (v := Value.string (bs ([107, 105, 110, 100] : lb_))) F Aa).q fun a w F W => ?_
  refine Bo tk 2 F W fun a w F W => ?_
  refine Ah (AC (Aw ?_))
  subst H
  refine Av (.inl Aa) F W Aa (Am F Aa) ?_
  exact ⟨rfl, W.done⟩
 have H := BC (B1 hb) H
 rw [hb] at F
 refine vc tk 6 F W fun a w F W => ?_
 refine BS F Aa (fun hb => ?_) fun hb => ?_
 ·
  have H := BB (B4 hb) H
  rw [hb] at F
  refine vc tk 2 F W fun a w F W => ?_
  refine ls F W Aa (Bj (v := Value.string (bs ([116, 97, 103] : lb_))) F Aa).q fun a w F W => ?_
  refine Bo tk 2 F W fun a w F W => ?_
  refine Ah (AC (Aw ?_))
  subst H
  refine Av (.inl Aa) F W Aa (Am F Aa) ?_
  exact ⟨rfl, W.done⟩
 have H := BC (B1 hb) H
 rw [hb] at F
 refine vc tk 6 F W fun a w F W => ?_
 refine BS F Aa (fun hb => ?_) fun hb => ?_
 ·
  have H := BB (B4 hb) H
  rw [hb] at F
  refine vc tk 2 F W fun a w F W => ?_
  refine ls F W Aa (Bj (v := Value.string (bs ([112, 111, 114, 116] : lb_))) F Aa).q fun a w F W => ?_
  refine Bo tk 2 F W fun a w F W => ?_
  refine Ah (AC (Aw ?_))
  subst H
  refine Av (.inl Aa) F W Aa (Am F Aa) ?_
  exact ⟨rfl, W.done⟩
 have H := BC (B1 hb) H
 rw [hb] at F
 refine AD (Az ?_)
 refine vn tk 2 F W fun a w F W => ?_
 refine ls F W Aa (Bj (v := Value.string (bs ([63] : lb_))) F Aa).q fun a w F W => ?_
 refine Bo tk 2 F W fun a w F W => ?_
 refine Ah ?_
 subst H
 refine Av (.inl Aa) F W Aa (Am F Aa) ?_
 exact ⟨rfl, W.done⟩
theorem cN : Has Tryz.prog 68 := BM Tryz.func68
theorem Zw : Has Tryz.prog 34 := BM Tryz.func34
def Cc (fRec_policy_Text : Tr39 → Option lb_) (p0 : List Tr39) : (List lb_ × Int) → Option ((List lb_ × Int) ⊕ (List lb_))
  | (x2, x3) => (if x3 < (p0.length : Int) then (ix p0 x3).bind fun x4 => (fRec_policy_Text (Tr39.of (x4.un.1, Tr36.of (x4.un.2.1.un.1, x4.un.2.1.un.2.1, x4.un.2.1.un.2.2.1, x4.un.2.1.un.2.2.2), x4.un.2.2.1, x4.un.2.2.2.1, x4.un.2.2.2.2))).bind fun x5 => (if (decide (x4.un.1 = 3) || (decide (x4.un.1 = 4) || decide (x4.un.1 = 5))) = true then (GP ([40] : lb_) x5).bind fun x7 => (GP x7 ([41] : lb_)).bind fun x8 => some x8 else some x5).bind fun x6 => (GP x2 ([x6] : List lb_)).bind fun x9 => some (.inl (x9, AJ (x3 + 1))) else some (.inr x2))
def CC (fRec_policy_Text : Tr39 → Option lb_) (p0 : List Tr39) : Option (List lb_) := (AB (Cc fRec_policy_Text p0) ([], 0)).bind fun x1 => some x1
theorem F2 (fRec_policy_Text : Tr39 → Option lb_) (ih_policy_Text : ∀ (Y : Nat → Prop) (w0 : World) (v1 : Value) (v2 : Value) (p0 : Tr39) (r : lb_) (H : fRec_policy_Text p0 = some r) (h_v1 : Sl w0 (NX []) Bm v1 p0.un.2.1.un.2.2.2) (h_v2 : Sl w0 (NX []) DF v2 p0.un.2.2.2.2) (hG : Gk [] w0), ca_ 34 #[.agg #[Jint p0.un.1, Jint p0.un.2.1.un.1, Jint p0.un.2.1.un.2.1, Jint p0.un.2.1.un.2.2.1, v1, Jint p0.un.2.2.1, Jint p0.un.2.2.2.1, v2]] w0 fun e w' => e = .returned (.string (bs r)) ∧ Below w0.heap.size w0 w') (Y : Nat → Prop) (w0 : World) (v1 : Value) (p0 : List Tr39) (r : List lb_) (H : CC fRec_policy_Text p0 = some r) (h_v1 : Sl w0 (NX []) DF v1 p0) (hG : Gk [] w0) :
    ca_ 71 #[v1] w0 fun e w' => ∃ x : Value, e = .returned (x) ∧ sy Y w0 [] [row (x) 9 Rp.str r] w' := by
 refine enter Tryz.func71 Aa Tryz.ntmps71 Aa fun a F => ?_
 have W := Stw.start Y w0
 obtain ⟨v2, h1, h_v1⟩ := h_v1.ex Er
 unfold CC at H
 refine vc tk 10 F W fun a w F W => ?_
 obtain ⟨o1, G1, K1⟩ := Af H
 refine Ap (fun a w => ∃ x1 : List lb_, ∃ v3 : Value, some (x1) = some o1 ∧ Fr 37 [] [(2, .slice none 0 0), (3, v3)] a ∧ sy Y w0 [] [row v3 9 Rp.str x1] w) ?_ ?_
 ·
  have H := G1
  refine vc tk 3 F W fun a w F W => ?_
  refine ls F W Aa (Bz (r := DF) (l := p0) Km Aa F Aa (Al Er h1 (Ae h_v1))).q fun a w F W => ?_
  refine Bo tk 4 F W fun a w F W => ?_
  have W := W.nilRow 9 Rp.str
  refine AQ H (fun s a w => ∃ v4 : Value, Fr 37 [] [(2, .slice none 0 0), (3, v4), (7, v1), (8, Jint (p0.length : Int)), (9, Jint s.2)] a ∧ sy Y w0 [] [row v4 9 Rp.str s.1] w) ⟨(Value.slice none 0 0), F.ra Aa, W⟩ fun s o a w H L2 hR => ?_
  obtain ⟨x2, x3⟩ := s
  obtain ⟨v4, F, W⟩ := hR
  have F : Fr 37 [] [(2, .slice none 0 0), (3, v4), (7, v1), (8, Jint (p0.length : Int)), (9, Jint x3)] a := F
  have W : sy Y w0 [] [row v4 9 Rp.str x2] w := W
  rw [Cc] at H
  refine vc tk 6 F W fun a w F W => ?_
  refine A1 F Aa H (fun F H => ?_) fun F H => ?_
  ·
   refine EX tk 6 F W fun a w F W => ?_
   obtain ⟨x4, h2, H⟩ := Af H
   obtain ⟨v5, h3, h4⟩ := CS h1 h2
   have h5 : Ip v5 = [Jint x4.un.1, Jint x4.un.2.1.un.1, Jint x4.un.2.1.un.2.1, Jint x4.un.2.1.un.2.2.1, (v5.2.1.2.2.2.1), Jint x4.un.2.2.1, Jint x4.un.2.2.2.1, (v5.2.2.2.2.1)] := congrArg (fun q : Tr39 => ([Jint q.un.1, Jint q.un.2.1.un.1, Jint q.un.2.1.un.2.1, Jint q.un.2.1.un.2.2.1, (v5.2.1.2.2.2.1), Jint q.un.2.2.1, Jint q.un.2.2.2.1, (v5.2.2.2.2.1)] : List Value)) h4
   refine ls F W Aa (Au (r := LM) Ta F Aa Aa (Ae h_v1) h3).q fun a w F W => ?_
   refine ls F W Aa (Aj (y := Value.agg #[Jint x4.un.1, Jint x4.un.2.1.un.1, Jint x4.un.2.1.un.2.1, Jint x4.un.2.1.un.2.2.1, (v5.2.1.2.2.2.1), Jint x4.un.2.2.1, Jint x4.un.2.2.2.1, (v5.2.2.2.2.1)]) (j := 0) (i := x3) (enc := Ip) F Aa Aa (Ae h_v1) h3 Pt I7 (by rw [h5]; rfl)).q fun a w F W => ?_
   refine Bw (cs := (Gt)) F W Aa Sv Aa fun b1 a w F W => ?_
   refine CE 0 F W Aa Aa Aa I7 Aa Aa (Ac Aa (Ac Aa (Ac Aa (Ac Aa (Ac ((Bf (Ae h_v1) h3 (Ag.snd (Ag.fst (Ag.snd (Ag.snd (Ag.snd Ag.here))))) (congrArg (fun q : Tr39 => q.un.2.1.un.2.2.2) h4)) _ W).one (Ac Aa (Ac Aa (Ac ((Bf (Ae h_v1) h3 (Ag.snd (Ag.snd (Ag.snd (Ag.snd Ag.here)))) (congrArg (fun q : Tr39 => q.un.2.2.2.2) h4)) _ W).one Bn)))))))) fun w W => ?_
   refine Es tk 5 [0] F W (ai fun a w F W => ?_)
   obtain ⟨x5, h6, H⟩ := Af H
   refine ls F W Aa (AA (v := Value.string (bs x5)) F Zw Aa (fun w W => ih_policy_Text any w ((v5.2.1.2.2.2.1)) ((v5.2.2.2.2.1)) (Tr39.of (x4.un.1, Tr36.of (x4.un.2.1.un.1, x4.un.2.1.un.2.1, x4.un.2.1.un.2.2.1, x4.un.2.1.un.2.2.2), x4.un.2.2.1, x4.un.2.2.2.1, x4.un.2.2.2.2)) _ h6 (Cl (Bf (Ae h_v1) h3 (Ag.snd (Ag.fst (Ag.snd (Ag.snd (Ag.snd Ag.here))))) (congrArg (fun q : Tr39 => q.un.2.1.un.2.2.2) h4)) W) (Cl (Bf (Ae h_v1) h3 (Ag.snd (Ag.snd (Ag.snd (Ag.snd Ag.here)))) (congrArg (fun q : Tr39 => q.un.2.2.2.2) h4)) W) (hG.go0 W))) fun a w F W => ?_
   refine vl tk 2 F W fun a w F W => ?_
   refine Ab ?_
   obtain ⟨o3, G3, K3⟩ := Af H
   refine Ap (fun a w => ∃ x6 : lb_, some (x6) = some o3 ∧ Fr 37 [] [(2, .slice none 0 0), (3, v4), (6, .string (bs x6)), (7, v1), (8, Jint (p0.length : Int)), (9, Jint x3)] a ∧ sy Y w0 [(b1, [Jint x4.un.1, Jint x4.un.2.1.un.1, Jint x4.un.2.1.un.2.1, Jint x4.un.2.1.un.2.2.1, (v5.2.1.2.2.2.1), Jint x4.un.2.2.1, Jint x4.un.2.2.2.1, (v5.2.2.2.2.1)])] [row v4 9 Rp.str x2] w) ?_ ?_
   ·
    have H := G3
    refine Ap (fun a w => Fr 37 [] [(2, .slice none 0 0), (3, v4), (6, .string (bs x5)), (7, v1), (8, Jint (p0.length : Int)), (9, Jint x3), (27, .bool (decide (x4.un.1 = 3) || (decide (x4.un.1 = 4) || decide (x4.un.1 = 5))))] a ∧ sy Y w0 [(b1, [Jint x4.un.1, Jint x4.un.2.1.un.1, Jint x4.un.2.1.un.2.1, Jint x4.un.2.1.un.2.2.1, (v5.2.1.2.2.2.1), Jint x4.un.2.2.1, Jint x4.un.2.2.2.1, (v5.2.2.2.2.1)])] [row v4 9 Rp.str x2] w) ?_ ?_
    ·
     refine CT tk 5 [0] F W (ai fun a w F W => ?_)
     rcases bxq (decide (x4.un.1 = 3)) with hb0 | hb0
     ·
      rw [hb0] at F
      refine vl tk 10 F W fun a w F W => ?_
      refine Ab ?_
      exact ⟨F.re ⟨rfl, Aa, Aa, Aa, Aa, Aa, (CL (by try rw [hb0]; all_goals simp only [CM])), trivial⟩, W⟩
     rw [hb0] at F
     refine DU tk 5 [0] F W (ai fun a w F W => ?_)
     rcases bxq (decide (x4.un.1 = 4)) with hb1 | hb1
     ·
      rw [hb1] at F
      refine vl tk 5 F W fun a w F W => ?_
      refine Ab ?_
      exact ⟨F.re ⟨rfl, Aa, Aa, Aa, Aa, Aa, (CL (by try rw [hb0]; try rw [hb1]; all_goals simp only [CM])), trivial⟩, W⟩
     rw [hb1] at F
     refine DU tk 5 [0] F W (ai fun a w F W => ?_)
     refine Ab ?_
     exact ⟨F.re ⟨rfl, Aa, Aa, Aa, Aa, Aa, (CL (by try rw [hb0]; try rw [hb1]; all_goals simp only [CM])), trivial⟩, W⟩
    rintro a w ⟨F, W⟩
    refine Bi F Aa H (fun F H => ?_) fun F H => ?_
    ·
     refine vc tk 2 F W fun a w F W => ?_
     obtain ⟨x7, h7, H⟩ := Af H
     refine ls F W Aa (Ha (l := ([40] : lb_)) (m := x5) F Aa Aa h7).q fun a w F W => ?_
     obtain ⟨x8, h8, H⟩ := Af H
     refine ls F W Aa (Ha (l := x7) (m := ([41] : lb_)) F Aa Aa h8).q fun a w F W => ?_
     refine vl tk 2 F W fun a w F W => ?_
     refine Ab ?_
     exact ⟨_, H, F.ra Aa, W⟩
    refine AD (Ab ?_)
    exact ⟨_, H, F.ra Aa, W⟩
   rintro a w ⟨x6, hj, F, W⟩
   have hj := Ay hj
   subst hj
   have H := K3
   refine vc tk 3 F W fun a w F W => ?_
   refine GT (z := Value.string (bs ([] : lb_))) (cs := [.string (bs x6)]) Rp.str ([x6] : List lb_) F W Aa V0 Z9 Aa Aa Aa Aa Aa Aa (Fl.str.repL _ _ ([x6] : List lb_)) fun v6 a w F W => ?_
   obtain ⟨x9, h9, H⟩ := Af H
   refine DL (r := Rp.str) (i := 1) F W Aa V0 Aa Aa Aa Aa (EB W 0 Aa) h9 Aa fun v7 a w F W => ?_
   have W : sy Y w0 [(b1, [Jint x4.un.1, Jint x4.un.2.1.un.1, Jint x4.un.2.1.un.2.1, Jint x4.un.2.1.un.2.2.1, (v5.2.1.2.2.2.1), Jint x4.un.2.2.1, Jint x4.un.2.2.2.1, (v5.2.2.2.2.1)])] [row v7 9 Rp.str x9, row v6 9 Rp.str ([x6] : List lb_)] w := W
   refine vl tk 2 F W fun a w F W => ?_
   refine Az ?_
   refine vn tk 4 F W fun a w F W => ?_
   refine Ab ?_
   have W := W.sub (M' := []) (Z' := [row v7 9 Rp.str x9]) nl (sc nl)
   exact ⟨_, H, (v7), F.ra Aa, W⟩
  refine AN ?_
  iterate 2 refine A6 ?_
  refine AP (Ab ?_)
  have H := L2 _ H
  exact ⟨_, (v4), H, F.ra Aa, W⟩
 rintro a w ⟨x1, v3, hj, F, W⟩
 have hj := Ay hj
 subst hj
 have H := K1
 refine vc tk 6 F W fun a w F W => ?_
 refine Ah ?_
 have H := Ay H
 subst H
 refine Av (.inl Aa) F W Aa (Am F Aa) ?_
 exact ⟨(v3), Aa, W⟩
theorem Zz : Has Tryz.prog 71 := BM Tryz.func71
abbrev DV (a0 : Nat) (a1 : Tr39) (a2 : Value) (a3 : Value) : List (Nat × List Value) := [(a0, [Jint a1.un.1, Jint a1.un.2.1.un.1, Jint a1.un.2.1.un.2.1, Jint a1.un.2.1.un.2.2.1, a2, Jint a1.un.2.2.1, Jint a1.un.2.2.2.1, a3])]
def DR (fRec : Tr39 → Option lb_) (p0 : Tr39) : Option lb_ := (if p0.un.1 = 1 then (Ey (Tr36.of (p0.un.2.1.un.1, p0.un.2.1.un.2.1, p0.un.2.1.un.2.2.1, p0.un.2.1.un.2.2.2))).bind fun x1 => some x1 else (if p0.un.1 = 2 then (GP (Ea p0.un.2.2.1) ([32, 58, 61, 32] : lb_)).bind fun x2 => (PW p0.un.2.2.2.1).bind fun x3 => (GP x2 x3).bind fun x4 => some x4 else (if p0.un.1 = 3 then ((CC fRec) p0.un.2.2.2.2).bind fun x5 => (Kr x5 ([59, 32] : lb_)).bind fun x6 => some x6 else (if p0.un.1 = 4 then ((CC fRec) p0.un.2.2.2.2).bind fun x7 => (Kr x7 ([32, 124, 32] : lb_)).bind fun x8 => some x8 else (if p0.un.1 = 5 then (Kc (Tr36.of (p0.un.2.1.un.1, p0.un.2.1.un.2.1, p0.un.2.1.un.2.2.1, p0.un.2.1.un.2.2.2))).bind fun x9 => (GP ([105, 102, 32] : lb_) x9).bind fun x10 => (GP x10 ([32, 116, 104, 101, 110, 32] : lb_)).bind fun x11 => ((CC fRec) p0.un.2.2.2.2).bind fun x12 => (Kr x12 ([32, 101, 108, 115, 101, 32] : lb_)).bind fun x13 => (GP x11 x13).bind fun x14 => some x14 else some ([63] : lb_))))))
def D8 : Nat → Tr39 → Option lb_
  | 0 => fun _ => none
  | n + 1 => DR (D8 n)
def E9 (p0 : Tr39) : Option lb_ := FT fun n => D8 n p0
theorem M7 (fRec : Tr39 → Option lb_) (ih : ∀ (Y : Nat → Prop) (w0 : World) (v1 : Value) (v2 : Value) (p0 : Tr39) (r : lb_) (H : fRec p0 = some r) (h_v1 : Sl w0 (NX []) Bm v1 p0.un.2.1.un.2.2.2) (h_v2 : Sl w0 (NX []) DF v2 p0.un.2.2.2.2) (hG : Gk [] w0), ca_ 34 #[.agg #[Jint p0.un.1, Jint p0.un.2.1.un.1, Jint p0.un.2.1.un.2.1, Jint p0.un.2.1.un.2.2.1, v1, Jint p0.un.2.2.1, Jint p0.un.2.2.2.1, v2]] w0 fun e w' => e = .returned (.string (bs r)) ∧ Below w0.heap.size w0 w') (Y : Nat → Prop) (w0 : World) (v1 : Value) (v2 : Value) (p0 : Tr39) (r : lb_) (H : DR fRec p0 = some r) (h_v1 : Sl w0 (NX []) Bm v1 p0.un.2.1.un.2.2.2) (h_v2 : Sl w0 (NX []) DF v2 p0.un.2.2.2.2) (hG : Gk [] w0) :
    ca_ 34 #[.agg #[Jint p0.un.1, Jint p0.un.2.1.un.1, Jint p0.un.2.1.un.2.1, Jint p0.un.2.1.un.2.2.1, v1, Jint p0.un.2.2.1, Jint p0.un.2.2.2.1, v2]] w0 fun e w' => e = .returned (.string (bs r)) ∧ Below w0.heap.size w0 w' := by
 refine enter Tryz.func34 Aa Tryz.ntmps34 Aa fun a F => ?_
 have W := Stw.start Y w0
 obtain ⟨v3, h1, h_v1⟩ := h_v1.ex BK
 obtain ⟨v4, h2, h_v2⟩ := h_v2.ex Er
 unfold DR at H
 refine vc tk 2 F W fun a w F W => ?_
 refine BQ (cs := (C7 p0 v1 v2)) F W Aa Aa Aa fun b1 a w F W => ?_
 refine ls F W Aa (Bj (v := Value.string (bs ([] : lb_))) F Aa).q fun a w F W => ?_
 refine Es tk 16 [0] F W (ai fun a w F W => ?_)
 refine BS F Aa (fun hb => ?_) fun hb => ?_
 ·
  have H := BB (B4 hb) H
  rw [hb] at F
  refine CT tk 4 [0] F W (ai fun a w F W => ?_)
  obtain ⟨x1, h3, H⟩ := Af H
  refine ls F W Aa (AA (v := Value.string (bs x1)) F b5 Aa (fun w W => Kp any w (v1) (Tr36.of (p0.un.2.1.un.1, p0.un.2.1.un.2.1, p0.un.2.1.un.2.2.1, p0.un.2.1.un.2.2.2)) _ h3 (Cl (Al BK h1 (Ae h_v1)) W) (hG.go0 W))) fun a w F W => ?_
  refine Bo tk 3 F W fun a w F W => ?_
  refine Ah (AC (Aw ?_))
  have H := Ay H
  subst H
  refine Av (.inl Aa) F W Aa (Am F Aa) ?_
  exact ⟨rfl, W.done⟩
 have H := BC (B1 hb) H
 rw [hb] at F
 refine vc tk 6 F W fun a w F W => ?_
 refine BS F Aa (fun hb => ?_) fun hb => ?_
 ·
  have H := BB (B4 hb) H
  rw [hb] at F
  refine FG ?_
  refine B5 W MO (by kernel_rfl) ?_
  refine qs F Aa (Aq Ih Aa Aa Aa T3 F Aa 5 Aa).q fun a F => ?_
  refine qs F Aa (Bk (v := Jint p0.un.2.2.1) 0 F Aa Aa T3 Aa).q fun a F => ?_
  refine qs F Aa (AA (v := Value.string (bs (Ea p0.un.2.2.1))) F cN Aa (fun w W => La any w p0.un.2.2.1 _ Aa)) fun a F => ?_
  obtain ⟨x2, h4, H⟩ := Af H
  refine qs F Aa (Ha (l := (Ea p0.un.2.2.1)) (m := ([32, 58, 61, 32] : lb_)) F Aa Aa h4).q fun a F => ?_
  refine qs F Aa (Aq Ih Aa Aa Aa T3 F Aa 6 Aa).q fun a F => ?_
  refine qs F Aa (Bk (v := Jint p0.un.2.2.2.1) 0 F Aa Aa T3 Aa).q fun a F => ?_
  obtain ⟨x3, h5, H⟩ := Af H
  refine qs F Aa (AA (v := Value.string (bs x3)) F aF Aa (fun w W => VB any w p0.un.2.2.2.1 _ h5 (hG.go0 W))) fun a F => ?_
  obtain ⟨x4, h6, H⟩ := Af H
  refine qs F Aa (Ha (l := x2) (m := x3) F Aa Aa h6).q fun a F => ?_
  refine qs F Aa (Bj F Aa).q fun a F => ?_
  refine AK fun w W => ?_
  refine Ab (Ah (AC (Aw ?_)))
  have H := Ay H
  subst H
  refine Av (.inl Aa) F W Aa (Am F Aa) ?_
  exact ⟨rfl, W.done⟩
 have H := BC (B1 hb) H
 rw [hb] at F
 refine vc tk 6 F W fun a w F W => ?_
 refine BS F Aa (fun hb => ?_) fun hb => ?_
 ·
  have H := BB (B4 hb) H
  rw [hb] at F
  refine CT tk 4 [0] F W (ai fun a w F W => ?_)
  obtain ⟨x5, h7, H⟩ := Af H
  refine AO (Ml := []) (Zl := []) (β := Value) (rv := fun x => x) (MM := fun x => []) (ZZ := fun x => [row x 9 Rp.str x5]) F W Zz Aa Aa (fun hL => (F2 fRec ih) _ w (v2) p0.un.2.2.2.2 _ h7 ((Al Er h2 (Ae h_v2)) w W).nx (hG.go0 W)) fun x a w F W => ?_
  obtain ⟨v5, rfl⟩ : ∃ y, y = x := ⟨x, rfl⟩
  have W : sy Y w0 (DV b1 p0 v1 v2) [row v5 9 Rp.str x5] w := W
  obtain ⟨x6, h8, H⟩ := Af H
  refine ls F W Aa (AA (v := Value.string (bs x6)) F YQ Aa (fun w W => Ql any w (v5) x5 ([59, 32] : lb_) _ h8 (Cl (Ai 0 Aa) W))) fun a w F W => ?_
  refine Bo tk 3 F W fun a w F W => ?_
  refine Ah (AC (Aw ?_))
  have H := Ay H
  subst H
  refine Av (.inl Aa) F W Aa (Am F Aa) ?_
  exact ⟨rfl, W.done⟩
 have H := BC (B1 hb) H
 rw [hb] at F
 refine vc tk 6 F W fun a w F W => ?_
 refine BS F Aa (fun hb => ?_) fun hb => ?_
 ·
  have H := BB (B4 hb) H
  rw [hb] at F
  refine CT tk 4 [0] F W (ai fun a w F W => ?_)
  obtain ⟨x7, h9, H⟩ := Af H
  refine AO (Ml := []) (Zl := []) (β := Value) (rv := fun x => x) (MM := fun x => []) (ZZ := fun x => [row x 9 Rp.str x7]) F W Zz Aa Aa (fun hL => (F2 fRec ih) _ w (v2) p0.un.2.2.2.2 _ h9 ((Al Er h2 (Ae h_v2)) w W).nx (hG.go0 W)) fun x a w F W => ?_
  obtain ⟨v6, rfl⟩ : ∃ y, y = x := ⟨x, rfl⟩
  have W : sy Y w0 (DV b1 p0 v1 v2) [row v6 9 Rp.str x7] w := W
  obtain ⟨x8, h10, H⟩ := Af H
  refine ls F W Aa (AA (v := Value.string (bs x8)) F YQ Aa (fun w W => Ql any w (v6) x7 ([32, 124, 32] : lb_) _ h10 (Cl (Ai 0 Aa) W))) fun a w F W => ?_
  refine Bo tk 3 F W fun a w F W => ?_
  refine Ah (AC (Aw ?_))
  have H := Ay H
  subst H
  refine Av (.inl Aa) F W Aa (Am F Aa) ?_
  exact ⟨rfl, W.done⟩
 have H := BC (B1 hb) H
 rw [hb] at F
 refine vc tk 6 F W fun a w F W => ?_
 refine BS F Aa (fun hb => ?_) fun hb => ?_
 ·
  have H := BB (B4 hb) H
  rw [hb] at F
  refine FG ?_
  refine Ef [(true, 0), (true, 1), (true, 5), (true, 6), (false, 2), (true, 3), (true, 4), (false, 7), (false, 8), (true, 9), (false, 10)] (CN ⟨Y, [], w0⟩ [(some 2, b1, [Jint p0.un.1, Jint p0.un.2.1.un.1, Jint p0.un.2.1.un.2.1, Jint p0.un.2.1.un.2.2.1, v1, Jint p0.un.2.2.1, Jint p0.un.2.2.2.1, v2]), (some 7, b1, [Jint p0.un.1, Jint p0.un.2.1.un.1, Jint p0.un.2.1.un.2.1, Jint p0.un.2.1.un.2.2.1, v1, Jint p0.un.2.2.1, Jint p0.un.2.2.2.1, v2])] []) (fun ch a d v w h => by cases d <;> exact h) MO (by kernel_rfl) W (fun w W => ⟨_, _, W, (all_cons (fun _ => (.head _)) (all_cons (fun _ => (.head _)) Ak)), Ak⟩) fun w W => ?_
  refine A9 (R := []) F Aa Aa (yC fun M Z hN hZ => Aq Ih Aa Aa Aa GN F Aa 1 Aa) Aa Aa fun a F => ?_
  refine A9 (R := [2]) F Aa Aa (yC fun M Z hN hZ => Cx (cs := (C7 p0 v1 v2)) (v := Value.agg #[Jint p0.un.2.1.un.1, Jint p0.un.2.1.un.2.1, Jint p0.un.2.1.un.2.2.1, v1]) F Aa (hN ((some 2), b1, (C7 p0 v1 v2)) (.head _) Aa) GN Aa) (by kernel_rfl) Aa fun a F => ?_
  refine A9 (R := []) F Aa Aa (yC fun M Z hN hZ => Aq Ih Aa Aa Aa UB F Aa 7 Aa) Aa Aa fun a F => ?_
  refine A9 (R := [7]) F Aa Aa (yC fun M Z hN hZ => Cx (cs := (C7 p0 v1 v2)) (v := v2) F Aa (hN ((some 7), b1, (C7 p0 v1 v2)) (.tail _ (.head _)) Aa) UB Aa) (by kernel_rfl) Aa fun a F => ?_
  refine Dt Aa ?_
  obtain ⟨x9, h11, H⟩ := Af H
  refine ls F W Aa (AA (v := Value.string (bs x9)) F ZM Aa (fun w W => My any w (v1) (Tr36.of (p0.un.2.1.un.1, p0.un.2.1.un.2.1, p0.un.2.1.un.2.2.1, p0.un.2.1.un.2.2.2)) _ h11 (Cl (Al BK h1 (Ae h_v1)) W) (hG.go0 W))) fun a w F W => ?_
  refine Bc (N2 := []) (NZ2 := []) (N3 := [(some 2, b1, [Jint p0.un.1, Jint p0.un.2.1.un.1, Jint p0.un.2.1.un.2.1, Jint p0.un.2.1.un.2.2.1, v1, Jint p0.un.2.2.1, Jint p0.un.2.2.2.1, v2]), (some 7, b1, [Jint p0.un.1, Jint p0.un.2.1.un.1, Jint p0.un.2.1.un.2.1, Jint p0.un.2.1.un.2.2.1, v1, Jint p0.un.2.2.1, Jint p0.un.2.2.2.1, v2])]) (NZ3 := []) W Aa Aa (all_cons (fun h => An (by kernel_rfl) h) (all_cons (fun _ => (.head _)) Ak)) Ak ?_
  obtain ⟨x10, h12, H⟩ := Af H
  refine A9 (R := []) F Aa Aa (yC fun M Z hN hZ => Ha (l := ([105, 102, 32] : lb_)) (m := x9) F Aa Aa h12) Aa Aa fun a F => ?_
  obtain ⟨x11, h13, H⟩ := Af H
  refine A9 (R := []) F Aa Aa (yC fun M Z hN hZ => Ha (l := x10) (m := ([32, 116, 104, 101, 110, 32] : lb_)) F Aa Aa h13) Aa Aa fun a F => ?_
  refine Dt Aa ?_
  obtain ⟨x12, h14, H⟩ := Af H
  refine AO (Ml := []) (Zl := []) (β := Value) (rv := fun x => x) (MM := fun x => []) (ZZ := fun x => [row x 9 Rp.str x12]) F W Zz Aa Aa (fun hL => (F2 fRec ih) _ w (v2) p0.un.2.2.2.2 _ h14 ((Al Er h2 (Ae h_v2)) w W).nx (hG.go0 W)) fun x a w F W => ?_
  obtain ⟨v7, rfl⟩ : ∃ y, y = x := ⟨x, rfl⟩
  have W : sy Y w0 (DV b1 p0 v1 v2) [row v7 9 Rp.str x12] w := W
  refine Bc (N2 := []) (NZ2 := []) (N3 := [(some 2, b1, [Jint p0.un.1, Jint p0.un.2.1.un.1, Jint p0.un.2.1.un.2.1, Jint p0.un.2.1.un.2.2.1, v1, Jint p0.un.2.2.1, Jint p0.un.2.2.2.1, v2]), (some 7, b1, [Jint p0.un.1, Jint p0.un.2.1.un.1, Jint p0.un.2.1.un.2.1, Jint p0.un.2.1.un.2.2.1, v1, Jint p0.un.2.2.1, Jint p0.un.2.2.2.1, v2])]) (NZ3 := []) W Aa Aa (all_cons (fun h => An (by kernel_rfl) h) (all_cons (fun h => An (by kernel_rfl) h) Ak)) Ak ?_
  refine Dt Aa ?_
  obtain ⟨x13, h15, H⟩ := Af H
  refine ls F W Aa (AA (v := Value.string (bs x13)) F YQ Aa (fun w W => Ql any w (v7) x12 ([32, 101, 108, 115, 101, 32] : lb_) _ h15 (Cl (Ai 0 Aa) W))) fun a w F W => ?_
  refine Bc (N2 := []) (NZ2 := []) (N3 := [(some 2, b1, [Jint p0.un.1, Jint p0.un.2.1.un.1, Jint p0.un.2.1.un.2.1, Jint p0.un.2.1.un.2.2.1, v1, Jint p0.un.2.2.1, Jint p0.un.2.2.2.1, v2]), (some 7, b1, [Jint p0.un.1, Jint p0.un.2.1.un.1, Jint p0.un.2.1.un.2.1, Jint p0.un.2.1.un.2.2.1, v1, Jint p0.un.2.2.1, Jint p0.un.2.2.2.1, v2])]) (NZ3 := []) W Aa Aa (all_cons (fun h => An (by kernel_rfl) h) (all_cons (fun h => An (by kernel_rfl) h) Ak)) Ak ?_
  obtain ⟨x14, h16, H⟩ := Af H
  refine A9 (R := []) F Aa Aa (yC fun M Z hN hZ => Ha (l := x11) (m := x13) F Aa Aa h16) Aa Aa fun a F => ?_
  refine Dt Aa ?_
  refine ls F W Aa (Bj F Aa).q fun a w F W => ?_
  refine Bc (N2 := []) (NZ2 := []) (N3 := [(some 2, b1, [Jint p0.un.1, Jint p0.un.2.1.un.1, Jint p0.un.2.1.un.2.1, Jint p0.un.2.1.un.2.2.1, v1, Jint p0.un.2.2.1, Jint p0.un.2.2.2.1, v2]), (some 7, b1, [Jint p0.un.1, Jint p0.un.2.1.un.1, Jint p0.un.2.1.un.2.1, Jint p0.un.2.1.un.2.2.1, v1, Jint p0.un.2.2.1, Jint p0.un.2.2.2.1, v2])]) (NZ3 := []) W Aa Aa (all_cons (fun h => An (by kernel_rfl) h) (all_cons (fun h => An (by kernel_rfl) h) Ak)) Ak ?_
  refine FL (Ab (Ah (AC (Aw ?_))))
  have H := Ay H
  subst H
  refine Av (.inl Aa) F W Aa (Am F Aa) ?_
  exact ⟨rfl, W.done⟩
 have H := BC (B1 hb) H
 rw [hb] at F
 refine AD (Az ?_)
 refine vn tk 2 F W fun a w F W => ?_
 refine ls F W Aa (Bj (v := Value.string (bs ([63] : lb_))) F Aa).q fun a w F W => ?_
 refine Bo tk 2 F W fun a w F W => ?_
 refine Ah ?_
 have H := Ay H
 subst H
 refine Av (.inl Aa) F W Aa (Am F Aa) ?_
 exact ⟨rfl, W.done⟩
theorem NC : ∀ (n : Nat) (Y : Nat → Prop) (w0 : World) (v1 : Value) (v2 : Value) (p0 : Tr39) (r : lb_) (H : D8 n p0 = some r) (h_v1 : Sl w0 (NX []) Bm v1 p0.un.2.1.un.2.2.2) (h_v2 : Sl w0 (NX []) DF v2 p0.un.2.2.2.2) (hG : Gk [] w0), ca_ 34 #[.agg #[Jint p0.un.1, Jint p0.un.2.1.un.1, Jint p0.un.2.1.un.2.1, Jint p0.un.2.1.un.2.2.1, v1, Jint p0.un.2.2.1, Jint p0.un.2.2.2.1, v2]] w0 fun e w' => e = .returned (.string (bs r)) ∧ Below w0.heap.size w0 w' := by
  intro n
  induction n with
  | zero => intro Y w0 v1 v2 p0 r H; exact nomatch H
  | succ n ih => intro Y w0 v1 v2 p0 r H h_v1 h_v2 hG; exact M7 (D8 n) ih Y w0 v1 v2 p0 r H h_v1 h_v2 hG
theorem KF (Y : Nat → Prop) (w0 : World) (v1 : Value) (v2 : Value) (p0 : Tr39) (r : lb_) (H : E9 p0 = some r) (h_v1 : Sl w0 (NX []) Bm v1 p0.un.2.1.un.2.2.2) (h_v2 : Sl w0 (NX []) DF v2 p0.un.2.2.2.2) (hG : Gk [] w0) :
    ca_ 34 #[.agg #[Jint p0.un.1, Jint p0.un.2.1.un.1, Jint p0.un.2.1.un.2.1, Jint p0.un.2.1.un.2.2.1, v1, Jint p0.un.2.2.1, Jint p0.un.2.2.2.1, v2]] w0 fun e w' => e = .returned (.string (bs r)) ∧ Below w0.heap.size w0 w' := by
  obtain ⟨n, H⟩ := BP H
  exact NC n Y w0 v1 v2 p0 r H h_v1 h_v2 hG
theorem RN : type_of% Tryz.underlying63 := Tryz.underlying63
theorem Z3 : (Tryz.prog.info? 3).bind (·.zero) = some (Jint 0) := by kernel_rfl
theorem DT : Et Tryz.prog 63 3 1 8 := Et.of RN (by kernel_rfl) (by kernel_rfl) (by kernel_rfl) (by decide)
theorem aO : Has Tryz.prog 55 := BM Tryz.func55
abbrev Gv (a0 : Nat) (a1 : Tr36) (a2 : Value) : List (Nat × List Value) := [(a0, [Jint a1.un.1, Jint a1.un.2.1, Jint a1.un.2.2.1, a2])]
def Cz (fRec : Tr36 → Int → Option (List Int)) (p0 : Tr36) (p1 : Int) : (List Int × Int) → Option ((List Int × Int) ⊕ (List Int))
  | (x4, x5) => (if x5 < (p0.un.2.2.2.length : Int) then (ix p0.un.2.2.2 x5).bind fun x6 => (fRec x6 p1).bind fun x7 => (GP x4 x7).bind fun x8 => some (.inl (x8, AJ (x5 + 1))) else some (.inr x4))
def Dk (fRec : Tr36 → Int → Option (List Int)) (p0 : Tr36) (p1 : Int) : Option (List Int) := (if (decide (p0.un.1 = 3) && decide (p0.un.2.1 = p1)) = true then (GP ([] : List Int) ([p0.un.2.2.1] : List Int)).bind fun x2 => some x2 else some ([])).bind fun x1 => (AB (Cz fRec p0 p1) (x1, 0)).bind fun x3 => some x3
def CI : Nat → Tr36 → Int → Option (List Int)
  | 0 => fun _ _ => none
  | n + 1 => Dk (CI n)
def Iy (p0 : Tr36) (p1 : Int) : Option (List Int) := FT fun n => CI n p0 p1
theorem Lr (fRec : Tr36 → Int → Option (List Int)) (ih : ∀ (Y : Nat → Prop) (w0 : World) (v1 : Value) (p0 : Tr36) (p1 : Int) (r : List Int) (H : fRec p0 p1 = some r) (h_v1 : Sl w0 (NX []) Bm v1 p0.un.2.2.2), ca_ 55 #[.agg #[Jint p0.un.1, Jint p0.un.2.1, Jint p0.un.2.2.1, v1], Jint p1] w0 fun e w' => ∃ x : Value, e = .returned (x) ∧ sy Y w0 [] [row (x) 3 ri r] w') (Y : Nat → Prop) (w0 : World) (v1 : Value) (p0 : Tr36) (p1 : Int) (r : List Int) (H : Dk fRec p0 p1 = some r) (h_v1 : Sl w0 (NX []) Bm v1 p0.un.2.2.2) :
    ca_ 55 #[.agg #[Jint p0.un.1, Jint p0.un.2.1, Jint p0.un.2.2.1, v1], Jint p1] w0 fun e w' => ∃ x : Value, e = .returned (x) ∧ sy Y w0 [] [row (x) 3 ri r] w' := by
 refine enter Tryz.func55 Aa Tryz.ntmps55 Aa fun a F => ?_
 have W := Stw.start Y w0
 obtain ⟨v2, h1, h_v1⟩ := h_v1.ex BK
 unfold Dk at H
 refine vc tk 2 F W fun a w F W => ?_
 refine BQ (cs := (Hl p0 v1)) F W Aa Aa Aa fun b1 a w F W => ?_
 refine Bo tk 8 F W fun a w F W => ?_
 obtain ⟨o1, G1, K1⟩ := Af H
 refine Ap (fun a w => ∃ x1 : List Int, ∃ v3 : Value, some (x1) = some o1 ∧ Fr 36 [] [(1, Jint p1), (2, pp b1), (4, .slice none 0 0), (5, v3)] a ∧ sy Y w0 (Gv b1 p0 v1) [row v3 3 ri x1] w) ?_ ?_
 ·
  have H := G1
  refine Ap (fun a w => Fr 36 [] [(1, Jint p1), (2, pp b1), (4, .slice none 0 0), (5, .slice none 0 0), (16, .bool (decide (p0.un.1 = 3) && decide (p0.un.2.1 = p1)))] a ∧ sy Y w0 (Gv b1 p0 v1) [] w) ?_ ?_
  ·
   refine CT tk 5 [0] F W (ai fun a w F W => ?_)
   rcases bxq (decide (p0.un.1 = 3)) with hb0 | hb0
   ·
    rw [hb0] at F
    refine DU tk 6 [0] F W (ai fun a w F W => ?_)
    refine Ab ?_
    exact ⟨F.re ⟨rfl, Aa, Aa, Aa, (CL (by try rw [hb0]; all_goals simp only [CM])), trivial⟩, W⟩
   rw [hb0] at F
   refine vl tk 6 F W fun a w F W => ?_
   refine Ab ?_
   exact ⟨F.re ⟨rfl, Aa, Aa, Aa, (CL (by try rw [hb0]; all_goals simp only [CM])), trivial⟩, W⟩
  rintro a w ⟨F, W⟩
  refine Bi F Aa H (fun F H => ?_) fun F H => ?_
  ·
   refine CT tk 4 [0] F W (ai fun a w F W => ?_)
   refine GT (z := Jint 0) (cs := [Jint p0.un.2.2.1]) ri ([p0.un.2.2.1] : List Int) F W Aa DT Z3 Aa Aa Aa Aa Aa Aa (Fl.int.repL _ _ ([p0.un.2.2.1] : List Int)) fun v4 a w F W => ?_
   have W := W.nilRow 3 ri
   obtain ⟨x2, h2, H⟩ := Af H
   refine DL (r := ri) (i := 0) F W Aa DT Aa Aa Aa Aa (EB W 1 Aa) h2 Aa fun v5 a w F W => ?_
   have W : sy Y w0 (Gv b1 p0 v1) [row v5 3 ri x2, row v4 3 ri ([p0.un.2.2.1] : List Int)] w := W
   refine vl tk 2 F W fun a w F W => ?_
   refine Ab ?_
   have W := W.sub (M' := (Gv b1 p0 v1)) (Z' := [row v5 3 ri x2]) sr (sc nl)
   exact ⟨_, (v5), H, F.ra Aa, W⟩
  refine AD (Ab ?_)
  have W := W.nilRow 3 ri
  exact ⟨_, (Value.slice none 0 0), H, F.ra Aa, W⟩
 rintro a w ⟨x1, v3, hj, F, W⟩
 have hj := Ay hj
 subst hj
 have H := K1
 obtain ⟨o2, G2, K2⟩ := Af H
 refine Ap (fun a w => ∃ x3 : List Int, ∃ v6 : Value, some (x3) = some o2 ∧ Fr 36 [] [(4, .slice none 0 0), (5, v6)] a ∧ sy Y w0 (Gv b1 p0 v1) [row v6 3 ri x3] w) ?_ ?_
 ·
  have H := G2
  refine CT tk 4 [0] F W (ai fun a w F W => ?_)
  refine ls F W Aa (Bz (r := Bm) (l := p0.un.2.2.2) IU Aa F Aa (Al BK h1 (Ae h_v1))).q fun a w F W => ?_
  refine Bo tk 4 F W fun a w F W => ?_
  refine AQ H (fun s a w => ∃ v7 : Value, Fr 36 [] [(1, Jint p1), (4, .slice none 0 0), (5, v7), (23, v1), (24, Jint (p0.un.2.2.2.length : Int)), (25, Jint s.2)] a ∧ sy Y w0 (Gv b1 p0 v1) [row v7 3 ri s.1] w) ⟨(v3), F.ra Aa, W⟩ fun s o a w H L3 hR => ?_
  obtain ⟨x4, x5⟩ := s
  obtain ⟨v7, F, W⟩ := hR
  have F : Fr 36 [] [(1, Jint p1), (4, .slice none 0 0), (5, v7), (23, v1), (24, Jint (p0.un.2.2.2.length : Int)), (25, Jint x5)] a := F
  have W : sy Y w0 (Gv b1 p0 v1) [row v7 3 ri x4] w := W
  rw [Cz] at H
  refine vc tk 6 F W fun a w F W => ?_
  refine A1 F Aa H (fun F H => ?_) fun F H => ?_
  ·
   refine EX tk 6 F W fun a w F W => ?_
   obtain ⟨x6, h3, H⟩ := Af H
   obtain ⟨v8, h4, h5⟩ := CS h1 h3
   have h6 : He v8 = [Jint x6.un.1, Jint x6.un.2.1, Jint x6.un.2.2.1, (v8.2.2.2.1)] := congrArg (fun q : Tr36 => ([Jint q.un.1, Jint q.un.2.1, Jint q.un.2.2.1, (v8.2.2.2.1)] : List Value)) h5
   refine ls F W Aa (Au (r := HE) PI F Aa Aa (Ae h_v1) h4).q fun a w F W => ?_
   refine ls F W Aa (Aj (y := Value.agg #[Jint x6.un.1, Jint x6.un.2.1, Jint x6.un.2.2.1, (v8.2.2.2.1)]) (j := 0) (i := x5) (enc := He) F Aa Aa (Ae h_v1) h4 Mp GN (by rw [h6]; rfl)).q fun a w F W => ?_
   refine Bw (cs := (Is)) F W Aa Q0 Aa fun b2 a w F W => ?_
   refine CE 0 F W Aa Aa Aa GN Aa Aa (Ac Aa (Ac Aa (Ac Aa (Ac ((Bf (Ae h_v1) h4 (Ag.snd (Ag.snd (Ag.snd Ag.here))) (congrArg (fun q : Tr36 => q.un.2.2.2) h5)) _ W).one Bn)))) fun w W => ?_
   refine Es tk 6 [0] F W (ai fun a w F W => ?_)
   obtain ⟨x7, h7, H⟩ := Af H
   refine AO (Ml := []) (Zl := []) (β := Value) (rv := fun x => x) (MM := fun x => []) (ZZ := fun x => [row x 3 ri x7]) F W aO Aa Aa (fun hL => ih _ w ((v8.2.2.2.1)) x6 p1 _ h7 ((Bf (Ae h_v1) h4 (Ag.snd (Ag.snd (Ag.snd Ag.here))) (congrArg (fun q : Tr36 => q.un.2.2.2) h5)) w W).nx) fun x a w F W => ?_
   obtain ⟨v9, rfl⟩ : ∃ y, y = x := ⟨x, rfl⟩
   have W : sy Y w0 [(b2, [Jint x6.un.1, Jint x6.un.2.1, Jint x6.un.2.2.1, (v8.2.2.2.1)]), (b1, (Hl p0 v1))] [row v9 3 ri x7, row v7 3 ri x4] w := W
   obtain ⟨x8, h8, H⟩ := Af H
   refine DL (r := ri) (i := 1) F W Aa DT Aa Aa Aa Aa (EB W 0 Aa) h8 Aa fun v10 a w F W => ?_
   have W : sy Y w0 [(b2, [Jint x6.un.1, Jint x6.un.2.1, Jint x6.un.2.2.1, (v8.2.2.2.1)]), (b1, (Hl p0 v1))] [row v10 3 ri x8, row v9 3 ri x7] w := W
   refine vl tk 2 F W fun a w F W => ?_
   refine Az ?_
   refine vn tk 4 F W fun a w F W => ?_
   refine Ab ?_
   have W := W.frontM (i := 1) Aa Aa
   have W := W.sub (M' := (Gv b1 p0 v1)) (Z' := [row v10 3 ri x8]) (sc nl) (sc nl)
   exact ⟨_, H, (v10), F.ra Aa, W⟩
  refine AN ?_
  iterate 2 refine A6 ?_
  refine AP (Ab ?_)
  have H := L3 _ H
  exact ⟨_, (v7), H, F.ra Aa, W⟩
 rintro a w ⟨x3, v6, hj, F, W⟩
 have hj := Ay hj
 subst hj
 have H := K2
 refine vc tk 6 F W fun a w F W => ?_
 refine Ah ?_
 have H := Ay H
 subst H
 refine Av (.inl Aa) F W Aa (Am F Aa) ?_
 have W := W.sub (M' := []) (Z' := [row v6 3 ri x3]) nl sr
 exact ⟨(v6), Aa, W⟩
theorem Mm : ∀ (n : Nat) (Y : Nat → Prop) (w0 : World) (v1 : Value) (p0 : Tr36) (p1 : Int) (r : List Int) (H : CI n p0 p1 = some r) (h_v1 : Sl w0 (NX []) Bm v1 p0.un.2.2.2), ca_ 55 #[.agg #[Jint p0.un.1, Jint p0.un.2.1, Jint p0.un.2.2.1, v1], Jint p1] w0 fun e w' => ∃ x : Value, e = .returned (x) ∧ sy Y w0 [] [row (x) 3 ri r] w' := by
  intro n
  induction n with
  | zero => intro Y w0 v1 p0 p1 r H; exact nomatch H
  | succ n ih => intro Y w0 v1 p0 p1 r H h_v1; exact Lr (CI n) ih Y w0 v1 p0 p1 r H h_v1
theorem Nd (Y : Nat → Prop) (w0 : World) (v1 : Value) (p0 : Tr36) (p1 : Int) (r : List Int) (H : Iy p0 p1 = some r) (h_v1 : Sl w0 (NX []) Bm v1 p0.un.2.2.2) :
    ca_ 55 #[.agg #[Jint p0.un.1, Jint p0.un.2.1, Jint p0.un.2.2.1, v1], Jint p1] w0 fun e w' => ∃ x : Value, e = .returned (x) ∧ sy Y w0 [] [row (x) 3 ri r] w' := by
  obtain ⟨n, H⟩ := BP H
  exact Mm n Y w0 v1 p0 p1 r H h_v1
theorem V9 : type_of% Tryz.underlying3 := Tryz.underlying3
theorem aL : type_of% Tryz.underlying5 := Tryz.underlying5
theorem bI : type_of% Tryz.underlying9 := Tryz.underlying9
theorem Yf : type_of% Tryz.underlying168 := Tryz.underlying168
def Ge (p0 : Int) : Option Int := (if 4294967296 ≤ p0 then some (Jr .u64 p0 32, 32) else some (p0, 0)).bind fun (x1, x2) => (if 65536 ≤ x1 then some (Jr .u64 x1 16, AJ (x2 + 16)) else some (x1, x2)).bind fun (x3, x4) => (if 256 ≤ x3 then some (Jr .u64 x3 8, AJ (x4 + 8)) else some (x3, x4)).bind fun (x5, x6) => (ix ([0, 1, 2, 2, 3, 3, 3, 3, 4, 4, 4, 4, 4, 4, 4, 4, 5, 5, 5, 5, 5, 5, 5, 5, 5, 5, 5, 5, 5, 5, 5, 5, 6, 6, 6, 6, 6, 6, 6, 6, 6, 6, 6, 6, 6, 6, 6, 6, 6, 6, 6, 6, 6, 6, 6, 6, 6, 6, 6, 6, 6, 6, 6, 6, 7, 7, 7, 7, 7, 7, 7, 7, 7, 7, 7, 7, 7, 7, 7, 7, 7, 7, 7, 7, 7, 7, 7, 7, 7, 7, 7, 7, 7, 7, 7, 7, 7, 7, 7, 7, 7, 7, 7, 7, 7, 7, 7, 7, 7, 7, 7, 7, 7, 7, 7, 7, 7, 7, 7, 7, 7, 7, 7, 7, 7, 7, 7, 7, 8, 8, 8, 8, 8, 8, 8, 8, 8, 8, 8, 8, 8, 8, 8, 8, 8, 8, 8, 8, 8, 8, 8, 8, 8, 8, 8, 8, 8, 8, 8, 8, 8, 8, 8, 8, 8, 8, 8, 8, 8, 8, 8, 8, 8, 8, 8, 8, 8, 8, 8, 8, 8, 8, 8, 8, 8, 8, 8, 8, 8, 8, 8, 8, 8, 8, 8, 8, 8, 8, 8, 8, 8, 8, 8, 8, 8, 8, 8, 8, 8, 8, 8, 8, 8, 8, 8, 8, 8, 8, 8, 8, 8, 8, 8, 8, 8, 8, 8, 8, 8, 8, 8, 8, 8, 8, 8, 8, 8, 8, 8, 8, 8, 8, 8, 8, 8, 8, 8, 8, 8, 8, 8, 8, 8, 8, 8, 8] : lb_) (IntKind.u8.wrap x5)).bind fun x7 => some (AJ (x6 + (AJ (x7.toNat : Int))))
theorem Ly (Y : Nat → Prop) (w0 : World)  (p0 : Int) (r : Int) (H : Ge p0 = some r)  :
    ca_ 123 #[.int .u64 p0] w0 fun e w' => e = .returned (Jint r) ∧ Below w0.heap.size w0 w' := by
 refine enter Tryz.func123 Aa Tryz.ntmps123 Aa fun a F => ?_
 have W := Stw.start Y w0
 unfold Ge at H
 refine vc tk 5 F W fun a w F W => ?_
 obtain ⟨o1, G1, K1⟩ := Af H
 refine Ap (fun a w => ∃ x1 : Int, ∃ x2 : Int, some ((x1, x2)) = some o1 ∧ Fr 25 [] [(0, .int .u64 x1), (2, Jint x2)] a ∧ sy Y w0 [] [] w) ?_ ?_
 ·
  have H := G1
  refine vc tk 6 F W fun a w F W => ?_
  refine A1 F Aa H (fun F H => ?_) fun F H => ?_
  ·
   refine vc tk 3 F W fun a w F W => ?_
   refine ls F W Aa (Tx F Aa Aa (by decide)).q fun a w F W => ?_
   refine Bo tk 6 F W fun a w F W => ?_
   refine Ab ?_
   exact ⟨_, _, H, F.ra Aa, W⟩
  refine AD (Ab ?_)
  exact ⟨_, _, H, F.ra Aa, W⟩
 rintro a w ⟨x1, x2, hj, F, W⟩
 have hj := Ay hj
 subst hj
 have H := K1
 obtain ⟨o2, G2, K2⟩ := Af H
 refine Ap (fun a w => ∃ x3 : Int, ∃ x4 : Int, some ((x3, x4)) = some o2 ∧ Fr 25 [] [(0, .int .u64 x3), (2, Jint x4)] a ∧ sy Y w0 [] [] w) ?_ ?_
 ·
  have H := G2
  refine vc tk 6 F W fun a w F W => ?_
  refine A1 F Aa H (fun F H => ?_) fun F H => ?_
  ·
   refine vc tk 3 F W fun a w F W => ?_
   refine ls F W Aa (Tx F Aa Aa (by decide)).q fun a w F W => ?_
   refine Bo tk 8 F W fun a w F W => ?_
   refine Ab ?_
   exact ⟨_, _, H, F.ra Aa, W⟩
  refine AD (Ab ?_)
  exact ⟨_, _, H, F.ra Aa, W⟩
 rintro a w ⟨x3, x4, hj, F, W⟩
 have hj := Ay hj
 subst hj
 have H := K2
 obtain ⟨o3, G3, K3⟩ := Af H
 refine Ap (fun a w => ∃ x5 : Int, ∃ x6 : Int, some ((x5, x6)) = some o3 ∧ Fr 25 [] [(0, .int .u64 x5), (2, Jint x6)] a ∧ sy Y w0 [] [] w) ?_ ?_
 ·
  have H := G3
  refine vc tk 6 F W fun a w F W => ?_
  refine A1 F Aa H (fun F H => ?_) fun F H => ?_
  ·
   refine vc tk 3 F W fun a w F W => ?_
   refine ls F W Aa (Tx F Aa Aa (by decide)).q fun a w F W => ?_
   refine Bo tk 8 F W fun a w F W => ?_
   refine Ab ?_
   exact ⟨_, _, H, F.ra Aa, W⟩
  refine AD (Ab ?_)
  exact ⟨_, _, H, F.ra Aa, W⟩
 rintro a w ⟨x5, x6, hj, F, W⟩
 have hj := Ay hj
 subst hj
 have H := K3
 refine vc tk 4 F W fun a w F W => ?_
 refine ls F W Aa (J9 Yf aL F Aa).q fun a w F W => ?_
 obtain ⟨x7, h1, H⟩ := Af H
 refine ls F W Aa (Uz (l := ([0, 1, 2, 2, 3, 3, 3, 3, 4, 4, 4, 4, 4, 4, 4, 4, 5, 5, 5, 5, 5, 5, 5, 5, 5, 5, 5, 5, 5, 5, 5, 5, 6, 6, 6, 6, 6, 6, 6, 6, 6, 6, 6, 6, 6, 6, 6, 6, 6, 6, 6, 6, 6, 6, 6, 6, 6, 6, 6, 6, 6, 6, 6, 6, 7, 7, 7, 7, 7, 7, 7, 7, 7, 7, 7, 7, 7, 7, 7, 7, 7, 7, 7, 7, 7, 7, 7, 7, 7, 7, 7, 7, 7, 7, 7, 7, 7, 7, 7, 7, 7, 7, 7, 7, 7, 7, 7, 7, 7, 7, 7, 7, 7, 7, 7, 7, 7, 7, 7, 7, 7, 7, 7, 7, 7, 7, 7, 7, 8, 8, 8, 8, 8, 8, 8, 8, 8, 8, 8, 8, 8, 8, 8, 8, 8, 8, 8, 8, 8, 8, 8, 8, 8, 8, 8, 8, 8, 8, 8, 8, 8, 8, 8, 8, 8, 8, 8, 8, 8, 8, 8, 8, 8, 8, 8, 8, 8, 8, 8, 8, 8, 8, 8, 8, 8, 8, 8, 8, 8, 8, 8, 8, 8, 8, 8, 8, 8, 8, 8, 8, 8, 8, 8, 8, 8, 8, 8, 8, 8, 8, 8, 8, 8, 8, 8, 8, 8, 8, 8, 8, 8, 8, 8, 8, 8, 8, 8, 8, 8, 8, 8, 8, 8, 8, 8, 8, 8, 8, 8, 8, 8, 8, 8, 8, 8, 8, 8, 8, 8, 8, 8, 8, 8, 8, 8, 8] : lb_)) bI F Aa Aa h1).q fun a w F W => ?_
 refine ls F W Aa (J9 aL V9 F Aa).q fun a w F W => ?_
 refine Bo tk 4 F W fun a w F W => ?_
 refine Ah ?_
 have H := Ay H
 subst H
 refine Av (.inl Aa) F W Aa (Am F Aa) ?_
 exact ⟨rfl, W.done⟩
theorem Zu : Has Tryz.prog 123 := BM Tryz.func123
def FA (p0 : Int) : Option Int := (Ge p0).bind fun x1 => some x1
theorem Jf (Y : Nat → Prop) (w0 : World)  (p0 : Int) (r : Int) (H : FA p0 = some r)  :
    ca_ 93 #[.int .u64 p0] w0 fun e w' => e = .returned (Jint r) ∧ Below w0.heap.size w0 w' := by
 refine enter Tryz.func93 Aa Tryz.ntmps93 Aa fun a F => ?_
 have W := Stw.start Y w0
 unfold FA at H
 refine vc tk 12 F W fun a w F W => ?_
 obtain ⟨x1, h1, H⟩ := Af H
 refine ls F W Aa (AA (v := Jint x1) F Zu Aa (fun w W => Ly any w p0 _ h1)) fun a w F W => ?_
 refine Bo tk 3 F W fun a w F W => ?_
 refine Ah ?_
 have H := Ay H
 subst H
 refine Av (.inl Aa) F W Aa (Am F Aa) ?_
 exact ⟨rfl, W.done⟩
theorem aA : Has Tryz.prog 93 := BM Tryz.func93
def Db (p0 : Int) : Bool := decide (p0 ≠ p0)
theorem Jm (Y : Nat → Prop) (w0 : World)  (p0 : Int) (r : Bool) (H : Db p0 = r)  :
    ca_ 99 #[Jint p0] w0 fun e w' => e = .returned (.bool r) ∧ Below w0.heap.size w0 w' := by
 refine enter Tryz.func99 Aa Tryz.ntmps99 Aa fun a F => ?_
 have W := Stw.start Y w0
 unfold Db at H
 refine vc tk 13 F W fun a w F W => ?_
 refine Ah ?_
 subst H
 refine Av (.inl Aa) F W Aa (Am F Aa) ?_
 exact ⟨rfl, W.done⟩
theorem aW : Has Tryz.prog 99 := BM Tryz.func99
def A2 (p0 : Int) (p1 : Int) : Bool := (bif (Db p0) then (!(Db p1) || decide (p0 < p1)) else decide (p0 < p1))
theorem Cd (Y : Nat → Prop) (w0 : World)  (p0 : Int) (p1 : Int) (r : Bool) (H : A2 p0 p1 = r)  :
    ca_ 119 #[Jint p0, Jint p1] w0 fun e w' => e = .returned (.bool r) ∧ Below w0.heap.size w0 w' := by
 refine enter Tryz.func119 Aa Tryz.ntmps119 Aa fun a F => ?_
 have W := Stw.start Y w0
 unfold A2 at H
 refine vc tk 5 F W fun a w F W => ?_
 refine Ap (fun a w => Fr 17 [] [(4, .bool (bif (Db p0) then (!(Db p1) || decide (p0 < p1)) else decide (p0 < p1)))] a ∧ sy Y w0 [] [] w) ?_ ?_
 ·
  refine vc tk 2 F W fun a w F W => ?_
  refine ls F W Aa (AA (v := Value.bool (Db p0)) F aW Aa (fun w W => Jm any w p0 _ Aa)) fun a w F W => ?_
  refine ls F W Aa (Ao F Aa).q fun a w F W => ?_
  rcases bxq (Db p0) with hb0 | hb0
  ·
   rw [hb0] at F
   refine Dy F W (Ad F Aa Aa Aa Aa) Aa (As Aa) (Ao F Aa).q fun a w F W => ?_
   refine FU (Ad F Aa Aa Aa Aa) ?_
   refine ls F W Aa (AA (v := Value.bool (Db p1)) F aW Aa (fun w W => Jm any w p1 _ Aa)) fun a w F W => ?_
   refine vl tk 3 F W fun a w F W => ?_
   rcases bxq (!(Db p1)) with hb1 | hb1
   ·
    rw [hb1] at F
    refine vl tk 6 F W fun a w F W => ?_
    refine Ab ?_
    exact ⟨F.re ⟨(CL (by try rw [hb1]; try rw [hb0]; all_goals simp only [CM])), trivial⟩, W⟩
   rw [hb1] at F
   refine vl tk 6 F W fun a w F W => ?_
   refine Ab ?_
   exact ⟨F.re ⟨(CL (by try rw [hb1]; try rw [hb0]; all_goals simp only [CM])), trivial⟩, W⟩
  rw [hb0] at F
  refine vl tk 11 F W fun a w F W => ?_
  refine Ab ?_
  exact ⟨F.re ⟨(CL (by try rw [hb0]; all_goals simp only [CM])), trivial⟩, W⟩
 rintro a w ⟨F, W⟩
 refine Ah ?_
 subst H
 refine Av (.inl Aa) F W Aa (Am F Aa) ?_
 exact ⟨rfl, W.done⟩
theorem LU : Has Tryz.prog 119 := BM Tryz.func119
def Bd (p1 : Int) : (List Int × Int) → Option ((List Int × Int) ⊕ (List Int))
  | (x4, x5) => (if p1 < x5 then (ix x4 x5).bind fun x7 => (ix x4 (AJ (x5 - 1))).bind fun x8 => some (A2 x7 x8) else some false).bind fun x6 => (if x6 = true then (ix x4 (AJ (x5 - 1))).bind fun x9 => (ix x4 x5).bind fun x10 => (ix x4 x5).bind fun x11 => (ix (AZ x4 x5 x9) (AJ (x5 - 1))).bind fun x12 => some (.inl ((AZ (AZ x4 x5 x9) (AJ (x5 - 1)) x10), AJ (x5 - 1))) else some (.inr x4))
def BG (p1 : Int) (p2 : Int) : (List Int × Int) → Option ((List Int × Int) ⊕ (List Int))
  | (x1, x2) => (if x2 < p2 then (AB (Bd p1) (x1, x2)).bind fun x3 => some (.inl (x3, AJ (x2 + 1))) else some (.inr x1))
def Cp (p0 : List Int) (p1 : Int) (p2 : Int) : Option (List Int) := AB (BG p1 p2) (p0, AJ (p1 + 1))
theorem Gz (Y : Nat → Prop) (X : List Nat) (w0 : World) (v1 : Value) (p0 : List Int) (p1 : Int) (p2 : Int) (r : List Int) (H : Cp p0 p1 p2 = some r) (hL : Stw ⟨Y, X, w0⟩ [] [row v1 3 ri p0] w0) :
    ca_ 113 #[v1, Jint p1, Jint p2] w0 fun e w' => ∃ x : Unit, e = .returned (.tuple #[]) ∧ Stw ⟨Y, X, w0⟩ [] [row v1 3 ri r] w' := by
 refine enter Tryz.func113 Aa Tryz.ntmps113 Aa fun a F => ?_
 have W := hL
 unfold Cp at H
 refine vc tk 8 F W fun a w F W => ?_
 refine AQ H (fun s a w => Fr 49 [] [(0, v1), (1, Jint p1), (2, Jint p2), (6, Jint s.2)] a ∧ Stw ⟨Y, X, w0⟩ [] [row v1 3 ri s.1] w) ⟨F.ra Aa, W⟩ fun s o a w H L1 hR => ?_
 obtain ⟨x1, x2⟩ := s
 obtain ⟨F, W⟩ := hR
 have F : Fr 49 [] [(0, v1), (1, Jint p1), (2, Jint p2), (6, Jint x2)] a := F
 have W : Stw ⟨Y, X, w0⟩ [] [row v1 3 ri x1] w := W
 rw [BG] at H
 refine vc tk 8 F W fun a w F W => ?_
 refine A1 F Aa H (fun F H => ?_) fun F H => ?_
 ·
  refine AD (Ab ?_)
  obtain ⟨o2, G2, K2⟩ := Af H
  refine Ap (fun a w => ∃ x3 : List Int, some (x3) = some o2 ∧ Fr 49 [] [(0, v1), (1, Jint p1), (2, Jint p2), (6, Jint x2)] a ∧ Stw ⟨Y, X, w0⟩ [] [row v1 3 ri x3] w) ?_ ?_
  ·
   have H := G2
   refine vc tk 8 F W fun a w F W => ?_
   refine AQ H (fun s a w => Fr 49 [] [(0, v1), (1, Jint p1), (2, Jint p2), (6, Jint x2), (7, Jint s.2)] a ∧ Stw ⟨Y, X, w0⟩ [] [row v1 3 ri s.1] w) ⟨F.ra Aa, W⟩ fun s o a w H L3 hR => ?_
   obtain ⟨x4, x5⟩ := s
   obtain ⟨F, W⟩ := hR
   have F : Fr 49 [] [(0, v1), (1, Jint p1), (2, Jint p2), (6, Jint x2), (7, Jint x5)] a := F
   have W : Stw ⟨Y, X, w0⟩ [] [row v1 3 ri x4] w := W
   rw [Bd] at H
   refine FG ?_
   obtain ⟨o4, G4, K4⟩ := Af H
   refine Ap (fun a w => ∃ x6 : Bool, some (x6) = some o4 ∧ Fr 49 [] [(0, v1), (1, Jint p1), (2, Jint p2), (6, Jint x2), (7, Jint x5), (30, .bool x6)] a ∧ Stw ⟨Y, X, w0⟩ [] [row v1 3 ri x4] w) ?_ ?_
   ·
    have H := G4
    refine B5 W MO (by kernel_rfl) ?_
    iterate 2 refine qs F Aa (Ao F Aa).q fun a F => ?_
    refine qs F Aa (Oq F Aa Aa).q fun a F => ?_
    refine qs F Aa (Ao F Aa).q fun a F => ?_
    rcases bxq (decide (p1 < x5)) with hb | hb
    ·
     have H := BB (B4 hb) H
     rw [hb] at F
     iterate 2 refine AR F (Ad F Aa Aa Aa Aa) Aa (As Aa) (Ao F Aa).q fun a F => ?_
     obtain ⟨x7, h1, H⟩ := Af H
     refine AR F (Ad F Aa Aa Aa Aa) Aa (As Aa) (Au (r := ri) DT F Aa Aa (Ai 0 Aa) h1).q fun a F => ?_
     refine AR F (Ad F Aa Aa Aa Aa) Aa (As Aa) (Aj (y := Jint x7) (j := 0) (i := x5) F Aa Aa (Ai 0 Aa) h1 Fl.int.to T3 Aa).q fun a F => ?_
     iterate 2 refine AR F (Ad F Aa Aa Aa Aa) Aa (As Aa) (Ao F Aa).q fun a F => ?_
     refine AR F (Ad F Aa Aa Aa Aa) Aa (As Aa) (Hp F Aa Aa Aa).q fun a F => ?_
     obtain ⟨x8, h2, H⟩ := Af H
     refine AR F (Ad F Aa Aa Aa Aa) Aa (As Aa) (Au (r := ri) DT F Aa Aa (Ai 0 Aa) h2).q fun a F => ?_
     refine AR F (Ad F Aa Aa Aa Aa) Aa (As Aa) (Aj (y := Jint x8) (j := 0) (i := AJ (x5 - 1)) F Aa Aa (Ai 0 Aa) h2 Fl.int.to T3 Aa).q fun a F => ?_
     refine AR F (Ad F Aa Aa Aa Aa) Aa (As Aa) (AA (v := Value.bool (A2 x7 x8)) F LU Aa (fun w W => Cd any w x7 x8 _ Aa)) fun a F => ?_
     refine qs F Aa (Bq F Aa Aa Aa).q fun a F => ?_
     refine AK fun w W => ?_
     refine Ab ?_
     exact ⟨_, H, F.ra Aa, W⟩
    have H := BC (B1 hb) H
    rw [hb] at F
    iterate 10 refine Bb F (A3 F Aa Aa Aa Aa Aa) Aa Aa fun a F => ?_
    refine qs F Aa (Bh F Aa Aa Aa).q fun a F => ?_
    refine AK fun w W => ?_
    refine Ab ?_
    exact ⟨_, H, F.ra Aa, W⟩
   rintro a w ⟨x6, hj, F, W⟩
   have hj := Ay hj
   subst hj
   have H := K4
   refine Bi F Aa H (fun F H => ?_) fun F H => ?_
   ·
    refine EX tk 4 F W fun a w F W => ?_
    refine Ef [(true, 0), (true, 1), (true, 2), (true, 3), (true, 4), (true, 5), (true, 6), (true, 7), (true, 8), (true, 9), (true, 10), (true, 11), (true, 12), (true, 13), (true, 14), (false, 15), (true, 16), (false, 17)] (CN ⟨Y, X, w0⟩ [] [(some 15, row v1 3 ri x4)]) (fun ch a d v w h => by cases d <;> exact h) MO (by kernel_rfl) W (fun w W => ⟨_, _, W, Ak, (all_cons (fun _ => (.head _)) Ak)⟩) fun w W => ?_
    iterate 4 refine A9 (R := []) F Aa Aa (yC fun M Z hN hZ => Ao F Aa) Aa Aa fun a F => ?_
    refine A9 (R := []) F Aa Aa (yC fun M Z hN hZ => Hp F Aa Aa Aa) Aa Aa fun a F => ?_
    iterate 2 refine A9 (R := []) F Aa Aa (yC fun M Z hN hZ => Ao F Aa) Aa Aa fun a F => ?_
    refine A9 (R := []) F Aa Aa (yC fun M Z hN hZ => Hp F Aa Aa Aa) Aa Aa fun a F => ?_
    obtain ⟨x9, h3, H⟩ := Af H
    refine A9 (R := []) F Aa Aa (yC fun M Z hN hZ => Co (r := ri) DT F Aa Aa (EO W (Ai 0 Aa)) h3) Aa Aa fun a F => ?_
    refine A9 (R := [15]) F Aa Aa (yC fun M Z hN hZ => Aj (y := Jint x9) (j := 0) (i := AJ (x5 - 1)) F Aa Aa (EF (hZ ((some 15), row v1 3 ri x4) (.head _) Aa)) h3 Fl.int.to T3 Aa) (by kernel_rfl) Aa fun a F => ?_
    iterate 2 refine A9 (R := []) F Aa Aa (yC fun M Z hN hZ => Ao F Aa) Aa Aa fun a F => ?_
    obtain ⟨x10, h4, H⟩ := Af H
    refine A9 (R := []) F Aa Aa (yC fun M Z hN hZ => Co (r := ri) DT F Aa Aa (EO W (Ai 0 Aa)) h4) Aa Aa fun a F => ?_
    refine A9 (R := [15]) F Aa Aa (yC fun M Z hN hZ => Aj (y := Jint x10) (j := 0) (i := x5) F Aa Aa (EF (hZ ((some 15), row v1 3 ri x4) (.head _) Aa)) h4 Fl.int.to T3 Aa) (by kernel_rfl) Aa fun a F => ?_
    obtain ⟨x11, h5, H⟩ := Af H
    refine A9 (R := []) F Aa Aa (yC fun M Z hN hZ => Co (r := ri) DT F Aa Aa (EO W (Ai 0 Aa)) h5) Aa Aa fun a F => ?_
    refine Dt Aa ?_
    refine Br (i := x5) (j := 0) (vs := [Jint x9]) (x' := x9) F W Aa Aa Aa (k := 0) Aa Aa h5 T3 Aa Aa Aa Aa (fun A cs _ => Fl.int.sto (by rfl) _ _ _) fun w W => ?_
    refine Bc (N2 := []) (NZ2 := []) (N3 := []) (NZ3 := [(some 15, row v1 3 ri x4)]) W Aa Aa Ak (all_cons (fun h => An (by kernel_rfl) h) Ak) ?_
    obtain ⟨x12, h6, H⟩ := Af H
    refine A9 (R := []) F Aa Aa (yC fun M Z hN hZ => Co (r := ri) DT F Aa Aa (EO W (Ai 0 Aa)) h6) Aa Aa fun a F => ?_
    refine Dt Aa ?_
    refine Br (i := AJ (x5 - 1)) (j := 0) (vs := [Jint x10]) (x' := x10) F W Aa Aa Aa (k := 0) Aa Aa h6 T3 Aa Aa Aa Aa (fun A cs _ => Fl.int.sto (by rfl) _ _ _) fun w W => ?_
    refine Bc (N2 := []) (NZ2 := []) (N3 := []) (NZ3 := [(some 15, row v1 3 ri x4)]) W Aa Aa Ak (all_cons (fun h => An (by kernel_rfl) h) Ak) ?_
    refine FL (Az ?_)
    refine vn tk 5 F W fun a w F W => ?_
    refine Ab ?_
    exact ⟨_, H, F.ra Aa, W⟩
   refine AN ?_
   iterate 2 refine A6 ?_
   refine AP (Az (Ab ?_))
   have H := L3 _ H
   exact ⟨_, H, F.ra Aa, W⟩
  rintro a w ⟨x3, hj, F, W⟩
  have hj := Ay hj
  subst hj
  have H := K2
  refine vc tk 5 F W fun a w F W => ?_
  refine Ab ?_
  exact ⟨_, H, F.ra Aa, W⟩
 refine AN ?_
 iterate 2 refine A6 ?_
 refine AP ?_
 have H := L1 _ H
 have H := Ay H
 subst H
 refine J0 (.inr Aa) F Aa ?_
 exact ⟨(), Aa, W⟩
theorem ZS : Has Tryz.prog 113 := BM Tryz.func113
def A5 (p2 : Int) (p3 : Int) : (List Int × Int) → Option ((List Int × Int) ⊕ (List Int))
  | (x1, x2) => (if p2 ≤ (AJ ((AJ (2 * x2)) + 1)) then some (.inr x1) else ((if (AJ ((AJ ((AJ (2 * x2)) + 1)) + 1)) < p2 then (ix x1 (AJ (p3 + (AJ ((AJ (2 * x2)) + 1))))).bind fun x5 => (ix x1 (AJ ((AJ (p3 + (AJ ((AJ (2 * x2)) + 1)))) + 1))).bind fun x6 => some (A2 x5 x6) else some false).bind fun x4 => (if x4 = true then some (AJ ((AJ ((AJ (2 * x2)) + 1)) + 1)) else some (AJ ((AJ (2 * x2)) + 1)))).bind fun x3 => (ix x1 (AJ (p3 + x2))).bind fun x7 => (ix x1 (AJ (p3 + x3))).bind fun x8 => (if (!(A2 x7 x8)) = true then some (.inr x1) else (ix x1 (AJ (p3 + x3))).bind fun x9 => (ix x1 (AJ (p3 + x2))).bind fun x10 => (ix x1 (AJ (p3 + x2))).bind fun x11 => (ix (AZ x1 (AJ (p3 + x2)) x9) (AJ (p3 + x3))).bind fun x12 => some (.inl ((AZ (AZ x1 (AJ (p3 + x2)) x9) (AJ (p3 + x3)) x10), x3))))
def Cw (p0 : List Int) (p1 : Int) (p2 : Int) (p3 : Int) : Option (List Int) := AB (A5 p2 p3) (p0, p1)
theorem Fy (Y : Nat → Prop) (X : List Nat) (w0 : World) (v1 : Value) (p0 : List Int) (p1 : Int) (p2 : Int) (p3 : Int) (r : List Int) (H : Cw p0 p1 p2 p3 = some r) (hL : Stw ⟨Y, X, w0⟩ [] [row v1 3 ri p0] w0) :
    ca_ 139 #[v1, Jint p1, Jint p2, Jint p3] w0 fun e w' => ∃ x : Unit, e = .returned (.tuple #[]) ∧ Stw ⟨Y, X, w0⟩ [] [row v1 3 ri r] w' := by
 refine enter Tryz.func139 Aa Tryz.ntmps139 Aa fun a F => ?_
 have W := hL
 unfold Cw at H
 refine vc tk 7 F W fun a w F W => ?_
 refine AQ H (fun s a w => Fr 76 [] [(0, v1), (2, Jint p2), (3, Jint p3), (8, Jint s.2)] a ∧ Stw ⟨Y, X, w0⟩ [] [row v1 3 ri s.1] w) ⟨F.ra Aa, W⟩ fun s o a w H L1 hR => ?_
 obtain ⟨x1, x2⟩ := s
 obtain ⟨F, W⟩ := hR
 have F : Fr 76 [] [(0, v1), (2, Jint p2), (3, Jint p3), (8, Jint x2)] a := F
 have W : Stw ⟨Y, X, w0⟩ [] [row v1 3 ri x1] w := W
 rw [A5] at H
 refine vc tk 17 F W fun a w F W => ?_
 refine A1 F Aa H (fun F H => ?_) fun F H => ?_
 ·
  refine AN (A6 ?_)
  refine Mo Aa ?_
  refine A6 (AP ?_)
  have H := L1 _ H
  have H := Ay H
  subst H
  refine J0 (.inr Aa) F Aa ?_
  exact ⟨(), Aa, W⟩
 refine AD (Ab ?_)
 obtain ⟨o2, G2, K2⟩ := Af H
 refine Ap (fun a w => ∃ x3 : Int, some (x3) = some o2 ∧ Fr 76 [] [(0, v1), (2, Jint p2), (3, Jint p3), (8, Jint x2), (9, Jint x3)] a ∧ Stw ⟨Y, X, w0⟩ [] [row v1 3 ri x1] w) ?_ ?_
 ·
  have H := G2
  obtain ⟨o3, G3, K3⟩ := Af H
  refine Ap (fun a w => ∃ x4 : Bool, some (x4) = some o3 ∧ Fr 76 [] [(0, v1), (2, Jint p2), (3, Jint p3), (8, Jint x2), (9, Jint (AJ ((AJ (2 * x2)) + 1))), (36, .bool x4)] a ∧ Stw ⟨Y, X, w0⟩ [] [row v1 3 ri x1] w) ?_ ?_
  ·
   have H := G3
   refine B5 W MO (by kernel_rfl) ?_
   refine qs F Aa (Ao F Aa).q fun a F => ?_
   refine qs F Aa (HR F Aa Aa Aa).q fun a F => ?_
   refine qs F Aa (Ao F Aa).q fun a F => ?_
   refine qs F Aa (OK F Aa Aa).q fun a F => ?_
   refine qs F Aa (Ao F Aa).q fun a F => ?_
   rcases bxq (decide ((AJ ((AJ ((AJ (2 * x2)) + 1)) + 1)) < p2)) with hb | hb
   ·
    have H := BB (B4 hb) H
    rw [hb] at F
    iterate 3 refine AR F (Ad F Aa Aa Aa Aa) Aa (As Aa) (Ao F Aa).q fun a F => ?_
    refine AR F (Ad F Aa Aa Aa Aa) Aa (As Aa) (HR F Aa Aa Aa).q fun a F => ?_
    obtain ⟨x5, h1, H⟩ := Af H
    refine AR F (Ad F Aa Aa Aa Aa) Aa (As Aa) (Au (r := ri) DT F Aa Aa (Ai 0 Aa) h1).q fun a F => ?_
    refine AR F (Ad F Aa Aa Aa Aa) Aa (As Aa) (Aj (y := Jint x5) (j := 0) (i := AJ (p3 + (AJ ((AJ (2 * x2)) + 1)))) F Aa Aa (Ai 0 Aa) h1 Fl.int.to T3 Aa).q fun a F => ?_
    iterate 3 refine AR F (Ad F Aa Aa Aa Aa) Aa (As Aa) (Ao F Aa).q fun a F => ?_
    iterate 2 refine AR F (Ad F Aa Aa Aa Aa) Aa (As Aa) (HR F Aa Aa Aa).q fun a F => ?_
    obtain ⟨x6, h2, H⟩ := Af H
    refine AR F (Ad F Aa Aa Aa Aa) Aa (As Aa) (Au (r := ri) DT F Aa Aa (Ai 0 Aa) h2).q fun a F => ?_
    refine AR F (Ad F Aa Aa Aa Aa) Aa (As Aa) (Aj (y := Jint x6) (j := 0) (i := AJ ((AJ (p3 + (AJ ((AJ (2 * x2)) + 1)))) + 1)) F Aa Aa (Ai 0 Aa) h2 Fl.int.to T3 Aa).q fun a F => ?_
    refine AR F (Ad F Aa Aa Aa Aa) Aa (As Aa) (AA (v := Value.bool (A2 x5 x6)) F LU Aa (fun w W => Cd any w x5 x6 _ Aa)) fun a F => ?_
    refine qs F Aa (Bq F Aa Aa Aa).q fun a F => ?_
    refine AK fun w W => ?_
    refine Ab ?_
    exact ⟨_, H, F.ra Aa, W⟩
   have H := BC (B1 hb) H
   rw [hb] at F
   iterate 14 refine Bb F (A3 F Aa Aa Aa Aa Aa) Aa Aa fun a F => ?_
   refine qs F Aa (Bh F Aa Aa Aa).q fun a F => ?_
   refine AK fun w W => ?_
   refine Ab ?_
   exact ⟨_, H, F.ra Aa, W⟩
  rintro a w ⟨x4, hj, F, W⟩
  have hj := Ay hj
  subst hj
  have H := K3
  refine Bi F Aa H (fun F H => ?_) fun F H => ?_
  ·
   refine vc tk 5 F W fun a w F W => ?_
   refine Ab ?_
   exact ⟨_, H, F.ra Aa, W⟩
  refine AD (Ab ?_)
  exact ⟨_, H, F.ra Aa, W⟩
 rintro a w ⟨x3, hj, F, W⟩
 have hj := Ay hj
 subst hj
 have H := K2
 refine vc tk 2 F W fun a w F W => ?_
 refine B5 W MO (by kernel_rfl) ?_
 iterate 3 refine qs F Aa (Ao F Aa).q fun a F => ?_
 refine qs F Aa (HR F Aa Aa Aa).q fun a F => ?_
 obtain ⟨x7, h3, H⟩ := Af H
 refine qs F Aa (Au (r := ri) DT F Aa Aa (Ai 0 Aa) h3).q fun a F => ?_
 refine qs F Aa (Aj (y := Jint x7) (j := 0) (i := AJ (p3 + x2)) F Aa Aa (Ai 0 Aa) h3 Fl.int.to T3 Aa).q fun a F => ?_
 iterate 3 refine qs F Aa (Ao F Aa).q fun a F => ?_
 refine qs F Aa (HR F Aa Aa Aa).q fun a F => ?_
 obtain ⟨x8, h4, H⟩ := Af H
 refine qs F Aa (Au (r := ri) DT F Aa Aa (Ai 0 Aa) h4).q fun a F => ?_
 refine qs F Aa (Aj (y := Jint x8) (j := 0) (i := AJ (p3 + x3)) F Aa Aa (Ai 0 Aa) h4 Fl.int.to T3 Aa).q fun a F => ?_
 refine qs F Aa (AA (v := Value.bool (A2 x7 x8)) F LU Aa (fun w W => Cd any w x7 x8 _ Aa)) fun a F => ?_
 refine qs F Aa (Jn F Aa).q fun a F => ?_
 refine AK fun w W => ?_
 refine Ab ?_
 refine Bi F Aa H (fun F H => ?_) fun F H => ?_
 ·
  refine Ah (Aw (AC (Aw (AC ?_))))
  have H := L1 _ H
  have H := Ay H
  subst H
  refine J0 (.inl Aa) F Aa ?_
  exact ⟨(), Aa, W⟩
 refine EX tk 3 F W fun a w F W => ?_
 refine Ef [(true, 0), (true, 1), (true, 2), (true, 3), (true, 4), (true, 5), (true, 6), (true, 7), (true, 8), (true, 9), (true, 10), (true, 11), (true, 12), (true, 13), (true, 14), (true, 15), (true, 16), (true, 17), (true, 18), (true, 19), (true, 20), (false, 21), (true, 22), (false, 23)] (CN ⟨Y, X, w0⟩ [] [(some 21, row v1 3 ri x1)]) (fun ch a d v w h => by cases d <;> exact h) MO (by kernel_rfl) W (fun w W => ⟨_, _, W, Ak, (all_cons (fun _ => (.head _)) Ak)⟩) fun w W => ?_
 iterate 3 refine A9 (R := []) F Aa Aa (yC fun M Z hN hZ => Ao F Aa) Aa Aa fun a F => ?_
 refine A9 (R := []) F Aa Aa (yC fun M Z hN hZ => HR F Aa Aa Aa) Aa Aa fun a F => ?_
 iterate 3 refine A9 (R := []) F Aa Aa (yC fun M Z hN hZ => Ao F Aa) Aa Aa fun a F => ?_
 refine A9 (R := []) F Aa Aa (yC fun M Z hN hZ => HR F Aa Aa Aa) Aa Aa fun a F => ?_
 iterate 3 refine A9 (R := []) F Aa Aa (yC fun M Z hN hZ => Ao F Aa) Aa Aa fun a F => ?_
 refine A9 (R := []) F Aa Aa (yC fun M Z hN hZ => HR F Aa Aa Aa) Aa Aa fun a F => ?_
 obtain ⟨x9, h5, H⟩ := Af H
 refine A9 (R := []) F Aa Aa (yC fun M Z hN hZ => Co (r := ri) DT F Aa Aa (EO W (Ai 0 Aa)) h5) Aa Aa fun a F => ?_
 refine A9 (R := [21]) F Aa Aa (yC fun M Z hN hZ => Aj (y := Jint x9) (j := 0) (i := AJ (p3 + x3)) F Aa Aa (EF (hZ ((some 21), row v1 3 ri x1) (.head _) Aa)) h5 Fl.int.to T3 Aa) (by kernel_rfl) Aa fun a F => ?_
 iterate 3 refine A9 (R := []) F Aa Aa (yC fun M Z hN hZ => Ao F Aa) Aa Aa fun a F => ?_
 refine A9 (R := []) F Aa Aa (yC fun M Z hN hZ => HR F Aa Aa Aa) Aa Aa fun a F => ?_
 obtain ⟨x10, h6, H⟩ := Af H
 refine A9 (R := []) F Aa Aa (yC fun M Z hN hZ => Co (r := ri) DT F Aa Aa (EO W (Ai 0 Aa)) h6) Aa Aa fun a F => ?_
 refine A9 (R := [21]) F Aa Aa (yC fun M Z hN hZ => Aj (y := Jint x10) (j := 0) (i := AJ (p3 + x2)) F Aa Aa (EF (hZ ((some 21), row v1 3 ri x1) (.head _) Aa)) h6 Fl.int.to T3 Aa) (by kernel_rfl) Aa fun a F => ?_
 obtain ⟨x11, h7, H⟩ := Af H
 refine A9 (R := []) F Aa Aa (yC fun M Z hN hZ => Co (r := ri) DT F Aa Aa (EO W (Ai 0 Aa)) h7) Aa Aa fun a F => ?_
 refine Dt Aa ?_
 refine Br (i := AJ (p3 + x2)) (j := 0) (vs := [Jint x9]) (x' := x9) F W Aa Aa Aa (k := 0) Aa Aa h7 T3 Aa Aa Aa Aa (fun A cs _ => Fl.int.sto (by rfl) _ _ _) fun w W => ?_
 refine Bc (N2 := []) (NZ2 := []) (N3 := []) (NZ3 := [(some 21, row v1 3 ri x1)]) W Aa Aa Ak (all_cons (fun h => An (by kernel_rfl) h) Ak) ?_
 obtain ⟨x12, h8, H⟩ := Af H
 refine A9 (R := []) F Aa Aa (yC fun M Z hN hZ => Co (r := ri) DT F Aa Aa (EO W (Ai 0 Aa)) h8) Aa Aa fun a F => ?_
 refine Dt Aa ?_
 refine Br (i := AJ (p3 + x3)) (j := 0) (vs := [Jint x10]) (x' := x10) F W Aa Aa Aa (k := 0) Aa Aa h8 T3 Aa Aa Aa Aa (fun A cs _ => Fl.int.sto (by rfl) _ _ _) fun w W => ?_
 refine Bc (N2 := []) (NZ2 := []) (N3 := []) (NZ3 := [(some 21, row v1 3 ri x1)]) W Aa Aa Ak (all_cons (fun h => An (by kernel_rfl) h) Ak) ?_
 refine FL ?_
 refine vn tk 4 F W fun a w F W => ?_
 refine Az (Ab ?_)
 exact ⟨_, H, F.ra Aa, W⟩
theorem Yn : Has Tryz.prog 139 := BM Tryz.func139
def B8 (p1 : Int) (p2 : Int) : (List Int × Int) → Option ((List Int × Int) ⊕ (List Int))
  | (x2, x3) => (if 0 ≤ x3 then (Cw x2 x3 (AJ (p2 - p1)) p1).bind fun x4 => some (.inl (x4, AJ (x3 - 1))) else some (.inr x2))
def B7 (p1 : Int) : (List Int × Int) → Option ((List Int × Int) ⊕ (List Int))
  | (x5, x6) => (if 0 ≤ x6 then (ix x5 (AJ (p1 + x6))).bind fun x7 => (ix x5 p1).bind fun x8 => (ix x5 p1).bind fun x9 => (ix (AZ x5 p1 x7) (AJ (p1 + x6))).bind fun x10 => (Cw (AZ (AZ x5 p1 x7) (AJ (p1 + x6)) x8) 0 x6 p1).bind fun x11 => some (.inl (x11, AJ (x6 - 1))) else some (.inr x5))
def C0 (p0 : List Int) (p1 : Int) (p2 : Int) : Option (List Int) := (AB (B8 p1 p2) (p0, AJ (Int.tdiv (AJ ((AJ (p2 - p1)) - 1)) 2))).bind fun x1 => AB (B7 p1) (x1, AJ ((AJ (p2 - p1)) - 1))
theorem Hu (Y : Nat → Prop) (X : List Nat) (w0 : World) (v1 : Value) (p0 : List Int) (p1 : Int) (p2 : Int) (r : List Int) (H : C0 p0 p1 p2 = some r) (hL : Stw ⟨Y, X, w0⟩ [] [row v1 3 ri p0] w0) :
    ca_ 114 #[v1, Jint p1, Jint p2] w0 fun e w' => ∃ x : Unit, e = .returned (.tuple #[]) ∧ Stw ⟨Y, X, w0⟩ [] [row v1 3 ri r] w' := by
 refine enter Tryz.func114 Aa Tryz.ntmps114 Aa fun a F => ?_
 have W := hL
 unfold C0 at H
 refine vc tk 19 F W fun a w F W => ?_
 obtain ⟨o1, G1, K1⟩ := Af H
 refine Ap (fun a w => ∃ x1 : List Int, some (x1) = some o1 ∧ Fr 56 [] [(0, v1), (6, Jint p1), (7, Jint 0), (8, Jint (AJ (p2 - p1)))] a ∧ Stw ⟨Y, X, w0⟩ [] [row v1 3 ri x1] w) ?_ ?_
 ·
  have H := G1
  refine vc tk 4 F W fun a w F W => ?_
  refine ls F W Aa (N0 F Aa Aa (by decide) Aa).q fun a w F W => ?_
  refine Bo tk 4 F W fun a w F W => ?_
  refine AQ H (fun s a w => Fr 56 [] [(0, v1), (6, Jint p1), (7, Jint 0), (8, Jint (AJ (p2 - p1))), (9, Jint s.2)] a ∧ Stw ⟨Y, X, w0⟩ [] [row v1 3 ri s.1] w) ⟨F.ra Aa, W⟩ fun s o a w H L2 hR => ?_
  obtain ⟨x2, x3⟩ := s
  obtain ⟨F, W⟩ := hR
  have F : Fr 56 [] [(0, v1), (6, Jint p1), (7, Jint 0), (8, Jint (AJ (p2 - p1))), (9, Jint x3)] a := F
  have W : Stw ⟨Y, X, w0⟩ [] [row v1 3 ri x2] w := W
  rw [B8] at H
  refine vc tk 7 F W fun a w F W => ?_
  refine A1 F Aa H (fun F H => ?_) fun F H => ?_
  ·
   refine EX tk 9 F W fun a w F W => ?_
   obtain ⟨x4, h1, H⟩ := Af H
   refine AO (Ml := []) (Zl := [row v1 3 ri x2]) (β := Unit) (rv := fun x => .tuple #[]) (MM := fun x => []) (ZZ := fun x => [row v1 3 ri x4]) F W Yn Aa Aa (fun hL => Fy _ _ w (v1) x2 x3 (AJ (p2 - p1)) p1 _ h1 hL) fun x a w F W => ?_
   have W : Stw ⟨Y, X, w0⟩ [] [row v1 3 ri x4] w := W
   refine F6 (Az ?_)
   refine vn tk 5 F W fun a w F W => ?_
   refine Ab ?_
   exact ⟨_, H, F.ra Aa, W⟩
  refine AN ?_
  iterate 2 refine A6 ?_
  refine AP (Ab ?_)
  have H := L2 _ H
  exact ⟨_, H, F.ra Aa, W⟩
 rintro a w ⟨x1, hj, F, W⟩
 have hj := Ay hj
 subst hj
 have H := K1
 refine vc tk 8 F W fun a w F W => ?_
 refine AQ H (fun s a w => Fr 56 [] [(0, v1), (6, Jint p1), (7, Jint 0), (10, Jint s.2)] a ∧ Stw ⟨Y, X, w0⟩ [] [row v1 3 ri s.1] w) ⟨F.ra Aa, W⟩ fun s o a w H L3 hR => ?_
 obtain ⟨x5, x6⟩ := s
 obtain ⟨F, W⟩ := hR
 have F : Fr 56 [] [(0, v1), (6, Jint p1), (7, Jint 0), (10, Jint x6)] a := F
 have W : Stw ⟨Y, X, w0⟩ [] [row v1 3 ri x5] w := W
 rw [B7] at H
 refine vc tk 7 F W fun a w F W => ?_
 refine A1 F Aa H (fun F H => ?_) fun F H => ?_
 ·
  refine EX tk 5 F W fun a w F W => ?_
  refine Ef [(true, 0), (true, 1), (true, 2), (true, 3), (true, 4), (true, 5), (true, 6), (true, 7), (true, 8), (true, 9), (true, 10), (true, 11), (true, 12), (true, 13), (true, 14), (true, 15), (true, 16), (false, 17), (true, 18), (false, 19)] (CN ⟨Y, X, w0⟩ [] [(some 17, row v1 3 ri x5)]) (fun ch a d v w h => by cases d <;> exact h) MO (by kernel_rfl) W (fun w W => ⟨_, _, W, Ak, (all_cons (fun _ => (.head _)) Ak)⟩) fun w W => ?_
  iterate 5 refine A9 (R := []) F Aa Aa (yC fun M Z hN hZ => Ao F Aa) Aa Aa fun a F => ?_
  refine A9 (R := []) F Aa Aa (yC fun M Z hN hZ => HR F Aa Aa Aa) Aa Aa fun a F => ?_
  iterate 3 refine A9 (R := []) F Aa Aa (yC fun M Z hN hZ => Ao F Aa) Aa Aa fun a F => ?_
  refine A9 (R := []) F Aa Aa (yC fun M Z hN hZ => HR F Aa Aa Aa) Aa Aa fun a F => ?_
  obtain ⟨x7, h2, H⟩ := Af H
  refine A9 (R := []) F Aa Aa (yC fun M Z hN hZ => Co (r := ri) DT F Aa Aa (EO W (Ai 0 Aa)) h2) Aa Aa fun a F => ?_
  refine A9 (R := [17]) F Aa Aa (yC fun M Z hN hZ => Aj (y := Jint x7) (j := 0) (i := AJ (p1 + x6)) F Aa Aa (EF (hZ ((some 17), row v1 3 ri x5) (.head _) Aa)) h2 Fl.int.to T3 Aa) (by kernel_rfl) Aa fun a F => ?_
  iterate 2 refine A9 (R := []) F Aa Aa (yC fun M Z hN hZ => Ao F Aa) Aa Aa fun a F => ?_
  obtain ⟨x8, h3, H⟩ := Af H
  refine A9 (R := []) F Aa Aa (yC fun M Z hN hZ => Co (r := ri) DT F Aa Aa (EO W (Ai 0 Aa)) h3) Aa Aa fun a F => ?_
  refine A9 (R := [17]) F Aa Aa (yC fun M Z hN hZ => Aj (y := Jint x8) (j := 0) (i := p1) F Aa Aa (EF (hZ ((some 17), row v1 3 ri x5) (.head _) Aa)) h3 Fl.int.to T3 Aa) (by kernel_rfl) Aa fun a F => ?_
  obtain ⟨x9, h4, H⟩ := Af H
  refine A9 (R := []) F Aa Aa (yC fun M Z hN hZ => Co (r := ri) DT F Aa Aa (EO W (Ai 0 Aa)) h4) Aa Aa fun a F => ?_
  refine Dt Aa ?_
  refine Br (i := p1) (j := 0) (vs := [Jint x7]) (x' := x7) F W Aa Aa Aa (k := 0) Aa Aa h4 T3 Aa Aa Aa Aa (fun A cs _ => Fl.int.sto (by rfl) _ _ _) fun w W => ?_
  refine Bc (N2 := []) (NZ2 := []) (N3 := []) (NZ3 := [(some 17, row v1 3 ri x5)]) W Aa Aa Ak (all_cons (fun h => An (by kernel_rfl) h) Ak) ?_
  obtain ⟨x10, h5, H⟩ := Af H
  refine A9 (R := []) F Aa Aa (yC fun M Z hN hZ => Co (r := ri) DT F Aa Aa (EO W (Ai 0 Aa)) h5) Aa Aa fun a F => ?_
  refine Dt Aa ?_
  refine Br (i := AJ (p1 + x6)) (j := 0) (vs := [Jint x8]) (x' := x8) F W Aa Aa Aa (k := 0) Aa Aa h5 T3 Aa Aa Aa Aa (fun A cs _ => Fl.int.sto (by rfl) _ _ _) fun w W => ?_
  refine Bc (N2 := []) (NZ2 := []) (N3 := []) (NZ3 := [(some 17, row v1 3 ri x5)]) W Aa Aa Ak (all_cons (fun h => An (by kernel_rfl) h) Ak) ?_
  refine FL ?_
  refine vn tk 5 F W fun a w F W => ?_
  obtain ⟨x11, h6, H⟩ := Af H
  refine AO (Ml := []) (Zl := [row v1 3 ri (AZ (AZ x5 p1 x7) (AJ (p1 + x6)) x8)]) (β := Unit) (rv := fun x => .tuple #[]) (MM := fun x => []) (ZZ := fun x => [row v1 3 ri x11]) F W Yn Aa Aa (fun hL => Fy _ _ w (v1) (AZ (AZ x5 p1 x7) (AJ (p1 + x6)) x8) 0 x6 p1 _ h6 hL) fun x a w F W => ?_
  have W : Stw ⟨Y, X, w0⟩ [] [row v1 3 ri x11] w := W
  refine F6 (Az ?_)
  refine vn tk 5 F W fun a w F W => ?_
  refine Ab ?_
  exact ⟨_, H, F.ra Aa, W⟩
 refine AN ?_
 iterate 2 refine A6 ?_
 refine AP ?_
 have H := L3 _ H
 have H := Ay H
 subst H
 refine J0 (.inr Aa) F Aa ?_
 exact ⟨(), Aa, W⟩
theorem Zb : Has Tryz.prog 114 := BM Tryz.func114
def Ci (p0 : List Int) (p1 : Int) (p2 : Int) (p3 : Int) : Option (Int × Int × Int) := (ix p0 p2).bind fun x1 => (ix p0 p1).bind fun x2 => (if (A2 x1 x2) = true then some (p2, p1, AJ (p3 + 1)) else some (p1, p2, p3))
theorem Em (Y : Nat → Prop) (X : List Nat) (w0 : World) (v1 : Value) (q_p3 : Nat) (p0 : List Int) (p1 : Int) (p2 : Int) (p3 : Int) (r : Int × Int × Int) (H : Ci p0 p1 p2 p3 = some r) (h_v1 : Sl w0 (NX X) ri v1 p0) (hL : Stw ⟨Y, X, w0⟩ [(q_p3, [Jint p3])] [] w0) :
    ca_ 156 #[v1, Jint p1, Jint p2, pp q_p3] w0 fun e w' => ∃ x : Unit, e = .returned (.tuple #[Jint r.1, Jint r.2.1]) ∧ Stw ⟨Y, X, w0⟩ [(q_p3, [Jint r.2.2])] [] w' := by
 refine enter Tryz.func156 Aa Tryz.ntmps156 Aa fun a F => ?_
 have W := hL
 unfold Ci at H
 refine vc tk 8 F W fun a w F W => ?_
 refine B5 W MO (by kernel_rfl) ?_
 iterate 2 refine qs F Aa (Ao F Aa).q fun a F => ?_
 obtain ⟨x1, h1, H⟩ := Af H
 refine qs F Aa (Au (r := ri) DT F Aa Aa (Ae h_v1) h1).q fun a F => ?_
 refine qs F Aa (Aj (y := Jint x1) (j := 0) (i := p2) F Aa Aa (Ae h_v1) h1 Fl.int.to T3 Aa).q fun a F => ?_
 iterate 2 refine qs F Aa (Ao F Aa).q fun a F => ?_
 obtain ⟨x2, h2, H⟩ := Af H
 refine qs F Aa (Au (r := ri) DT F Aa Aa (Ae h_v1) h2).q fun a F => ?_
 refine qs F Aa (Aj (y := Jint x2) (j := 0) (i := p1) F Aa Aa (Ae h_v1) h2 Fl.int.to T3 Aa).q fun a F => ?_
 refine qs F Aa (AA (v := Value.bool (A2 x1 x2)) F LU Aa (fun w W => Cd any w x1 x2 _ Aa)) fun a F => ?_
 refine AK fun w W => ?_
 refine Ab ?_
 refine Bi F Aa H (fun F H => ?_) fun F H => ?_
 ·
  refine vc tk 3 F W fun a w F W => ?_
  refine ls F W Aa (Cj F Aa).q fun a w F W => ?_
  refine DU tk 2 [0] F W (ai fun a w F W => ?_)
  refine ls F W Aa (Cj F Aa).q fun a w F W => ?_
  refine CE 0 F W Aa Aa Aa T3 Aa Aa Aa fun w W => ?_
  refine Bo tk 10 F W fun a w F W => ?_
  refine Ah (Aw ?_)
  have H := Ay H
  subst H
  refine OP (.inl Aa) F W Aa (Am F Aa) (Am F Aa) ?_
  exact ⟨(), Aa, W⟩
 refine EX tk 10 F W fun a w F W => ?_
 refine Ah ?_
 have H := Ay H
 subst H
 refine OP (.inl Aa) F W Aa (Am F Aa) (Am F Aa) ?_
 exact ⟨(), Aa, W⟩
theorem WW : Has Tryz.prog 156 := BM Tryz.func156
def Ck (p0 : List Int) (p1 : Int) (p2 : Int) (p3 : Int) (p4 : Int) : Option (Int × Int) := (Ci p0 p1 p2 p4).bind fun x1 => (Ci p0 x1.2.1 p3 x1.2.2).bind fun x2 => (Ci p0 x1.1 x2.1 x2.2.2).bind fun x3 => some (x3.2.1, x3.2.2)
theorem FO (Y : Nat → Prop) (X : List Nat) (w0 : World) (v1 : Value) (q_p4 : Nat) (p0 : List Int) (p1 : Int) (p2 : Int) (p3 : Int) (p4 : Int) (r : Int × Int) (H : Ck p0 p1 p2 p3 p4 = some r) (h_v1 : Sl w0 (NX X) ri v1 p0) (hL : Stw ⟨Y, X, w0⟩ [(q_p4, [Jint p4])] [] w0) :
    ca_ 143 #[v1, Jint p1, Jint p2, Jint p3, pp q_p4] w0 fun e w' => ∃ x : Unit, e = .returned (Jint r.1) ∧ Stw ⟨Y, X, w0⟩ [(q_p4, [Jint r.2])] [] w' := by
 refine enter Tryz.func143 Aa Tryz.ntmps143 Aa fun a F => ?_
 have W := hL
 unfold Ck at H
 refine vc tk 11 F W fun a w F W => ?_
 obtain ⟨x1, h1, H⟩ := Af H
 refine AO (Ml := [(q_p4, [Jint p4])]) (Zl := []) (β := Unit) (rv := fun x => .tuple #[Jint x1.1, Jint x1.2.1]) (MM := fun x => [(q_p4, [Jint x1.2.2])]) (ZZ := fun x => []) F W WW Aa Aa (fun hL => Em _ _ w (v1) q_p4 p0 p1 p2 p4 _ h1 (W.roX h_v1 (fun g hg => FF hg)) hL) fun x a w F W => ?_
 have W : Stw ⟨Y, X, w0⟩ [(q_p4, [Jint x1.2.2])] [] w := W
 refine ls F W Aa (Ao F Aa).q fun a w F W => ?_
 refine ls F W Aa (Eb (v := Jint x1.1) F Aa Aa).q fun a w F W => ?_
 refine ls F W Aa (Eb (v := Jint x1.2.1) F Aa Aa).q fun a w F W => ?_
 refine Bo tk 10 F W fun a w F W => ?_
 obtain ⟨x2, h2, H⟩ := Af H
 refine AO (Ml := [(q_p4, [Jint x1.2.2])]) (Zl := []) (β := Unit) (rv := fun x => .tuple #[Jint x2.1, Jint x2.2.1]) (MM := fun x => [(q_p4, [Jint x2.2.2])]) (ZZ := fun x => []) F W WW Aa Aa (fun hL => Em _ _ w (v1) q_p4 p0 x1.2.1 p3 x1.2.2 _ h2 (W.roX h_v1 (fun g hg => FF hg)) hL) fun x a w F W => ?_
 have W : Stw ⟨Y, X, w0⟩ [(q_p4, [Jint x2.2.2])] [] w := W
 refine ls F W Aa (Ao F Aa).q fun a w F W => ?_
 refine ls F W Aa (Eb (v := Jint x2.1) F Aa Aa).q fun a w F W => ?_
 refine ls F W Aa (Eb (v := Jint x2.2.1) F Aa Aa).q fun a w F W => ?_
 refine Bo tk 10 F W fun a w F W => ?_
 obtain ⟨x3, h3, H⟩ := Af H
 refine AO (Ml := [(q_p4, [Jint x2.2.2])]) (Zl := []) (β := Unit) (rv := fun x => .tuple #[Jint x3.1, Jint x3.2.1]) (MM := fun x => [(q_p4, [Jint x3.2.2])]) (ZZ := fun x => []) F W WW Aa Aa (fun hL => Em _ _ w (v1) q_p4 p0 x1.1 x2.1 x2.2.2 _ h3 (W.roX h_v1 (fun g hg => FF hg)) hL) fun x a w F W => ?_
 have W : Stw ⟨Y, X, w0⟩ [(q_p4, [Jint x3.2.2])] [] w := W
 refine ls F W Aa (Ao F Aa).q fun a w F W => ?_
 refine ls F W Aa (Eb (v := Jint x3.1) F Aa Aa).q fun a w F W => ?_
 refine ls F W Aa (Eb (v := Jint x3.2.1) F Aa Aa).q fun a w F W => ?_
 refine Bo tk 10 F W fun a w F W => ?_
 refine Ah ?_
 have H := Ay H
 subst H
 refine Av (.inl Aa) F W Aa (Am F Aa) ?_
 exact ⟨(), Aa, W⟩
theorem YN : Has Tryz.prog 143 := BM Tryz.func143
def Bg (p0 : List Int) (p1 : Int) (p2 : Int) : Option (Int × Int) := (Ck p0 (AJ (p1 - 1)) p1 (AJ (p1 + 1)) p2).bind fun x1 => some (x1.1, x1.2)
theorem Dh (Y : Nat → Prop) (X : List Nat) (w0 : World) (v1 : Value) (q_p2 : Nat) (p0 : List Int) (p1 : Int) (p2 : Int) (r : Int × Int) (H : Bg p0 p1 p2 = some r) (h_v1 : Sl w0 (NX X) ri v1 p0) (hL : Stw ⟨Y, X, w0⟩ [(q_p2, [Jint p2])] [] w0) :
    ca_ 142 #[v1, Jint p1, pp q_p2] w0 fun e w' => ∃ x : Unit, e = .returned (Jint r.1) ∧ Stw ⟨Y, X, w0⟩ [(q_p2, [Jint r.2])] [] w' := by
 refine enter Tryz.func142 Aa Tryz.ntmps142 Aa fun a F => ?_
 have W := hL
 unfold Bg at H
 refine vc tk 14 F W fun a w F W => ?_
 obtain ⟨x1, h1, H⟩ := Af H
 refine AO (Ml := [(q_p2, [Jint p2])]) (Zl := []) (β := Unit) (rv := fun x => Jint x1.1) (MM := fun x => [(q_p2, [Jint x1.2])]) (ZZ := fun x => []) F W YN Aa Aa (fun hL => FO _ _ w (v1) q_p2 p0 (AJ (p1 - 1)) p1 (AJ (p1 + 1)) p2 _ h1 (W.roX h_v1 (fun g hg => FF hg)) hL) fun x a w F W => ?_
 have W : Stw ⟨Y, X, w0⟩ [(q_p2, [Jint x1.2])] [] w := W
 refine Bo tk 3 F W fun a w F W => ?_
 refine Ah ?_
 have H := Ay H
 subst H
 refine Av (.inl Aa) F W Aa (Am F Aa) ?_
 exact ⟨(), Aa, W⟩
theorem WZ : Has Tryz.prog 142 := BM Tryz.func142
def CF (p0 : List Int) (p1 : Int) (p2 : Int) : Option (Int × Int) := (if 8 ≤ (AJ (p2 - p1)) then (if 50 ≤ (AJ (p2 - p1)) then (Bg p0 (AJ (p1 + (AJ ((AJ (Int.tdiv (AJ (p2 - p1)) 4)) * 1)))) 0).bind fun x7 => (Bg p0 (AJ (p1 + (AJ ((AJ (Int.tdiv (AJ (p2 - p1)) 4)) * 2)))) x7.2).bind fun x8 => (Bg p0 (AJ (p1 + (AJ ((AJ (Int.tdiv (AJ (p2 - p1)) 4)) * 3)))) x8.2).bind fun x9 => some (x7.1, x8.1, x9.1, x9.2) else some (AJ (p1 + (AJ ((AJ (Int.tdiv (AJ (p2 - p1)) 4)) * 1))), AJ (p1 + (AJ ((AJ (Int.tdiv (AJ (p2 - p1)) 4)) * 2))), AJ (p1 + (AJ ((AJ (Int.tdiv (AJ (p2 - p1)) 4)) * 3))), 0)).bind fun (x3, x4, x5, x6) => (Ck p0 x3 x4 x5 x6).bind fun x10 => some (x10.1, x10.2) else some (AJ (p1 + (AJ ((AJ (Int.tdiv (AJ (p2 - p1)) 4)) * 2))), 0)).bind fun (x1, x2) => (if x2 = 0 then some (x1, 1) else (if x2 = 12 then some (x1, 2) else some (x1, 0)))
theorem GR (Y : Nat → Prop) (w0 : World) (v1 : Value) (p0 : List Int) (p1 : Int) (p2 : Int) (r : Int × Int) (H : CF p0 p1 p2 = some r) (h_v1 : Sl w0 (NX []) ri v1 p0) :
    ca_ 116 #[v1, Jint p1, Jint p2] w0 fun e w' => e = .returned (.tuple #[Jint r.1, Jint r.2]) ∧ Below w0.heap.size w0 w' := by
 refine enter Tryz.func116 Aa Tryz.ntmps116 Aa fun a F => ?_
 have W := Stw.start Y w0
 unfold CF at H
 refine vc tk 16 F W fun a w F W => ?_
 refine Bw (cs := [Jint 0]) F W Aa Z3 Aa fun b1 a w F W => ?_
 refine Bo tk 6 F W fun a w F W => ?_
 refine ls F W Aa (N0 F Aa Aa (by decide) Aa).q fun a w F W => ?_
 refine Bo tk 9 F W fun a w F W => ?_
 refine ls F W Aa (N0 F Aa Aa (by decide) Aa).q fun a w F W => ?_
 refine Bo tk 9 F W fun a w F W => ?_
 refine ls F W Aa (N0 F Aa Aa (by decide) Aa).q fun a w F W => ?_
 refine vl tk 4 F W fun a w F W => ?_
 refine Ab ?_
 obtain ⟨o1, G1, K1⟩ := Af H
 refine Ap (fun a w => ∃ x1 : Int, ∃ x2 : Int, some ((x1, x2)) = some o1 ∧ Fr 57 [] [(6, Jint 0), (7, Jint 0), (9, pp b1), (11, Jint x1)] a ∧ sy Y w0 [(b1, [Jint x2])] [] w) ?_ ?_
 ·
  have H := G1
  refine vc tk 6 F W fun a w F W => ?_
  refine A1 F Aa H (fun F H => ?_) fun F H => ?_
  ·
   obtain ⟨o2, G2, K2⟩ := Af H
   refine Ap (fun a w => ∃ x3 : Int, ∃ x4 : Int, ∃ x5 : Int, ∃ x6 : Int, some ((x3, x4, x5, x6)) = some o2 ∧ Fr 57 [] [(0, v1), (6, Jint 0), (7, Jint 0), (9, pp b1), (10, Jint x3), (11, Jint x4), (12, Jint x5)] a ∧ sy Y w0 [(b1, [Jint x6])] [] w) ?_ ?_
   ·
    have H := G2
    refine vc tk 6 F W fun a w F W => ?_
    refine A1 F Aa H (fun F H => ?_) fun F H => ?_
    ·
     refine vc tk 4 F W fun a w F W => ?_
     obtain ⟨x7, h1, H⟩ := Af H
     refine AO (Ml := [(b1, [Jint 0])]) (Zl := []) (β := Unit) (rv := fun x => Jint x7.1) (MM := fun x => [(b1, [Jint x7.2])]) (ZZ := fun x => []) F W WZ Aa Aa (fun hL => Dh _ _ w (v1) b1 p0 (AJ (p1 + (AJ ((AJ (Int.tdiv (AJ (p2 - p1)) 4)) * 1)))) 0 _ h1 (W.roX h_v1 (fun g hg => FF hg)) hL) fun x a w F W => ?_
     have W : sy Y w0 [(b1, [Jint x7.2])] [] w := W
     refine Bo tk 7 F W fun a w F W => ?_
     obtain ⟨x8, h2, H⟩ := Af H
     refine AO (Ml := [(b1, [Jint x7.2])]) (Zl := []) (β := Unit) (rv := fun x => Jint x8.1) (MM := fun x => [(b1, [Jint x8.2])]) (ZZ := fun x => []) F W WZ Aa Aa (fun hL => Dh _ _ w (v1) b1 p0 (AJ (p1 + (AJ ((AJ (Int.tdiv (AJ (p2 - p1)) 4)) * 2)))) x7.2 _ h2 (W.roX h_v1 (fun g hg => FF hg)) hL) fun x a w F W => ?_
     have W : sy Y w0 [(b1, [Jint x8.2])] [] w := W
     refine Bo tk 6 F W fun a w F W => ?_
     obtain ⟨x9, h3, H⟩ := Af H
     refine AO (Ml := [(b1, [Jint x8.2])]) (Zl := []) (β := Unit) (rv := fun x => Jint x9.1) (MM := fun x => [(b1, [Jint x9.2])]) (ZZ := fun x => []) F W WZ Aa Aa (fun hL => Dh _ _ w (v1) b1 p0 (AJ (p1 + (AJ ((AJ (Int.tdiv (AJ (p2 - p1)) 4)) * 3)))) x8.2 _ h3 (W.roX h_v1 (fun g hg => FF hg)) hL) fun x a w F W => ?_
     have W : sy Y w0 [(b1, [Jint x9.2])] [] w := W
     refine vl tk 2 F W fun a w F W => ?_
     refine Ab ?_
     exact ⟨_, _, _, _, H, F.ra Aa, W⟩
    refine AD (Ab ?_)
    exact ⟨_, _, _, _, H, F.ra Aa, W⟩
   rintro a w ⟨x3, x4, x5, x6, hj, F, W⟩
   have hj := Ay hj
   subst hj
   have H := K2
   refine vc tk 5 F W fun a w F W => ?_
   obtain ⟨x10, h4, H⟩ := Af H
   refine AO (Ml := [(b1, [Jint x6])]) (Zl := []) (β := Unit) (rv := fun x => Jint x10.1) (MM := fun x => [(b1, [Jint x10.2])]) (ZZ := fun x => []) F W YN Aa Aa (fun hL => FO _ _ w (v1) b1 p0 x3 x4 x5 x6 _ h4 (W.roX h_v1 (fun g hg => FF hg)) hL) fun x a w F W => ?_
   have W : sy Y w0 [(b1, [Jint x10.2])] [] w := W
   refine vl tk 2 F W fun a w F W => ?_
   refine Ab ?_
   exact ⟨_, _, H, F.ra Aa, W⟩
  refine AD (Ab ?_)
  exact ⟨_, _, H, F.ra Aa, W⟩
 rintro a w ⟨x1, x2, hj, F, W⟩
 have hj := Ay hj
 subst hj
 have H := K1
 refine CT tk 12 [0] F W (ai fun a w F W => ?_)
 refine BS F Aa (fun hb => ?_) fun hb => ?_
 ·
  have H := BB (B4 hb) H
  rw [hb] at F
  refine vc tk 7 F W fun a w F W => ?_
  refine Ah (AC ?_)
  have H := Ay H
  subst H
  refine OP (.inl Aa) F W Aa (Am F Aa) (Am F Aa) ?_
  exact ⟨rfl, W.done⟩
 have H := BC (B1 hb) H
 rw [hb] at F
 refine vc tk 6 F W fun a w F W => ?_
 refine BS F Aa (fun hb => ?_) fun hb => ?_
 ·
  have H := BB (B4 hb) H
  rw [hb] at F
  refine vc tk 7 F W fun a w F W => ?_
  refine Ah (AC ?_)
  have H := Ay H
  subst H
  refine OP (.inl Aa) F W Aa (Am F Aa) (Am F Aa) ?_
  exact ⟨rfl, W.done⟩
 have H := BC (B1 hb) H
 rw [hb] at F
 refine vc tk 7 F W fun a w F W => ?_
 refine Ah (AC ?_)
 have H := Ay H
 subst H
 refine OP (.inl Aa) F W Aa (Am F Aa) (Am F Aa) ?_
 exact ⟨rfl, W.done⟩
end
end Go.Proofs.YtgoifghhcekahaaGreatDoor
