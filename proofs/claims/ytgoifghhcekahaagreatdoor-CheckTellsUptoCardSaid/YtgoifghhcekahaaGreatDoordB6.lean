/- The functions of layer 30, HQ. Conditions: none. -/
import Derived.Test.YtgoifghhcekahaaGreatDoordB5
namespace Go.Proofs.YtgoifghhcekahaaGreatDoor
noncomputable section
open Go Go.RowKit
set_option linter.unusedVariables false
set_option linter.unusedSimpArgs false
set_option maxRecDepth 20000
theorem Y9 : Has Tryz.prog 49 := BM Tryz.func49
def DP (fRec : Tr28 → Option Int) (p0 : Tr28) : (Int × Int) → Option ((Int × Int) ⊕ Int)
  | (x2, x3) => (if x3 < (p0.un.2.2.2.length : Int) then ((ix p0.un.2.2.2 x3).bind fun x5 => (fRec x5).bind fun x6 => (if x2 < (AJ (x6 + 1)) then (ix p0.un.2.2.2 x3).bind fun x7 => (fRec x7).bind fun x8 => some (AJ (x8 + 1)) else some x2)).bind fun x4 => some (.inl (x4, AJ (x3 + 1))) else some (.inr x2))
def EY (fRec : Tr28 → Option Int) (p0 : Tr28) : Option Int := (AB (DP fRec p0) (1, 0)).bind fun x1 => some x1
def Ek : Nat → Tr28 → Option Int
  | 0 => fun _ => none
  | n + 1 => EY (Ek n)
def Oz (p0 : Tr28) : Option Int := FT fun n => Ek n p0
theorem QM (fRec : Tr28 → Option Int) (ih : ∀ (Y : Nat → Prop) (w0 : World) (v1 : Value) (p0 : Tr28) (r : Int) (H : fRec p0 = some r) (h_v1 : Sl w0 (NX []) B0 v1 p0.un.2.2.2), ca_ 49 #[.agg #[Jint p0.un.1, Jint p0.un.2.1, Jint p0.un.2.2.1, v1]] w0 fun e w' => e = .returned (Jint r) ∧ Below w0.heap.size w0 w') (Y : Nat → Prop) (w0 : World) (v1 : Value) (p0 : Tr28) (r : Int) (H : EY fRec p0 = some r) (h_v1 : Sl w0 (NX []) B0 v1 p0.un.2.2.2) :
    ca_ 49 #[.agg #[Jint p0.un.1, Jint p0.un.2.1, Jint p0.un.2.2.1, v1]] w0 fun e w' => e = .returned (Jint r) ∧ Below w0.heap.size w0 w' := by
 refine enter Tryz.func49 Aa Tryz.ntmps49 Aa fun a F => ?_
 have W := Stw.start Y w0
 obtain ⟨v2, h1, h_v1⟩ := h_v1.ex CA
 unfold EY at H
 refine vc tk 2 F W fun a w F W => ?_
 refine BQ (cs := (Jp p0 v1)) F W Aa Aa Aa fun b1 a w F W => ?_
 refine Bo tk 8 F W fun a w F W => ?_
 obtain ⟨o1, G1, K1⟩ := Af H
 refine Ap (fun a w => ∃ x1 : Int, some (x1) = some o1 ∧ Fr 29 [] [(2, Jint 0), (3, Jint x1)] a ∧ sy Y w0 (Js b1 p0 v1) [] w) ?_ ?_
 ·
  have H := G1
  refine vc tk 6 F W fun a w F W => ?_
  refine AQ H (fun s a w => Fr 29 [] [(1, pp b1), (2, Jint 0), (3, Jint s.1), (4, Jint s.2)] a ∧ sy Y w0 (Js b1 p0 v1) [] w) ⟨F.ra Aa, W⟩ fun s o a w H L2 hR => ?_
  obtain ⟨x2, x3⟩ := s
  obtain ⟨F, W⟩ := hR
  have F : Fr 29 [] [(1, pp b1), (2, Jint 0), (3, Jint x2), (4, Jint x3)] a := F
  have W : sy Y w0 (Js b1 p0 v1) [] w := W
  rw [DP] at H
  refine CT tk 6 [0] F W (ai fun a w F W => ?_)
  refine ls F W Aa (Bz (r := B0) (l := p0.un.2.2.2) Nk Aa F Aa (Al CA h1 (Ae h_v1))).q fun a w F W => ?_
  refine Bo tk 3 F W fun a w F W => ?_
  refine A1 F Aa H (fun F H => ?_) fun F H => ?_
  ·
   refine AD (Ab ?_)
   obtain ⟨o3, G3, K3⟩ := Af H
   refine Ap (fun a w => ∃ x4 : Int, some (x4) = some o3 ∧ Fr 29 [] [(1, pp b1), (2, Jint 0), (3, Jint x4), (4, Jint x3)] a ∧ sy Y w0 (Js b1 p0 v1) [] w) ?_ ?_
   ·
    have H := G3
    refine CT tk 6 [0] F W (ai fun a w F W => ?_)
    obtain ⟨x5, h2, H⟩ := Af H
    obtain ⟨v3, h3, h4⟩ := CS h1 h2
    have h5 : HZ v3 = [Jint x5.un.1, Jint x5.un.2.1, Jint x5.un.2.2.1, (v3.2.2.2.1)] := congrArg (fun q : Tr28 => ([Jint q.un.1, Jint q.un.2.1, Jint q.un.2.2.1, (v3.2.2.2.1)] : List Value)) h4
    refine ls F W Aa (Au (r := Ia) Se F Aa Aa (Ae h_v1) h3).q fun a w F W => ?_
    refine ls F W Aa (Aj (y := Value.agg #[Jint x5.un.1, Jint x5.un.2.1, Jint x5.un.2.2.1, (v3.2.2.2.1)]) (j := 0) (i := x3) (enc := HZ) F Aa Aa (Ae h_v1) h3 Oi I2 (by rw [h5]; rfl)).q fun a w F W => ?_
    obtain ⟨x6, h6, H⟩ := Af H
    refine ls F W Aa (AA (v := Jint x6) F Y9 Aa (fun w W => ih any w ((v3.2.2.2.1)) x5 _ h6 (Cl (Bf (Ae h_v1) h3 (Ag.snd (Ag.snd (Ag.snd Ag.here))) (congrArg (fun q : Tr28 => q.un.2.2.2) h4)) W))) fun a w F W => ?_
    refine Bo tk 5 F W fun a w F W => ?_
    refine A1 F Aa H (fun F H => ?_) fun F H => ?_
    ·
     obtain ⟨v4, h7, h8⟩ := Sl.ex CA (Sl.at_ h_v1 h3 (Ag.snd (Ag.snd (Ag.snd Ag.here))) (congrArg (fun q : Tr28 => q.un.2.2.2) h4))
     refine CT tk 4 [0] F W (ai fun a w F W => ?_)
     obtain ⟨x7, h9, H⟩ := Af H
     obtain ⟨v5, h10, h11⟩ := CS h1 h9
     have h12 : HZ v5 = [Jint x7.un.1, Jint x7.un.2.1, Jint x7.un.2.2.1, (v5.2.2.2.1)] := congrArg (fun q : Tr28 => ([Jint q.un.1, Jint q.un.2.1, Jint q.un.2.2.1, (v5.2.2.2.1)] : List Value)) h11
     refine ls F W Aa (Au (r := Ia) Se F Aa Aa (Ae h_v1) h10).q fun a w F W => ?_
     refine ls F W Aa (Aj (y := Value.agg #[Jint x7.un.1, Jint x7.un.2.1, Jint x7.un.2.2.1, (v5.2.2.2.1)]) (j := 0) (i := x3) (enc := HZ) F Aa Aa (Ae h_v1) h10 Oi I2 (by rw [h12]; rfl)).q fun a w F W => ?_
     obtain ⟨x8, h13, H⟩ := Af H
     refine ls F W Aa (AA (v := Jint x8) F Y9 Aa (fun w W => ih any w ((v5.2.2.2.1)) x7 _ h13 (Cl (Bf (Ae h_v1) h10 (Ag.snd (Ag.snd (Ag.snd Ag.here))) (congrArg (fun q : Tr28 => q.un.2.2.2) h11)) W))) fun a w F W => ?_
     refine vl tk 3 F W fun a w F W => ?_
     refine Az (Ab ?_)
     exact ⟨_, H, F.ra Aa, W⟩
    refine AD (Az (Ab ?_))
    exact ⟨_, H, F.ra Aa, W⟩
   rintro a w ⟨x4, hj, F, W⟩
   have hj := Ay hj
   subst hj
   have H := K3
   refine vc tk 5 F W fun a w F W => ?_
   refine Ab ?_
   exact ⟨_, H, F.ra Aa, W⟩
  refine AN ?_
  iterate 2 refine A6 ?_
  refine AP (Ab ?_)
  have H := L2 _ H
  exact ⟨_, H, F.ra Aa, W⟩
 rintro a w ⟨x1, hj, F, W⟩
 have hj := Ay hj
 subst hj
 have H := K1
 refine vc tk 6 F W fun a w F W => ?_
 refine Ah ?_
 have H := Ay H
 subst H
 refine Av (.inl Aa) F W Aa (Am F Aa) ?_
 exact ⟨rfl, W.done⟩
theorem Rz : ∀ (n : Nat) (Y : Nat → Prop) (w0 : World) (v1 : Value) (p0 : Tr28) (r : Int) (H : Ek n p0 = some r) (h_v1 : Sl w0 (NX []) B0 v1 p0.un.2.2.2), ca_ 49 #[.agg #[Jint p0.un.1, Jint p0.un.2.1, Jint p0.un.2.2.1, v1]] w0 fun e w' => e = .returned (Jint r) ∧ Below w0.heap.size w0 w' := by
  intro n
  induction n with
  | zero => intro Y w0 v1 p0 r H; exact nomatch H
  | succ n ih => intro Y w0 v1 p0 r H h_v1; exact QM (Ek n) ih Y w0 v1 p0 r H h_v1
theorem SN (Y : Nat → Prop) (w0 : World) (v1 : Value) (p0 : Tr28) (r : Int) (H : Oz p0 = some r) (h_v1 : Sl w0 (NX []) B0 v1 p0.un.2.2.2) :
    ca_ 49 #[.agg #[Jint p0.un.1, Jint p0.un.2.1, Jint p0.un.2.2.1, v1]] w0 fun e w' => e = .returned (Jint r) ∧ Below w0.heap.size w0 w' := by
  obtain ⟨n, H⟩ := BP H
  exact Rz n Y w0 v1 p0 r H h_v1
def HJ (p0 : Tr28) : Option Bool := ((NM p0).bind fun x2 => (if x2 = true then (Jv p0).bind fun x3 => (if x3 ≤ 64 then (Oz p0).bind fun x4 => some (decide (x4 ≤ 8)) else some false) else some false)).bind fun x1 => some x1
theorem Rl (Y : Nat → Prop) (w0 : World) (v1 : Value) (p0 : Tr28) (r : Bool) (H : HJ p0 = some r) (h_v1 : Sl w0 (NX []) B0 v1 p0.un.2.2.2) :
    ca_ 20 #[.agg #[Jint p0.un.1, Jint p0.un.2.1, Jint p0.un.2.2.1, v1]] w0 fun e w' => e = .returned (.bool r) ∧ Below w0.heap.size w0 w' := by
 refine enter Tryz.func20 Aa Tryz.ntmps20 Aa fun a F => ?_
 have W := Stw.start Y w0
 obtain ⟨v2, h1, h_v1⟩ := h_v1.ex CA
 unfold HJ at H
 refine vc tk 2 F W fun a w F W => ?_
 refine BQ (cs := (Jp p0 v1)) F W Aa Aa Aa fun b1 a w F W => ?_
 refine vl tk 2 F W fun a w F W => ?_
 refine Ab ?_
 obtain ⟨o1, G1, K1⟩ := Af H
 refine Ap (fun a w => ∃ x1 : Bool, some (x1) = some o1 ∧ Fr 15 [] [(2, .bool x1)] a ∧ sy Y w0 (Js b1 p0 v1) [] w) ?_ ?_
 ·
  have H := G1
  refine CT tk 2 [0] F W (ai fun a w F W => ?_)
  obtain ⟨x2, h2, H⟩ := Af H
  refine ls F W Aa (AA (v := Value.bool x2) F aB Aa (fun w W => SK any w (v1) p0 _ h2 (Cl (Al CA h1 (Ae h_v1)) W))) fun a w F W => ?_
  refine ls F W Aa (Ao F Aa).q fun a w F W => ?_
  rcases bxq x2 with hb | hb
  ·
   have H := BB hb H
   rw [hb] at F
   refine Dy F W (Ad F Aa Aa Aa Aa) Aa (As Aa) (Bk (v := Value.agg #[Jint p0.un.1, Jint p0.un.2.1, Jint p0.un.2.2.1, v1]) 0 F Aa Aa I2 Aa).q fun a w F W => ?_
   refine FU (Ad F Aa Aa Aa Aa) ?_
   obtain ⟨x3, h3, H⟩ := Af H
   refine ls F W Aa (AA (v := Jint x3) F ZF Aa (fun w W => OW any w (v1) p0 _ h3 (Cl (Al CA h1 (Ae h_v1)) W))) fun a w F W => ?_
   refine vl tk 3 F W fun a w F W => ?_
   rcases bxq (decide (x3 ≤ 64)) with hb | hb
   ·
    have H := BB (B4 hb) H
    rw [hb] at F
    refine Dy F W (Ad F Aa Aa Aa Aa) Aa (As Aa) (Bk (v := Value.agg #[Jint p0.un.1, Jint p0.un.2.1, Jint p0.un.2.2.1, v1]) 0 F Aa Aa I2 Aa).q fun a w F W => ?_
    refine FU (Ad F Aa Aa Aa Aa) ?_
    obtain ⟨x4, h4, H⟩ := Af H
    refine ls F W Aa (AA (v := Jint x4) F Y9 Aa (fun w W => SN any w (v1) p0 _ h4 (Cl (Al CA h1 (Ae h_v1)) W))) fun a w F W => ?_
    refine vl tk 4 F W fun a w F W => ?_
    refine Ab ?_
    exact ⟨_, H, F.ra Aa, W⟩
   have H := BC (B1 hb) H
   rw [hb] at F
   refine vl tk 6 F W fun a w F W => ?_
   refine Ab ?_
   exact ⟨_, H, F.ra Aa, W⟩
  have H := BC (by rw [hb]; decide) H
  rw [hb] at F
  refine vl tk 11 F W fun a w F W => ?_
  refine Ab ?_
  exact ⟨_, H, F.ra Aa, W⟩
 rintro a w ⟨x1, hj, F, W⟩
 have hj := Ay hj
 subst hj
 have H := K1
 refine Ah ?_
 have H := Ay H
 subst H
 refine Av (.inl Aa) F W Aa (Am F Aa) ?_
 exact ⟨rfl, W.done⟩
theorem bX : Has Tryz.prog 20 := BM Tryz.func20
theorem Wy : Bt Tryz.prog 28 [Jint 0, Jint 0, Jint 0, .slice none 0 0] [(0, 1), (1, 1), (2, 1), (3, 1)] := ⟨⟨.agg #[Jint 0, Jint 0, Jint 0, .slice none 0 0], by kernel_rfl, rfl⟩, ⟨_, Nc, fun w => by kernel_rfl⟩⟩
theorem Y0 : Has Tryz.prog 23 := BM Tryz.func23
abbrev S1 (a0 : Nat) (a1 : Tr28) (a2 : Value) (a3 : Nat) (a4 : Tr28) (a5 : Value) : List (Nat × List Value) := [(a0, [Jint a1.un.1, Jint a1.un.2.1, Jint a1.un.2.2.1, a2]), (a3, [Jint a4.un.1, Jint a4.un.2.1, Jint a4.un.2.2.1, a5])]
def E6 (fRec : Tr28 → Tr28 → Option Bool) (p0 : Tr28) (p1 : Tr28) : Int → Option (Int ⊕ (Unit ⊕ Bool))
  | x1 => (if x1 < (p0.un.2.2.2.length : Int) then (ix p0.un.2.2.2 x1).bind fun x2 => (ix p1.un.2.2.2 x1).bind fun x3 => (fRec x2 x3).bind fun x4 => (if (!x4) = true then some (.inr (.inr false)) else some (.inl (AJ (x1 + 1)))) else some (.inr (.inl ())))
def E4 (fRec : Tr28 → Tr28 → Option Bool) (p0 : Tr28) (p1 : Tr28) : Option Bool := (if (decide (p0.un.1 ≠ p1.un.1) || (decide (p0.un.2.1 ≠ p1.un.2.1) || (decide (p0.un.2.2.1 ≠ p1.un.2.2.1) || decide ((p0.un.2.2.2.length : Int) ≠ (p1.un.2.2.2.length : Int))))) = true then some false else HA (AB (E6 fRec p0 p1) 0) fun _ => some true)
def EN : Nat → Tr28 → Tr28 → Option Bool
  | 0 => fun _ _ => none
  | n + 1 => E4 (EN n)
def JU (p0 : Tr28) (p1 : Tr28) : Option Bool := FT fun n => EN n p0 p1
theorem QA (fRec : Tr28 → Tr28 → Option Bool) (ih : ∀ (Y : Nat → Prop) (w0 : World) (v1 : Value) (v2 : Value) (p0 : Tr28) (p1 : Tr28) (r : Bool) (H : fRec p0 p1 = some r) (h_v1 : Sl w0 (NX []) B0 v1 p0.un.2.2.2) (h_v2 : Sl w0 (NX []) B0 v2 p1.un.2.2.2), ca_ 23 #[.agg #[Jint p0.un.1, Jint p0.un.2.1, Jint p0.un.2.2.1, v1], .agg #[Jint p1.un.1, Jint p1.un.2.1, Jint p1.un.2.2.1, v2]] w0 fun e w' => e = .returned (.bool r) ∧ Below w0.heap.size w0 w') (Y : Nat → Prop) (w0 : World) (v1 : Value) (v2 : Value) (p0 : Tr28) (p1 : Tr28) (r : Bool) (H : E4 fRec p0 p1 = some r) (h_v1 : Sl w0 (NX []) B0 v1 p0.un.2.2.2) (h_v2 : Sl w0 (NX []) B0 v2 p1.un.2.2.2) :
    ca_ 23 #[.agg #[Jint p0.un.1, Jint p0.un.2.1, Jint p0.un.2.2.1, v1], .agg #[Jint p1.un.1, Jint p1.un.2.1, Jint p1.un.2.2.1, v2]] w0 fun e w' => e = .returned (.bool r) ∧ Below w0.heap.size w0 w' := by
 refine enter Tryz.func23 Aa Tryz.ntmps23 Aa fun a F => ?_
 have W := Stw.start Y w0
 obtain ⟨v3, h1, h_v1⟩ := h_v1.ex CA
 obtain ⟨v4, h2, h_v2⟩ := h_v2.ex CA
 unfold E4 at H
 refine vc tk 2 F W fun a w F W => ?_
 refine BQ (cs := (Jp p0 v1)) F W Aa Aa Aa fun b1 a w F W => ?_
 refine BQ (cs := (Jp p1 v2)) F W Aa Aa Aa fun b2 a w F W => ?_
 refine Bo tk 4 F W fun a w F W => ?_
 refine Ap (fun a w => Fr 53 [] [(2, pp b1), (3, pp b2), (4, .bool false), (33, .bool (decide (p0.un.1 ≠ p1.un.1) || (decide (p0.un.2.1 ≠ p1.un.2.1) || (decide (p0.un.2.2.1 ≠ p1.un.2.2.1) || decide ((p0.un.2.2.2.length : Int) ≠ (p1.un.2.2.2.length : Int))))))] a ∧ sy Y w0 (S1 b2 p1 v2 b1 p0 v1) [] w) ?_ ?_
 ·
  refine CT tk 7 [1, 0] F W (ai (ai fun a w F W => ?_))
  rcases bxq (decide (p0.un.1 ≠ p1.un.1)) with hb0 | hb0
  ·
   rw [hb0] at F
   refine vl tk 23 F W fun a w F W => ?_
   refine Ab ?_
   exact ⟨F.re ⟨rfl, Aa, Aa, (CL (by try rw [hb0]; all_goals simp only [CM])), trivial⟩, W⟩
  rw [hb0] at F
  refine DU tk 7 [1, 0] F W (ai (ai fun a w F W => ?_))
  rcases bxq (decide (p0.un.2.1 ≠ p1.un.2.1)) with hb1 | hb1
  ·
   rw [hb1] at F
   refine vl tk 16 F W fun a w F W => ?_
   refine Ab ?_
   exact ⟨F.re ⟨rfl, Aa, Aa, (CL (by try rw [hb1]; try rw [hb0]; all_goals simp only [CM])), trivial⟩, W⟩
  rw [hb1] at F
  refine DU tk 7 [1, 0] F W (ai (ai fun a w F W => ?_))
  rcases bxq (decide (p0.un.2.2.1 ≠ p1.un.2.2.1)) with hb2 | hb2
  ·
   rw [hb2] at F
   refine vl tk 9 F W fun a w F W => ?_
   refine Ab ?_
   exact ⟨F.re ⟨rfl, Aa, Aa, (CL (by try rw [hb2]; try rw [hb1]; try rw [hb0]; all_goals simp only [CM])), trivial⟩, W⟩
  rw [hb2] at F
  refine DU tk 2 [1] F W (ai fun a w F W => ?_)
  refine Dy F W (Ad F Aa Aa Aa Aa) Aa (As Aa) (Bz (r := B0) (l := p0.un.2.2.2) Nk Aa F Aa (Al CA h1 (Ae h_v1))).q fun a w F W => ?_
  refine DU tk 2 [0] F W (ai fun a w F W => ?_)
  refine Dy F W (Ad F Aa Aa Aa Aa) Aa (As Aa) (Bz (r := B0) (l := p1.un.2.2.2) Nk Aa F Aa (Al CA h2 (Ae h_v2))).q fun a w F W => ?_
  refine vl tk 3 F W fun a w F W => ?_
  refine Ab ?_
  exact ⟨F.re ⟨rfl, Aa, Aa, (CL (by try rw [hb2]; try rw [hb1]; try rw [hb0]; all_goals simp only [CM])), trivial⟩, W⟩
 rintro a w ⟨F, W⟩
 refine Bi F Aa H (fun F H => ?_) fun F H => ?_
 ·
  refine vc tk 5 F W fun a w F W => ?_
  refine Ah (Aw ?_)
  have H := Ay H
  subst H
  refine Av (.inl Aa) F W Aa (Am F Aa) ?_
  exact ⟨rfl, W.done⟩
 refine AD (Ab ?_)
 obtain ⟨o1, G1, K1, L1⟩ := Lh H
 refine Ap (fun a w => some (Sum.inl ()) = some o1 ∧ Fr 53 [] [(4, .bool false)] a ∧ sy Y w0 (S1 b2 p1 v2 b1 p0 v1) [] w) ?_ ?_
 ·
  have H := G1
  refine vc tk 6 F W fun a w F W => ?_
  have W := W.frontM (i := 1) Aa Aa
  have W := W.frontM (i := 1) Aa Aa
  refine AQ H (fun s a w => Fr 53 [] [(2, pp b1), (3, pp b2), (4, .bool false), (5, Jint s)] a ∧ sy Y w0 (S1 b2 p1 v2 b1 p0 v1) [] w) ⟨F.ra Aa, W⟩ fun s o a w H L2 hR => ?_
  obtain ⟨x1, rfl⟩ : ∃ x, x = s := ⟨s, rfl⟩
  obtain ⟨F, W⟩ := hR
  have F : Fr 53 [] [(2, pp b1), (3, pp b2), (4, .bool false), (5, Jint x1)] a := F
  have W : sy Y w0 (S1 b2 p1 v2 b1 p0 v1) [] w := W
  rw [E6] at H
  refine CT tk 6 [1] F W (ai fun a w F W => ?_)
  refine ls F W Aa (Bz (r := B0) (l := p0.un.2.2.2) Nk Aa F Aa (Al CA h1 (Ae h_v1))).q fun a w F W => ?_
  refine Bo tk 3 F W fun a w F W => ?_
  refine A1 F Aa H (fun F H => ?_) fun F H => ?_
  ·
   refine EX tk 5 F W fun a w F W => ?_
   refine B5 W MO (by kernel_rfl) ?_
   refine qs F Aa (Aq Nc Aa Aa Aa VO F Aa 3 Aa).q fun a F => ?_
   refine qs F Aa (Bk (v := v1) 1 F Aa Aa VO Aa).q fun a F => ?_
   refine qs F Aa (Ao F Aa).q fun a F => ?_
   obtain ⟨x2, h3, H⟩ := Af H
   obtain ⟨v5, h4, h5⟩ := CS h1 h3
   have h6 : HZ v5 = [Jint x2.un.1, Jint x2.un.2.1, Jint x2.un.2.2.1, (v5.2.2.2.1)] := congrArg (fun q : Tr28 => ([Jint q.un.1, Jint q.un.2.1, Jint q.un.2.2.1, (v5.2.2.2.1)] : List Value)) h5
   refine qs F Aa (Au (r := Ia) Se F Aa Aa (Ae h_v1) h4).q fun a F => ?_
   refine qs F Aa (Aj (y := Value.agg #[Jint x2.un.1, Jint x2.un.2.1, Jint x2.un.2.2.1, (v5.2.2.2.1)]) (j := 0) (i := x1) (enc := HZ) F Aa Aa (Ae h_v1) h4 Oi I2 (by rw [h6]; rfl)).q fun a F => ?_
   refine qs F Aa (Aq Nc Aa Aa Aa VO F Aa 3 Aa).q fun a F => ?_
   refine qs F Aa (Bk (v := v2) 0 F Aa Aa VO Aa).q fun a F => ?_
   refine qs F Aa (Ao F Aa).q fun a F => ?_
   obtain ⟨x3, h7, H⟩ := Af H
   obtain ⟨v6, h8, h9⟩ := CS h2 h7
   have h10 : HZ v6 = [Jint x3.un.1, Jint x3.un.2.1, Jint x3.un.2.2.1, (v6.2.2.2.1)] := congrArg (fun q : Tr28 => ([Jint q.un.1, Jint q.un.2.1, Jint q.un.2.2.1, (v6.2.2.2.1)] : List Value)) h9
   refine qs F Aa (Au (r := Ia) Se F Aa Aa (Ae h_v2) h8).q fun a F => ?_
   refine qs F Aa (Aj (y := Value.agg #[Jint x3.un.1, Jint x3.un.2.1, Jint x3.un.2.2.1, (v6.2.2.2.1)]) (j := 0) (i := x1) (enc := HZ) F Aa Aa (Ae h_v2) h8 Oi I2 (by rw [h10]; rfl)).q fun a F => ?_
   obtain ⟨x4, h11, H⟩ := Af H
   refine qs F Aa (AA (v := Value.bool x4) F Y0 Aa (fun w W => ih any w ((v5.2.2.2.1)) ((v6.2.2.2.1)) x2 x3 _ h11 (Cl (Bf (Ae h_v1) h4 (Ag.snd (Ag.snd (Ag.snd Ag.here))) (congrArg (fun q : Tr28 => q.un.2.2.2) h5)) W) (Cl (Bf (Ae h_v2) h8 (Ag.snd (Ag.snd (Ag.snd Ag.here))) (congrArg (fun q : Tr28 => q.un.2.2.2) h9)) W))) fun a F => ?_
   refine qs F Aa (Jn F Aa).q fun a F => ?_
   refine AK fun w W => ?_
   refine Ab ?_
   refine Bi F Aa H (fun F H => ?_) fun F H => ?_
   ·
    refine vc tk 5 F W fun a w F W => ?_
    refine Ah (AC ?_)
    iterate 2 refine Aw ?_
    refine AC (Aw ?_)
    have H := L2 _ H
    have H := L1 _ H
    have H := Ay H
    subst H
    refine Av (.inl Aa) F W Aa (Am F Aa) ?_
    exact ⟨rfl, W.done⟩
   refine AD (Az ?_)
   refine vn tk 5 F W fun a w F W => ?_
   refine Ab ?_
   have W := W.frontM (i := 1) Aa Aa
   have W := W.frontM (i := 1) Aa Aa
   exact ⟨_, H, F.ra Aa, W⟩
  refine AN ?_
  iterate 2 refine A6 ?_
  refine AP (Ab ?_)
  have W := W.frontM (i := 1) Aa Aa
  have W := W.frontM (i := 1) Aa Aa
  have H := L2 _ H
  exact ⟨H, F.ra Aa, W⟩
 rintro a w ⟨hj, F, W⟩
 have H := K1 _ hj
 refine vc tk 5 F W fun a w F W => ?_
 refine Ah ?_
 have H := Ay H
 subst H
 refine Av (.inl Aa) F W Aa (Am F Aa) ?_
 exact ⟨rfl, W.done⟩
theorem R0 : ∀ (n : Nat) (Y : Nat → Prop) (w0 : World) (v1 : Value) (v2 : Value) (p0 : Tr28) (p1 : Tr28) (r : Bool) (H : EN n p0 p1 = some r) (h_v1 : Sl w0 (NX []) B0 v1 p0.un.2.2.2) (h_v2 : Sl w0 (NX []) B0 v2 p1.un.2.2.2), ca_ 23 #[.agg #[Jint p0.un.1, Jint p0.un.2.1, Jint p0.un.2.2.1, v1], .agg #[Jint p1.un.1, Jint p1.un.2.1, Jint p1.un.2.2.1, v2]] w0 fun e w' => e = .returned (.bool r) ∧ Below w0.heap.size w0 w' := by
  intro n
  induction n with
  | zero => intro Y w0 v1 v2 p0 p1 r H; exact nomatch H
  | succ n ih => intro Y w0 v1 v2 p0 p1 r H h_v1 h_v2; exact QA (EN n) ih Y w0 v1 v2 p0 p1 r H h_v1 h_v2
theorem ND (Y : Nat → Prop) (w0 : World) (v1 : Value) (v2 : Value) (p0 : Tr28) (p1 : Tr28) (r : Bool) (H : JU p0 p1 = some r) (h_v1 : Sl w0 (NX []) B0 v1 p0.un.2.2.2) (h_v2 : Sl w0 (NX []) B0 v2 p1.un.2.2.2) :
    ca_ 23 #[.agg #[Jint p0.un.1, Jint p0.un.2.1, Jint p0.un.2.2.1, v1], .agg #[Jint p1.un.1, Jint p1.un.2.1, Jint p1.un.2.2.1, v2]] w0 fun e w' => e = .returned (.bool r) ∧ Below w0.heap.size w0 w' := by
  obtain ⟨n, H⟩ := BP H
  exact R0 n Y w0 v1 v2 p0 p1 r H h_v1 h_v2
theorem Z6 : Has Tryz.prog 43 := BM Tryz.func43
def Fd (fRec : Tr31 → Option Bool) (p0 : Tr31) : Int → Option (Int ⊕ (Unit ⊕ Bool))
  | x4 => (if x4 < (p0.un.2.2.2.2.length : Int) then (ix p0.un.2.2.2.2 x4).bind fun x5 => (fRec (Tr31.of (x5.un.1, Tr28.of (x5.un.2.1.un.1, x5.un.2.1.un.2.1, x5.un.2.1.un.2.2.1, x5.un.2.1.un.2.2.2), x5.un.2.2.1, x5.un.2.2.2.1, x5.un.2.2.2.2))).bind fun x6 => (if (!x6) = true then some (.inr (.inr false)) else some (.inl (AJ (x4 + 1)))) else some (.inr (.inl ())))
def E5 (fRec : Tr31 → Option Bool) (p0 : Tr31) : Option Bool := (if (decide (p0.un.1 < 1) || (decide (5 < p0.un.1) || (decide (p0.un.1 ≠ 2) && (decide (p0.un.2.2.1 ≠ 0) || decide (p0.un.2.2.2.1 ≠ 0))))) = true then some false else (if (decide (p0.un.1 = 1) || decide (p0.un.1 = 5)) = true then (HJ (Tr28.of (p0.un.2.1.un.1, p0.un.2.1.un.2.1, p0.un.2.1.un.2.2.1, p0.un.2.1.un.2.2.2))).bind fun x2 => (if (!x2) = true then some true else some false) else (JU (Tr28.of (p0.un.2.1.un.1, p0.un.2.1.un.2.1, p0.un.2.1.un.2.2.1, p0.un.2.1.un.2.2.2)) (Tr28.of (0, 0, 0, ([] : List Tr28)))).bind fun x3 => some (!x3)).bind fun x1 => (if x1 = true then some false else (if (decide (p0.un.1 = 2) && (decide (p0.un.2.2.1 < 0) || (decide (4 < p0.un.2.2.1) || (decide (p0.un.2.2.2.1 < 0) || decide ((CP p0.un.2.2.1) < p0.un.2.2.2.1))))) = true then some false else (if (bif decide (p0.un.1 ≤ 2) then (decide ((p0.un.2.2.2.2.length : Int) ≠ 0) || (bif decide (p0.un.1 = 5) then (decide ((p0.un.2.2.2.2.length : Int) ≠ 2) || (bif decide (p0.un.1 = 3) then (decide ((p0.un.2.2.2.2.length : Int) < 2) || decide (8 < (p0.un.2.2.2.2.length : Int))) else (decide (p0.un.1 = 4) && (decide ((p0.un.2.2.2.2.length : Int) < 2) || decide (8 < (p0.un.2.2.2.2.length : Int)))))) else (bif decide (p0.un.1 = 3) then (decide ((p0.un.2.2.2.2.length : Int) < 2) || decide (8 < (p0.un.2.2.2.2.length : Int))) else (decide (p0.un.1 = 4) && (decide ((p0.un.2.2.2.2.length : Int) < 2) || decide (8 < (p0.un.2.2.2.2.length : Int))))))) else (bif decide (p0.un.1 = 5) then (decide ((p0.un.2.2.2.2.length : Int) ≠ 2) || (bif decide (p0.un.1 = 3) then (decide ((p0.un.2.2.2.2.length : Int) < 2) || decide (8 < (p0.un.2.2.2.2.length : Int))) else (decide (p0.un.1 = 4) && (decide ((p0.un.2.2.2.2.length : Int) < 2) || decide (8 < (p0.un.2.2.2.2.length : Int)))))) else (bif decide (p0.un.1 = 3) then (decide ((p0.un.2.2.2.2.length : Int) < 2) || decide (8 < (p0.un.2.2.2.2.length : Int))) else (decide (p0.un.1 = 4) && (decide ((p0.un.2.2.2.2.length : Int) < 2) || decide (8 < (p0.un.2.2.2.2.length : Int))))))) = true then some false else HA (AB (Fd fRec p0) 0) fun _ => some true))))
def Eg : Nat → Tr31 → Option Bool
  | 0 => fun _ => none
  | n + 1 => E5 (Eg n)
def Ob (p0 : Tr31) : Option Bool := FT fun n => Eg n p0
theorem Qt (fRec : Tr31 → Option Bool) (ih : ∀ (Y : Nat → Prop) (w0 : World) (v1 : Value) (v2 : Value) (p0 : Tr31) (r : Bool) (H : fRec p0 = some r) (h_v1 : Sl w0 (NX []) B0 v1 p0.un.2.1.un.2.2.2) (h_v2 : Sl w0 (NX []) Dw v2 p0.un.2.2.2.2), ca_ 43 #[.agg #[Jint p0.un.1, Jint p0.un.2.1.un.1, Jint p0.un.2.1.un.2.1, Jint p0.un.2.1.un.2.2.1, v1, Jint p0.un.2.2.1, Jint p0.un.2.2.2.1, v2]] w0 fun e w' => e = .returned (.bool r) ∧ Below w0.heap.size w0 w') (Y : Nat → Prop) (w0 : World) (v1 : Value) (v2 : Value) (p0 : Tr31) (r : Bool) (H : E5 fRec p0 = some r) (h_v1 : Sl w0 (NX []) B0 v1 p0.un.2.1.un.2.2.2) (h_v2 : Sl w0 (NX []) Dw v2 p0.un.2.2.2.2) :
    ca_ 43 #[.agg #[Jint p0.un.1, Jint p0.un.2.1.un.1, Jint p0.un.2.1.un.2.1, Jint p0.un.2.1.un.2.2.1, v1, Jint p0.un.2.2.1, Jint p0.un.2.2.2.1, v2]] w0 fun e w' => e = .returned (.bool r) ∧ Below w0.heap.size w0 w' := by
 refine enter Tryz.func43 Aa Tryz.ntmps43 Aa fun a F => ?_
 have W := Stw.start Y w0
 obtain ⟨v3, h1, h_v1⟩ := h_v1.ex CA
 obtain ⟨v4, h2, h_v2⟩ := h_v2.ex D3
 unfold E5 at H
 refine vc tk 2 F W fun a w F W => ?_
 refine BQ (cs := (EA p0 v1 v2)) F W Aa Aa Aa fun b1 a w F W => ?_
 refine Es tk 7 [0] F W (ai fun a w F W => ?_)
 refine ls F W Aa (Bz (r := Dw) (l := p0.un.2.2.2.2) NS Aa F Aa (Al D3 h2 (Ae h_v2))).q fun a w F W => ?_
 refine Bo tk 4 F W fun a w F W => ?_
 refine Ap (fun a w => Fr 130 [] [(1, pp b1), (2, .bool false), (3, Jint (p0.un.2.2.2.2.length : Int)), (31, .bool (decide (p0.un.1 < 1) || (decide (5 < p0.un.1) || (decide (p0.un.1 ≠ 2) && (decide (p0.un.2.2.1 ≠ 0) || decide (p0.un.2.2.2.1 ≠ 0))))))] a ∧ sy Y w0 (Ft b1 p0 v1 v2) [] w) ?_ ?_
 ·
  refine CT tk 5 [0] F W (ai fun a w F W => ?_)
  rcases bxq (decide (p0.un.1 < 1)) with hb0 | hb0
  ·
   rw [hb0] at F
   refine vl tk 20 F W fun a w F W => ?_
   refine Ab ?_
   exact ⟨F.re ⟨rfl, Aa, Aa, (CL (by try rw [hb0]; all_goals simp only [CM])), trivial⟩, W⟩
  rw [hb0] at F
  refine DU tk 5 [0] F W (ai fun a w F W => ?_)
  rcases bxq (decide (5 < p0.un.1)) with hb1 | hb1
  ·
   rw [hb1] at F
   refine vl tk 15 F W fun a w F W => ?_
   refine Ab ?_
   exact ⟨F.re ⟨rfl, Aa, Aa, (CL (by try rw [hb0]; try rw [hb1]; all_goals simp only [CM])), trivial⟩, W⟩
  rw [hb1] at F
  refine DU tk 4 [0] F W (ai fun a w F W => ?_)
  rcases bxq (decide (p0.un.1 ≠ 2)) with hb2 | hb2
  ·
   rw [hb2] at F
   refine DU tk 4 [0] F W (ai fun a w F W => ?_)
   rcases bxq (decide (p0.un.2.2.1 ≠ 0)) with hb3 | hb3
   ·
    rw [hb3] at F
    refine vl tk 7 F W fun a w F W => ?_
    refine Ab ?_
    exact ⟨F.re ⟨rfl, Aa, Aa, (CL (by try rw [hb3]; try rw [hb0]; try rw [hb1]; try rw [hb2]; all_goals simp only [CM])), trivial⟩, W⟩
   rw [hb3] at F
   refine DU tk 7 [0] F W (ai fun a w F W => ?_)
   refine Ab ?_
   exact ⟨F.re ⟨rfl, Aa, Aa, (CL (by try rw [hb3]; try rw [hb0]; try rw [hb1]; try rw [hb2]; all_goals simp only [CM])), trivial⟩, W⟩
  rw [hb2] at F
  refine vl tk 11 F W fun a w F W => ?_
  refine Ab ?_
  exact ⟨F.re ⟨rfl, Aa, Aa, (CL (by try rw [hb0]; try rw [hb1]; try rw [hb2]; all_goals simp only [CM])), trivial⟩, W⟩
 rintro a w ⟨F, W⟩
 refine Bi F Aa H (fun F H => ?_) fun F H => ?_
 ·
  refine vc tk 5 F W fun a w F W => ?_
  refine Ah (Aw ?_)
  have H := Ay H
  subst H
  refine Av (.inl Aa) F W Aa (Am F Aa) ?_
  exact ⟨rfl, W.done⟩
 refine EX tk 2 F W fun a w F W => ?_
 refine Ap (fun a w => Fr 130 [] [(1, pp b1), (2, .bool false), (3, Jint (p0.un.2.2.2.2.length : Int)), (4, .bool (decide (p0.un.1 = 1) || decide (p0.un.1 = 5)))] a ∧ sy Y w0 (Ft b1 p0 v1 v2) [] w) ?_ ?_
 ·
  refine CT tk 5 [0] F W (ai fun a w F W => ?_)
  rcases bxq (decide (p0.un.1 = 1)) with hb0 | hb0
  ·
   rw [hb0] at F
   refine vl tk 6 F W fun a w F W => ?_
   refine Ab ?_
   exact ⟨F.re ⟨rfl, Aa, Aa, (CL (by try rw [hb0]; all_goals simp only [CM])), trivial⟩, W⟩
  rw [hb0] at F
  refine DU tk 6 [0] F W (ai fun a w F W => ?_)
  refine Ab ?_
  exact ⟨F.re ⟨rfl, Aa, Aa, (CL (by try rw [hb0]; all_goals simp only [CM])), trivial⟩, W⟩
 rintro a w ⟨F, W⟩
 refine FG ?_
 obtain ⟨o1, G1, K1⟩ := Af H
 refine Ap (fun a w => ∃ x1 : Bool, some (x1) = some o1 ∧ Fr 130 [] [(1, pp b1), (2, .bool false), (3, Jint (p0.un.2.2.2.2.length : Int)), (57, .bool x1)] a ∧ sy Y w0 (Ft b1 p0 v1 v2) [] w) ?_ ?_
 ·
  have H := G1
  refine vc tk 3 F W fun a w F W => ?_
  rcases bxq (decide (p0.un.1 = 1) || decide (p0.un.1 = 5)) with hb | hb
  ·
   have H := BB hb H
   rw [hb] at F
   refine DU tk 2 [0] F W (ai fun a w F W => ?_)
   refine FU (Ad F Aa Aa Aa Aa) ?_
   obtain ⟨x2, h3, H⟩ := Af H
   refine ls F W Aa (AA (v := Value.bool x2) F bX Aa (fun w W => Rl any w (v1) (Tr28.of (p0.un.2.1.un.1, p0.un.2.1.un.2.1, p0.un.2.1.un.2.2.1, p0.un.2.1.un.2.2.2)) _ h3 (Cl (Al CA h1 (Ae h_v1)) W))) fun a w F W => ?_
   refine vl tk 3 F W fun a w F W => ?_
   rcases bxq (!x2) with hb | hb
   ·
    have H := BB hb H
    rw [hb] at F
    refine vl tk 11 F W fun a w F W => ?_
    refine Ab ?_
    exact ⟨_, H, F.ra Aa, W⟩
   have H := BC (by rw [hb]; decide) H
   rw [hb] at F
   refine vl tk 11 F W fun a w F W => ?_
   refine Ab ?_
   exact ⟨_, H, F.ra Aa, W⟩
  have H := BC (by rw [hb]; decide) H
  rw [hb] at F
  refine DU tk 11 [0] F W (ai fun a w F W => ?_)
  refine Dy F W (Ad F Aa Aa Aa Aa) Aa (As Aa) (Cf (v := Value.agg #[Jint 0, Jint 0, Jint 0, .slice none 0 0]) Wy F Aa Aa Aa).q fun a w F W => ?_
  refine FU (Ad F Aa Aa Aa Aa) ?_
  obtain ⟨x3, h4, H⟩ := Af H
  refine ls F W Aa (AA (v := Value.bool x3) F Y0 Aa (fun w W => ND any w (v1) (Value.slice none 0 0) (Tr28.of (p0.un.2.1.un.1, p0.un.2.1.un.2.1, p0.un.2.1.un.2.2.1, p0.un.2.1.un.2.2.2)) (Tr28.of (0, 0, 0, ([] : List Tr28))) _ h4 (Cl (Al CA h1 (Ae h_v1)) W) Sl.nil)) fun a w F W => ?_
  refine vl tk 4 F W fun a w F W => ?_
  refine Ab ?_
  exact ⟨_, H, F.ra Aa, W⟩
 rintro a w ⟨x1, hj, F, W⟩
 have hj := Ay hj
 subst hj
 have H := K1
 refine Bi F Aa H (fun F H => ?_) fun F H => ?_
 ·
  refine vc tk 5 F W fun a w F W => ?_
  refine Ah (Aw ?_)
  have H := Ay H
  subst H
  refine Av (.inl Aa) F W Aa (Am F Aa) ?_
  exact ⟨rfl, W.done⟩
 refine EX tk 3 F W fun a w F W => ?_
 refine Ap (fun a w => Fr 130 [] [(1, pp b1), (2, .bool false), (3, Jint (p0.un.2.2.2.2.length : Int)), (83, .bool (decide (p0.un.1 = 2) && (decide (p0.un.2.2.1 < 0) || (decide (4 < p0.un.2.2.1) || (decide (p0.un.2.2.2.1 < 0) || decide ((CP p0.un.2.2.1) < p0.un.2.2.2.1))))))] a ∧ sy Y w0 (Ft b1 p0 v1 v2) [] w) ?_ ?_
 ·
  refine B5 W MO (by kernel_rfl) ?_
  refine qs F Aa (Aq Ii Aa Aa Aa T3 F Aa 0 Aa).q fun a F => ?_
  refine qs F Aa (Bk (v := Jint p0.un.1) 0 F Aa Aa T3 Aa).q fun a F => ?_
  refine qs F Aa (NK F Aa Aa).q fun a F => ?_
  refine qs F Aa (Ao F Aa).q fun a F => ?_
  rcases bxq (decide (p0.un.1 = 2)) with hb0 | hb0
  ·
   rw [hb0] at F
   refine AR F (Ad F Aa Aa Aa Aa) Aa (As Aa) (Aq Ii Aa Aa Aa T3 F Aa 5 Aa).q fun a F => ?_
   refine AR F (Ad F Aa Aa Aa Aa) Aa (As Aa) (Bk (v := Jint p0.un.2.2.1) 0 F Aa Aa T3 Aa).q fun a F => ?_
   refine AR F (Ad F Aa Aa Aa Aa) Aa (As Aa) (OK F Aa Aa).q fun a F => ?_
   refine AR F (Ad F Aa Aa Aa Aa) Aa (As Aa) (Ao F Aa).q fun a F => ?_
   rcases bxq (decide (p0.un.2.2.1 < 0)) with hb1 | hb1
   ·
    rw [hb1] at F
    iterate 3 refine Bb F (A3 F Aa Aa Aa Aa Aa) Aa Aa fun a F => ?_
    refine AR F (Ad F Aa Aa Aa Aa) Aa (As Aa) (Bq F Aa Aa Aa).q fun a F => ?_
    refine AR F (Ad F Aa Aa Aa Aa) Aa (As Aa) (Ao F Aa).q fun a F => ?_
    iterate 3 refine Bb F (A3 F Aa Aa Aa Aa Aa) Aa Aa fun a F => ?_
    refine AR F (Ad F Aa Aa Aa Aa) Aa (As Aa) (Bq F Aa Aa Aa).q fun a F => ?_
    refine AR F (Ad F Aa Aa Aa Aa) Aa (As Aa) (Ao F Aa).q fun a F => ?_
    iterate 6 refine Bb F (A3 F Aa Aa Aa Aa Aa) Aa Aa fun a F => ?_
    refine AR F (Ad F Aa Aa Aa Aa) Aa (As Aa) (Bq F Aa Aa Aa).q fun a F => ?_
    refine qs F Aa (Bq F Aa Aa Aa).q fun a F => ?_
    refine AK fun w W => ?_
    refine Ab ?_
    exact ⟨F.re ⟨rfl, Aa, Aa, (CL (by try rw [hb1]; try rw [hb0]; all_goals simp only [CM])), trivial⟩, W⟩
   rw [hb1] at F
   refine AR F (Ad F Aa Aa Aa Aa) Aa (As Aa) (Aq Ii Aa Aa Aa T3 F Aa 5 Aa).q fun a F => ?_
   refine AR F (Ad F Aa Aa Aa Aa) Aa (As Aa) (Bk (v := Jint p0.un.2.2.1) 0 F Aa Aa T3 Aa).q fun a F => ?_
   refine AR F (Ad F Aa Aa Aa Aa) Aa (As Aa) (Oq F Aa Aa).q fun a F => ?_
   refine AR F (Ad F Aa Aa Aa Aa) Aa (As Aa) (Bh F Aa Aa Aa).q fun a F => ?_
   refine AR F (Ad F Aa Aa Aa Aa) Aa (As Aa) (Ao F Aa).q fun a F => ?_
   rcases bxq (decide (4 < p0.un.2.2.1)) with hb2 | hb2
   ·
    rw [hb2] at F
    iterate 3 refine Bb F (A3 F Aa Aa Aa Aa Aa) Aa Aa fun a F => ?_
    refine AR F (Ad F Aa Aa Aa Aa) Aa (As Aa) (Bq F Aa Aa Aa).q fun a F => ?_
    refine AR F (Ad F Aa Aa Aa Aa) Aa (As Aa) (Ao F Aa).q fun a F => ?_
    iterate 6 refine Bb F (A3 F Aa Aa Aa Aa Aa) Aa Aa fun a F => ?_
    refine AR F (Ad F Aa Aa Aa Aa) Aa (As Aa) (Bq F Aa Aa Aa).q fun a F => ?_
    refine qs F Aa (Bq F Aa Aa Aa).q fun a F => ?_
    refine AK fun w W => ?_
    refine Ab ?_
    exact ⟨F.re ⟨rfl, Aa, Aa, (CL (by try rw [hb1]; try rw [hb2]; try rw [hb0]; all_goals simp only [CM])), trivial⟩, W⟩
   rw [hb2] at F
   refine AR F (Ad F Aa Aa Aa Aa) Aa (As Aa) (Aq Ii Aa Aa Aa T3 F Aa 6 Aa).q fun a F => ?_
   refine AR F (Ad F Aa Aa Aa Aa) Aa (As Aa) (Bk (v := Jint p0.un.2.2.2.1) 0 F Aa Aa T3 Aa).q fun a F => ?_
   refine AR F (Ad F Aa Aa Aa Aa) Aa (As Aa) (OK F Aa Aa).q fun a F => ?_
   refine AR F (Ad F Aa Aa Aa Aa) Aa (As Aa) (Bh F Aa Aa Aa).q fun a F => ?_
   refine AR F (Ad F Aa Aa Aa Aa) Aa (As Aa) (Ao F Aa).q fun a F => ?_
   rcases bxq (decide (p0.un.2.2.2.1 < 0)) with hb3 | hb3
   ·
    rw [hb3] at F
    iterate 6 refine Bb F (A3 F Aa Aa Aa Aa Aa) Aa Aa fun a F => ?_
    refine AR F (Ad F Aa Aa Aa Aa) Aa (As Aa) (Bq F Aa Aa Aa).q fun a F => ?_
    refine qs F Aa (Bq F Aa Aa Aa).q fun a F => ?_
    refine AK fun w W => ?_
    refine Ab ?_
    exact ⟨F.re ⟨rfl, Aa, Aa, (CL (by try rw [hb3]; try rw [hb1]; try rw [hb2]; try rw [hb0]; all_goals simp only [CM])), trivial⟩, W⟩
   rw [hb3] at F
   refine AR F (Ad F Aa Aa Aa Aa) Aa (As Aa) (Aq Ii Aa Aa Aa T3 F Aa 6 Aa).q fun a F => ?_
   refine AR F (Ad F Aa Aa Aa Aa) Aa (As Aa) (Bk (v := Jint p0.un.2.2.2.1) 0 F Aa Aa T3 Aa).q fun a F => ?_
   refine AR F (Ad F Aa Aa Aa Aa) Aa (As Aa) (Aq Ii Aa Aa Aa T3 F Aa 5 Aa).q fun a F => ?_
   refine AR F (Ad F Aa Aa Aa Aa) Aa (As Aa) (Bk (v := Jint p0.un.2.2.1) 0 F Aa Aa T3 Aa).q fun a F => ?_
   refine AR F (Ad F Aa Aa Aa Aa) Aa (As Aa) (AA (v := Jint (CP p0.un.2.2.1)) F Y1 Aa (fun w W => Mh any w p0.un.2.2.1 _ Aa)) fun a F => ?_
   refine AR F (Ad F Aa Aa Aa Aa) Aa (As Aa) (Oq F Aa Aa).q fun a F => ?_
   refine AR F (Ad F Aa Aa Aa Aa) Aa (As Aa) (Bh F Aa Aa Aa).q fun a F => ?_
   refine qs F Aa (Bq F Aa Aa Aa).q fun a F => ?_
   refine AK fun w W => ?_
   refine Ab ?_
   exact ⟨F.re ⟨rfl, Aa, Aa, (CL (by try rw [hb3]; try rw [hb1]; try rw [hb2]; try rw [hb0]; all_goals simp only [CM])), trivial⟩, W⟩
  rw [hb0] at F
  iterate 4 refine Bb F (A3 F Aa Aa Aa Aa Aa) Aa Aa fun a F => ?_
  iterate 3 refine Bb F (Fp F Aa Aa Aa Aa) Aa Aa fun a F => ?_
  iterate 2 refine Bb F (A3 F Aa Aa Aa Aa Aa) Aa Aa fun a F => ?_
  iterate 3 refine Bb F (Fp F Aa Aa Aa Aa) Aa Aa fun a F => ?_
  iterate 2 refine Bb F (A3 F Aa Aa Aa Aa Aa) Aa Aa fun a F => ?_
  iterate 6 refine Bb F (Fp F Aa Aa Aa Aa) Aa Aa fun a F => ?_
  refine Bb F (A3 F Aa Aa Aa Aa Aa) Aa Aa fun a F => ?_
  refine qs F Aa (Bh F Aa Aa Aa).q fun a F => ?_
  refine AK fun w W => ?_
  refine Ab ?_
  exact ⟨F.re ⟨rfl, Aa, Aa, (CL (by try rw [hb0]; all_goals simp only [CM])), trivial⟩, W⟩
 rintro a w ⟨F, W⟩
 refine Bi F Aa H (fun F H => ?_) fun F H => ?_
 ·
  refine vc tk 5 F W fun a w F W => ?_
  refine Ah (Aw ?_)
  have H := Ay H
  subst H
  refine Av (.inl Aa) F W Aa (Am F Aa) ?_
  exact ⟨rfl, W.done⟩
 refine EX tk 3 F W fun a w F W => ?_
 refine Ap (fun a w => Fr 130 [] [(1, pp b1), (2, .bool false), (3, Jint (p0.un.2.2.2.2.length : Int)), (117, .bool (bif decide (p0.un.1 ≤ 2) then (decide ((p0.un.2.2.2.2.length : Int) ≠ 0) || (bif decide (p0.un.1 = 5) then (decide ((p0.un.2.2.2.2.length : Int) ≠ 2) || (bif decide (p0.un.1 = 3) then (decide ((p0.un.2.2.2.2.length : Int) < 2) || decide (8 < (p0.un.2.2.2.2.length : Int))) else (decide (p0.un.1 = 4) && (decide ((p0.un.2.2.2.2.length : Int) < 2) || decide (8 < (p0.un.2.2.2.2.length : Int)))))) else (bif decide (p0.un.1 = 3) then (decide ((p0.un.2.2.2.2.length : Int) < 2) || decide (8 < (p0.un.2.2.2.2.length : Int))) else (decide (p0.un.1 = 4) && (decide ((p0.un.2.2.2.2.length : Int) < 2) || decide (8 < (p0.un.2.2.2.2.length : Int))))))) else (bif decide (p0.un.1 = 5) then (decide ((p0.un.2.2.2.2.length : Int) ≠ 2) || (bif decide (p0.un.1 = 3) then (decide ((p0.un.2.2.2.2.length : Int) < 2) || decide (8 < (p0.un.2.2.2.2.length : Int))) else (decide (p0.un.1 = 4) && (decide ((p0.un.2.2.2.2.length : Int) < 2) || decide (8 < (p0.un.2.2.2.2.length : Int)))))) else (bif decide (p0.un.1 = 3) then (decide ((p0.un.2.2.2.2.length : Int) < 2) || decide (8 < (p0.un.2.2.2.2.length : Int))) else (decide (p0.un.1 = 4) && (decide ((p0.un.2.2.2.2.length : Int) < 2) || decide (8 < (p0.un.2.2.2.2.length : Int))))))))] a ∧ sy Y w0 (Ft b1 p0 v1 v2) [] w) ?_ ?_
 ·
  refine CT tk 5 [0] F W (ai fun a w F W => ?_)
  rcases bxq (decide (p0.un.1 ≤ 2)) with hb0 | hb0
  ·
   rw [hb0] at F
   refine vl tk 4 F W fun a w F W => ?_
   rcases bxq (decide ((p0.un.2.2.2.2.length : Int) ≠ 0)) with hb1 | hb1
   ·
    rw [hb1] at F
    refine vl tk 27 F W fun a w F W => ?_
    refine Ab ?_
    exact ⟨F.re ⟨rfl, Aa, Aa, (CL (by try rw [hb1]; try rw [hb0]; all_goals simp only [CM])), trivial⟩, W⟩
   rw [hb1] at F
   refine DU tk 4 [0] F W (ai fun a w F W => ?_)
   rcases bxq (decide (p0.un.1 = 5)) with hb2 | hb2
   ·
    rw [hb2] at F
    refine vl tk 5 F W fun a w F W => ?_
    rcases bxq (decide ((p0.un.2.2.2.2.length : Int) ≠ 2)) with hb3 | hb3
    ·
     rw [hb3] at F
     refine vl tk 18 F W fun a w F W => ?_
     refine Ab ?_
     exact ⟨F.re ⟨rfl, Aa, Aa, (CL (by try rw [hb1]; try rw [hb3]; try rw [hb0]; try rw [hb2]; all_goals simp only [CM])), trivial⟩, W⟩
    rw [hb3] at F
    refine DU tk 4 [0] F W (ai fun a w F W => ?_)
    rcases bxq (decide (p0.un.1 = 3)) with hb4 | hb4
    ·
     rw [hb4] at F
     refine vl tk 8 F W fun a w F W => ?_
     rcases bxq (decide ((p0.un.2.2.2.2.length : Int) < 2)) with hb5 | hb5
     ·
      rw [hb5] at F
      refine vl tk 6 F W fun a w F W => ?_
      refine Ab ?_
      exact ⟨F.re ⟨rfl, Aa, Aa, (CL (by try rw [hb1]; try rw [hb3]; try rw [hb5]; try rw [hb0]; try rw [hb2]; try rw [hb4]; all_goals simp only [CM])), trivial⟩, W⟩
     rw [hb5] at F
     refine vl tk 6 F W fun a w F W => ?_
     refine Ab ?_
     exact ⟨F.re ⟨rfl, Aa, Aa, (CL (by try rw [hb1]; try rw [hb3]; try rw [hb5]; try rw [hb0]; try rw [hb2]; try rw [hb4]; all_goals simp only [CM])), trivial⟩, W⟩
    rw [hb4] at F
    refine DU tk 5 [0] F W (ai fun a w F W => ?_)
    rcases bxq (decide (p0.un.1 = 4)) with hb5 | hb5
    ·
     rw [hb5] at F
     refine vl tk 3 F W fun a w F W => ?_
     rcases bxq (decide ((p0.un.2.2.2.2.length : Int) < 2)) with hb6 | hb6
     ·
      rw [hb6] at F
      refine vl tk 6 F W fun a w F W => ?_
      refine Ab ?_
      exact ⟨F.re ⟨rfl, Aa, Aa, (CL (by try rw [hb1]; try rw [hb3]; try rw [hb6]; try rw [hb0]; try rw [hb2]; try rw [hb4]; try rw [hb5]; all_goals simp only [CM])), trivial⟩, W⟩
     rw [hb6] at F
     refine vl tk 6 F W fun a w F W => ?_
     refine Ab ?_
     exact ⟨F.re ⟨rfl, Aa, Aa, (CL (by try rw [hb1]; try rw [hb3]; try rw [hb6]; try rw [hb0]; try rw [hb2]; try rw [hb4]; try rw [hb5]; all_goals simp only [CM])), trivial⟩, W⟩
    rw [hb5] at F
    refine vl tk 9 F W fun a w F W => ?_
    refine Ab ?_
    exact ⟨F.re ⟨rfl, Aa, Aa, (CL (by try rw [hb1]; try rw [hb3]; try rw [hb0]; try rw [hb2]; try rw [hb4]; try rw [hb5]; all_goals simp only [CM])), trivial⟩, W⟩
   rw [hb2] at F
   refine DU tk 9 [0] F W (ai fun a w F W => ?_)
   rcases bxq (decide (p0.un.1 = 3)) with hb3 | hb3
   ·
    rw [hb3] at F
    refine vl tk 8 F W fun a w F W => ?_
    rcases bxq (decide ((p0.un.2.2.2.2.length : Int) < 2)) with hb4 | hb4
    ·
     rw [hb4] at F
     refine vl tk 6 F W fun a w F W => ?_
     refine Ab ?_
     exact ⟨F.re ⟨rfl, Aa, Aa, (CL (by try rw [hb1]; try rw [hb4]; try rw [hb0]; try rw [hb2]; try rw [hb3]; all_goals simp only [CM])), trivial⟩, W⟩
    rw [hb4] at F
    refine vl tk 6 F W fun a w F W => ?_
    refine Ab ?_
    exact ⟨F.re ⟨rfl, Aa, Aa, (CL (by try rw [hb1]; try rw [hb4]; try rw [hb0]; try rw [hb2]; try rw [hb3]; all_goals simp only [CM])), trivial⟩, W⟩
   rw [hb3] at F
   refine DU tk 5 [0] F W (ai fun a w F W => ?_)
   rcases bxq (decide (p0.un.1 = 4)) with hb4 | hb4
   ·
    rw [hb4] at F
    refine vl tk 3 F W fun a w F W => ?_
    rcases bxq (decide ((p0.un.2.2.2.2.length : Int) < 2)) with hb5 | hb5
    ·
     rw [hb5] at F
     refine vl tk 6 F W fun a w F W => ?_
     refine Ab ?_
     exact ⟨F.re ⟨rfl, Aa, Aa, (CL (by try rw [hb1]; try rw [hb5]; try rw [hb0]; try rw [hb2]; try rw [hb3]; try rw [hb4]; all_goals simp only [CM])), trivial⟩, W⟩
    rw [hb5] at F
    refine vl tk 6 F W fun a w F W => ?_
    refine Ab ?_
    exact ⟨F.re ⟨rfl, Aa, Aa, (CL (by try rw [hb1]; try rw [hb5]; try rw [hb0]; try rw [hb2]; try rw [hb3]; try rw [hb4]; all_goals simp only [CM])), trivial⟩, W⟩
   rw [hb4] at F
   refine vl tk 9 F W fun a w F W => ?_
   refine Ab ?_
   exact ⟨F.re ⟨rfl, Aa, Aa, (CL (by try rw [hb1]; try rw [hb0]; try rw [hb2]; try rw [hb3]; try rw [hb4]; all_goals simp only [CM])), trivial⟩, W⟩
  rw [hb0] at F
  refine DU tk 8 [0] F W (ai fun a w F W => ?_)
  rcases bxq (decide (p0.un.1 = 5)) with hb1 | hb1
  ·
   rw [hb1] at F
   refine vl tk 5 F W fun a w F W => ?_
   rcases bxq (decide ((p0.un.2.2.2.2.length : Int) ≠ 2)) with hb2 | hb2
   ·
    rw [hb2] at F
    refine vl tk 18 F W fun a w F W => ?_
    refine Ab ?_
    exact ⟨F.re ⟨rfl, Aa, Aa, (CL (by try rw [hb2]; try rw [hb0]; try rw [hb1]; all_goals simp only [CM])), trivial⟩, W⟩
   rw [hb2] at F
   refine DU tk 4 [0] F W (ai fun a w F W => ?_)
   rcases bxq (decide (p0.un.1 = 3)) with hb3 | hb3
   ·
    rw [hb3] at F
    refine vl tk 8 F W fun a w F W => ?_
    rcases bxq (decide ((p0.un.2.2.2.2.length : Int) < 2)) with hb4 | hb4
    ·
     rw [hb4] at F
     refine vl tk 6 F W fun a w F W => ?_
     refine Ab ?_
     exact ⟨F.re ⟨rfl, Aa, Aa, (CL (by try rw [hb2]; try rw [hb4]; try rw [hb0]; try rw [hb1]; try rw [hb3]; all_goals simp only [CM])), trivial⟩, W⟩
    rw [hb4] at F
    refine vl tk 6 F W fun a w F W => ?_
    refine Ab ?_
    exact ⟨F.re ⟨rfl, Aa, Aa, (CL (by try rw [hb2]; try rw [hb4]; try rw [hb0]; try rw [hb1]; try rw [hb3]; all_goals simp only [CM])), trivial⟩, W⟩
   rw [hb3] at F
   refine DU tk 5 [0] F W (ai fun a w F W => ?_)
   rcases bxq (decide (p0.un.1 = 4)) with hb4 | hb4
   ·
    rw [hb4] at F
    refine vl tk 3 F W fun a w F W => ?_
    rcases bxq (decide ((p0.un.2.2.2.2.length : Int) < 2)) with hb5 | hb5
    ·
     rw [hb5] at F
     refine vl tk 6 F W fun a w F W => ?_
     refine Ab ?_
     exact ⟨F.re ⟨rfl, Aa, Aa, (CL (by try rw [hb2]; try rw [hb5]; try rw [hb0]; try rw [hb1]; try rw [hb3]; try rw [hb4]; all_goals simp only [CM])), trivial⟩, W⟩
    rw [hb5] at F
    refine vl tk 6 F W fun a w F W => ?_
    refine Ab ?_
    exact ⟨F.re ⟨rfl, Aa, Aa, (CL (by try rw [hb2]; try rw [hb5]; try rw [hb0]; try rw [hb1]; try rw [hb3]; try rw [hb4]; all_goals simp only [CM])), trivial⟩, W⟩
   rw [hb4] at F
   refine vl tk 9 F W fun a w F W => ?_
   refine Ab ?_
   exact ⟨F.re ⟨rfl, Aa, Aa, (CL (by try rw [hb2]; try rw [hb0]; try rw [hb1]; try rw [hb3]; try rw [hb4]; all_goals simp only [CM])), trivial⟩, W⟩
  rw [hb1] at F
  refine DU tk 9 [0] F W (ai fun a w F W => ?_)
  rcases bxq (decide (p0.un.1 = 3)) with hb2 | hb2
  ·
   rw [hb2] at F
   refine vl tk 8 F W fun a w F W => ?_
   rcases bxq (decide ((p0.un.2.2.2.2.length : Int) < 2)) with hb3 | hb3
   ·
    rw [hb3] at F
    refine vl tk 6 F W fun a w F W => ?_
    refine Ab ?_
    exact ⟨F.re ⟨rfl, Aa, Aa, (CL (by try rw [hb3]; try rw [hb0]; try rw [hb1]; try rw [hb2]; all_goals simp only [CM])), trivial⟩, W⟩
   rw [hb3] at F
   refine vl tk 6 F W fun a w F W => ?_
   refine Ab ?_
   exact ⟨F.re ⟨rfl, Aa, Aa, (CL (by try rw [hb3]; try rw [hb0]; try rw [hb1]; try rw [hb2]; all_goals simp only [CM])), trivial⟩, W⟩
  rw [hb2] at F
  refine DU tk 5 [0] F W (ai fun a w F W => ?_)
  rcases bxq (decide (p0.un.1 = 4)) with hb3 | hb3
  ·
   rw [hb3] at F
   refine vl tk 3 F W fun a w F W => ?_
   rcases bxq (decide ((p0.un.2.2.2.2.length : Int) < 2)) with hb4 | hb4
   ·
    rw [hb4] at F
    refine vl tk 6 F W fun a w F W => ?_
    refine Ab ?_
    exact ⟨F.re ⟨rfl, Aa, Aa, (CL (by try rw [hb4]; try rw [hb0]; try rw [hb1]; try rw [hb2]; try rw [hb3]; all_goals simp only [CM])), trivial⟩, W⟩
   rw [hb4] at F
   refine vl tk 6 F W fun a w F W => ?_
   refine Ab ?_
   exact ⟨F.re ⟨rfl, Aa, Aa, (CL (by try rw [hb4]; try rw [hb0]; try rw [hb1]; try rw [hb2]; try rw [hb3]; all_goals simp only [CM])), trivial⟩, W⟩
  rw [hb3] at F
  refine vl tk 9 F W fun a w F W => ?_
  refine Ab ?_
  exact ⟨F.re ⟨rfl, Aa, Aa, (CL (by try rw [hb0]; try rw [hb1]; try rw [hb2]; try rw [hb3]; all_goals simp only [CM])), trivial⟩, W⟩
 rintro a w ⟨F, W⟩
 refine Bi F Aa H (fun F H => ?_) fun F H => ?_
 ·
  refine vc tk 5 F W fun a w F W => ?_
  refine Ah (Aw ?_)
  have H := Ay H
  subst H
  refine Av (.inl Aa) F W Aa (Am F Aa) ?_
  exact ⟨rfl, W.done⟩
 refine AD (Ab ?_)
 obtain ⟨o2, G2, K2, L2⟩ := Lh H
 refine Ap (fun a w => some (Sum.inl ()) = some o2 ∧ Fr 130 [] [(2, .bool false)] a ∧ sy Y w0 (Ft b1 p0 v1 v2) [] w) ?_ ?_
 ·
  have H := G2
  refine vc tk 6 F W fun a w F W => ?_
  refine AQ H (fun s a w => Fr 130 [] [(1, pp b1), (2, .bool false), (3, Jint (p0.un.2.2.2.2.length : Int)), (5, Jint s)] a ∧ sy Y w0 (Ft b1 p0 v1 v2) [] w) ⟨F.ra Aa, W⟩ fun s o a w H L3 hR => ?_
  obtain ⟨x4, rfl⟩ : ∃ x, x = s := ⟨s, rfl⟩
  obtain ⟨F, W⟩ := hR
  have F : Fr 130 [] [(1, pp b1), (2, .bool false), (3, Jint (p0.un.2.2.2.2.length : Int)), (5, Jint x4)] a := F
  have W : sy Y w0 (Ft b1 p0 v1 v2) [] w := W
  rw [Fd] at H
  refine vc tk 8 F W fun a w F W => ?_
  refine A1 F Aa H (fun F H => ?_) fun F H => ?_
  ·
   refine Hr tk 9 [0] F W (ai fun a w F W => ?_)
   obtain ⟨x5, h5, H⟩ := Af H
   obtain ⟨v5, h6, h7⟩ := CS h2 h5
   have h8 : GH v5 = [Jint x5.un.1, Jint x5.un.2.1.un.1, Jint x5.un.2.1.un.2.1, Jint x5.un.2.1.un.2.2.1, (v5.2.1.2.2.2.1), Jint x5.un.2.2.1, Jint x5.un.2.2.2.1, (v5.2.2.2.2.1)] := congrArg (fun q : Tr31 => ([Jint q.un.1, Jint q.un.2.1.un.1, Jint q.un.2.1.un.2.1, Jint q.un.2.1.un.2.2.1, (v5.2.1.2.2.2.1), Jint q.un.2.2.1, Jint q.un.2.2.2.1, (v5.2.2.2.2.1)] : List Value)) h7
   refine ls F W Aa (Au (r := Jq) Qx F Aa Aa (Ae h_v2) h6).q fun a w F W => ?_
   refine ls F W Aa (Aj (y := Value.agg #[Jint x5.un.1, Jint x5.un.2.1.un.1, Jint x5.un.2.1.un.2.1, Jint x5.un.2.1.un.2.2.1, (v5.2.1.2.2.2.1), Jint x5.un.2.2.1, Jint x5.un.2.2.2.1, (v5.2.2.2.2.1)]) (j := 0) (i := x4) (enc := GH) F Aa Aa (Ae h_v2) h6 LH Ji (by rw [h8]; rfl)).q fun a w F W => ?_
   obtain ⟨x6, h9, H⟩ := Af H
   refine ls F W Aa (AA (v := Value.bool x6) F Z6 Aa (fun w W => ih any w ((v5.2.1.2.2.2.1)) ((v5.2.2.2.2.1)) (Tr31.of (x5.un.1, Tr28.of (x5.un.2.1.un.1, x5.un.2.1.un.2.1, x5.un.2.1.un.2.2.1, x5.un.2.1.un.2.2.2), x5.un.2.2.1, x5.un.2.2.2.1, x5.un.2.2.2.2)) _ h9 (Cl (Bf (Ae h_v2) h6 (Ag.snd (Ag.fst (Ag.snd (Ag.snd (Ag.snd Ag.here))))) (congrArg (fun q : Tr31 => q.un.2.1.un.2.2.2) h7)) W) (Cl (Bf (Ae h_v2) h6 (Ag.snd (Ag.snd (Ag.snd (Ag.snd Ag.here)))) (congrArg (fun q : Tr31 => q.un.2.2.2.2) h7)) W))) fun a w F W => ?_
   refine Bo tk 3 F W fun a w F W => ?_
   refine Bi F Aa H (fun F H => ?_) fun F H => ?_
   ·
    refine vc tk 5 F W fun a w F W => ?_
    refine Ah (AC ?_)
    iterate 2 refine Aw ?_
    refine AC (Aw ?_)
    have H := L3 _ H
    have H := L2 _ H
    have H := Ay H
    subst H
    refine Av (.inl Aa) F W Aa (Am F Aa) ?_
    exact ⟨rfl, W.done⟩
   refine AD (Az ?_)
   refine vn tk 5 F W fun a w F W => ?_
   refine Ab ?_
   exact ⟨_, H, F.ra Aa, W⟩
  refine AN ?_
  iterate 2 refine A6 ?_
  refine AP (Ab ?_)
  have H := L3 _ H
  exact ⟨H, F.ra Aa, W⟩
 rintro a w ⟨hj, F, W⟩
 have H := K2 _ hj
 refine vc tk 5 F W fun a w F W => ?_
 refine Ah ?_
 have H := Ay H
 subst H
 refine Av (.inl Aa) F W Aa (Am F Aa) ?_
 exact ⟨rfl, W.done⟩
theorem Q9 : ∀ (n : Nat) (Y : Nat → Prop) (w0 : World) (v1 : Value) (v2 : Value) (p0 : Tr31) (r : Bool) (H : Eg n p0 = some r) (h_v1 : Sl w0 (NX []) B0 v1 p0.un.2.1.un.2.2.2) (h_v2 : Sl w0 (NX []) Dw v2 p0.un.2.2.2.2), ca_ 43 #[.agg #[Jint p0.un.1, Jint p0.un.2.1.un.1, Jint p0.un.2.1.un.2.1, Jint p0.un.2.1.un.2.2.1, v1, Jint p0.un.2.2.1, Jint p0.un.2.2.2.1, v2]] w0 fun e w' => e = .returned (.bool r) ∧ Below w0.heap.size w0 w' := by
  intro n
  induction n with
  | zero => intro Y w0 v1 v2 p0 r H; exact nomatch H
  | succ n ih => intro Y w0 v1 v2 p0 r H h_v1 h_v2; exact Qt (Eg n) ih Y w0 v1 v2 p0 r H h_v1 h_v2
theorem SB (Y : Nat → Prop) (w0 : World) (v1 : Value) (v2 : Value) (p0 : Tr31) (r : Bool) (H : Ob p0 = some r) (h_v1 : Sl w0 (NX []) B0 v1 p0.un.2.1.un.2.2.2) (h_v2 : Sl w0 (NX []) Dw v2 p0.un.2.2.2.2) :
    ca_ 43 #[.agg #[Jint p0.un.1, Jint p0.un.2.1.un.1, Jint p0.un.2.1.un.2.1, Jint p0.un.2.1.un.2.2.1, v1, Jint p0.un.2.2.1, Jint p0.un.2.2.2.1, v2]] w0 fun e w' => e = .returned (.bool r) ∧ Below w0.heap.size w0 w' := by
  obtain ⟨n, H⟩ := BP H
  exact Q9 n Y w0 v1 v2 p0 r H h_v1 h_v2
theorem Zg : Has Tryz.prog 44 := BM Tryz.func44
def DI (fRec : Tr31 → Option Int) (p0 : Tr31) : (Int × Int) → Option ((Int × Int) ⊕ Int)
  | (x2, x3) => (if x3 < (p0.un.2.2.2.2.length : Int) then ((ix p0.un.2.2.2.2 x3).bind fun x5 => (fRec (Tr31.of (x5.un.1, Tr28.of (x5.un.2.1.un.1, x5.un.2.1.un.2.1, x5.un.2.1.un.2.2.1, x5.un.2.1.un.2.2.2), x5.un.2.2.1, x5.un.2.2.2.1, x5.un.2.2.2.2))).bind fun x6 => (if x2 ≤ x6 then (ix p0.un.2.2.2.2 x3).bind fun x7 => (fRec (Tr31.of (x7.un.1, Tr28.of (x7.un.2.1.un.1, x7.un.2.1.un.2.1, x7.un.2.1.un.2.2.1, x7.un.2.1.un.2.2.2), x7.un.2.2.1, x7.un.2.2.2.1, x7.un.2.2.2.2))).bind fun x8 => some (AJ (x8 + 1)) else some x2)).bind fun x4 => some (.inl (x4, AJ (x3 + 1))) else some (.inr x2))
def E1 (fRec : Tr31 → Option Int) (p0 : Tr31) : Option Int := (AB (DI fRec p0) (1, 0)).bind fun x1 => some x1
def Ei : Nat → Tr31 → Option Int
  | 0 => fun _ => none
  | n + 1 => E1 (Ei n)
def OU (p0 : Tr31) : Option Int := FT fun n => Ei n p0
theorem Qj (fRec : Tr31 → Option Int) (ih : ∀ (Y : Nat → Prop) (w0 : World) (v1 : Value) (v2 : Value) (p0 : Tr31) (r : Int) (H : fRec p0 = some r) (h_v1 : Sl w0 (NX []) B0 v1 p0.un.2.1.un.2.2.2) (h_v2 : Sl w0 (NX []) Dw v2 p0.un.2.2.2.2), ca_ 44 #[.agg #[Jint p0.un.1, Jint p0.un.2.1.un.1, Jint p0.un.2.1.un.2.1, Jint p0.un.2.1.un.2.2.1, v1, Jint p0.un.2.2.1, Jint p0.un.2.2.2.1, v2]] w0 fun e w' => e = .returned (Jint r) ∧ Below w0.heap.size w0 w') (Y : Nat → Prop) (w0 : World) (v1 : Value) (v2 : Value) (p0 : Tr31) (r : Int) (H : E1 fRec p0 = some r) (h_v1 : Sl w0 (NX []) B0 v1 p0.un.2.1.un.2.2.2) (h_v2 : Sl w0 (NX []) Dw v2 p0.un.2.2.2.2) :
    ca_ 44 #[.agg #[Jint p0.un.1, Jint p0.un.2.1.un.1, Jint p0.un.2.1.un.2.1, Jint p0.un.2.1.un.2.2.1, v1, Jint p0.un.2.2.1, Jint p0.un.2.2.2.1, v2]] w0 fun e w' => e = .returned (Jint r) ∧ Below w0.heap.size w0 w' := by
 refine enter Tryz.func44 Aa Tryz.ntmps44 Aa fun a F => ?_
 have W := Stw.start Y w0
 obtain ⟨v3, h1, h_v1⟩ := h_v1.ex CA
 obtain ⟨v4, h2, h_v2⟩ := h_v2.ex D3
 unfold E1 at H
 refine vc tk 2 F W fun a w F W => ?_
 refine BQ (cs := (EA p0 v1 v2)) F W Aa Aa Aa fun b1 a w F W => ?_
 refine Bo tk 8 F W fun a w F W => ?_
 obtain ⟨o1, G1, K1⟩ := Af H
 refine Ap (fun a w => ∃ x1 : Int, some (x1) = some o1 ∧ Fr 28 [] [(2, Jint 0), (3, Jint x1)] a ∧ sy Y w0 (Ft b1 p0 v1 v2) [] w) ?_ ?_
 ·
  have H := G1
  refine vc tk 6 F W fun a w F W => ?_
  refine AQ H (fun s a w => Fr 28 [] [(1, pp b1), (2, Jint 0), (3, Jint s.1), (4, Jint s.2)] a ∧ sy Y w0 (Ft b1 p0 v1 v2) [] w) ⟨F.ra Aa, W⟩ fun s o a w H L2 hR => ?_
  obtain ⟨x2, x3⟩ := s
  obtain ⟨F, W⟩ := hR
  have F : Fr 28 [] [(1, pp b1), (2, Jint 0), (3, Jint x2), (4, Jint x3)] a := F
  have W : sy Y w0 (Ft b1 p0 v1 v2) [] w := W
  rw [DI] at H
  refine CT tk 6 [0] F W (ai fun a w F W => ?_)
  refine ls F W Aa (Bz (r := Dw) (l := p0.un.2.2.2.2) NS Aa F Aa (Al D3 h2 (Ae h_v2))).q fun a w F W => ?_
  refine Bo tk 3 F W fun a w F W => ?_
  refine A1 F Aa H (fun F H => ?_) fun F H => ?_
  ·
   refine AD (Ab ?_)
   obtain ⟨o3, G3, K3⟩ := Af H
   refine Ap (fun a w => ∃ x4 : Int, some (x4) = some o3 ∧ Fr 28 [] [(1, pp b1), (2, Jint 0), (3, Jint x4), (4, Jint x3)] a ∧ sy Y w0 (Ft b1 p0 v1 v2) [] w) ?_ ?_
   ·
    have H := G3
    refine CT tk 6 [0] F W (ai fun a w F W => ?_)
    obtain ⟨x5, h3, H⟩ := Af H
    obtain ⟨v5, h4, h5⟩ := CS h2 h3
    have h6 : GH v5 = [Jint x5.un.1, Jint x5.un.2.1.un.1, Jint x5.un.2.1.un.2.1, Jint x5.un.2.1.un.2.2.1, (v5.2.1.2.2.2.1), Jint x5.un.2.2.1, Jint x5.un.2.2.2.1, (v5.2.2.2.2.1)] := congrArg (fun q : Tr31 => ([Jint q.un.1, Jint q.un.2.1.un.1, Jint q.un.2.1.un.2.1, Jint q.un.2.1.un.2.2.1, (v5.2.1.2.2.2.1), Jint q.un.2.2.1, Jint q.un.2.2.2.1, (v5.2.2.2.2.1)] : List Value)) h5
    refine ls F W Aa (Au (r := Jq) Qx F Aa Aa (Ae h_v2) h4).q fun a w F W => ?_
    refine ls F W Aa (Aj (y := Value.agg #[Jint x5.un.1, Jint x5.un.2.1.un.1, Jint x5.un.2.1.un.2.1, Jint x5.un.2.1.un.2.2.1, (v5.2.1.2.2.2.1), Jint x5.un.2.2.1, Jint x5.un.2.2.2.1, (v5.2.2.2.2.1)]) (j := 0) (i := x3) (enc := GH) F Aa Aa (Ae h_v2) h4 LH Ji (by rw [h6]; rfl)).q fun a w F W => ?_
    obtain ⟨x6, h7, H⟩ := Af H
    refine ls F W Aa (AA (v := Jint x6) F Zg Aa (fun w W => ih any w ((v5.2.1.2.2.2.1)) ((v5.2.2.2.2.1)) (Tr31.of (x5.un.1, Tr28.of (x5.un.2.1.un.1, x5.un.2.1.un.2.1, x5.un.2.1.un.2.2.1, x5.un.2.1.un.2.2.2), x5.un.2.2.1, x5.un.2.2.2.1, x5.un.2.2.2.2)) _ h7 (Cl (Bf (Ae h_v2) h4 (Ag.snd (Ag.fst (Ag.snd (Ag.snd (Ag.snd Ag.here))))) (congrArg (fun q : Tr31 => q.un.2.1.un.2.2.2) h5)) W) (Cl (Bf (Ae h_v2) h4 (Ag.snd (Ag.snd (Ag.snd (Ag.snd Ag.here)))) (congrArg (fun q : Tr31 => q.un.2.2.2.2) h5)) W))) fun a w F W => ?_
    refine Bo tk 4 F W fun a w F W => ?_
    refine A1 F Aa H (fun F H => ?_) fun F H => ?_
    ·
     obtain ⟨v6, h8, h9⟩ := Sl.ex CA (Sl.at_ h_v2 h4 (Ag.snd (Ag.fst (Ag.snd (Ag.snd (Ag.snd Ag.here))))) (congrArg (fun q : Tr31 => q.un.2.1.un.2.2.2) h5))
     obtain ⟨v7, h10, h11⟩ := Sl.ex D3 (Sl.at_ h_v2 h4 (Ag.snd (Ag.snd (Ag.snd (Ag.snd Ag.here)))) (congrArg (fun q : Tr31 => q.un.2.2.2.2) h5))
     refine CT tk 4 [0] F W (ai fun a w F W => ?_)
     obtain ⟨x7, h12, H⟩ := Af H
     obtain ⟨v8, h13, h14⟩ := CS h2 h12
     have h15 : GH v8 = [Jint x7.un.1, Jint x7.un.2.1.un.1, Jint x7.un.2.1.un.2.1, Jint x7.un.2.1.un.2.2.1, (v8.2.1.2.2.2.1), Jint x7.un.2.2.1, Jint x7.un.2.2.2.1, (v8.2.2.2.2.1)] := congrArg (fun q : Tr31 => ([Jint q.un.1, Jint q.un.2.1.un.1, Jint q.un.2.1.un.2.1, Jint q.un.2.1.un.2.2.1, (v8.2.1.2.2.2.1), Jint q.un.2.2.1, Jint q.un.2.2.2.1, (v8.2.2.2.2.1)] : List Value)) h14
     refine ls F W Aa (Au (r := Jq) Qx F Aa Aa (Ae h_v2) h13).q fun a w F W => ?_
     refine ls F W Aa (Aj (y := Value.agg #[Jint x7.un.1, Jint x7.un.2.1.un.1, Jint x7.un.2.1.un.2.1, Jint x7.un.2.1.un.2.2.1, (v8.2.1.2.2.2.1), Jint x7.un.2.2.1, Jint x7.un.2.2.2.1, (v8.2.2.2.2.1)]) (j := 0) (i := x3) (enc := GH) F Aa Aa (Ae h_v2) h13 LH Ji (by rw [h15]; rfl)).q fun a w F W => ?_
     obtain ⟨x8, h16, H⟩ := Af H
     refine ls F W Aa (AA (v := Jint x8) F Zg Aa (fun w W => ih any w ((v8.2.1.2.2.2.1)) ((v8.2.2.2.2.1)) (Tr31.of (x7.un.1, Tr28.of (x7.un.2.1.un.1, x7.un.2.1.un.2.1, x7.un.2.1.un.2.2.1, x7.un.2.1.un.2.2.2), x7.un.2.2.1, x7.un.2.2.2.1, x7.un.2.2.2.2)) _ h16 (Cl (Bf (Ae h_v2) h13 (Ag.snd (Ag.fst (Ag.snd (Ag.snd (Ag.snd Ag.here))))) (congrArg (fun q : Tr31 => q.un.2.1.un.2.2.2) h14)) W) (Cl (Bf (Ae h_v2) h13 (Ag.snd (Ag.snd (Ag.snd (Ag.snd Ag.here)))) (congrArg (fun q : Tr31 => q.un.2.2.2.2) h14)) W))) fun a w F W => ?_
     refine vl tk 3 F W fun a w F W => ?_
     refine Az (Ab ?_)
     exact ⟨_, H, F.ra Aa, W⟩
    refine AD (Az (Ab ?_))
    exact ⟨_, H, F.ra Aa, W⟩
   rintro a w ⟨x4, hj, F, W⟩
   have hj := Ay hj
   subst hj
   have H := K3
   refine vc tk 5 F W fun a w F W => ?_
   refine Ab ?_
   exact ⟨_, H, F.ra Aa, W⟩
  refine AN ?_
  iterate 2 refine A6 ?_
  refine AP (Ab ?_)
  have H := L2 _ H
  exact ⟨_, H, F.ra Aa, W⟩
 rintro a w ⟨x1, hj, F, W⟩
 have hj := Ay hj
 subst hj
 have H := K1
 refine vc tk 6 F W fun a w F W => ?_
 refine Ah ?_
 have H := Ay H
 subst H
 refine Av (.inl Aa) F W Aa (Am F Aa) ?_
 exact ⟨rfl, W.done⟩
theorem RC : ∀ (n : Nat) (Y : Nat → Prop) (w0 : World) (v1 : Value) (v2 : Value) (p0 : Tr31) (r : Int) (H : Ei n p0 = some r) (h_v1 : Sl w0 (NX []) B0 v1 p0.un.2.1.un.2.2.2) (h_v2 : Sl w0 (NX []) Dw v2 p0.un.2.2.2.2), ca_ 44 #[.agg #[Jint p0.un.1, Jint p0.un.2.1.un.1, Jint p0.un.2.1.un.2.1, Jint p0.un.2.1.un.2.2.1, v1, Jint p0.un.2.2.1, Jint p0.un.2.2.2.1, v2]] w0 fun e w' => e = .returned (Jint r) ∧ Below w0.heap.size w0 w' := by
  intro n
  induction n with
  | zero => intro Y w0 v1 v2 p0 r H; exact nomatch H
  | succ n ih => intro Y w0 v1 v2 p0 r H h_v1 h_v2; exact Qj (Ei n) ih Y w0 v1 v2 p0 r H h_v1 h_v2
theorem SF (Y : Nat → Prop) (w0 : World) (v1 : Value) (v2 : Value) (p0 : Tr31) (r : Int) (H : OU p0 = some r) (h_v1 : Sl w0 (NX []) B0 v1 p0.un.2.1.un.2.2.2) (h_v2 : Sl w0 (NX []) Dw v2 p0.un.2.2.2.2) :
    ca_ 44 #[.agg #[Jint p0.un.1, Jint p0.un.2.1.un.1, Jint p0.un.2.1.un.2.1, Jint p0.un.2.1.un.2.2.1, v1, Jint p0.un.2.2.1, Jint p0.un.2.2.2.1, v2]] w0 fun e w' => e = .returned (Jint r) ∧ Below w0.heap.size w0 w' := by
  obtain ⟨n, H⟩ := BP H
  exact RC n Y w0 v1 v2 p0 r H h_v1 h_v2
theorem aJ : Has Tryz.prog 45 := BM Tryz.func45
def Id (p0 : Int) : Int := (if 1000 < p0 then 1000 else p0)
theorem PU (Y : Nat → Prop) (w0 : World)  (p0 : Int) (r : Int) (H : Id p0 = r)  :
    ca_ 83 #[Jint p0] w0 fun e w' => e = .returned (Jint r) ∧ Below w0.heap.size w0 w' := by
 refine enter Tryz.func83 Aa Tryz.ntmps83 Aa fun a F => ?_
 have W := Stw.start Y w0
 unfold Id at H
 refine vc tk 12 F W fun a w F W => ?_
 refine A1 F Aa H (fun F H => ?_) fun F H => ?_
 ·
  refine vc tk 5 F W fun a w F W => ?_
  refine Ah (Aw ?_)
  subst H
  refine Av (.inl Aa) F W Aa (Am F Aa) ?_
  exact ⟨rfl, W.done⟩
 refine EX tk 8 F W fun a w F W => ?_
 refine Ah ?_
 subst H
 refine Av (.inl Aa) F W Aa (Am F Aa) ?_
 exact ⟨rfl, W.done⟩
theorem aM : Has Tryz.prog 83 := BM Tryz.func83
def DJ (fRec : Tr31 → Option Int) (p0 : Tr31) : (Int × Int) → Option ((Int × Int) ⊕ Int)
  | (x3, x4) => (if x4 < (p0.un.2.2.2.2.length : Int) then ((ix p0.un.2.2.2.2 x4).bind fun x6 => (fRec (Tr31.of (x6.un.1, Tr28.of (x6.un.2.1.un.1, x6.un.2.1.un.2.1, x6.un.2.1.un.2.2.1, x6.un.2.1.un.2.2.2), x6.un.2.2.1, x6.un.2.2.2.1, x6.un.2.2.2.2))).bind fun x7 => (if p0.un.1 = 3 then some (Id (AJ (x3 * x7))) else some x3).bind fun x8 => (if p0.un.1 = 4 then some (Id (AJ (x8 + x7))) else some x8).bind fun x9 => (if (decide (p0.un.1 = 5) && decide (x9 < x7)) = true then some x7 else some x9)).bind fun x5 => some (.inl (x5, AJ (x4 + 1))) else some (.inr x3))
def Fc (fRec : Tr31 → Option Int) (p0 : Tr31) : Option Int := (if (decide (p0.un.1 < 3) || decide (5 < p0.un.1)) = true then some 1 else (if p0.un.1 = 3 then some 1 else some 0).bind fun x1 => (AB (DJ fRec p0) (x1, 0)).bind fun x2 => some x2)
def DZ : Nat → Tr31 → Option Int
  | 0 => fun _ => none
  | n + 1 => Fc (DZ n)
def Ov (p0 : Tr31) : Option Int := FT fun n => DZ n p0
theorem QN (fRec : Tr31 → Option Int) (ih : ∀ (Y : Nat → Prop) (w0 : World) (v1 : Value) (v2 : Value) (p0 : Tr31) (r : Int) (H : fRec p0 = some r) (h_v1 : Sl w0 (NX []) B0 v1 p0.un.2.1.un.2.2.2) (h_v2 : Sl w0 (NX []) Dw v2 p0.un.2.2.2.2), ca_ 45 #[.agg #[Jint p0.un.1, Jint p0.un.2.1.un.1, Jint p0.un.2.1.un.2.1, Jint p0.un.2.1.un.2.2.1, v1, Jint p0.un.2.2.1, Jint p0.un.2.2.2.1, v2]] w0 fun e w' => e = .returned (Jint r) ∧ Below w0.heap.size w0 w') (Y : Nat → Prop) (w0 : World) (v1 : Value) (v2 : Value) (p0 : Tr31) (r : Int) (H : Fc fRec p0 = some r) (h_v1 : Sl w0 (NX []) B0 v1 p0.un.2.1.un.2.2.2) (h_v2 : Sl w0 (NX []) Dw v2 p0.un.2.2.2.2) :
    ca_ 45 #[.agg #[Jint p0.un.1, Jint p0.un.2.1.un.1, Jint p0.un.2.1.un.2.1, Jint p0.un.2.1.un.2.2.1, v1, Jint p0.un.2.2.1, Jint p0.un.2.2.2.1, v2]] w0 fun e w' => e = .returned (Jint r) ∧ Below w0.heap.size w0 w' := by
 refine enter Tryz.func45 Aa Tryz.ntmps45 Aa fun a F => ?_
 have W := Stw.start Y w0
 obtain ⟨v3, h1, h_v1⟩ := h_v1.ex CA
 obtain ⟨v4, h2, h_v2⟩ := h_v2.ex D3
 unfold Fc at H
 refine vc tk 2 F W fun a w F W => ?_
 refine BQ (cs := (EA p0 v1 v2)) F W Aa Aa Aa fun b1 a w F W => ?_
 refine Bo tk 4 F W fun a w F W => ?_
 refine Ap (fun a w => Fr 54 [] [(1, pp b1), (2, Jint 0), (13, .bool (decide (p0.un.1 < 3) || decide (5 < p0.un.1)))] a ∧ sy Y w0 (Ft b1 p0 v1 v2) [] w) ?_ ?_
 ·
  refine CT tk 5 [0] F W (ai fun a w F W => ?_)
  rcases bxq (decide (p0.un.1 < 3)) with hb0 | hb0
  ·
   rw [hb0] at F
   refine vl tk 5 F W fun a w F W => ?_
   refine Ab ?_
   exact ⟨F.re ⟨rfl, Aa, (CL (by try rw [hb0]; all_goals simp only [CM])), trivial⟩, W⟩
  rw [hb0] at F
  refine DU tk 5 [0] F W (ai fun a w F W => ?_)
  refine Ab ?_
  exact ⟨F.re ⟨rfl, Aa, (CL (by try rw [hb0]; all_goals simp only [CM])), trivial⟩, W⟩
 rintro a w ⟨F, W⟩
 refine Bi F Aa H (fun F H => ?_) fun F H => ?_
 ·
  refine vc tk 5 F W fun a w F W => ?_
  refine Ah (Aw ?_)
  have H := Ay H
  subst H
  refine Av (.inl Aa) F W Aa (Am F Aa) ?_
  exact ⟨rfl, W.done⟩
 refine EX tk 7 F W fun a w F W => ?_
 obtain ⟨o1, G1, K1⟩ := Af H
 refine Ap (fun a w => ∃ x1 : Int, some (x1) = some o1 ∧ Fr 54 [] [(1, pp b1), (2, Jint 0), (3, Jint x1)] a ∧ sy Y w0 (Ft b1 p0 v1 v2) [] w) ?_ ?_
 ·
  have H := G1
  refine CT tk 7 [0] F W (ai fun a w F W => ?_)
  refine A1 F Aa H (fun F H => ?_) fun F H => ?_
  ·
   refine vc tk 3 F W fun a w F W => ?_
   refine Ab ?_
   exact ⟨_, H, F.ra Aa, W⟩
  refine AD (Ab ?_)
  exact ⟨_, H, F.ra Aa, W⟩
 rintro a w ⟨x1, hj, F, W⟩
 have hj := Ay hj
 subst hj
 have H := K1
 obtain ⟨o2, G2, K2⟩ := Af H
 refine Ap (fun a w => ∃ x2 : Int, some (x2) = some o2 ∧ Fr 54 [] [(2, Jint 0), (3, Jint x2)] a ∧ sy Y w0 (Ft b1 p0 v1 v2) [] w) ?_ ?_
 ·
  have H := G2
  refine vc tk 6 F W fun a w F W => ?_
  refine AQ H (fun s a w => Fr 54 [] [(1, pp b1), (2, Jint 0), (3, Jint s.1), (4, Jint s.2)] a ∧ sy Y w0 (Ft b1 p0 v1 v2) [] w) ⟨F.ra Aa, W⟩ fun s o a w H L3 hR => ?_
  obtain ⟨x3, x4⟩ := s
  obtain ⟨F, W⟩ := hR
  have F : Fr 54 [] [(1, pp b1), (2, Jint 0), (3, Jint x3), (4, Jint x4)] a := F
  have W : sy Y w0 (Ft b1 p0 v1 v2) [] w := W
  rw [DJ] at H
  refine CT tk 6 [0] F W (ai fun a w F W => ?_)
  refine ls F W Aa (Bz (r := Dw) (l := p0.un.2.2.2.2) NS Aa F Aa (Al D3 h2 (Ae h_v2))).q fun a w F W => ?_
  refine Bo tk 3 F W fun a w F W => ?_
  refine A1 F Aa H (fun F H => ?_) fun F H => ?_
  ·
   refine AD (Ab ?_)
   obtain ⟨o4, G4, K4⟩ := Af H
   refine Ap (fun a w => ∃ x5 : Int, some (x5) = some o4 ∧ Fr 54 [] [(1, pp b1), (2, Jint 0), (3, Jint x5), (4, Jint x4)] a ∧ sy Y w0 (Ft b1 p0 v1 v2) [] w) ?_ ?_
   ·
    have H := G4
    refine CT tk 6 [0] F W (ai fun a w F W => ?_)
    obtain ⟨x6, h3, H⟩ := Af H
    obtain ⟨v5, h4, h5⟩ := CS h2 h3
    have h6 : GH v5 = [Jint x6.un.1, Jint x6.un.2.1.un.1, Jint x6.un.2.1.un.2.1, Jint x6.un.2.1.un.2.2.1, (v5.2.1.2.2.2.1), Jint x6.un.2.2.1, Jint x6.un.2.2.2.1, (v5.2.2.2.2.1)] := congrArg (fun q : Tr31 => ([Jint q.un.1, Jint q.un.2.1.un.1, Jint q.un.2.1.un.2.1, Jint q.un.2.1.un.2.2.1, (v5.2.1.2.2.2.1), Jint q.un.2.2.1, Jint q.un.2.2.2.1, (v5.2.2.2.2.1)] : List Value)) h5
    refine ls F W Aa (Au (r := Jq) Qx F Aa Aa (Ae h_v2) h4).q fun a w F W => ?_
    refine ls F W Aa (Aj (y := Value.agg #[Jint x6.un.1, Jint x6.un.2.1.un.1, Jint x6.un.2.1.un.2.1, Jint x6.un.2.1.un.2.2.1, (v5.2.1.2.2.2.1), Jint x6.un.2.2.1, Jint x6.un.2.2.2.1, (v5.2.2.2.2.1)]) (j := 0) (i := x4) (enc := GH) F Aa Aa (Ae h_v2) h4 LH Ji (by rw [h6]; rfl)).q fun a w F W => ?_
    obtain ⟨x7, h7, H⟩ := Af H
    refine ls F W Aa (AA (v := Jint x7) F aJ Aa (fun w W => ih any w ((v5.2.1.2.2.2.1)) ((v5.2.2.2.2.1)) (Tr31.of (x6.un.1, Tr28.of (x6.un.2.1.un.1, x6.un.2.1.un.2.1, x6.un.2.1.un.2.2.1, x6.un.2.1.un.2.2.2), x6.un.2.2.1, x6.un.2.2.2.1, x6.un.2.2.2.2)) _ h7 (Cl (Bf (Ae h_v2) h4 (Ag.snd (Ag.fst (Ag.snd (Ag.snd (Ag.snd Ag.here))))) (congrArg (fun q : Tr31 => q.un.2.1.un.2.2.2) h5)) W) (Cl (Bf (Ae h_v2) h4 (Ag.snd (Ag.snd (Ag.snd (Ag.snd Ag.here)))) (congrArg (fun q : Tr31 => q.un.2.2.2.2) h5)) W))) fun a w F W => ?_
    refine vl tk 2 F W fun a w F W => ?_
    refine Ab ?_
    obtain ⟨o5, G5, K5⟩ := Af H
    refine Ap (fun a w => ∃ x8 : Int, some (x8) = some o5 ∧ Fr 54 [] [(1, pp b1), (2, Jint 0), (3, Jint x8), (4, Jint x4), (5, Jint x7)] a ∧ sy Y w0 (Ft b1 p0 v1 v2) [] w) ?_ ?_
    ·
     have H := G5
     refine CT tk 7 [0] F W (ai fun a w F W => ?_)
     refine A1 F Aa H (fun F H => ?_) fun F H => ?_
     ·
      refine vc tk 4 F W fun a w F W => ?_
      refine ls F W Aa (AA (v := Jint (Id (AJ (x3 * x7)))) F aM Aa (fun w W => PU any w (AJ (x3 * x7)) _ Aa)) fun a w F W => ?_
      refine vl tk 2 F W fun a w F W => ?_
      refine Ab ?_
      exact ⟨_, H, F.ra Aa, W⟩
     refine AD (Ab ?_)
     exact ⟨_, H, F.ra Aa, W⟩
    rintro a w ⟨x8, hj, F, W⟩
    have hj := Ay hj
    subst hj
    have H := K5
    obtain ⟨o6, G6, K6⟩ := Af H
    refine Ap (fun a w => ∃ x9 : Int, some (x9) = some o6 ∧ Fr 54 [] [(1, pp b1), (2, Jint 0), (3, Jint x9), (4, Jint x4), (5, Jint x7)] a ∧ sy Y w0 (Ft b1 p0 v1 v2) [] w) ?_ ?_
    ·
     have H := G6
     refine CT tk 7 [0] F W (ai fun a w F W => ?_)
     refine A1 F Aa H (fun F H => ?_) fun F H => ?_
     ·
      refine vc tk 4 F W fun a w F W => ?_
      refine ls F W Aa (AA (v := Jint (Id (AJ (x8 + x7)))) F aM Aa (fun w W => PU any w (AJ (x8 + x7)) _ Aa)) fun a w F W => ?_
      refine vl tk 2 F W fun a w F W => ?_
      refine Ab ?_
      exact ⟨_, H, F.ra Aa, W⟩
     refine AD (Ab ?_)
     exact ⟨_, H, F.ra Aa, W⟩
    rintro a w ⟨x9, hj, F, W⟩
    have hj := Ay hj
    subst hj
    have H := K6
    refine Ap (fun a w => Fr 54 [] [(1, pp b1), (2, Jint 0), (3, Jint x9), (4, Jint x4), (5, Jint x7), (51, .bool (decide (p0.un.1 = 5) && decide (x9 < x7)))] a ∧ sy Y w0 (Ft b1 p0 v1 v2) [] w) ?_ ?_
    ·
     refine CT tk 5 [0] F W (ai fun a w F W => ?_)
     rcases bxq (decide (p0.un.1 = 5)) with hb0 | hb0
     ·
      rw [hb0] at F
      refine vl tk 5 F W fun a w F W => ?_
      refine Ab ?_
      exact ⟨F.re ⟨rfl, Aa, Aa, Aa, Aa, (CL (by try rw [hb0]; all_goals simp only [CM])), trivial⟩, W⟩
     rw [hb0] at F
     refine vl tk 5 F W fun a w F W => ?_
     refine Ab ?_
     exact ⟨F.re ⟨rfl, Aa, Aa, Aa, Aa, (CL (by try rw [hb0]; all_goals simp only [CM])), trivial⟩, W⟩
    rintro a w ⟨F, W⟩
    refine Bi F Aa H (fun F H => ?_) fun F H => ?_
    ·
     refine vc tk 4 F W fun a w F W => ?_
     refine Az (Ab ?_)
     exact ⟨_, H, F.ra Aa, W⟩
    refine AD (Az (Ab ?_))
    exact ⟨_, H, F.ra Aa, W⟩
   rintro a w ⟨x5, hj, F, W⟩
   have hj := Ay hj
   subst hj
   have H := K4
   refine vc tk 5 F W fun a w F W => ?_
   refine Ab ?_
   exact ⟨_, H, F.ra Aa, W⟩
  refine AN ?_
  iterate 2 refine A6 ?_
  refine AP (Ab ?_)
  have H := L3 _ H
  exact ⟨_, H, F.ra Aa, W⟩
 rintro a w ⟨x2, hj, F, W⟩
 have hj := Ay hj
 subst hj
 have H := K2
 refine vc tk 6 F W fun a w F W => ?_
 refine Ah ?_
 have H := Ay H
 subst H
 refine Av (.inl Aa) F W Aa (Am F Aa) ?_
 exact ⟨rfl, W.done⟩
theorem Ro : ∀ (n : Nat) (Y : Nat → Prop) (w0 : World) (v1 : Value) (v2 : Value) (p0 : Tr31) (r : Int) (H : DZ n p0 = some r) (h_v1 : Sl w0 (NX []) B0 v1 p0.un.2.1.un.2.2.2) (h_v2 : Sl w0 (NX []) Dw v2 p0.un.2.2.2.2), ca_ 45 #[.agg #[Jint p0.un.1, Jint p0.un.2.1.un.1, Jint p0.un.2.1.un.2.1, Jint p0.un.2.1.un.2.2.1, v1, Jint p0.un.2.2.1, Jint p0.un.2.2.2.1, v2]] w0 fun e w' => e = .returned (Jint r) ∧ Below w0.heap.size w0 w' := by
  intro n
  induction n with
  | zero => intro Y w0 v1 v2 p0 r H; exact nomatch H
  | succ n ih => intro Y w0 v1 v2 p0 r H h_v1 h_v2; exact QN (DZ n) ih Y w0 v1 v2 p0 r H h_v1 h_v2
theorem SC (Y : Nat → Prop) (w0 : World) (v1 : Value) (v2 : Value) (p0 : Tr31) (r : Int) (H : Ov p0 = some r) (h_v1 : Sl w0 (NX []) B0 v1 p0.un.2.1.un.2.2.2) (h_v2 : Sl w0 (NX []) Dw v2 p0.un.2.2.2.2) :
    ca_ 45 #[.agg #[Jint p0.un.1, Jint p0.un.2.1.un.1, Jint p0.un.2.1.un.2.1, Jint p0.un.2.1.un.2.2.1, v1, Jint p0.un.2.2.1, Jint p0.un.2.2.2.1, v2]] w0 fun e w' => e = .returned (Jint r) ∧ Below w0.heap.size w0 w' := by
  obtain ⟨n, H⟩ := BP H
  exact Ro n Y w0 v1 v2 p0 r H h_v1 h_v2
def HI (p0 : Tr31) : Option Bool := ((Ob (Tr31.of (p0.un.1, Tr28.of (p0.un.2.1.un.1, p0.un.2.1.un.2.1, p0.un.2.1.un.2.2.1, p0.un.2.1.un.2.2.2), p0.un.2.2.1, p0.un.2.2.2.1, p0.un.2.2.2.2))).bind fun x2 => (if x2 = true then (OU (Tr31.of (p0.un.1, Tr28.of (p0.un.2.1.un.1, p0.un.2.1.un.2.1, p0.un.2.1.un.2.2.1, p0.un.2.1.un.2.2.2), p0.un.2.2.1, p0.un.2.2.2.1, p0.un.2.2.2.2))).bind fun x3 => (if x3 ≤ 8 then (Lp (Tr31.of (p0.un.1, Tr28.of (p0.un.2.1.un.1, p0.un.2.1.un.2.1, p0.un.2.1.un.2.2.1, p0.un.2.1.un.2.2.2), p0.un.2.2.1, p0.un.2.2.2.1, p0.un.2.2.2.2))).bind fun x4 => (if x4 ≤ 64 then (Ov (Tr31.of (p0.un.1, Tr28.of (p0.un.2.1.un.1, p0.un.2.1.un.2.1, p0.un.2.1.un.2.2.1, p0.un.2.1.un.2.2.2), p0.un.2.2.1, p0.un.2.2.2.1, p0.un.2.2.2.2))).bind fun x5 => some (decide (x5 ≤ 64)) else some false) else some false) else some false)).bind fun x1 => some x1
theorem MQ (Y : Nat → Prop) (w0 : World) (v1 : Value) (v2 : Value) (p0 : Tr31) (r : Bool) (H : HI p0 = some r) (h_v1 : Sl w0 (NX []) B0 v1 p0.un.2.1.un.2.2.2) (h_v2 : Sl w0 (NX []) Dw v2 p0.un.2.2.2.2) :
    ca_ 13 #[.agg #[Jint p0.un.1, Jint p0.un.2.1.un.1, Jint p0.un.2.1.un.2.1, Jint p0.un.2.1.un.2.2.1, v1, Jint p0.un.2.2.1, Jint p0.un.2.2.2.1, v2]] w0 fun e w' => e = .returned (.bool r) ∧ Below w0.heap.size w0 w' := by
 refine enter Tryz.func13 Aa Tryz.ntmps13 Aa fun a F => ?_
 have W := Stw.start Y w0
 obtain ⟨v3, h1, h_v1⟩ := h_v1.ex CA
 obtain ⟨v4, h2, h_v2⟩ := h_v2.ex D3
 unfold HI at H
 refine vc tk 2 F W fun a w F W => ?_
 refine BQ (cs := (EA p0 v1 v2)) F W Aa Aa Aa fun b1 a w F W => ?_
 refine vl tk 2 F W fun a w F W => ?_
 refine Ab ?_
 obtain ⟨o1, G1, K1⟩ := Af H
 refine Ap (fun a w => ∃ x1 : Bool, some (x1) = some o1 ∧ Fr 20 [] [(2, .bool x1)] a ∧ sy Y w0 (Ft b1 p0 v1 v2) [] w) ?_ ?_
 ·
  have H := G1
  refine CT tk 2 [0] F W (ai fun a w F W => ?_)
  obtain ⟨x2, h3, H⟩ := Af H
  refine ls F W Aa (AA (v := Value.bool x2) F Z6 Aa (fun w W => SB any w (v1) (v2) (Tr31.of (p0.un.1, Tr28.of (p0.un.2.1.un.1, p0.un.2.1.un.2.1, p0.un.2.1.un.2.2.1, p0.un.2.1.un.2.2.2), p0.un.2.2.1, p0.un.2.2.2.1, p0.un.2.2.2.2)) _ h3 (Cl (Al CA h1 (Ae h_v1)) W) (Cl (Al D3 h2 (Ae h_v2)) W))) fun a w F W => ?_
  refine ls F W Aa (Ao F Aa).q fun a w F W => ?_
  rcases bxq x2 with hb | hb
  ·
   have H := BB hb H
   rw [hb] at F
   refine Dy F W (Ad F Aa Aa Aa Aa) Aa (As Aa) (Bk (v := Value.agg #[Jint p0.un.1, Jint p0.un.2.1.un.1, Jint p0.un.2.1.un.2.1, Jint p0.un.2.1.un.2.2.1, v1, Jint p0.un.2.2.1, Jint p0.un.2.2.2.1, v2]) 0 F Aa Aa Ji Aa).q fun a w F W => ?_
   refine FU (Ad F Aa Aa Aa Aa) ?_
   obtain ⟨x3, h4, H⟩ := Af H
   refine ls F W Aa (AA (v := Jint x3) F Zg Aa (fun w W => SF any w (v1) (v2) (Tr31.of (p0.un.1, Tr28.of (p0.un.2.1.un.1, p0.un.2.1.un.2.1, p0.un.2.1.un.2.2.1, p0.un.2.1.un.2.2.2), p0.un.2.2.1, p0.un.2.2.2.1, p0.un.2.2.2.2)) _ h4 (Cl (Al CA h1 (Ae h_v1)) W) (Cl (Al D3 h2 (Ae h_v2)) W))) fun a w F W => ?_
   refine vl tk 3 F W fun a w F W => ?_
   rcases bxq (decide (x3 ≤ 8)) with hb | hb
   ·
    have H := BB (B4 hb) H
    rw [hb] at F
    refine Dy F W (Ad F Aa Aa Aa Aa) Aa (As Aa) (Bk (v := Value.agg #[Jint p0.un.1, Jint p0.un.2.1.un.1, Jint p0.un.2.1.un.2.1, Jint p0.un.2.1.un.2.2.1, v1, Jint p0.un.2.2.1, Jint p0.un.2.2.2.1, v2]) 0 F Aa Aa Ji Aa).q fun a w F W => ?_
    refine FU (Ad F Aa Aa Aa Aa) ?_
    obtain ⟨x4, h5, H⟩ := Af H
    refine ls F W Aa (AA (v := Jint x4) F ZO Aa (fun w W => Ol any w (v1) (v2) (Tr31.of (p0.un.1, Tr28.of (p0.un.2.1.un.1, p0.un.2.1.un.2.1, p0.un.2.1.un.2.2.1, p0.un.2.1.un.2.2.2), p0.un.2.2.1, p0.un.2.2.2.1, p0.un.2.2.2.2)) _ h5 (Cl (Al CA h1 (Ae h_v1)) W) (Cl (Al D3 h2 (Ae h_v2)) W))) fun a w F W => ?_
    refine vl tk 3 F W fun a w F W => ?_
    rcases bxq (decide (x4 ≤ 64)) with hb | hb
    ·
     have H := BB (B4 hb) H
     rw [hb] at F
     refine Dy F W (Ad F Aa Aa Aa Aa) Aa (As Aa) (Bk (v := Value.agg #[Jint p0.un.1, Jint p0.un.2.1.un.1, Jint p0.un.2.1.un.2.1, Jint p0.un.2.1.un.2.2.1, v1, Jint p0.un.2.2.1, Jint p0.un.2.2.2.1, v2]) 0 F Aa Aa Ji Aa).q fun a w F W => ?_
     refine FU (Ad F Aa Aa Aa Aa) ?_
     obtain ⟨x5, h6, H⟩ := Af H
     refine ls F W Aa (AA (v := Jint x5) F aJ Aa (fun w W => SC any w (v1) (v2) (Tr31.of (p0.un.1, Tr28.of (p0.un.2.1.un.1, p0.un.2.1.un.2.1, p0.un.2.1.un.2.2.1, p0.un.2.1.un.2.2.2), p0.un.2.2.1, p0.un.2.2.2.1, p0.un.2.2.2.2)) _ h6 (Cl (Al CA h1 (Ae h_v1)) W) (Cl (Al D3 h2 (Ae h_v2)) W))) fun a w F W => ?_
     refine vl tk 4 F W fun a w F W => ?_
     refine Ab ?_
     exact ⟨_, H, F.ra Aa, W⟩
    have H := BC (B1 hb) H
    rw [hb] at F
    refine vl tk 6 F W fun a w F W => ?_
    refine Ab ?_
    exact ⟨_, H, F.ra Aa, W⟩
   have H := BC (B1 hb) H
   rw [hb] at F
   refine vl tk 11 F W fun a w F W => ?_
   refine Ab ?_
   exact ⟨_, H, F.ra Aa, W⟩
  have H := BC (by rw [hb]; decide) H
  rw [hb] at F
  refine vl tk 16 F W fun a w F W => ?_
  refine Ab ?_
  exact ⟨_, H, F.ra Aa, W⟩
 rintro a w ⟨x1, hj, F, W⟩
 have hj := Ay hj
 subst hj
 have H := K1
 refine Ah ?_
 have H := Ay H
 subst H
 refine Av (.inl Aa) F W Aa (Am F Aa) ?_
 exact ⟨rfl, W.done⟩
theorem Z7 : Has Tryz.prog 13 := BM Tryz.func13
theorem YR : Has Tryz.prog 79 := BM Tryz.func79
def Fe (fRec : Tr28 → Int → Int → Option Bool) (p0 : Tr28) (p1 : Int) (p2 : Int) : Int → Option (Int ⊕ (Unit ⊕ Bool))
  | x1 => (if x1 < (p0.un.2.2.2.length : Int) then (ix p0.un.2.2.2 x1).bind fun x2 => (fRec x2 p1 p2).bind fun x3 => (if x3 = true then some (.inr (.inr true)) else some (.inl (AJ (x1 + 1)))) else some (.inr (.inl ())))
def Fb (fRec : Tr28 → Int → Int → Option Bool) (p0 : Tr28) (p1 : Int) (p2 : Int) : Option Bool := (if (decide (p0.un.1 = 3) && (decide (p0.un.2.1 = p1) && decide (p0.un.2.2.1 = p2))) = true then some true else HA (AB (Fe fRec p0 p1 p2) 0) fun _ => some false)
def EM : Nat → Tr28 → Int → Int → Option Bool
  | 0 => fun _ _ _ => none
  | n + 1 => Fb (EM n)
def JO (p0 : Tr28) (p1 : Int) (p2 : Int) : Option Bool := FT fun n => EM n p0 p1 p2
theorem Qk (fRec : Tr28 → Int → Int → Option Bool) (ih : ∀ (Y : Nat → Prop) (w0 : World) (v1 : Value) (p0 : Tr28) (p1 : Int) (p2 : Int) (r : Bool) (H : fRec p0 p1 p2 = some r) (h_v1 : Sl w0 (NX []) B0 v1 p0.un.2.2.2), ca_ 79 #[.agg #[Jint p0.un.1, Jint p0.un.2.1, Jint p0.un.2.2.1, v1], Jint p1, Jint p2] w0 fun e w' => e = .returned (.bool r) ∧ Below w0.heap.size w0 w') (Y : Nat → Prop) (w0 : World) (v1 : Value) (p0 : Tr28) (p1 : Int) (p2 : Int) (r : Bool) (H : Fb fRec p0 p1 p2 = some r) (h_v1 : Sl w0 (NX []) B0 v1 p0.un.2.2.2) :
    ca_ 79 #[.agg #[Jint p0.un.1, Jint p0.un.2.1, Jint p0.un.2.2.1, v1], Jint p1, Jint p2] w0 fun e w' => e = .returned (.bool r) ∧ Below w0.heap.size w0 w' := by
 refine enter Tryz.func79 Aa Tryz.ntmps79 Aa fun a F => ?_
 have W := Stw.start Y w0
 obtain ⟨v2, h1, h_v1⟩ := h_v1.ex CA
 unfold Fb at H
 refine vc tk 2 F W fun a w F W => ?_
 refine BQ (cs := (Jp p0 v1)) F W Aa Aa Aa fun b1 a w F W => ?_
 refine Bo tk 4 F W fun a w F W => ?_
 refine Ap (fun a w => Fr 38 [] [(1, Jint p1), (2, Jint p2), (3, pp b1), (6, .bool false), (22, .bool (decide (p0.un.1 = 3) && (decide (p0.un.2.1 = p1) && decide (p0.un.2.2.1 = p2))))] a ∧ sy Y w0 (Js b1 p0 v1) [] w) ?_ ?_
 ·
  refine CT tk 5 [0] F W (ai fun a w F W => ?_)
  rcases bxq (decide (p0.un.1 = 3)) with hb0 | hb0
  ·
   rw [hb0] at F
   refine DU tk 6 [0] F W (ai fun a w F W => ?_)
   rcases bxq (decide (p0.un.2.1 = p1)) with hb1 | hb1
   ·
    rw [hb1] at F
    refine DU tk 6 [0] F W (ai fun a w F W => ?_)
    refine Ab ?_
    exact ⟨F.re ⟨rfl, Aa, Aa, Aa, (CL (by try rw [hb1]; try rw [hb0]; all_goals simp only [CM])), trivial⟩, W⟩
   rw [hb1] at F
   refine vl tk 6 F W fun a w F W => ?_
   refine Ab ?_
   exact ⟨F.re ⟨rfl, Aa, Aa, Aa, (CL (by try rw [hb1]; try rw [hb0]; all_goals simp only [CM])), trivial⟩, W⟩
  rw [hb0] at F
  refine vl tk 12 F W fun a w F W => ?_
  refine Ab ?_
  exact ⟨F.re ⟨rfl, Aa, Aa, Aa, (CL (by try rw [hb0]; all_goals simp only [CM])), trivial⟩, W⟩
 rintro a w ⟨F, W⟩
 refine Bi F Aa H (fun F H => ?_) fun F H => ?_
 ·
  refine vc tk 5 F W fun a w F W => ?_
  refine Ah (Aw ?_)
  have H := Ay H
  subst H
  refine Av (.inl Aa) F W Aa (Am F Aa) ?_
  exact ⟨rfl, W.done⟩
 refine AD (Ab ?_)
 obtain ⟨o1, G1, K1, L1⟩ := Lh H
 refine Ap (fun a w => some (Sum.inl ()) = some o1 ∧ Fr 38 [] [(6, .bool false)] a ∧ sy Y w0 (Js b1 p0 v1) [] w) ?_ ?_
 ·
  have H := G1
  refine vc tk 6 F W fun a w F W => ?_
  refine AQ H (fun s a w => Fr 38 [] [(1, Jint p1), (2, Jint p2), (3, pp b1), (6, .bool false), (7, Jint s)] a ∧ sy Y w0 (Js b1 p0 v1) [] w) ⟨F.ra Aa, W⟩ fun s o a w H L2 hR => ?_
  obtain ⟨x1, rfl⟩ : ∃ x, x = s := ⟨s, rfl⟩
  obtain ⟨F, W⟩ := hR
  have F : Fr 38 [] [(1, Jint p1), (2, Jint p2), (3, pp b1), (6, .bool false), (7, Jint x1)] a := F
  have W : sy Y w0 (Js b1 p0 v1) [] w := W
  rw [Fe] at H
  refine CT tk 6 [0] F W (ai fun a w F W => ?_)
  refine ls F W Aa (Bz (r := B0) (l := p0.un.2.2.2) Nk Aa F Aa (Al CA h1 (Ae h_v1))).q fun a w F W => ?_
  refine Bo tk 3 F W fun a w F W => ?_
  refine A1 F Aa H (fun F H => ?_) fun F H => ?_
  ·
   refine Hr tk 9 [0] F W (ai fun a w F W => ?_)
   obtain ⟨x2, h2, H⟩ := Af H
   obtain ⟨v3, h3, h4⟩ := CS h1 h2
   have h5 : HZ v3 = [Jint x2.un.1, Jint x2.un.2.1, Jint x2.un.2.2.1, (v3.2.2.2.1)] := congrArg (fun q : Tr28 => ([Jint q.un.1, Jint q.un.2.1, Jint q.un.2.2.1, (v3.2.2.2.1)] : List Value)) h4
   refine ls F W Aa (Au (r := Ia) Se F Aa Aa (Ae h_v1) h3).q fun a w F W => ?_
   refine ls F W Aa (Aj (y := Value.agg #[Jint x2.un.1, Jint x2.un.2.1, Jint x2.un.2.2.1, (v3.2.2.2.1)]) (j := 0) (i := x1) (enc := HZ) F Aa Aa (Ae h_v1) h3 Oi I2 (by rw [h5]; rfl)).q fun a w F W => ?_
   refine vl tk 2 F W fun a w F W => ?_
   obtain ⟨x3, h6, H⟩ := Af H
   refine ls F W Aa (AA (v := Value.bool x3) F YR Aa (fun w W => ih any w ((v3.2.2.2.1)) x2 p1 p2 _ h6 (Cl (Bf (Ae h_v1) h3 (Ag.snd (Ag.snd (Ag.snd Ag.here))) (congrArg (fun q : Tr28 => q.un.2.2.2) h4)) W))) fun a w F W => ?_
   refine Bo tk 2 F W fun a w F W => ?_
   refine Bi F Aa H (fun F H => ?_) fun F H => ?_
   ·
    refine vc tk 5 F W fun a w F W => ?_
    refine Ah (AC ?_)
    iterate 2 refine Aw ?_
    refine AC (Aw ?_)
    have H := L2 _ H
    have H := L1 _ H
    have H := Ay H
    subst H
    refine Av (.inl Aa) F W Aa (Am F Aa) ?_
    exact ⟨rfl, W.done⟩
   refine AD (Az ?_)
   refine vn tk 5 F W fun a w F W => ?_
   refine Ab ?_
   exact ⟨_, H, F.ra Aa, W⟩
  refine AN ?_
  iterate 2 refine A6 ?_
  refine AP (Ab ?_)
  have H := L2 _ H
  exact ⟨H, F.ra Aa, W⟩
 rintro a w ⟨hj, F, W⟩
 have H := K1 _ hj
 refine vc tk 5 F W fun a w F W => ?_
 refine Ah ?_
 have H := Ay H
 subst H
 refine Av (.inl Aa) F W Aa (Am F Aa) ?_
 exact ⟨rfl, W.done⟩
theorem Rn : ∀ (n : Nat) (Y : Nat → Prop) (w0 : World) (v1 : Value) (p0 : Tr28) (p1 : Int) (p2 : Int) (r : Bool) (H : EM n p0 p1 p2 = some r) (h_v1 : Sl w0 (NX []) B0 v1 p0.un.2.2.2), ca_ 79 #[.agg #[Jint p0.un.1, Jint p0.un.2.1, Jint p0.un.2.2.1, v1], Jint p1, Jint p2] w0 fun e w' => e = .returned (.bool r) ∧ Below w0.heap.size w0 w' := by
  intro n
  induction n with
  | zero => intro Y w0 v1 p0 p1 p2 r H; exact nomatch H
  | succ n ih => intro Y w0 v1 p0 p1 p2 r H h_v1; exact Qk (EM n) ih Y w0 v1 p0 p1 p2 r H h_v1
theorem KZ (Y : Nat → Prop) (w0 : World) (v1 : Value) (p0 : Tr28) (p1 : Int) (p2 : Int) (r : Bool) (H : JO p0 p1 p2 = some r) (h_v1 : Sl w0 (NX []) B0 v1 p0.un.2.2.2) :
    ca_ 79 #[.agg #[Jint p0.un.1, Jint p0.un.2.1, Jint p0.un.2.2.1, v1], Jint p1, Jint p2] w0 fun e w' => e = .returned (.bool r) ∧ Below w0.heap.size w0 w' := by
  obtain ⟨n, H⟩ := BP H
  exact Rn n Y w0 v1 p0 p1 p2 r H h_v1
theorem YL : Has Tryz.prog 38 := BM Tryz.func38
def FM (fRec : Tr31 → Int → Int → Option Bool) (p0 : Tr31) (p1 : Int) (p2 : Int) : Int → Option (Int ⊕ (Unit ⊕ Bool))
  | x5 => (if x5 < (p0.un.2.2.2.2.length : Int) then (ix p0.un.2.2.2.2 x5).bind fun x6 => (fRec (Tr31.of (x6.un.1, Tr28.of (x6.un.2.1.un.1, x6.un.2.1.un.2.1, x6.un.2.1.un.2.2.1, x6.un.2.1.un.2.2.2), x6.un.2.2.1, x6.un.2.2.2.1, x6.un.2.2.2.2)) p1 p2).bind fun x7 => (if x7 = true then some (.inr (.inr true)) else some (.inl (AJ (x5 + 1)))) else some (.inr (.inl ())))
def FR (fRec : Tr31 → Int → Int → Option Bool) (p0 : Tr31) (p1 : Int) (p2 : Int) : Option Bool := (if p0.un.1 = 2 then (if p0.un.2.2.1 = p1 then (if p0.un.2.2.2.1 = p2 then some true else (JO (Tr28.of (p0.un.2.1.un.1, p0.un.2.1.un.2.1, p0.un.2.1.un.2.2.1, p0.un.2.1.un.2.2.2)) p1 p2).bind fun x2 => some x2) else (JO (Tr28.of (p0.un.2.1.un.1, p0.un.2.1.un.2.1, p0.un.2.1.un.2.2.1, p0.un.2.1.un.2.2.2)) p1 p2).bind fun x3 => some x3) else (JO (Tr28.of (p0.un.2.1.un.1, p0.un.2.1.un.2.1, p0.un.2.1.un.2.2.1, p0.un.2.1.un.2.2.2)) p1 p2).bind fun x4 => some x4).bind fun x1 => (if x1 = true then some true else HA (AB (FM fRec p0 p1 p2) 0) fun _ => some false)
def FC : Nat → Tr31 → Int → Int → Option Bool
  | 0 => fun _ _ _ => none
  | n + 1 => FR (FC n)
def Kh (p0 : Tr31) (p1 : Int) (p2 : Int) : Option Bool := FT fun n => FC n p0 p1 p2
theorem Re (fRec : Tr31 → Int → Int → Option Bool) (ih : ∀ (Y : Nat → Prop) (w0 : World) (v1 : Value) (v2 : Value) (p0 : Tr31) (p1 : Int) (p2 : Int) (r : Bool) (H : fRec p0 p1 p2 = some r) (h_v1 : Sl w0 (NX []) B0 v1 p0.un.2.1.un.2.2.2) (h_v2 : Sl w0 (NX []) Dw v2 p0.un.2.2.2.2), ca_ 38 #[.agg #[Jint p0.un.1, Jint p0.un.2.1.un.1, Jint p0.un.2.1.un.2.1, Jint p0.un.2.1.un.2.2.1, v1, Jint p0.un.2.2.1, Jint p0.un.2.2.2.1, v2], Jint p1, Jint p2] w0 fun e w' => e = .returned (.bool r) ∧ Below w0.heap.size w0 w') (Y : Nat → Prop) (w0 : World) (v1 : Value) (v2 : Value) (p0 : Tr31) (p1 : Int) (p2 : Int) (r : Bool) (H : FR fRec p0 p1 p2 = some r) (h_v1 : Sl w0 (NX []) B0 v1 p0.un.2.1.un.2.2.2) (h_v2 : Sl w0 (NX []) Dw v2 p0.un.2.2.2.2) :
    ca_ 38 #[.agg #[Jint p0.un.1, Jint p0.un.2.1.un.1, Jint p0.un.2.1.un.2.1, Jint p0.un.2.1.un.2.2.1, v1, Jint p0.un.2.2.1, Jint p0.un.2.2.2.1, v2], Jint p1, Jint p2] w0 fun e w' => e = .returned (.bool r) ∧ Below w0.heap.size w0 w' := by
 refine enter Tryz.func38 Aa Tryz.ntmps38 Aa fun a F => ?_
 have W := Stw.start Y w0
 obtain ⟨v3, h1, h_v1⟩ := h_v1.ex CA
 obtain ⟨v4, h2, h_v2⟩ := h_v2.ex D3
 unfold FR at H
 refine vc tk 2 F W fun a w F W => ?_
 refine BQ (cs := (EA p0 v1 v2)) F W Aa Aa Aa fun b1 a w F W => ?_
 refine Bo tk 4 F W fun a w F W => ?_
 obtain ⟨o1, G1, K1⟩ := Af H
 refine Ap (fun a w => ∃ x1 : Bool, some (x1) = some o1 ∧ Fr 45 [] [(1, Jint p1), (2, Jint p2), (3, pp b1), (6, .bool false), (29, .bool x1)] a ∧ sy Y w0 (Ft b1 p0 v1 v2) [] w) ?_ ?_
 ·
  have H := G1
  refine CT tk 5 [0] F W (ai fun a w F W => ?_)
  rcases bxq (decide (p0.un.1 = 2)) with hb | hb
  ·
   have H := BB (B4 hb) H
   rw [hb] at F
   refine DU tk 6 [0] F W (ai fun a w F W => ?_)
   rcases bxq (decide (p0.un.2.2.1 = p1)) with hb | hb
   ·
    have H := BB (B4 hb) H
    rw [hb] at F
    refine DU tk 6 [0] F W (ai fun a w F W => ?_)
    rcases bxq (decide (p0.un.2.2.2.1 = p2)) with hb | hb
    ·
     have H := BB (B4 hb) H
     rw [hb] at F
     refine vl tk 7 F W fun a w F W => ?_
     refine Ab ?_
     exact ⟨_, H, F.ra Aa, W⟩
    have H := BC (B1 hb) H
    rw [hb] at F
    refine DU tk 4 [0] F W (ai fun a w F W => ?_)
    refine FU (Ad F Aa Aa Aa Aa) ?_
    obtain ⟨x2, h3, H⟩ := Af H
    refine ls F W Aa (AA (v := Value.bool x2) F YR Aa (fun w W => KZ any w (v1) (Tr28.of (p0.un.2.1.un.1, p0.un.2.1.un.2.1, p0.un.2.1.un.2.2.1, p0.un.2.1.un.2.2.2)) p1 p2 _ h3 (Cl (Al CA h1 (Ae h_v1)) W))) fun a w F W => ?_
    refine vl tk 2 F W fun a w F W => ?_
    refine Ab ?_
    exact ⟨_, H, F.ra Aa, W⟩
   have H := BC (B1 hb) H
   rw [hb] at F
   refine DU tk 10 [0] F W (ai fun a w F W => ?_)
   refine FU (Ad F Aa Aa Aa Aa) ?_
   obtain ⟨x3, h4, H⟩ := Af H
   refine ls F W Aa (AA (v := Value.bool x3) F YR Aa (fun w W => KZ any w (v1) (Tr28.of (p0.un.2.1.un.1, p0.un.2.1.un.2.1, p0.un.2.1.un.2.2.1, p0.un.2.1.un.2.2.2)) p1 p2 _ h4 (Cl (Al CA h1 (Ae h_v1)) W))) fun a w F W => ?_
   refine vl tk 2 F W fun a w F W => ?_
   refine Ab ?_
   exact ⟨_, H, F.ra Aa, W⟩
  have H := BC (B1 hb) H
  rw [hb] at F
  refine DU tk 16 [0] F W (ai fun a w F W => ?_)
  refine FU (Ad F Aa Aa Aa Aa) ?_
  obtain ⟨x4, h5, H⟩ := Af H
  refine ls F W Aa (AA (v := Value.bool x4) F YR Aa (fun w W => KZ any w (v1) (Tr28.of (p0.un.2.1.un.1, p0.un.2.1.un.2.1, p0.un.2.1.un.2.2.1, p0.un.2.1.un.2.2.2)) p1 p2 _ h5 (Cl (Al CA h1 (Ae h_v1)) W))) fun a w F W => ?_
  refine vl tk 2 F W fun a w F W => ?_
  refine Ab ?_
  exact ⟨_, H, F.ra Aa, W⟩
 rintro a w ⟨x1, hj, F, W⟩
 have hj := Ay hj
 subst hj
 have H := K1
 refine Bi F Aa H (fun F H => ?_) fun F H => ?_
 ·
  refine vc tk 5 F W fun a w F W => ?_
  refine Ah (Aw ?_)
  have H := Ay H
  subst H
  refine Av (.inl Aa) F W Aa (Am F Aa) ?_
  exact ⟨rfl, W.done⟩
 refine AD (Ab ?_)
 obtain ⟨o2, G2, K2, L2⟩ := Lh H
 refine Ap (fun a w => some (Sum.inl ()) = some o2 ∧ Fr 45 [] [(6, .bool false)] a ∧ sy Y w0 (Ft b1 p0 v1 v2) [] w) ?_ ?_
 ·
  have H := G2
  refine vc tk 6 F W fun a w F W => ?_
  refine AQ H (fun s a w => Fr 45 [] [(1, Jint p1), (2, Jint p2), (3, pp b1), (6, .bool false), (7, Jint s)] a ∧ sy Y w0 (Ft b1 p0 v1 v2) [] w) ⟨F.ra Aa, W⟩ fun s o a w H L3 hR => ?_
  obtain ⟨x5, rfl⟩ : ∃ x, x = s := ⟨s, rfl⟩
  obtain ⟨F, W⟩ := hR
  have F : Fr 45 [] [(1, Jint p1), (2, Jint p2), (3, pp b1), (6, .bool false), (7, Jint x5)] a := F
  have W : sy Y w0 (Ft b1 p0 v1 v2) [] w := W
  rw [FM] at H
  refine CT tk 6 [0] F W (ai fun a w F W => ?_)
  refine ls F W Aa (Bz (r := Dw) (l := p0.un.2.2.2.2) NS Aa F Aa (Al D3 h2 (Ae h_v2))).q fun a w F W => ?_
  refine Bo tk 3 F W fun a w F W => ?_
  refine A1 F Aa H (fun F H => ?_) fun F H => ?_
  ·
   refine Hr tk 9 [0] F W (ai fun a w F W => ?_)
   obtain ⟨x6, h6, H⟩ := Af H
   obtain ⟨v5, h7, h8⟩ := CS h2 h6
   have h9 : GH v5 = [Jint x6.un.1, Jint x6.un.2.1.un.1, Jint x6.un.2.1.un.2.1, Jint x6.un.2.1.un.2.2.1, (v5.2.1.2.2.2.1), Jint x6.un.2.2.1, Jint x6.un.2.2.2.1, (v5.2.2.2.2.1)] := congrArg (fun q : Tr31 => ([Jint q.un.1, Jint q.un.2.1.un.1, Jint q.un.2.1.un.2.1, Jint q.un.2.1.un.2.2.1, (v5.2.1.2.2.2.1), Jint q.un.2.2.1, Jint q.un.2.2.2.1, (v5.2.2.2.2.1)] : List Value)) h8
   refine ls F W Aa (Au (r := Jq) Qx F Aa Aa (Ae h_v2) h7).q fun a w F W => ?_
   refine ls F W Aa (Aj (y := Value.agg #[Jint x6.un.1, Jint x6.un.2.1.un.1, Jint x6.un.2.1.un.2.1, Jint x6.un.2.1.un.2.2.1, (v5.2.1.2.2.2.1), Jint x6.un.2.2.1, Jint x6.un.2.2.2.1, (v5.2.2.2.2.1)]) (j := 0) (i := x5) (enc := GH) F Aa Aa (Ae h_v2) h7 LH Ji (by rw [h9]; rfl)).q fun a w F W => ?_
   refine vl tk 2 F W fun a w F W => ?_
   obtain ⟨x7, h10, H⟩ := Af H
   refine ls F W Aa (AA (v := Value.bool x7) F YL Aa (fun w W => ih any w ((v5.2.1.2.2.2.1)) ((v5.2.2.2.2.1)) (Tr31.of (x6.un.1, Tr28.of (x6.un.2.1.un.1, x6.un.2.1.un.2.1, x6.un.2.1.un.2.2.1, x6.un.2.1.un.2.2.2), x6.un.2.2.1, x6.un.2.2.2.1, x6.un.2.2.2.2)) p1 p2 _ h10 (Cl (Bf (Ae h_v2) h7 (Ag.snd (Ag.fst (Ag.snd (Ag.snd (Ag.snd Ag.here))))) (congrArg (fun q : Tr31 => q.un.2.1.un.2.2.2) h8)) W) (Cl (Bf (Ae h_v2) h7 (Ag.snd (Ag.snd (Ag.snd (Ag.snd Ag.here)))) (congrArg (fun q : Tr31 => q.un.2.2.2.2) h8)) W))) fun a w F W => ?_
   refine Bo tk 2 F W fun a w F W => ?_
   refine Bi F Aa H (fun F H => ?_) fun F H => ?_
   ·
    refine vc tk 5 F W fun a w F W => ?_
    refine Ah (AC ?_)
    iterate 2 refine Aw ?_
    refine AC (Aw ?_)
    have H := L3 _ H
    have H := L2 _ H
    have H := Ay H
    subst H
    refine Av (.inl Aa) F W Aa (Am F Aa) ?_
    exact ⟨rfl, W.done⟩
   refine AD (Az ?_)
   refine vn tk 5 F W fun a w F W => ?_
   refine Ab ?_
   exact ⟨_, H, F.ra Aa, W⟩
  refine AN ?_
  iterate 2 refine A6 ?_
  refine AP (Ab ?_)
  have H := L3 _ H
  exact ⟨H, F.ra Aa, W⟩
 rintro a w ⟨hj, F, W⟩
 have H := K2 _ hj
 refine vc tk 5 F W fun a w F W => ?_
 refine Ah ?_
 have H := Ay H
 subst H
 refine Av (.inl Aa) F W Aa (Am F Aa) ?_
 exact ⟨rfl, W.done⟩
theorem Si : ∀ (n : Nat) (Y : Nat → Prop) (w0 : World) (v1 : Value) (v2 : Value) (p0 : Tr31) (p1 : Int) (p2 : Int) (r : Bool) (H : FC n p0 p1 p2 = some r) (h_v1 : Sl w0 (NX []) B0 v1 p0.un.2.1.un.2.2.2) (h_v2 : Sl w0 (NX []) Dw v2 p0.un.2.2.2.2), ca_ 38 #[.agg #[Jint p0.un.1, Jint p0.un.2.1.un.1, Jint p0.un.2.1.un.2.1, Jint p0.un.2.1.un.2.2.1, v1, Jint p0.un.2.2.1, Jint p0.un.2.2.2.1, v2], Jint p1, Jint p2] w0 fun e w' => e = .returned (.bool r) ∧ Below w0.heap.size w0 w' := by
  intro n
  induction n with
  | zero => intro Y w0 v1 v2 p0 p1 p2 r H; exact nomatch H
  | succ n ih => intro Y w0 v1 v2 p0 p1 p2 r H h_v1 h_v2; exact Re (FC n) ih Y w0 v1 v2 p0 p1 p2 r H h_v1 h_v2
theorem Ka (Y : Nat → Prop) (w0 : World) (v1 : Value) (v2 : Value) (p0 : Tr31) (p1 : Int) (p2 : Int) (r : Bool) (H : Kh p0 p1 p2 = some r) (h_v1 : Sl w0 (NX []) B0 v1 p0.un.2.1.un.2.2.2) (h_v2 : Sl w0 (NX []) Dw v2 p0.un.2.2.2.2) :
    ca_ 38 #[.agg #[Jint p0.un.1, Jint p0.un.2.1.un.1, Jint p0.un.2.1.un.2.1, Jint p0.un.2.1.un.2.2.1, v1, Jint p0.un.2.2.1, Jint p0.un.2.2.2.1, v2], Jint p1, Jint p2] w0 fun e w' => e = .returned (.bool r) ∧ Below w0.heap.size w0 w' := by
  obtain ⟨n, H⟩ := BP H
  exact Si n Y w0 v1 v2 p0 p1 p2 r H h_v1 h_v2
def GB (p0 : Int × (List (Int × Int × Int × Int × Int × Int)) × (List (Int × Int))) (p1 : Int) : Int → Option (Int ⊕ (Unit ⊕ Bool))
  | x1 => (if x1 < (p0.2.1.length : Int) then ((ix p0.2.1 x1).bind fun x3 => (if x3.2.1 = p1 then some true else (ix p0.2.1 x1).bind fun x4 => some (decide (x4.2.2.2.1 = p1)))).bind fun x2 => (if x2 = true then some (.inr (.inr true)) else some (.inl (AJ (x1 + 1)))) else some (.inr (.inl ())))
def GL (p0 : Int × (List (Int × Int × Int × Int × Int × Int)) × (List (Int × Int))) (p1 : Int) : Int → Option (Int ⊕ (Unit ⊕ Bool))
  | x5 => (if x5 < (p0.2.2.length : Int) then (ix p0.2.2 x5).bind fun x6 => (if x6.2 = p1 then some (.inr (.inr true)) else some (.inl (AJ (x5 + 1)))) else some (.inr (.inl ())))
def HG (p0 : Int × (List (Int × Int × Int × Int × Int × Int)) × (List (Int × Int))) (p1 : Int) : Option Bool := HA (AB (GB p0 p1) 0) fun _ => HA (AB (GL p0 p1) 0) fun _ => some false
theorem MB (Y : Nat → Prop) (w0 : World) (v1 : Value) (v2 : Value) (p0 : Int × (List (Int × Int × Int × Int × Int × Int)) × (List (Int × Int))) (p1 : Int) (r : Bool) (H : HG p0 p1 = some r) (h_v1 : Sl w0 (NX []) IP v1 p0.2.1) (h_v2 : Sl w0 (NX []) Jj v2 p0.2.2) :
    ca_ 12 #[.agg #[Jint p0.1, v1, v2], Jint p1] w0 fun e w' => e = .returned (.bool r) ∧ Below w0.heap.size w0 w' := by
 refine enter Tryz.func12 Aa Tryz.ntmps12 Aa fun a F => ?_
 have W := Stw.start Y w0
 unfold HG at H
 refine vc tk 2 F W fun a w F W => ?_
 refine BQ (cs := [Jint p0.1, v1, v2]) F W Aa Aa Aa fun b1 a w F W => ?_
 refine vl tk 2 F W fun a w F W => ?_
 refine Ab ?_
 obtain ⟨o1, G1, K1, L1⟩ := Lh H
 refine Ap (fun a w => some (Sum.inl ()) = some o1 ∧ Fr 47 [] [(1, Jint p1), (2, pp b1), (4, .bool false)] a ∧ sy Y w0 [(b1, [Jint p0.1, v1, v2])] [] w) ?_ ?_
 ·
  have H := G1
  refine vc tk 6 F W fun a w F W => ?_
  refine AQ H (fun s a w => Fr 47 [] [(1, Jint p1), (2, pp b1), (4, .bool false), (5, Jint s)] a ∧ sy Y w0 [(b1, [Jint p0.1, v1, v2])] [] w) ⟨F.ra Aa, W⟩ fun s o a w H L2 hR => ?_
  obtain ⟨x1, rfl⟩ : ∃ x, x = s := ⟨s, rfl⟩
  obtain ⟨F, W⟩ := hR
  have F : Fr 47 [] [(1, Jint p1), (2, pp b1), (4, .bool false), (5, Jint x1)] a := F
  have W : sy Y w0 [(b1, [Jint p0.1, v1, v2])] [] w := W
  rw [GB] at H
  refine CT tk 6 [0] F W (ai fun a w F W => ?_)
  refine ls F W Aa (Bz (r := IP) (l := p0.2.1) Py Aa F Aa (Ae h_v1)).q fun a w F W => ?_
  refine Bo tk 3 F W fun a w F W => ?_
  refine A1 F Aa H (fun F H => ?_) fun F H => ?_
  ·
   refine EX tk 4 F W fun a w F W => ?_
   obtain ⟨o3, G3, K3⟩ := Af H
   refine Ap (fun a w => ∃ x2 : Bool, some (x2) = some o3 ∧ Fr 47 [] [(1, Jint p1), (2, pp b1), (4, .bool false), (5, Jint x1), (31, .bool x2)] a ∧ sy Y w0 [(b1, [Jint p0.1, v1, v2])] [] w) ?_ ?_
   ·
    have H := G3
    refine CT tk 4 [0] F W (ai fun a w F W => ?_)
    obtain ⟨x3, h1, H⟩ := Af H
    refine ls F W Aa (Au (r := IP) Xa F Aa Aa (Ae h_v1) h1).q fun a w F W => ?_
    refine ls F W Aa (Aq Ya Aa Aa Aa T3 F Aa (H5 v1 + (x1).toNat * 6 + 1) Aa).q fun a w F W => ?_
    refine ls F W Aa (Aj (y := Jint x3.2.1) (j := 1) (i := x1) F Aa Aa (Ae h_v1) h1 Xd.to T3 Aa).q fun a w F W => ?_
    refine vl tk 3 F W fun a w F W => ?_
    rcases bxq (decide (x3.2.1 = p1)) with hb | hb
    ·
     have H := BB (B4 hb) H
     rw [hb] at F
     refine vl tk 10 F W fun a w F W => ?_
     refine Ab ?_
     exact ⟨_, H, F.ra Aa, W⟩
    have H := BC (B1 hb) H
    rw [hb] at F
    refine DU tk 3 [0] F W (ai fun a w F W => ?_)
    obtain ⟨x4, h2, H⟩ := Af H
    refine Dy F W (Ad F Aa Aa Aa Aa) Aa (As Aa) (Au (r := IP) Xa F Aa Aa (Ae h_v1) h2).q fun a w F W => ?_
    refine Dy F W (Ad F Aa Aa Aa Aa) Aa (As Aa) (Aq Ya Aa Aa Aa T3 F Aa (H5 v1 + (x1).toNat * 6 + 3) Aa).q fun a w F W => ?_
    refine Dy F W (Ad F Aa Aa Aa Aa) Aa (As Aa) (Aj (y := Jint x4.2.2.2.1) (j := 3) (i := x1) F Aa Aa (Ae h_v1) h2 Xd.to T3 Aa).q fun a w F W => ?_
    refine vl tk 4 F W fun a w F W => ?_
    refine Ab ?_
    exact ⟨_, H, F.ra Aa, W⟩
   rintro a w ⟨x2, hj, F, W⟩
   have hj := Ay hj
   subst hj
   have H := K3
   refine Bi F Aa H (fun F H => ?_) fun F H => ?_
   ·
    refine vc tk 5 F W fun a w F W => ?_
    refine Ah (AC ?_)
    iterate 2 refine Aw ?_
    refine AC (Aw ?_)
    have H := L2 _ H
    have H := L1 _ H
    have H := Ay H
    subst H
    refine Av (.inl Aa) F W Aa (Am F Aa) ?_
    exact ⟨rfl, W.done⟩
   refine AD (Az ?_)
   refine vn tk 5 F W fun a w F W => ?_
   refine Ab ?_
   exact ⟨_, H, F.ra Aa, W⟩
  refine AN ?_
  iterate 2 refine A6 ?_
  refine AP (Ab ?_)
  have H := L2 _ H
  exact ⟨H, F.ra Aa, W⟩
 rintro a w ⟨hj, F, W⟩
 have H := K1 _ hj
 obtain ⟨o4, G4, K4, L4⟩ := Lh H
 refine Ap (fun a w => some (Sum.inl ()) = some o4 ∧ Fr 47 [] [(4, .bool false)] a ∧ sy Y w0 [(b1, [Jint p0.1, v1, v2])] [] w) ?_ ?_
 ·
  have H := G4
  refine vc tk 6 F W fun a w F W => ?_
  refine AQ H (fun s a w => Fr 47 [] [(1, Jint p1), (2, pp b1), (4, .bool false), (6, Jint s)] a ∧ sy Y w0 [(b1, [Jint p0.1, v1, v2])] [] w) ⟨F.ra Aa, W⟩ fun s o a w H L5 hR => ?_
  obtain ⟨x5, rfl⟩ : ∃ x, x = s := ⟨s, rfl⟩
  obtain ⟨F, W⟩ := hR
  have F : Fr 47 [] [(1, Jint p1), (2, pp b1), (4, .bool false), (6, Jint x5)] a := F
  have W : sy Y w0 [(b1, [Jint p0.1, v1, v2])] [] w := W
  rw [GL] at H
  refine CT tk 6 [0] F W (ai fun a w F W => ?_)
  refine ls F W Aa (Bz (r := Jj) (l := p0.2.2) QV Aa F Aa (Ae h_v2)).q fun a w F W => ?_
  refine Bo tk 3 F W fun a w F W => ?_
  refine A1 F Aa H (fun F H => ?_) fun F H => ?_
  ·
   refine Hr tk 9 [0] F W (ai fun a w F W => ?_)
   obtain ⟨x6, h3, H⟩ := Af H
   refine ls F W Aa (Au (r := Jj) Xe F Aa Aa (Ae h_v2) h3).q fun a w F W => ?_
   refine ls F W Aa (Aq U6 Aa Aa Aa T3 F Aa (H5 v2 + (x5).toNat * 2 + 1) Aa).q fun a w F W => ?_
   refine ls F W Aa (Aj (y := Jint x6.2) (j := 1) (i := x5) F Aa Aa (Ae h_v2) h3 W1.to T3 Aa).q fun a w F W => ?_
   refine Bo tk 4 F W fun a w F W => ?_
   refine A1 F Aa H (fun F H => ?_) fun F H => ?_
   ·
    refine vc tk 5 F W fun a w F W => ?_
    refine Ah (AC ?_)
    iterate 2 refine Aw ?_
    refine AC (Aw ?_)
    have H := L5 _ H
    have H := L4 _ H
    have H := Ay H
    subst H
    refine Av (.inl Aa) F W Aa (Am F Aa) ?_
    exact ⟨rfl, W.done⟩
   refine AD (Az ?_)
   refine vn tk 5 F W fun a w F W => ?_
   refine Ab ?_
   exact ⟨_, H, F.ra Aa, W⟩
  refine AN ?_
  iterate 2 refine A6 ?_
  refine AP (Ab ?_)
  have H := L5 _ H
  exact ⟨H, F.ra Aa, W⟩
 rintro a w ⟨hj, F, W⟩
 have H := K4 _ hj
 refine vc tk 5 F W fun a w F W => ?_
 refine Ah ?_
 have H := Ay H
 subst H
 refine Av (.inl Aa) F W Aa (Am F Aa) ?_
 exact ⟨rfl, W.done⟩
end
end Go.Proofs.YtgoifghhcekahaaGreatDoor
