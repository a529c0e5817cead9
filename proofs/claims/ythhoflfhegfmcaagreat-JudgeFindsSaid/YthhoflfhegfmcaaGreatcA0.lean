/- The functions of layer 25, JA. Conditions: none. -/
import Derived.Test.YthhoflfhegfmcaaGreatRows
import Derived.Test.YthhoflfhegfmcaaGreatcOT
import Derived.Test.YthhoflfhegfmcaaGreatcQT
import Derived.Test.YthhoflfhegfmcaaGreatcOD
import Derived.Test.YthhoflfhegfmcaaGreatcDS
import Derived.Test.YthhoflfhegfmcaaGreatcXN
import Derived.Test.YthhoflfhegfmcaaGreatcOY
import Derived.Test.YthhoflfhegfmcaaGreatcOC
import Derived.Test.YthhoflfhegfmcaaGreatcVC
import Derived.Test.YthhoflfhegfmcaaGreatcOM
import Derived.Test.YthhoflfhegfmcaaGreatcDR
import Derived.Test.YthhoflfhegfmcaaGreatcOX
namespace Go.Proofs.YthhoflfhegfmcaaGreat
noncomputable section
open Go Go.RowKit
set_option linter.unusedVariables false
set_option linter.unusedSimpArgs false
set_option maxRecDepth 20000
set_option maxHeartbeats 1600000
abbrev ri : Rp Int := Rp.int .i64
abbrev ca_ := Calls Tryz.prog
abbrev pp (b : Nat) : Value := .pointer (some ⟨b, 0, none⟩)
abbrev sy (Y : Nat → Prop) (w0 : World) := Stw ⟨Y, [], w0⟩
abbrev lb_ := List UInt8
theorem nl {α : Type _} {l : List α} : List.Sublist [] l := List.nil_sublist _
theorem sr {α : Type _} {l : List α} : List.Sublist l l := List.Sublist.refl _
theorem sc {α : Type _} {a : α} {l m : List α} (h : List.Sublist l m) : List.Sublist (a :: l) (a :: m) := List.Sublist.cons_cons _ h
def bJ : Tt := ([(25, [(0, false, 1), (1, false, 1), (2, false, 1)]), (33, [(0, false, 1), (1, false, 1), (2, false, 1), (3, false, 1), (4, false, 1), (5, false, 1)]), (43, [(0, false, 1), (1, false, 1), (2, false, 1), (3, false, 1)]), (46, [(0, false, 1), (1, false, 1), (2, false, 1)]), (49, [(0, false, 1), (1, false, 1), (2, false, 1), (3, false, 1), (4, false, 1), (5, false, 1)]), (51, [(0, false, 1), (1, false, 1)]), (59, [(0, true, 3), (3, false, 1), (4, false, 1), (5, true, 6)]), (70, [(0, false, 1), (1, false, 1), (2, false, 1)]), (93, [(0, false, 1), (1, false, 1), (2, false, 1)]), (108, [(0, false, 1), (1, false, 1)]), (126, [(0, false, 1), (1, false, 1)])], [(3, false, 1), (22, false, 1), (23, false, 1), (25, true, 3), (27, false, 1), (30, false, 1), (31, false, 1), (33, true, 6), (43, true, 4), (44, false, 1), (46, true, 3), (59, true, 11), (93, true, 3), (126, true, 2), (137, true, 16), (139, true, 16), (142, false, 1)])
theorem tk : TtOk Tryz.prog bJ := ⟨by kernel_rfl, by kernel_rfl⟩
theorem Rl : type_of% Tryz.underlying22 := Tryz.underlying22
theorem OH : type_of% Tryz.underlying23 := Tryz.underlying23
theorem XE : type_of% Tryz.underlying25 := Tryz.underlying25
theorem Nn : type_of% Tryz.underlying27 := Tryz.underlying27
theorem Jc : type_of% Tryz.underlying44 := Tryz.underlying44
abbrev IP : Rp (Int × Int × Int × Int × Int × Int) := (Rp.pair ri (Rp.pair ri (Rp.pair ri (Rp.pair ri (Rp.pair ri ri)))))
abbrev IE : Rp (Int × Int) := (Rp.pair ri ri)
abbrev Xr (p : Value × List Int) : List Int := p.2
theorem CK : Ex (Rp.slice ri) (Rp.vsl ri) Xr := Ex.sliceF
theorem Yl : Ty Tryz.prog 25 true 3 := ⟨by kernel_rfl, by kernel_rfl⟩
abbrev Hh (a : Value × List Int) : List Value := [a.1]
theorem LC : Ke (Rp.vsl ri) Hh := Ke.vsl
theorem PV : Et Tryz.prog 27 44 1 24 := Et.of Nn (by kernel_rfl) (by kernel_rfl) (by kernel_rfl) (by decide)
theorem NJ : Ty Tryz.prog 44 false 1 := ⟨by kernel_rfl, by kernel_rfl⟩
def HB (p1 : List (List Int)) : Int → Option (Int ⊕ (Unit ⊕ Bool))
  | x1 => (if x1 < (p1.length : Int) then (ix p1 x1).bind fun x2 => (if 12 < (x2.length : Int) then some (.inr (.inr false)) else some (.inl (An (x1 + 1)))) else some (.inr (.inl ())))
def IV (p0 : Int × (List (Int × Int × Int × Int × Int × Int)) × (List (Int × Int))) (p1 : List (List Int)) : Option Bool := GT (Aq (HB p1) 0) fun _ => some (decide ((p0.2.1.length : Int) ≤ 30) && (decide ((p0.2.2.length : Int) ≤ 12) && decide ((p1.length : Int) ≤ 12)))
theorem M9 (Y : Nat → Prop) (w0 : World) (v1 : Value) (v2 : Value) (v3 : Value) (p0 : Int × (List (Int × Int × Int × Int × Int × Int)) × (List (Int × Int))) (p1 : List (List Int)) (r : Bool) (H : IV p0 p1 = some r) (h_v1 : Sl w0 (NX []) IP v1 p0.2.1) (h_v2 : Sl w0 (NX []) IE v2 p0.2.2) (h_v3 : Sl w0 (NX []) (Rp.slice ri) v3 p1) :
    ca_ 5 #[.agg #[Jint p0.1, v1, v2], v3] w0 fun e w' => e = .returned (.bool r) ∧ Below w0.heap.size w0 w' := by
 refine enter Tryz.func5 Aa Tryz.ntmps5 Aa fun a F => ?_
 have W := Stw.start Y w0
 obtain ⟨v4, h1, h_v3⟩ := h_v3.ex CK
 unfold IV at H
 refine vc tk 2 F W fun a w F W => ?_
 refine D3 (cs := [Jint p0.1, v1, v2]) F W Aa Aa Aa fun b1 a w F W => ?_
 refine vl tk 2 F W fun a w F W => ?_
 refine Ab ?_
 obtain ⟨o1, G1, K1, L1⟩ := Md H
 refine As (fun a w => some (Sum.inl ()) = some o1 ∧ Fr 33 [] [(1, v3), (2, pp b1), (4, .bool false)] a ∧ sy Y w0 [(b1, [Jint p0.1, v1, v2])] [] w) ?_ ?_
 ·
  have H := G1
  refine vc tk 6 F W fun a w F W => ?_
  refine AN H (fun s a w => Fr 33 [] [(1, v3), (2, pp b1), (4, .bool false), (5, Jint s)] a ∧ sy Y w0 [(b1, [Jint p0.1, v1, v2])] [] w) ⟨F.ra Aa, W⟩ fun s o a w H L2 hR => ?_
  obtain ⟨x1, rfl⟩ : ∃ x, x = s := ⟨s, rfl⟩
  obtain ⟨F, W⟩ := hR
  have F : Fr 33 [] [(1, v3), (2, pp b1), (4, .bool false), (5, Jint x1)] a := F
  have W : sy Y w0 [(b1, [Jint p0.1, v1, v2])] [] w := W
  rw [HB] at H
  refine vc tk 5 F W fun a w F W => ?_
  refine ls F W Aa (BP (r := (Rp.slice ri)) (l := p1) Nn Aa F Aa (AL CK h1 (Ae h_v3))).q fun a w F W => ?_
  refine BQ tk 3 F W fun a w F W => ?_
  refine AW F Aa H (fun F H => ?_) fun F H => ?_
  ·
   refine FL tk 8 F W fun a w F W => ?_
   obtain ⟨x2, h2, H⟩ := Ac H
   obtain ⟨v5, h3, h4⟩ := EP h1 h2
   have h5 : Hh v5 = [(v5.1)] := congrArg (fun q : List Int => ([(v5.1)] : List Value)) h4
   refine ls F W Aa (Al (r := (Rp.vsl ri)) PV F Aa Aa (Ae h_v3) h3).q fun a w F W => ?_
   refine ls F W Aa (Ag (y := (v5.1)) (j := 0) (i := x1) (enc := Hh) F Aa Aa (Ae h_v3) h3 LC NJ (by rw [h5]; rfl)).q fun a w F W => ?_
   refine ls F W Aa (BP (r := ri) (l := x2) Jc Aa F Aa (C9 (Ae h_v3) h3 DA.here (congrArg (fun q : List Int => q) h4))).q fun a w F W => ?_
   refine BQ tk 3 F W fun a w F W => ?_
   refine AW F Aa H (fun F H => ?_) fun F H => ?_
   ·
    refine vc tk 5 F W fun a w F W => ?_
    refine Ap (AV ?_)
    iterate 2 refine AF ?_
    refine AV (AF ?_)
    have H := L2 _ H
    have H := L1 _ H
    have H := Ay H
    subst H
    refine A1 (.inl Aa) F W Aa (Am F Aa) ?_
    exact ⟨rfl, W.done⟩
   refine AE (Aw ?_)
   refine vn tk 5 F W fun a w F W => ?_
   refine Ab ?_
   exact ⟨_, H, F.ra Aa, W⟩
  refine AC ?_
  iterate 2 refine AR ?_
  refine AD (Ab ?_)
  have H := L2 _ H
  exact ⟨H, F.ra Aa, W⟩
 rintro a w ⟨hj, F, W⟩
 have H := K1 _ hj
 refine As (fun a w => Fr 33 [] [(4, .bool (decide ((p0.2.1.length : Int) ≤ 30) && (decide ((p0.2.2.length : Int) ≤ 12) && decide ((p1.length : Int) ≤ 12))))] a ∧ sy Y w0 [(b1, [Jint p0.1, v1, v2])] [] w) ?_ ?_
 ·
  refine Jk tk 3 [0] F W (ai fun a w F W => ?_)
  refine ls F W Aa (BP (r := IP) (l := p0.2.1) Rl Aa F Aa (Ae h_v1)).q fun a w F W => ?_
  refine vl tk 2 F W fun a w F W => ?_
  rcases bxq (decide ((p0.2.1.length : Int) ≤ 30)) with hb0 | hb0
  ·
   rw [hb0] at F
   refine Kp tk 2 [0] F W (ai fun a w F W => ?_)
   refine Gb F W (Ad F Aa Aa Aa Aa) Aa (Ao Aa) (BP (r := IE) (l := p0.2.2) OH Aa F Aa (Ae h_v2)).q fun a w F W => ?_
   refine vl tk 3 F W fun a w F W => ?_
   rcases bxq (decide ((p0.2.2.length : Int) ≤ 12)) with hb1 | hb1
   ·
    rw [hb1] at F
    refine Gb F W (Ad F Aa Aa Aa Aa) Aa (Ao Aa) (Ai F Aa).q fun a w F W => ?_
    refine Gb F W (Ad F Aa Aa Aa Aa) Aa (Ao Aa) (BP (r := (Rp.slice ri)) (l := p1) Nn Aa F Aa (AL CK h1 (Ae h_v3))).q fun a w F W => ?_
    refine vl tk 4 F W fun a w F W => ?_
    refine Ab ?_
    exact ⟨F.re ⟨(HA (by try rw [hb0]; try rw [hb1]; all_goals simp only [Hw])), trivial⟩, W⟩
   rw [hb1] at F
   refine vl tk 6 F W fun a w F W => ?_
   refine Ab ?_
   exact ⟨F.re ⟨(HA (by try rw [hb0]; try rw [hb1]; all_goals simp only [Hw])), trivial⟩, W⟩
  rw [hb0] at F
  refine vl tk 12 F W fun a w F W => ?_
  refine Ab ?_
  exact ⟨F.re ⟨(HA (by try rw [hb0]; all_goals simp only [Hw])), trivial⟩, W⟩
 rintro a w ⟨F, W⟩
 refine Ap ?_
 have H := Ay H
 subst H
 refine A1 (.inl Aa) F W Aa (Am F Aa) ?_
 exact ⟨rfl, W.done⟩
theorem PE : type_of% Tryz.underlying33 := Tryz.underlying33
theorem Uy : type_of% Tryz.underlying49 := Tryz.underlying49
theorem Yg : type_of% Tryz.underlying51 := Tryz.underlying51
theorem V9 : type_of% Tryz.underlying123 := Tryz.underlying123
theorem RS : type_of% Tryz.underlying126 := Tryz.underlying126
theorem H5 : Has Tryz.prog 5 := Cv Tryz.func5
theorem Zc : Bt Tryz.prog 49 [Jint 0, Jint 0, Jint 0, Jint 0, Jint 0, Jint 0] [(0, 1), (1, 1), (2, 1), (3, 1), (4, 1), (5, 1)] := ⟨⟨.agg #[Jint 0, Jint 0, Jint 0, Jint 0, Jint 0, Jint 0], by kernel_rfl, rfl⟩, ⟨_, Uy, fun w => by kernel_rfl⟩⟩
theorem Yv : (Tryz.prog.info? 49).bind (·.zero) = some (.agg #[Jint 0, Jint 0, Jint 0, Jint 0, Jint 0, Jint 0]) := by kernel_rfl
def ZS (a : Int × Int × Int × Int × Int × Int) : List Value := [Jint a.1, Jint a.2.1, Jint a.2.2.1, Jint a.2.2.2.1, Jint a.2.2.2.2.1, Jint a.2.2.2.2.2]
theorem Ye : Fl IP ZS := (Fl.pair Fl.int (Fl.pair Fl.int (Fl.pair Fl.int (Fl.pair Fl.int (Fl.pair Fl.int Fl.int)))))
theorem Xv : Et Tryz.prog 22 49 6 48 := Et.of Rl (by kernel_rfl) (by kernel_rfl) (by kernel_rfl) (by decide)
theorem ZB : Bt Tryz.prog 51 [Jint 0, Jint 0] [(0, 1), (1, 1)] := ⟨⟨.agg #[Jint 0, Jint 0], by kernel_rfl, rfl⟩, ⟨_, Yg, fun w => by kernel_rfl⟩⟩
theorem Zo : (Tryz.prog.info? 51).bind (·.zero) = some (.agg #[Jint 0, Jint 0]) := by kernel_rfl
def aQ (a : Int × Int) : List Value := [Jint a.1, Jint a.2]
theorem Y3 : Fl IE aQ := (Fl.pair Fl.int Fl.int)
theorem YM : Et Tryz.prog 23 51 2 16 := Et.of OH (by kernel_rfl) (by kernel_rfl) (by kernel_rfl) (by decide)
theorem ZC : Bt Tryz.prog 25 [Jint 0, .slice none 0 0, .slice none 0 0] [(0, 1), (1, 1), (2, 1)] := ⟨⟨.agg #[Jint 0, .slice none 0 0, .slice none 0 0], by kernel_rfl, rfl⟩, ⟨_, XE, fun w => by kernel_rfl⟩⟩
theorem bH : (Tryz.prog.info? 25).bind (·.zero) = some (.agg #[Jint 0, .slice none 0 0, .slice none 0 0]) := by kernel_rfl
theorem Z3 : (Tryz.prog.info? 3).bind (·.zero) = some (Jint 0) := by kernel_rfl
theorem EM : Et Tryz.prog 44 3 1 8 := Et.of Jc (by kernel_rfl) (by kernel_rfl) (by kernel_rfl) (by decide)
theorem Yp : (Tryz.prog.info? 44).bind (·.zero) = some (.slice none 0 0) := by kernel_rfl
theorem W0 : Bt Tryz.prog 33 [.slice none 0 0, .slice none 0 0, Jint 0, Jint 0, Jint 0, Jint 0] [(0, 1), (1, 1), (2, 1), (3, 1), (4, 1), (5, 1)] := ⟨⟨.agg #[.slice none 0 0, .slice none 0 0, Jint 0, Jint 0, Jint 0, Jint 0], by kernel_rfl, rfl⟩, ⟨_, PE, fun w => by kernel_rfl⟩⟩
abbrev AY : Rp (Int × Int × Int × Int) := (Rp.pair ri (Rp.pair ri (Rp.pair ri ri)))
abbrev GO : Rp (Int × Int × List Int) := (Rp.pair ri (Rp.pair ri (Rp.slice ri)))
abbrev OZ : Rp (Int × Int × (Value × List Int)) := (Rp.pair ri (Rp.pair ri (Rp.vsl ri)))
abbrev YL (p : Int × Int × (Value × List Int)) : Int × Int × List Int := (p.1, p.2.1, p.2.2.2)
theorem Gh : Ex GO OZ YL := (Ex.pair Ex.rfl' (Ex.pair Ex.rfl' Ex.sliceF))
theorem T3 : Ty Tryz.prog 3 false 1 := ⟨by kernel_rfl, by kernel_rfl⟩
abbrev JO (x : Int × Int) : Value := .agg #[Jint x.1, Jint x.2]
abbrev Ku (x : Unit) : Value := .agg #[]
theorem WL : Ty Tryz.prog 49 true 6 := ⟨by kernel_rfl, by kernel_rfl⟩
theorem ST : Bt Tryz.prog 126 [Jint 0, Jint 0] [(0, 1), (1, 1)] := ⟨⟨.agg #[Jint 0, Jint 0], by kernel_rfl, rfl⟩, ⟨_, RS, fun w => by kernel_rfl⟩⟩
theorem VR : (Tryz.prog.info? 126).bind (·.zero) = some (.agg #[Jint 0, Jint 0]) := by kernel_rfl
abbrev Hr : Rp (Int × Int) := (Rp.pair ri ri)
def Zi (a : Int × Int) : List Value := [Jint a.1, Jint a.2]
theorem WP : Fl Hr Zi := (Fl.pair Fl.int Fl.int)
theorem UC : Et Tryz.prog 123 126 2 16 := Et.of V9 (by kernel_rfl) (by kernel_rfl) (by kernel_rfl) (by decide)
theorem Yt : Ty Tryz.prog 51 true 2 := ⟨by kernel_rfl, by kernel_rfl⟩
abbrev WW  : List Value := [Jint 0, Jint 0, Jint 0, Jint 0, Jint 0, Jint 0]
abbrev Y4 (a0 : Int × Int × Int × Int × Int × Int) : List Value := [Jint a0.1, Jint a0.2.1, Jint a0.2.2.1, Jint a0.2.2.2.1, Jint a0.2.2.2.2.1, Jint a0.2.2.2.2.2]
abbrev YV (a0 : Nat) (a1 : Int × Int × Int × Int × Int × Int) (a2 : Nat) (a3 : Int × (List (Int × Int × Int × Int × Int × Int)) × (List (Int × Int))) (a4 : Value) (a5 : Value) : List (Nat × List Value) := [(a0, [Jint a1.1, Jint a1.2.1, Jint a1.2.2.1, Jint a1.2.2.2.1, Jint a1.2.2.2.2.1, Jint a1.2.2.2.2.2]), (a2, [Jint a3.1, a4, a5])]
def Ee (p0 : Int × (List (Int × Int × Int × Int × Int × Int)) × (List (Int × Int))) : ((List (Int × Int)) × Int) → Option (((List (Int × Int)) × Int) ⊕ (List (Int × Int)))
  | (x2, x3) => (if x3 < (p0.2.1.length : Int) then (ix p0.2.1 x3).bind fun x4 => (HN x2 ([(x4.1, x4.2.1), (x4.2.2.1, x4.2.2.2.1)] : List (Int × Int))).bind fun x5 => some (.inl (x5, An (x3 + 1))) else some (.inr x2))
def Eg (p0 : Int × (List (Int × Int × Int × Int × Int × Int)) × (List (Int × Int))) : ((List (Int × Int)) × Int) → Option (((List (Int × Int)) × Int) ⊕ (List (Int × Int)))
  | (x7, x8) => (if x8 < (p0.2.2.length : Int) then (ix p0.2.2 x8).bind fun x9 => (HN x7 ([x9] : List (Int × Int))).bind fun x10 => some (.inl (x10, An (x8 + 1))) else some (.inr x7))
def Gs (p0 : Int × (List (Int × Int × Int × Int × Int × Int)) × (List (Int × Int))) : Option (List (Int × Int)) := (Aq (Ee p0) ([], 0)).bind fun x1 => (Aq (Eg p0) (x1, 0)).bind fun x6 => some x6
theorem OS (Y : Nat → Prop) (w0 : World) (v1 : Value) (v2 : Value) (p0 : Int × (List (Int × Int × Int × Int × Int × Int)) × (List (Int × Int))) (r : (List (Int × Int))) (H : Gs p0 = some r) (h_v1 : Sl w0 (NX []) IP v1 p0.2.1) (h_v2 : Sl w0 (NX []) IE v2 p0.2.2) :
    ca_ 71 #[.agg #[Jint p0.1, v1, v2]] w0 fun e w' => ∃ x : Value, e = .returned (x) ∧ sy Y w0 [] [row (x) 126 Hr r] w' := by
 refine enter Tryz.func71 Aa Tryz.ntmps71 Aa fun a F => ?_
 have W := Stw.start Y w0
 unfold Gs at H
 refine vc tk 2 F W fun a w F W => ?_
 refine D3 (cs := [Jint p0.1, v1, v2]) F W Aa Aa Aa fun b1 a w F W => ?_
 refine BQ tk 8 F W fun a w F W => ?_
 obtain ⟨o1, G1, K1⟩ := Ac H
 refine As (fun a w => ∃ x1 : List (Int × Int), ∃ v3 : Value, some (x1) = some o1 ∧ Fr 46 [] [(1, pp b1), (2, .slice none 0 0), (3, v3)] a ∧ sy Y w0 [(b1, [Jint p0.1, v1, v2])] [row v3 126 Hr x1] w) ?_ ?_
 ·
  have H := G1
  refine Jk tk 4 [0] F W (ai fun a w F W => ?_)
  refine ls F W Aa (BP (r := IP) (l := p0.2.1) Rl Aa F Aa (Ae h_v1)).q fun a w F W => ?_
  refine BQ tk 4 F W fun a w F W => ?_
  have W := W.nilRow 126 Hr
  refine AN H (fun s a w => ∃ v4 : Value, Fr 46 [] [(1, pp b1), (2, .slice none 0 0), (3, v4), (9, v1), (10, Jint (p0.2.1.length : Int)), (11, Jint s.2)] a ∧ sy Y w0 [(b1, [Jint p0.1, v1, v2])] [row v4 126 Hr s.1] w) ⟨(Value.slice none 0 0), F.ra Aa, W⟩ fun s o a w H L2 hR => ?_
  obtain ⟨x2, x3⟩ := s
  obtain ⟨v4, F, W⟩ := hR
  have F : Fr 46 [] [(1, pp b1), (2, .slice none 0 0), (3, v4), (9, v1), (10, Jint (p0.2.1.length : Int)), (11, Jint x3)] a := F
  have W : sy Y w0 [(b1, [Jint p0.1, v1, v2])] [row v4 126 Hr x2] w := W
  rw [Ee] at H
  refine vc tk 6 F W fun a w F W => ?_
  refine AW F Aa H (fun F H => ?_) fun F H => ?_
  ·
   refine FL tk 6 F W fun a w F W => ?_
   obtain ⟨x4, h1, H⟩ := Ac H
   refine ls F W Aa (Al (r := IP) Xv F Aa Aa (Ae h_v1) h1).q fun a w F W => ?_
   refine ls F W Aa (Ag (y := Value.agg #[Jint x4.1, Jint x4.2.1, Jint x4.2.2.1, Jint x4.2.2.2.1, Jint x4.2.2.2.2.1, Jint x4.2.2.2.2.2]) (j := 0) (i := x3) F Aa Aa (Ae h_v1) h1 Ye.to WL Aa).q fun a w F W => ?_
   refine B6 (cs := (WW)) F W Aa Yv Aa fun b2 a w F W => ?_
   refine Ej 0 F W Aa Aa Aa WL Aa Aa Aa fun w W => ?_
   refine Ii tk 8 [0, 0] F W (ai (ai fun a w F W => ?_))
   refine ls F W Aa (B9 (v := Value.agg #[Jint x4.1, Jint x4.2.1]) ST F Aa Aa Aa).q fun a w F W => ?_
   refine Kp tk 4 [0, 0] F W (ai (ai fun a w F W => ?_))
   refine ls F W Aa (B9 (v := Value.agg #[Jint x4.2.2.1, Jint x4.2.2.2.1]) ST F Aa Aa Aa).q fun a w F W => ?_
   refine D7 (z := Value.agg #[Jint 0, Jint 0]) (cs := [Jint x4.1, Jint x4.2.1, Jint x4.2.2.1, Jint x4.2.2.2.1]) Hr ([(x4.1, x4.2.1), (x4.2.2.1, x4.2.2.2.1)] : List (Int × Int)) F W Aa UC VR Aa Aa Aa Aa Aa Aa (WP.repL _ _ ([(x4.1, x4.2.1), (x4.2.2.1, x4.2.2.2.1)] : List (Int × Int))) fun v5 a w F W => ?_
   obtain ⟨x5, h2, H⟩ := Ac H
   refine Di (r := Hr) (i := 1) F W Aa UC Aa Aa Aa Aa (D1 W 0 Aa) h2 Aa fun v6 a w F W => ?_
   have W : sy Y w0 (YV b2 x4 b1 p0 v1 v2) [row v6 126 Hr x5, row v5 126 Hr ([(x4.1, x4.2.1), (x4.2.2.1, x4.2.2.2.1)] : List (Int × Int))] w := W
   refine vl tk 2 F W fun a w F W => ?_
   refine Aw ?_
   refine vn tk 4 F W fun a w F W => ?_
   refine Ab ?_
   have W := W.frontM (i := 1) Aa Aa
   have W := W.sub (M' := [(b1, [Jint p0.1, v1, v2])]) (Z' := [row v6 126 Hr x5]) (sc nl) (sc nl)
   exact ⟨_, H, (v6), F.ra Aa, W⟩
  refine AC ?_
  iterate 2 refine AR ?_
  refine AD (Ab ?_)
  have H := L2 _ H
  exact ⟨_, (v4), H, F.ra Aa, W⟩
 rintro a w ⟨x1, v3, hj, F, W⟩
 have hj := Ay hj
 subst hj
 have H := K1
 obtain ⟨o3, G3, K3⟩ := Ac H
 refine As (fun a w => ∃ x6 : List (Int × Int), ∃ v7 : Value, some (x6) = some o3 ∧ Fr 46 [] [(2, .slice none 0 0), (3, v7)] a ∧ sy Y w0 [(b1, [Jint p0.1, v1, v2])] [row v7 126 Hr x6] w) ?_ ?_
 ·
  have H := G3
  refine Jk tk 4 [0] F W (ai fun a w F W => ?_)
  refine ls F W Aa (BP (r := IE) (l := p0.2.2) OH Aa F Aa (Ae h_v2)).q fun a w F W => ?_
  refine BQ tk 4 F W fun a w F W => ?_
  refine AN H (fun s a w => ∃ v8 : Value, Fr 46 [] [(2, .slice none 0 0), (3, v8), (30, v2), (31, Jint (p0.2.2.length : Int)), (32, Jint s.2)] a ∧ sy Y w0 [(b1, [Jint p0.1, v1, v2])] [row v8 126 Hr s.1] w) ⟨(v3), F.ra Aa, W⟩ fun s o a w H L4 hR => ?_
  obtain ⟨x7, x8⟩ := s
  obtain ⟨v8, F, W⟩ := hR
  have F : Fr 46 [] [(2, .slice none 0 0), (3, v8), (30, v2), (31, Jint (p0.2.2.length : Int)), (32, Jint x8)] a := F
  have W : sy Y w0 [(b1, [Jint p0.1, v1, v2])] [row v8 126 Hr x7] w := W
  rw [Eg] at H
  refine vc tk 6 F W fun a w F W => ?_
  refine AW F Aa H (fun F H => ?_) fun F H => ?_
  ·
   refine FL tk 6 F W fun a w F W => ?_
   obtain ⟨x9, h3, H⟩ := Ac H
   refine ls F W Aa (Al (r := IE) YM F Aa Aa (Ae h_v2) h3).q fun a w F W => ?_
   refine ls F W Aa (Ag (y := Value.agg #[Jint x9.1, Jint x9.2]) (j := 0) (i := x8) F Aa Aa (Ae h_v2) h3 Y3.to Yt Aa).q fun a w F W => ?_
   refine B6 (cs := [Jint 0, Jint 0]) F W Aa Zo Aa fun b3 a w F W => ?_
   refine Ej 0 F W Aa Aa Aa Yt Aa Aa Aa fun w W => ?_
   refine Ii tk 8 [0, 0] F W (ai (ai fun a w F W => ?_))
   refine ls F W Aa (B9 (v := Value.agg #[Jint x9.1, Jint x9.2]) ST F Aa Aa Aa).q fun a w F W => ?_
   refine D7 (z := Value.agg #[Jint 0, Jint 0]) (cs := [Jint x9.1, Jint x9.2]) Hr ([x9] : List (Int × Int)) F W Aa UC VR Aa Aa Aa Aa Aa Aa (WP.repL _ _ ([x9] : List (Int × Int))) fun v9 a w F W => ?_
   obtain ⟨x10, h4, H⟩ := Ac H
   refine Di (r := Hr) (i := 1) F W Aa UC Aa Aa Aa Aa (D1 W 0 Aa) h4 Aa fun v10 a w F W => ?_
   have W : sy Y w0 [(b3, [Jint x9.1, Jint x9.2]), (b1, [Jint p0.1, v1, v2])] [row v10 126 Hr x10, row v9 126 Hr ([x9] : List (Int × Int))] w := W
   refine vl tk 2 F W fun a w F W => ?_
   refine Aw ?_
   refine vn tk 4 F W fun a w F W => ?_
   refine Ab ?_
   have W := W.frontM (i := 1) Aa Aa
   have W := W.sub (M' := [(b1, [Jint p0.1, v1, v2])]) (Z' := [row v10 126 Hr x10]) (sc nl) (sc nl)
   exact ⟨_, H, (v10), F.ra Aa, W⟩
  refine AC ?_
  iterate 2 refine AR ?_
  refine AD (Ab ?_)
  have H := L4 _ H
  exact ⟨_, (v8), H, F.ra Aa, W⟩
 rintro a w ⟨x6, v7, hj, F, W⟩
 have hj := Ay hj
 subst hj
 have H := K3
 refine vc tk 6 F W fun a w F W => ?_
 refine Ap ?_
 have H := Ay H
 subst H
 refine A1 (.inl Aa) F W Aa (Am F Aa) ?_
 have W := W.sub (M' := []) (Z' := [row v7 126 Hr x6]) nl sr
 exact ⟨(v7), Aa, W⟩
theorem Q3 : type_of% Tryz.underlying3 := Tryz.underlying3
theorem Ya : type_of% Tryz.underlying127 := Tryz.underlying127
theorem bC : Has Tryz.prog 71 := Cv Tryz.func71
theorem Wm : Ty Tryz.prog 126 true 2 := ⟨by kernel_rfl, by kernel_rfl⟩
theorem XN (dd : Nat) (x0 : Int) (x1 : Int) (y0 : Int) (y1 : Int) (w : World) : (Op.equalIn (dd + 2) 126 (.agg #[Jint x0, Jint x1]) (.agg #[Jint y0, Jint y1])).run Tryz.prog w = .ok (decide (x0 = y0 ∧ x1 = y1)) w :=
  ML (d := dd + 1) (rs := [decide (x0 = y0), decide (x1 = y1)]) RS (by kernel_rfl) ⟨rfl, Kg (d := dd + 0) rfl rfl Q3 T3 rfl rfl, rfl, Kg (d := dd + 0) rfl rfl Q3 T3 rfl rfl, trivial⟩ (by simp) w
theorem XH : Tryz.prog.eqGuardType Tryz.prog.depth 126 = false := by kernel_rfl
theorem WJ (x0 : Int) (x1 : Int) (y0 : Int) (y1 : Int) (w : World) : (Op.equalIn 10000 126 (.agg #[Jint x0, Jint x1]) (.agg #[Jint y0, Jint y1])).run Tryz.prog w = .ok (decide (x0 = y0 ∧ x1 = y1)) w := XN 9998 x0 x1 y0 y1 w
theorem VZ : KeyEnc Tryz.prog 126 JO := ⟨⟨_, RS, .inl fun _ _ => rfl⟩, fun x y w => (WJ x.1 x.2 y.1 y.2 w).trans (by congr 1; exact decide_eq_decide.2 (by simp only [Prod.ext_iff])), fun b x w => Nw (m := 9999) (cs := List.toArray [Jint x.1, Jint x.2]) RS ⟨⟨_, Qr T3 rfl, Kb (m := 9998) Q3⟩, ⟨_, Qr T3 rfl, Kb (m := 9998) Q3⟩, trivial⟩ b w, fun x => by simp [Instr.sameBits]⟩
theorem X3 : (Tryz.prog.info? 127).bind (·.zero) = some (.agg #[]) := by kernel_rfl
theorem YF : Ty Tryz.prog 127 true 0 := ⟨by kernel_rfl, by kernel_rfl⟩
theorem YD : Bt Tryz.prog 127 [] [] := ⟨⟨.agg #[], by kernel_rfl, rfl⟩, ⟨_, Ya, fun w => by kernel_rfl⟩⟩
def Cz (p0 : Int × Int × Int × Int × Int × Int) : Bool := (decide (p0.1 = p0.2.2.1) || (decide (p0.2.2.2.2.1 < 1) || (decide (p0.2.2.2.2.2 < p0.2.2.2.2.1) || decide (1000 < p0.2.2.2.2.2))))
theorem MS (Y : Nat → Prop) (w0 : World)  (p0 : Int × Int × Int × Int × Int × Int) (r : Bool) (H : Cz p0 = r)  :
    ca_ 73 #[.agg #[Jint p0.1, Jint p0.2.1, Jint p0.2.2.1, Jint p0.2.2.2.1, Jint p0.2.2.2.2.1, Jint p0.2.2.2.2.2]] w0 fun e w' => e = .returned (.bool r) ∧ Below w0.heap.size w0 w' := by
 refine enter Tryz.func73 Aa Tryz.ntmps73 Aa fun a F => ?_
 have W := Stw.start Y w0
 unfold Cz at H
 refine vc tk 2 F W fun a w F W => ?_
 refine D3 (cs := (Y4 p0)) F W Aa Aa Aa fun b1 a w F W => ?_
 refine BQ tk 3 F W fun a w F W => ?_
 refine As (fun a w => Fr 25 [] [(2, .bool (decide (p0.1 = p0.2.2.1) || (decide (p0.2.2.2.2.1 < 1) || (decide (p0.2.2.2.2.2 < p0.2.2.2.2.1) || decide (1000 < p0.2.2.2.2.2)))))] a ∧ sy Y w0 [(b1, [Jint p0.1, Jint p0.2.1, Jint p0.2.2.1, Jint p0.2.2.2.1, Jint p0.2.2.2.2.1, Jint p0.2.2.2.2.2])] [] w) ?_ ?_
 ·
  refine Jk tk 7 [0, 0] F W (ai (ai fun a w F W => ?_))
  rcases bxq (decide (p0.1 = p0.2.2.1)) with hb0 | hb0
  ·
   rw [hb0] at F
   refine vl tk 18 F W fun a w F W => ?_
   refine Ab ?_
   exact ⟨F.re ⟨(HA (by try rw [hb0]; all_goals simp only [Hw])), trivial⟩, W⟩
  rw [hb0] at F
  refine Kp tk 5 [0] F W (ai fun a w F W => ?_)
  rcases bxq (decide (p0.2.2.2.2.1 < 1)) with hb1 | hb1
  ·
   rw [hb1] at F
   refine vl tk 13 F W fun a w F W => ?_
   refine Ab ?_
   exact ⟨F.re ⟨(HA (by try rw [hb1]; try rw [hb0]; all_goals simp only [Hw])), trivial⟩, W⟩
  rw [hb1] at F
  refine Kp tk 7 [0, 0] F W (ai (ai fun a w F W => ?_))
  rcases bxq (decide (p0.2.2.2.2.2 < p0.2.2.2.2.1)) with hb2 | hb2
  ·
   rw [hb2] at F
   refine vl tk 6 F W fun a w F W => ?_
   refine Ab ?_
   exact ⟨F.re ⟨(HA (by try rw [hb2]; try rw [hb1]; try rw [hb0]; all_goals simp only [Hw])), trivial⟩, W⟩
  rw [hb2] at F
  refine Kp tk 6 [0] F W (ai fun a w F W => ?_)
  refine Ab ?_
  exact ⟨F.re ⟨(HA (by try rw [hb2]; try rw [hb1]; try rw [hb0]; all_goals simp only [Hw])), trivial⟩, W⟩
 rintro a w ⟨F, W⟩
 refine Ap ?_
 subst H
 refine A1 (.inl Aa) F W Aa (Am F Aa) ?_
 exact ⟨rfl, W.done⟩
theorem bA : Has Tryz.prog 73 := Cv Tryz.func73
def AQ (p0 : List (Int × Int × Int × Int × Int × Int)) : Int → Option (Int ⊕ (Unit ⊕ Int))
  | x1 => (if x1 < (p0.length : Int) then (ix p0 x1).bind fun x2 => (if (Cz x2) = true then some (.inr (.inr x1)) else some (.inl (An (x1 + 1)))) else some (.inr (.inl ())))
def BU (p0 : List (Int × Int × Int × Int × Int × Int)) : Option Int := GT (Aq (AQ p0) 0) fun _ => some (-1)
theorem GN (Y : Nat → Prop) (w0 : World) (v1 : Value) (p0 : List (Int × Int × Int × Int × Int × Int)) (r : Int) (H : BU p0 = some r) (h_v1 : Sl w0 (NX []) IP v1 p0) :
    ca_ 97 #[v1, .func (.func 73) #[] #[]] w0 fun e w' => e = .returned (Jint r) ∧ Below w0.heap.size w0 w' := by
 refine enter Tryz.func97 Aa Tryz.ntmps97 Aa fun a F => ?_
 have W := Stw.start Y w0
 unfold BU at H
 refine vc tk 5 F W fun a w F W => ?_
 obtain ⟨o1, G1, K1, L1⟩ := Md H
 refine As (fun a w => some (Sum.inl ()) = some o1 ∧ Fr 19 [] [(4, Jint 0)] a ∧ sy Y w0 [] [] w) ?_ ?_
 ·
  have H := G1
  refine vc tk 3 F W fun a w F W => ?_
  refine ls F W Aa (BP (r := IP) (l := p0) Rl Aa F Aa (Ae h_v1)).q fun a w F W => ?_
  refine BQ tk 4 F W fun a w F W => ?_
  refine AN H (fun s a w => Fr 19 [] [(0, v1), (1, .func (.func 73) #[] #[]), (4, Jint 0), (7, Jint (p0.length : Int)), (8, Jint s)] a ∧ sy Y w0 [] [] w) ⟨F.ra Aa, W⟩ fun s o a w H L2 hR => ?_
  obtain ⟨x1, rfl⟩ : ∃ x, x = s := ⟨s, rfl⟩
  obtain ⟨F, W⟩ := hR
  have F : Fr 19 [] [(0, v1), (1, .func (.func 73) #[] #[]), (4, Jint 0), (7, Jint (p0.length : Int)), (8, Jint x1)] a := F
  have W : sy Y w0 [] [] w := W
  rw [AQ] at H
  refine vc tk 6 F W fun a w F W => ?_
  refine AW F Aa H (fun F H => ?_) fun F H => ?_
  ·
   refine FL tk 15 F W fun a w F W => ?_
   obtain ⟨x2, h1, H⟩ := Ac H
   refine ls F W Aa (Al (r := IP) Xv F Aa Aa (Ae h_v1) h1).q fun a w F W => ?_
   refine ls F W Aa (Ag (y := Value.agg #[Jint x2.1, Jint x2.2.1, Jint x2.2.2.1, Jint x2.2.2.2.1, Jint x2.2.2.2.2.1, Jint x2.2.2.2.2.2]) (j := 0) (i := x1) F Aa Aa (Ae h_v1) h1 Ye.to WL Aa).q fun a w F W => ?_
   refine ls F W Aa (E5 (ws := [.agg #[Jint x2.1, Jint x2.2.1, Jint x2.2.2.1, Jint x2.2.2.2.1, Jint x2.2.2.2.2.1, Jint x2.2.2.2.2.2]]) (v := Value.bool (Cz x2)) F bA Aa (fun w W => MS any w x2 _ Aa)) fun a w F W => ?_
   refine BQ tk 2 F W fun a w F W => ?_
   refine CS F Aa H (fun F H => ?_) fun F H => ?_
   ·
    refine vc tk 6 F W fun a w F W => ?_
    refine Ap (AV ?_)
    iterate 2 refine AF ?_
    refine AV (AF ?_)
    have H := L2 _ H
    have H := L1 _ H
    have H := Ay H
    subst H
    refine A1 (.inl Aa) F W Aa (Am F Aa) ?_
    exact ⟨rfl, W.done⟩
   refine AE (Aw ?_)
   refine vn tk 4 F W fun a w F W => ?_
   refine Ab ?_
   exact ⟨_, H, F.ra Aa, W⟩
  refine AC ?_
  iterate 2 refine AR ?_
  refine AD (Ab ?_)
  have H := L2 _ H
  exact ⟨H, F.ra Aa, W⟩
 rintro a w ⟨hj, F, W⟩
 have H := K1 _ hj
 refine vc tk 5 F W fun a w F W => ?_
 refine Ap ?_
 have H := Ay H
 subst H
 refine A1 (.inl Aa) F W Aa (Am F Aa) ?_
 exact ⟨rfl, W.done⟩
theorem ZT : Has Tryz.prog 97 := Cv Tryz.func97
def Bl (p0 : List (Int × Int × Int × Int × Int × Int)) : Option Bool := (BU p0).bind fun x1 => some (decide (0 ≤ x1))
theorem Gj (Y : Nat → Prop) (w0 : World) (v1 : Value) (p0 : List (Int × Int × Int × Int × Int × Int)) (r : Bool) (H : Bl p0 = some r) (h_v1 : Sl w0 (NX []) IP v1 p0) :
    ca_ 72 #[v1, .func (.func 73) #[] #[]] w0 fun e w' => e = .returned (.bool r) ∧ Below w0.heap.size w0 w' := by
 refine enter Tryz.func72 Aa Tryz.ntmps72 Aa fun a F => ?_
 have W := Stw.start Y w0
 unfold Bl at H
 refine vc tk 9 F W fun a w F W => ?_
 obtain ⟨x1, h1, H⟩ := Ac H
 refine ls F W Aa (Bc (v := Jint x1) F ZT Aa (fun w W => GN any w (v1) p0 _ h1 (EJ (Ae h_v1) W))) fun a w F W => ?_
 refine BQ tk 4 F W fun a w F W => ?_
 refine Ap ?_
 have H := Ay H
 subst H
 refine A1 (.inl Aa) F W Aa (Am F Aa) ?_
 exact ⟨rfl, W.done⟩
theorem V1 : type_of% Tryz.underlying122 := Tryz.underlying122
theorem aP : Has Tryz.prog 72 := Cv Tryz.func72
def DD (p0 : Int × (List (Int × Int × Int × Int × Int × Int)) × (List (Int × Int))) (x2 : (List (Int × Int))) : (Int × (List ((Int × Int) × Unit))) → Option ((Int × (List ((Int × Int) × Unit))) ⊕ ((List ((Int × Int) × Unit)) ⊕ Bool))
  | (x3, x4) => (if x3 < (x2.length : Int) then (ix x2 x3).bind fun x5 => (if (decide (x5.1 < 0) || (decide (p0.1 ≤ x5.1) || (decide (x5.2 < 0) || decide (8 ≤ x5.2)))) = true then some (.inr (.inr false)) else (if ((MW x4 x5).isSome) = true then some (.inr (.inr false)) else some (.inl (An (x3 + 1), MG x4 x5 ())))) else some (.inr (.inl x4)))
def Hg (p0 : Int × (List (Int × Int × Int × Int × Int × Int)) × (List (Int × Int))) : Option Bool := (if (decide (p0.1 < 1) || (decide (8 < p0.1) || (decide (24 < (p0.2.1.length : Int)) || decide (8 < (p0.2.2.length : Int))))) = true then some false else GT ((Gs p0).bind fun x2 => Aq (DD p0 x2) (0, ([] : List ((Int × Int) × Unit)))) fun x1 => (Bl p0.2.1).bind fun x6 => some (!x6))
theorem Pz (Y : Nat → Prop) (w0 : World) (v1 : Value) (v2 : Value) (p0 : Int × (List (Int × Int × Int × Int × Int × Int)) × (List (Int × Int))) (r : Bool) (H : Hg p0 = some r) (h_v1 : Sl w0 (NX []) IP v1 p0.2.1) (h_v2 : Sl w0 (NX []) IE v2 p0.2.2) :
    ca_ 48 #[.agg #[Jint p0.1, v1, v2]] w0 fun e w' => e = .returned (.bool r) ∧ Below w0.heap.size w0 w' := by
 refine enter Tryz.func48 Aa Tryz.ntmps48 Aa fun a F => ?_
 have W := Stw.start Y w0
 unfold Hg at H
 refine vc tk 2 F W fun a w F W => ?_
 refine D3 (cs := [Jint p0.1, v1, v2]) F W Aa Aa Aa fun b1 a w F W => ?_
 refine BQ tk 4 F W fun a w F W => ?_
 refine As (fun a w => Fr 71 [] [(1, pp b1), (2, .bool false), (27, .bool (decide (p0.1 < 1) || (decide (8 < p0.1) || (decide (24 < (p0.2.1.length : Int)) || decide (8 < (p0.2.2.length : Int))))))] a ∧ sy Y w0 [(b1, [Jint p0.1, v1, v2])] [] w) ?_ ?_
 ·
  refine Jk tk 5 [0] F W (ai fun a w F W => ?_)
  rcases bxq (decide (p0.1 < 1)) with hb0 | hb0
  ·
   rw [hb0] at F
   refine vl tk 17 F W fun a w F W => ?_
   refine Ab ?_
   exact ⟨F.re ⟨rfl, Aa, (HA (by try rw [hb0]; all_goals simp only [Hw])), trivial⟩, W⟩
  rw [hb0] at F
  refine Kp tk 5 [0] F W (ai fun a w F W => ?_)
  rcases bxq (decide (8 < p0.1)) with hb1 | hb1
  ·
   rw [hb1] at F
   refine vl tk 12 F W fun a w F W => ?_
   refine Ab ?_
   exact ⟨F.re ⟨rfl, Aa, (HA (by try rw [hb0]; try rw [hb1]; all_goals simp only [Hw])), trivial⟩, W⟩
  rw [hb1] at F
  refine Kp tk 2 [0] F W (ai fun a w F W => ?_)
  refine Gb F W (Ad F Aa Aa Aa Aa) Aa (Ao Aa) (BP (r := IP) (l := p0.2.1) Rl Aa F Aa (Ae h_v1)).q fun a w F W => ?_
  refine vl tk 3 F W fun a w F W => ?_
  rcases bxq (decide (24 < (p0.2.1.length : Int))) with hb2 | hb2
  ·
   rw [hb2] at F
   refine vl tk 6 F W fun a w F W => ?_
   refine Ab ?_
   exact ⟨F.re ⟨rfl, Aa, (HA (by try rw [hb2]; try rw [hb0]; try rw [hb1]; all_goals simp only [Hw])), trivial⟩, W⟩
  rw [hb2] at F
  refine Kp tk 2 [0] F W (ai fun a w F W => ?_)
  refine Gb F W (Ad F Aa Aa Aa Aa) Aa (Ao Aa) (BP (r := IE) (l := p0.2.2) OH Aa F Aa (Ae h_v2)).q fun a w F W => ?_
  refine vl tk 3 F W fun a w F W => ?_
  refine Ab ?_
  exact ⟨F.re ⟨rfl, Aa, (HA (by try rw [hb2]; try rw [hb0]; try rw [hb1]; all_goals simp only [Hw])), trivial⟩, W⟩
 rintro a w ⟨F, W⟩
 refine CS F Aa H (fun F H => ?_) fun F H => ?_
 ·
  refine vc tk 5 F W fun a w F W => ?_
  refine Ap (AF ?_)
  have H := Ay H
  subst H
  refine A1 (.inl Aa) F W Aa (Am F Aa) ?_
  exact ⟨rfl, W.done⟩
 refine FL tk 4 F W fun a w F W => ?_
 refine S5 JO Ku F W Aa fun b2 a w F W => ?_
 have W : sy Y w0 [(b1, [Jint p0.1, v1, v2])] [mp b2 JO Ku ([] : List ((Int × Int) × Unit))] w := W
 refine vl tk 2 F W fun a w F W => ?_
 refine Ab ?_
 obtain ⟨o1, G1, K1, L1⟩ := Md H
 refine As (fun a w => ∃ x1 : List ((Int × Int) × Unit), some (Sum.inl x1) = some o1 ∧ Fr 71 [] [(1, pp b1), (2, .bool false)] a ∧ sy Y w0 [(b1, [Jint p0.1, v1, v2])] [mp b2 JO Ku x1] w) ?_ ?_
 ·
  have H := G1
  refine Jk tk 3 [0] F W (ai fun a w F W => ?_)
  obtain ⟨x2, h1, H⟩ := Ac H
  refine A9 (Ml := []) (Zl := []) (β := Value) (rv := fun x => x) (MM := fun x => []) (ZZ := fun x => [row x 126 Hr x2]) F W bC Aa Aa (fun hL => OS _ w (v1) (v2) p0 _ h1 ((Ae h_v1) w W).nx ((Ae h_v2) w W).nx) fun x a w F W => ?_
  obtain ⟨v3, rfl⟩ : ∃ y, y = x := ⟨x, rfl⟩
  have W : sy Y w0 [(b1, [Jint p0.1, v1, v2])] [row v3 126 Hr x2, mp b2 JO Ku ([] : List ((Int × Int) × Unit))] w := W
  refine ls F W Aa (BP (r := Hr) (l := x2) V9 Aa F Aa (Af 0 Aa)).q fun a w F W => ?_
  refine BQ tk 4 F W fun a w F W => ?_
  have W := W.frontZ (i := 1) Aa Aa
  have W := W.frontZ (i := 1) Aa Aa
  refine AN H (fun s a w => Fr 71 [] [(1, pp b1), (2, .bool false), (3, .map (some b2)), (30, v3), (31, Jint (x2.length : Int)), (32, Jint s.1)] a ∧ sy Y w0 [(b1, [Jint p0.1, v1, v2])] [row v3 126 Hr x2, mp b2 JO Ku s.2] w) ⟨F.ra Aa, W⟩ fun s o a w H L2 hR => ?_
  obtain ⟨x3, x4⟩ := s
  obtain ⟨F, W⟩ := hR
  have F : Fr 71 [] [(1, pp b1), (2, .bool false), (3, .map (some b2)), (30, v3), (31, Jint (x2.length : Int)), (32, Jint x3)] a := F
  have W : sy Y w0 [(b1, [Jint p0.1, v1, v2])] [row v3 126 Hr x2, mp b2 JO Ku x4] w := W
  rw [DD] at H
  refine vc tk 6 F W fun a w F W => ?_
  refine AW F Aa H (fun F H => ?_) fun F H => ?_
  ·
   refine FL tk 6 F W fun a w F W => ?_
   obtain ⟨x5, h2, H⟩ := Ac H
   refine ls F W Aa (Al (r := Hr) UC F Aa Aa (Af 0 Aa) h2).q fun a w F W => ?_
   refine ls F W Aa (Ag (y := Value.agg #[Jint x5.1, Jint x5.2]) (j := 0) (i := x3) F Aa Aa (Af 0 Aa) h2 WP.to Wm Aa).q fun a w F W => ?_
   refine B6 (cs := [Jint 0, Jint 0]) F W Aa VR Aa fun b3 a w F W => ?_
   refine Ej 0 F W Aa Aa Aa Wm Aa Aa Aa fun w W => ?_
   refine BQ tk 3 F W fun a w F W => ?_
   refine As (fun a w => Fr 71 [] [(1, pp b1), (2, .bool false), (3, .map (some b2)), (5, pp b3), (30, v3), (31, Jint (x2.length : Int)), (32, Jint x3), (55, .bool (decide (x5.1 < 0) || (decide (p0.1 ≤ x5.1) || (decide (x5.2 < 0) || decide (8 ≤ x5.2)))))] a ∧ sy Y w0 [(b3, [Jint x5.1, Jint x5.2]), (b1, [Jint p0.1, v1, v2])] [row v3 126 Hr x2, mp b2 JO Ku x4] w) ?_ ?_
   ·
    refine Jk tk 5 [0] F W (ai fun a w F W => ?_)
    rcases bxq (decide (x5.1 < 0)) with hb0 | hb0
    ·
     rw [hb0] at F
     refine vl tk 17 F W fun a w F W => ?_
     refine Ab ?_
     exact ⟨F.re ⟨rfl, Aa, Aa, Aa, Aa, Aa, Aa, (HA (by try rw [hb0]; all_goals simp only [Hw])), trivial⟩, W⟩
    rw [hb0] at F
    refine Kp tk 7 [0, 1] F W (ai (ai fun a w F W => ?_))
    rcases bxq (decide (p0.1 ≤ x5.1)) with hb1 | hb1
    ·
     rw [hb1] at F
     refine vl tk 10 F W fun a w F W => ?_
     refine Ab ?_
     exact ⟨F.re ⟨rfl, Aa, Aa, Aa, Aa, Aa, Aa, (HA (by try rw [hb1]; try rw [hb0]; all_goals simp only [Hw])), trivial⟩, W⟩
    rw [hb1] at F
    refine Kp tk 5 [0] F W (ai fun a w F W => ?_)
    rcases bxq (decide (x5.2 < 0)) with hb2 | hb2
    ·
     rw [hb2] at F
     refine vl tk 5 F W fun a w F W => ?_
     refine Ab ?_
     exact ⟨F.re ⟨rfl, Aa, Aa, Aa, Aa, Aa, Aa, (HA (by try rw [hb1]; try rw [hb0]; try rw [hb2]; all_goals simp only [Hw])), trivial⟩, W⟩
    rw [hb2] at F
    refine Kp tk 5 [0] F W (ai fun a w F W => ?_)
    refine Ab ?_
    exact ⟨F.re ⟨rfl, Aa, Aa, Aa, Aa, Aa, Aa, (HA (by try rw [hb1]; try rw [hb0]; try rw [hb2]; all_goals simp only [Hw])), trivial⟩, W⟩
   rintro a w ⟨F, W⟩
   refine CS F Aa H (fun F H => ?_) fun F H => ?_
   ·
    refine vc tk 5 F W fun a w F W => ?_
    refine Ap (AF (AV ?_))
    iterate 2 refine AF ?_
    refine AV (AF ?_)
    have H := L2 _ H
    have H := L1 _ H
    have H := Ay H
    subst H
    refine A1 (.inl Aa) F W Aa (Am F Aa) ?_
    exact ⟨rfl, W.done⟩
   refine Lj tk 7 [0] F W (ai fun a w F W => ?_)
   refine ls F W Aa (SQ (zv := (() : Unit)) (kx := (x5 : Int × Int)) (q := 1) (E := JO) (V := Ku) F Aa Aa Aa VZ V1 X3).q fun a w F W => ?_
   refine ls F W Aa (Ai F Aa).q fun a w F W => ?_
   refine ls F W Aa (Bi (v := Value.agg #[]) F Aa Aa).q fun a w F W => ?_
   refine ls F W Aa (Bi (v := Value.bool ((MW x4 x5).isSome)) F Aa Aa).q fun a w F W => ?_
   refine B6 (cs := []) F W Aa X3 Aa fun b4 a w F W => ?_
   refine Ej 0 F W Aa Aa Aa YF Aa Aa Aa fun w W => ?_
   refine BQ tk 8 F W fun a w F W => ?_
   refine Gv F Aa (fun hb => ?_) fun hb => ?_
   ·
    have H := DU hb H
    rw [hb] at F
    refine vc tk 5 F W fun a w F W => ?_
    refine Ap (AF (AV ?_))
    iterate 2 refine AF ?_
    refine AV (AF ?_)
    have H := L2 _ H
    have H := L1 _ H
    have H := Ay H
    subst H
    refine A1 (.inl Aa) F W Aa (Am F Aa) ?_
    exact ⟨rfl, W.done⟩
   have H := DS (by rw [hb]; decide) H
   rw [hb] at F
   refine Lj tk 5 [1] F W (ai fun a w F W => ?_)
   refine ls F W Aa (B9 (v := Value.agg #[]) YD F Aa Aa Aa).q fun a w F W => ?_
   refine Uj (q := 1) (kx := (x5 : Int × Int)) (vx := (() : Unit)) (E := JO) (V := Ku) F W Aa Aa Aa Aa Aa VZ V1 fun w W => ?_
   have W : sy Y w0 [(b4, []), (b3, [Jint x5.1, Jint x5.2]), (b1, [Jint p0.1, v1, v2])] [mp b2 JO Ku (MG x4 x5 ()), row v3 126 Hr x2] w := W
   refine FC (Aw ?_)
   refine vn tk 4 F W fun a w F W => ?_
   refine Ab ?_
   have W := W.frontZ (i := 1) Aa Aa
   have W := W.frontM (i := 2) Aa Aa
   have W := W.sub (M' := [(b1, [Jint p0.1, v1, v2])]) (Z' := [row v3 126 Hr x2, mp b2 JO Ku (MG x4 x5 ())]) (sc nl) sr
   exact ⟨_, H, F.ra Aa, W⟩
  refine AC ?_
  iterate 2 refine AR ?_
  refine AD (Ab ?_)
  have W := W.frontZ (i := 1) Aa Aa
  have W := W.sub (M' := [(b1, [Jint p0.1, v1, v2])]) (Z' := [mp b2 JO Ku x4]) sr (sc nl)
  have H := L2 _ H
  exact ⟨_, H, F.ra Aa, W⟩
 rintro a w ⟨x1, hj, F, W⟩
 have H := K1 _ hj
 refine Jk tk 4 [0] F W (ai fun a w F W => ?_)
 obtain ⟨x6, h3, H⟩ := Ac H
 refine ls F W Aa (Bc (v := Value.bool x6) F aP Aa (fun w W => Gj any w (v1) p0.2.1 _ h3 (EJ (Ae h_v1) W))) fun a w F W => ?_
 refine BQ tk 4 F W fun a w F W => ?_
 refine Ap ?_
 have H := Ay H
 subst H
 refine A1 (.inl Aa) F W Aa (Am F Aa) ?_
 exact ⟨rfl, W.done⟩
theorem bW : Has Tryz.prog 48 := Cv Tryz.func48
def DZ (p0 : Int) : Bool := (decide (p0 < 0) || decide (8 ≤ p0))
theorem Mi (Y : Nat → Prop) (w0 : World)  (p0 : Int) (r : Bool) (H : DZ p0 = r)  :
    ca_ 50 #[Jint p0] w0 fun e w' => e = .returned (.bool r) ∧ Below w0.heap.size w0 w' := by
 refine enter Tryz.func50 Aa Tryz.ntmps50 Aa fun a F => ?_
 have W := Stw.start Y w0
 unfold DZ at H
 refine vc tk 5 F W fun a w F W => ?_
 refine As (fun a w => Fr 9 [] [(2, .bool (decide (p0 < 0) || decide (8 ≤ p0)))] a ∧ sy Y w0 [] [] w) ?_ ?_
 ·
  refine vc tk 4 F W fun a w F W => ?_
  rcases bxq (decide (p0 < 0)) with hb0 | hb0
  ·
   rw [hb0] at F
   refine vl tk 5 F W fun a w F W => ?_
   refine Ab ?_
   exact ⟨F.re ⟨(HA (by try rw [hb0]; all_goals simp only [Hw])), trivial⟩, W⟩
  rw [hb0] at F
  refine vl tk 5 F W fun a w F W => ?_
  refine Ab ?_
  exact ⟨F.re ⟨(HA (by try rw [hb0]; all_goals simp only [Hw])), trivial⟩, W⟩
 rintro a w ⟨F, W⟩
 refine Ap ?_
 subst H
 refine A1 (.inl Aa) F W Aa (Am F Aa) ?_
 exact ⟨rfl, W.done⟩
theorem bG : Has Tryz.prog 50 := Cv Tryz.func50
def Bq (p0 : List Int) : Int → Option (Int ⊕ (Unit ⊕ Int))
  | x1 => (if x1 < (p0.length : Int) then (ix p0 x1).bind fun x2 => (if (DZ x2) = true then some (.inr (.inr x1)) else some (.inl (An (x1 + 1)))) else some (.inr (.inl ())))
def C8 (p0 : List Int) : Option Int := GT (Aq (Bq p0) 0) fun _ => some (-1)
theorem IW (Y : Nat → Prop) (w0 : World) (v1 : Value) (p0 : List Int) (r : Int) (H : C8 p0 = some r) (h_v1 : Sl w0 (NX []) ri v1 p0) :
    ca_ 74 #[v1, .func (.func 50) #[] #[]] w0 fun e w' => e = .returned (Jint r) ∧ Below w0.heap.size w0 w' := by
 refine enter Tryz.func74 Aa Tryz.ntmps74 Aa fun a F => ?_
 have W := Stw.start Y w0
 unfold C8 at H
 refine vc tk 5 F W fun a w F W => ?_
 obtain ⟨o1, G1, K1, L1⟩ := Md H
 refine As (fun a w => some (Sum.inl ()) = some o1 ∧ Fr 19 [] [(4, Jint 0)] a ∧ sy Y w0 [] [] w) ?_ ?_
 ·
  have H := G1
  refine vc tk 3 F W fun a w F W => ?_
  refine ls F W Aa (BP (r := ri) (l := p0) Jc Aa F Aa (Ae h_v1)).q fun a w F W => ?_
  refine BQ tk 4 F W fun a w F W => ?_
  refine AN H (fun s a w => Fr 19 [] [(0, v1), (1, .func (.func 50) #[] #[]), (4, Jint 0), (7, Jint (p0.length : Int)), (8, Jint s)] a ∧ sy Y w0 [] [] w) ⟨F.ra Aa, W⟩ fun s o a w H L2 hR => ?_
  obtain ⟨x1, rfl⟩ : ∃ x, x = s := ⟨s, rfl⟩
  obtain ⟨F, W⟩ := hR
  have F : Fr 19 [] [(0, v1), (1, .func (.func 50) #[] #[]), (4, Jint 0), (7, Jint (p0.length : Int)), (8, Jint x1)] a := F
  have W : sy Y w0 [] [] w := W
  rw [Bq] at H
  refine vc tk 6 F W fun a w F W => ?_
  refine AW F Aa H (fun F H => ?_) fun F H => ?_
  ·
   refine FL tk 15 F W fun a w F W => ?_
   obtain ⟨x2, h1, H⟩ := Ac H
   refine ls F W Aa (Al (r := ri) EM F Aa Aa (Ae h_v1) h1).q fun a w F W => ?_
   refine ls F W Aa (Ag (y := Jint x2) (j := 0) (i := x1) F Aa Aa (Ae h_v1) h1 Fl.int.to T3 Aa).q fun a w F W => ?_
   refine ls F W Aa (E5 (ws := [Jint x2]) (v := Value.bool (DZ x2)) F bG Aa (fun w W => Mi any w x2 _ Aa)) fun a w F W => ?_
   refine BQ tk 2 F W fun a w F W => ?_
   refine CS F Aa H (fun F H => ?_) fun F H => ?_
   ·
    refine vc tk 6 F W fun a w F W => ?_
    refine Ap (AV ?_)
    iterate 2 refine AF ?_
    refine AV (AF ?_)
    have H := L2 _ H
    have H := L1 _ H
    have H := Ay H
    subst H
    refine A1 (.inl Aa) F W Aa (Am F Aa) ?_
    exact ⟨rfl, W.done⟩
   refine AE (Aw ?_)
   refine vn tk 4 F W fun a w F W => ?_
   refine Ab ?_
   exact ⟨_, H, F.ra Aa, W⟩
  refine AC ?_
  iterate 2 refine AR ?_
  refine AD (Ab ?_)
  have H := L2 _ H
  exact ⟨H, F.ra Aa, W⟩
 rintro a w ⟨hj, F, W⟩
 have H := K1 _ hj
 refine vc tk 5 F W fun a w F W => ?_
 refine Ap ?_
 have H := Ay H
 subst H
 refine A1 (.inl Aa) F W Aa (Am F Aa) ?_
 exact ⟨rfl, W.done⟩
theorem ZV : Has Tryz.prog 74 := Cv Tryz.func74
def Ci (p0 : List Int) : Option Bool := (C8 p0).bind fun x1 => some (decide (0 ≤ x1))
theorem Ic (Y : Nat → Prop) (w0 : World) (v1 : Value) (p0 : List Int) (r : Bool) (H : Ci p0 = some r) (h_v1 : Sl w0 (NX []) ri v1 p0) :
    ca_ 49 #[v1, .func (.func 50) #[] #[]] w0 fun e w' => e = .returned (.bool r) ∧ Below w0.heap.size w0 w' := by
 refine enter Tryz.func49 Aa Tryz.ntmps49 Aa fun a F => ?_
 have W := Stw.start Y w0
 unfold Ci at H
 refine vc tk 9 F W fun a w F W => ?_
 obtain ⟨x1, h1, H⟩ := Ac H
 refine ls F W Aa (Bc (v := Jint x1) F ZV Aa (fun w W => IW any w (v1) p0 _ h1 (EJ (Ae h_v1) W))) fun a w F W => ?_
 refine BQ tk 4 F W fun a w F W => ?_
 refine Ap ?_
 have H := Ay H
 subst H
 refine A1 (.inl Aa) F W Aa (Am F Aa) ?_
 exact ⟨rfl, W.done⟩
theorem bR : Has Tryz.prog 49 := Cv Tryz.func49
def EQ (p0 : Int × (List (Int × Int × Int × Int × Int × Int)) × (List (Int × Int))) (p1 : List (List Int)) : Int → Option (Int ⊕ (Unit ⊕ Bool))
  | x3 => (if x3 < (p1.length : Int) then (ix p1 x3).bind fun x4 => (if (x4.length : Int) ≠ (p0.2.2.length : Int) then some true else (Ci x4).bind fun x6 => some x6).bind fun x5 => (if x5 = true then some (.inr (.inr false)) else some (.inl (An (x3 + 1)))) else some (.inr (.inl ())))
def FO (p0 : Int × (List (Int × Int × Int × Int × Int × Int)) × (List (Int × Int))) (p1 : List (List Int)) : Option Bool := ((Hg p0).bind fun x2 => (if (!x2) = true then some true else some (decide ((p1.length : Int) ≠ p0.1)))).bind fun x1 => (if x1 = true then some false else GT (Aq (EQ p0 p1) 0) fun _ => some true)
theorem Lr (Y : Nat → Prop) (w0 : World) (v1 : Value) (v2 : Value) (v3 : Value) (p0 : Int × (List (Int × Int × Int × Int × Int × Int)) × (List (Int × Int))) (p1 : List (List Int)) (r : Bool) (H : FO p0 p1 = some r) (h_v1 : Sl w0 (NX []) IP v1 p0.2.1) (h_v2 : Sl w0 (NX []) IE v2 p0.2.2) (h_v3 : Sl w0 (NX []) (Rp.slice ri) v3 p1) :
    ca_ 29 #[.agg #[Jint p0.1, v1, v2], v3] w0 fun e w' => e = .returned (.bool r) ∧ Below w0.heap.size w0 w' := by
 refine enter Tryz.func29 Aa Tryz.ntmps29 Aa fun a F => ?_
 have W := Stw.start Y w0
 obtain ⟨v4, h1, h_v3⟩ := h_v3.ex CK
 unfold FO at H
 refine vc tk 2 F W fun a w F W => ?_
 refine D3 (cs := [Jint p0.1, v1, v2]) F W Aa Aa Aa fun b1 a w F W => ?_
 refine BQ tk 4 F W fun a w F W => ?_
 obtain ⟨o1, G1, K1⟩ := Ac H
 refine As (fun a w => ∃ x1 : Bool, some (x1) = some o1 ∧ Fr 34 [] [(1, v3), (2, pp b1), (4, .bool false), (16, .bool x1)] a ∧ sy Y w0 [(b1, [Jint p0.1, v1, v2])] [] w) ?_ ?_
 ·
  have H := G1
  refine Jk tk 2 [0] F W (ai fun a w F W => ?_)
  obtain ⟨x2, h2, H⟩ := Ac H
  refine ls F W Aa (Bc (v := Value.bool x2) F bW Aa (fun w W => Pz any w (v1) (v2) p0 _ h2 (EJ (Ae h_v1) W) (EJ (Ae h_v2) W))) fun a w F W => ?_
  refine vl tk 2 F W fun a w F W => ?_
  rcases bxq (!x2) with hb | hb
  ·
   have H := DU hb H
   rw [hb] at F
   refine vl tk 7 F W fun a w F W => ?_
   refine Ab ?_
   exact ⟨_, H, F.ra Aa, W⟩
  have H := DS (by rw [hb]; decide) H
  rw [hb] at F
  refine Gb F W (Ad F Aa Aa Aa Aa) Aa (Ao Aa) (Ai F Aa).q fun a w F W => ?_
  refine Gb F W (Ad F Aa Aa Aa Aa) Aa (Ao Aa) (BP (r := (Rp.slice ri)) (l := p1) Nn Aa F Aa (AL CK h1 (Ae h_v3))).q fun a w F W => ?_
  refine Kp tk 5 [0] F W (ai fun a w F W => ?_)
  refine Ab ?_
  exact ⟨_, H, F.ra Aa, W⟩
 rintro a w ⟨x1, hj, F, W⟩
 have hj := Ay hj
 subst hj
 have H := K1
 refine CS F Aa H (fun F H => ?_) fun F H => ?_
 ·
  refine vc tk 5 F W fun a w F W => ?_
  refine Ap (AF ?_)
  have H := Ay H
  subst H
  refine A1 (.inl Aa) F W Aa (Am F Aa) ?_
  exact ⟨rfl, W.done⟩
 refine AE (Ab ?_)
 obtain ⟨o2, G2, K2, L2⟩ := Md H
 refine As (fun a w => some (Sum.inl ()) = some o2 ∧ Fr 34 [] [(4, .bool false)] a ∧ sy Y w0 [(b1, [Jint p0.1, v1, v2])] [] w) ?_ ?_
 ·
  have H := G2
  refine vc tk 3 F W fun a w F W => ?_
  refine ls F W Aa (BP (r := (Rp.slice ri)) (l := p1) Nn Aa F Aa (AL CK h1 (Ae h_v3))).q fun a w F W => ?_
  refine BQ tk 4 F W fun a w F W => ?_
  refine AN H (fun s a w => Fr 34 [] [(2, pp b1), (4, .bool false), (17, v3), (18, Jint (p1.length : Int)), (19, Jint s)] a ∧ sy Y w0 [(b1, [Jint p0.1, v1, v2])] [] w) ⟨F.ra Aa, W⟩ fun s o a w H L3 hR => ?_
  obtain ⟨x3, rfl⟩ : ∃ x, x = s := ⟨s, rfl⟩
  obtain ⟨F, W⟩ := hR
  have F : Fr 34 [] [(2, pp b1), (4, .bool false), (17, v3), (18, Jint (p1.length : Int)), (19, Jint x3)] a := F
  have W : sy Y w0 [(b1, [Jint p0.1, v1, v2])] [] w := W
  rw [EQ] at H
  refine vc tk 6 F W fun a w F W => ?_
  refine AW F Aa H (fun F H => ?_) fun F H => ?_
  ·
   refine FL tk 6 F W fun a w F W => ?_
   obtain ⟨x4, h3, H⟩ := Ac H
   obtain ⟨v5, h4, h5⟩ := EP h1 h3
   have h6 : Hh v5 = [(v5.1)] := congrArg (fun q : List Int => ([(v5.1)] : List Value)) h5
   refine ls F W Aa (Al (r := (Rp.vsl ri)) PV F Aa Aa (Ae h_v3) h4).q fun a w F W => ?_
   refine ls F W Aa (Ag (y := (v5.1)) (j := 0) (i := x3) (enc := Hh) F Aa Aa (Ae h_v3) h4 LC NJ (by rw [h6]; rfl)).q fun a w F W => ?_
   refine vl tk 2 F W fun a w F W => ?_
   refine Ab ?_
   obtain ⟨o4, G4, K4⟩ := Ac H
   refine As (fun a w => ∃ x5 : Bool, some (x5) = some o4 ∧ Fr 34 [] [(2, pp b1), (4, .bool false), (17, v3), (18, Jint (p1.length : Int)), (19, Jint x3), (32, .bool x5)] a ∧ sy Y w0 [(b1, [Jint p0.1, v1, v2])] [] w) ?_ ?_
   ·
    have H := G4
    refine vc tk 2 F W fun a w F W => ?_
    refine ls F W Aa (BP (r := ri) (l := x4) Jc Aa F Aa (C9 (Ae h_v3) h4 DA.here (congrArg (fun q : List Int => q) h5))).q fun a w F W => ?_
    refine Kp tk 2 [0] F W (ai fun a w F W => ?_)
    refine ls F W Aa (BP (r := IE) (l := p0.2.2) OH Aa F Aa (Ae h_v2)).q fun a w F W => ?_
    refine vl tk 2 F W fun a w F W => ?_
    rcases bxq (decide ((x4.length : Int) ≠ (p0.2.2.length : Int))) with hb | hb
    ·
     have H := DU (Fa hb) H
     rw [hb] at F
     refine vl tk 4 F W fun a w F W => ?_
     refine Ab ?_
     exact ⟨_, H, F.ra Aa, W⟩
    have H := DS (E4 hb) H
    rw [hb] at F
    refine Gb F W (Ad F Aa Aa Aa Aa) Aa (Ao Aa) (Ai F Aa).q fun a w F W => ?_
    refine MI (Ad F Aa Aa Aa Aa) ?_
    obtain ⟨x6, h7, H⟩ := Ac H
    refine ls F W Aa (Bc (v := Value.bool x6) F bR Aa (fun w W => Ic any w ((v5.1)) x4 _ h7 (EJ (C9 (Ae h_v3) h4 DA.here (congrArg (fun q : List Int => q) h5)) W))) fun a w F W => ?_
    refine vl tk 2 F W fun a w F W => ?_
    refine Ab ?_
    exact ⟨_, H, F.ra Aa, W⟩
   rintro a w ⟨x5, hj, F, W⟩
   have hj := Ay hj
   subst hj
   have H := K4
   refine CS F Aa H (fun F H => ?_) fun F H => ?_
   ·
    refine vc tk 5 F W fun a w F W => ?_
    refine Ap (AV ?_)
    iterate 2 refine AF ?_
    refine AV (AF ?_)
    have H := L3 _ H
    have H := L2 _ H
    have H := Ay H
    subst H
    refine A1 (.inl Aa) F W Aa (Am F Aa) ?_
    exact ⟨rfl, W.done⟩
   refine AE (Aw ?_)
   refine vn tk 4 F W fun a w F W => ?_
   refine Ab ?_
   exact ⟨_, H, F.ra Aa, W⟩
  refine AC ?_
  iterate 2 refine AR ?_
  refine AD (Ab ?_)
  have H := L3 _ H
  exact ⟨H, F.ra Aa, W⟩
 rintro a w ⟨hj, F, W⟩
 have H := K2 _ hj
 refine vc tk 5 F W fun a w F W => ?_
 refine Ap ?_
 have H := Ay H
 subst H
 refine A1 (.inl Aa) F W Aa (Am F Aa) ?_
 exact ⟨rfl, W.done⟩
theorem Zr : Has Tryz.prog 29 := Cv Tryz.func29
theorem MO : Tryz.prog.follows .mixedOrders = true := by kernel_rfl
theorem Zg (dd : Nat) (x0 : Int) (x1 : Int) (y0 : Int) (y1 : Int) (w : World) : (Op.equalIn (dd + 2) 51 (.agg #[Jint x0, Jint x1]) (.agg #[Jint y0, Jint y1])).run Tryz.prog w = .ok (decide (x0 = y0 ∧ x1 = y1)) w :=
  ML (d := dd + 1) (rs := [decide (x0 = y0), decide (x1 = y1)]) Yg (by kernel_rfl) ⟨rfl, Kg (d := dd + 0) rfl rfl Q3 T3 rfl rfl, rfl, Kg (d := dd + 0) rfl rfl Q3 T3 rfl rfl, trivial⟩ (by simp) w
theorem ZO : Tryz.prog.eqGuardType Tryz.prog.depth 51 = false := by kernel_rfl
theorem ZU (x0 : Int) (x1 : Int) (y0 : Int) (y1 : Int) (w : World) : (Op.equalIn 10000 51 (.agg #[Jint x0, Jint x1]) (.agg #[Jint y0, Jint y1])).run Tryz.prog w = .ok (decide (x0 = y0 ∧ x1 = y1)) w := Zg 9998 x0 x1 y0 y1 w
abbrev VO (a0 : Nat) (a1 : Int × Int) : List (Nat × List Value) := [(a0, [Jint a1.1, Jint a1.2])]
def A5 (p0 : List (Int × Int)) (p1 : Int × Int) : Int → Option (Int ⊕ (Unit ⊕ Int))
  | x1 => (if x1 < (p0.length : Int) then (ix p0 x1).bind fun x2 => (if p1.1 = x2.1 ∧ p1.2 = x2.2 then some (.inr (.inr x1)) else some (.inl (An (x1 + 1)))) else some (.inr (.inl ())))
def Cl (p0 : List (Int × Int)) (p1 : Int × Int) : Option Int := GT (Aq (A5 p0 p1) 0) fun _ => some (-1)
theorem Hs (Y : Nat → Prop) (w0 : World) (v1 : Value) (p0 : List (Int × Int)) (p1 : Int × Int) (r : Int) (H : Cl p0 p1 = some r) (h_v1 : Sl w0 (NX []) IE v1 p0) :
    ca_ 75 #[v1, .agg #[Jint p1.1, Jint p1.2]] w0 fun e w' => e = .returned (Jint r) ∧ Below w0.heap.size w0 w' := by
 refine enter Tryz.func75 Aa Tryz.ntmps75 Aa fun a F => ?_
 have W := Stw.start Y w0
 unfold Cl at H
 refine vc tk 2 F W fun a w F W => ?_
 refine D3 (cs := [Jint p1.1, Jint p1.2]) F W Aa Aa Aa fun b1 a w F W => ?_
 refine vl tk 2 F W fun a w F W => ?_
 refine Ab ?_
 obtain ⟨o1, G1, K1, L1⟩ := Md H
 refine As (fun a w => some (Sum.inl ()) = some o1 ∧ Fr 19 [] [(4, Jint 0)] a ∧ sy Y w0 (VO b1 p1) [] w) ?_ ?_
 ·
  have H := G1
  refine vc tk 3 F W fun a w F W => ?_
  refine ls F W Aa (BP (r := IE) (l := p0) OH Aa F Aa (Ae h_v1)).q fun a w F W => ?_
  refine BQ tk 4 F W fun a w F W => ?_
  refine AN H (fun s a w => Fr 19 [] [(0, v1), (3, pp b1), (4, Jint 0), (7, Jint (p0.length : Int)), (8, Jint s)] a ∧ sy Y w0 (VO b1 p1) [] w) ⟨F.ra Aa, W⟩ fun s o a w H L2 hR => ?_
  obtain ⟨x1, rfl⟩ : ∃ x, x = s := ⟨s, rfl⟩
  obtain ⟨F, W⟩ := hR
  have F : Fr 19 [] [(0, v1), (3, pp b1), (4, Jint 0), (7, Jint (p0.length : Int)), (8, Jint x1)] a := F
  have W : sy Y w0 (VO b1 p1) [] w := W
  rw [A5] at H
  refine vc tk 6 F W fun a w F W => ?_
  refine AW F Aa H (fun F H => ?_) fun F H => ?_
  ·
   refine FL tk 11 F W fun a w F W => ?_
   refine Bz W MO (by kernel_rfl) ?_
   refine qs F Aa (Bx (v := Value.agg #[Jint p1.1, Jint p1.2]) 0 F Aa Aa Yt Aa).q fun a F => ?_
   iterate 2 refine qs F Aa (Ai F Aa).q fun a F => ?_
   obtain ⟨x2, h1, H⟩ := Ac H
   refine qs F Aa (Al (r := IE) YM F Aa Aa (Ae h_v1) h1).q fun a F => ?_
   refine qs F Aa (Ag (y := Value.agg #[Jint x2.1, Jint x2.2]) (j := 0) (i := x1) F Aa Aa (Ae h_v1) h1 Y3.to Yt Aa).q fun a F => ?_
   refine qs F Aa (QZ (t := decide (p1.1 = x2.1 ∧ p1.2 = x2.2)) ZO (ZU _ _ _ _) F Aa Aa).q fun a F => ?_
   refine AA fun w W => ?_
   refine Ab ?_
   refine AW F Aa H (fun F H => ?_) fun F H => ?_
   ·
    refine vc tk 6 F W fun a w F W => ?_
    refine Ap (AV ?_)
    iterate 2 refine AF ?_
    refine AV (AF ?_)
    have H := L2 _ H
    have H := L1 _ H
    have H := Ay H
    subst H
    refine A1 (.inl Aa) F W Aa (Am F Aa) ?_
    exact ⟨rfl, W.done⟩
   refine AE (Aw ?_)
   refine vn tk 4 F W fun a w F W => ?_
   refine Ab ?_
   exact ⟨_, H, F.ra Aa, W⟩
  refine AC ?_
  iterate 2 refine AR ?_
  refine AD (Ab ?_)
  have H := L2 _ H
  exact ⟨H, F.ra Aa, W⟩
 rintro a w ⟨hj, F, W⟩
 have H := K1 _ hj
 refine vc tk 5 F W fun a w F W => ?_
 refine Ap ?_
 have H := Ay H
 subst H
 refine A1 (.inl Aa) F W Aa (Am F Aa) ?_
 exact ⟨rfl, W.done⟩
theorem cA : Has Tryz.prog 75 := Cv Tryz.func75
def EE (p0 : Int × (List (Int × Int × Int × Int × Int × Int)) × (List (Int × Int))) (p1 : Int) (p2 : Int) : Option Int := (Cl p0.2.2 (p1, p2)).bind fun x1 => some x1
theorem Lu (Y : Nat → Prop) (w0 : World) (v1 : Value) (v2 : Value) (p0 : Int × (List (Int × Int × Int × Int × Int × Int)) × (List (Int × Int))) (p1 : Int) (p2 : Int) (r : Int) (H : EE p0 p1 p2 = some r) (h_v1 : Sl w0 (NX []) IP v1 p0.2.1) (h_v2 : Sl w0 (NX []) IE v2 p0.2.2) :
    ca_ 51 #[.agg #[Jint p0.1, v1, v2], Jint p1, Jint p2] w0 fun e w' => e = .returned (Jint r) ∧ Below w0.heap.size w0 w' := by
 refine enter Tryz.func51 Aa Tryz.ntmps51 Aa fun a F => ?_
 have W := Stw.start Y w0
 unfold EE at H
 refine vc tk 2 F W fun a w F W => ?_
 refine D3 (cs := [Jint p0.1, v1, v2]) F W Aa Aa Aa fun b1 a w F W => ?_
 refine Ii tk 9 [0] F W (ai fun a w F W => ?_)
 refine ls F W Aa (B9 (v := Value.agg #[Jint p1, Jint p2]) ZB F Aa Aa Aa).q fun a w F W => ?_
 obtain ⟨x1, h1, H⟩ := Ac H
 refine ls F W Aa (Bc (v := Jint x1) F cA Aa (fun w W => Hs any w (v2) p0.2.2 (p1, p2) _ h1 (EJ (Ae h_v2) W))) fun a w F W => ?_
 refine BQ tk 3 F W fun a w F W => ?_
 refine Ap ?_
 have H := Ay H
 subst H
 refine A1 (.inl Aa) F W Aa (Am F Aa) ?_
 exact ⟨rfl, W.done⟩
theorem ZE : Has Tryz.prog 51 := Cv Tryz.func51
def D9 (p0 : Int × (List (Int × Int × Int × Int × Int × Int)) × (List (Int × Int))) (p1 : Int) (p2 : Int) : Int → Option (Int ⊕ (Unit ⊕ (Int × Int × Int × Bool)))
  | x1 => (if x1 < (p0.2.1.length : Int) then (ix p0.2.1 x1).bind fun x2 => (if p1 = x2.1 ∧ p2 = x2.2.1 then some (.inr (.inr (x2.2.2.1, x2.2.2.2.1, x1, true))) else (if p1 = x2.2.2.1 ∧ p2 = x2.2.2.2.1 then some (.inr (.inr (x2.1, x2.2.1, x1, true))) else some (.inl (An (x1 + 1))))) else some (.inr (.inl ())))
def F5 (p0 : Int × (List (Int × Int × Int × Int × Int × Int)) × (List (Int × Int))) (p1 : Int) (p2 : Int) : Option (Int × Int × Int × Bool) := GT (Aq (D9 p0 p1 p2) 0) fun _ => some (0, 0, 0, false)
theorem Nk (Y : Nat → Prop) (w0 : World) (v1 : Value) (v2 : Value) (p0 : Int × (List (Int × Int × Int × Int × Int × Int)) × (List (Int × Int))) (p1 : Int) (p2 : Int) (r : Int × Int × Int × Bool) (H : F5 p0 p1 p2 = some r) (h_v1 : Sl w0 (NX []) IP v1 p0.2.1) (h_v2 : Sl w0 (NX []) IE v2 p0.2.2) :
    ca_ 58 #[.agg #[Jint p0.1, v1, v2], Jint p1, Jint p2] w0 fun e w' => e = .returned (.tuple #[Jint r.1, Jint r.2.1, Jint r.2.2.1, .bool r.2.2.2]) ∧ Below w0.heap.size w0 w' := by
 refine enter Tryz.func58 Aa Tryz.ntmps58 Aa fun a F => ?_
 have W := Stw.start Y w0
 unfold F5 at H
 refine vc tk 2 F W fun a w F W => ?_
 refine D3 (cs := [Jint p0.1, v1, v2]) F W Aa Aa Aa fun b1 a w F W => ?_
 refine BQ tk 10 F W fun a w F W => ?_
 refine ls F W Aa (B9 (v := Value.agg #[Jint p1, Jint p2]) ST F Aa Aa Aa).q fun a w F W => ?_
 refine B6 (cs := [Jint 0, Jint 0]) F W Aa VR Aa fun b2 a w F W => ?_
 refine Ej 0 F W Aa Aa Aa Wm Aa Aa Aa fun w W => ?_
 refine FC (Ab ?_)
 obtain ⟨o1, G1, K1, L1⟩ := Md H
 refine As (fun a w => some (Sum.inl ()) = some o1 ∧ Fr 49 [] [(6, Jint 0), (7, Jint 0), (8, Jint 0), (9, .bool false)] a ∧ sy Y w0 [(b2, [Jint p1, Jint p2]), (b1, [Jint p0.1, v1, v2])] [] w) ?_ ?_
 ·
  have H := G1
  refine Jk tk 4 [1] F W (ai fun a w F W => ?_)
  refine ls F W Aa (BP (r := IP) (l := p0.2.1) Rl Aa F Aa (Ae h_v1)).q fun a w F W => ?_
  refine BQ tk 4 F W fun a w F W => ?_
  have W := W.frontM (i := 1) Aa Aa
  have W := W.frontM (i := 1) Aa Aa
  refine AN H (fun s a w => Fr 49 [] [(6, Jint 0), (7, Jint 0), (8, Jint 0), (9, .bool false), (10, pp b2), (17, v1), (18, Jint (p0.2.1.length : Int)), (19, Jint s)] a ∧ sy Y w0 [(b2, [Jint p1, Jint p2]), (b1, [Jint p0.1, v1, v2])] [] w) ⟨F.ra Aa, W⟩ fun s o a w H L2 hR => ?_
  obtain ⟨x1, rfl⟩ : ∃ x, x = s := ⟨s, rfl⟩
  obtain ⟨F, W⟩ := hR
  have F : Fr 49 [] [(6, Jint 0), (7, Jint 0), (8, Jint 0), (9, .bool false), (10, pp b2), (17, v1), (18, Jint (p0.2.1.length : Int)), (19, Jint x1)] a := F
  have W : sy Y w0 [(b2, [Jint p1, Jint p2]), (b1, [Jint p0.1, v1, v2])] [] w := W
  rw [D9] at H
  refine vc tk 6 F W fun a w F W => ?_
  refine AW F Aa H (fun F H => ?_) fun F H => ?_
  ·
   refine FL tk 7 F W fun a w F W => ?_
   obtain ⟨x2, h1, H⟩ := Ac H
   refine ls F W Aa (Al (r := IP) Xv F Aa Aa (Ae h_v1) h1).q fun a w F W => ?_
   refine ls F W Aa (Ag (y := Value.agg #[Jint x2.1, Jint x2.2.1, Jint x2.2.2.1, Jint x2.2.2.2.1, Jint x2.2.2.2.2.1, Jint x2.2.2.2.2.2]) (j := 0) (i := x1) F Aa Aa (Ae h_v1) h1 Ye.to WL Aa).q fun a w F W => ?_
   refine B6 (cs := (WW)) F W Aa Yv Aa fun b3 a w F W => ?_
   refine ls F W Aa (Dr F Aa).q fun a w F W => ?_
   refine Ej 0 F W Aa Aa Aa WL Aa Aa Aa fun w W => ?_
   refine Ii tk 10 [1, 0, 0] F W (ai (ai (ai fun a w F W => ?_)))
   refine ls F W Aa (B9 (v := Value.agg #[Jint x2.1, Jint x2.2.1]) ST F Aa Aa Aa).q fun a w F W => ?_
   refine ls F W Aa (QZ (t := decide (p1 = x2.1 ∧ p2 = x2.2.1)) XH (WJ _ _ _ _) F Aa Aa).q fun a w F W => ?_
   refine BQ tk 2 F W fun a w F W => ?_
   refine AW F Aa H (fun F H => ?_) fun F H => ?_
   ·
    refine HH ?_
    refine Bz W MO (by kernel_rfl) ?_
    refine qs F Aa (Ax Uy Aa Aa Aa T3 F Aa 2 Aa).q fun a F => ?_
    refine qs F Aa (Bx (v := Jint x2.2.2.1) 0 F Aa Aa T3 Aa).q fun a F => ?_
    refine qs F Aa (Ax Uy Aa Aa Aa T3 F Aa 3 Aa).q fun a F => ?_
    refine qs F Aa (Bx (v := Jint x2.2.2.2.1) 0 F Aa Aa T3 Aa).q fun a F => ?_
    refine qs F Aa (Ai F Aa).q fun a F => ?_
    iterate 4 refine qs F Aa (Dr F Aa).q fun a F => ?_
    refine AA fun w W => ?_
    refine Ab (Ap (AF (AV ?_)))
    iterate 2 refine AF ?_
    refine AV (AF ?_)
    have H := L2 _ H
    have H := L1 _ H
    have H := Ay H
    subst H
    refine Ua (.inl Aa) F W Aa (Am F Aa) (Am F Aa) (Am F Aa) (Am F Aa) ?_
    exact ⟨rfl, W.done⟩
   refine Lj tk 9 [1, 0, 0] F W (ai (ai (ai fun a w F W => ?_)))
   refine ls F W Aa (B9 (v := Value.agg #[Jint x2.2.2.1, Jint x2.2.2.2.1]) ST F Aa Aa Aa).q fun a w F W => ?_
   refine ls F W Aa (QZ (t := decide (p1 = x2.2.2.1 ∧ p2 = x2.2.2.2.1)) XH (WJ _ _ _ _) F Aa Aa).q fun a w F W => ?_
   refine BQ tk 2 F W fun a w F W => ?_
   refine AW F Aa H (fun F H => ?_) fun F H => ?_
   ·
    refine HH ?_
    refine Bz W MO (by kernel_rfl) ?_
    refine qs F Aa (Ax Uy Aa Aa Aa T3 F Aa 0 Aa).q fun a F => ?_
    refine qs F Aa (Bx (v := Jint x2.1) 0 F Aa Aa T3 Aa).q fun a F => ?_
    refine qs F Aa (Ax Uy Aa Aa Aa T3 F Aa 1 Aa).q fun a F => ?_
    refine qs F Aa (Bx (v := Jint x2.2.1) 0 F Aa Aa T3 Aa).q fun a F => ?_
    refine qs F Aa (Ai F Aa).q fun a F => ?_
    iterate 4 refine qs F Aa (Dr F Aa).q fun a F => ?_
    refine AA fun w W => ?_
    refine Ab (Ap (AV ?_))
    iterate 2 refine AF ?_
    refine AV (AF ?_)
    have H := L2 _ H
    have H := L1 _ H
    have H := Ay H
    subst H
    refine Ua (.inl Aa) F W Aa (Am F Aa) (Am F Aa) (Am F Aa) (Am F Aa) ?_
    exact ⟨rfl, W.done⟩
   refine AE (Aw ?_)
   refine vn tk 4 F W fun a w F W => ?_
   refine Ab ?_
   have W := W.frontM (i := 2) Aa Aa
   have W := W.frontM (i := 2) Aa Aa
   have W := W.sub (M' := [(b2, [Jint p1, Jint p2]), (b1, [Jint p0.1, v1, v2])]) (Z' := []) (sc (sc nl)) sr
   exact ⟨_, H, F.ra Aa, W⟩
  refine AC ?_
  iterate 2 refine AR ?_
  refine AD (Ab ?_)
  have W := W.frontM (i := 1) Aa Aa
  have W := W.frontM (i := 1) Aa Aa
  have H := L2 _ H
  exact ⟨H, F.ra Aa, W⟩
 rintro a w ⟨hj, F, W⟩
 have H := K1 _ hj
 refine vc tk 8 F W fun a w F W => ?_
 refine Ap ?_
 have H := Ay H
 subst H
 refine Ua (.inl Aa) F W Aa (Am F Aa) (Am F Aa) (Am F Aa) (Am F Aa) ?_
 exact ⟨rfl, W.done⟩
theorem ZJ : Has Tryz.prog 58 := Cv Tryz.func58
def Hb (p0 : Int × (List (Int × Int × Int × Int × Int × Int)) × (List (Int × Int))) (p1 : List (List Int)) (p2 : Int) (p3 : Int) : Option (Int × Bool) := (if p2 < 0 then some true else (if (p1.length : Int) ≤ p2 then some true else (if p3 < 0 then some true else (ix p1 p2).bind fun x2 => some (decide ((x2.length : Int) ≤ p3))))).bind fun x1 => (if x1 = true then some (0, false) else (ix p1 p2).bind fun x3 => (ix x3 p3).bind fun x4 => (F5 p0 p2 x4).bind fun x5 => some (x5.1, x5.2.2.2))
theorem PS (Y : Nat → Prop) (w0 : World) (v1 : Value) (v2 : Value) (v3 : Value) (p0 : Int × (List (Int × Int × Int × Int × Int × Int)) × (List (Int × Int))) (p1 : List (List Int)) (p2 : Int) (p3 : Int) (r : Int × Bool) (H : Hb p0 p1 p2 p3 = some r) (h_v1 : Sl w0 (NX []) IP v1 p0.2.1) (h_v2 : Sl w0 (NX []) IE v2 p0.2.2) (h_v3 : Sl w0 (NX []) (Rp.slice ri) v3 p1) :
    ca_ 52 #[.agg #[Jint p0.1, v1, v2], v3, Jint p2, Jint p3] w0 fun e w' => e = .returned (.tuple #[Jint r.1, .bool r.2]) ∧ Below w0.heap.size w0 w' := by
 refine enter Tryz.func52 Aa Tryz.ntmps52 Aa fun a F => ?_
 have W := Stw.start Y w0
 obtain ⟨v4, h1, h_v3⟩ := h_v3.ex CK
 unfold Hb at H
 refine vc tk 2 F W fun a w F W => ?_
 refine D3 (cs := [Jint p0.1, v1, v2]) F W Aa Aa Aa fun b1 a w F W => ?_
 refine BQ tk 5 F W fun a w F W => ?_
 obtain ⟨o1, G1, K1⟩ := Ac H
 refine As (fun a w => ∃ x1 : Bool, some (x1) = some o1 ∧ Fr 52 [] [(1, v3), (2, Jint p2), (3, Jint p3), (4, pp b1), (8, Jint 0), (9, .bool false), (34, .bool x1)] a ∧ sy Y w0 [(b1, [Jint p0.1, v1, v2])] [] w) ?_ ?_
 ·
  have H := G1
  refine vc tk 4 F W fun a w F W => ?_
  rcases bxq (decide (p2 < 0)) with hb | hb
  ·
   have H := DU (Fa hb) H
   rw [hb] at F
   refine vl tk 19 F W fun a w F W => ?_
   refine Ab ?_
   exact ⟨_, H, F.ra Aa, W⟩
  have H := DS (E4 hb) H
  rw [hb] at F
  refine vl tk 2 F W fun a w F W => ?_
  refine Gb F W (Ad F Aa Aa Aa Aa) Aa (Ao Aa) (BP (r := (Rp.slice ri)) (l := p1) Nn Aa F Aa (AL CK h1 (Ae h_v3))).q fun a w F W => ?_
  refine vl tk 3 F W fun a w F W => ?_
  rcases bxq (decide ((p1.length : Int) ≤ p2)) with hb | hb
  ·
   have H := DU (Fa hb) H
   rw [hb] at F
   refine vl tk 13 F W fun a w F W => ?_
   refine Ab ?_
   exact ⟨_, H, F.ra Aa, W⟩
  have H := DS (E4 hb) H
  rw [hb] at F
  refine vl tk 4 F W fun a w F W => ?_
  rcases bxq (decide (p3 < 0)) with hb | hb
  ·
   have H := DU (Fa hb) H
   rw [hb] at F
   refine vl tk 9 F W fun a w F W => ?_
   refine Ab ?_
   exact ⟨_, H, F.ra Aa, W⟩
  have H := DS (E4 hb) H
  rw [hb] at F
  refine vl tk 3 F W fun a w F W => ?_
  obtain ⟨x2, h2, H⟩ := Ac H
  obtain ⟨v5, h3, h4⟩ := EP h1 h2
  have h5 : Hh v5 = [(v5.1)] := congrArg (fun q : List Int => ([(v5.1)] : List Value)) h4
  refine Gb F W (Ad F Aa Aa Aa Aa) Aa (Ao Aa) (Al (r := (Rp.vsl ri)) PV F Aa Aa (Ae h_v3) h3).q fun a w F W => ?_
  refine Gb F W (Ad F Aa Aa Aa Aa) Aa (Ao Aa) (Ag (y := (v5.1)) (j := 0) (i := p2) (enc := Hh) F Aa Aa (Ae h_v3) h3 LC NJ (by rw [h5]; rfl)).q fun a w F W => ?_
  refine Gb F W (Ad F Aa Aa Aa Aa) Aa (Ao Aa) (BP (r := ri) (l := x2) Jc Aa F Aa (C9 (Ae h_v3) h3 DA.here (congrArg (fun q : List Int => q) h4))).q fun a w F W => ?_
  refine vl tk 3 F W fun a w F W => ?_
  refine Ab ?_
  exact ⟨_, H, F.ra Aa, W⟩
 rintro a w ⟨x1, hj, F, W⟩
 have hj := Ay hj
 subst hj
 have H := K1
 refine CS F Aa H (fun F H => ?_) fun F H => ?_
 ·
  refine vc tk 6 F W fun a w F W => ?_
  refine Ap (AF ?_)
  have H := Ay H
  subst H
  refine FD (.inl Aa) F W Aa (Am F Aa) (Am F Aa) ?_
  exact ⟨rfl, W.done⟩
 refine FL tk 3 F W fun a w F W => ?_
 refine Bz W MO (by kernel_rfl) ?_
 refine qs F Aa (Bx (v := Value.agg #[Jint p0.1, v1, v2]) 0 F Aa Aa Yl Aa).q fun a F => ?_
 iterate 3 refine qs F Aa (Ai F Aa).q fun a F => ?_
 obtain ⟨x3, h6, H⟩ := Ac H
 obtain ⟨v6, h7, h8⟩ := EP h1 h6
 have h9 : Hh v6 = [(v6.1)] := congrArg (fun q : List Int => ([(v6.1)] : List Value)) h8
 refine qs F Aa (Al (r := (Rp.vsl ri)) PV F Aa Aa (Ae h_v3) h7).q fun a F => ?_
 refine qs F Aa (Ag (y := (v6.1)) (j := 0) (i := p2) (enc := Hh) F Aa Aa (Ae h_v3) h7 LC NJ (by rw [h9]; rfl)).q fun a F => ?_
 refine qs F Aa (Ai F Aa).q fun a F => ?_
 obtain ⟨x4, h10, H⟩ := Ac H
 refine qs F Aa (Al (r := ri) EM F Aa Aa (C9 (Ae h_v3) h7 DA.here (congrArg (fun q : List Int => q) h8)) h10).q fun a F => ?_
 refine qs F Aa (Ag (y := Jint x4) (j := 0) (i := p3) F Aa Aa (C9 (Ae h_v3) h7 DA.here (congrArg (fun q : List Int => q) h8)) h10 Fl.int.to T3 Aa).q fun a F => ?_
 obtain ⟨x5, h11, H⟩ := Ac H
 refine qs F Aa (Bc (v := Value.tuple #[Jint x5.1, Jint x5.2.1, Jint x5.2.2.1, .bool x5.2.2.2]) F ZJ Aa (fun w W => Nk any w (v1) (v2) p0 p2 x4 _ h11 (EJ (Ae h_v1) W) (EJ (Ae h_v2) W))) fun a F => ?_
 refine qs F Aa (Ai F Aa).q fun a F => ?_
 refine qs F Aa (Bi (v := Jint x5.1) F Aa Aa).q fun a F => ?_
 refine qs F Aa (Bi (v := Jint x5.2.1) F Aa Aa).q fun a F => ?_
 refine qs F Aa (Bi (v := Jint x5.2.2.1) F Aa Aa).q fun a F => ?_
 refine qs F Aa (Bi (v := Value.bool x5.2.2.2) F Aa Aa).q fun a F => ?_
 iterate 4 refine qs F Aa (Dr F Aa).q fun a F => ?_
 refine AA fun w W => ?_
 refine vn tk 8 F W fun a w F W => ?_
 refine Ap ?_
 have H := Ay H
 subst H
 refine FD (.inl Aa) F W Aa (Am F Aa) (Am F Aa) ?_
 exact ⟨rfl, W.done⟩
theorem bY : Has Tryz.prog 52 := Cv Tryz.func52
def Df (p0 : List Int) (p1 : Int) : Int → Option (Int ⊕ (Unit ⊕ Bool))
  | x1 => (if x1 < (p0.length : Int) then (ix p0 x1).bind fun x2 => (if p1 = x2 then some (.inr (.inr true)) else some (.inl (An (x1 + 1)))) else some (.inr (.inl ())))
def DI (p0 : List Int) (p1 : Int) : Option Bool := GT (Aq (Df p0 p1) 0) fun _ => some false
theorem KE (Y : Nat → Prop) (w0 : World) (v1 : Value) (p0 : List Int) (p1 : Int) (r : Bool) (H : DI p0 p1 = some r) (h_v1 : Sl w0 (NX []) ri v1 p0) :
    ca_ 53 #[v1, Jint p1] w0 fun e w' => e = .returned (.bool r) ∧ Below w0.heap.size w0 w' := by
 refine enter Tryz.func53 Aa Tryz.ntmps53 Aa fun a F => ?_
 have W := Stw.start Y w0
 unfold DI at H
 refine vc tk 5 F W fun a w F W => ?_
 obtain ⟨o1, G1, K1, L1⟩ := Md H
 refine As (fun a w => some (Sum.inl ()) = some o1 ∧ Fr 17 [] [(4, .bool false)] a ∧ sy Y w0 [] [] w) ?_ ?_
 ·
  have H := G1
  refine vc tk 3 F W fun a w F W => ?_
  refine ls F W Aa (BP (r := ri) (l := p0) Jc Aa F Aa (Ae h_v1)).q fun a w F W => ?_
  refine BQ tk 4 F W fun a w F W => ?_
  refine AN H (fun s a w => Fr 17 [] [(1, Jint p1), (4, .bool false), (7, v1), (8, Jint (p0.length : Int)), (9, Jint s)] a ∧ sy Y w0 [] [] w) ⟨F.ra Aa, W⟩ fun s o a w H L2 hR => ?_
  obtain ⟨x1, rfl⟩ : ∃ x, x = s := ⟨s, rfl⟩
  obtain ⟨F, W⟩ := hR
  have F : Fr 17 [] [(1, Jint p1), (4, .bool false), (7, v1), (8, Jint (p0.length : Int)), (9, Jint x1)] a := F
  have W : sy Y w0 [] [] w := W
  rw [Df] at H
  refine vc tk 6 F W fun a w F W => ?_
  refine AW F Aa H (fun F H => ?_) fun F H => ?_
  ·
   refine FL tk 6 F W fun a w F W => ?_
   obtain ⟨x2, h1, H⟩ := Ac H
   refine ls F W Aa (Al (r := ri) EM F Aa Aa (Ae h_v1) h1).q fun a w F W => ?_
   refine ls F W Aa (Ag (y := Jint x2) (j := 0) (i := x1) F Aa Aa (Ae h_v1) h1 Fl.int.to T3 Aa).q fun a w F W => ?_
   refine BQ tk 10 F W fun a w F W => ?_
   refine AW F Aa H (fun F H => ?_) fun F H => ?_
   ·
    refine vc tk 5 F W fun a w F W => ?_
    refine Ap (AV ?_)
    iterate 2 refine AF ?_
    refine AV (AF ?_)
    have H := L2 _ H
    have H := L1 _ H
    have H := Ay H
    subst H
    refine A1 (.inl Aa) F W Aa (Am F Aa) ?_
    exact ⟨rfl, W.done⟩
   refine AE (Aw ?_)
   refine vn tk 4 F W fun a w F W => ?_
   refine Ab ?_
   exact ⟨_, H, F.ra Aa, W⟩
  refine AC ?_
  iterate 2 refine AR ?_
  refine AD (Ab ?_)
  have H := L2 _ H
  exact ⟨H, F.ra Aa, W⟩
 rintro a w ⟨hj, F, W⟩
 have H := K1 _ hj
 refine vc tk 5 F W fun a w F W => ?_
 refine Ap ?_
 have H := Ay H
 subst H
 refine A1 (.inl Aa) F W Aa (Am F Aa) ?_
 exact ⟨rfl, W.done⟩
theorem Z8 : Has Tryz.prog 53 := Cv Tryz.func53
def Ec (p0 : Int × (List (Int × Int × Int × Int × Int × Int)) × (List (Int × Int))) (p1 : List (List Int)) (p3 : Int) : (Int × List Int) → Option ((Int × List Int) ⊕ ((List Int) ⊕ (List Int × Int)))
  | (x2, x3) => (ix p1 x2).bind fun x4 => (ix x4 p3).bind fun x5 => (EE p0 x2 x5).bind fun x6 => (if x6 ≠ p3 then (Hb p0 p1 x2 p3).bind fun x7 => (if (!x7.2) = true then some (.inr (.inr (([] : List Int), 13))) else (DI x3 x7.1).bind fun x8 => (if x8 = true then some (.inr (.inr (([] : List Int), 12))) else (HN x3 ([x7.1] : List Int)).bind fun x9 => some (.inl (x7.1, x9)))) else some (.inr (.inl x3)))
def Gm (p0 : Int × (List (Int × Int × Int × Int × Int × Int)) × (List (Int × Int))) (p1 : List (List Int)) (p2 : Int) (p3 : Int) : Option (List Int × Int) := GT (Aq (Ec p0 p1 p3) (p2, ([p2] : List Int))) fun x1 => some (x1, 0)
theorem Mf (Y : Nat → Prop) (w0 : World) (v1 : Value) (v2 : Value) (v3 : Value) (p0 : Int × (List (Int × Int × Int × Int × Int × Int)) × (List (Int × Int))) (p1 : List (List Int)) (p2 : Int) (p3 : Int) (r : List Int × Int) (H : Gm p0 p1 p2 p3 = some r) (h_v1 : Sl w0 (NX []) IP v1 p0.2.1) (h_v2 : Sl w0 (NX []) IE v2 p0.2.2) (h_v3 : Sl w0 (NX []) (Rp.slice ri) v3 p1) :
    ca_ 30 #[.agg #[Jint p0.1, v1, v2], v3, Jint p2, Jint p3] w0 fun e w' => ∃ x : Value, e = .returned (.tuple #[x, Jint r.2]) ∧ sy Y w0 [] [row (x) 3 ri r.1] w' := by
 refine enter Tryz.func30 Aa Tryz.ntmps30 Aa fun a F => ?_
 have W := Stw.start Y w0
 obtain ⟨v4, h1, h_v3⟩ := h_v3.ex CK
 unfold Gm at H
 refine vc tk 2 F W fun a w F W => ?_
 refine D3 (cs := [Jint p0.1, v1, v2]) F W Aa Aa Aa fun b1 a w F W => ?_
 refine BQ tk 7 F W fun a w F W => ?_
 refine D7 (z := Jint 0) (cs := [Jint p2]) ri ([p2] : List Int) F W Aa EM Z3 Aa Aa Aa Aa Aa Aa (Fl.int.repL _ _ ([p2] : List Int)) fun v5 a w F W => ?_
 refine vl tk 2 F W fun a w F W => ?_
 refine Ab ?_
 obtain ⟨o1, G1, K1, L1⟩ := Md H
 refine As (fun a w => ∃ x1 : List Int, ∃ v6 : Value, some (Sum.inl x1) = some o1 ∧ Fr 46 [] [(8, .slice none 0 0), (9, Jint 0), (10, v6)] a ∧ sy Y w0 [(b1, [Jint p0.1, v1, v2])] [row v6 3 ri x1] w) ?_ ?_
 ·
  have H := G1
  refine Ew ?_
  refine AN H (fun s a w => ∃ v7 : Value, Fr 46 [] [(1, v3), (2, Jint s.1), (3, Jint p3), (4, pp b1), (8, .slice none 0 0), (9, Jint 0), (10, v7)] a ∧ sy Y w0 [(b1, [Jint p0.1, v1, v2])] [row v7 3 ri s.2] w) ⟨(v5), F.ra Aa, W⟩ fun s o a w H L2 hR => ?_
  obtain ⟨x2, x3⟩ := s
  obtain ⟨v7, F, W⟩ := hR
  have F : Fr 46 [] [(1, v3), (2, Jint x2), (3, Jint p3), (4, pp b1), (8, .slice none 0 0), (9, Jint 0), (10, v7)] a := F
  have W : sy Y w0 [(b1, [Jint p0.1, v1, v2])] [row v7 3 ri x3] w := W
  rw [Ec] at H
  refine vc tk 2 F W fun a w F W => ?_
  refine Bz W MO (by kernel_rfl) ?_
  refine qs F Aa (Bx (v := Value.agg #[Jint p0.1, v1, v2]) 0 F Aa Aa Yl Aa).q fun a F => ?_
  iterate 3 refine qs F Aa (Ai F Aa).q fun a F => ?_
  obtain ⟨x4, h2, H⟩ := Ac H
  obtain ⟨v8, h3, h4⟩ := EP h1 h2
  have h5 : Hh v8 = [(v8.1)] := congrArg (fun q : List Int => ([(v8.1)] : List Value)) h4
  refine qs F Aa (Al (r := (Rp.vsl ri)) PV F Aa Aa (Ae h_v3) h3).q fun a F => ?_
  refine qs F Aa (Ag (y := (v8.1)) (j := 0) (i := x2) (enc := Hh) F Aa Aa (Ae h_v3) h3 LC NJ (by rw [h5]; rfl)).q fun a F => ?_
  refine qs F Aa (Ai F Aa).q fun a F => ?_
  obtain ⟨x5, h6, H⟩ := Ac H
  refine qs F Aa (Al (r := ri) EM F Aa Aa (C9 (Ae h_v3) h3 DA.here (congrArg (fun q : List Int => q) h4)) h6).q fun a F => ?_
  refine qs F Aa (Ag (y := Jint x5) (j := 0) (i := p3) F Aa Aa (C9 (Ae h_v3) h3 DA.here (congrArg (fun q : List Int => q) h4)) h6 Fl.int.to T3 Aa).q fun a F => ?_
  obtain ⟨x6, h7, H⟩ := Ac H
  refine qs F Aa (Bc (v := Jint x6) F ZE Aa (fun w W => Lu any w (v1) (v2) p0 x2 x5 _ h7 (EJ (Ae h_v1) W) (EJ (Ae h_v2) W))) fun a F => ?_
  refine qs F Aa (Ai F Aa).q fun a F => ?_
  refine qs F Aa (Sc F Aa Aa).q fun a F => ?_
  refine AA fun w W => ?_
  refine Ab ?_
  refine AW F Aa H (fun F H => ?_) fun F H => ?_
  ·
   refine Lj tk 9 [0] F W (ai fun a w F W => ?_)
   obtain ⟨x7, h8, H⟩ := Ac H
   refine ls F W Aa (Bc (v := Value.tuple #[Jint x7.1, .bool x7.2]) F bY Aa (fun w W => PS any w (v1) (v2) (v3) p0 p1 x2 p3 _ h8 (EJ (Ae h_v1) W) (EJ (Ae h_v2) W) (EJ (AL CK h1 (Ae h_v3)) W))) fun a w F W => ?_
   refine ls F W Aa (Ai F Aa).q fun a w F W => ?_
   refine ls F W Aa (Bi (v := Jint x7.1) F Aa Aa).q fun a w F W => ?_
   refine ls F W Aa (Bi (v := Value.bool x7.2) F Aa Aa).q fun a w F W => ?_
   refine BQ tk 11 F W fun a w F W => ?_
   refine CS F Aa H (fun F H => ?_) fun F H => ?_
   ·
    refine vc tk 6 F W fun a w F W => ?_
    refine Ap (AF (AV (AF (AV (AF ?_)))))
    have H := L2 _ H
    have H := L1 _ H
    have H := Ay H
    subst H
    refine FD (.inl Aa) F W Aa (Am F Aa) (Am F Aa) ?_
    have W := W.nilRow 3 ri
    have W := W.sub (M' := []) (Z' := [row (Value.slice none 0 0) 3 ri ([])]) nl (sc nl)
    exact ⟨(Value.slice none 0 0), Aa, W⟩
   refine FL tk 7 F W fun a w F W => ?_
   obtain ⟨x8, h9, H⟩ := Ac H
   refine ls F W Aa (Bc (v := Value.bool x8) F Z8 Aa (fun w W => KE any w (v7) x3 x7.1 _ h9 (EJ (Af 0 Aa) W))) fun a w F W => ?_
   refine BQ tk 2 F W fun a w F W => ?_
   refine CS F Aa H (fun F H => ?_) fun F H => ?_
   ·
    refine vc tk 6 F W fun a w F W => ?_
    refine Ap (AF (AV (AF (AV (AF ?_)))))
    have H := L2 _ H
    have H := L1 _ H
    have H := Ay H
    subst H
    refine FD (.inl Aa) F W Aa (Am F Aa) (Am F Aa) ?_
    have W := W.nilRow 3 ri
    have W := W.sub (M' := []) (Z' := [row (Value.slice none 0 0) 3 ri ([])]) nl (sc nl)
    exact ⟨(Value.slice none 0 0), Aa, W⟩
   refine FL tk 6 F W fun a w F W => ?_
   refine D7 (z := Jint 0) (cs := [Jint x7.1]) ri ([x7.1] : List Int) F W Aa EM Z3 Aa Aa Aa Aa Aa Aa (Fl.int.repL _ _ ([x7.1] : List Int)) fun v9 a w F W => ?_
   obtain ⟨x9, h10, H⟩ := Ac H
   refine Di (r := ri) (i := 1) F W Aa EM Aa Aa Aa Aa (D1 W 0 Aa) h10 Aa fun v10 a w F W => ?_
   have W : sy Y w0 [(b1, [Jint p0.1, v1, v2])] [row v10 3 ri x9, row v9 3 ri ([x7.1] : List Int)] w := W
   refine BQ tk 7 F W fun a w F W => ?_
   refine Aw (Ab ?_)
   have W := W.sub (M' := [(b1, [Jint p0.1, v1, v2])]) (Z' := [row v10 3 ri x9]) sr (sc nl)
   exact ⟨_, H, (v10), F.ra Aa, W⟩
  refine AC ?_
  iterate 2 refine AR ?_
  refine AD (Ab ?_)
  have H := L2 _ H
  exact ⟨_, (v7), H, F.ra Aa, W⟩
 rintro a w ⟨x1, v6, hj, F, W⟩
 have H := K1 _ hj
 refine vc tk 7 F W fun a w F W => ?_
 refine Ap ?_
 have H := Ay H
 subst H
 refine FD (.inl Aa) F W Aa (Am F Aa) (Am F Aa) ?_
 have W := W.sub (M' := []) (Z' := [row v6 3 ri x1]) nl sr
 exact ⟨(v6), Aa, W⟩
theorem Zp : Has Tryz.prog 30 := Cv Tryz.func30
def EF (p0 : Int × (List (Int × Int × Int × Int × Int × Int)) × (List (Int × Int))) (p1 : List (List Int)) (x2 : Int) (x3 : List Int) : Int → Option (Int ⊕ (Unit ⊕ (Int ⊕ (Unit ⊕ Bool))))
  | x4 => (if x4 < (x3.length : Int) then (Gm p0 p1 x2 x4).bind fun x5 => (if x5.2 ≠ 0 then some (.inr (.inr (.inr (.inr false)))) else some (.inl (An (x4 + 1)))) else some (.inr (.inl ())))
def Fg (p0 : Int × (List (Int × Int × Int × Int × Int × Int)) × (List (Int × Int))) (p1 : List (List Int)) : Int → Option (Int ⊕ (Unit ⊕ Bool))
  | x2 => (if x2 < (p1.length : Int) then GT ((ix p1 x2).bind fun x3 => Aq (EF p0 p1 x2 x3) 0) fun _ => some (.inl (An (x2 + 1))) else some (.inr (.inl ())))
def Fi (p0 : Int × (List (Int × Int × Int × Int × Int × Int)) × (List (Int × Int))) (p1 : List (List Int)) : Option Bool := (FO p0 p1).bind fun x1 => (if (!x1) = true then some false else GT (Aq (Fg p0 p1) 0) fun _ => some true)
theorem ID (Y : Nat → Prop) (w0 : World) (v1 : Value) (v2 : Value) (v3 : Value) (p0 : Int × (List (Int × Int × Int × Int × Int × Int)) × (List (Int × Int))) (p1 : List (List Int)) (r : Bool) (H : Fi p0 p1 = some r) (h_v1 : Sl w0 (NX []) IP v1 p0.2.1) (h_v2 : Sl w0 (NX []) IE v2 p0.2.2) (h_v3 : Sl w0 (NX []) (Rp.slice ri) v3 p1) :
    ca_ 14 #[.agg #[Jint p0.1, v1, v2], v3] w0 fun e w' => e = .returned (.bool r) ∧ Below w0.heap.size w0 w' := by
 refine enter Tryz.func14 Aa Tryz.ntmps14 Aa fun a F => ?_
 have W := Stw.start Y w0
 obtain ⟨v4, h1, h_v3⟩ := h_v3.ex CK
 unfold Fi at H
 refine vc tk 2 F W fun a w F W => ?_
 refine D3 (cs := [Jint p0.1, v1, v2]) F W Aa Aa Aa fun b1 a w F W => ?_
 refine Ii tk 8 [0] F W (ai fun a w F W => ?_)
 obtain ⟨x1, h2, H⟩ := Ac H
 refine ls F W Aa (Bc (v := Value.bool x1) F Zr Aa (fun w W => Lr any w (v1) (v2) (v3) p0 p1 _ h2 (EJ (Ae h_v1) W) (EJ (Ae h_v2) W) (EJ (AL CK h1 (Ae h_v3)) W))) fun a w F W => ?_
 refine BQ tk 3 F W fun a w F W => ?_
 refine CS F Aa H (fun F H => ?_) fun F H => ?_
 ·
  refine vc tk 5 F W fun a w F W => ?_
  refine Ap (AF ?_)
  have H := Ay H
  subst H
  refine A1 (.inl Aa) F W Aa (Am F Aa) ?_
  exact ⟨rfl, W.done⟩
 refine AE (Ab ?_)
 obtain ⟨o1, G1, K1, L1⟩ := Md H
 refine As (fun a w => some (Sum.inl ()) = some o1 ∧ Fr 38 [] [(4, .bool false)] a ∧ sy Y w0 [(b1, [Jint p0.1, v1, v2])] [] w) ?_ ?_
 ·
  have H := G1
  refine vc tk 3 F W fun a w F W => ?_
  refine ls F W Aa (BP (r := (Rp.slice ri)) (l := p1) Nn Aa F Aa (AL CK h1 (Ae h_v3))).q fun a w F W => ?_
  refine BQ tk 4 F W fun a w F W => ?_
  refine AN H (fun s a w => Fr 38 [] [(1, v3), (2, pp b1), (4, .bool false), (14, v3), (15, Jint (p1.length : Int)), (16, Jint s)] a ∧ sy Y w0 [(b1, [Jint p0.1, v1, v2])] [] w) ⟨F.ra Aa, W⟩ fun s o a w H L2 hR => ?_
  obtain ⟨x2, rfl⟩ : ∃ x, x = s := ⟨s, rfl⟩
  obtain ⟨F, W⟩ := hR
  have F : Fr 38 [] [(1, v3), (2, pp b1), (4, .bool false), (14, v3), (15, Jint (p1.length : Int)), (16, Jint x2)] a := F
  have W : sy Y w0 [(b1, [Jint p0.1, v1, v2])] [] w := W
  rw [Fg] at H
  refine vc tk 6 F W fun a w F W => ?_
  refine AW F Aa H (fun F H => ?_) fun F H => ?_
  ·
   refine AE (Ab ?_)
   obtain ⟨o3, G3, K3, L3⟩ := Md H
   refine As (fun a w => some (Sum.inl ()) = some o3 ∧ Fr 38 [] [(1, v3), (2, pp b1), (4, .bool false), (14, v3), (15, Jint (p1.length : Int)), (16, Jint x2)] a ∧ sy Y w0 [(b1, [Jint p0.1, v1, v2])] [] w) ?_ ?_
   ·
    have H := G3
    refine vc tk 4 F W fun a w F W => ?_
    obtain ⟨x3, h3, H⟩ := Ac H
    obtain ⟨v5, h4, h5⟩ := EP h1 h3
    have h6 : Hh v5 = [(v5.1)] := congrArg (fun q : List Int => ([(v5.1)] : List Value)) h5
    refine ls F W Aa (Al (r := (Rp.vsl ri)) PV F Aa Aa (Ae h_v3) h4).q fun a w F W => ?_
    refine ls F W Aa (Ag (y := (v5.1)) (j := 0) (i := x2) (enc := Hh) F Aa Aa (Ae h_v3) h4 LC NJ (by rw [h6]; rfl)).q fun a w F W => ?_
    refine BQ tk 7 F W fun a w F W => ?_
    refine ls F W Aa (BP (r := ri) (l := x3) Jc Aa F Aa (C9 (Ae h_v3) h4 DA.here (congrArg (fun q : List Int => q) h5))).q fun a w F W => ?_
    refine BQ tk 4 F W fun a w F W => ?_
    refine AN H (fun s a w => Fr 38 [] [(1, v3), (2, pp b1), (4, .bool false), (5, Jint x2), (14, v3), (15, Jint (p1.length : Int)), (16, Jint x2), (22, Jint (x3.length : Int)), (23, Jint s)] a ∧ sy Y w0 [(b1, [Jint p0.1, v1, v2])] [] w) ⟨F.ra Aa, W⟩ fun s o a w H L4 hR => ?_
    obtain ⟨x4, rfl⟩ : ∃ x, x = s := ⟨s, rfl⟩
    obtain ⟨F, W⟩ := hR
    have F : Fr 38 [] [(1, v3), (2, pp b1), (4, .bool false), (5, Jint x2), (14, v3), (15, Jint (p1.length : Int)), (16, Jint x2), (22, Jint (x3.length : Int)), (23, Jint x4)] a := F
    have W : sy Y w0 [(b1, [Jint p0.1, v1, v2])] [] w := W
    rw [EF] at H
    refine vc tk 6 F W fun a w F W => ?_
    refine AW F Aa H (fun F H => ?_) fun F H => ?_
    ·
     refine Lj tk 16 [0] F W (ai fun a w F W => ?_)
     obtain ⟨x5, h7, H⟩ := Ac H
     refine A9 (Ml := []) (Zl := []) (β := Value) (rv := fun x => .tuple #[x, Jint x5.2]) (MM := fun x => []) (ZZ := fun x => [row x 3 ri x5.1]) F W Zp Aa Aa (fun hL => Mf _ w (v1) (v2) (v3) p0 p1 x2 x4 _ h7 ((Ae h_v1) w W).nx ((Ae h_v2) w W).nx ((AL CK h1 (Ae h_v3)) w W).nx) fun x a w F W => ?_
     obtain ⟨v6, rfl⟩ : ∃ y, y = x := ⟨x, rfl⟩
     have W : sy Y w0 [(b1, [Jint p0.1, v1, v2])] [row v6 3 ri x5.1] w := W
     refine ls F W Aa (Ai F Aa).q fun a w F W => ?_
     refine ls F W Aa (Bi (v := v6) F Aa Aa).q fun a w F W => ?_
     refine ls F W Aa (Bi (v := Jint x5.2) F Aa Aa).q fun a w F W => ?_
     refine BQ tk 10 F W fun a w F W => ?_
     refine AW F Aa H (fun F H => ?_) fun F H => ?_
     ·
      refine vc tk 5 F W fun a w F W => ?_
      refine Ap (AV ?_)
      iterate 2 refine AF ?_
      iterate 2 refine AV ?_
      iterate 2 refine AF ?_
      refine AV (AF ?_)
      have H := L4 _ H
      have H := L3 _ H
      have H := L2 _ H
      have H := L1 _ H
      have H := Ay H
      subst H
      refine A1 (.inl Aa) F W Aa (Am F Aa) ?_
      exact ⟨rfl, W.done⟩
     refine AE (Aw ?_)
     refine vn tk 4 F W fun a w F W => ?_
     refine Ab ?_
     have W := W.sub (M' := [(b1, [Jint p0.1, v1, v2])]) (Z' := []) sr nl
     exact ⟨_, H, F.ra Aa, W⟩
    refine AC ?_
    iterate 2 refine AR ?_
    refine AD (Aw (Ab ?_))
    have H := L4 _ H
    exact ⟨H, F.ra Aa, W⟩
   rintro a w ⟨hj, F, W⟩
   have H := K3 _ hj
   refine vc tk 4 F W fun a w F W => ?_
   refine Ab ?_
   exact ⟨_, H, F.ra Aa, W⟩
  refine AC ?_
  iterate 2 refine AR ?_
  refine AD (Ab ?_)
  have H := L2 _ H
  exact ⟨H, F.ra Aa, W⟩
 rintro a w ⟨hj, F, W⟩
 have H := K1 _ hj
 refine vc tk 5 F W fun a w F W => ?_
 refine Ap ?_
 have H := Ay H
 subst H
 refine A1 (.inl Aa) F W Aa (Am F Aa) ?_
 exact ⟨rfl, W.done⟩
theorem PR : type_of% Tryz.underlying30 := Tryz.underlying30
theorem S1 : type_of% Tryz.underlying31 := Tryz.underlying31
theorem ON : type_of% Tryz.underlying37 := Tryz.underlying37
theorem XC : type_of% Tryz.underlying41 := Tryz.underlying41
theorem T6 : type_of% Tryz.underlying59 := Tryz.underlying59
theorem Yu : Has Tryz.prog 14 := Cv Tryz.func14
theorem Vt : Bt Tryz.prog 41 [Jint 0, Jint 0, Jint 0] [(0, 1), (1, 1), (2, 1)] := ⟨⟨.agg #[Jint 0, Jint 0, Jint 0], by kernel_rfl, rfl⟩, ⟨_, XC, fun w => by kernel_rfl⟩⟩
theorem WY : (Tryz.prog.info? 41).bind (·.zero) = some (.agg #[Jint 0, Jint 0, Jint 0]) := by kernel_rfl
abbrev CI : Rp (Int × Int × Int) := (Rp.pair ri (Rp.pair ri ri))
def bU (a : Int × Int × Int) : List Value := [Jint a.1, Jint a.2.1, Jint a.2.2]
theorem UH : Fl CI bU := (Fl.pair Fl.int (Fl.pair Fl.int Fl.int))
theorem PW : Et Tryz.prog 37 41 3 24 := Et.of ON (by kernel_rfl) (by kernel_rfl) (by kernel_rfl) (by decide)
theorem Q2 : Ty Tryz.prog 33 true 6 := ⟨by kernel_rfl, by kernel_rfl⟩
theorem bV : Bt Tryz.prog 59 [Jint 0, .slice none 0 0, .slice none 0 0, .slice none 0 0, .slice none 0 0, .slice none 0 0, .slice none 0 0, Jint 0, Jint 0, Jint 0, Jint 0] [(0, 3), (3, 1), (4, 1), (5, 6)] := ⟨⟨.agg #[Jint 0, .slice none 0 0, .slice none 0 0, .slice none 0 0, .slice none 0 0, .slice none 0 0, .slice none 0 0, Jint 0, Jint 0, Jint 0, Jint 0], by kernel_rfl, rfl⟩, ⟨_, T6, fun w => by kernel_rfl⟩⟩
theorem b7 : (Tryz.prog.info? 59).bind (·.zero) = some (.agg #[Jint 0, .slice none 0 0, .slice none 0 0, .slice none 0 0, .slice none 0 0, .slice none 0 0, .slice none 0 0, Jint 0, Jint 0, Jint 0, Jint 0]) := by kernel_rfl
theorem Wt : Ty Tryz.prog 59 true 11 := ⟨by kernel_rfl, by kernel_rfl⟩
theorem Yh : Ty Tryz.prog 27 false 1 := ⟨by kernel_rfl, by kernel_rfl⟩
theorem Xw : Ty Tryz.prog 30 false 1 := ⟨by kernel_rfl, by kernel_rfl⟩
theorem Eu : Et Tryz.prog 30 43 4 32 := Et.of PR (by kernel_rfl) (by kernel_rfl) (by kernel_rfl) (by decide)
def cG (a : Int × Int × Int × Int) : List Value := [Jint a.1, Jint a.2.1, Jint a.2.2.1, Jint a.2.2.2]
theorem EK : Fl AY cG := (Fl.pair Fl.int (Fl.pair Fl.int (Fl.pair Fl.int Fl.int)))
theorem Ey : Ty Tryz.prog 43 true 4 := ⟨by kernel_rfl, by kernel_rfl⟩
theorem Xf : (Tryz.prog.info? 43).bind (·.zero) = some (.agg #[Jint 0, Jint 0, Jint 0, Jint 0]) := by kernel_rfl
theorem SF : Ty Tryz.prog 31 false 1 := ⟨by kernel_rfl, by kernel_rfl⟩
abbrev LF (a : Int × Int × (Value × List Int)) : List Value := [Jint a.1, Jint a.2.1, a.2.2.1]
theorem Q9 : Ke OZ LF := (Ke.pair Fl.int.to (Ke.pair Fl.int.to Ke.vsl))
theorem UG : Et Tryz.prog 31 46 3 40 := Et.of S1 (by kernel_rfl) (by kernel_rfl) (by kernel_rfl) (by decide)
theorem Y5 : Ty Tryz.prog 46 true 3 := ⟨by kernel_rfl, by kernel_rfl⟩
def CR (p0 : List Int) (p1 : Int) : Int → Option (Int ⊕ (Unit ⊕ Int))
  | x1 => (if x1 < (p0.length : Int) then (ix p0 x1).bind fun x2 => (if p1 = x2 then some (.inr (.inr x1)) else some (.inl (An (x1 + 1)))) else some (.inr (.inl ())))
def DL (p0 : List Int) (p1 : Int) : Option Int := GT (Aq (CR p0 p1) 0) fun _ => some (-1)
theorem Kf (Y : Nat → Prop) (w0 : World) (v1 : Value) (p0 : List Int) (p1 : Int) (r : Int) (H : DL p0 p1 = some r) (h_v1 : Sl w0 (NX []) ri v1 p0) :
    ca_ 77 #[v1, Jint p1] w0 fun e w' => e = .returned (Jint r) ∧ Below w0.heap.size w0 w' := by
 refine enter Tryz.func77 Aa Tryz.ntmps77 Aa fun a F => ?_
 have W := Stw.start Y w0
 unfold DL at H
 refine vc tk 5 F W fun a w F W => ?_
 obtain ⟨o1, G1, K1, L1⟩ := Md H
 refine As (fun a w => some (Sum.inl ()) = some o1 ∧ Fr 19 [] [(4, Jint 0)] a ∧ sy Y w0 [] [] w) ?_ ?_
 ·
  have H := G1
  refine vc tk 3 F W fun a w F W => ?_
  refine ls F W Aa (BP (r := ri) (l := p0) Jc Aa F Aa (Ae h_v1)).q fun a w F W => ?_
  refine BQ tk 4 F W fun a w F W => ?_
  refine AN H (fun s a w => Fr 19 [] [(0, v1), (1, Jint p1), (4, Jint 0), (7, Jint (p0.length : Int)), (8, Jint s)] a ∧ sy Y w0 [] [] w) ⟨F.ra Aa, W⟩ fun s o a w H L2 hR => ?_
  obtain ⟨x1, rfl⟩ : ∃ x, x = s := ⟨s, rfl⟩
  obtain ⟨F, W⟩ := hR
  have F : Fr 19 [] [(0, v1), (1, Jint p1), (4, Jint 0), (7, Jint (p0.length : Int)), (8, Jint x1)] a := F
  have W : sy Y w0 [] [] w := W
  rw [CR] at H
  refine vc tk 6 F W fun a w F W => ?_
  refine AW F Aa H (fun F H => ?_) fun F H => ?_
  ·
   refine FL tk 15 F W fun a w F W => ?_
   obtain ⟨x2, h1, H⟩ := Ac H
   refine ls F W Aa (Al (r := ri) EM F Aa Aa (Ae h_v1) h1).q fun a w F W => ?_
   refine ls F W Aa (Ag (y := Jint x2) (j := 0) (i := x1) F Aa Aa (Ae h_v1) h1 Fl.int.to T3 Aa).q fun a w F W => ?_
   refine BQ tk 3 F W fun a w F W => ?_
   refine AW F Aa H (fun F H => ?_) fun F H => ?_
   ·
    refine vc tk 6 F W fun a w F W => ?_
    refine Ap (AV ?_)
    iterate 2 refine AF ?_
    refine AV (AF ?_)
    have H := L2 _ H
    have H := L1 _ H
    have H := Ay H
    subst H
    refine A1 (.inl Aa) F W Aa (Am F Aa) ?_
    exact ⟨rfl, W.done⟩
   refine AE (Aw ?_)
   refine vn tk 4 F W fun a w F W => ?_
   refine Ab ?_
   exact ⟨_, H, F.ra Aa, W⟩
  refine AC ?_
  iterate 2 refine AR ?_
  refine AD (Ab ?_)
  have H := L2 _ H
  exact ⟨H, F.ra Aa, W⟩
 rintro a w ⟨hj, F, W⟩
 have H := K1 _ hj
 refine vc tk 5 F W fun a w F W => ?_
 refine Ap ?_
 have H := Ay H
 subst H
 refine A1 (.inl Aa) F W Aa (Am F Aa) ?_
 exact ⟨rfl, W.done⟩
theorem aT : Has Tryz.prog 77 := Cv Tryz.func77
def CP (p0 : List Int) (p1 : Int) : Option Bool := (DL p0 p1).bind fun x1 => some (decide (0 ≤ x1))
theorem Jp (Y : Nat → Prop) (w0 : World) (v1 : Value) (p0 : List Int) (p1 : Int) (r : Bool) (H : CP p0 p1 = some r) (h_v1 : Sl w0 (NX []) ri v1 p0) :
    ca_ 57 #[v1, Jint p1] w0 fun e w' => e = .returned (.bool r) ∧ Below w0.heap.size w0 w' := by
 refine enter Tryz.func57 Aa Tryz.ntmps57 Aa fun a F => ?_
 have W := Stw.start Y w0
 unfold CP at H
 refine vc tk 9 F W fun a w F W => ?_
 obtain ⟨x1, h1, H⟩ := Ac H
 refine ls F W Aa (Bc (v := Jint x1) F aT Aa (fun w W => Kf any w (v1) p0 p1 _ h1 (EJ (Ae h_v1) W))) fun a w F W => ?_
 refine BQ tk 4 F W fun a w F W => ?_
 refine Ap ?_
 have H := Ay H
 subst H
 refine A1 (.inl Aa) F W Aa (Am F Aa) ?_
 exact ⟨rfl, W.done⟩
theorem I8 : type_of% Tryz.underlying43 := Tryz.underlying43
theorem SU : type_of% Tryz.underlying46 := Tryz.underlying46
theorem aX : Has Tryz.prog 57 := Cv Tryz.func57
abbrev Cj (a0 : Int × Int × Int × Int) : List Value := [Jint a0.1, Jint a0.2.1, Jint a0.2.2.1, Jint a0.2.2.2]
def DR (p0 : Int × Int × List Int) (p1 : Int × Int × Int × Int) : Option Bool := (if p1.2.2.2 = p0.1 then (CP p0.2.2 p1.1).bind fun x2 => some x2 else some false).bind fun x1 => some x1
theorem JZ (Y : Nat → Prop) (w0 : World) (v1 : Value) (p0 : Int × Int × List Int) (p1 : Int × Int × Int × Int) (r : Bool) (H : DR p0 p1 = some r) (h_v1 : Sl w0 (NX []) ri v1 p0.2.2) :
    ca_ 38 #[.agg #[Jint p0.1, Jint p0.2.1, v1], .agg #[Jint p1.1, Jint p1.2.1, Jint p1.2.2.1, Jint p1.2.2.2]] w0 fun e w' => e = .returned (.bool r) ∧ Below w0.heap.size w0 w' := by
 refine enter Tryz.func38 Aa Tryz.ntmps38 Aa fun a F => ?_
 have W := Stw.start Y w0
 unfold DR at H
 refine vc tk 2 F W fun a w F W => ?_
 refine D3 (cs := [Jint p0.1, Jint p0.2.1, v1]) F W Aa Aa Aa fun b1 a w F W => ?_
 refine D3 (cs := (Cj p1)) F W Aa Aa Aa fun b2 a w F W => ?_
 refine vl tk 2 F W fun a w F W => ?_
 refine Ab ?_
 obtain ⟨o1, G1, K1⟩ := Ac H
 refine As (fun a w => ∃ x1 : Bool, some (x1) = some o1 ∧ Fr 17 [] [(4, .bool x1)] a ∧ sy Y w0 [(b2, [Jint p1.1, Jint p1.2.1, Jint p1.2.2.1, Jint p1.2.2.2]), (b1, [Jint p0.1, Jint p0.2.1, v1])] [] w) ?_ ?_
 ·
  have H := G1
  refine Jk tk 7 [0, 1] F W (ai (ai fun a w F W => ?_))
  rcases bxq (decide (p1.2.2.2 = p0.1)) with hb | hb
  ·
   have H := DU (Fa hb) H
   rw [hb] at F
   refine Kp tk 4 [1, 0] F W (ai (ai fun a w F W => ?_))
   refine MI (Ad F Aa Aa Aa Aa) ?_
   obtain ⟨x2, h1, H⟩ := Ac H
   refine ls F W Aa (Bc (v := Value.bool x2) F aX Aa (fun w W => Jp any w (v1) p0.2.2 p1.1 _ h1 (EJ (Ae h_v1) W))) fun a w F W => ?_
   refine vl tk 3 F W fun a w F W => ?_
   refine Ab ?_
   have W := W.frontM (i := 1) Aa Aa
   have W := W.frontM (i := 1) Aa Aa
   exact ⟨_, H, F.ra Aa, W⟩
  have H := DS (E4 hb) H
  rw [hb] at F
  refine vl tk 8 F W fun a w F W => ?_
  refine Ab ?_
  have W := W.frontM (i := 1) Aa Aa
  have W := W.frontM (i := 1) Aa Aa
  exact ⟨_, H, F.ra Aa, W⟩
 rintro a w ⟨x1, hj, F, W⟩
 have hj := Ay hj
 subst hj
 have H := K1
 refine Ap ?_
 have H := Ay H
 subst H
 refine A1 (.inl Aa) F W Aa (Am F Aa) ?_
 exact ⟨rfl, W.done⟩
theorem Zk : Has Tryz.prog 38 := Cv Tryz.func38
def CZ (p0 : Int × Int × List Int) (p1 : Int × Int × Int × Int) : Option Bool := (DR p0 p1).bind fun x1 => some x1
theorem IR (Y : Nat → Prop) (w0 : World) (v1 : Value) (q_p1 : Nat) (p0 : Int × Int × List Int) (p1 : Int × Int × Int × Int) (r : Bool) (H : CZ p0 p1 = some r) (h_v1 : Sl w0 (NX []) ri v1 p0.2.2) (a_q_p1 : At ⟨Y, [], w0⟩ q_p1 0 [Jint p1.1, Jint p1.2.1, Jint p1.2.2.1, Jint p1.2.2.2]) :
    ca_ 55 #[.agg #[Jint p0.1, Jint p0.2.1, v1], pp q_p1] w0 fun e w' => e = .returned (.bool r) ∧ Below w0.heap.size w0 w' := by
 refine enter Tryz.func55 Aa Tryz.ntmps55 Aa fun a F => ?_
 have W := Stw.start Y w0
 unfold CZ at H
 refine vc tk 2 F W fun a w F W => ?_
 refine D3 (cs := [Jint p0.1, Jint p0.2.1, v1]) F W Aa Aa Aa fun b1 a w F W => ?_
 refine Ii tk 6 [0] F W (ai fun a w F W => ?_)
 refine ls F W Aa (SS (y := Value.agg #[Jint p1.1, Jint p1.2.1, Jint p1.2.2.1, Jint p1.2.2.2]) (j := 0) F Aa (Nat.zero_add _).symm a_q_p1 Ey Aa).q fun a w F W => ?_
 obtain ⟨x1, h1, H⟩ := Ac H
 refine ls F W Aa (Bc (v := Value.bool x1) F Zk Aa (fun w W => JZ any w (v1) p0 p1 _ h1 (EJ (Ae h_v1) W))) fun a w F W => ?_
 refine BQ tk 3 F W fun a w F W => ?_
 refine Ap ?_
 have H := Ay H
 subst H
 refine A1 (.inl Aa) F W Aa (Am F Aa) ?_
 exact ⟨rfl, W.done⟩
theorem ZX : Has Tryz.prog 55 := Cv Tryz.func55
def Be (p0 : List (Int × Int × List Int)) (p1c0 : Int × Int × Int × Int) : Int → Option (Int ⊕ (Unit ⊕ Int))
  | x1 => (if x1 < (p0.length : Int) then (ix p0 x1).bind fun x2 => (CZ x2 p1c0).bind fun x3 => (if x3 = true then some (.inr (.inr x1)) else some (.inl (An (x1 + 1)))) else some (.inr (.inl ())))
def BC (p0 : List (Int × Int × List Int)) (p1c0 : Int × Int × Int × Int) : Option Int := GT (Aq (Be p0 p1c0) 0) fun _ => some (-1)
theorem Ge (Y : Nat → Prop) (w0 : World) (v1 : Value) (q_p1c0 : Nat) (p0 : List (Int × Int × List Int)) (p1c0 : Int × Int × Int × Int) (r : Int) (H : BC p0 p1c0 = some r) (h_v1 : Sl w0 (NX []) GO v1 p0) (a_q_p1c0 : At ⟨Y, [], w0⟩ q_p1c0 0 [Jint p1c0.1, Jint p1c0.2.1, Jint p1c0.2.2.1, Jint p1c0.2.2.2]) :
    ca_ 76 #[v1, .func (.func 55) #[] #[pp q_p1c0]] w0 fun e w' => e = .returned (Jint r) ∧ Below w0.heap.size w0 w' := by
 refine enter Tryz.func76 Aa Tryz.ntmps76 Aa fun a F => ?_
 have W := Stw.start Y w0
 obtain ⟨v2, h1, h_v1⟩ := h_v1.ex Gh
 unfold BC at H
 refine vc tk 5 F W fun a w F W => ?_
 obtain ⟨o1, G1, K1, L1⟩ := Md H
 refine As (fun a w => some (Sum.inl ()) = some o1 ∧ Fr 19 [] [(4, Jint 0)] a ∧ sy Y w0 [] [] w) ?_ ?_
 ·
  have H := G1
  refine vc tk 3 F W fun a w F W => ?_
  refine ls F W Aa (BP (r := GO) (l := p0) S1 Aa F Aa (AL Gh h1 (Ae h_v1))).q fun a w F W => ?_
  refine BQ tk 4 F W fun a w F W => ?_
  refine AN H (fun s a w => Fr 19 [] [(0, v1), (1, .func (.func 55) #[] #[pp q_p1c0]), (4, Jint 0), (7, Jint (p0.length : Int)), (8, Jint s)] a ∧ sy Y w0 [] [] w) ⟨F.ra Aa, W⟩ fun s o a w H L2 hR => ?_
  obtain ⟨x1, rfl⟩ : ∃ x, x = s := ⟨s, rfl⟩
  obtain ⟨F, W⟩ := hR
  have F : Fr 19 [] [(0, v1), (1, .func (.func 55) #[] #[pp q_p1c0]), (4, Jint 0), (7, Jint (p0.length : Int)), (8, Jint x1)] a := F
  have W : sy Y w0 [] [] w := W
  rw [Be] at H
  refine vc tk 6 F W fun a w F W => ?_
  refine AW F Aa H (fun F H => ?_) fun F H => ?_
  ·
   refine FL tk 15 F W fun a w F W => ?_
   obtain ⟨x2, h2, H⟩ := Ac H
   obtain ⟨v3, h3, h4⟩ := EP h1 h2
   have h5 : LF v3 = [Jint x2.1, Jint x2.2.1, (v3.2.2.1)] := congrArg (fun q : Int × Int × List Int => ([Jint q.1, Jint q.2.1, (v3.2.2.1)] : List Value)) h4
   refine ls F W Aa (Al (r := OZ) UG F Aa Aa (Ae h_v1) h3).q fun a w F W => ?_
   refine ls F W Aa (Ag (y := Value.agg #[Jint x2.1, Jint x2.2.1, (v3.2.2.1)]) (j := 0) (i := x1) (enc := LF) F Aa Aa (Ae h_v1) h3 Q9 Y5 (by rw [h5]; rfl)).q fun a w F W => ?_
   obtain ⟨x3, h6, H⟩ := Ac H
   refine ls F W Aa (E5 (ws := [.agg #[Jint x2.1, Jint x2.2.1, (v3.2.2.1)], pp q_p1c0]) (v := Value.bool x3) F ZX Aa (fun w W => IR any w ((v3.2.2.1)) q_p1c0 x2 p1c0 _ h6 (EJ (C9 (Ae h_v1) h3 (DA.snd (DA.snd DA.here)) (congrArg (fun q : Int × Int × List Int => q.2.2) h4)) W) (At.re a_q_p1c0 W))) fun a w F W => ?_
   refine BQ tk 2 F W fun a w F W => ?_
   refine CS F Aa H (fun F H => ?_) fun F H => ?_
   ·
    refine vc tk 6 F W fun a w F W => ?_
    refine Ap (AV ?_)
    iterate 2 refine AF ?_
    refine AV (AF ?_)
    have H := L2 _ H
    have H := L1 _ H
    have H := Ay H
    subst H
    refine A1 (.inl Aa) F W Aa (Am F Aa) ?_
    exact ⟨rfl, W.done⟩
   refine AE (Aw ?_)
   refine vn tk 4 F W fun a w F W => ?_
   refine Ab ?_
   exact ⟨_, H, F.ra Aa, W⟩
  refine AC ?_
  iterate 2 refine AR ?_
  refine AD (Ab ?_)
  have H := L2 _ H
  exact ⟨H, F.ra Aa, W⟩
 rintro a w ⟨hj, F, W⟩
 have H := K1 _ hj
 refine vc tk 5 F W fun a w F W => ?_
 refine Ap ?_
 have H := Ay H
 subst H
 refine A1 (.inl Aa) F W Aa (Am F Aa) ?_
 exact ⟨rfl, W.done⟩
theorem cF : Has Tryz.prog 76 := Cv Tryz.func76
def Bu (p0 : List (Int × Int × List Int)) (p1c0 : Int × Int × Int × Int) : Option Bool := (BC p0 p1c0).bind fun x1 => some (decide (0 ≤ x1))
theorem FN (Y : Nat → Prop) (w0 : World) (v1 : Value) (q_p1c0 : Nat) (p0 : List (Int × Int × List Int)) (p1c0 : Int × Int × Int × Int) (r : Bool) (H : Bu p0 p1c0 = some r) (h_v1 : Sl w0 (NX []) GO v1 p0) (a_q_p1c0 : At ⟨Y, [], w0⟩ q_p1c0 0 [Jint p1c0.1, Jint p1c0.2.1, Jint p1c0.2.2.1, Jint p1c0.2.2.2]) :
    ca_ 54 #[v1, .func (.func 55) #[] #[pp q_p1c0]] w0 fun e w' => e = .returned (.bool r) ∧ Below w0.heap.size w0 w' := by
 refine enter Tryz.func54 Aa Tryz.ntmps54 Aa fun a F => ?_
 have W := Stw.start Y w0
 obtain ⟨v2, h1, h_v1⟩ := h_v1.ex Gh
 unfold Bu at H
 refine vc tk 9 F W fun a w F W => ?_
 obtain ⟨x1, h2, H⟩ := Ac H
 refine ls F W Aa (Bc (v := Jint x1) F cF Aa (fun w W => Ge any w (v1) q_p1c0 p0 p1c0 _ h2 (EJ (AL Gh h1 (Ae h_v1)) W) (At.re a_q_p1c0 W))) fun a w F W => ?_
 refine BQ tk 4 F W fun a w F W => ?_
 refine Ap ?_
 have H := Ay H
 subst H
 refine A1 (.inl Aa) F W Aa (Am F Aa) ?_
 exact ⟨rfl, W.done⟩
end
end Go.Proofs.YthhoflfhegfmcaaGreat
