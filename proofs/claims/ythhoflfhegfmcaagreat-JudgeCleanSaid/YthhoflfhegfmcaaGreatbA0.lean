/- The functions of layer 25, JD. Conditions: none. -/
import Derived.Test.YthhoflfhegfmcaaGreatRows
import Derived.Test.YthhoflfhegfmcaaGreatbOT
import Derived.Test.YthhoflfhegfmcaaGreatbQT
import Derived.Test.YthhoflfhegfmcaaGreatbOD
import Derived.Test.YthhoflfhegfmcaaGreatbDS
import Derived.Test.YthhoflfhegfmcaaGreatbXN
import Derived.Test.YthhoflfhegfmcaaGreatbOY
import Derived.Test.YthhoflfhegfmcaaGreatbOC
import Derived.Test.YthhoflfhegfmcaaGreatbVC
import Derived.Test.YthhoflfhegfmcaaGreatbOM
import Derived.Test.YthhoflfhegfmcaaGreatbDR
import Derived.Test.YthhoflfhegfmcaaGreatbOX
namespace Go.Proofs.YthhoflfhegfmcaaGreat
open Go Go.RowKit
set_option linter.unusedVariables false
set_option linter.unusedSimpArgs false
set_option maxRecDepth 20000
set_option maxHeartbeats 1600000
def ZJ : Tt := ([(25, [(0, false, 1), (1, false, 1), (2, false, 1)]), (33, [(0, false, 1), (1, false, 1), (2, false, 1), (3, false, 1), (4, false, 1), (5, false, 1)]), (43, [(0, false, 1), (1, false, 1), (2, false, 1), (3, false, 1)]), (46, [(0, false, 1), (1, false, 1), (2, false, 1)]), (49, [(0, false, 1), (1, false, 1), (2, false, 1), (3, false, 1), (4, false, 1), (5, false, 1)]), (51, [(0, false, 1), (1, false, 1)]), (59, [(0, true, 3), (3, false, 1), (4, false, 1), (5, true, 6)]), (70, [(0, false, 1), (1, false, 1), (2, false, 1)]), (93, [(0, false, 1), (1, false, 1), (2, false, 1)]), (108, [(0, false, 1), (1, false, 1)]), (126, [(0, false, 1), (1, false, 1)])], [(3, false, 1), (22, false, 1), (23, false, 1), (25, true, 3), (27, false, 1), (30, false, 1), (31, false, 1), (33, true, 6), (43, true, 4), (44, false, 1), (46, true, 3), (59, true, 11), (93, true, 3), (126, true, 2), (137, true, 16), (139, true, 16), (142, false, 1)])
theorem tk : TtOk Tryz.prog ZJ := ⟨by kernel_rfl, by kernel_rfl⟩
theorem Rk : type_of% Tryz.underlying22 := Tryz.underlying22
theorem OE : type_of% Tryz.underlying23 := Tryz.underlying23
theorem Xh : type_of% Tryz.underlying25 := Tryz.underlying25
theorem Nn : type_of% Tryz.underlying27 := Tryz.underlying27
theorem IV : type_of% Tryz.underlying44 := Tryz.underlying44
abbrev IG : Rp (Int × Int × Int × Int × Int × Int) := (Rp.pair (Rp.int .i64) (Rp.pair (Rp.int .i64) (Rp.pair (Rp.int .i64) (Rp.pair (Rp.int .i64) (Rp.pair (Rp.int .i64) (Rp.int .i64))))))
abbrev IB : Rp (Int × Int) := (Rp.pair (Rp.int .i64) (Rp.int .i64))
abbrev XP (p : Value × List Int) : List Int := p.2
theorem CM : Ex (Rp.slice (Rp.int .i64)) (Rp.vsl (Rp.int .i64)) XP := Ex.sliceF
theorem Ye : Ty Tryz.prog 25 true 3 := ⟨by kernel_rfl, by kernel_rfl⟩
abbrev Hd (a : Value × List Int) : List Value := [a.1]
theorem LI : Kj (Rp.vsl (Rp.int .i64)) Hd := Kj.vsl
theorem Ps : Et Tryz.prog 27 44 1 24 := Et.of Nn (by kernel_rfl) (by kernel_rfl) (by kernel_rfl) (by decide)
theorem NA : Ty Tryz.prog 44 false 1 := ⟨by kernel_rfl, by kernel_rfl⟩
noncomputable def HC (p1 : List (List Int)) : Int → Option (Int ⊕ (Unit ⊕ Bool))
  | x1 => (if x1 < (p1.length : Int) then (ix p1 x1).bind fun x2 => (if 12 < (x2.length : Int) then some (.inr (.inr false)) else some (.inl (An (x1 + 1)))) else some (.inr (.inl ())))
noncomputable def IM (p0 : Int × (List (Int × Int × Int × Int × Int × Int)) × (List (Int × Int))) (p1 : List (List Int)) : Option Bool := GN (Ap (HC p1) 0) fun _ => some (decide ((p0.2.1.length : Int) ≤ 30) && (decide ((p0.2.2.length : Int) ≤ 12) && decide ((p1.length : Int) ≤ 12)))
theorem Na (Y : Nat → Prop) (w0 : World) (v1 : Value) (v2 : Value) (v3 : Value) (p0 : Int × (List (Int × Int × Int × Int × Int × Int)) × (List (Int × Int))) (p1 : List (List Int)) (r : Bool) (H : IM p0 p1 = some r) (h_v1 : Sl w0 (NX []) IG v1 p0.2.1) (h_v2 : Sl w0 (NX []) IB v2 p0.2.2) (h_v3 : Sl w0 (NX []) (Rp.slice (Rp.int .i64)) v3 p1) :
    Calls Tryz.prog 5 #[.agg #[.int .i64 p0.1, v1, v2], v3] w0 fun e w' => e = .returned (.bool r) ∧ Below w0.heap.size w0 w' := by
 refine enter Tryz.func5 Aa Tryz.ntmps5 Aa fun a F => ?_
 have W := Stw.start Y w0
 obtain ⟨v4, h1, h_v3⟩ := h_v3.ex CM
 unfold IM at H
 refine vc tk 2 F W fun a w F W => ?_
 refine D2 (cs := [.int .i64 p0.1, v1, v2]) F W Aa Aa Aa fun b1 a w F W => ?_
 refine vl tk 2 F W fun a w F W => ?_
 refine Ab ?_
 obtain ⟨o1, G1, K1, L1⟩ := Mg H
 refine Aq (fun a w => some (Sum.inl ()) = some o1 ∧ Fr 33 [] [(1, v3), (2, .pointer (some ⟨b1, 0, none⟩)), (4, .bool false)] a ∧ Stw ⟨Y, [], w0⟩ [(b1, [.int .i64 p0.1, v1, v2])] [] w) ?_ ?_
 ·
  have H := G1
  clear G1 K1
  refine vc tk 6 F W fun a w F W => ?_
  refine AL H (fun s a w => Fr 33 [] [(1, v3), (2, .pointer (some ⟨b1, 0, none⟩)), (4, .bool false), (5, .int .i64 s)] a ∧ Stw ⟨Y, [], w0⟩ [(b1, [.int .i64 p0.1, v1, v2])] [] w) ⟨F.ra Aa, W⟩ fun s o a w H L2 hR => ?_
  obtain ⟨x1, rfl⟩ : ∃ x, x = s := ⟨s, rfl⟩
  obtain ⟨F, W⟩ := hR
  have F : Fr 33 [] [(1, v3), (2, .pointer (some ⟨b1, 0, none⟩)), (4, .bool false), (5, .int .i64 x1)] a := F
  have W : Stw ⟨Y, [], w0⟩ [(b1, [.int .i64 p0.1, v1, v2])] [] w := W
  rw [HC] at H
  refine vc tk 5 F W fun a w F W => ?_
  refine ls F W Aa (BS (r := (Rp.slice (Rp.int .i64))) (l := p1) Nn Aa F Aa (AN CM h1 (Ad h_v3))).q fun a w F W => ?_
  refine BR tk 3 F W fun a w F W => ?_
  refine AU F Aa H (fun F H => ?_) fun F H => ?_
  ·
   refine FP tk 8 F W fun a w F W => ?_
   obtain ⟨x2, h2, H⟩ := Ac H
   obtain ⟨v5, h3, h4⟩ := E5 h1 h2
   have h5 : Hd v5 = [(v5.1)] := congrArg (fun q : List Int => ([(v5.1)] : List Value)) h4
   refine ls F W Aa (Al (r := (Rp.vsl (Rp.int .i64))) Ps F Aa Aa (Ad h_v3) h3).q fun a w F W => ?_
   refine ls F W Aa (Ag (y := (v5.1)) (j := 0) (i := x1) (enc := Hd) F Aa Aa (Ad h_v3) h3 LI NA (by rw [h5]; rfl)).q fun a w F W => ?_
   refine ls F W Aa (BS (r := (Rp.int .i64)) (l := x2) IV Aa F Aa (Dc (Ad h_v3) h3 DP.here (congrArg (fun q : List Int => q) h4))).q fun a w F W => ?_
   refine BR tk 3 F W fun a w F W => ?_
   refine AU F Aa H (fun F H => ?_) fun F H => ?_
   ·
    refine vc tk 5 F W fun a w F W => ?_
    refine Ao (AW ?_)
    iterate 2 refine AE ?_
    refine AW (AE ?_)
    have H := L2 _ H
    have H := L1 _ H
    have H := Ax H
    subst H
    refine A1 (.inl Aa) F W Aa (Am F Aa) ?_
    exact ⟨rfl, W.done⟩
   refine AB (Aw ?_)
   refine vn tk 5 F W fun a w F W => ?_
   refine Ab ?_
   exact ⟨_, H, F.ra Aa, W⟩
  refine AA ?_
  iterate 2 refine AQ ?_
  refine AC (Ab ?_)
  have H := L2 _ H
  exact ⟨H, F.ra Aa, W⟩
 rintro a w ⟨hj, F, W⟩
 have H := K1 _ hj
 clear hj G1 K1 L1
 refine Aq (fun a w => Fr 33 [] [(4, .bool (decide ((p0.2.1.length : Int) ≤ 30) && (decide ((p0.2.2.length : Int) ≤ 12) && decide ((p1.length : Int) ≤ 12))))] a ∧ Stw ⟨Y, [], w0⟩ [(b1, [.int .i64 p0.1, v1, v2])] [] w) ?_ ?_
 ·
  refine IL tk 3 [0] F W (ai fun a w F W => ?_)
  refine ls F W Aa (BS (r := IG) (l := p0.2.1) Rk Aa F Aa (Ad h_v1)).q fun a w F W => ?_
  refine vl tk 2 F W fun a w F W => ?_
  rcases Bool.eq_false_or_eq_true (decide ((p0.2.1.length : Int) ≤ 30)) with hb0 | hb0
  ·
   rw [hb0] at F
   refine Ky tk 2 [0] F W (ai fun a w F W => ?_)
   refine Hs F W (Ae F Aa Aa Aa Aa) Aa (As Aa) (BS (r := IB) (l := p0.2.2) OE Aa F Aa (Ad h_v2)).q fun a w F W => ?_
   refine vl tk 3 F W fun a w F W => ?_
   rcases Bool.eq_false_or_eq_true (decide ((p0.2.2.length : Int) ≤ 12)) with hb1 | hb1
   ·
    rw [hb1] at F
    refine Hs F W (Ae F Aa Aa Aa Aa) Aa (As Aa) (Ai F Aa).q fun a w F W => ?_
    refine Hs F W (Ae F Aa Aa Aa Aa) Aa (As Aa) (BS (r := (Rp.slice (Rp.int .i64))) (l := p1) Nn Aa F Aa (AN CM h1 (Ad h_v3))).q fun a w F W => ?_
    refine vl tk 4 F W fun a w F W => ?_
    refine Ab ?_
    exact ⟨F.re ⟨(H0 (by try rw [hb0]; try rw [hb1]; all_goals simp only [H2])), trivial⟩, W⟩
   rw [hb1] at F
   refine vl tk 6 F W fun a w F W => ?_
   refine Ab ?_
   exact ⟨F.re ⟨(H0 (by try rw [hb0]; try rw [hb1]; all_goals simp only [H2])), trivial⟩, W⟩
  rw [hb0] at F
  refine vl tk 12 F W fun a w F W => ?_
  refine Ab ?_
  exact ⟨F.re ⟨(H0 (by try rw [hb0]; all_goals simp only [H2])), trivial⟩, W⟩
 rintro a w ⟨F, W⟩
 refine Ao ?_
 have H := Ax H
 subst H
 refine A1 (.inl Aa) F W Aa (Am F Aa) ?_
 exact ⟨rfl, W.done⟩
theorem Uz : type_of% Tryz.underlying33 := Tryz.underlying33
theorem TP : type_of% Tryz.underlying49 := Tryz.underlying49
theorem XK : type_of% Tryz.underlying51 := Tryz.underlying51
theorem VL : type_of% Tryz.underlying123 := Tryz.underlying123
theorem Sc : type_of% Tryz.underlying126 := Tryz.underlying126
theorem H5 : Has Tryz.prog 5 := Cu Tryz.func5
theorem YN : Bt Tryz.prog 49 [.int .i64 0, .int .i64 0, .int .i64 0, .int .i64 0, .int .i64 0, .int .i64 0] [(0, 1), (1, 1), (2, 1), (3, 1), (4, 1), (5, 1)] := ⟨⟨.agg #[.int .i64 0, .int .i64 0, .int .i64 0, .int .i64 0, .int .i64 0, .int .i64 0], by kernel_rfl, rfl⟩, ⟨_, TP, fun w => by kernel_rfl⟩⟩
theorem Yj : (Tryz.prog.info? 49).bind (·.zero) = some (.agg #[.int .i64 0, .int .i64 0, .int .i64 0, .int .i64 0, .int .i64 0, .int .i64 0]) := by kernel_rfl
def b9 (a : Int × Int × Int × Int × Int × Int) : List Value := [.int .i64 a.1, .int .i64 a.2.1, .int .i64 a.2.2.1, .int .i64 a.2.2.2.1, .int .i64 a.2.2.2.2.1, .int .i64 a.2.2.2.2.2]
theorem X1 : Fl IG b9 := (Fl.pair Fl.int (Fl.pair Fl.int (Fl.pair Fl.int (Fl.pair Fl.int (Fl.pair Fl.int Fl.int)))))
theorem Xg : Et Tryz.prog 22 49 6 48 := Et.of Rk (by kernel_rfl) (by kernel_rfl) (by kernel_rfl) (by decide)
theorem Zr : Bt Tryz.prog 51 [.int .i64 0, .int .i64 0] [(0, 1), (1, 1)] := ⟨⟨.agg #[.int .i64 0, .int .i64 0], by kernel_rfl, rfl⟩, ⟨_, XK, fun w => by kernel_rfl⟩⟩
theorem Zh : (Tryz.prog.info? 51).bind (·.zero) = some (.agg #[.int .i64 0, .int .i64 0]) := by kernel_rfl
def aT (a : Int × Int) : List Value := [.int .i64 a.1, .int .i64 a.2]
theorem Yu : Fl IB aT := (Fl.pair Fl.int Fl.int)
theorem YZ : Et Tryz.prog 23 51 2 16 := Et.of OE (by kernel_rfl) (by kernel_rfl) (by kernel_rfl) (by decide)
theorem Za : Bt Tryz.prog 25 [.int .i64 0, .slice none 0 0, .slice none 0 0] [(0, 1), (1, 1), (2, 1)] := ⟨⟨.agg #[.int .i64 0, .slice none 0 0, .slice none 0 0], by kernel_rfl, rfl⟩, ⟨_, Xh, fun w => by kernel_rfl⟩⟩
theorem aF : (Tryz.prog.info? 25).bind (·.zero) = some (.agg #[.int .i64 0, .slice none 0 0, .slice none 0 0]) := by kernel_rfl
theorem Z3 : (Tryz.prog.info? 3).bind (·.zero) = some (.int .i64 0) := by kernel_rfl
theorem EJ : Et Tryz.prog 44 3 1 8 := Et.of IV (by kernel_rfl) (by kernel_rfl) (by kernel_rfl) (by decide)
theorem Yg : (Tryz.prog.info? 44).bind (·.zero) = some (.slice none 0 0) := by kernel_rfl
theorem WV : Bt Tryz.prog 33 [.slice none 0 0, .slice none 0 0, .int .i64 0, .int .i64 0, .int .i64 0, .int .i64 0] [(0, 1), (1, 1), (2, 1), (3, 1), (4, 1), (5, 1)] := ⟨⟨.agg #[.slice none 0 0, .slice none 0 0, .int .i64 0, .int .i64 0, .int .i64 0, .int .i64 0], by kernel_rfl, rfl⟩, ⟨_, Uz, fun w => by kernel_rfl⟩⟩
abbrev A5 : Rp (Int × Int × Int × Int) := (Rp.pair (Rp.int .i64) (Rp.pair (Rp.int .i64) (Rp.pair (Rp.int .i64) (Rp.int .i64))))
abbrev Jg : Rp (Int × Int × List Int) := (Rp.pair (Rp.int .i64) (Rp.pair (Rp.int .i64) (Rp.slice (Rp.int .i64))))
abbrev Rj : Rp (Int × Int × (Value × List Int)) := (Rp.pair (Rp.int .i64) (Rp.pair (Rp.int .i64) (Rp.vsl (Rp.int .i64))))
abbrev Y9 (p : Int × Int × (Value × List Int)) : Int × Int × List Int := (p.1, p.2.1, p.2.2.2)
theorem HF : Ex Jg Rj Y9 := (Ex.pair Ex.rfl' (Ex.pair Ex.rfl' Ex.sliceF))
theorem T3 : Ty Tryz.prog 3 false 1 := ⟨by kernel_rfl, by kernel_rfl⟩
abbrev JX (x : Int × Int) : Value := .agg #[.int .i64 x.1, .int .i64 x.2]
abbrev Km (x : Unit) : Value := .agg #[]
theorem V8 : Ty Tryz.prog 49 true 6 := ⟨by kernel_rfl, by kernel_rfl⟩
theorem Su : Bt Tryz.prog 126 [.int .i64 0, .int .i64 0] [(0, 1), (1, 1)] := ⟨⟨.agg #[.int .i64 0, .int .i64 0], by kernel_rfl, rfl⟩, ⟨_, Sc, fun w => by kernel_rfl⟩⟩
theorem Vt : (Tryz.prog.info? 126).bind (·.zero) = some (.agg #[.int .i64 0, .int .i64 0]) := by kernel_rfl
abbrev Ho : Rp (Int × Int) := (Rp.pair (Rp.int .i64) (Rp.int .i64))
def YI (a : Int × Int) : List Value := [.int .i64 a.1, .int .i64 a.2]
theorem Wz : Fl Ho YI := (Fl.pair Fl.int Fl.int)
theorem TO : Et Tryz.prog 123 126 2 16 := Et.of VL (by kernel_rfl) (by kernel_rfl) (by kernel_rfl) (by decide)
theorem Yn : Ty Tryz.prog 51 true 2 := ⟨by kernel_rfl, by kernel_rfl⟩
abbrev We  : List Value := [.int .i64 0, .int .i64 0, .int .i64 0, .int .i64 0, .int .i64 0, .int .i64 0]
abbrev Yw (a0 : Int × Int × Int × Int × Int × Int) : List Value := [.int .i64 a0.1, .int .i64 a0.2.1, .int .i64 a0.2.2.1, .int .i64 a0.2.2.2.1, .int .i64 a0.2.2.2.2.1, .int .i64 a0.2.2.2.2.2]
abbrev Ys (a0 : Nat) (a1 : Int × Int × Int × Int × Int × Int) (a2 : Nat) (a3 : Int × (List (Int × Int × Int × Int × Int × Int)) × (List (Int × Int))) (a4 : Value) (a5 : Value) : List (Nat × List Value) := [(a0, [.int .i64 a1.1, .int .i64 a1.2.1, .int .i64 a1.2.2.1, .int .i64 a1.2.2.2.1, .int .i64 a1.2.2.2.2.1, .int .i64 a1.2.2.2.2.2]), (a2, [.int .i64 a3.1, a4, a5])]
noncomputable def Ef (p0 : Int × (List (Int × Int × Int × Int × Int × Int)) × (List (Int × Int))) : ((List (Int × Int)) × Int) → Option (((List (Int × Int)) × Int) ⊕ (List (Int × Int)))
  | (x2, x3) => (if x3 < (p0.2.1.length : Int) then (ix p0.2.1 x3).bind fun x4 => (H4 x2 ([(x4.1, x4.2.1), (x4.2.2.1, x4.2.2.2.1)] : List (Int × Int))).bind fun x5 => some (.inl (x5, An (x3 + 1))) else some (.inr x2))
noncomputable def Ee (p0 : Int × (List (Int × Int × Int × Int × Int × Int)) × (List (Int × Int))) : ((List (Int × Int)) × Int) → Option (((List (Int × Int)) × Int) ⊕ (List (Int × Int)))
  | (x7, x8) => (if x8 < (p0.2.2.length : Int) then (ix p0.2.2 x8).bind fun x9 => (H4 x7 ([x9] : List (Int × Int))).bind fun x10 => some (.inl (x10, An (x8 + 1))) else some (.inr x7))
noncomputable def Gq (p0 : Int × (List (Int × Int × Int × Int × Int × Int)) × (List (Int × Int))) : Option (List (Int × Int)) := (Ap (Ef p0) ([], 0)).bind fun x1 => (Ap (Ee p0) (x1, 0)).bind fun x6 => some x6
theorem OM (Y : Nat → Prop) (w0 : World) (v1 : Value) (v2 : Value) (p0 : Int × (List (Int × Int × Int × Int × Int × Int)) × (List (Int × Int))) (r : (List (Int × Int))) (H : Gq p0 = some r) (h_v1 : Sl w0 (NX []) IG v1 p0.2.1) (h_v2 : Sl w0 (NX []) IB v2 p0.2.2) :
    Calls Tryz.prog 71 #[.agg #[.int .i64 p0.1, v1, v2]] w0 fun e w' => ∃ x : Value, e = .returned (x) ∧ Stw ⟨Y, [], w0⟩ [] [row (x) 126 Ho r] w' := by
 refine enter Tryz.func71 Aa Tryz.ntmps71 Aa fun a F => ?_
 have W := Stw.start Y w0
 unfold Gq at H
 refine vc tk 2 F W fun a w F W => ?_
 refine D2 (cs := [.int .i64 p0.1, v1, v2]) F W Aa Aa Aa fun b1 a w F W => ?_
 refine BR tk 8 F W fun a w F W => ?_
 obtain ⟨o1, G1, K1⟩ := Ac H
 refine Aq (fun a w => ∃ x1 : List (Int × Int), ∃ v3 : Value, some (x1) = some o1 ∧ Fr 46 [] [(1, .pointer (some ⟨b1, 0, none⟩)), (2, .slice none 0 0), (3, v3)] a ∧ Stw ⟨Y, [], w0⟩ [(b1, [.int .i64 p0.1, v1, v2])] [row v3 126 Ho x1] w) ?_ ?_
 ·
  have H := G1
  clear G1 K1
  refine IL tk 4 [0] F W (ai fun a w F W => ?_)
  refine ls F W Aa (BS (r := IG) (l := p0.2.1) Rk Aa F Aa (Ad h_v1)).q fun a w F W => ?_
  refine BR tk 4 F W fun a w F W => ?_
  have W := W.nilRow 126 Ho
  refine AL H (fun s a w => ∃ v4 : Value, Fr 46 [] [(1, .pointer (some ⟨b1, 0, none⟩)), (2, .slice none 0 0), (3, v4), (9, v1), (10, .int .i64 (p0.2.1.length : Int)), (11, .int .i64 s.2)] a ∧ Stw ⟨Y, [], w0⟩ [(b1, [.int .i64 p0.1, v1, v2])] [row v4 126 Ho s.1] w) ⟨(Value.slice none 0 0), F.ra Aa, W⟩ fun s o a w H L2 hR => ?_
  obtain ⟨x2, x3⟩ := s
  obtain ⟨v4, F, W⟩ := hR
  have F : Fr 46 [] [(1, .pointer (some ⟨b1, 0, none⟩)), (2, .slice none 0 0), (3, v4), (9, v1), (10, .int .i64 (p0.2.1.length : Int)), (11, .int .i64 x3)] a := F
  have W : Stw ⟨Y, [], w0⟩ [(b1, [.int .i64 p0.1, v1, v2])] [row v4 126 Ho x2] w := W
  rw [Ef] at H
  refine vc tk 6 F W fun a w F W => ?_
  refine AU F Aa H (fun F H => ?_) fun F H => ?_
  ·
   refine FP tk 6 F W fun a w F W => ?_
   obtain ⟨x4, h1, H⟩ := Ac H
   refine ls F W Aa (Al (r := IG) Xg F Aa Aa (Ad h_v1) h1).q fun a w F W => ?_
   refine ls F W Aa (Ag (y := Value.agg #[.int .i64 x4.1, .int .i64 x4.2.1, .int .i64 x4.2.2.1, .int .i64 x4.2.2.2.1, .int .i64 x4.2.2.2.2.1, .int .i64 x4.2.2.2.2.2]) (j := 0) (i := x3) F Aa Aa (Ad h_v1) h1 X1.to V8 Aa).q fun a w F W => ?_
   refine B8 (cs := (We)) F W Aa Yj Aa fun b2 a w F W => ?_
   refine Ey 0 F W Aa Aa Aa V8 Aa Aa Aa fun w W => ?_
   refine JG tk 8 [0, 0] F W (ai (ai fun a w F W => ?_))
   refine ls F W Aa (Cg (v := Value.agg #[.int .i64 x4.1, .int .i64 x4.2.1]) Su F Aa Aa Aa).q fun a w F W => ?_
   refine Ky tk 4 [0, 0] F W (ai (ai fun a w F W => ?_))
   refine ls F W Aa (Cg (v := Value.agg #[.int .i64 x4.2.2.1, .int .i64 x4.2.2.2.1]) Su F Aa Aa Aa).q fun a w F W => ?_
   refine D6 (z := Value.agg #[.int .i64 0, .int .i64 0]) (cs := [.int .i64 x4.1, .int .i64 x4.2.1, .int .i64 x4.2.2.1, .int .i64 x4.2.2.2.1]) Ho ([(x4.1, x4.2.1), (x4.2.2.1, x4.2.2.2.1)] : List (Int × Int)) F W Aa TO Vt Aa Aa Aa Aa Aa Aa (Wz.repL _ _ ([(x4.1, x4.2.1), (x4.2.2.1, x4.2.2.2.1)] : List (Int × Int))) fun v5 a w F W => ?_
   obtain ⟨x5, h2, H⟩ := Ac H
   refine DB (r := Ho) (i := 1) F W Aa TO Aa Aa Aa Aa (Ez W 0 Aa) h2 Aa fun v6 a w F W => ?_
   have W : Stw ⟨Y, [], w0⟩ (Ys b2 x4 b1 p0 v1 v2) [row v6 126 Ho x5, row v5 126 Ho ([(x4.1, x4.2.1), (x4.2.2.1, x4.2.2.2.1)] : List (Int × Int))] w := W
   refine vl tk 2 F W fun a w F W => ?_
   refine Aw ?_
   refine vn tk 4 F W fun a w F W => ?_
   refine Ab ?_
   have W := W.frontM (i := 1) Aa Aa
   have W := W.sub (M' := [(b1, [.int .i64 p0.1, v1, v2])]) (Z' := [row v6 126 Ho x5]) (List.Sublist.cons_cons _ (List.nil_sublist _)) (List.Sublist.cons_cons _ (List.nil_sublist _))
   exact ⟨_, H, (v6), F.ra Aa, W⟩
  refine AA ?_
  iterate 2 refine AQ ?_
  refine AC (Ab ?_)
  have H := L2 _ H
  exact ⟨_, (v4), H, F.ra Aa, W⟩
 rintro a w ⟨x1, v3, hj, F, W⟩
 have hj := Ax hj
 subst hj
 have H := K1
 clear G1 K1
 obtain ⟨o3, G3, K3⟩ := Ac H
 refine Aq (fun a w => ∃ x6 : List (Int × Int), ∃ v7 : Value, some (x6) = some o3 ∧ Fr 46 [] [(2, .slice none 0 0), (3, v7)] a ∧ Stw ⟨Y, [], w0⟩ [(b1, [.int .i64 p0.1, v1, v2])] [row v7 126 Ho x6] w) ?_ ?_
 ·
  have H := G3
  clear G3 K3
  refine IL tk 4 [0] F W (ai fun a w F W => ?_)
  refine ls F W Aa (BS (r := IB) (l := p0.2.2) OE Aa F Aa (Ad h_v2)).q fun a w F W => ?_
  refine BR tk 4 F W fun a w F W => ?_
  refine AL H (fun s a w => ∃ v8 : Value, Fr 46 [] [(2, .slice none 0 0), (3, v8), (30, v2), (31, .int .i64 (p0.2.2.length : Int)), (32, .int .i64 s.2)] a ∧ Stw ⟨Y, [], w0⟩ [(b1, [.int .i64 p0.1, v1, v2])] [row v8 126 Ho s.1] w) ⟨(v3), F.ra Aa, W⟩ fun s o a w H L4 hR => ?_
  obtain ⟨x7, x8⟩ := s
  obtain ⟨v8, F, W⟩ := hR
  have F : Fr 46 [] [(2, .slice none 0 0), (3, v8), (30, v2), (31, .int .i64 (p0.2.2.length : Int)), (32, .int .i64 x8)] a := F
  have W : Stw ⟨Y, [], w0⟩ [(b1, [.int .i64 p0.1, v1, v2])] [row v8 126 Ho x7] w := W
  rw [Ee] at H
  refine vc tk 6 F W fun a w F W => ?_
  refine AU F Aa H (fun F H => ?_) fun F H => ?_
  ·
   refine FP tk 6 F W fun a w F W => ?_
   obtain ⟨x9, h3, H⟩ := Ac H
   refine ls F W Aa (Al (r := IB) YZ F Aa Aa (Ad h_v2) h3).q fun a w F W => ?_
   refine ls F W Aa (Ag (y := Value.agg #[.int .i64 x9.1, .int .i64 x9.2]) (j := 0) (i := x8) F Aa Aa (Ad h_v2) h3 Yu.to Yn Aa).q fun a w F W => ?_
   refine B8 (cs := [.int .i64 0, .int .i64 0]) F W Aa Zh Aa fun b3 a w F W => ?_
   refine Ey 0 F W Aa Aa Aa Yn Aa Aa Aa fun w W => ?_
   refine JG tk 8 [0, 0] F W (ai (ai fun a w F W => ?_))
   refine ls F W Aa (Cg (v := Value.agg #[.int .i64 x9.1, .int .i64 x9.2]) Su F Aa Aa Aa).q fun a w F W => ?_
   refine D6 (z := Value.agg #[.int .i64 0, .int .i64 0]) (cs := [.int .i64 x9.1, .int .i64 x9.2]) Ho ([x9] : List (Int × Int)) F W Aa TO Vt Aa Aa Aa Aa Aa Aa (Wz.repL _ _ ([x9] : List (Int × Int))) fun v9 a w F W => ?_
   obtain ⟨x10, h4, H⟩ := Ac H
   refine DB (r := Ho) (i := 1) F W Aa TO Aa Aa Aa Aa (Ez W 0 Aa) h4 Aa fun v10 a w F W => ?_
   have W : Stw ⟨Y, [], w0⟩ [(b3, [.int .i64 x9.1, .int .i64 x9.2]), (b1, [.int .i64 p0.1, v1, v2])] [row v10 126 Ho x10, row v9 126 Ho ([x9] : List (Int × Int))] w := W
   refine vl tk 2 F W fun a w F W => ?_
   refine Aw ?_
   refine vn tk 4 F W fun a w F W => ?_
   refine Ab ?_
   have W := W.frontM (i := 1) Aa Aa
   have W := W.sub (M' := [(b1, [.int .i64 p0.1, v1, v2])]) (Z' := [row v10 126 Ho x10]) (List.Sublist.cons_cons _ (List.nil_sublist _)) (List.Sublist.cons_cons _ (List.nil_sublist _))
   exact ⟨_, H, (v10), F.ra Aa, W⟩
  refine AA ?_
  iterate 2 refine AQ ?_
  refine AC (Ab ?_)
  have H := L4 _ H
  exact ⟨_, (v8), H, F.ra Aa, W⟩
 rintro a w ⟨x6, v7, hj, F, W⟩
 have hj := Ax hj
 subst hj
 have H := K3
 clear G3 K3
 refine vc tk 6 F W fun a w F W => ?_
 refine Ao ?_
 have H := Ax H
 subst H
 refine A1 (.inl Aa) F W Aa (Am F Aa) ?_
 have W := W.sub (M' := []) (Z' := [row v7 126 Ho x6]) (List.nil_sublist _) (List.Sublist.refl _)
 exact ⟨(v7), Aa, W⟩
theorem QW : type_of% Tryz.underlying3 := Tryz.underlying3
theorem XQ : type_of% Tryz.underlying127 := Tryz.underlying127
theorem bG : Has Tryz.prog 71 := Cu Tryz.func71
theorem WZ : Ty Tryz.prog 126 true 2 := ⟨by kernel_rfl, by kernel_rfl⟩
theorem Xx (dd : Nat) (x0 : Int) (x1 : Int) (y0 : Int) (y1 : Int) (w : World) : (Op.equalIn (dd + 2) 126 (.agg #[.int .i64 x0, .int .i64 x1]) (.agg #[.int .i64 y0, .int .i64 y1])).run Tryz.prog w = .ok (decide (x0 = y0 ∧ x1 = y1)) w :=
  MQ (d := dd + 1) (rs := [decide (x0 = y0), decide (x1 = y1)]) Sc (by kernel_rfl) ⟨rfl, Kg (d := dd + 0) rfl rfl QW T3 rfl rfl, rfl, Kg (d := dd + 0) rfl rfl QW T3 rfl rfl, trivial⟩ (by simp) w
theorem XI : Tryz.prog.eqGuardType Tryz.prog.depth 126 = false := by kernel_rfl
theorem Wi (x0 : Int) (x1 : Int) (y0 : Int) (y1 : Int) (w : World) : (Op.equalIn 10000 126 (.agg #[.int .i64 x0, .int .i64 x1]) (.agg #[.int .i64 y0, .int .i64 y1])).run Tryz.prog w = .ok (decide (x0 = y0 ∧ x1 = y1)) w := Xx 9998 x0 x1 y0 y1 w
theorem V5 : KeyEnc Tryz.prog 126 JX := ⟨⟨_, Sc, .inl fun _ _ => rfl⟩, fun x y w => (Wi x.1 x.2 y.1 y.2 w).trans (by congr 1; exact decide_eq_decide.2 (by simp only [Prod.ext_iff])), fun b x w => Nx (m := 9999) (cs := List.toArray [.int .i64 x.1, .int .i64 x.2]) Sc ⟨⟨_, Qc T3 rfl, J9 (m := 9998) QW⟩, ⟨_, Qc T3 rfl, J9 (m := 9998) QW⟩, trivial⟩ b w, fun x => by simp [Instr.sameBits]⟩
theorem XR : (Tryz.prog.info? 127).bind (·.zero) = some (.agg #[]) := by kernel_rfl
theorem Yp : Ty Tryz.prog 127 true 0 := ⟨by kernel_rfl, by kernel_rfl⟩
theorem Yr : Bt Tryz.prog 127 [] [] := ⟨⟨.agg #[], by kernel_rfl, rfl⟩, ⟨_, XQ, fun w => by kernel_rfl⟩⟩
def Cz (p0 : Int × Int × Int × Int × Int × Int) : Bool := (decide (p0.1 = p0.2.2.1) || (decide (p0.2.2.2.2.1 < 1) || (decide (p0.2.2.2.2.2 < p0.2.2.2.2.1) || decide (1000 < p0.2.2.2.2.2))))
theorem ML (Y : Nat → Prop) (w0 : World)  (p0 : Int × Int × Int × Int × Int × Int) (r : Bool) (H : Cz p0 = r)  :
    Calls Tryz.prog 73 #[.agg #[.int .i64 p0.1, .int .i64 p0.2.1, .int .i64 p0.2.2.1, .int .i64 p0.2.2.2.1, .int .i64 p0.2.2.2.2.1, .int .i64 p0.2.2.2.2.2]] w0 fun e w' => e = .returned (.bool r) ∧ Below w0.heap.size w0 w' := by
 refine enter Tryz.func73 Aa Tryz.ntmps73 Aa fun a F => ?_
 have W := Stw.start Y w0
 unfold Cz at H
 refine vc tk 2 F W fun a w F W => ?_
 refine D2 (cs := (Yw p0)) F W Aa Aa Aa fun b1 a w F W => ?_
 refine BR tk 3 F W fun a w F W => ?_
 refine Aq (fun a w => Fr 25 [] [(2, .bool (decide (p0.1 = p0.2.2.1) || (decide (p0.2.2.2.2.1 < 1) || (decide (p0.2.2.2.2.2 < p0.2.2.2.2.1) || decide (1000 < p0.2.2.2.2.2)))))] a ∧ Stw ⟨Y, [], w0⟩ [(b1, [.int .i64 p0.1, .int .i64 p0.2.1, .int .i64 p0.2.2.1, .int .i64 p0.2.2.2.1, .int .i64 p0.2.2.2.2.1, .int .i64 p0.2.2.2.2.2])] [] w) ?_ ?_
 ·
  refine IL tk 7 [0, 0] F W (ai (ai fun a w F W => ?_))
  rcases Bool.eq_false_or_eq_true (decide (p0.1 = p0.2.2.1)) with hb0 | hb0
  ·
   rw [hb0] at F
   refine vl tk 18 F W fun a w F W => ?_
   refine Ab ?_
   exact ⟨F.re ⟨(H0 (by try rw [hb0]; all_goals simp only [H2])), trivial⟩, W⟩
  rw [hb0] at F
  refine Ky tk 5 [0] F W (ai fun a w F W => ?_)
  rcases Bool.eq_false_or_eq_true (decide (p0.2.2.2.2.1 < 1)) with hb1 | hb1
  ·
   rw [hb1] at F
   refine vl tk 13 F W fun a w F W => ?_
   refine Ab ?_
   exact ⟨F.re ⟨(H0 (by try rw [hb1]; try rw [hb0]; all_goals simp only [H2])), trivial⟩, W⟩
  rw [hb1] at F
  refine Ky tk 7 [0, 0] F W (ai (ai fun a w F W => ?_))
  rcases Bool.eq_false_or_eq_true (decide (p0.2.2.2.2.2 < p0.2.2.2.2.1)) with hb2 | hb2
  ·
   rw [hb2] at F
   refine vl tk 6 F W fun a w F W => ?_
   refine Ab ?_
   exact ⟨F.re ⟨(H0 (by try rw [hb2]; try rw [hb1]; try rw [hb0]; all_goals simp only [H2])), trivial⟩, W⟩
  rw [hb2] at F
  refine Ky tk 6 [0] F W (ai fun a w F W => ?_)
  refine Ab ?_
  exact ⟨F.re ⟨(H0 (by try rw [hb2]; try rw [hb1]; try rw [hb0]; all_goals simp only [H2])), trivial⟩, W⟩
 rintro a w ⟨F, W⟩
 refine Ao ?_
 subst H
 refine A1 (.inl Aa) F W Aa (Am F Aa) ?_
 exact ⟨rfl, W.done⟩
theorem ZW : Has Tryz.prog 73 := Cu Tryz.func73
noncomputable def AP (p0 : List (Int × Int × Int × Int × Int × Int)) : Int → Option (Int ⊕ (Unit ⊕ Int))
  | x1 => (if x1 < (p0.length : Int) then (ix p0 x1).bind fun x2 => (if (Cz x2) = true then some (.inr (.inr x1)) else some (.inl (An (x1 + 1)))) else some (.inr (.inl ())))
noncomputable def BT (p0 : List (Int × Int × Int × Int × Int × Int)) : Option Int := GN (Ap (AP p0) 0) fun _ => some (-1)
theorem GJ (Y : Nat → Prop) (w0 : World) (v1 : Value) (p0 : List (Int × Int × Int × Int × Int × Int)) (r : Int) (H : BT p0 = some r) (h_v1 : Sl w0 (NX []) IG v1 p0) :
    Calls Tryz.prog 97 #[v1, .func (.func 73) #[] #[]] w0 fun e w' => e = .returned (.int .i64 r) ∧ Below w0.heap.size w0 w' := by
 refine enter Tryz.func97 Aa Tryz.ntmps97 Aa fun a F => ?_
 have W := Stw.start Y w0
 unfold BT at H
 refine vc tk 5 F W fun a w F W => ?_
 obtain ⟨o1, G1, K1, L1⟩ := Mg H
 refine Aq (fun a w => some (Sum.inl ()) = some o1 ∧ Fr 19 [] [(4, .int .i64 0)] a ∧ Stw ⟨Y, [], w0⟩ [] [] w) ?_ ?_
 ·
  have H := G1
  clear G1 K1
  refine vc tk 3 F W fun a w F W => ?_
  refine ls F W Aa (BS (r := IG) (l := p0) Rk Aa F Aa (Ad h_v1)).q fun a w F W => ?_
  refine BR tk 4 F W fun a w F W => ?_
  refine AL H (fun s a w => Fr 19 [] [(0, v1), (1, .func (.func 73) #[] #[]), (4, .int .i64 0), (7, .int .i64 (p0.length : Int)), (8, .int .i64 s)] a ∧ Stw ⟨Y, [], w0⟩ [] [] w) ⟨F.ra Aa, W⟩ fun s o a w H L2 hR => ?_
  obtain ⟨x1, rfl⟩ : ∃ x, x = s := ⟨s, rfl⟩
  obtain ⟨F, W⟩ := hR
  have F : Fr 19 [] [(0, v1), (1, .func (.func 73) #[] #[]), (4, .int .i64 0), (7, .int .i64 (p0.length : Int)), (8, .int .i64 x1)] a := F
  have W : Stw ⟨Y, [], w0⟩ [] [] w := W
  rw [AP] at H
  refine vc tk 6 F W fun a w F W => ?_
  refine AU F Aa H (fun F H => ?_) fun F H => ?_
  ·
   refine FP tk 15 F W fun a w F W => ?_
   obtain ⟨x2, h1, H⟩ := Ac H
   refine ls F W Aa (Al (r := IG) Xg F Aa Aa (Ad h_v1) h1).q fun a w F W => ?_
   refine ls F W Aa (Ag (y := Value.agg #[.int .i64 x2.1, .int .i64 x2.2.1, .int .i64 x2.2.2.1, .int .i64 x2.2.2.2.1, .int .i64 x2.2.2.2.2.1, .int .i64 x2.2.2.2.2.2]) (j := 0) (i := x1) F Aa Aa (Ad h_v1) h1 X1.to V8 Aa).q fun a w F W => ?_
   refine ls F W Aa (E1 (ws := [.agg #[.int .i64 x2.1, .int .i64 x2.2.1, .int .i64 x2.2.2.1, .int .i64 x2.2.2.2.1, .int .i64 x2.2.2.2.2.1, .int .i64 x2.2.2.2.2.2]]) (v := Value.bool (Cz x2)) F ZW Aa (fun w W => ML any w x2 _ Aa)) fun a w F W => ?_
   refine BR tk 2 F W fun a w F W => ?_
   refine C2 F Aa H (fun F H => ?_) fun F H => ?_
   ·
    refine vc tk 6 F W fun a w F W => ?_
    refine Ao (AW ?_)
    iterate 2 refine AE ?_
    refine AW (AE ?_)
    have H := L2 _ H
    have H := L1 _ H
    have H := Ax H
    subst H
    refine A1 (.inl Aa) F W Aa (Am F Aa) ?_
    exact ⟨rfl, W.done⟩
   refine AB (Aw ?_)
   refine vn tk 4 F W fun a w F W => ?_
   refine Ab ?_
   exact ⟨_, H, F.ra Aa, W⟩
  refine AA ?_
  iterate 2 refine AQ ?_
  refine AC (Ab ?_)
  have H := L2 _ H
  exact ⟨H, F.ra Aa, W⟩
 rintro a w ⟨hj, F, W⟩
 have H := K1 _ hj
 clear hj G1 K1 L1
 refine vc tk 5 F W fun a w F W => ?_
 refine Ao ?_
 have H := Ax H
 subst H
 refine A1 (.inl Aa) F W Aa (Am F Aa) ?_
 exact ⟨rfl, W.done⟩
theorem bP : Has Tryz.prog 97 := Cu Tryz.func97
noncomputable def Bm (p0 : List (Int × Int × Int × Int × Int × Int)) : Option Bool := (BT p0).bind fun x1 => some (decide (0 ≤ x1))
theorem Gg (Y : Nat → Prop) (w0 : World) (v1 : Value) (p0 : List (Int × Int × Int × Int × Int × Int)) (r : Bool) (H : Bm p0 = some r) (h_v1 : Sl w0 (NX []) IG v1 p0) :
    Calls Tryz.prog 72 #[v1, .func (.func 73) #[] #[]] w0 fun e w' => e = .returned (.bool r) ∧ Below w0.heap.size w0 w' := by
 refine enter Tryz.func72 Aa Tryz.ntmps72 Aa fun a F => ?_
 have W := Stw.start Y w0
 unfold Bm at H
 refine vc tk 9 F W fun a w F W => ?_
 obtain ⟨x1, h1, H⟩ := Ac H
 refine ls F W Aa (Be (v := Value.int .i64 x1) F bP Aa (fun w W => GJ any w (v1) p0 _ h1 (EG (Ad h_v1) W))) fun a w F W => ?_
 refine BR tk 4 F W fun a w F W => ?_
 refine Ao ?_
 have H := Ax H
 subst H
 refine A1 (.inl Aa) F W Aa (Am F Aa) ?_
 exact ⟨rfl, W.done⟩
theorem VW : type_of% Tryz.underlying122 := Tryz.underlying122
theorem aN : Has Tryz.prog 72 := Cu Tryz.func72
noncomputable def Dz (p0 : Int × (List (Int × Int × Int × Int × Int × Int)) × (List (Int × Int))) (x2 : (List (Int × Int))) : (Int × (List ((Int × Int) × Unit))) → Option ((Int × (List ((Int × Int) × Unit))) ⊕ ((List ((Int × Int) × Unit)) ⊕ Bool))
  | (x3, x4) => (if x3 < (x2.length : Int) then (ix x2 x3).bind fun x5 => (if (decide (x5.1 < 0) || (decide (p0.1 ≤ x5.1) || (decide (x5.2 < 0) || decide (8 ≤ x5.2)))) = true then some (.inr (.inr false)) else (if ((MP x4 x5).isSome) = true then some (.inr (.inr false)) else some (.inl (An (x3 + 1), MJ x4 x5 ())))) else some (.inr (.inl x4)))
noncomputable def Hf (p0 : Int × (List (Int × Int × Int × Int × Int × Int)) × (List (Int × Int))) : Option Bool := (if (decide (p0.1 < 1) || (decide (8 < p0.1) || (decide (24 < (p0.2.1.length : Int)) || decide (8 < (p0.2.2.length : Int))))) = true then some false else GN ((Gq p0).bind fun x2 => Ap (Dz p0 x2) (0, ([] : List ((Int × Int) × Unit)))) fun x1 => (Bm p0.2.1).bind fun x6 => some (!x6))
theorem Pl (Y : Nat → Prop) (w0 : World) (v1 : Value) (v2 : Value) (p0 : Int × (List (Int × Int × Int × Int × Int × Int)) × (List (Int × Int))) (r : Bool) (H : Hf p0 = some r) (h_v1 : Sl w0 (NX []) IG v1 p0.2.1) (h_v2 : Sl w0 (NX []) IB v2 p0.2.2) :
    Calls Tryz.prog 48 #[.agg #[.int .i64 p0.1, v1, v2]] w0 fun e w' => e = .returned (.bool r) ∧ Below w0.heap.size w0 w' := by
 refine enter Tryz.func48 Aa Tryz.ntmps48 Aa fun a F => ?_
 have W := Stw.start Y w0
 unfold Hf at H
 refine vc tk 2 F W fun a w F W => ?_
 refine D2 (cs := [.int .i64 p0.1, v1, v2]) F W Aa Aa Aa fun b1 a w F W => ?_
 refine BR tk 4 F W fun a w F W => ?_
 refine Aq (fun a w => Fr 71 [] [(1, .pointer (some ⟨b1, 0, none⟩)), (2, .bool false), (27, .bool (decide (p0.1 < 1) || (decide (8 < p0.1) || (decide (24 < (p0.2.1.length : Int)) || decide (8 < (p0.2.2.length : Int))))))] a ∧ Stw ⟨Y, [], w0⟩ [(b1, [.int .i64 p0.1, v1, v2])] [] w) ?_ ?_
 ·
  refine IL tk 5 [0] F W (ai fun a w F W => ?_)
  rcases Bool.eq_false_or_eq_true (decide (p0.1 < 1)) with hb0 | hb0
  ·
   rw [hb0] at F
   refine vl tk 17 F W fun a w F W => ?_
   refine Ab ?_
   exact ⟨F.re ⟨rfl, Aa, (H0 (by try rw [hb0]; all_goals simp only [H2])), trivial⟩, W⟩
  rw [hb0] at F
  refine Ky tk 5 [0] F W (ai fun a w F W => ?_)
  rcases Bool.eq_false_or_eq_true (decide (8 < p0.1)) with hb1 | hb1
  ·
   rw [hb1] at F
   refine vl tk 12 F W fun a w F W => ?_
   refine Ab ?_
   exact ⟨F.re ⟨rfl, Aa, (H0 (by try rw [hb0]; try rw [hb1]; all_goals simp only [H2])), trivial⟩, W⟩
  rw [hb1] at F
  refine Ky tk 2 [0] F W (ai fun a w F W => ?_)
  refine Hs F W (Ae F Aa Aa Aa Aa) Aa (As Aa) (BS (r := IG) (l := p0.2.1) Rk Aa F Aa (Ad h_v1)).q fun a w F W => ?_
  refine vl tk 3 F W fun a w F W => ?_
  rcases Bool.eq_false_or_eq_true (decide (24 < (p0.2.1.length : Int))) with hb2 | hb2
  ·
   rw [hb2] at F
   refine vl tk 6 F W fun a w F W => ?_
   refine Ab ?_
   exact ⟨F.re ⟨rfl, Aa, (H0 (by try rw [hb2]; try rw [hb0]; try rw [hb1]; all_goals simp only [H2])), trivial⟩, W⟩
  rw [hb2] at F
  refine Ky tk 2 [0] F W (ai fun a w F W => ?_)
  refine Hs F W (Ae F Aa Aa Aa Aa) Aa (As Aa) (BS (r := IB) (l := p0.2.2) OE Aa F Aa (Ad h_v2)).q fun a w F W => ?_
  refine vl tk 3 F W fun a w F W => ?_
  refine Ab ?_
  exact ⟨F.re ⟨rfl, Aa, (H0 (by try rw [hb2]; try rw [hb0]; try rw [hb1]; all_goals simp only [H2])), trivial⟩, W⟩
 rintro a w ⟨F, W⟩
 refine C2 F Aa H (fun F H => ?_) fun F H => ?_
 ·
  refine vc tk 5 F W fun a w F W => ?_
  refine Ao (AE ?_)
  have H := Ax H
  subst H
  refine A1 (.inl Aa) F W Aa (Am F Aa) ?_
  exact ⟨rfl, W.done⟩
 refine FP tk 4 F W fun a w F W => ?_
 refine Sn JX Km F W Aa fun b2 a w F W => ?_
 have W : Stw ⟨Y, [], w0⟩ [(b1, [.int .i64 p0.1, v1, v2])] [mp b2 JX Km ([] : List ((Int × Int) × Unit))] w := W
 refine vl tk 2 F W fun a w F W => ?_
 refine Ab ?_
 obtain ⟨o1, G1, K1, L1⟩ := Mg H
 refine Aq (fun a w => ∃ x1 : List ((Int × Int) × Unit), some (Sum.inl x1) = some o1 ∧ Fr 71 [] [(1, .pointer (some ⟨b1, 0, none⟩)), (2, .bool false)] a ∧ Stw ⟨Y, [], w0⟩ [(b1, [.int .i64 p0.1, v1, v2])] [mp b2 JX Km x1] w) ?_ ?_
 ·
  have H := G1
  clear G1 K1
  refine IL tk 3 [0] F W (ai fun a w F W => ?_)
  obtain ⟨x2, h1, H⟩ := Ac H
  refine A9 (Ml := []) (Zl := []) (β := Value) (rv := fun x => x) (MM := fun x => []) (ZZ := fun x => [row x 126 Ho x2]) F W bG Aa Aa (fun hL => OM _ w (v1) (v2) p0 _ h1 ((Ad h_v1) w W).nx ((Ad h_v2) w W).nx) fun x a w F W => ?_
  obtain ⟨v3, rfl⟩ : ∃ y, y = x := ⟨x, rfl⟩
  have W : Stw ⟨Y, [], w0⟩ [(b1, [.int .i64 p0.1, v1, v2])] [row v3 126 Ho x2, mp b2 JX Km ([] : List ((Int × Int) × Unit))] w := W
  refine ls F W Aa (BS (r := Ho) (l := x2) VL Aa F Aa (Af 0 Aa)).q fun a w F W => ?_
  refine BR tk 4 F W fun a w F W => ?_
  have W := W.frontZ (i := 1) Aa Aa
  have W := W.frontZ (i := 1) Aa Aa
  refine AL H (fun s a w => Fr 71 [] [(1, .pointer (some ⟨b1, 0, none⟩)), (2, .bool false), (3, .map (some b2)), (30, v3), (31, .int .i64 (x2.length : Int)), (32, .int .i64 s.1)] a ∧ Stw ⟨Y, [], w0⟩ [(b1, [.int .i64 p0.1, v1, v2])] [row v3 126 Ho x2, mp b2 JX Km s.2] w) ⟨F.ra Aa, W⟩ fun s o a w H L2 hR => ?_
  obtain ⟨x3, x4⟩ := s
  obtain ⟨F, W⟩ := hR
  have F : Fr 71 [] [(1, .pointer (some ⟨b1, 0, none⟩)), (2, .bool false), (3, .map (some b2)), (30, v3), (31, .int .i64 (x2.length : Int)), (32, .int .i64 x3)] a := F
  have W : Stw ⟨Y, [], w0⟩ [(b1, [.int .i64 p0.1, v1, v2])] [row v3 126 Ho x2, mp b2 JX Km x4] w := W
  rw [Dz] at H
  refine vc tk 6 F W fun a w F W => ?_
  refine AU F Aa H (fun F H => ?_) fun F H => ?_
  ·
   refine FP tk 6 F W fun a w F W => ?_
   obtain ⟨x5, h2, H⟩ := Ac H
   refine ls F W Aa (Al (r := Ho) TO F Aa Aa (Af 0 Aa) h2).q fun a w F W => ?_
   refine ls F W Aa (Ag (y := Value.agg #[.int .i64 x5.1, .int .i64 x5.2]) (j := 0) (i := x3) F Aa Aa (Af 0 Aa) h2 Wz.to WZ Aa).q fun a w F W => ?_
   refine B8 (cs := [.int .i64 0, .int .i64 0]) F W Aa Vt Aa fun b3 a w F W => ?_
   refine Ey 0 F W Aa Aa Aa WZ Aa Aa Aa fun w W => ?_
   refine BR tk 3 F W fun a w F W => ?_
   refine Aq (fun a w => Fr 71 [] [(1, .pointer (some ⟨b1, 0, none⟩)), (2, .bool false), (3, .map (some b2)), (5, .pointer (some ⟨b3, 0, none⟩)), (30, v3), (31, .int .i64 (x2.length : Int)), (32, .int .i64 x3), (55, .bool (decide (x5.1 < 0) || (decide (p0.1 ≤ x5.1) || (decide (x5.2 < 0) || decide (8 ≤ x5.2)))))] a ∧ Stw ⟨Y, [], w0⟩ [(b3, [.int .i64 x5.1, .int .i64 x5.2]), (b1, [.int .i64 p0.1, v1, v2])] [row v3 126 Ho x2, mp b2 JX Km x4] w) ?_ ?_
   ·
    refine IL tk 5 [0] F W (ai fun a w F W => ?_)
    rcases Bool.eq_false_or_eq_true (decide (x5.1 < 0)) with hb0 | hb0
    ·
     rw [hb0] at F
     refine vl tk 17 F W fun a w F W => ?_
     refine Ab ?_
     exact ⟨F.re ⟨rfl, Aa, Aa, Aa, Aa, Aa, Aa, (H0 (by try rw [hb0]; all_goals simp only [H2])), trivial⟩, W⟩
    rw [hb0] at F
    refine Ky tk 7 [0, 1] F W (ai (ai fun a w F W => ?_))
    rcases Bool.eq_false_or_eq_true (decide (p0.1 ≤ x5.1)) with hb1 | hb1
    ·
     rw [hb1] at F
     refine vl tk 10 F W fun a w F W => ?_
     refine Ab ?_
     exact ⟨F.re ⟨rfl, Aa, Aa, Aa, Aa, Aa, Aa, (H0 (by try rw [hb1]; try rw [hb0]; all_goals simp only [H2])), trivial⟩, W⟩
    rw [hb1] at F
    refine Ky tk 5 [0] F W (ai fun a w F W => ?_)
    rcases Bool.eq_false_or_eq_true (decide (x5.2 < 0)) with hb2 | hb2
    ·
     rw [hb2] at F
     refine vl tk 5 F W fun a w F W => ?_
     refine Ab ?_
     exact ⟨F.re ⟨rfl, Aa, Aa, Aa, Aa, Aa, Aa, (H0 (by try rw [hb1]; try rw [hb0]; try rw [hb2]; all_goals simp only [H2])), trivial⟩, W⟩
    rw [hb2] at F
    refine Ky tk 5 [0] F W (ai fun a w F W => ?_)
    refine Ab ?_
    exact ⟨F.re ⟨rfl, Aa, Aa, Aa, Aa, Aa, Aa, (H0 (by try rw [hb1]; try rw [hb0]; try rw [hb2]; all_goals simp only [H2])), trivial⟩, W⟩
   rintro a w ⟨F, W⟩
   refine C2 F Aa H (fun F H => ?_) fun F H => ?_
   ·
    refine vc tk 5 F W fun a w F W => ?_
    refine Ao (AE (AW ?_))
    iterate 2 refine AE ?_
    refine AW (AE ?_)
    have H := L2 _ H
    have H := L1 _ H
    have H := Ax H
    subst H
    refine A1 (.inl Aa) F W Aa (Am F Aa) ?_
    exact ⟨rfl, W.done⟩
   refine Ms tk 7 [0] F W (ai fun a w F W => ?_)
   refine ls F W Aa (SS (zv := (() : Unit)) (kx := (x5 : Int × Int)) (q := 1) (E := JX) (V := Km) F Aa Aa Aa V5 VW XR).q fun a w F W => ?_
   refine ls F W Aa (Ai F Aa).q fun a w F W => ?_
   refine ls F W Aa (Bi (v := Value.agg #[]) F Aa Aa).q fun a w F W => ?_
   refine ls F W Aa (Bi (v := Value.bool ((MP x4 x5).isSome)) F Aa Aa).q fun a w F W => ?_
   refine B8 (cs := []) F W Aa XR Aa fun b4 a w F W => ?_
   refine Ey 0 F W Aa Aa Aa Yp Aa Aa Aa fun w W => ?_
   refine BR tk 8 F W fun a w F W => ?_
   refine Gu F Aa (fun hb => ?_) fun hb => ?_
   ·
    have H := D0 hb H
    rw [hb] at F
    clear hb
    refine vc tk 5 F W fun a w F W => ?_
    refine Ao (AE (AW ?_))
    iterate 2 refine AE ?_
    refine AW (AE ?_)
    have H := L2 _ H
    have H := L1 _ H
    have H := Ax H
    subst H
    refine A1 (.inl Aa) F W Aa (Am F Aa) ?_
    exact ⟨rfl, W.done⟩
   have H := DZ (by rw [hb]; decide) H
   rw [hb] at F
   clear hb
   refine Ms tk 5 [1] F W (ai fun a w F W => ?_)
   refine ls F W Aa (Cg (v := Value.agg #[]) Yr F Aa Aa Aa).q fun a w F W => ?_
   refine T2 (q := 1) (kx := (x5 : Int × Int)) (vx := (() : Unit)) (E := JX) (V := Km) F W Aa Aa Aa Aa Aa V5 VW fun w W => ?_
   have W : Stw ⟨Y, [], w0⟩ [(b4, []), (b3, [.int .i64 x5.1, .int .i64 x5.2]), (b1, [.int .i64 p0.1, v1, v2])] [mp b2 JX Km (MJ x4 x5 ()), row v3 126 Ho x2] w := W
   refine FG (Aw ?_)
   refine vn tk 4 F W fun a w F W => ?_
   refine Ab ?_
   have W := W.frontZ (i := 1) Aa Aa
   have W := W.frontM (i := 2) Aa Aa
   have W := W.sub (M' := [(b1, [.int .i64 p0.1, v1, v2])]) (Z' := [row v3 126 Ho x2, mp b2 JX Km (MJ x4 x5 ())]) (List.Sublist.cons_cons _ (List.nil_sublist _)) (List.Sublist.refl _)
   exact ⟨_, H, F.ra Aa, W⟩
  refine AA ?_
  iterate 2 refine AQ ?_
  refine AC (Ab ?_)
  have W := W.frontZ (i := 1) Aa Aa
  have W := W.sub (M' := [(b1, [.int .i64 p0.1, v1, v2])]) (Z' := [mp b2 JX Km x4]) (List.Sublist.refl _) (List.Sublist.cons_cons _ (List.nil_sublist _))
  have H := L2 _ H
  exact ⟨_, H, F.ra Aa, W⟩
 rintro a w ⟨x1, hj, F, W⟩
 have H := K1 _ hj
 clear hj G1 K1 L1
 refine IL tk 4 [0] F W (ai fun a w F W => ?_)
 obtain ⟨x6, h3, H⟩ := Ac H
 refine ls F W Aa (Be (v := Value.bool x6) F aN Aa (fun w W => Gg any w (v1) p0.2.1 _ h3 (EG (Ad h_v1) W))) fun a w F W => ?_
 refine BR tk 4 F W fun a w F W => ?_
 refine Ao ?_
 have H := Ax H
 subst H
 refine A1 (.inl Aa) F W Aa (Am F Aa) ?_
 exact ⟨rfl, W.done⟩
theorem aR : Has Tryz.prog 48 := Cu Tryz.func48
def DV (p0 : Int) : Bool := (decide (p0 < 0) || decide (8 ≤ p0))
theorem Md (Y : Nat → Prop) (w0 : World)  (p0 : Int) (r : Bool) (H : DV p0 = r)  :
    Calls Tryz.prog 50 #[.int .i64 p0] w0 fun e w' => e = .returned (.bool r) ∧ Below w0.heap.size w0 w' := by
 refine enter Tryz.func50 Aa Tryz.ntmps50 Aa fun a F => ?_
 have W := Stw.start Y w0
 unfold DV at H
 refine vc tk 5 F W fun a w F W => ?_
 refine Aq (fun a w => Fr 9 [] [(2, .bool (decide (p0 < 0) || decide (8 ≤ p0)))] a ∧ Stw ⟨Y, [], w0⟩ [] [] w) ?_ ?_
 ·
  refine vc tk 4 F W fun a w F W => ?_
  rcases Bool.eq_false_or_eq_true (decide (p0 < 0)) with hb0 | hb0
  ·
   rw [hb0] at F
   refine vl tk 5 F W fun a w F W => ?_
   refine Ab ?_
   exact ⟨F.re ⟨(H0 (by try rw [hb0]; all_goals simp only [H2])), trivial⟩, W⟩
  rw [hb0] at F
  refine vl tk 5 F W fun a w F W => ?_
  refine Ab ?_
  exact ⟨F.re ⟨(H0 (by try rw [hb0]; all_goals simp only [H2])), trivial⟩, W⟩
 rintro a w ⟨F, W⟩
 refine Ao ?_
 subst H
 refine A1 (.inl Aa) F W Aa (Am F Aa) ?_
 exact ⟨rfl, W.done⟩
theorem ZX : Has Tryz.prog 50 := Cu Tryz.func50
noncomputable def Bq (p0 : List Int) : Int → Option (Int ⊕ (Unit ⊕ Int))
  | x1 => (if x1 < (p0.length : Int) then (ix p0 x1).bind fun x2 => (if (DV x2) = true then some (.inr (.inr x1)) else some (.inl (An (x1 + 1)))) else some (.inr (.inl ())))
noncomputable def C7 (p0 : List Int) : Option Int := GN (Ap (Bq p0) 0) fun _ => some (-1)
theorem Jc (Y : Nat → Prop) (w0 : World) (v1 : Value) (p0 : List Int) (r : Int) (H : C7 p0 = some r) (h_v1 : Sl w0 (NX []) (Rp.int .i64) v1 p0) :
    Calls Tryz.prog 74 #[v1, .func (.func 50) #[] #[]] w0 fun e w' => e = .returned (.int .i64 r) ∧ Below w0.heap.size w0 w' := by
 refine enter Tryz.func74 Aa Tryz.ntmps74 Aa fun a F => ?_
 have W := Stw.start Y w0
 unfold C7 at H
 refine vc tk 5 F W fun a w F W => ?_
 obtain ⟨o1, G1, K1, L1⟩ := Mg H
 refine Aq (fun a w => some (Sum.inl ()) = some o1 ∧ Fr 19 [] [(4, .int .i64 0)] a ∧ Stw ⟨Y, [], w0⟩ [] [] w) ?_ ?_
 ·
  have H := G1
  clear G1 K1
  refine vc tk 3 F W fun a w F W => ?_
  refine ls F W Aa (BS (r := (Rp.int .i64)) (l := p0) IV Aa F Aa (Ad h_v1)).q fun a w F W => ?_
  refine BR tk 4 F W fun a w F W => ?_
  refine AL H (fun s a w => Fr 19 [] [(0, v1), (1, .func (.func 50) #[] #[]), (4, .int .i64 0), (7, .int .i64 (p0.length : Int)), (8, .int .i64 s)] a ∧ Stw ⟨Y, [], w0⟩ [] [] w) ⟨F.ra Aa, W⟩ fun s o a w H L2 hR => ?_
  obtain ⟨x1, rfl⟩ : ∃ x, x = s := ⟨s, rfl⟩
  obtain ⟨F, W⟩ := hR
  have F : Fr 19 [] [(0, v1), (1, .func (.func 50) #[] #[]), (4, .int .i64 0), (7, .int .i64 (p0.length : Int)), (8, .int .i64 x1)] a := F
  have W : Stw ⟨Y, [], w0⟩ [] [] w := W
  rw [Bq] at H
  refine vc tk 6 F W fun a w F W => ?_
  refine AU F Aa H (fun F H => ?_) fun F H => ?_
  ·
   refine FP tk 15 F W fun a w F W => ?_
   obtain ⟨x2, h1, H⟩ := Ac H
   refine ls F W Aa (Al (r := (Rp.int .i64)) EJ F Aa Aa (Ad h_v1) h1).q fun a w F W => ?_
   refine ls F W Aa (Ag (y := Value.int .i64 x2) (j := 0) (i := x1) F Aa Aa (Ad h_v1) h1 Fl.int.to T3 Aa).q fun a w F W => ?_
   refine ls F W Aa (E1 (ws := [.int .i64 x2]) (v := Value.bool (DV x2)) F ZX Aa (fun w W => Md any w x2 _ Aa)) fun a w F W => ?_
   refine BR tk 2 F W fun a w F W => ?_
   refine C2 F Aa H (fun F H => ?_) fun F H => ?_
   ·
    refine vc tk 6 F W fun a w F W => ?_
    refine Ao (AW ?_)
    iterate 2 refine AE ?_
    refine AW (AE ?_)
    have H := L2 _ H
    have H := L1 _ H
    have H := Ax H
    subst H
    refine A1 (.inl Aa) F W Aa (Am F Aa) ?_
    exact ⟨rfl, W.done⟩
   refine AB (Aw ?_)
   refine vn tk 4 F W fun a w F W => ?_
   refine Ab ?_
   exact ⟨_, H, F.ra Aa, W⟩
  refine AA ?_
  iterate 2 refine AQ ?_
  refine AC (Ab ?_)
  have H := L2 _ H
  exact ⟨H, F.ra Aa, W⟩
 rintro a w ⟨hj, F, W⟩
 have H := K1 _ hj
 clear hj G1 K1 L1
 refine vc tk 5 F W fun a w F W => ?_
 refine Ao ?_
 have H := Ax H
 subst H
 refine A1 (.inl Aa) F W Aa (Am F Aa) ?_
 exact ⟨rfl, W.done⟩
theorem aP : Has Tryz.prog 74 := Cu Tryz.func74
noncomputable def Ci (p0 : List Int) : Option Bool := (C7 p0).bind fun x1 => some (decide (0 ≤ x1))
theorem Ie (Y : Nat → Prop) (w0 : World) (v1 : Value) (p0 : List Int) (r : Bool) (H : Ci p0 = some r) (h_v1 : Sl w0 (NX []) (Rp.int .i64) v1 p0) :
    Calls Tryz.prog 49 #[v1, .func (.func 50) #[] #[]] w0 fun e w' => e = .returned (.bool r) ∧ Below w0.heap.size w0 w' := by
 refine enter Tryz.func49 Aa Tryz.ntmps49 Aa fun a F => ?_
 have W := Stw.start Y w0
 unfold Ci at H
 refine vc tk 9 F W fun a w F W => ?_
 obtain ⟨x1, h1, H⟩ := Ac H
 refine ls F W Aa (Be (v := Value.int .i64 x1) F aP Aa (fun w W => Jc any w (v1) p0 _ h1 (EG (Ad h_v1) W))) fun a w F W => ?_
 refine BR tk 4 F W fun a w F W => ?_
 refine Ao ?_
 have H := Ax H
 subst H
 refine A1 (.inl Aa) F W Aa (Am F Aa) ?_
 exact ⟨rfl, W.done⟩
theorem bN : Has Tryz.prog 49 := Cu Tryz.func49
noncomputable def EN (p0 : Int × (List (Int × Int × Int × Int × Int × Int)) × (List (Int × Int))) (p1 : List (List Int)) : Int → Option (Int ⊕ (Unit ⊕ Bool))
  | x3 => (if x3 < (p1.length : Int) then (ix p1 x3).bind fun x4 => (if (x4.length : Int) ≠ (p0.2.2.length : Int) then some true else (Ci x4).bind fun x6 => some x6).bind fun x5 => (if x5 = true then some (.inr (.inr false)) else some (.inl (An (x3 + 1)))) else some (.inr (.inl ())))
noncomputable def FN (p0 : Int × (List (Int × Int × Int × Int × Int × Int)) × (List (Int × Int))) (p1 : List (List Int)) : Option Bool := ((Hf p0).bind fun x2 => (if (!x2) = true then some true else some (decide ((p1.length : Int) ≠ p0.1)))).bind fun x1 => (if x1 = true then some false else GN (Ap (EN p0 p1) 0) fun _ => some true)
theorem Lo (Y : Nat → Prop) (w0 : World) (v1 : Value) (v2 : Value) (v3 : Value) (p0 : Int × (List (Int × Int × Int × Int × Int × Int)) × (List (Int × Int))) (p1 : List (List Int)) (r : Bool) (H : FN p0 p1 = some r) (h_v1 : Sl w0 (NX []) IG v1 p0.2.1) (h_v2 : Sl w0 (NX []) IB v2 p0.2.2) (h_v3 : Sl w0 (NX []) (Rp.slice (Rp.int .i64)) v3 p1) :
    Calls Tryz.prog 29 #[.agg #[.int .i64 p0.1, v1, v2], v3] w0 fun e w' => e = .returned (.bool r) ∧ Below w0.heap.size w0 w' := by
 refine enter Tryz.func29 Aa Tryz.ntmps29 Aa fun a F => ?_
 have W := Stw.start Y w0
 obtain ⟨v4, h1, h_v3⟩ := h_v3.ex CM
 unfold FN at H
 refine vc tk 2 F W fun a w F W => ?_
 refine D2 (cs := [.int .i64 p0.1, v1, v2]) F W Aa Aa Aa fun b1 a w F W => ?_
 refine BR tk 4 F W fun a w F W => ?_
 obtain ⟨o1, G1, K1⟩ := Ac H
 refine Aq (fun a w => ∃ x1 : Bool, some (x1) = some o1 ∧ Fr 34 [] [(1, v3), (2, .pointer (some ⟨b1, 0, none⟩)), (4, .bool false), (16, .bool x1)] a ∧ Stw ⟨Y, [], w0⟩ [(b1, [.int .i64 p0.1, v1, v2])] [] w) ?_ ?_
 ·
  have H := G1
  clear G1 K1
  refine IL tk 2 [0] F W (ai fun a w F W => ?_)
  obtain ⟨x2, h2, H⟩ := Ac H
  refine ls F W Aa (Be (v := Value.bool x2) F aR Aa (fun w W => Pl any w (v1) (v2) p0 _ h2 (EG (Ad h_v1) W) (EG (Ad h_v2) W))) fun a w F W => ?_
  refine vl tk 2 F W fun a w F W => ?_
  rcases Bool.eq_false_or_eq_true (!x2) with hb | hb
  ·
   have H := D0 hb H
   rw [hb] at F
   clear hb
   refine vl tk 7 F W fun a w F W => ?_
   refine Ab ?_
   exact ⟨_, H, F.ra Aa, W⟩
  have H := DZ (by rw [hb]; decide) H
  rw [hb] at F
  clear hb
  refine Hs F W (Ae F Aa Aa Aa Aa) Aa (As Aa) (Ai F Aa).q fun a w F W => ?_
  refine Hs F W (Ae F Aa Aa Aa Aa) Aa (As Aa) (BS (r := (Rp.slice (Rp.int .i64))) (l := p1) Nn Aa F Aa (AN CM h1 (Ad h_v3))).q fun a w F W => ?_
  refine Ky tk 5 [0] F W (ai fun a w F W => ?_)
  refine Ab ?_
  exact ⟨_, H, F.ra Aa, W⟩
 rintro a w ⟨x1, hj, F, W⟩
 have hj := Ax hj
 subst hj
 have H := K1
 clear G1 K1
 refine C2 F Aa H (fun F H => ?_) fun F H => ?_
 ·
  refine vc tk 5 F W fun a w F W => ?_
  refine Ao (AE ?_)
  have H := Ax H
  subst H
  refine A1 (.inl Aa) F W Aa (Am F Aa) ?_
  exact ⟨rfl, W.done⟩
 refine AB (Ab ?_)
 obtain ⟨o2, G2, K2, L2⟩ := Mg H
 refine Aq (fun a w => some (Sum.inl ()) = some o2 ∧ Fr 34 [] [(4, .bool false)] a ∧ Stw ⟨Y, [], w0⟩ [(b1, [.int .i64 p0.1, v1, v2])] [] w) ?_ ?_
 ·
  have H := G2
  clear G2 K2
  refine vc tk 3 F W fun a w F W => ?_
  refine ls F W Aa (BS (r := (Rp.slice (Rp.int .i64))) (l := p1) Nn Aa F Aa (AN CM h1 (Ad h_v3))).q fun a w F W => ?_
  refine BR tk 4 F W fun a w F W => ?_
  refine AL H (fun s a w => Fr 34 [] [(2, .pointer (some ⟨b1, 0, none⟩)), (4, .bool false), (17, v3), (18, .int .i64 (p1.length : Int)), (19, .int .i64 s)] a ∧ Stw ⟨Y, [], w0⟩ [(b1, [.int .i64 p0.1, v1, v2])] [] w) ⟨F.ra Aa, W⟩ fun s o a w H L3 hR => ?_
  obtain ⟨x3, rfl⟩ : ∃ x, x = s := ⟨s, rfl⟩
  obtain ⟨F, W⟩ := hR
  have F : Fr 34 [] [(2, .pointer (some ⟨b1, 0, none⟩)), (4, .bool false), (17, v3), (18, .int .i64 (p1.length : Int)), (19, .int .i64 x3)] a := F
  have W : Stw ⟨Y, [], w0⟩ [(b1, [.int .i64 p0.1, v1, v2])] [] w := W
  rw [EN] at H
  refine vc tk 6 F W fun a w F W => ?_
  refine AU F Aa H (fun F H => ?_) fun F H => ?_
  ·
   refine FP tk 6 F W fun a w F W => ?_
   obtain ⟨x4, h3, H⟩ := Ac H
   obtain ⟨v5, h4, h5⟩ := E5 h1 h3
   have h6 : Hd v5 = [(v5.1)] := congrArg (fun q : List Int => ([(v5.1)] : List Value)) h5
   refine ls F W Aa (Al (r := (Rp.vsl (Rp.int .i64))) Ps F Aa Aa (Ad h_v3) h4).q fun a w F W => ?_
   refine ls F W Aa (Ag (y := (v5.1)) (j := 0) (i := x3) (enc := Hd) F Aa Aa (Ad h_v3) h4 LI NA (by rw [h6]; rfl)).q fun a w F W => ?_
   refine vl tk 2 F W fun a w F W => ?_
   refine Ab ?_
   obtain ⟨o4, G4, K4⟩ := Ac H
   refine Aq (fun a w => ∃ x5 : Bool, some (x5) = some o4 ∧ Fr 34 [] [(2, .pointer (some ⟨b1, 0, none⟩)), (4, .bool false), (17, v3), (18, .int .i64 (p1.length : Int)), (19, .int .i64 x3), (32, .bool x5)] a ∧ Stw ⟨Y, [], w0⟩ [(b1, [.int .i64 p0.1, v1, v2])] [] w) ?_ ?_
   ·
    have H := G4
    clear G4 K4
    refine vc tk 2 F W fun a w F W => ?_
    refine ls F W Aa (BS (r := (Rp.int .i64)) (l := x4) IV Aa F Aa (Dc (Ad h_v3) h4 DP.here (congrArg (fun q : List Int => q) h5))).q fun a w F W => ?_
    refine Ky tk 2 [0] F W (ai fun a w F W => ?_)
    refine ls F W Aa (BS (r := IB) (l := p0.2.2) OE Aa F Aa (Ad h_v2)).q fun a w F W => ?_
    refine vl tk 2 F W fun a w F W => ?_
    rcases Bool.eq_false_or_eq_true (decide ((x4.length : Int) ≠ (p0.2.2.length : Int))) with hb | hb
    ·
     have H := D0 (Fm hb) H
     rw [hb] at F
     clear hb
     refine vl tk 4 F W fun a w F W => ?_
     refine Ab ?_
     exact ⟨_, H, F.ra Aa, W⟩
    have H := DZ (Fo hb) H
    rw [hb] at F
    clear hb
    refine Hs F W (Ae F Aa Aa Aa Aa) Aa (As Aa) (Ai F Aa).q fun a w F W => ?_
    refine MB (Ae F Aa Aa Aa Aa) ?_
    obtain ⟨x6, h7, H⟩ := Ac H
    refine ls F W Aa (Be (v := Value.bool x6) F bN Aa (fun w W => Ie any w ((v5.1)) x4 _ h7 (EG (Dc (Ad h_v3) h4 DP.here (congrArg (fun q : List Int => q) h5)) W))) fun a w F W => ?_
    refine vl tk 2 F W fun a w F W => ?_
    refine Ab ?_
    exact ⟨_, H, F.ra Aa, W⟩
   rintro a w ⟨x5, hj, F, W⟩
   have hj := Ax hj
   subst hj
   have H := K4
   clear G4 K4
   refine C2 F Aa H (fun F H => ?_) fun F H => ?_
   ·
    refine vc tk 5 F W fun a w F W => ?_
    refine Ao (AW ?_)
    iterate 2 refine AE ?_
    refine AW (AE ?_)
    have H := L3 _ H
    have H := L2 _ H
    have H := Ax H
    subst H
    refine A1 (.inl Aa) F W Aa (Am F Aa) ?_
    exact ⟨rfl, W.done⟩
   refine AB (Aw ?_)
   refine vn tk 4 F W fun a w F W => ?_
   refine Ab ?_
   exact ⟨_, H, F.ra Aa, W⟩
  refine AA ?_
  iterate 2 refine AQ ?_
  refine AC (Ab ?_)
  have H := L3 _ H
  exact ⟨H, F.ra Aa, W⟩
 rintro a w ⟨hj, F, W⟩
 have H := K2 _ hj
 clear hj G2 K2 L2
 refine vc tk 5 F W fun a w F W => ?_
 refine Ao ?_
 have H := Ax H
 subst H
 refine A1 (.inl Aa) F W Aa (Am F Aa) ?_
 exact ⟨rfl, W.done⟩
theorem Zk : Has Tryz.prog 29 := Cu Tryz.func29
theorem MO : Tryz.prog.follows .mixedOrders = true := by kernel_rfl
theorem Yo (dd : Nat) (x0 : Int) (x1 : Int) (y0 : Int) (y1 : Int) (w : World) : (Op.equalIn (dd + 2) 51 (.agg #[.int .i64 x0, .int .i64 x1]) (.agg #[.int .i64 y0, .int .i64 y1])).run Tryz.prog w = .ok (decide (x0 = y0 ∧ x1 = y1)) w :=
  MQ (d := dd + 1) (rs := [decide (x0 = y0), decide (x1 = y1)]) XK (by kernel_rfl) ⟨rfl, Kg (d := dd + 0) rfl rfl QW T3 rfl rfl, rfl, Kg (d := dd + 0) rfl rfl QW T3 rfl rfl, trivial⟩ (by simp) w
theorem ZC : Tryz.prog.eqGuardType Tryz.prog.depth 51 = false := by kernel_rfl
theorem ZB (x0 : Int) (x1 : Int) (y0 : Int) (y1 : Int) (w : World) : (Op.equalIn 10000 51 (.agg #[.int .i64 x0, .int .i64 x1]) (.agg #[.int .i64 y0, .int .i64 y1])).run Tryz.prog w = .ok (decide (x0 = y0 ∧ x1 = y1)) w := Yo 9998 x0 x1 y0 y1 w
abbrev Vj (a0 : Nat) (a1 : Int × Int) : List (Nat × List Value) := [(a0, [.int .i64 a1.1, .int .i64 a1.2])]
noncomputable def A3 (p0 : List (Int × Int)) (p1 : Int × Int) : Int → Option (Int ⊕ (Unit ⊕ Int))
  | x1 => (if x1 < (p0.length : Int) then (ix p0 x1).bind fun x2 => (if p1.1 = x2.1 ∧ p1.2 = x2.2 then some (.inr (.inr x1)) else some (.inl (An (x1 + 1)))) else some (.inr (.inl ())))
noncomputable def Cl (p0 : List (Int × Int)) (p1 : Int × Int) : Option Int := GN (Ap (A3 p0 p1) 0) fun _ => some (-1)
theorem Hy (Y : Nat → Prop) (w0 : World) (v1 : Value) (p0 : List (Int × Int)) (p1 : Int × Int) (r : Int) (H : Cl p0 p1 = some r) (h_v1 : Sl w0 (NX []) IB v1 p0) :
    Calls Tryz.prog 75 #[v1, .agg #[.int .i64 p1.1, .int .i64 p1.2]] w0 fun e w' => e = .returned (.int .i64 r) ∧ Below w0.heap.size w0 w' := by
 refine enter Tryz.func75 Aa Tryz.ntmps75 Aa fun a F => ?_
 have W := Stw.start Y w0
 unfold Cl at H
 refine vc tk 2 F W fun a w F W => ?_
 refine D2 (cs := [.int .i64 p1.1, .int .i64 p1.2]) F W Aa Aa Aa fun b1 a w F W => ?_
 refine vl tk 2 F W fun a w F W => ?_
 refine Ab ?_
 obtain ⟨o1, G1, K1, L1⟩ := Mg H
 refine Aq (fun a w => some (Sum.inl ()) = some o1 ∧ Fr 19 [] [(4, .int .i64 0)] a ∧ Stw ⟨Y, [], w0⟩ (Vj b1 p1) [] w) ?_ ?_
 ·
  have H := G1
  clear G1 K1
  refine vc tk 3 F W fun a w F W => ?_
  refine ls F W Aa (BS (r := IB) (l := p0) OE Aa F Aa (Ad h_v1)).q fun a w F W => ?_
  refine BR tk 4 F W fun a w F W => ?_
  refine AL H (fun s a w => Fr 19 [] [(0, v1), (3, .pointer (some ⟨b1, 0, none⟩)), (4, .int .i64 0), (7, .int .i64 (p0.length : Int)), (8, .int .i64 s)] a ∧ Stw ⟨Y, [], w0⟩ (Vj b1 p1) [] w) ⟨F.ra Aa, W⟩ fun s o a w H L2 hR => ?_
  obtain ⟨x1, rfl⟩ : ∃ x, x = s := ⟨s, rfl⟩
  obtain ⟨F, W⟩ := hR
  have F : Fr 19 [] [(0, v1), (3, .pointer (some ⟨b1, 0, none⟩)), (4, .int .i64 0), (7, .int .i64 (p0.length : Int)), (8, .int .i64 x1)] a := F
  have W : Stw ⟨Y, [], w0⟩ (Vj b1 p1) [] w := W
  rw [A3] at H
  refine vc tk 6 F W fun a w F W => ?_
  refine AU F Aa H (fun F H => ?_) fun F H => ?_
  ·
   refine FP tk 11 F W fun a w F W => ?_
   refine BB W MO (by kernel_rfl) ?_
   refine qs F Aa (BE (v := Value.agg #[.int .i64 p1.1, .int .i64 p1.2]) 0 F Aa Aa Yn Aa).q fun a F => ?_
   iterate 2 refine qs F Aa (Ai F Aa).q fun a F => ?_
   obtain ⟨x2, h1, H⟩ := Ac H
   refine qs F Aa (Al (r := IB) YZ F Aa Aa (Ad h_v1) h1).q fun a F => ?_
   refine qs F Aa (Ag (y := Value.agg #[.int .i64 x2.1, .int .i64 x2.2]) (j := 0) (i := x1) F Aa Aa (Ad h_v1) h1 Yu.to Yn Aa).q fun a F => ?_
   refine qs F Aa (RQ (t := decide (p1.1 = x2.1 ∧ p1.2 = x2.2)) ZC (ZB _ _ _ _) F Aa Aa).q fun a F => ?_
   refine AD fun w W => ?_
   refine Ab ?_
   refine AU F Aa H (fun F H => ?_) fun F H => ?_
   ·
    refine vc tk 6 F W fun a w F W => ?_
    refine Ao (AW ?_)
    iterate 2 refine AE ?_
    refine AW (AE ?_)
    have H := L2 _ H
    have H := L1 _ H
    have H := Ax H
    subst H
    refine A1 (.inl Aa) F W Aa (Am F Aa) ?_
    exact ⟨rfl, W.done⟩
   refine AB (Aw ?_)
   refine vn tk 4 F W fun a w F W => ?_
   refine Ab ?_
   exact ⟨_, H, F.ra Aa, W⟩
  refine AA ?_
  iterate 2 refine AQ ?_
  refine AC (Ab ?_)
  have H := L2 _ H
  exact ⟨H, F.ra Aa, W⟩
 rintro a w ⟨hj, F, W⟩
 have H := K1 _ hj
 clear hj G1 K1 L1
 refine vc tk 5 F W fun a w F W => ?_
 refine Ao ?_
 have H := Ax H
 subst H
 refine A1 (.inl Aa) F W Aa (Am F Aa) ?_
 exact ⟨rfl, W.done⟩
theorem ZM : Has Tryz.prog 75 := Cu Tryz.func75
noncomputable def EF (p0 : Int × (List (Int × Int × Int × Int × Int × Int)) × (List (Int × Int))) (p1 : Int) (p2 : Int) : Option Int := (Cl p0.2.2 (p1, p2)).bind fun x1 => some x1
theorem Ll (Y : Nat → Prop) (w0 : World) (v1 : Value) (v2 : Value) (p0 : Int × (List (Int × Int × Int × Int × Int × Int)) × (List (Int × Int))) (p1 : Int) (p2 : Int) (r : Int) (H : EF p0 p1 p2 = some r) (h_v1 : Sl w0 (NX []) IG v1 p0.2.1) (h_v2 : Sl w0 (NX []) IB v2 p0.2.2) :
    Calls Tryz.prog 51 #[.agg #[.int .i64 p0.1, v1, v2], .int .i64 p1, .int .i64 p2] w0 fun e w' => e = .returned (.int .i64 r) ∧ Below w0.heap.size w0 w' := by
 refine enter Tryz.func51 Aa Tryz.ntmps51 Aa fun a F => ?_
 have W := Stw.start Y w0
 unfold EF at H
 refine vc tk 2 F W fun a w F W => ?_
 refine D2 (cs := [.int .i64 p0.1, v1, v2]) F W Aa Aa Aa fun b1 a w F W => ?_
 refine JG tk 9 [0] F W (ai fun a w F W => ?_)
 refine ls F W Aa (Cg (v := Value.agg #[.int .i64 p1, .int .i64 p2]) Zr F Aa Aa Aa).q fun a w F W => ?_
 obtain ⟨x1, h1, H⟩ := Ac H
 refine ls F W Aa (Be (v := Value.int .i64 x1) F ZM Aa (fun w W => Hy any w (v2) p0.2.2 (p1, p2) _ h1 (EG (Ad h_v2) W))) fun a w F W => ?_
 refine BR tk 3 F W fun a w F W => ?_
 refine Ao ?_
 have H := Ax H
 subst H
 refine A1 (.inl Aa) F W Aa (Am F Aa) ?_
 exact ⟨rfl, W.done⟩
theorem Zs : Has Tryz.prog 51 := Cu Tryz.func51
noncomputable def D8 (p0 : Int × (List (Int × Int × Int × Int × Int × Int)) × (List (Int × Int))) (p1 : Int) (p2 : Int) : Int → Option (Int ⊕ (Unit ⊕ (Int × Int × Int × Bool)))
  | x1 => (if x1 < (p0.2.1.length : Int) then (ix p0.2.1 x1).bind fun x2 => (if p1 = x2.1 ∧ p2 = x2.2.1 then some (.inr (.inr (x2.2.2.1, x2.2.2.2.1, x1, true))) else (if p1 = x2.2.2.1 ∧ p2 = x2.2.2.2.1 then some (.inr (.inr (x2.1, x2.2.1, x1, true))) else some (.inl (An (x1 + 1))))) else some (.inr (.inl ())))
noncomputable def F5 (p0 : Int × (List (Int × Int × Int × Int × Int × Int)) × (List (Int × Int))) (p1 : Int) (p2 : Int) : Option (Int × Int × Int × Bool) := GN (Ap (D8 p0 p1 p2) 0) fun _ => some (0, 0, 0, false)
theorem M9 (Y : Nat → Prop) (w0 : World) (v1 : Value) (v2 : Value) (p0 : Int × (List (Int × Int × Int × Int × Int × Int)) × (List (Int × Int))) (p1 : Int) (p2 : Int) (r : Int × Int × Int × Bool) (H : F5 p0 p1 p2 = some r) (h_v1 : Sl w0 (NX []) IG v1 p0.2.1) (h_v2 : Sl w0 (NX []) IB v2 p0.2.2) :
    Calls Tryz.prog 58 #[.agg #[.int .i64 p0.1, v1, v2], .int .i64 p1, .int .i64 p2] w0 fun e w' => e = .returned (.tuple #[.int .i64 r.1, .int .i64 r.2.1, .int .i64 r.2.2.1, .bool r.2.2.2]) ∧ Below w0.heap.size w0 w' := by
 refine enter Tryz.func58 Aa Tryz.ntmps58 Aa fun a F => ?_
 have W := Stw.start Y w0
 unfold F5 at H
 refine vc tk 2 F W fun a w F W => ?_
 refine D2 (cs := [.int .i64 p0.1, v1, v2]) F W Aa Aa Aa fun b1 a w F W => ?_
 refine BR tk 10 F W fun a w F W => ?_
 refine ls F W Aa (Cg (v := Value.agg #[.int .i64 p1, .int .i64 p2]) Su F Aa Aa Aa).q fun a w F W => ?_
 refine B8 (cs := [.int .i64 0, .int .i64 0]) F W Aa Vt Aa fun b2 a w F W => ?_
 refine Ey 0 F W Aa Aa Aa WZ Aa Aa Aa fun w W => ?_
 refine FG (Ab ?_)
 obtain ⟨o1, G1, K1, L1⟩ := Mg H
 refine Aq (fun a w => some (Sum.inl ()) = some o1 ∧ Fr 49 [] [(6, .int .i64 0), (7, .int .i64 0), (8, .int .i64 0), (9, .bool false)] a ∧ Stw ⟨Y, [], w0⟩ [(b2, [.int .i64 p1, .int .i64 p2]), (b1, [.int .i64 p0.1, v1, v2])] [] w) ?_ ?_
 ·
  have H := G1
  clear G1 K1
  refine IL tk 4 [1] F W (ai fun a w F W => ?_)
  refine ls F W Aa (BS (r := IG) (l := p0.2.1) Rk Aa F Aa (Ad h_v1)).q fun a w F W => ?_
  refine BR tk 4 F W fun a w F W => ?_
  have W := W.frontM (i := 1) Aa Aa
  have W := W.frontM (i := 1) Aa Aa
  refine AL H (fun s a w => Fr 49 [] [(6, .int .i64 0), (7, .int .i64 0), (8, .int .i64 0), (9, .bool false), (10, .pointer (some ⟨b2, 0, none⟩)), (17, v1), (18, .int .i64 (p0.2.1.length : Int)), (19, .int .i64 s)] a ∧ Stw ⟨Y, [], w0⟩ [(b2, [.int .i64 p1, .int .i64 p2]), (b1, [.int .i64 p0.1, v1, v2])] [] w) ⟨F.ra Aa, W⟩ fun s o a w H L2 hR => ?_
  obtain ⟨x1, rfl⟩ : ∃ x, x = s := ⟨s, rfl⟩
  obtain ⟨F, W⟩ := hR
  have F : Fr 49 [] [(6, .int .i64 0), (7, .int .i64 0), (8, .int .i64 0), (9, .bool false), (10, .pointer (some ⟨b2, 0, none⟩)), (17, v1), (18, .int .i64 (p0.2.1.length : Int)), (19, .int .i64 x1)] a := F
  have W : Stw ⟨Y, [], w0⟩ [(b2, [.int .i64 p1, .int .i64 p2]), (b1, [.int .i64 p0.1, v1, v2])] [] w := W
  rw [D8] at H
  refine vc tk 6 F W fun a w F W => ?_
  refine AU F Aa H (fun F H => ?_) fun F H => ?_
  ·
   refine FP tk 7 F W fun a w F W => ?_
   obtain ⟨x2, h1, H⟩ := Ac H
   refine ls F W Aa (Al (r := IG) Xg F Aa Aa (Ad h_v1) h1).q fun a w F W => ?_
   refine ls F W Aa (Ag (y := Value.agg #[.int .i64 x2.1, .int .i64 x2.2.1, .int .i64 x2.2.2.1, .int .i64 x2.2.2.2.1, .int .i64 x2.2.2.2.2.1, .int .i64 x2.2.2.2.2.2]) (j := 0) (i := x1) F Aa Aa (Ad h_v1) h1 X1.to V8 Aa).q fun a w F W => ?_
   refine B8 (cs := (We)) F W Aa Yj Aa fun b3 a w F W => ?_
   refine ls F W Aa (Dn F Aa).q fun a w F W => ?_
   refine Ey 0 F W Aa Aa Aa V8 Aa Aa Aa fun w W => ?_
   refine JG tk 10 [1, 0, 0] F W (ai (ai (ai fun a w F W => ?_)))
   refine ls F W Aa (Cg (v := Value.agg #[.int .i64 x2.1, .int .i64 x2.2.1]) Su F Aa Aa Aa).q fun a w F W => ?_
   refine ls F W Aa (RQ (t := decide (p1 = x2.1 ∧ p2 = x2.2.1)) XI (Wi _ _ _ _) F Aa Aa).q fun a w F W => ?_
   refine BR tk 2 F W fun a w F W => ?_
   refine AU F Aa H (fun F H => ?_) fun F H => ?_
   ·
    refine Hp ?_
    refine BB W MO (by kernel_rfl) ?_
    refine qs F Aa (Az TP Aa Aa Aa T3 F Aa 2 Aa).q fun a F => ?_
    refine qs F Aa (BE (v := Value.int .i64 x2.2.2.1) 0 F Aa Aa T3 Aa).q fun a F => ?_
    refine qs F Aa (Az TP Aa Aa Aa T3 F Aa 3 Aa).q fun a F => ?_
    refine qs F Aa (BE (v := Value.int .i64 x2.2.2.2.1) 0 F Aa Aa T3 Aa).q fun a F => ?_
    refine qs F Aa (Ai F Aa).q fun a F => ?_
    iterate 4 refine qs F Aa (Dn F Aa).q fun a F => ?_
    refine AD fun w W => ?_
    refine Ab (Ao (AE (AW ?_)))
    iterate 2 refine AE ?_
    refine AW (AE ?_)
    have H := L2 _ H
    have H := L1 _ H
    have H := Ax H
    subst H
    refine TC (.inl Aa) F W Aa (Am F Aa) (Am F Aa) (Am F Aa) (Am F Aa) ?_
    exact ⟨rfl, W.done⟩
   refine Ms tk 9 [1, 0, 0] F W (ai (ai (ai fun a w F W => ?_)))
   refine ls F W Aa (Cg (v := Value.agg #[.int .i64 x2.2.2.1, .int .i64 x2.2.2.2.1]) Su F Aa Aa Aa).q fun a w F W => ?_
   refine ls F W Aa (RQ (t := decide (p1 = x2.2.2.1 ∧ p2 = x2.2.2.2.1)) XI (Wi _ _ _ _) F Aa Aa).q fun a w F W => ?_
   refine BR tk 2 F W fun a w F W => ?_
   refine AU F Aa H (fun F H => ?_) fun F H => ?_
   ·
    refine Hp ?_
    refine BB W MO (by kernel_rfl) ?_
    refine qs F Aa (Az TP Aa Aa Aa T3 F Aa 0 Aa).q fun a F => ?_
    refine qs F Aa (BE (v := Value.int .i64 x2.1) 0 F Aa Aa T3 Aa).q fun a F => ?_
    refine qs F Aa (Az TP Aa Aa Aa T3 F Aa 1 Aa).q fun a F => ?_
    refine qs F Aa (BE (v := Value.int .i64 x2.2.1) 0 F Aa Aa T3 Aa).q fun a F => ?_
    refine qs F Aa (Ai F Aa).q fun a F => ?_
    iterate 4 refine qs F Aa (Dn F Aa).q fun a F => ?_
    refine AD fun w W => ?_
    refine Ab (Ao (AW ?_))
    iterate 2 refine AE ?_
    refine AW (AE ?_)
    have H := L2 _ H
    have H := L1 _ H
    have H := Ax H
    subst H
    refine TC (.inl Aa) F W Aa (Am F Aa) (Am F Aa) (Am F Aa) (Am F Aa) ?_
    exact ⟨rfl, W.done⟩
   refine AB (Aw ?_)
   refine vn tk 4 F W fun a w F W => ?_
   refine Ab ?_
   have W := W.frontM (i := 2) Aa Aa
   have W := W.frontM (i := 2) Aa Aa
   have W := W.sub (M' := [(b2, [.int .i64 p1, .int .i64 p2]), (b1, [.int .i64 p0.1, v1, v2])]) (Z' := []) (List.Sublist.cons_cons _ (List.Sublist.cons_cons _ (List.nil_sublist _))) (List.Sublist.refl _)
   exact ⟨_, H, F.ra Aa, W⟩
  refine AA ?_
  iterate 2 refine AQ ?_
  refine AC (Ab ?_)
  have W := W.frontM (i := 1) Aa Aa
  have W := W.frontM (i := 1) Aa Aa
  have H := L2 _ H
  exact ⟨H, F.ra Aa, W⟩
 rintro a w ⟨hj, F, W⟩
 have H := K1 _ hj
 clear hj G1 K1 L1
 refine vc tk 8 F W fun a w F W => ?_
 refine Ao ?_
 have H := Ax H
 subst H
 refine TC (.inl Aa) F W Aa (Am F Aa) (Am F Aa) (Am F Aa) (Am F Aa) ?_
 exact ⟨rfl, W.done⟩
theorem Zb : Has Tryz.prog 58 := Cu Tryz.func58
noncomputable def He (p0 : Int × (List (Int × Int × Int × Int × Int × Int)) × (List (Int × Int))) (p1 : List (List Int)) (p2 : Int) (p3 : Int) : Option (Int × Bool) := (if p2 < 0 then some true else (if (p1.length : Int) ≤ p2 then some true else (if p3 < 0 then some true else (ix p1 p2).bind fun x2 => some (decide ((x2.length : Int) ≤ p3))))).bind fun x1 => (if x1 = true then some (0, false) else (ix p1 p2).bind fun x3 => (ix x3 p3).bind fun x4 => (F5 p0 p2 x4).bind fun x5 => some (x5.1, x5.2.2.2))
theorem P0 (Y : Nat → Prop) (w0 : World) (v1 : Value) (v2 : Value) (v3 : Value) (p0 : Int × (List (Int × Int × Int × Int × Int × Int)) × (List (Int × Int))) (p1 : List (List Int)) (p2 : Int) (p3 : Int) (r : Int × Bool) (H : He p0 p1 p2 p3 = some r) (h_v1 : Sl w0 (NX []) IG v1 p0.2.1) (h_v2 : Sl w0 (NX []) IB v2 p0.2.2) (h_v3 : Sl w0 (NX []) (Rp.slice (Rp.int .i64)) v3 p1) :
    Calls Tryz.prog 52 #[.agg #[.int .i64 p0.1, v1, v2], v3, .int .i64 p2, .int .i64 p3] w0 fun e w' => e = .returned (.tuple #[.int .i64 r.1, .bool r.2]) ∧ Below w0.heap.size w0 w' := by
 refine enter Tryz.func52 Aa Tryz.ntmps52 Aa fun a F => ?_
 have W := Stw.start Y w0
 obtain ⟨v4, h1, h_v3⟩ := h_v3.ex CM
 unfold He at H
 refine vc tk 2 F W fun a w F W => ?_
 refine D2 (cs := [.int .i64 p0.1, v1, v2]) F W Aa Aa Aa fun b1 a w F W => ?_
 refine BR tk 5 F W fun a w F W => ?_
 obtain ⟨o1, G1, K1⟩ := Ac H
 refine Aq (fun a w => ∃ x1 : Bool, some (x1) = some o1 ∧ Fr 52 [] [(1, v3), (2, .int .i64 p2), (3, .int .i64 p3), (4, .pointer (some ⟨b1, 0, none⟩)), (8, .int .i64 0), (9, .bool false), (34, .bool x1)] a ∧ Stw ⟨Y, [], w0⟩ [(b1, [.int .i64 p0.1, v1, v2])] [] w) ?_ ?_
 ·
  have H := G1
  clear G1 K1
  refine vc tk 4 F W fun a w F W => ?_
  rcases Bool.eq_false_or_eq_true (decide (p2 < 0)) with hb | hb
  ·
   have H := D0 (Fm hb) H
   rw [hb] at F
   clear hb
   refine vl tk 19 F W fun a w F W => ?_
   refine Ab ?_
   exact ⟨_, H, F.ra Aa, W⟩
  have H := DZ (Fo hb) H
  rw [hb] at F
  clear hb
  refine vl tk 2 F W fun a w F W => ?_
  refine Hs F W (Ae F Aa Aa Aa Aa) Aa (As Aa) (BS (r := (Rp.slice (Rp.int .i64))) (l := p1) Nn Aa F Aa (AN CM h1 (Ad h_v3))).q fun a w F W => ?_
  refine vl tk 3 F W fun a w F W => ?_
  rcases Bool.eq_false_or_eq_true (decide ((p1.length : Int) ≤ p2)) with hb | hb
  ·
   have H := D0 (Fm hb) H
   rw [hb] at F
   clear hb
   refine vl tk 13 F W fun a w F W => ?_
   refine Ab ?_
   exact ⟨_, H, F.ra Aa, W⟩
  have H := DZ (Fo hb) H
  rw [hb] at F
  clear hb
  refine vl tk 4 F W fun a w F W => ?_
  rcases Bool.eq_false_or_eq_true (decide (p3 < 0)) with hb | hb
  ·
   have H := D0 (Fm hb) H
   rw [hb] at F
   clear hb
   refine vl tk 9 F W fun a w F W => ?_
   refine Ab ?_
   exact ⟨_, H, F.ra Aa, W⟩
  have H := DZ (Fo hb) H
  rw [hb] at F
  clear hb
  refine vl tk 3 F W fun a w F W => ?_
  obtain ⟨x2, h2, H⟩ := Ac H
  obtain ⟨v5, h3, h4⟩ := E5 h1 h2
  have h5 : Hd v5 = [(v5.1)] := congrArg (fun q : List Int => ([(v5.1)] : List Value)) h4
  refine Hs F W (Ae F Aa Aa Aa Aa) Aa (As Aa) (Al (r := (Rp.vsl (Rp.int .i64))) Ps F Aa Aa (Ad h_v3) h3).q fun a w F W => ?_
  refine Hs F W (Ae F Aa Aa Aa Aa) Aa (As Aa) (Ag (y := (v5.1)) (j := 0) (i := p2) (enc := Hd) F Aa Aa (Ad h_v3) h3 LI NA (by rw [h5]; rfl)).q fun a w F W => ?_
  refine Hs F W (Ae F Aa Aa Aa Aa) Aa (As Aa) (BS (r := (Rp.int .i64)) (l := x2) IV Aa F Aa (Dc (Ad h_v3) h3 DP.here (congrArg (fun q : List Int => q) h4))).q fun a w F W => ?_
  refine vl tk 3 F W fun a w F W => ?_
  refine Ab ?_
  exact ⟨_, H, F.ra Aa, W⟩
 rintro a w ⟨x1, hj, F, W⟩
 have hj := Ax hj
 subst hj
 have H := K1
 clear G1 K1
 refine C2 F Aa H (fun F H => ?_) fun F H => ?_
 ·
  refine vc tk 6 F W fun a w F W => ?_
  refine Ao (AE ?_)
  have H := Ax H
  subst H
  refine FF (.inl Aa) F W Aa (Am F Aa) (Am F Aa) ?_
  exact ⟨rfl, W.done⟩
 refine FP tk 3 F W fun a w F W => ?_
 refine BB W MO (by kernel_rfl) ?_
 refine qs F Aa (BE (v := Value.agg #[.int .i64 p0.1, v1, v2]) 0 F Aa Aa Ye Aa).q fun a F => ?_
 iterate 3 refine qs F Aa (Ai F Aa).q fun a F => ?_
 obtain ⟨x3, h6, H⟩ := Ac H
 obtain ⟨v6, h7, h8⟩ := E5 h1 h6
 have h9 : Hd v6 = [(v6.1)] := congrArg (fun q : List Int => ([(v6.1)] : List Value)) h8
 refine qs F Aa (Al (r := (Rp.vsl (Rp.int .i64))) Ps F Aa Aa (Ad h_v3) h7).q fun a F => ?_
 refine qs F Aa (Ag (y := (v6.1)) (j := 0) (i := p2) (enc := Hd) F Aa Aa (Ad h_v3) h7 LI NA (by rw [h9]; rfl)).q fun a F => ?_
 refine qs F Aa (Ai F Aa).q fun a F => ?_
 obtain ⟨x4, h10, H⟩ := Ac H
 refine qs F Aa (Al (r := (Rp.int .i64)) EJ F Aa Aa (Dc (Ad h_v3) h7 DP.here (congrArg (fun q : List Int => q) h8)) h10).q fun a F => ?_
 refine qs F Aa (Ag (y := Value.int .i64 x4) (j := 0) (i := p3) F Aa Aa (Dc (Ad h_v3) h7 DP.here (congrArg (fun q : List Int => q) h8)) h10 Fl.int.to T3 Aa).q fun a F => ?_
 obtain ⟨x5, h11, H⟩ := Ac H
 refine qs F Aa (Be (v := Value.tuple #[.int .i64 x5.1, .int .i64 x5.2.1, .int .i64 x5.2.2.1, .bool x5.2.2.2]) F Zb Aa (fun w W => M9 any w (v1) (v2) p0 p2 x4 _ h11 (EG (Ad h_v1) W) (EG (Ad h_v2) W))) fun a F => ?_
 refine qs F Aa (Ai F Aa).q fun a F => ?_
 refine qs F Aa (Bi (v := Value.int .i64 x5.1) F Aa Aa).q fun a F => ?_
 refine qs F Aa (Bi (v := Value.int .i64 x5.2.1) F Aa Aa).q fun a F => ?_
 refine qs F Aa (Bi (v := Value.int .i64 x5.2.2.1) F Aa Aa).q fun a F => ?_
 refine qs F Aa (Bi (v := Value.bool x5.2.2.2) F Aa Aa).q fun a F => ?_
 iterate 4 refine qs F Aa (Dn F Aa).q fun a F => ?_
 refine AD fun w W => ?_
 refine vn tk 8 F W fun a w F W => ?_
 refine Ao ?_
 have H := Ax H
 subst H
 refine FF (.inl Aa) F W Aa (Am F Aa) (Am F Aa) ?_
 exact ⟨rfl, W.done⟩
theorem ZN : Has Tryz.prog 52 := Cu Tryz.func52
noncomputable def C8 (p0 : List Int) (p1 : Int) : Int → Option (Int ⊕ (Unit ⊕ Bool))
  | x1 => (if x1 < (p0.length : Int) then (ix p0 x1).bind fun x2 => (if p1 = x2 then some (.inr (.inr true)) else some (.inl (An (x1 + 1)))) else some (.inr (.inl ())))
noncomputable def DI (p0 : List Int) (p1 : Int) : Option Bool := GN (Ap (C8 p0 p1) 0) fun _ => some false
theorem KD (Y : Nat → Prop) (w0 : World) (v1 : Value) (p0 : List Int) (p1 : Int) (r : Bool) (H : DI p0 p1 = some r) (h_v1 : Sl w0 (NX []) (Rp.int .i64) v1 p0) :
    Calls Tryz.prog 53 #[v1, .int .i64 p1] w0 fun e w' => e = .returned (.bool r) ∧ Below w0.heap.size w0 w' := by
 refine enter Tryz.func53 Aa Tryz.ntmps53 Aa fun a F => ?_
 have W := Stw.start Y w0
 unfold DI at H
 refine vc tk 5 F W fun a w F W => ?_
 obtain ⟨o1, G1, K1, L1⟩ := Mg H
 refine Aq (fun a w => some (Sum.inl ()) = some o1 ∧ Fr 17 [] [(4, .bool false)] a ∧ Stw ⟨Y, [], w0⟩ [] [] w) ?_ ?_
 ·
  have H := G1
  clear G1 K1
  refine vc tk 3 F W fun a w F W => ?_
  refine ls F W Aa (BS (r := (Rp.int .i64)) (l := p0) IV Aa F Aa (Ad h_v1)).q fun a w F W => ?_
  refine BR tk 4 F W fun a w F W => ?_
  refine AL H (fun s a w => Fr 17 [] [(1, .int .i64 p1), (4, .bool false), (7, v1), (8, .int .i64 (p0.length : Int)), (9, .int .i64 s)] a ∧ Stw ⟨Y, [], w0⟩ [] [] w) ⟨F.ra Aa, W⟩ fun s o a w H L2 hR => ?_
  obtain ⟨x1, rfl⟩ : ∃ x, x = s := ⟨s, rfl⟩
  obtain ⟨F, W⟩ := hR
  have F : Fr 17 [] [(1, .int .i64 p1), (4, .bool false), (7, v1), (8, .int .i64 (p0.length : Int)), (9, .int .i64 x1)] a := F
  have W : Stw ⟨Y, [], w0⟩ [] [] w := W
  rw [C8] at H
  refine vc tk 6 F W fun a w F W => ?_
  refine AU F Aa H (fun F H => ?_) fun F H => ?_
  ·
   refine FP tk 6 F W fun a w F W => ?_
   obtain ⟨x2, h1, H⟩ := Ac H
   refine ls F W Aa (Al (r := (Rp.int .i64)) EJ F Aa Aa (Ad h_v1) h1).q fun a w F W => ?_
   refine ls F W Aa (Ag (y := Value.int .i64 x2) (j := 0) (i := x1) F Aa Aa (Ad h_v1) h1 Fl.int.to T3 Aa).q fun a w F W => ?_
   refine BR tk 10 F W fun a w F W => ?_
   refine AU F Aa H (fun F H => ?_) fun F H => ?_
   ·
    refine vc tk 5 F W fun a w F W => ?_
    refine Ao (AW ?_)
    iterate 2 refine AE ?_
    refine AW (AE ?_)
    have H := L2 _ H
    have H := L1 _ H
    have H := Ax H
    subst H
    refine A1 (.inl Aa) F W Aa (Am F Aa) ?_
    exact ⟨rfl, W.done⟩
   refine AB (Aw ?_)
   refine vn tk 4 F W fun a w F W => ?_
   refine Ab ?_
   exact ⟨_, H, F.ra Aa, W⟩
  refine AA ?_
  iterate 2 refine AQ ?_
  refine AC (Ab ?_)
  have H := L2 _ H
  exact ⟨H, F.ra Aa, W⟩
 rintro a w ⟨hj, F, W⟩
 have H := K1 _ hj
 clear hj G1 K1 L1
 refine vc tk 5 F W fun a w F W => ?_
 refine Ao ?_
 have H := Ax H
 subst H
 refine A1 (.inl Aa) F W Aa (Am F Aa) ?_
 exact ⟨rfl, W.done⟩
theorem ZH : Has Tryz.prog 53 := Cu Tryz.func53
noncomputable def Ea (p0 : Int × (List (Int × Int × Int × Int × Int × Int)) × (List (Int × Int))) (p1 : List (List Int)) (p3 : Int) : (Int × List Int) → Option ((Int × List Int) ⊕ ((List Int) ⊕ (List Int × Int)))
  | (x2, x3) => (ix p1 x2).bind fun x4 => (ix x4 p3).bind fun x5 => (EF p0 x2 x5).bind fun x6 => (if x6 ≠ p3 then (He p0 p1 x2 p3).bind fun x7 => (if (!x7.2) = true then some (.inr (.inr (([] : List Int), 13))) else (DI x3 x7.1).bind fun x8 => (if x8 = true then some (.inr (.inr (([] : List Int), 12))) else (H4 x3 ([x7.1] : List Int)).bind fun x9 => some (.inl (x7.1, x9)))) else some (.inr (.inl x3)))
noncomputable def Gk (p0 : Int × (List (Int × Int × Int × Int × Int × Int)) × (List (Int × Int))) (p1 : List (List Int)) (p2 : Int) (p3 : Int) : Option (List Int × Int) := GN (Ap (Ea p0 p1 p3) (p2, ([p2] : List Int))) fun x1 => some (x1, 0)
theorem Mi (Y : Nat → Prop) (w0 : World) (v1 : Value) (v2 : Value) (v3 : Value) (p0 : Int × (List (Int × Int × Int × Int × Int × Int)) × (List (Int × Int))) (p1 : List (List Int)) (p2 : Int) (p3 : Int) (r : List Int × Int) (H : Gk p0 p1 p2 p3 = some r) (h_v1 : Sl w0 (NX []) IG v1 p0.2.1) (h_v2 : Sl w0 (NX []) IB v2 p0.2.2) (h_v3 : Sl w0 (NX []) (Rp.slice (Rp.int .i64)) v3 p1) :
    Calls Tryz.prog 30 #[.agg #[.int .i64 p0.1, v1, v2], v3, .int .i64 p2, .int .i64 p3] w0 fun e w' => ∃ x : Value, e = .returned (.tuple #[x, .int .i64 r.2]) ∧ Stw ⟨Y, [], w0⟩ [] [row (x) 3 (Rp.int .i64) r.1] w' := by
 refine enter Tryz.func30 Aa Tryz.ntmps30 Aa fun a F => ?_
 have W := Stw.start Y w0
 obtain ⟨v4, h1, h_v3⟩ := h_v3.ex CM
 unfold Gk at H
 refine vc tk 2 F W fun a w F W => ?_
 refine D2 (cs := [.int .i64 p0.1, v1, v2]) F W Aa Aa Aa fun b1 a w F W => ?_
 refine BR tk 7 F W fun a w F W => ?_
 refine D6 (z := Value.int .i64 0) (cs := [.int .i64 p2]) (Rp.int .i64) ([p2] : List Int) F W Aa EJ Z3 Aa Aa Aa Aa Aa Aa (Fl.int.repL _ _ ([p2] : List Int)) fun v5 a w F W => ?_
 refine vl tk 2 F W fun a w F W => ?_
 refine Ab ?_
 obtain ⟨o1, G1, K1, L1⟩ := Mg H
 refine Aq (fun a w => ∃ x1 : List Int, ∃ v6 : Value, some (Sum.inl x1) = some o1 ∧ Fr 46 [] [(8, .slice none 0 0), (9, .int .i64 0), (10, v6)] a ∧ Stw ⟨Y, [], w0⟩ [(b1, [.int .i64 p0.1, v1, v2])] [row v6 3 (Rp.int .i64) x1] w) ?_ ?_
 ·
  have H := G1
  clear G1 K1
  refine Ep ?_
  refine AL H (fun s a w => ∃ v7 : Value, Fr 46 [] [(1, v3), (2, .int .i64 s.1), (3, .int .i64 p3), (4, .pointer (some ⟨b1, 0, none⟩)), (8, .slice none 0 0), (9, .int .i64 0), (10, v7)] a ∧ Stw ⟨Y, [], w0⟩ [(b1, [.int .i64 p0.1, v1, v2])] [row v7 3 (Rp.int .i64) s.2] w) ⟨(v5), F.ra Aa, W⟩ fun s o a w H L2 hR => ?_
  obtain ⟨x2, x3⟩ := s
  obtain ⟨v7, F, W⟩ := hR
  have F : Fr 46 [] [(1, v3), (2, .int .i64 x2), (3, .int .i64 p3), (4, .pointer (some ⟨b1, 0, none⟩)), (8, .slice none 0 0), (9, .int .i64 0), (10, v7)] a := F
  have W : Stw ⟨Y, [], w0⟩ [(b1, [.int .i64 p0.1, v1, v2])] [row v7 3 (Rp.int .i64) x3] w := W
  rw [Ea] at H
  refine vc tk 2 F W fun a w F W => ?_
  refine BB W MO (by kernel_rfl) ?_
  refine qs F Aa (BE (v := Value.agg #[.int .i64 p0.1, v1, v2]) 0 F Aa Aa Ye Aa).q fun a F => ?_
  iterate 3 refine qs F Aa (Ai F Aa).q fun a F => ?_
  obtain ⟨x4, h2, H⟩ := Ac H
  obtain ⟨v8, h3, h4⟩ := E5 h1 h2
  have h5 : Hd v8 = [(v8.1)] := congrArg (fun q : List Int => ([(v8.1)] : List Value)) h4
  refine qs F Aa (Al (r := (Rp.vsl (Rp.int .i64))) Ps F Aa Aa (Ad h_v3) h3).q fun a F => ?_
  refine qs F Aa (Ag (y := (v8.1)) (j := 0) (i := x2) (enc := Hd) F Aa Aa (Ad h_v3) h3 LI NA (by rw [h5]; rfl)).q fun a F => ?_
  refine qs F Aa (Ai F Aa).q fun a F => ?_
  obtain ⟨x5, h6, H⟩ := Ac H
  refine qs F Aa (Al (r := (Rp.int .i64)) EJ F Aa Aa (Dc (Ad h_v3) h3 DP.here (congrArg (fun q : List Int => q) h4)) h6).q fun a F => ?_
  refine qs F Aa (Ag (y := Value.int .i64 x5) (j := 0) (i := p3) F Aa Aa (Dc (Ad h_v3) h3 DP.here (congrArg (fun q : List Int => q) h4)) h6 Fl.int.to T3 Aa).q fun a F => ?_
  obtain ⟨x6, h7, H⟩ := Ac H
  refine qs F Aa (Be (v := Value.int .i64 x6) F Zs Aa (fun w W => Ll any w (v1) (v2) p0 x2 x5 _ h7 (EG (Ad h_v1) W) (EG (Ad h_v2) W))) fun a F => ?_
  refine qs F Aa (Ai F Aa).q fun a F => ?_
  refine qs F Aa (Sg F Aa Aa).q fun a F => ?_
  refine AD fun w W => ?_
  refine Ab ?_
  refine AU F Aa H (fun F H => ?_) fun F H => ?_
  ·
   refine Ms tk 9 [0] F W (ai fun a w F W => ?_)
   obtain ⟨x7, h8, H⟩ := Ac H
   refine ls F W Aa (Be (v := Value.tuple #[.int .i64 x7.1, .bool x7.2]) F ZN Aa (fun w W => P0 any w (v1) (v2) (v3) p0 p1 x2 p3 _ h8 (EG (Ad h_v1) W) (EG (Ad h_v2) W) (EG (AN CM h1 (Ad h_v3)) W))) fun a w F W => ?_
   refine ls F W Aa (Ai F Aa).q fun a w F W => ?_
   refine ls F W Aa (Bi (v := Value.int .i64 x7.1) F Aa Aa).q fun a w F W => ?_
   refine ls F W Aa (Bi (v := Value.bool x7.2) F Aa Aa).q fun a w F W => ?_
   refine BR tk 11 F W fun a w F W => ?_
   refine C2 F Aa H (fun F H => ?_) fun F H => ?_
   ·
    refine vc tk 6 F W fun a w F W => ?_
    refine Ao (AE (AW (AE (AW (AE ?_)))))
    have H := L2 _ H
    have H := L1 _ H
    have H := Ax H
    subst H
    refine FF (.inl Aa) F W Aa (Am F Aa) (Am F Aa) ?_
    have W := W.nilRow 3 (Rp.int .i64)
    have W := W.sub (M' := []) (Z' := [row (Value.slice none 0 0) 3 (Rp.int .i64) ([])]) (List.nil_sublist _) (List.Sublist.cons_cons _ (List.nil_sublist _))
    exact ⟨(Value.slice none 0 0), Aa, W⟩
   refine FP tk 7 F W fun a w F W => ?_
   obtain ⟨x8, h9, H⟩ := Ac H
   refine ls F W Aa (Be (v := Value.bool x8) F ZH Aa (fun w W => KD any w (v7) x3 x7.1 _ h9 (EG (Af 0 Aa) W))) fun a w F W => ?_
   refine BR tk 2 F W fun a w F W => ?_
   refine C2 F Aa H (fun F H => ?_) fun F H => ?_
   ·
    refine vc tk 6 F W fun a w F W => ?_
    refine Ao (AE (AW (AE (AW (AE ?_)))))
    have H := L2 _ H
    have H := L1 _ H
    have H := Ax H
    subst H
    refine FF (.inl Aa) F W Aa (Am F Aa) (Am F Aa) ?_
    have W := W.nilRow 3 (Rp.int .i64)
    have W := W.sub (M' := []) (Z' := [row (Value.slice none 0 0) 3 (Rp.int .i64) ([])]) (List.nil_sublist _) (List.Sublist.cons_cons _ (List.nil_sublist _))
    exact ⟨(Value.slice none 0 0), Aa, W⟩
   refine FP tk 6 F W fun a w F W => ?_
   refine D6 (z := Value.int .i64 0) (cs := [.int .i64 x7.1]) (Rp.int .i64) ([x7.1] : List Int) F W Aa EJ Z3 Aa Aa Aa Aa Aa Aa (Fl.int.repL _ _ ([x7.1] : List Int)) fun v9 a w F W => ?_
   obtain ⟨x9, h10, H⟩ := Ac H
   refine DB (r := (Rp.int .i64)) (i := 1) F W Aa EJ Aa Aa Aa Aa (Ez W 0 Aa) h10 Aa fun v10 a w F W => ?_
   have W : Stw ⟨Y, [], w0⟩ [(b1, [.int .i64 p0.1, v1, v2])] [row v10 3 (Rp.int .i64) x9, row v9 3 (Rp.int .i64) ([x7.1] : List Int)] w := W
   refine BR tk 7 F W fun a w F W => ?_
   refine Aw (Ab ?_)
   have W := W.sub (M' := [(b1, [.int .i64 p0.1, v1, v2])]) (Z' := [row v10 3 (Rp.int .i64) x9]) (List.Sublist.refl _) (List.Sublist.cons_cons _ (List.nil_sublist _))
   exact ⟨_, H, (v10), F.ra Aa, W⟩
  refine AA ?_
  iterate 2 refine AQ ?_
  refine AC (Ab ?_)
  have H := L2 _ H
  exact ⟨_, (v7), H, F.ra Aa, W⟩
 rintro a w ⟨x1, v6, hj, F, W⟩
 have H := K1 _ hj
 clear hj G1 K1 L1
 refine vc tk 7 F W fun a w F W => ?_
 refine Ao ?_
 have H := Ax H
 subst H
 refine FF (.inl Aa) F W Aa (Am F Aa) (Am F Aa) ?_
 have W := W.sub (M' := []) (Z' := [row v6 3 (Rp.int .i64) x1]) (List.nil_sublist _) (List.Sublist.refl _)
 exact ⟨(v6), Aa, W⟩
theorem Zy : Has Tryz.prog 30 := Cu Tryz.func30
noncomputable def EE (p0 : Int × (List (Int × Int × Int × Int × Int × Int)) × (List (Int × Int))) (p1 : List (List Int)) (x2 : Int) (x3 : List Int) : Int → Option (Int ⊕ (Unit ⊕ (Int ⊕ (Unit ⊕ Bool))))
  | x4 => (if x4 < (x3.length : Int) then (Gk p0 p1 x2 x4).bind fun x5 => (if x5.2 ≠ 0 then some (.inr (.inr (.inr (.inr false)))) else some (.inl (An (x4 + 1)))) else some (.inr (.inl ())))
noncomputable def E8 (p0 : Int × (List (Int × Int × Int × Int × Int × Int)) × (List (Int × Int))) (p1 : List (List Int)) : Int → Option (Int ⊕ (Unit ⊕ Bool))
  | x2 => (if x2 < (p1.length : Int) then GN ((ix p1 x2).bind fun x3 => Ap (EE p0 p1 x2 x3) 0) fun _ => some (.inl (An (x2 + 1))) else some (.inr (.inl ())))
noncomputable def Fh (p0 : Int × (List (Int × Int × Int × Int × Int × Int)) × (List (Int × Int))) (p1 : List (List Int)) : Option Bool := (FN p0 p1).bind fun x1 => (if (!x1) = true then some false else GN (Ap (E8 p0 p1) 0) fun _ => some true)
theorem IF (Y : Nat → Prop) (w0 : World) (v1 : Value) (v2 : Value) (v3 : Value) (p0 : Int × (List (Int × Int × Int × Int × Int × Int)) × (List (Int × Int))) (p1 : List (List Int)) (r : Bool) (H : Fh p0 p1 = some r) (h_v1 : Sl w0 (NX []) IG v1 p0.2.1) (h_v2 : Sl w0 (NX []) IB v2 p0.2.2) (h_v3 : Sl w0 (NX []) (Rp.slice (Rp.int .i64)) v3 p1) :
    Calls Tryz.prog 14 #[.agg #[.int .i64 p0.1, v1, v2], v3] w0 fun e w' => e = .returned (.bool r) ∧ Below w0.heap.size w0 w' := by
 refine enter Tryz.func14 Aa Tryz.ntmps14 Aa fun a F => ?_
 have W := Stw.start Y w0
 obtain ⟨v4, h1, h_v3⟩ := h_v3.ex CM
 unfold Fh at H
 refine vc tk 2 F W fun a w F W => ?_
 refine D2 (cs := [.int .i64 p0.1, v1, v2]) F W Aa Aa Aa fun b1 a w F W => ?_
 refine JG tk 8 [0] F W (ai fun a w F W => ?_)
 obtain ⟨x1, h2, H⟩ := Ac H
 refine ls F W Aa (Be (v := Value.bool x1) F Zk Aa (fun w W => Lo any w (v1) (v2) (v3) p0 p1 _ h2 (EG (Ad h_v1) W) (EG (Ad h_v2) W) (EG (AN CM h1 (Ad h_v3)) W))) fun a w F W => ?_
 refine BR tk 3 F W fun a w F W => ?_
 refine C2 F Aa H (fun F H => ?_) fun F H => ?_
 ·
  refine vc tk 5 F W fun a w F W => ?_
  refine Ao (AE ?_)
  have H := Ax H
  subst H
  refine A1 (.inl Aa) F W Aa (Am F Aa) ?_
  exact ⟨rfl, W.done⟩
 refine AB (Ab ?_)
 obtain ⟨o1, G1, K1, L1⟩ := Mg H
 refine Aq (fun a w => some (Sum.inl ()) = some o1 ∧ Fr 38 [] [(4, .bool false)] a ∧ Stw ⟨Y, [], w0⟩ [(b1, [.int .i64 p0.1, v1, v2])] [] w) ?_ ?_
 ·
  have H := G1
  clear G1 K1
  refine vc tk 3 F W fun a w F W => ?_
  refine ls F W Aa (BS (r := (Rp.slice (Rp.int .i64))) (l := p1) Nn Aa F Aa (AN CM h1 (Ad h_v3))).q fun a w F W => ?_
  refine BR tk 4 F W fun a w F W => ?_
  refine AL H (fun s a w => Fr 38 [] [(1, v3), (2, .pointer (some ⟨b1, 0, none⟩)), (4, .bool false), (14, v3), (15, .int .i64 (p1.length : Int)), (16, .int .i64 s)] a ∧ Stw ⟨Y, [], w0⟩ [(b1, [.int .i64 p0.1, v1, v2])] [] w) ⟨F.ra Aa, W⟩ fun s o a w H L2 hR => ?_
  obtain ⟨x2, rfl⟩ : ∃ x, x = s := ⟨s, rfl⟩
  obtain ⟨F, W⟩ := hR
  have F : Fr 38 [] [(1, v3), (2, .pointer (some ⟨b1, 0, none⟩)), (4, .bool false), (14, v3), (15, .int .i64 (p1.length : Int)), (16, .int .i64 x2)] a := F
  have W : Stw ⟨Y, [], w0⟩ [(b1, [.int .i64 p0.1, v1, v2])] [] w := W
  rw [E8] at H
  refine vc tk 6 F W fun a w F W => ?_
  refine AU F Aa H (fun F H => ?_) fun F H => ?_
  ·
   refine AB (Ab ?_)
   obtain ⟨o3, G3, K3, L3⟩ := Mg H
   refine Aq (fun a w => some (Sum.inl ()) = some o3 ∧ Fr 38 [] [(1, v3), (2, .pointer (some ⟨b1, 0, none⟩)), (4, .bool false), (14, v3), (15, .int .i64 (p1.length : Int)), (16, .int .i64 x2)] a ∧ Stw ⟨Y, [], w0⟩ [(b1, [.int .i64 p0.1, v1, v2])] [] w) ?_ ?_
   ·
    have H := G3
    clear G3 K3
    refine vc tk 4 F W fun a w F W => ?_
    obtain ⟨x3, h3, H⟩ := Ac H
    obtain ⟨v5, h4, h5⟩ := E5 h1 h3
    have h6 : Hd v5 = [(v5.1)] := congrArg (fun q : List Int => ([(v5.1)] : List Value)) h5
    refine ls F W Aa (Al (r := (Rp.vsl (Rp.int .i64))) Ps F Aa Aa (Ad h_v3) h4).q fun a w F W => ?_
    refine ls F W Aa (Ag (y := (v5.1)) (j := 0) (i := x2) (enc := Hd) F Aa Aa (Ad h_v3) h4 LI NA (by rw [h6]; rfl)).q fun a w F W => ?_
    refine BR tk 7 F W fun a w F W => ?_
    refine ls F W Aa (BS (r := (Rp.int .i64)) (l := x3) IV Aa F Aa (Dc (Ad h_v3) h4 DP.here (congrArg (fun q : List Int => q) h5))).q fun a w F W => ?_
    refine BR tk 4 F W fun a w F W => ?_
    refine AL H (fun s a w => Fr 38 [] [(1, v3), (2, .pointer (some ⟨b1, 0, none⟩)), (4, .bool false), (5, .int .i64 x2), (14, v3), (15, .int .i64 (p1.length : Int)), (16, .int .i64 x2), (22, .int .i64 (x3.length : Int)), (23, .int .i64 s)] a ∧ Stw ⟨Y, [], w0⟩ [(b1, [.int .i64 p0.1, v1, v2])] [] w) ⟨F.ra Aa, W⟩ fun s o a w H L4 hR => ?_
    obtain ⟨x4, rfl⟩ : ∃ x, x = s := ⟨s, rfl⟩
    obtain ⟨F, W⟩ := hR
    have F : Fr 38 [] [(1, v3), (2, .pointer (some ⟨b1, 0, none⟩)), (4, .bool false), (5, .int .i64 x2), (14, v3), (15, .int .i64 (p1.length : Int)), (16, .int .i64 x2), (22, .int .i64 (x3.length : Int)), (23, .int .i64 x4)] a := F
    have W : Stw ⟨Y, [], w0⟩ [(b1, [.int .i64 p0.1, v1, v2])] [] w := W
    rw [EE] at H
    refine vc tk 6 F W fun a w F W => ?_
    refine AU F Aa H (fun F H => ?_) fun F H => ?_
    ·
     refine Ms tk 16 [0] F W (ai fun a w F W => ?_)
     obtain ⟨x5, h7, H⟩ := Ac H
     refine A9 (Ml := []) (Zl := []) (β := Value) (rv := fun x => .tuple #[x, .int .i64 x5.2]) (MM := fun x => []) (ZZ := fun x => [row x 3 (Rp.int .i64) x5.1]) F W Zy Aa Aa (fun hL => Mi _ w (v1) (v2) (v3) p0 p1 x2 x4 _ h7 ((Ad h_v1) w W).nx ((Ad h_v2) w W).nx ((AN CM h1 (Ad h_v3)) w W).nx) fun x a w F W => ?_
     obtain ⟨v6, rfl⟩ : ∃ y, y = x := ⟨x, rfl⟩
     have W : Stw ⟨Y, [], w0⟩ [(b1, [.int .i64 p0.1, v1, v2])] [row v6 3 (Rp.int .i64) x5.1] w := W
     refine ls F W Aa (Ai F Aa).q fun a w F W => ?_
     refine ls F W Aa (Bi (v := v6) F Aa Aa).q fun a w F W => ?_
     refine ls F W Aa (Bi (v := Value.int .i64 x5.2) F Aa Aa).q fun a w F W => ?_
     refine BR tk 10 F W fun a w F W => ?_
     refine AU F Aa H (fun F H => ?_) fun F H => ?_
     ·
      refine vc tk 5 F W fun a w F W => ?_
      refine Ao (AW ?_)
      iterate 2 refine AE ?_
      iterate 2 refine AW ?_
      iterate 2 refine AE ?_
      refine AW (AE ?_)
      have H := L4 _ H
      have H := L3 _ H
      have H := L2 _ H
      have H := L1 _ H
      have H := Ax H
      subst H
      refine A1 (.inl Aa) F W Aa (Am F Aa) ?_
      exact ⟨rfl, W.done⟩
     refine AB (Aw ?_)
     refine vn tk 4 F W fun a w F W => ?_
     refine Ab ?_
     have W := W.sub (M' := [(b1, [.int .i64 p0.1, v1, v2])]) (Z' := []) (List.Sublist.refl _) (List.nil_sublist _)
     exact ⟨_, H, F.ra Aa, W⟩
    refine AA ?_
    iterate 2 refine AQ ?_
    refine AC (Aw (Ab ?_))
    have H := L4 _ H
    exact ⟨H, F.ra Aa, W⟩
   rintro a w ⟨hj, F, W⟩
   have H := K3 _ hj
   clear hj G3 K3 L3
   refine vc tk 4 F W fun a w F W => ?_
   refine Ab ?_
   exact ⟨_, H, F.ra Aa, W⟩
  refine AA ?_
  iterate 2 refine AQ ?_
  refine AC (Ab ?_)
  have H := L2 _ H
  exact ⟨H, F.ra Aa, W⟩
 rintro a w ⟨hj, F, W⟩
 have H := K1 _ hj
 clear hj G1 K1 L1
 refine vc tk 5 F W fun a w F W => ?_
 refine Ao ?_
 have H := Ax H
 subst H
 refine A1 (.inl Aa) F W Aa (Am F Aa) ?_
 exact ⟨rfl, W.done⟩
theorem Qz : type_of% Tryz.underlying30 := Tryz.underlying30
theorem T4 : type_of% Tryz.underlying31 := Tryz.underlying31
theorem Pf : type_of% Tryz.underlying37 := Tryz.underlying37
theorem Xc : type_of% Tryz.underlying41 := Tryz.underlying41
theorem TI : type_of% Tryz.underlying59 := Tryz.underlying59
theorem X8 : Has Tryz.prog 14 := Cu Tryz.func14
theorem WH : Bt Tryz.prog 41 [.int .i64 0, .int .i64 0, .int .i64 0] [(0, 1), (1, 1), (2, 1)] := ⟨⟨.agg #[.int .i64 0, .int .i64 0, .int .i64 0], by kernel_rfl, rfl⟩, ⟨_, Xc, fun w => by kernel_rfl⟩⟩
theorem WO : (Tryz.prog.info? 41).bind (·.zero) = some (.agg #[.int .i64 0, .int .i64 0, .int .i64 0]) := by kernel_rfl
abbrev CJ : Rp (Int × Int × Int) := (Rp.pair (Rp.int .i64) (Rp.pair (Rp.int .i64) (Rp.int .i64)))
def bH (a : Int × Int × Int) : List Value := [.int .i64 a.1, .int .i64 a.2.1, .int .i64 a.2.2]
theorem VJ : Fl CJ bH := (Fl.pair Fl.int (Fl.pair Fl.int Fl.int))
theorem Qf : Et Tryz.prog 37 41 3 24 := Et.of Pf (by kernel_rfl) (by kernel_rfl) (by kernel_rfl) (by decide)
theorem RN : Ty Tryz.prog 33 true 6 := ⟨by kernel_rfl, by kernel_rfl⟩
theorem aG : Bt Tryz.prog 59 [.int .i64 0, .slice none 0 0, .slice none 0 0, .slice none 0 0, .slice none 0 0, .slice none 0 0, .slice none 0 0, .int .i64 0, .int .i64 0, .int .i64 0, .int .i64 0] [(0, 3), (3, 1), (4, 1), (5, 6)] := ⟨⟨.agg #[.int .i64 0, .slice none 0 0, .slice none 0 0, .slice none 0 0, .slice none 0 0, .slice none 0 0, .slice none 0 0, .int .i64 0, .int .i64 0, .int .i64 0, .int .i64 0], by kernel_rfl, rfl⟩, ⟨_, TI, fun w => by kernel_rfl⟩⟩
theorem bE : (Tryz.prog.info? 59).bind (·.zero) = some (.agg #[.int .i64 0, .slice none 0 0, .slice none 0 0, .slice none 0 0, .slice none 0 0, .slice none 0 0, .slice none 0 0, .int .i64 0, .int .i64 0, .int .i64 0, .int .i64 0]) := by kernel_rfl
theorem WF : Ty Tryz.prog 59 true 11 := ⟨by kernel_rfl, by kernel_rfl⟩
theorem Yc : Ty Tryz.prog 27 false 1 := ⟨by kernel_rfl, by kernel_rfl⟩
theorem EM : Et Tryz.prog 30 43 4 32 := Et.of Qz (by kernel_rfl) (by kernel_rfl) (by kernel_rfl) (by decide)
def bR (a : Int × Int × Int × Int) : List Value := [.int .i64 a.1, .int .i64 a.2.1, .int .i64 a.2.2.1, .int .i64 a.2.2.2]
theorem ES : Fl A5 bR := (Fl.pair Fl.int (Fl.pair Fl.int (Fl.pair Fl.int Fl.int)))
theorem Er : Ty Tryz.prog 43 true 4 := ⟨by kernel_rfl, by kernel_rfl⟩
theorem W3 : (Tryz.prog.info? 43).bind (·.zero) = some (.agg #[.int .i64 0, .int .i64 0, .int .i64 0, .int .i64 0]) := by kernel_rfl
theorem W6 : Ty Tryz.prog 31 false 1 := ⟨by kernel_rfl, by kernel_rfl⟩
abbrev Oh (a : Int × Int × (Value × List Int)) : List Value := [.int .i64 a.1, .int .i64 a.2.1, a.2.2.1]
theorem Tb : Kj Rj Oh := (Kj.pair Fl.int.to (Kj.pair Fl.int.to Kj.vsl))
theorem Ws : Et Tryz.prog 31 46 3 40 := Et.of T4 (by kernel_rfl) (by kernel_rfl) (by kernel_rfl) (by decide)
theorem YL : Ty Tryz.prog 46 true 3 := ⟨by kernel_rfl, by kernel_rfl⟩
noncomputable def CK (p0 : List Int) (p1 : Int) : Int → Option (Int ⊕ (Unit ⊕ Int))
  | x1 => (if x1 < (p0.length : Int) then (ix p0 x1).bind fun x2 => (if p1 = x2 then some (.inr (.inr x1)) else some (.inl (An (x1 + 1)))) else some (.inr (.inl ())))
noncomputable def DL (p0 : List Int) (p1 : Int) : Option Int := GN (Ap (CK p0 p1) 0) fun _ => some (-1)
theorem Kd (Y : Nat → Prop) (w0 : World) (v1 : Value) (p0 : List Int) (p1 : Int) (r : Int) (H : DL p0 p1 = some r) (h_v1 : Sl w0 (NX []) (Rp.int .i64) v1 p0) :
    Calls Tryz.prog 77 #[v1, .int .i64 p1] w0 fun e w' => e = .returned (.int .i64 r) ∧ Below w0.heap.size w0 w' := by
 refine enter Tryz.func77 Aa Tryz.ntmps77 Aa fun a F => ?_
 have W := Stw.start Y w0
 unfold DL at H
 refine vc tk 5 F W fun a w F W => ?_
 obtain ⟨o1, G1, K1, L1⟩ := Mg H
 refine Aq (fun a w => some (Sum.inl ()) = some o1 ∧ Fr 19 [] [(4, .int .i64 0)] a ∧ Stw ⟨Y, [], w0⟩ [] [] w) ?_ ?_
 ·
  have H := G1
  clear G1 K1
  refine vc tk 3 F W fun a w F W => ?_
  refine ls F W Aa (BS (r := (Rp.int .i64)) (l := p0) IV Aa F Aa (Ad h_v1)).q fun a w F W => ?_
  refine BR tk 4 F W fun a w F W => ?_
  refine AL H (fun s a w => Fr 19 [] [(0, v1), (1, .int .i64 p1), (4, .int .i64 0), (7, .int .i64 (p0.length : Int)), (8, .int .i64 s)] a ∧ Stw ⟨Y, [], w0⟩ [] [] w) ⟨F.ra Aa, W⟩ fun s o a w H L2 hR => ?_
  obtain ⟨x1, rfl⟩ : ∃ x, x = s := ⟨s, rfl⟩
  obtain ⟨F, W⟩ := hR
  have F : Fr 19 [] [(0, v1), (1, .int .i64 p1), (4, .int .i64 0), (7, .int .i64 (p0.length : Int)), (8, .int .i64 x1)] a := F
  have W : Stw ⟨Y, [], w0⟩ [] [] w := W
  rw [CK] at H
  refine vc tk 6 F W fun a w F W => ?_
  refine AU F Aa H (fun F H => ?_) fun F H => ?_
  ·
   refine FP tk 15 F W fun a w F W => ?_
   obtain ⟨x2, h1, H⟩ := Ac H
   refine ls F W Aa (Al (r := (Rp.int .i64)) EJ F Aa Aa (Ad h_v1) h1).q fun a w F W => ?_
   refine ls F W Aa (Ag (y := Value.int .i64 x2) (j := 0) (i := x1) F Aa Aa (Ad h_v1) h1 Fl.int.to T3 Aa).q fun a w F W => ?_
   refine BR tk 3 F W fun a w F W => ?_
   refine AU F Aa H (fun F H => ?_) fun F H => ?_
   ·
    refine vc tk 6 F W fun a w F W => ?_
    refine Ao (AW ?_)
    iterate 2 refine AE ?_
    refine AW (AE ?_)
    have H := L2 _ H
    have H := L1 _ H
    have H := Ax H
    subst H
    refine A1 (.inl Aa) F W Aa (Am F Aa) ?_
    exact ⟨rfl, W.done⟩
   refine AB (Aw ?_)
   refine vn tk 4 F W fun a w F W => ?_
   refine Ab ?_
   exact ⟨_, H, F.ra Aa, W⟩
  refine AA ?_
  iterate 2 refine AQ ?_
  refine AC (Ab ?_)
  have H := L2 _ H
  exact ⟨H, F.ra Aa, W⟩
 rintro a w ⟨hj, F, W⟩
 have H := K1 _ hj
 clear hj G1 K1 L1
 refine vc tk 5 F W fun a w F W => ?_
 refine Ao ?_
 have H := Ax H
 subst H
 refine A1 (.inl Aa) F W Aa (Am F Aa) ?_
 exact ⟨rfl, W.done⟩
theorem b7 : Has Tryz.prog 77 := Cu Tryz.func77
noncomputable def CO (p0 : List Int) (p1 : Int) : Option Bool := (DL p0 p1).bind fun x1 => some (decide (0 ≤ x1))
theorem Jj (Y : Nat → Prop) (w0 : World) (v1 : Value) (p0 : List Int) (p1 : Int) (r : Bool) (H : CO p0 p1 = some r) (h_v1 : Sl w0 (NX []) (Rp.int .i64) v1 p0) :
    Calls Tryz.prog 57 #[v1, .int .i64 p1] w0 fun e w' => e = .returned (.bool r) ∧ Below w0.heap.size w0 w' := by
 refine enter Tryz.func57 Aa Tryz.ntmps57 Aa fun a F => ?_
 have W := Stw.start Y w0
 unfold CO at H
 refine vc tk 9 F W fun a w F W => ?_
 obtain ⟨x1, h1, H⟩ := Ac H
 refine ls F W Aa (Be (v := Value.int .i64 x1) F b7 Aa (fun w W => Kd any w (v1) p0 p1 _ h1 (EG (Ad h_v1) W))) fun a w F W => ?_
 refine BR tk 4 F W fun a w F W => ?_
 refine Ao ?_
 have H := Ax H
 subst H
 refine A1 (.inl Aa) F W Aa (Am F Aa) ?_
 exact ⟨rfl, W.done⟩
theorem Jv : type_of% Tryz.underlying43 := Tryz.underlying43
theorem Vq : type_of% Tryz.underlying46 := Tryz.underlying46
theorem aW : Has Tryz.prog 57 := Cu Tryz.func57
abbrev Ck (a0 : Int × Int × Int × Int) : List Value := [.int .i64 a0.1, .int .i64 a0.2.1, .int .i64 a0.2.2.1, .int .i64 a0.2.2.2]
noncomputable def DQ (p0 : Int × Int × List Int) (p1 : Int × Int × Int × Int) : Option Bool := (if p1.2.2.2 = p0.1 then (CO p0.2.2 p1.1).bind fun x2 => some x2 else some false).bind fun x1 => some x1
theorem JV (Y : Nat → Prop) (w0 : World) (v1 : Value) (p0 : Int × Int × List Int) (p1 : Int × Int × Int × Int) (r : Bool) (H : DQ p0 p1 = some r) (h_v1 : Sl w0 (NX []) (Rp.int .i64) v1 p0.2.2) :
    Calls Tryz.prog 38 #[.agg #[.int .i64 p0.1, .int .i64 p0.2.1, v1], .agg #[.int .i64 p1.1, .int .i64 p1.2.1, .int .i64 p1.2.2.1, .int .i64 p1.2.2.2]] w0 fun e w' => e = .returned (.bool r) ∧ Below w0.heap.size w0 w' := by
 refine enter Tryz.func38 Aa Tryz.ntmps38 Aa fun a F => ?_
 have W := Stw.start Y w0
 unfold DQ at H
 refine vc tk 2 F W fun a w F W => ?_
 refine D2 (cs := [.int .i64 p0.1, .int .i64 p0.2.1, v1]) F W Aa Aa Aa fun b1 a w F W => ?_
 refine D2 (cs := (Ck p1)) F W Aa Aa Aa fun b2 a w F W => ?_
 refine vl tk 2 F W fun a w F W => ?_
 refine Ab ?_
 obtain ⟨o1, G1, K1⟩ := Ac H
 refine Aq (fun a w => ∃ x1 : Bool, some (x1) = some o1 ∧ Fr 17 [] [(4, .bool x1)] a ∧ Stw ⟨Y, [], w0⟩ [(b2, [.int .i64 p1.1, .int .i64 p1.2.1, .int .i64 p1.2.2.1, .int .i64 p1.2.2.2]), (b1, [.int .i64 p0.1, .int .i64 p0.2.1, v1])] [] w) ?_ ?_
 ·
  have H := G1
  clear G1 K1
  refine IL tk 7 [0, 1] F W (ai (ai fun a w F W => ?_))
  rcases Bool.eq_false_or_eq_true (decide (p1.2.2.2 = p0.1)) with hb | hb
  ·
   have H := D0 (Fm hb) H
   rw [hb] at F
   clear hb
   refine Ky tk 4 [1, 0] F W (ai (ai fun a w F W => ?_))
   refine MB (Ae F Aa Aa Aa Aa) ?_
   obtain ⟨x2, h1, H⟩ := Ac H
   refine ls F W Aa (Be (v := Value.bool x2) F aW Aa (fun w W => Jj any w (v1) p0.2.2 p1.1 _ h1 (EG (Ad h_v1) W))) fun a w F W => ?_
   refine vl tk 3 F W fun a w F W => ?_
   refine Ab ?_
   have W := W.frontM (i := 1) Aa Aa
   have W := W.frontM (i := 1) Aa Aa
   exact ⟨_, H, F.ra Aa, W⟩
  have H := DZ (Fo hb) H
  rw [hb] at F
  clear hb
  refine vl tk 8 F W fun a w F W => ?_
  refine Ab ?_
  have W := W.frontM (i := 1) Aa Aa
  have W := W.frontM (i := 1) Aa Aa
  exact ⟨_, H, F.ra Aa, W⟩
 rintro a w ⟨x1, hj, F, W⟩
 have hj := Ax hj
 subst hj
 have H := K1
 clear G1 K1
 refine Ao ?_
 have H := Ax H
 subst H
 refine A1 (.inl Aa) F W Aa (Am F Aa) ?_
 exact ⟨rfl, W.done⟩
theorem Zv : Has Tryz.prog 38 := Cu Tryz.func38
noncomputable def CX (p0 : Int × Int × List Int) (p1 : Int × Int × Int × Int) : Option Bool := (DQ p0 p1).bind fun x1 => some x1
theorem IJ (Y : Nat → Prop) (w0 : World) (v1 : Value) (q_p1 : Nat) (p0 : Int × Int × List Int) (p1 : Int × Int × Int × Int) (r : Bool) (H : CX p0 p1 = some r) (h_v1 : Sl w0 (NX []) (Rp.int .i64) v1 p0.2.2) (a_q_p1 : At ⟨Y, [], w0⟩ q_p1 0 [.int .i64 p1.1, .int .i64 p1.2.1, .int .i64 p1.2.2.1, .int .i64 p1.2.2.2]) :
    Calls Tryz.prog 55 #[.agg #[.int .i64 p0.1, .int .i64 p0.2.1, v1], .pointer (some ⟨q_p1, 0, none⟩)] w0 fun e w' => e = .returned (.bool r) ∧ Below w0.heap.size w0 w' := by
 refine enter Tryz.func55 Aa Tryz.ntmps55 Aa fun a F => ?_
 have W := Stw.start Y w0
 unfold CX at H
 refine vc tk 2 F W fun a w F W => ?_
 refine D2 (cs := [.int .i64 p0.1, .int .i64 p0.2.1, v1]) F W Aa Aa Aa fun b1 a w F W => ?_
 refine JG tk 6 [0] F W (ai fun a w F W => ?_)
 refine ls F W Aa (St (y := Value.agg #[.int .i64 p1.1, .int .i64 p1.2.1, .int .i64 p1.2.2.1, .int .i64 p1.2.2.2]) (j := 0) F Aa (Nat.zero_add _).symm a_q_p1 Er Aa).q fun a w F W => ?_
 obtain ⟨x1, h1, H⟩ := Ac H
 refine ls F W Aa (Be (v := Value.bool x1) F Zv Aa (fun w W => JV any w (v1) p0 p1 _ h1 (EG (Ad h_v1) W))) fun a w F W => ?_
 refine BR tk 3 F W fun a w F W => ?_
 refine Ao ?_
 have H := Ax H
 subst H
 refine A1 (.inl Aa) F W Aa (Am F Aa) ?_
 exact ⟨rfl, W.done⟩
theorem Z9 : Has Tryz.prog 55 := Cu Tryz.func55
noncomputable def Bc (p0 : List (Int × Int × List Int)) (p1c0 : Int × Int × Int × Int) : Int → Option (Int ⊕ (Unit ⊕ Int))
  | x1 => (if x1 < (p0.length : Int) then (ix p0 x1).bind fun x2 => (CX x2 p1c0).bind fun x3 => (if x3 = true then some (.inr (.inr x1)) else some (.inl (An (x1 + 1)))) else some (.inr (.inl ())))
noncomputable def Bx (p0 : List (Int × Int × List Int)) (p1c0 : Int × Int × Int × Int) : Option Int := GN (Ap (Bc p0 p1c0) 0) fun _ => some (-1)
theorem Gf (Y : Nat → Prop) (w0 : World) (v1 : Value) (q_p1c0 : Nat) (p0 : List (Int × Int × List Int)) (p1c0 : Int × Int × Int × Int) (r : Int) (H : Bx p0 p1c0 = some r) (h_v1 : Sl w0 (NX []) Jg v1 p0) (a_q_p1c0 : At ⟨Y, [], w0⟩ q_p1c0 0 [.int .i64 p1c0.1, .int .i64 p1c0.2.1, .int .i64 p1c0.2.2.1, .int .i64 p1c0.2.2.2]) :
    Calls Tryz.prog 76 #[v1, .func (.func 55) #[] #[.pointer (some ⟨q_p1c0, 0, none⟩)]] w0 fun e w' => e = .returned (.int .i64 r) ∧ Below w0.heap.size w0 w' := by
 refine enter Tryz.func76 Aa Tryz.ntmps76 Aa fun a F => ?_
 have W := Stw.start Y w0
 obtain ⟨v2, h1, h_v1⟩ := h_v1.ex HF
 unfold Bx at H
 refine vc tk 5 F W fun a w F W => ?_
 obtain ⟨o1, G1, K1, L1⟩ := Mg H
 refine Aq (fun a w => some (Sum.inl ()) = some o1 ∧ Fr 19 [] [(4, .int .i64 0)] a ∧ Stw ⟨Y, [], w0⟩ [] [] w) ?_ ?_
 ·
  have H := G1
  clear G1 K1
  refine vc tk 3 F W fun a w F W => ?_
  refine ls F W Aa (BS (r := Jg) (l := p0) T4 Aa F Aa (AN HF h1 (Ad h_v1))).q fun a w F W => ?_
  refine BR tk 4 F W fun a w F W => ?_
  refine AL H (fun s a w => Fr 19 [] [(0, v1), (1, .func (.func 55) #[] #[.pointer (some ⟨q_p1c0, 0, none⟩)]), (4, .int .i64 0), (7, .int .i64 (p0.length : Int)), (8, .int .i64 s)] a ∧ Stw ⟨Y, [], w0⟩ [] [] w) ⟨F.ra Aa, W⟩ fun s o a w H L2 hR => ?_
  obtain ⟨x1, rfl⟩ : ∃ x, x = s := ⟨s, rfl⟩
  obtain ⟨F, W⟩ := hR
  have F : Fr 19 [] [(0, v1), (1, .func (.func 55) #[] #[.pointer (some ⟨q_p1c0, 0, none⟩)]), (4, .int .i64 0), (7, .int .i64 (p0.length : Int)), (8, .int .i64 x1)] a := F
  have W : Stw ⟨Y, [], w0⟩ [] [] w := W
  rw [Bc] at H
  refine vc tk 6 F W fun a w F W => ?_
  refine AU F Aa H (fun F H => ?_) fun F H => ?_
  ·
   refine FP tk 15 F W fun a w F W => ?_
   obtain ⟨x2, h2, H⟩ := Ac H
   obtain ⟨v3, h3, h4⟩ := E5 h1 h2
   have h5 : Oh v3 = [.int .i64 x2.1, .int .i64 x2.2.1, (v3.2.2.1)] := congrArg (fun q : Int × Int × List Int => ([.int .i64 q.1, .int .i64 q.2.1, (v3.2.2.1)] : List Value)) h4
   refine ls F W Aa (Al (r := Rj) Ws F Aa Aa (Ad h_v1) h3).q fun a w F W => ?_
   refine ls F W Aa (Ag (y := Value.agg #[.int .i64 x2.1, .int .i64 x2.2.1, (v3.2.2.1)]) (j := 0) (i := x1) (enc := Oh) F Aa Aa (Ad h_v1) h3 Tb YL (by rw [h5]; rfl)).q fun a w F W => ?_
   obtain ⟨x3, h6, H⟩ := Ac H
   refine ls F W Aa (E1 (ws := [.agg #[.int .i64 x2.1, .int .i64 x2.2.1, (v3.2.2.1)], .pointer (some ⟨q_p1c0, 0, none⟩)]) (v := Value.bool x3) F Z9 Aa (fun w W => IJ any w ((v3.2.2.1)) q_p1c0 x2 p1c0 _ h6 (EG (Dc (Ad h_v1) h3 (DP.snd (DP.snd DP.here)) (congrArg (fun q : Int × Int × List Int => q.2.2) h4)) W) (At.re a_q_p1c0 W))) fun a w F W => ?_
   refine BR tk 2 F W fun a w F W => ?_
   refine C2 F Aa H (fun F H => ?_) fun F H => ?_
   ·
    refine vc tk 6 F W fun a w F W => ?_
    refine Ao (AW ?_)
    iterate 2 refine AE ?_
    refine AW (AE ?_)
    have H := L2 _ H
    have H := L1 _ H
    have H := Ax H
    subst H
    refine A1 (.inl Aa) F W Aa (Am F Aa) ?_
    exact ⟨rfl, W.done⟩
   refine AB (Aw ?_)
   refine vn tk 4 F W fun a w F W => ?_
   refine Ab ?_
   exact ⟨_, H, F.ra Aa, W⟩
  refine AA ?_
  iterate 2 refine AQ ?_
  refine AC (Ab ?_)
  have H := L2 _ H
  exact ⟨H, F.ra Aa, W⟩
 rintro a w ⟨hj, F, W⟩
 have H := K1 _ hj
 clear hj G1 K1 L1
 refine vc tk 5 F W fun a w F W => ?_
 refine Ao ?_
 have H := Ax H
 subst H
 refine A1 (.inl Aa) F W Aa (Am F Aa) ?_
 exact ⟨rfl, W.done⟩
theorem aO : Has Tryz.prog 76 := Cu Tryz.func76
noncomputable def Br (p0 : List (Int × Int × List Int)) (p1c0 : Int × Int × Int × Int) : Option Bool := (Bx p0 p1c0).bind fun x1 => some (decide (0 ≤ x1))
theorem FL (Y : Nat → Prop) (w0 : World) (v1 : Value) (q_p1c0 : Nat) (p0 : List (Int × Int × List Int)) (p1c0 : Int × Int × Int × Int) (r : Bool) (H : Br p0 p1c0 = some r) (h_v1 : Sl w0 (NX []) Jg v1 p0) (a_q_p1c0 : At ⟨Y, [], w0⟩ q_p1c0 0 [.int .i64 p1c0.1, .int .i64 p1c0.2.1, .int .i64 p1c0.2.2.1, .int .i64 p1c0.2.2.2]) :
    Calls Tryz.prog 54 #[v1, .func (.func 55) #[] #[.pointer (some ⟨q_p1c0, 0, none⟩)]] w0 fun e w' => e = .returned (.bool r) ∧ Below w0.heap.size w0 w' := by
 refine enter Tryz.func54 Aa Tryz.ntmps54 Aa fun a F => ?_
 have W := Stw.start Y w0
 obtain ⟨v2, h1, h_v1⟩ := h_v1.ex HF
 unfold Br at H
 refine vc tk 9 F W fun a w F W => ?_
 obtain ⟨x1, h2, H⟩ := Ac H
 refine ls F W Aa (Be (v := Value.int .i64 x1) F aO Aa (fun w W => Gf any w (v1) q_p1c0 p0 p1c0 _ h2 (EG (AN HF h1 (Ad h_v1)) W) (At.re a_q_p1c0 W))) fun a w F W => ?_
 refine BR tk 4 F W fun a w F W => ?_
 refine Ao ?_
 have H := Ax H
 subst H
 refine A1 (.inl Aa) F W Aa (Am F Aa) ?_
 exact ⟨rfl, W.done⟩
end Go.Proofs.YthhoflfhegfmcaaGreat
