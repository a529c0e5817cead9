/- The functions of layer 25, HU. Conditions: none. -/
import Derived.Test.YthhoflfhegfmcaaRows
import Derived.Test.YthhoflfhegfmcaabOT
import Derived.Test.YthhoflfhegfmcaabQT
import Derived.Test.YthhoflfhegfmcaabOD
import Derived.Test.YthhoflfhegfmcaabDS
import Derived.Test.YthhoflfhegfmcaabXN
import Derived.Test.YthhoflfhegfmcaabOY
import Derived.Test.YthhoflfhegfmcaabOC
import Derived.Test.YthhoflfhegfmcaabVC
import Derived.Test.YthhoflfhegfmcaabOM
import Derived.Test.YthhoflfhegfmcaabDR
import Derived.Test.YthhoflfhegfmcaabOX
namespace Go.Proofs.Ythhoflfhegfmcaa
open Go Go.RowKit
set_option linter.unusedVariables false
set_option linter.unusedSimpArgs false
set_option maxRecDepth 20000
set_option maxHeartbeats 1600000
def Yp : Tt := ([(25, [(0, false, 1), (1, false, 1), (2, false, 1)]), (31, [(0, false, 1), (1, false, 1), (2, false, 1), (3, false, 1), (4, false, 1), (5, false, 1)]), (40, [(0, false, 1), (1, false, 1), (2, false, 1), (3, false, 1), (4, false, 1), (5, false, 1)]), (52, [(0, false, 1), (1, false, 1), (2, false, 1)]), (54, [(0, false, 1), (1, false, 1), (2, false, 1), (3, false, 1), (4, false, 1), (5, false, 1)]), (56, [(0, false, 1), (1, false, 1)]), (61, [(0, true, 3), (3, false, 1), (4, false, 1), (5, true, 6)]), (65, [(0, false, 1), (1, false, 1), (2, false, 1)]), (78, [(0, false, 1), (1, false, 1), (2, false, 1), (3, false, 1)]), (87, [(0, false, 1), (1, false, 1), (2, false, 1), (3, false, 1)]), (98, [(0, false, 1), (1, false, 1)]), (112, [(0, false, 1), (1, false, 1)]), (122, [(0, false, 1), (1, false, 1)])], [(3, false, 1), (22, false, 1), (23, false, 1), (25, true, 3), (27, false, 1), (28, false, 1), (29, false, 1), (31, true, 6), (37, false, 1), (38, false, 1), (40, true, 6), (46, false, 1), (61, true, 11), (65, true, 3), (78, true, 4), (87, true, 4), (122, true, 2), (134, true, 16), (136, true, 16)])
theorem tk : TtOk Try.prog Yp := ⟨by kernel_rfl, by kernel_rfl⟩
theorem LE : type_of% Try.underlying22 := Try.underlying22
theorem Jg : type_of% Try.underlying23 := Try.underlying23
theorem MR : type_of% Try.underlying25 := Try.underlying25
theorem JP : type_of% Try.underlying27 := Try.underlying27
theorem PB : type_of% Try.underlying29 := Try.underlying29
theorem Hl : type_of% Try.underlying46 := Try.underlying46
abbrev Er : Rp (Int × Int × Int × Int × Int × Int) := (Rp.pair (Rp.int .i64) (Rp.pair (Rp.int .i64) (Rp.pair (Rp.int .i64) (Rp.pair (Rp.int .i64) (Rp.pair (Rp.int .i64) (Rp.int .i64))))))
abbrev Ec : Rp (Int × Int) := (Rp.pair (Rp.int .i64) (Rp.int .i64))
abbrev I6 : Rp (Int × Int × Int × Int) := (Rp.pair (Rp.int .i64) (Rp.pair (Rp.int .i64) (Rp.pair (Rp.int .i64) (Rp.int .i64))))
abbrev MK : Rp (Int × Int × List Int) := (Rp.pair (Rp.int .i64) (Rp.pair (Rp.int .i64) (Rp.slice (Rp.int .i64))))
abbrev VE (p : Value × List Int) : List Int := p.2
theorem Bh : Ex (Rp.slice (Rp.int .i64)) (Rp.vsl (Rp.int .i64)) VE := Ex.sliceF
abbrev M0 : Rp (Int × Int × (Value × List Int)) := (Rp.pair (Rp.int .i64) (Rp.pair (Rp.int .i64) (Rp.vsl (Rp.int .i64))))
abbrev Ws (p : Int × Int × (Value × List Int)) : Int × Int × List Int := (p.1, p.2.1, p.2.2.2)
theorem Fp : Ex MK M0 Ws := (Ex.pair Ex.rfl' (Ex.pair Ex.rfl' Ex.sliceF))
theorem R8 : Ty Try.prog 25 true 3 := ⟨by kernel_rfl, by kernel_rfl⟩
theorem UY : Ty Try.prog 31 true 6 := ⟨by kernel_rfl, by kernel_rfl⟩
theorem Qe : Ty Try.prog 29 false 1 := ⟨by kernel_rfl, by kernel_rfl⟩
abbrev Jr (a : Int × Int × (Value × List Int)) : List Value := [.int .i64 a.1, .int .i64 a.2.1, a.2.2.1]
theorem OO : Hf M0 Jr := (Hf.pair Fl.int.to (Hf.pair Fl.int.to Hf.vsl))
theorem T7 : Et Try.prog 29 52 3 40 := Et.of PB (by kernel_rfl) (by kernel_rfl) (by kernel_rfl) (by decide)
theorem Jv : Ty Try.prog 46 false 1 := ⟨by kernel_rfl, by kernel_rfl⟩
abbrev C2 (a : Value × List Int) : List Value := [a.1]
theorem Gd : Hf (Rp.vsl (Rp.int .i64)) C2 := Hf.vsl
theorem Ke : Et Try.prog 27 46 1 24 := Et.of JP (by kernel_rfl) (by kernel_rfl) (by kernel_rfl) (by decide)
theorem P1 : Ty Try.prog 23 false 1 := ⟨by kernel_rfl, by kernel_rfl⟩
noncomputable def Fw (p1 : List (List Int)) : Int → Option (Int ⊕ (Unit ⊕ Bool))
  | x1 => (if x1 < (p1.length : Int) then (ix p1 x1).bind fun x2 => (if 12 < (x2.length : Int) then some (.inr (.inr false)) else some (.inl (A3 (x1 + 1)))) else some (.inr (.inl ())))
noncomputable def G0 (p0 : Int × (List (Int × Int × Int × Int × Int × Int)) × (List (Int × Int))) (p1 : List (List Int)) : Option Bool := Ep (Au (Fw p1) 0) fun _ => some (decide ((p0.2.1.length : Int) ≤ 30) && (decide ((p0.2.2.length : Int) ≤ 12) && decide ((p1.length : Int) ≤ 12)))
theorem Lh (Y : Nat → Prop) (w0 : World) (v1 : Value) (v2 : Value) (v3 : Value) (p0 : Int × (List (Int × Int × Int × Int × Int × Int)) × (List (Int × Int))) (p1 : List (List Int)) (r : Bool) (H : G0 p0 p1 = some r) (h_v1 : Sl w0 (NX []) Er v1 p0.2.1) (h_v2 : Sl w0 (NX []) Ec v2 p0.2.2) (h_v3 : Sl w0 (NX []) (Rp.slice (Rp.int .i64)) v3 p1) :
    Calls Try.prog 16 #[.agg #[.int .i64 p0.1, v1, v2], v3] w0 fun e w' => e = .returned (.bool r) ∧ Below w0.heap.size w0 w' := by
 refine enter Try.func16 Aa Try.ntmps16 Aa fun a F => ?_
 have W := Stw.start Y w0
 obtain ⟨v4, h1, h_v3⟩ := h_v3.ex Bh
 unfold G0 at H
 refine vc tk 2 F W fun a w F W => ?_
 refine Bq (cs := [.int .i64 p0.1, v1, v2]) F W Aa Aa Aa fun b1 a w F W => ?_
 refine vl tk 2 F W fun a w F W => ?_
 refine Ac ?_
 obtain ⟨o1, G1, K1, L1⟩ := I5 H
 refine Aj (fun a w => some (Sum.inl ()) = some o1 ∧ Fr 33 [] [(1, v3), (2, .pointer (some ⟨b1, 0, none⟩)), (4, .bool false)] a ∧ Stw ⟨Y, [], w0⟩ [(b1, [.int .i64 p0.1, v1, v2])] [] w) ?_ ?_
 ·
  have H := G1
  clear G1 K1
  refine vc tk 6 F W fun a w F W => ?_
  refine AA H (fun s a w => Fr 33 [] [(1, v3), (2, .pointer (some ⟨b1, 0, none⟩)), (4, .bool false), (5, .int .i64 s)] a ∧ Stw ⟨Y, [], w0⟩ [(b1, [.int .i64 p0.1, v1, v2])] [] w) ⟨F.ra Aa, W⟩ fun s o a w H L2 hR => ?_
  obtain ⟨x1, rfl⟩ : ∃ x, x = s := ⟨s, rfl⟩
  obtain ⟨F, W⟩ := hR
  have F : Fr 33 [] [(1, v3), (2, .pointer (some ⟨b1, 0, none⟩)), (4, .bool false), (5, .int .i64 x1)] a := F
  have W : Stw ⟨Y, [], w0⟩ [(b1, [.int .i64 p0.1, v1, v2])] [] w := W
  rw [Fw] at H
  refine vc tk 5 F W fun a w F W => ?_
  refine ls F W Aa (AR (r := (Rp.slice (Rp.int .i64))) (l := p1) JP Aa F Aa (Aq Bh h1 (Ab h_v3))).q fun a w F W => ?_
  refine Bz tk 3 F W fun a w F W => ?_
  refine AN F Aa H (fun F H => ?_) fun F H => ?_
  ·
   refine Gm tk 8 F W fun a w F W => ?_
   obtain ⟨x2, h2, H⟩ := Ae H
   obtain ⟨v5, h3, h4⟩ := Co h1 h2
   have h5 : C2 v5 = [(v5.1)] := congrArg (fun q : List Int => ([(v5.1)] : List Value)) h4
   refine ls F W Aa (Al (r := (Rp.vsl (Rp.int .i64))) Ke F Aa Aa (Ab h_v3) h3).q fun a w F W => ?_
   refine ls F W Aa (Ag (y := (v5.1)) (j := 0) (i := x1) (enc := C2) F Aa Aa (Ab h_v3) h3 Gd Jv (by rw [h5]; rfl)).q fun a w F W => ?_
   refine ls F W Aa (AR (r := (Rp.int .i64)) (l := x2) Hl Aa F Aa (A4 (Ab h_v3) h3 BL.here (congrArg (fun q : List Int => q) h4))).q fun a w F W => ?_
   refine Bz tk 3 F W fun a w F W => ?_
   refine AN F Aa H (fun F H => ?_) fun F H => ?_
   ·
    refine vc tk 5 F W fun a w F W => ?_
    refine Ao (Ax ?_)
    iterate 2 refine Aw ?_
    refine Ax (Aw ?_)
    have H := L2 _ H
    have H := L1 _ H
    have H := Av H
    subst H
    refine AE (.inl Aa) F W Aa (Ai F Aa) ?_
    exact ⟨rfl, W.done⟩
   refine As (An ?_)
   refine vn tk 5 F W fun a w F W => ?_
   refine Ac ?_
   exact ⟨_, H, F.ra Aa, W⟩
  refine Ay ?_
  iterate 2 refine AO ?_
  refine Az (Ac ?_)
  have H := L2 _ H
  exact ⟨H, F.ra Aa, W⟩
 rintro a w ⟨hj, F, W⟩
 have H := K1 _ hj
 clear hj G1 K1 L1
 refine Aj (fun a w => Fr 33 [] [(4, .bool (decide ((p0.2.1.length : Int) ≤ 30) && (decide ((p0.2.2.length : Int) ≤ 12) && decide ((p1.length : Int) ≤ 12))))] a ∧ Stw ⟨Y, [], w0⟩ [(b1, [.int .i64 p0.1, v1, v2])] [] w) ?_ ?_
 ·
  refine D3 tk 3 [0] F W (ai fun a w F W => ?_)
  refine ls F W Aa (AR (r := Er) (l := p0.2.1) LE Aa F Aa (Ab h_v1)).q fun a w F W => ?_
  refine vl tk 2 F W fun a w F W => ?_
  rcases Bool.eq_false_or_eq_true (decide ((p0.2.1.length : Int) ≤ 30)) with hb0 | hb0
  ·
   rw [hb0] at F
   refine GL tk 2 [0] F W (ai fun a w F W => ?_)
   refine CO F W (Ad F Aa Aa Aa Aa) Aa (Ah Aa) (AR (r := Ec) (l := p0.2.2) Jg Aa F Aa (Ab h_v2)).q fun a w F W => ?_
   refine vl tk 3 F W fun a w F W => ?_
   rcases Bool.eq_false_or_eq_true (decide ((p0.2.2.length : Int) ≤ 12)) with hb1 | hb1
   ·
    rw [hb1] at F
    refine CO F W (Ad F Aa Aa Aa Aa) Aa (Ah Aa) (Ak F Aa).q fun a w F W => ?_
    refine CO F W (Ad F Aa Aa Aa Aa) Aa (Ah Aa) (AR (r := (Rp.slice (Rp.int .i64))) (l := p1) JP Aa F Aa (Aq Bh h1 (Ab h_v3))).q fun a w F W => ?_
    refine vl tk 4 F W fun a w F W => ?_
    refine Ac ?_
    exact ⟨F.re ⟨(Gw (by try rw [hb0]; try rw [hb1]; all_goals simp only [Gv])), trivial⟩, W⟩
   rw [hb1] at F
   refine vl tk 6 F W fun a w F W => ?_
   refine Ac ?_
   exact ⟨F.re ⟨(Gw (by try rw [hb0]; try rw [hb1]; all_goals simp only [Gv])), trivial⟩, W⟩
  rw [hb0] at F
  refine vl tk 12 F W fun a w F W => ?_
  refine Ac ?_
  exact ⟨F.re ⟨(Gw (by try rw [hb0]; all_goals simp only [Gv])), trivial⟩, W⟩
 rintro a w ⟨F, W⟩
 refine Ao ?_
 have H := Av H
 subst H
 refine AE (.inl Aa) F W Aa (Ai F Aa) ?_
 exact ⟨rfl, W.done⟩
theorem PD : type_of% Try.underlying28 := Try.underlying28
theorem IY : type_of% Try.underlying31 := Try.underlying31
theorem Pb : type_of% Try.underlying52 := Try.underlying52
theorem WM : Has Try.prog 16 := BS Try.func16
theorem Qa : Ty Try.prog 28 false 1 := ⟨by kernel_rfl, by kernel_rfl⟩
abbrev Cf (a0 : Nat) (a1 : Value) (a2 : Value) (a3 : (List (Int × Int × Int × Int)) × (List (Int × Int × List Int)) × Int × Int × Int × Int) (a4 : Nat) (a5 : Int × (List (Int × Int × Int × Int × Int × Int)) × (List (Int × Int))) (a6 : Value) (a7 : Value) : List (Nat × List Value) := [(a0, [a1, a2, .int .i64 a3.2.2.1, .int .i64 a3.2.2.2.1, .int .i64 a3.2.2.2.2.1, .int .i64 a3.2.2.2.2.2]), (a4, [.int .i64 a5.1, a6, a7])]
noncomputable def Fy (p3 : (List (Int × Int × Int × Int)) × (List (Int × Int × List Int)) × Int × Int × Int × Int) : Int → Option (Int ⊕ (Unit ⊕ Bool))
  | x1 => (if x1 < (p3.2.1.length : Int) then (ix p3.2.1 x1).bind fun x2 => (if 20 < (x2.2.2.length : Int) then some (.inr (.inr false)) else some (.inl (A3 (x1 + 1)))) else some (.inr (.inl ())))
noncomputable def Il (p0 : Int × (List (Int × Int × Int × Int × Int × Int)) × (List (Int × Int))) (p1 : List (List Int)) (p2 : List (List Int)) (p3 : (List (Int × Int × Int × Int)) × (List (Int × Int × List Int)) × Int × Int × Int × Int) : Option Bool := Ep (Au (Fy p3) 0) fun _ => ((G0 p0 p1).bind fun x4 => (if x4 = true then (G0 p0 p2).bind fun x5 => (if x5 = true then (if (p3.1.length : Int) ≤ 40 then some (decide ((p3.2.1.length : Int) ≤ 12)) else some false) else some false) else some false)).bind fun x3 => some x3
theorem Ow (Y : Nat → Prop) (w0 : World) (v1 : Value) (v2 : Value) (v3 : Value) (v4 : Value) (v5 : Value) (v6 : Value) (p0 : Int × (List (Int × Int × Int × Int × Int × Int)) × (List (Int × Int))) (p1 : List (List Int)) (p2 : List (List Int)) (p3 : (List (Int × Int × Int × Int)) × (List (Int × Int × List Int)) × Int × Int × Int × Int) (r : Bool) (H : Il p0 p1 p2 p3 = some r) (h_v1 : Sl w0 (NX []) Er v1 p0.2.1) (h_v2 : Sl w0 (NX []) Ec v2 p0.2.2) (h_v3 : Sl w0 (NX []) (Rp.slice (Rp.int .i64)) v3 p1) (h_v4 : Sl w0 (NX []) (Rp.slice (Rp.int .i64)) v4 p2) (h_v5 : Sl w0 (NX []) I6 v5 p3.1) (h_v6 : Sl w0 (NX []) MK v6 p3.2.1) :
    Calls Try.prog 5 #[.agg #[.int .i64 p0.1, v1, v2], v3, v4, .agg #[v5, v6, .int .i64 p3.2.2.1, .int .i64 p3.2.2.2.1, .int .i64 p3.2.2.2.2.1, .int .i64 p3.2.2.2.2.2]] w0 fun e w' => e = .returned (.bool r) ∧ Below w0.heap.size w0 w' := by
 refine enter Try.func5 Aa Try.ntmps5 Aa fun a F => ?_
 have W := Stw.start Y w0
 obtain ⟨v7, h1, h_v3⟩ := h_v3.ex Bh
 obtain ⟨v8, h2, h_v4⟩ := h_v4.ex Bh
 obtain ⟨v9, h3, h_v6⟩ := h_v6.ex Fp
 unfold Il at H
 refine vc tk 2 F W fun a w F W => ?_
 refine Bq (cs := [.int .i64 p0.1, v1, v2]) F W Aa Aa Aa fun b1 a w F W => ?_
 refine Bq (cs := [v5, v6, .int .i64 p3.2.2.1, .int .i64 p3.2.2.2.1, .int .i64 p3.2.2.2.2.1, .int .i64 p3.2.2.2.2.2]) F W Aa Aa Aa fun b2 a w F W => ?_
 refine vl tk 2 F W fun a w F W => ?_
 refine Ac ?_
 obtain ⟨o1, G1, K1, L1⟩ := I5 H
 refine Aj (fun a w => some (Sum.inl ()) = some o1 ∧ Fr 45 [] [(1, v3), (2, v4), (4, .pointer (some ⟨b1, 0, none⟩)), (7, .pointer (some ⟨b2, 0, none⟩)), (8, .bool false)] a ∧ Stw ⟨Y, [], w0⟩ (Cf b2 v5 v6 p3 b1 p0 v1 v2) [] w) ?_ ?_
 ·
  have H := G1
  clear G1 K1
  refine vc tk 6 F W fun a w F W => ?_
  have W := W.frontM (i := 1) Aa Aa
  have W := W.frontM (i := 1) Aa Aa
  refine AA H (fun s a w => Fr 45 [] [(1, v3), (2, v4), (4, .pointer (some ⟨b1, 0, none⟩)), (7, .pointer (some ⟨b2, 0, none⟩)), (8, .bool false), (9, .int .i64 s)] a ∧ Stw ⟨Y, [], w0⟩ (Cf b2 v5 v6 p3 b1 p0 v1 v2) [] w) ⟨F.ra Aa, W⟩ fun s o a w H L2 hR => ?_
  obtain ⟨x1, rfl⟩ : ∃ x, x = s := ⟨s, rfl⟩
  obtain ⟨F, W⟩ := hR
  have F : Fr 45 [] [(1, v3), (2, v4), (4, .pointer (some ⟨b1, 0, none⟩)), (7, .pointer (some ⟨b2, 0, none⟩)), (8, .bool false), (9, .int .i64 x1)] a := F
  have W : Stw ⟨Y, [], w0⟩ (Cf b2 v5 v6 p3 b1 p0 v1 v2) [] w := W
  rw [Fy] at H
  refine D3 tk 6 [0] F W (ai fun a w F W => ?_)
  refine ls F W Aa (AR (r := MK) (l := p3.2.1) PB Aa F Aa (Aq Fp h3 (Ab h_v6))).q fun a w F W => ?_
  refine Bz tk 3 F W fun a w F W => ?_
  refine AN F Aa H (fun F H => ?_) fun F H => ?_
  ·
   refine Jk tk 9 [0] F W (ai fun a w F W => ?_)
   obtain ⟨x2, h4, H⟩ := Ae H
   obtain ⟨v10, h5, h6⟩ := Co h3 h4
   have h7 : Jr v10 = [.int .i64 x2.1, .int .i64 x2.2.1, (v10.2.2.1)] := congrArg (fun q : Int × Int × List Int => ([.int .i64 q.1, .int .i64 q.2.1, (v10.2.2.1)] : List Value)) h6
   refine ls F W Aa (Al (r := M0) T7 F Aa Aa (Ab h_v6) h5).q fun a w F W => ?_
   refine ls F W Aa (Af Pb Aa Aa Aa Jv F Aa (CS v6 + (x1).toNat * 3 + 2) Aa).q fun a w F W => ?_
   refine ls F W Aa (Ag (y := (v10.2.2.1)) (j := 2) (i := x1) (enc := Jr) F Aa Aa (Ab h_v6) h5 OO Jv (by rw [h7]; rfl)).q fun a w F W => ?_
   refine ls F W Aa (AR (r := (Rp.int .i64)) (l := x2.2.2) Hl Aa F Aa (A4 (Ab h_v6) h5 (BL.snd (BL.snd BL.here)) (congrArg (fun q : Int × Int × List Int => q.2.2) h6))).q fun a w F W => ?_
   refine Bz tk 3 F W fun a w F W => ?_
   refine AN F Aa H (fun F H => ?_) fun F H => ?_
   ·
    refine vc tk 5 F W fun a w F W => ?_
    refine Ao (Ax ?_)
    iterate 2 refine Aw ?_
    refine Ax (Aw ?_)
    have H := L2 _ H
    have H := L1 _ H
    have H := Av H
    subst H
    refine AE (.inl Aa) F W Aa (Ai F Aa) ?_
    exact ⟨rfl, W.done⟩
   refine As (An ?_)
   refine vn tk 5 F W fun a w F W => ?_
   refine Ac ?_
   have W := W.frontM (i := 1) Aa Aa
   have W := W.frontM (i := 1) Aa Aa
   exact ⟨_, H, F.ra Aa, W⟩
  refine Ay ?_
  iterate 2 refine AO ?_
  refine Az (Ac ?_)
  have W := W.frontM (i := 1) Aa Aa
  have W := W.frontM (i := 1) Aa Aa
  have H := L2 _ H
  exact ⟨H, F.ra Aa, W⟩
 rintro a w ⟨hj, F, W⟩
 have H := K1 _ hj
 clear hj G1 K1 L1
 obtain ⟨o3, G3, K3⟩ := Ae H
 refine Aj (fun a w => ∃ x3 : Bool, some (x3) = some o3 ∧ Fr 45 [] [(8, .bool x3)] a ∧ Stw ⟨Y, [], w0⟩ (Cf b2 v5 v6 p3 b1 p0 v1 v2) [] w) ?_ ?_
 ·
  have H := G3
  clear G3 K3
  refine D3 tk 3 [1] F W (ai fun a w F W => ?_)
  obtain ⟨x4, h8, H⟩ := Ae H
  refine ls F W Aa (AL (v := Value.bool x4) F WM Aa (fun w W => Lh any w (v1) (v2) (v3) p0 p1 _ h8 (Ci (Ab h_v1) W) (Ci (Ab h_v2) W) (Ci (Aq Bh h1 (Ab h_v3)) W))) fun a w F W => ?_
  refine ls F W Aa (Ak F Aa).q fun a w F W => ?_
  rcases Bool.eq_false_or_eq_true x4 with hb | hb
  ·
   have H := B5 hb H
   rw [hb] at F
   clear hb
   refine GL tk 2 [1] F W (ai fun a w F W => ?_)
   refine I3 (Ad F Aa Aa Aa Aa) ?_
   obtain ⟨x5, h9, H⟩ := Ae H
   refine ls F W Aa (AL (v := Value.bool x5) F WM Aa (fun w W => Lh any w (v1) (v2) (v4) p0 p2 _ h9 (Ci (Ab h_v1) W) (Ci (Ab h_v2) W) (Ci (Aq Bh h2 (Ab h_v4)) W))) fun a w F W => ?_
   refine vl tk 2 F W fun a w F W => ?_
   rcases Bool.eq_false_or_eq_true x5 with hb | hb
   ·
    have H := B5 hb H
    rw [hb] at F
    clear hb
    refine GL tk 2 [0] F W (ai fun a w F W => ?_)
    refine CO F W (Ad F Aa Aa Aa Aa) Aa (Ah Aa) (AR (r := I6) (l := p3.1) PD Aa F Aa (Ab h_v5)).q fun a w F W => ?_
    refine vl tk 3 F W fun a w F W => ?_
    rcases Bool.eq_false_or_eq_true (decide ((p3.1.length : Int) ≤ 40)) with hb | hb
    ·
     have H := B5 (CT hb) H
     rw [hb] at F
     clear hb
     refine GL tk 2 [0] F W (ai fun a w F W => ?_)
     refine CO F W (Ad F Aa Aa Aa Aa) Aa (Ah Aa) (AR (r := MK) (l := p3.2.1) PB Aa F Aa (Aq Fp h3 (Ab h_v6))).q fun a w F W => ?_
     refine vl tk 4 F W fun a w F W => ?_
     refine Ac ?_
     have W := W.frontM (i := 1) Aa Aa
     have W := W.frontM (i := 1) Aa Aa
     exact ⟨_, H, F.ra Aa, W⟩
    have H := B6 (CV hb) H
    rw [hb] at F
    clear hb
    refine vl tk 7 F W fun a w F W => ?_
    refine Ac ?_
    have W := W.frontM (i := 1) Aa Aa
    have W := W.frontM (i := 1) Aa Aa
    exact ⟨_, H, F.ra Aa, W⟩
   have H := B6 (by rw [hb]; decide) H
   rw [hb] at F
   clear hb
   refine vl tk 13 F W fun a w F W => ?_
   refine Ac ?_
   have W := W.frontM (i := 1) Aa Aa
   have W := W.frontM (i := 1) Aa Aa
   exact ⟨_, H, F.ra Aa, W⟩
  have H := B6 (by rw [hb]; decide) H
  rw [hb] at F
  clear hb
  refine vl tk 18 F W fun a w F W => ?_
  refine Ac ?_
  have W := W.frontM (i := 1) Aa Aa
  have W := W.frontM (i := 1) Aa Aa
  exact ⟨_, H, F.ra Aa, W⟩
 rintro a w ⟨x3, hj, F, W⟩
 have hj := Av hj
 subst hj
 have H := K3
 clear G3 K3
 refine Ao ?_
 have H := Av H
 subst H
 refine AE (.inl Aa) F W Aa (Ai F Aa) ?_
 exact ⟨rfl, W.done⟩
theorem RO : type_of% Try.underlying40 := Try.underlying40
theorem MG : type_of% Try.underlying54 := Try.underlying54
theorem MQ : type_of% Try.underlying56 := Try.underlying56
theorem T1 : type_of% Try.underlying119 := Try.underlying119
theorem Qt : type_of% Try.underlying122 := Try.underlying122
theorem H5 : Has Try.prog 5 := BS Try.func5
theorem WD : Bt Try.prog 54 [.int .i64 0, .int .i64 0, .int .i64 0, .int .i64 0, .int .i64 0, .int .i64 0] [(0, 1), (1, 1), (2, 1), (3, 1), (4, 1), (5, 1)] := ⟨⟨.agg #[.int .i64 0, .int .i64 0, .int .i64 0, .int .i64 0, .int .i64 0, .int .i64 0], by kernel_rfl, rfl⟩, ⟨_, MG, fun w => by kernel_rfl⟩⟩
theorem UI : (Try.prog.info? 54).bind (·.zero) = some (.agg #[.int .i64 0, .int .i64 0, .int .i64 0, .int .i64 0, .int .i64 0, .int .i64 0]) := by kernel_rfl
def XM (a : Int × Int × Int × Int × Int × Int) : List Value := [.int .i64 a.1, .int .i64 a.2.1, .int .i64 a.2.2.1, .int .i64 a.2.2.2.1, .int .i64 a.2.2.2.2.1, .int .i64 a.2.2.2.2.2]
theorem SO : Fl Er XM := (Fl.pair Fl.int (Fl.pair Fl.int (Fl.pair Fl.int (Fl.pair Fl.int (Fl.pair Fl.int Fl.int)))))
theorem SQ : Et Try.prog 22 54 6 48 := Et.of LE (by kernel_rfl) (by kernel_rfl) (by kernel_rfl) (by decide)
theorem WJ : Bt Try.prog 56 [.int .i64 0, .int .i64 0] [(0, 1), (1, 1)] := ⟨⟨.agg #[.int .i64 0, .int .i64 0], by kernel_rfl, rfl⟩, ⟨_, MQ, fun w => by kernel_rfl⟩⟩
theorem WR : (Try.prog.info? 56).bind (·.zero) = some (.agg #[.int .i64 0, .int .i64 0]) := by kernel_rfl
def Yi (a : Int × Int) : List Value := [.int .i64 a.1, .int .i64 a.2]
theorem Sc : Fl Ec Yi := (Fl.pair Fl.int Fl.int)
theorem SF : Et Try.prog 23 56 2 16 := Et.of Jg (by kernel_rfl) (by kernel_rfl) (by kernel_rfl) (by decide)
theorem WL : Bt Try.prog 25 [.int .i64 0, .slice none 0 0, .slice none 0 0] [(0, 1), (1, 1), (2, 1)] := ⟨⟨.agg #[.int .i64 0, .slice none 0 0, .slice none 0 0], by kernel_rfl, rfl⟩, ⟨_, MR, fun w => by kernel_rfl⟩⟩
theorem Xk : (Try.prog.info? 25).bind (·.zero) = some (.agg #[.int .i64 0, .slice none 0 0, .slice none 0 0]) := by kernel_rfl
theorem Z3 : (Try.prog.info? 3).bind (·.zero) = some (.int .i64 0) := by kernel_rfl
theorem FS : Et Try.prog 46 3 1 8 := Et.of Hl (by kernel_rfl) (by kernel_rfl) (by kernel_rfl) (by decide)
theorem VW : (Try.prog.info? 46).bind (·.zero) = some (.slice none 0 0) := by kernel_rfl
theorem VY : Bt Try.prog 40 [.slice none 0 0, .slice none 0 0, .int .i64 0, .int .i64 0, .int .i64 0, .int .i64 0] [(0, 1), (1, 1), (2, 1), (3, 1), (4, 1), (5, 1)] := ⟨⟨.agg #[.slice none 0 0, .slice none 0 0, .int .i64 0, .int .i64 0, .int .i64 0, .int .i64 0], by kernel_rfl, rfl⟩, ⟨_, RO, fun w => by kernel_rfl⟩⟩
abbrev HV : Rp (Int × Int × Int × Int) := (Rp.pair (Rp.int .i64) (Rp.pair (Rp.int .i64) (Rp.pair (Rp.int .i64) (Rp.int .i64))))
abbrev Kf : Rp (Int × Int × List Int) := (Rp.pair (Rp.int .i64) (Rp.pair (Rp.int .i64) (Rp.slice (Rp.int .i64))))
abbrev Q8 : Rp (Int × Int × (Value × List Int)) := (Rp.pair (Rp.int .i64) (Rp.pair (Rp.int .i64) (Rp.vsl (Rp.int .i64))))
abbrev WF (p : Int × Int × (Value × List Int)) : Int × Int × List Int := (p.1, p.2.1, p.2.2.2)
theorem FR : Ex Kf Q8 WF := (Ex.pair Ex.rfl' (Ex.pair Ex.rfl' Ex.sliceF))
theorem T3 : Ty Try.prog 3 false 1 := ⟨by kernel_rfl, by kernel_rfl⟩
abbrev Ii (x : Int × Int) : Value := .agg #[.int .i64 x.1, .int .i64 x.2]
abbrev IM (x : Unit) : Value := .agg #[]
theorem QS : Ty Try.prog 54 true 6 := ⟨by kernel_rfl, by kernel_rfl⟩
theorem QZ : Bt Try.prog 122 [.int .i64 0, .int .i64 0] [(0, 1), (1, 1)] := ⟨⟨.agg #[.int .i64 0, .int .i64 0], by kernel_rfl, rfl⟩, ⟨_, Qt, fun w => by kernel_rfl⟩⟩
theorem S8 : (Try.prog.info? 122).bind (·.zero) = some (.agg #[.int .i64 0, .int .i64 0]) := by kernel_rfl
abbrev FJ : Rp (Int × Int) := (Rp.pair (Rp.int .i64) (Rp.int .i64))
def Wg (a : Int × Int) : List Value := [.int .i64 a.1, .int .i64 a.2]
theorem Ug : Fl FJ Wg := (Fl.pair Fl.int Fl.int)
theorem SD : Et Try.prog 119 122 2 16 := Et.of T1 (by kernel_rfl) (by kernel_rfl) (by kernel_rfl) (by decide)
theorem VP : Ty Try.prog 56 true 2 := ⟨by kernel_rfl, by kernel_rfl⟩
abbrev QU  : List Value := [.int .i64 0, .int .i64 0, .int .i64 0, .int .i64 0, .int .i64 0, .int .i64 0]
abbrev Wx (a0 : Int × Int × Int × Int × Int × Int) : List Value := [.int .i64 a0.1, .int .i64 a0.2.1, .int .i64 a0.2.2.1, .int .i64 a0.2.2.2.1, .int .i64 a0.2.2.2.2.1, .int .i64 a0.2.2.2.2.2]
abbrev PA (a0 : Nat) (a1 : Int × Int × Int × Int × Int × Int) (a2 : Nat) (a3 : Int × (List (Int × Int × Int × Int × Int × Int)) × (List (Int × Int))) (a4 : Value) (a5 : Value) : List (Nat × List Value) := [(a0, [.int .i64 a1.1, .int .i64 a1.2.1, .int .i64 a1.2.2.1, .int .i64 a1.2.2.2.1, .int .i64 a1.2.2.2.2.1, .int .i64 a1.2.2.2.2.2]), (a2, [.int .i64 a3.1, a4, a5])]
noncomputable def C6 (p0 : Int × (List (Int × Int × Int × Int × Int × Int)) × (List (Int × Int))) : ((List (Int × Int)) × Int) → Option (((List (Int × Int)) × Int) ⊕ (List (Int × Int)))
  | (x2, x3) => (if x3 < (p0.2.1.length : Int) then (ix p0.2.1 x3).bind fun x4 => (Fo x2 ([(x4.1, x4.2.1), (x4.2.2.1, x4.2.2.2.1)] : List (Int × Int))).bind fun x5 => some (.inl (x5, A3 (x3 + 1))) else some (.inr x2))
noncomputable def C3 (p0 : Int × (List (Int × Int × Int × Int × Int × Int)) × (List (Int × Int))) : ((List (Int × Int)) × Int) → Option (((List (Int × Int)) × Int) ⊕ (List (Int × Int)))
  | (x7, x8) => (if x8 < (p0.2.2.length : Int) then (ix p0.2.2 x8).bind fun x9 => (Fo x7 ([x9] : List (Int × Int))).bind fun x10 => some (.inl (x10, A3 (x8 + 1))) else some (.inr x7))
noncomputable def EL (p0 : Int × (List (Int × Int × Int × Int × Int × Int)) × (List (Int × Int))) : Option (List (Int × Int)) := (Au (C6 p0) ([], 0)).bind fun x1 => (Au (C3 p0) (x1, 0)).bind fun x6 => some x6
theorem MW (Y : Nat → Prop) (w0 : World) (v1 : Value) (v2 : Value) (p0 : Int × (List (Int × Int × Int × Int × Int × Int)) × (List (Int × Int))) (r : (List (Int × Int))) (H : EL p0 = some r) (h_v1 : Sl w0 (NX []) Er v1 p0.2.1) (h_v2 : Sl w0 (NX []) Ec v2 p0.2.2) :
    Calls Try.prog 70 #[.agg #[.int .i64 p0.1, v1, v2]] w0 fun e w' => ∃ x : Value, e = .returned (x) ∧ Stw ⟨Y, [], w0⟩ [] [row (x) 122 FJ r] w' := by
 refine enter Try.func70 Aa Try.ntmps70 Aa fun a F => ?_
 have W := Stw.start Y w0
 unfold EL at H
 refine vc tk 2 F W fun a w F W => ?_
 refine Bq (cs := [.int .i64 p0.1, v1, v2]) F W Aa Aa Aa fun b1 a w F W => ?_
 refine Bz tk 8 F W fun a w F W => ?_
 obtain ⟨o1, G1, K1⟩ := Ae H
 refine Aj (fun a w => ∃ x1 : List (Int × Int), ∃ v3 : Value, some (x1) = some o1 ∧ Fr 46 [] [(1, .pointer (some ⟨b1, 0, none⟩)), (2, .slice none 0 0), (3, v3)] a ∧ Stw ⟨Y, [], w0⟩ [(b1, [.int .i64 p0.1, v1, v2])] [row v3 122 FJ x1] w) ?_ ?_
 ·
  have H := G1
  clear G1 K1
  refine D3 tk 4 [0] F W (ai fun a w F W => ?_)
  refine ls F W Aa (AR (r := Er) (l := p0.2.1) LE Aa F Aa (Ab h_v1)).q fun a w F W => ?_
  refine Bz tk 4 F W fun a w F W => ?_
  have W := W.nilRow 122 FJ
  refine AA H (fun s a w => ∃ v4 : Value, Fr 46 [] [(1, .pointer (some ⟨b1, 0, none⟩)), (2, .slice none 0 0), (3, v4), (9, v1), (10, .int .i64 (p0.2.1.length : Int)), (11, .int .i64 s.2)] a ∧ Stw ⟨Y, [], w0⟩ [(b1, [.int .i64 p0.1, v1, v2])] [row v4 122 FJ s.1] w) ⟨(Value.slice none 0 0), F.ra Aa, W⟩ fun s o a w H L2 hR => ?_
  obtain ⟨x2, x3⟩ := s
  obtain ⟨v4, F, W⟩ := hR
  have F : Fr 46 [] [(1, .pointer (some ⟨b1, 0, none⟩)), (2, .slice none 0 0), (3, v4), (9, v1), (10, .int .i64 (p0.2.1.length : Int)), (11, .int .i64 x3)] a := F
  have W : Stw ⟨Y, [], w0⟩ [(b1, [.int .i64 p0.1, v1, v2])] [row v4 122 FJ x2] w := W
  rw [C6] at H
  refine vc tk 6 F W fun a w F W => ?_
  refine AN F Aa H (fun F H => ?_) fun F H => ?_
  ·
   refine Gm tk 6 F W fun a w F W => ?_
   obtain ⟨x4, h1, H⟩ := Ae H
   refine ls F W Aa (Al (r := Er) SQ F Aa Aa (Ab h_v1) h1).q fun a w F W => ?_
   refine ls F W Aa (Ag (y := Value.agg #[.int .i64 x4.1, .int .i64 x4.2.1, .int .i64 x4.2.2.1, .int .i64 x4.2.2.2.1, .int .i64 x4.2.2.2.2.1, .int .i64 x4.2.2.2.2.2]) (j := 0) (i := x3) F Aa Aa (Ab h_v1) h1 SO.to QS Aa).q fun a w F W => ?_
   refine BU (cs := (QU)) F W Aa UI Aa fun b2 a w F W => ?_
   refine Fv 0 F W Aa Aa Aa QS Aa Aa Aa fun w W => ?_
   refine IG tk 8 [0, 0] F W (ai (ai fun a w F W => ?_))
   refine ls F W Aa (Bx (v := Value.agg #[.int .i64 x4.1, .int .i64 x4.2.1]) QZ F Aa Aa Aa).q fun a w F W => ?_
   refine GL tk 4 [0, 0] F W (ai (ai fun a w F W => ?_))
   refine ls F W Aa (Bx (v := Value.agg #[.int .i64 x4.2.2.1, .int .i64 x4.2.2.2.1]) QZ F Aa Aa Aa).q fun a w F W => ?_
   refine Cp (z := Value.agg #[.int .i64 0, .int .i64 0]) (cs := [.int .i64 x4.1, .int .i64 x4.2.1, .int .i64 x4.2.2.1, .int .i64 x4.2.2.2.1]) FJ ([(x4.1, x4.2.1), (x4.2.2.1, x4.2.2.2.1)] : List (Int × Int)) F W Aa SD S8 Aa Aa Aa Aa Aa Aa (Ug.repL _ _ ([(x4.1, x4.2.1), (x4.2.2.1, x4.2.2.2.1)] : List (Int × Int))) fun v5 a w F W => ?_
   obtain ⟨x5, h2, H⟩ := Ae H
   refine BF (r := FJ) (i := 1) F W Aa SD Aa Aa Aa Aa (Cr W 0 Aa) h2 Aa fun v6 a w F W => ?_
   have W : Stw ⟨Y, [], w0⟩ (PA b2 x4 b1 p0 v1 v2) [row v6 122 FJ x5, row v5 122 FJ ([(x4.1, x4.2.1), (x4.2.2.1, x4.2.2.2.1)] : List (Int × Int))] w := W
   refine vl tk 2 F W fun a w F W => ?_
   refine An ?_
   refine vn tk 4 F W fun a w F W => ?_
   refine Ac ?_
   have W := W.frontM (i := 1) Aa Aa
   have W := W.sub (M' := [(b1, [.int .i64 p0.1, v1, v2])]) (Z' := [row v6 122 FJ x5]) (List.Sublist.cons_cons _ (List.nil_sublist _)) (List.Sublist.cons_cons _ (List.nil_sublist _))
   exact ⟨_, H, (v6), F.ra Aa, W⟩
  refine Ay ?_
  iterate 2 refine AO ?_
  refine Az (Ac ?_)
  have H := L2 _ H
  exact ⟨_, (v4), H, F.ra Aa, W⟩
 rintro a w ⟨x1, v3, hj, F, W⟩
 have hj := Av hj
 subst hj
 have H := K1
 clear G1 K1
 obtain ⟨o3, G3, K3⟩ := Ae H
 refine Aj (fun a w => ∃ x6 : List (Int × Int), ∃ v7 : Value, some (x6) = some o3 ∧ Fr 46 [] [(2, .slice none 0 0), (3, v7)] a ∧ Stw ⟨Y, [], w0⟩ [(b1, [.int .i64 p0.1, v1, v2])] [row v7 122 FJ x6] w) ?_ ?_
 ·
  have H := G3
  clear G3 K3
  refine D3 tk 4 [0] F W (ai fun a w F W => ?_)
  refine ls F W Aa (AR (r := Ec) (l := p0.2.2) Jg Aa F Aa (Ab h_v2)).q fun a w F W => ?_
  refine Bz tk 4 F W fun a w F W => ?_
  refine AA H (fun s a w => ∃ v8 : Value, Fr 46 [] [(2, .slice none 0 0), (3, v8), (30, v2), (31, .int .i64 (p0.2.2.length : Int)), (32, .int .i64 s.2)] a ∧ Stw ⟨Y, [], w0⟩ [(b1, [.int .i64 p0.1, v1, v2])] [row v8 122 FJ s.1] w) ⟨(v3), F.ra Aa, W⟩ fun s o a w H L4 hR => ?_
  obtain ⟨x7, x8⟩ := s
  obtain ⟨v8, F, W⟩ := hR
  have F : Fr 46 [] [(2, .slice none 0 0), (3, v8), (30, v2), (31, .int .i64 (p0.2.2.length : Int)), (32, .int .i64 x8)] a := F
  have W : Stw ⟨Y, [], w0⟩ [(b1, [.int .i64 p0.1, v1, v2])] [row v8 122 FJ x7] w := W
  rw [C3] at H
  refine vc tk 6 F W fun a w F W => ?_
  refine AN F Aa H (fun F H => ?_) fun F H => ?_
  ·
   refine Gm tk 6 F W fun a w F W => ?_
   obtain ⟨x9, h3, H⟩ := Ae H
   refine ls F W Aa (Al (r := Ec) SF F Aa Aa (Ab h_v2) h3).q fun a w F W => ?_
   refine ls F W Aa (Ag (y := Value.agg #[.int .i64 x9.1, .int .i64 x9.2]) (j := 0) (i := x8) F Aa Aa (Ab h_v2) h3 Sc.to VP Aa).q fun a w F W => ?_
   refine BU (cs := [.int .i64 0, .int .i64 0]) F W Aa WR Aa fun b3 a w F W => ?_
   refine Fv 0 F W Aa Aa Aa VP Aa Aa Aa fun w W => ?_
   refine IG tk 8 [0, 0] F W (ai (ai fun a w F W => ?_))
   refine ls F W Aa (Bx (v := Value.agg #[.int .i64 x9.1, .int .i64 x9.2]) QZ F Aa Aa Aa).q fun a w F W => ?_
   refine Cp (z := Value.agg #[.int .i64 0, .int .i64 0]) (cs := [.int .i64 x9.1, .int .i64 x9.2]) FJ ([x9] : List (Int × Int)) F W Aa SD S8 Aa Aa Aa Aa Aa Aa (Ug.repL _ _ ([x9] : List (Int × Int))) fun v9 a w F W => ?_
   obtain ⟨x10, h4, H⟩ := Ae H
   refine BF (r := FJ) (i := 1) F W Aa SD Aa Aa Aa Aa (Cr W 0 Aa) h4 Aa fun v10 a w F W => ?_
   have W : Stw ⟨Y, [], w0⟩ [(b3, [.int .i64 x9.1, .int .i64 x9.2]), (b1, [.int .i64 p0.1, v1, v2])] [row v10 122 FJ x10, row v9 122 FJ ([x9] : List (Int × Int))] w := W
   refine vl tk 2 F W fun a w F W => ?_
   refine An ?_
   refine vn tk 4 F W fun a w F W => ?_
   refine Ac ?_
   have W := W.frontM (i := 1) Aa Aa
   have W := W.sub (M' := [(b1, [.int .i64 p0.1, v1, v2])]) (Z' := [row v10 122 FJ x10]) (List.Sublist.cons_cons _ (List.nil_sublist _)) (List.Sublist.cons_cons _ (List.nil_sublist _))
   exact ⟨_, H, (v10), F.ra Aa, W⟩
  refine Ay ?_
  iterate 2 refine AO ?_
  refine Az (Ac ?_)
  have H := L4 _ H
  exact ⟨_, (v8), H, F.ra Aa, W⟩
 rintro a w ⟨x6, v7, hj, F, W⟩
 have hj := Av hj
 subst hj
 have H := K3
 clear G3 K3
 refine vc tk 6 F W fun a w F W => ?_
 refine Ao ?_
 have H := Av H
 subst H
 refine AE (.inl Aa) F W Aa (Ai F Aa) ?_
 have W := W.sub (M' := []) (Z' := [row v7 122 FJ x6]) (List.nil_sublist _) (List.Sublist.refl _)
 exact ⟨(v7), Aa, W⟩
theorem SM : type_of% Try.underlying3 := Try.underlying3
theorem Vh : type_of% Try.underlying123 := Try.underlying123
theorem XI : Has Try.prog 70 := BS Try.func70
theorem Uz : Ty Try.prog 122 true 2 := ⟨by kernel_rfl, by kernel_rfl⟩
theorem VD (dd : Nat) (x0 : Int) (x1 : Int) (y0 : Int) (y1 : Int) (w : World) : (Op.equalIn (dd + 2) 122 (.agg #[.int .i64 x0, .int .i64 x1]) (.agg #[.int .i64 y0, .int .i64 y1])).run Try.prog w = .ok (decide (x0 = y0 ∧ x1 = y1)) w :=
  KW (d := dd + 1) (rs := [decide (x0 = y0), decide (x1 = y1)]) Qt (by kernel_rfl) ⟨rfl, II (d := dd + 0) rfl rfl SM T3 rfl rfl, rfl, II (d := dd + 0) rfl rfl SM T3 rfl rfl, trivial⟩ (by simp) w
theorem Vu : Try.prog.eqGuardType Try.prog.depth 122 = false := by kernel_rfl
theorem UA (x0 : Int) (x1 : Int) (y0 : Int) (y1 : Int) (w : World) : (Op.equalIn 10000 122 (.agg #[.int .i64 x0, .int .i64 x1]) (.agg #[.int .i64 y0, .int .i64 y1])).run Try.prog w = .ok (decide (x0 = y0 ∧ x1 = y1)) w := VD 9998 x0 x1 y0 y1 w
theorem T5 : KeyEnc Try.prog 122 Ii := ⟨⟨_, Qt, .inl fun _ _ => rfl⟩, fun x y w => (UA x.1 x.2 y.1 y.2 w).trans (by congr 1; exact decide_eq_decide.2 (by simp only [Prod.ext_iff])), fun b x w => LH (m := 9999) (cs := List.toArray [.int .i64 x.1, .int .i64 x.2]) Qt ⟨⟨_, OU T3 rfl, IC (m := 9998) SM⟩, ⟨_, OU T3 rfl, IC (m := 9998) SM⟩, trivial⟩ b w, fun x => by simp [Instr.sameBits]⟩
theorem VC : (Try.prog.info? 123).bind (·.zero) = some (.agg #[]) := by kernel_rfl
theorem Wa : Ty Try.prog 123 true 0 := ⟨by kernel_rfl, by kernel_rfl⟩
theorem Wj : Bt Try.prog 123 [] [] := ⟨⟨.agg #[], by kernel_rfl, rfl⟩, ⟨_, Vh, fun w => by kernel_rfl⟩⟩
def BC (p0 : Int × Int × Int × Int × Int × Int) : Bool := (decide (p0.1 = p0.2.2.1) || (decide (p0.2.2.2.2.1 < 1) || (decide (p0.2.2.2.2.2 < p0.2.2.2.2.1) || decide (1000 < p0.2.2.2.2.2))))
theorem KN (Y : Nat → Prop) (w0 : World)  (p0 : Int × Int × Int × Int × Int × Int) (r : Bool) (H : BC p0 = r)  :
    Calls Try.prog 72 #[.agg #[.int .i64 p0.1, .int .i64 p0.2.1, .int .i64 p0.2.2.1, .int .i64 p0.2.2.2.1, .int .i64 p0.2.2.2.2.1, .int .i64 p0.2.2.2.2.2]] w0 fun e w' => e = .returned (.bool r) ∧ Below w0.heap.size w0 w' := by
 refine enter Try.func72 Aa Try.ntmps72 Aa fun a F => ?_
 have W := Stw.start Y w0
 unfold BC at H
 refine vc tk 2 F W fun a w F W => ?_
 refine Bq (cs := (Wx p0)) F W Aa Aa Aa fun b1 a w F W => ?_
 refine Bz tk 3 F W fun a w F W => ?_
 refine Aj (fun a w => Fr 25 [] [(2, .bool (decide (p0.1 = p0.2.2.1) || (decide (p0.2.2.2.2.1 < 1) || (decide (p0.2.2.2.2.2 < p0.2.2.2.2.1) || decide (1000 < p0.2.2.2.2.2)))))] a ∧ Stw ⟨Y, [], w0⟩ [(b1, [.int .i64 p0.1, .int .i64 p0.2.1, .int .i64 p0.2.2.1, .int .i64 p0.2.2.2.1, .int .i64 p0.2.2.2.2.1, .int .i64 p0.2.2.2.2.2])] [] w) ?_ ?_
 ·
  refine D3 tk 7 [0, 0] F W (ai (ai fun a w F W => ?_))
  rcases Bool.eq_false_or_eq_true (decide (p0.1 = p0.2.2.1)) with hb0 | hb0
  ·
   rw [hb0] at F
   refine vl tk 18 F W fun a w F W => ?_
   refine Ac ?_
   exact ⟨F.re ⟨(Gw (by try rw [hb0]; all_goals simp only [Gv])), trivial⟩, W⟩
  rw [hb0] at F
  refine GL tk 5 [0] F W (ai fun a w F W => ?_)
  rcases Bool.eq_false_or_eq_true (decide (p0.2.2.2.2.1 < 1)) with hb1 | hb1
  ·
   rw [hb1] at F
   refine vl tk 13 F W fun a w F W => ?_
   refine Ac ?_
   exact ⟨F.re ⟨(Gw (by try rw [hb1]; try rw [hb0]; all_goals simp only [Gv])), trivial⟩, W⟩
  rw [hb1] at F
  refine GL tk 7 [0, 0] F W (ai (ai fun a w F W => ?_))
  rcases Bool.eq_false_or_eq_true (decide (p0.2.2.2.2.2 < p0.2.2.2.2.1)) with hb2 | hb2
  ·
   rw [hb2] at F
   refine vl tk 6 F W fun a w F W => ?_
   refine Ac ?_
   exact ⟨F.re ⟨(Gw (by try rw [hb2]; try rw [hb1]; try rw [hb0]; all_goals simp only [Gv])), trivial⟩, W⟩
  rw [hb2] at F
  refine GL tk 6 [0] F W (ai fun a w F W => ?_)
  refine Ac ?_
  exact ⟨F.re ⟨(Gw (by try rw [hb2]; try rw [hb1]; try rw [hb0]; all_goals simp only [Gv])), trivial⟩, W⟩
 rintro a w ⟨F, W⟩
 refine Ao ?_
 subst H
 refine AE (.inl Aa) F W Aa (Ai F Aa) ?_
 exact ⟨rfl, W.done⟩
theorem Xx : Has Try.prog 72 := BS Try.func72
noncomputable def AC (p0 : List (Int × Int × Int × Int × Int × Int)) : Int → Option (Int ⊕ (Unit ⊕ Int))
  | x1 => (if x1 < (p0.length : Int) then (ix p0 x1).bind fun x2 => (if (BC x2) = true then some (.inr (.inr x1)) else some (.inl (A3 (x1 + 1)))) else some (.inr (.inl ())))
noncomputable def Bb (p0 : List (Int × Int × Int × Int × Int × Int)) : Option Int := Ep (Au (AC p0) 0) fun _ => some (-1)
theorem EX (Y : Nat → Prop) (w0 : World) (v1 : Value) (p0 : List (Int × Int × Int × Int × Int × Int)) (r : Int) (H : Bb p0 = some r) (h_v1 : Sl w0 (NX []) Er v1 p0) :
    Calls Try.prog 87 #[v1, .func (.func 72) #[] #[]] w0 fun e w' => e = .returned (.int .i64 r) ∧ Below w0.heap.size w0 w' := by
 refine enter Try.func87 Aa Try.ntmps87 Aa fun a F => ?_
 have W := Stw.start Y w0
 unfold Bb at H
 refine vc tk 5 F W fun a w F W => ?_
 obtain ⟨o1, G1, K1, L1⟩ := I5 H
 refine Aj (fun a w => some (Sum.inl ()) = some o1 ∧ Fr 19 [] [(4, .int .i64 0)] a ∧ Stw ⟨Y, [], w0⟩ [] [] w) ?_ ?_
 ·
  have H := G1
  clear G1 K1
  refine vc tk 3 F W fun a w F W => ?_
  refine ls F W Aa (AR (r := Er) (l := p0) LE Aa F Aa (Ab h_v1)).q fun a w F W => ?_
  refine Bz tk 4 F W fun a w F W => ?_
  refine AA H (fun s a w => Fr 19 [] [(0, v1), (1, .func (.func 72) #[] #[]), (4, .int .i64 0), (7, .int .i64 (p0.length : Int)), (8, .int .i64 s)] a ∧ Stw ⟨Y, [], w0⟩ [] [] w) ⟨F.ra Aa, W⟩ fun s o a w H L2 hR => ?_
  obtain ⟨x1, rfl⟩ : ∃ x, x = s := ⟨s, rfl⟩
  obtain ⟨F, W⟩ := hR
  have F : Fr 19 [] [(0, v1), (1, .func (.func 72) #[] #[]), (4, .int .i64 0), (7, .int .i64 (p0.length : Int)), (8, .int .i64 x1)] a := F
  have W : Stw ⟨Y, [], w0⟩ [] [] w := W
  rw [AC] at H
  refine vc tk 6 F W fun a w F W => ?_
  refine AN F Aa H (fun F H => ?_) fun F H => ?_
  ·
   refine Gm tk 15 F W fun a w F W => ?_
   obtain ⟨x2, h1, H⟩ := Ae H
   refine ls F W Aa (Al (r := Er) SQ F Aa Aa (Ab h_v1) h1).q fun a w F W => ?_
   refine ls F W Aa (Ag (y := Value.agg #[.int .i64 x2.1, .int .i64 x2.2.1, .int .i64 x2.2.2.1, .int .i64 x2.2.2.2.1, .int .i64 x2.2.2.2.2.1, .int .i64 x2.2.2.2.2.2]) (j := 0) (i := x1) F Aa Aa (Ab h_v1) h1 SO.to QS Aa).q fun a w F W => ?_
   refine ls F W Aa (Oh (ws := [.agg #[.int .i64 x2.1, .int .i64 x2.2.1, .int .i64 x2.2.2.1, .int .i64 x2.2.2.2.1, .int .i64 x2.2.2.2.2.1, .int .i64 x2.2.2.2.2.2]]) (v := Value.bool (BC x2)) F Xx Aa (fun w W => KN any w x2 _ Aa)) fun a w F W => ?_
   refine Bz tk 2 F W fun a w F W => ?_
   refine B0 F Aa H (fun F H => ?_) fun F H => ?_
   ·
    refine vc tk 6 F W fun a w F W => ?_
    refine Ao (Ax ?_)
    iterate 2 refine Aw ?_
    refine Ax (Aw ?_)
    have H := L2 _ H
    have H := L1 _ H
    have H := Av H
    subst H
    refine AE (.inl Aa) F W Aa (Ai F Aa) ?_
    exact ⟨rfl, W.done⟩
   refine As (An ?_)
   refine vn tk 4 F W fun a w F W => ?_
   refine Ac ?_
   exact ⟨_, H, F.ra Aa, W⟩
  refine Ay ?_
  iterate 2 refine AO ?_
  refine Az (Ac ?_)
  have H := L2 _ H
  exact ⟨H, F.ra Aa, W⟩
 rintro a w ⟨hj, F, W⟩
 have H := K1 _ hj
 clear hj G1 K1 L1
 refine vc tk 5 F W fun a w F W => ?_
 refine Ao ?_
 have H := Av H
 subst H
 refine AE (.inl Aa) F W Aa (Ai F Aa) ?_
 exact ⟨rfl, W.done⟩
theorem Yh : Has Try.prog 87 := BS Try.func87
noncomputable def AW (p0 : List (Int × Int × Int × Int × Int × Int)) : Option Bool := (Bb p0).bind fun x1 => some (decide (0 ≤ x1))
theorem Eo (Y : Nat → Prop) (w0 : World) (v1 : Value) (p0 : List (Int × Int × Int × Int × Int × Int)) (r : Bool) (H : AW p0 = some r) (h_v1 : Sl w0 (NX []) Er v1 p0) :
    Calls Try.prog 71 #[v1, .func (.func 72) #[] #[]] w0 fun e w' => e = .returned (.bool r) ∧ Below w0.heap.size w0 w' := by
 refine enter Try.func71 Aa Try.ntmps71 Aa fun a F => ?_
 have W := Stw.start Y w0
 unfold AW at H
 refine vc tk 9 F W fun a w F W => ?_
 obtain ⟨x1, h1, H⟩ := Ae H
 refine ls F W Aa (AL (v := Value.int .i64 x1) F Yh Aa (fun w W => EX any w (v1) p0 _ h1 (Ci (Ab h_v1) W))) fun a w F W => ?_
 refine Bz tk 4 F W fun a w F W => ?_
 refine Ao ?_
 have H := Av H
 subst H
 refine AE (.inl Aa) F W Aa (Ai F Aa) ?_
 exact ⟨rfl, W.done⟩
theorem TZ : type_of% Try.underlying118 := Try.underlying118
theorem Yv : Has Try.prog 71 := BS Try.func71
noncomputable def Cw (p0 : Int × (List (Int × Int × Int × Int × Int × Int)) × (List (Int × Int))) (x2 : (List (Int × Int))) : (Int × (List ((Int × Int) × Unit))) → Option ((Int × (List ((Int × Int) × Unit))) ⊕ ((List ((Int × Int) × Unit)) ⊕ Bool))
  | (x3, x4) => (if x3 < (x2.length : Int) then (ix x2 x3).bind fun x5 => (if (decide (x5.1 < 0) || (decide (p0.1 ≤ x5.1) || (decide (x5.2 < 0) || decide (8 ≤ x5.2)))) = true then some (.inr (.inr false)) else (if ((KK x4 x5).isSome) = true then some (.inr (.inr false)) else some (.inl (A3 (x3 + 1), KY x4 x5 ())))) else some (.inr (.inl x4)))
noncomputable def E5 (p0 : Int × (List (Int × Int × Int × Int × Int × Int)) × (List (Int × Int))) : Option Bool := (if (decide (p0.1 < 1) || (decide (8 < p0.1) || (decide (24 < (p0.2.1.length : Int)) || decide (8 < (p0.2.2.length : Int))))) = true then some false else Ep ((EL p0).bind fun x2 => Au (Cw p0 x2) (0, ([] : List ((Int × Int) × Unit)))) fun x1 => (AW p0.2.1).bind fun x6 => some (!x6))
theorem N7 (Y : Nat → Prop) (w0 : World) (v1 : Value) (v2 : Value) (p0 : Int × (List (Int × Int × Int × Int × Int × Int)) × (List (Int × Int))) (r : Bool) (H : E5 p0 = some r) (h_v1 : Sl w0 (NX []) Er v1 p0.2.1) (h_v2 : Sl w0 (NX []) Ec v2 p0.2.2) :
    Calls Try.prog 50 #[.agg #[.int .i64 p0.1, v1, v2]] w0 fun e w' => e = .returned (.bool r) ∧ Below w0.heap.size w0 w' := by
 refine enter Try.func50 Aa Try.ntmps50 Aa fun a F => ?_
 have W := Stw.start Y w0
 unfold E5 at H
 refine vc tk 2 F W fun a w F W => ?_
 refine Bq (cs := [.int .i64 p0.1, v1, v2]) F W Aa Aa Aa fun b1 a w F W => ?_
 refine Bz tk 4 F W fun a w F W => ?_
 refine Aj (fun a w => Fr 71 [] [(1, .pointer (some ⟨b1, 0, none⟩)), (2, .bool false), (27, .bool (decide (p0.1 < 1) || (decide (8 < p0.1) || (decide (24 < (p0.2.1.length : Int)) || decide (8 < (p0.2.2.length : Int))))))] a ∧ Stw ⟨Y, [], w0⟩ [(b1, [.int .i64 p0.1, v1, v2])] [] w) ?_ ?_
 ·
  refine D3 tk 5 [0] F W (ai fun a w F W => ?_)
  rcases Bool.eq_false_or_eq_true (decide (p0.1 < 1)) with hb0 | hb0
  ·
   rw [hb0] at F
   refine vl tk 17 F W fun a w F W => ?_
   refine Ac ?_
   exact ⟨F.re ⟨rfl, Aa, (Gw (by try rw [hb0]; all_goals simp only [Gv])), trivial⟩, W⟩
  rw [hb0] at F
  refine GL tk 5 [0] F W (ai fun a w F W => ?_)
  rcases Bool.eq_false_or_eq_true (decide (8 < p0.1)) with hb1 | hb1
  ·
   rw [hb1] at F
   refine vl tk 12 F W fun a w F W => ?_
   refine Ac ?_
   exact ⟨F.re ⟨rfl, Aa, (Gw (by try rw [hb0]; try rw [hb1]; all_goals simp only [Gv])), trivial⟩, W⟩
  rw [hb1] at F
  refine GL tk 2 [0] F W (ai fun a w F W => ?_)
  refine CO F W (Ad F Aa Aa Aa Aa) Aa (Ah Aa) (AR (r := Er) (l := p0.2.1) LE Aa F Aa (Ab h_v1)).q fun a w F W => ?_
  refine vl tk 3 F W fun a w F W => ?_
  rcases Bool.eq_false_or_eq_true (decide (24 < (p0.2.1.length : Int))) with hb2 | hb2
  ·
   rw [hb2] at F
   refine vl tk 6 F W fun a w F W => ?_
   refine Ac ?_
   exact ⟨F.re ⟨rfl, Aa, (Gw (by try rw [hb2]; try rw [hb0]; try rw [hb1]; all_goals simp only [Gv])), trivial⟩, W⟩
  rw [hb2] at F
  refine GL tk 2 [0] F W (ai fun a w F W => ?_)
  refine CO F W (Ad F Aa Aa Aa Aa) Aa (Ah Aa) (AR (r := Ec) (l := p0.2.2) Jg Aa F Aa (Ab h_v2)).q fun a w F W => ?_
  refine vl tk 3 F W fun a w F W => ?_
  refine Ac ?_
  exact ⟨F.re ⟨rfl, Aa, (Gw (by try rw [hb2]; try rw [hb0]; try rw [hb1]; all_goals simp only [Gv])), trivial⟩, W⟩
 rintro a w ⟨F, W⟩
 refine B0 F Aa H (fun F H => ?_) fun F H => ?_
 ·
  refine vc tk 5 F W fun a w F W => ?_
  refine Ao (Aw ?_)
  have H := Av H
  subst H
  refine AE (.inl Aa) F W Aa (Ai F Aa) ?_
  exact ⟨rfl, W.done⟩
 refine Gm tk 4 F W fun a w F W => ?_
 refine Q4 Ii IM F W Aa fun b2 a w F W => ?_
 have W : Stw ⟨Y, [], w0⟩ [(b1, [.int .i64 p0.1, v1, v2])] [mp b2 Ii IM ([] : List ((Int × Int) × Unit))] w := W
 refine vl tk 2 F W fun a w F W => ?_
 refine Ac ?_
 obtain ⟨o1, G1, K1, L1⟩ := I5 H
 refine Aj (fun a w => ∃ x1 : List ((Int × Int) × Unit), some (Sum.inl x1) = some o1 ∧ Fr 71 [] [(1, .pointer (some ⟨b1, 0, none⟩)), (2, .bool false)] a ∧ Stw ⟨Y, [], w0⟩ [(b1, [.int .i64 p0.1, v1, v2])] [mp b2 Ii IM x1] w) ?_ ?_
 ·
  have H := G1
  clear G1 K1
  refine D3 tk 3 [0] F W (ai fun a w F W => ?_)
  obtain ⟨x2, h1, H⟩ := Ae H
  refine Cv (Ml := []) (Zl := []) (β := Value) (rv := fun x => x) (MM := fun x => []) (ZZ := fun x => [row x 122 FJ x2]) F W XI Aa Aa (fun hL => MW _ w (v1) (v2) p0 _ h1 ((Ab h_v1) w W).nx ((Ab h_v2) w W).nx) fun x a w F W => ?_
  obtain ⟨v3, rfl⟩ : ∃ y, y = x := ⟨x, rfl⟩
  have W : Stw ⟨Y, [], w0⟩ [(b1, [.int .i64 p0.1, v1, v2])] [row v3 122 FJ x2, mp b2 Ii IM ([] : List ((Int × Int) × Unit))] w := W
  refine ls F W Aa (AR (r := FJ) (l := x2) T1 Aa F Aa (BE 0 Aa)).q fun a w F W => ?_
  refine Bz tk 4 F W fun a w F W => ?_
  have W := W.frontZ (i := 1) Aa Aa
  have W := W.frontZ (i := 1) Aa Aa
  refine AA H (fun s a w => Fr 71 [] [(1, .pointer (some ⟨b1, 0, none⟩)), (2, .bool false), (3, .map (some b2)), (30, v3), (31, .int .i64 (x2.length : Int)), (32, .int .i64 s.1)] a ∧ Stw ⟨Y, [], w0⟩ [(b1, [.int .i64 p0.1, v1, v2])] [row v3 122 FJ x2, mp b2 Ii IM s.2] w) ⟨F.ra Aa, W⟩ fun s o a w H L2 hR => ?_
  obtain ⟨x3, x4⟩ := s
  obtain ⟨F, W⟩ := hR
  have F : Fr 71 [] [(1, .pointer (some ⟨b1, 0, none⟩)), (2, .bool false), (3, .map (some b2)), (30, v3), (31, .int .i64 (x2.length : Int)), (32, .int .i64 x3)] a := F
  have W : Stw ⟨Y, [], w0⟩ [(b1, [.int .i64 p0.1, v1, v2])] [row v3 122 FJ x2, mp b2 Ii IM x4] w := W
  rw [Cw] at H
  refine vc tk 6 F W fun a w F W => ?_
  refine AN F Aa H (fun F H => ?_) fun F H => ?_
  ·
   refine Gm tk 6 F W fun a w F W => ?_
   obtain ⟨x5, h2, H⟩ := Ae H
   refine ls F W Aa (Al (r := FJ) SD F Aa Aa (BE 0 Aa) h2).q fun a w F W => ?_
   refine ls F W Aa (Ag (y := Value.agg #[.int .i64 x5.1, .int .i64 x5.2]) (j := 0) (i := x3) F Aa Aa (BE 0 Aa) h2 Ug.to Uz Aa).q fun a w F W => ?_
   refine BU (cs := [.int .i64 0, .int .i64 0]) F W Aa S8 Aa fun b3 a w F W => ?_
   refine Fv 0 F W Aa Aa Aa Uz Aa Aa Aa fun w W => ?_
   refine Bz tk 3 F W fun a w F W => ?_
   refine Aj (fun a w => Fr 71 [] [(1, .pointer (some ⟨b1, 0, none⟩)), (2, .bool false), (3, .map (some b2)), (5, .pointer (some ⟨b3, 0, none⟩)), (30, v3), (31, .int .i64 (x2.length : Int)), (32, .int .i64 x3), (55, .bool (decide (x5.1 < 0) || (decide (p0.1 ≤ x5.1) || (decide (x5.2 < 0) || decide (8 ≤ x5.2)))))] a ∧ Stw ⟨Y, [], w0⟩ [(b3, [.int .i64 x5.1, .int .i64 x5.2]), (b1, [.int .i64 p0.1, v1, v2])] [row v3 122 FJ x2, mp b2 Ii IM x4] w) ?_ ?_
   ·
    refine D3 tk 5 [0] F W (ai fun a w F W => ?_)
    rcases Bool.eq_false_or_eq_true (decide (x5.1 < 0)) with hb0 | hb0
    ·
     rw [hb0] at F
     refine vl tk 17 F W fun a w F W => ?_
     refine Ac ?_
     exact ⟨F.re ⟨rfl, Aa, Aa, Aa, Aa, Aa, Aa, (Gw (by try rw [hb0]; all_goals simp only [Gv])), trivial⟩, W⟩
    rw [hb0] at F
    refine GL tk 7 [0, 1] F W (ai (ai fun a w F W => ?_))
    rcases Bool.eq_false_or_eq_true (decide (p0.1 ≤ x5.1)) with hb1 | hb1
    ·
     rw [hb1] at F
     refine vl tk 10 F W fun a w F W => ?_
     refine Ac ?_
     exact ⟨F.re ⟨rfl, Aa, Aa, Aa, Aa, Aa, Aa, (Gw (by try rw [hb1]; try rw [hb0]; all_goals simp only [Gv])), trivial⟩, W⟩
    rw [hb1] at F
    refine GL tk 5 [0] F W (ai fun a w F W => ?_)
    rcases Bool.eq_false_or_eq_true (decide (x5.2 < 0)) with hb2 | hb2
    ·
     rw [hb2] at F
     refine vl tk 5 F W fun a w F W => ?_
     refine Ac ?_
     exact ⟨F.re ⟨rfl, Aa, Aa, Aa, Aa, Aa, Aa, (Gw (by try rw [hb1]; try rw [hb0]; try rw [hb2]; all_goals simp only [Gv])), trivial⟩, W⟩
    rw [hb2] at F
    refine GL tk 5 [0] F W (ai fun a w F W => ?_)
    refine Ac ?_
    exact ⟨F.re ⟨rfl, Aa, Aa, Aa, Aa, Aa, Aa, (Gw (by try rw [hb1]; try rw [hb0]; try rw [hb2]; all_goals simp only [Gv])), trivial⟩, W⟩
   rintro a w ⟨F, W⟩
   refine B0 F Aa H (fun F H => ?_) fun F H => ?_
   ·
    refine vc tk 5 F W fun a w F W => ?_
    refine Ao (Aw (Ax ?_))
    iterate 2 refine Aw ?_
    refine Ax (Aw ?_)
    have H := L2 _ H
    have H := L1 _ H
    have H := Av H
    subst H
    refine AE (.inl Aa) F W Aa (Ai F Aa) ?_
    exact ⟨rfl, W.done⟩
   refine Jk tk 7 [0] F W (ai fun a w F W => ?_)
   refine ls F W Aa (Q2 (zv := (() : Unit)) (kx := (x5 : Int × Int)) (q := 1) (E := Ii) (V := IM) F Aa Aa Aa T5 TZ VC).q fun a w F W => ?_
   refine ls F W Aa (Ak F Aa).q fun a w F W => ?_
   refine ls F W Aa (A9 (v := Value.agg #[]) F Aa Aa).q fun a w F W => ?_
   refine ls F W Aa (A9 (v := Value.bool ((KK x4 x5).isSome)) F Aa Aa).q fun a w F W => ?_
   refine BU (cs := []) F W Aa VC Aa fun b4 a w F W => ?_
   refine Fv 0 F W Aa Aa Aa Wa Aa Aa Aa fun w W => ?_
   refine Bz tk 8 F W fun a w F W => ?_
   refine GC F Aa (fun hb => ?_) fun hb => ?_
   ·
    have H := B5 hb H
    rw [hb] at F
    clear hb
    refine vc tk 5 F W fun a w F W => ?_
    refine Ao (Aw (Ax ?_))
    iterate 2 refine Aw ?_
    refine Ax (Aw ?_)
    have H := L2 _ H
    have H := L1 _ H
    have H := Av H
    subst H
    refine AE (.inl Aa) F W Aa (Ai F Aa) ?_
    exact ⟨rfl, W.done⟩
   have H := B6 (by rw [hb]; decide) H
   rw [hb] at F
   clear hb
   refine Jk tk 5 [1] F W (ai fun a w F W => ?_)
   refine ls F W Aa (Bx (v := Value.agg #[]) Wj F Aa Aa Aa).q fun a w F W => ?_
   refine RA (q := 1) (kx := (x5 : Int × Int)) (vx := (() : Unit)) (E := Ii) (V := IM) F W Aa Aa Aa Aa Aa T5 TZ fun w W => ?_
   have W : Stw ⟨Y, [], w0⟩ [(b4, []), (b3, [.int .i64 x5.1, .int .i64 x5.2]), (b1, [.int .i64 p0.1, v1, v2])] [mp b2 Ii IM (KY x4 x5 ()), row v3 122 FJ x2] w := W
   refine DP (An ?_)
   refine vn tk 4 F W fun a w F W => ?_
   refine Ac ?_
   have W := W.frontZ (i := 1) Aa Aa
   have W := W.frontM (i := 2) Aa Aa
   have W := W.sub (M' := [(b1, [.int .i64 p0.1, v1, v2])]) (Z' := [row v3 122 FJ x2, mp b2 Ii IM (KY x4 x5 ())]) (List.Sublist.cons_cons _ (List.nil_sublist _)) (List.Sublist.refl _)
   exact ⟨_, H, F.ra Aa, W⟩
  refine Ay ?_
  iterate 2 refine AO ?_
  refine Az (Ac ?_)
  have W := W.frontZ (i := 1) Aa Aa
  have W := W.sub (M' := [(b1, [.int .i64 p0.1, v1, v2])]) (Z' := [mp b2 Ii IM x4]) (List.Sublist.refl _) (List.Sublist.cons_cons _ (List.nil_sublist _))
  have H := L2 _ H
  exact ⟨_, H, F.ra Aa, W⟩
 rintro a w ⟨x1, hj, F, W⟩
 have H := K1 _ hj
 clear hj G1 K1 L1
 refine D3 tk 4 [0] F W (ai fun a w F W => ?_)
 obtain ⟨x6, h3, H⟩ := Ae H
 refine ls F W Aa (AL (v := Value.bool x6) F Yv Aa (fun w W => Eo any w (v1) p0.2.1 _ h3 (Ci (Ab h_v1) W))) fun a w F W => ?_
 refine Bz tk 4 F W fun a w F W => ?_
 refine Ao ?_
 have H := Av H
 subst H
 refine AE (.inl Aa) F W Aa (Ai F Aa) ?_
 exact ⟨rfl, W.done⟩
theorem Xp : Has Try.prog 50 := BS Try.func50
def CP (p0 : Int) : Bool := (decide (p0 < 0) || decide (8 ≤ p0))
theorem Kl (Y : Nat → Prop) (w0 : World)  (p0 : Int) (r : Bool) (H : CP p0 = r)  :
    Calls Try.prog 52 #[.int .i64 p0] w0 fun e w' => e = .returned (.bool r) ∧ Below w0.heap.size w0 w' := by
 refine enter Try.func52 Aa Try.ntmps52 Aa fun a F => ?_
 have W := Stw.start Y w0
 unfold CP at H
 refine vc tk 5 F W fun a w F W => ?_
 refine Aj (fun a w => Fr 9 [] [(2, .bool (decide (p0 < 0) || decide (8 ≤ p0)))] a ∧ Stw ⟨Y, [], w0⟩ [] [] w) ?_ ?_
 ·
  refine vc tk 4 F W fun a w F W => ?_
  rcases Bool.eq_false_or_eq_true (decide (p0 < 0)) with hb0 | hb0
  ·
   rw [hb0] at F
   refine vl tk 5 F W fun a w F W => ?_
   refine Ac ?_
   exact ⟨F.re ⟨(Gw (by try rw [hb0]; all_goals simp only [Gv])), trivial⟩, W⟩
  rw [hb0] at F
  refine vl tk 5 F W fun a w F W => ?_
  refine Ac ?_
  exact ⟨F.re ⟨(Gw (by try rw [hb0]; all_goals simp only [Gv])), trivial⟩, W⟩
 rintro a w ⟨F, W⟩
 refine Ao ?_
 subst H
 refine AE (.inl Aa) F W Aa (Ai F Aa) ?_
 exact ⟨rfl, W.done⟩
theorem XS : Has Try.prog 52 := BS Try.func52
noncomputable def AY (p0 : List Int) : Int → Option (Int ⊕ (Unit ⊕ Int))
  | x1 => (if x1 < (p0.length : Int) then (ix p0 x1).bind fun x2 => (if (CP x2) = true then some (.inr (.inr x1)) else some (.inl (A3 (x1 + 1)))) else some (.inr (.inl ())))
noncomputable def B9 (p0 : List Int) : Option Int := Ep (Au (AY p0) 0) fun _ => some (-1)
theorem Hi (Y : Nat → Prop) (w0 : World) (v1 : Value) (p0 : List Int) (r : Int) (H : B9 p0 = some r) (h_v1 : Sl w0 (NX []) (Rp.int .i64) v1 p0) :
    Calls Try.prog 73 #[v1, .func (.func 52) #[] #[]] w0 fun e w' => e = .returned (.int .i64 r) ∧ Below w0.heap.size w0 w' := by
 refine enter Try.func73 Aa Try.ntmps73 Aa fun a F => ?_
 have W := Stw.start Y w0
 unfold B9 at H
 refine vc tk 5 F W fun a w F W => ?_
 obtain ⟨o1, G1, K1, L1⟩ := I5 H
 refine Aj (fun a w => some (Sum.inl ()) = some o1 ∧ Fr 19 [] [(4, .int .i64 0)] a ∧ Stw ⟨Y, [], w0⟩ [] [] w) ?_ ?_
 ·
  have H := G1
  clear G1 K1
  refine vc tk 3 F W fun a w F W => ?_
  refine ls F W Aa (AR (r := (Rp.int .i64)) (l := p0) Hl Aa F Aa (Ab h_v1)).q fun a w F W => ?_
  refine Bz tk 4 F W fun a w F W => ?_
  refine AA H (fun s a w => Fr 19 [] [(0, v1), (1, .func (.func 52) #[] #[]), (4, .int .i64 0), (7, .int .i64 (p0.length : Int)), (8, .int .i64 s)] a ∧ Stw ⟨Y, [], w0⟩ [] [] w) ⟨F.ra Aa, W⟩ fun s o a w H L2 hR => ?_
  obtain ⟨x1, rfl⟩ : ∃ x, x = s := ⟨s, rfl⟩
  obtain ⟨F, W⟩ := hR
  have F : Fr 19 [] [(0, v1), (1, .func (.func 52) #[] #[]), (4, .int .i64 0), (7, .int .i64 (p0.length : Int)), (8, .int .i64 x1)] a := F
  have W : Stw ⟨Y, [], w0⟩ [] [] w := W
  rw [AY] at H
  refine vc tk 6 F W fun a w F W => ?_
  refine AN F Aa H (fun F H => ?_) fun F H => ?_
  ·
   refine Gm tk 15 F W fun a w F W => ?_
   obtain ⟨x2, h1, H⟩ := Ae H
   refine ls F W Aa (Al (r := (Rp.int .i64)) FS F Aa Aa (Ab h_v1) h1).q fun a w F W => ?_
   refine ls F W Aa (Ag (y := Value.int .i64 x2) (j := 0) (i := x1) F Aa Aa (Ab h_v1) h1 Fl.int.to T3 Aa).q fun a w F W => ?_
   refine ls F W Aa (Oh (ws := [.int .i64 x2]) (v := Value.bool (CP x2)) F XS Aa (fun w W => Kl any w x2 _ Aa)) fun a w F W => ?_
   refine Bz tk 2 F W fun a w F W => ?_
   refine B0 F Aa H (fun F H => ?_) fun F H => ?_
   ·
    refine vc tk 6 F W fun a w F W => ?_
    refine Ao (Ax ?_)
    iterate 2 refine Aw ?_
    refine Ax (Aw ?_)
    have H := L2 _ H
    have H := L1 _ H
    have H := Av H
    subst H
    refine AE (.inl Aa) F W Aa (Ai F Aa) ?_
    exact ⟨rfl, W.done⟩
   refine As (An ?_)
   refine vn tk 4 F W fun a w F W => ?_
   refine Ac ?_
   exact ⟨_, H, F.ra Aa, W⟩
  refine Ay ?_
  iterate 2 refine AO ?_
  refine Az (Ac ?_)
  have H := L2 _ H
  exact ⟨H, F.ra Aa, W⟩
 rintro a w ⟨hj, F, W⟩
 have H := K1 _ hj
 clear hj G1 K1 L1
 refine vc tk 5 F W fun a w F W => ?_
 refine Ao ?_
 have H := Av H
 subst H
 refine AE (.inl Aa) F W Aa (Ai F Aa) ?_
 exact ⟨rfl, W.done⟩
theorem XF : Has Try.prog 73 := BS Try.func73
noncomputable def Bm (p0 : List Int) : Option Bool := (B9 p0).bind fun x1 => some (decide (0 ≤ x1))
theorem Gk (Y : Nat → Prop) (w0 : World) (v1 : Value) (p0 : List Int) (r : Bool) (H : Bm p0 = some r) (h_v1 : Sl w0 (NX []) (Rp.int .i64) v1 p0) :
    Calls Try.prog 51 #[v1, .func (.func 52) #[] #[]] w0 fun e w' => e = .returned (.bool r) ∧ Below w0.heap.size w0 w' := by
 refine enter Try.func51 Aa Try.ntmps51 Aa fun a F => ?_
 have W := Stw.start Y w0
 unfold Bm at H
 refine vc tk 9 F W fun a w F W => ?_
 obtain ⟨x1, h1, H⟩ := Ae H
 refine ls F W Aa (AL (v := Value.int .i64 x1) F XF Aa (fun w W => Hi any w (v1) p0 _ h1 (Ci (Ab h_v1) W))) fun a w F W => ?_
 refine Bz tk 4 F W fun a w F W => ?_
 refine Ao ?_
 have H := Av H
 subst H
 refine AE (.inl Aa) F W Aa (Ai F Aa) ?_
 exact ⟨rfl, W.done⟩
theorem Yo : Has Try.prog 51 := BS Try.func51
noncomputable def Dq (p0 : Int × (List (Int × Int × Int × Int × Int × Int)) × (List (Int × Int))) (p1 : List (List Int)) : Int → Option (Int ⊕ (Unit ⊕ Bool))
  | x3 => (if x3 < (p1.length : Int) then (ix p1 x3).bind fun x4 => (if (x4.length : Int) ≠ (p0.2.2.length : Int) then some true else (Bm x4).bind fun x6 => some x6).bind fun x5 => (if x5 = true then some (.inr (.inr false)) else some (.inl (A3 (x3 + 1)))) else some (.inr (.inl ())))
noncomputable def Ey (p0 : Int × (List (Int × Int × Int × Int × Int × Int)) × (List (Int × Int))) (p1 : List (List Int)) : Option Bool := ((E5 p0).bind fun x2 => (if (!x2) = true then some true else some (decide ((p1.length : Int) ≠ p0.1)))).bind fun x1 => (if x1 = true then some false else Ep (Au (Dq p0 p1) 0) fun _ => some true)
theorem M7 (Y : Nat → Prop) (w0 : World) (v1 : Value) (v2 : Value) (v3 : Value) (p0 : Int × (List (Int × Int × Int × Int × Int × Int)) × (List (Int × Int))) (p1 : List (List Int)) (r : Bool) (H : Ey p0 p1 = some r) (h_v1 : Sl w0 (NX []) Er v1 p0.2.1) (h_v2 : Sl w0 (NX []) Ec v2 p0.2.2) (h_v3 : Sl w0 (NX []) (Rp.slice (Rp.int .i64)) v3 p1) :
    Calls Try.prog 27 #[.agg #[.int .i64 p0.1, v1, v2], v3] w0 fun e w' => e = .returned (.bool r) ∧ Below w0.heap.size w0 w' := by
 refine enter Try.func27 Aa Try.ntmps27 Aa fun a F => ?_
 have W := Stw.start Y w0
 obtain ⟨v4, h1, h_v3⟩ := h_v3.ex Bh
 unfold Ey at H
 refine vc tk 2 F W fun a w F W => ?_
 refine Bq (cs := [.int .i64 p0.1, v1, v2]) F W Aa Aa Aa fun b1 a w F W => ?_
 refine Bz tk 4 F W fun a w F W => ?_
 obtain ⟨o1, G1, K1⟩ := Ae H
 refine Aj (fun a w => ∃ x1 : Bool, some (x1) = some o1 ∧ Fr 34 [] [(1, v3), (2, .pointer (some ⟨b1, 0, none⟩)), (4, .bool false), (16, .bool x1)] a ∧ Stw ⟨Y, [], w0⟩ [(b1, [.int .i64 p0.1, v1, v2])] [] w) ?_ ?_
 ·
  have H := G1
  clear G1 K1
  refine D3 tk 2 [0] F W (ai fun a w F W => ?_)
  obtain ⟨x2, h2, H⟩ := Ae H
  refine ls F W Aa (AL (v := Value.bool x2) F Xp Aa (fun w W => N7 any w (v1) (v2) p0 _ h2 (Ci (Ab h_v1) W) (Ci (Ab h_v2) W))) fun a w F W => ?_
  refine vl tk 2 F W fun a w F W => ?_
  rcases Bool.eq_false_or_eq_true (!x2) with hb | hb
  ·
   have H := B5 hb H
   rw [hb] at F
   clear hb
   refine vl tk 7 F W fun a w F W => ?_
   refine Ac ?_
   exact ⟨_, H, F.ra Aa, W⟩
  have H := B6 (by rw [hb]; decide) H
  rw [hb] at F
  clear hb
  refine CO F W (Ad F Aa Aa Aa Aa) Aa (Ah Aa) (Ak F Aa).q fun a w F W => ?_
  refine CO F W (Ad F Aa Aa Aa Aa) Aa (Ah Aa) (AR (r := (Rp.slice (Rp.int .i64))) (l := p1) JP Aa F Aa (Aq Bh h1 (Ab h_v3))).q fun a w F W => ?_
  refine GL tk 5 [0] F W (ai fun a w F W => ?_)
  refine Ac ?_
  exact ⟨_, H, F.ra Aa, W⟩
 rintro a w ⟨x1, hj, F, W⟩
 have hj := Av hj
 subst hj
 have H := K1
 clear G1 K1
 refine B0 F Aa H (fun F H => ?_) fun F H => ?_
 ·
  refine vc tk 5 F W fun a w F W => ?_
  refine Ao (Aw ?_)
  have H := Av H
  subst H
  refine AE (.inl Aa) F W Aa (Ai F Aa) ?_
  exact ⟨rfl, W.done⟩
 refine As (Ac ?_)
 obtain ⟨o2, G2, K2, L2⟩ := I5 H
 refine Aj (fun a w => some (Sum.inl ()) = some o2 ∧ Fr 34 [] [(4, .bool false)] a ∧ Stw ⟨Y, [], w0⟩ [(b1, [.int .i64 p0.1, v1, v2])] [] w) ?_ ?_
 ·
  have H := G2
  clear G2 K2
  refine vc tk 3 F W fun a w F W => ?_
  refine ls F W Aa (AR (r := (Rp.slice (Rp.int .i64))) (l := p1) JP Aa F Aa (Aq Bh h1 (Ab h_v3))).q fun a w F W => ?_
  refine Bz tk 4 F W fun a w F W => ?_
  refine AA H (fun s a w => Fr 34 [] [(2, .pointer (some ⟨b1, 0, none⟩)), (4, .bool false), (17, v3), (18, .int .i64 (p1.length : Int)), (19, .int .i64 s)] a ∧ Stw ⟨Y, [], w0⟩ [(b1, [.int .i64 p0.1, v1, v2])] [] w) ⟨F.ra Aa, W⟩ fun s o a w H L3 hR => ?_
  obtain ⟨x3, rfl⟩ : ∃ x, x = s := ⟨s, rfl⟩
  obtain ⟨F, W⟩ := hR
  have F : Fr 34 [] [(2, .pointer (some ⟨b1, 0, none⟩)), (4, .bool false), (17, v3), (18, .int .i64 (p1.length : Int)), (19, .int .i64 x3)] a := F
  have W : Stw ⟨Y, [], w0⟩ [(b1, [.int .i64 p0.1, v1, v2])] [] w := W
  rw [Dq] at H
  refine vc tk 6 F W fun a w F W => ?_
  refine AN F Aa H (fun F H => ?_) fun F H => ?_
  ·
   refine Gm tk 6 F W fun a w F W => ?_
   obtain ⟨x4, h3, H⟩ := Ae H
   obtain ⟨v5, h4, h5⟩ := Co h1 h3
   have h6 : C2 v5 = [(v5.1)] := congrArg (fun q : List Int => ([(v5.1)] : List Value)) h5
   refine ls F W Aa (Al (r := (Rp.vsl (Rp.int .i64))) Ke F Aa Aa (Ab h_v3) h4).q fun a w F W => ?_
   refine ls F W Aa (Ag (y := (v5.1)) (j := 0) (i := x3) (enc := C2) F Aa Aa (Ab h_v3) h4 Gd Jv (by rw [h6]; rfl)).q fun a w F W => ?_
   refine vl tk 2 F W fun a w F W => ?_
   refine Ac ?_
   obtain ⟨o4, G4, K4⟩ := Ae H
   refine Aj (fun a w => ∃ x5 : Bool, some (x5) = some o4 ∧ Fr 34 [] [(2, .pointer (some ⟨b1, 0, none⟩)), (4, .bool false), (17, v3), (18, .int .i64 (p1.length : Int)), (19, .int .i64 x3), (32, .bool x5)] a ∧ Stw ⟨Y, [], w0⟩ [(b1, [.int .i64 p0.1, v1, v2])] [] w) ?_ ?_
   ·
    have H := G4
    clear G4 K4
    refine vc tk 2 F W fun a w F W => ?_
    refine ls F W Aa (AR (r := (Rp.int .i64)) (l := x4) Hl Aa F Aa (A4 (Ab h_v3) h4 BL.here (congrArg (fun q : List Int => q) h5))).q fun a w F W => ?_
    refine GL tk 2 [0] F W (ai fun a w F W => ?_)
    refine ls F W Aa (AR (r := Ec) (l := p0.2.2) Jg Aa F Aa (Ab h_v2)).q fun a w F W => ?_
    refine vl tk 2 F W fun a w F W => ?_
    rcases Bool.eq_false_or_eq_true (decide ((x4.length : Int) ≠ (p0.2.2.length : Int))) with hb | hb
    ·
     have H := B5 (CT hb) H
     rw [hb] at F
     clear hb
     refine vl tk 4 F W fun a w F W => ?_
     refine Ac ?_
     exact ⟨_, H, F.ra Aa, W⟩
    have H := B6 (CV hb) H
    rw [hb] at F
    clear hb
    refine CO F W (Ad F Aa Aa Aa Aa) Aa (Ah Aa) (Ak F Aa).q fun a w F W => ?_
    refine I3 (Ad F Aa Aa Aa Aa) ?_
    obtain ⟨x6, h7, H⟩ := Ae H
    refine ls F W Aa (AL (v := Value.bool x6) F Yo Aa (fun w W => Gk any w ((v5.1)) x4 _ h7 (Ci (A4 (Ab h_v3) h4 BL.here (congrArg (fun q : List Int => q) h5)) W))) fun a w F W => ?_
    refine vl tk 2 F W fun a w F W => ?_
    refine Ac ?_
    exact ⟨_, H, F.ra Aa, W⟩
   rintro a w ⟨x5, hj, F, W⟩
   have hj := Av hj
   subst hj
   have H := K4
   clear G4 K4
   refine B0 F Aa H (fun F H => ?_) fun F H => ?_
   ·
    refine vc tk 5 F W fun a w F W => ?_
    refine Ao (Ax ?_)
    iterate 2 refine Aw ?_
    refine Ax (Aw ?_)
    have H := L3 _ H
    have H := L2 _ H
    have H := Av H
    subst H
    refine AE (.inl Aa) F W Aa (Ai F Aa) ?_
    exact ⟨rfl, W.done⟩
   refine As (An ?_)
   refine vn tk 4 F W fun a w F W => ?_
   refine Ac ?_
   exact ⟨_, H, F.ra Aa, W⟩
  refine Ay ?_
  iterate 2 refine AO ?_
  refine Az (Ac ?_)
  have H := L3 _ H
  exact ⟨H, F.ra Aa, W⟩
 rintro a w ⟨hj, F, W⟩
 have H := K2 _ hj
 clear hj G2 K2 L2
 refine vc tk 5 F W fun a w F W => ?_
 refine Ao ?_
 have H := Av H
 subst H
 refine AE (.inl Aa) F W Aa (Ai F Aa) ?_
 exact ⟨rfl, W.done⟩
theorem Yt : Has Try.prog 27 := BS Try.func27
theorem MO : Try.prog.follows .mixedOrders = true := by kernel_rfl
theorem V5 (dd : Nat) (x0 : Int) (x1 : Int) (y0 : Int) (y1 : Int) (w : World) : (Op.equalIn (dd + 2) 56 (.agg #[.int .i64 x0, .int .i64 x1]) (.agg #[.int .i64 y0, .int .i64 y1])).run Try.prog w = .ok (decide (x0 = y0 ∧ x1 = y1)) w :=
  KW (d := dd + 1) (rs := [decide (x0 = y0), decide (x1 = y1)]) MQ (by kernel_rfl) ⟨rfl, II (d := dd + 0) rfl rfl SM T3 rfl rfl, rfl, II (d := dd + 0) rfl rfl SM T3 rfl rfl, trivial⟩ (by simp) w
theorem X8 : Try.prog.eqGuardType Try.prog.depth 56 = false := by kernel_rfl
theorem Ys (x0 : Int) (x1 : Int) (y0 : Int) (y1 : Int) (w : World) : (Op.equalIn 10000 56 (.agg #[.int .i64 x0, .int .i64 x1]) (.agg #[.int .i64 y0, .int .i64 y1])).run Try.prog w = .ok (decide (x0 = y0 ∧ x1 = y1)) w := V5 9998 x0 x1 y0 y1 w
abbrev P9 (a0 : Nat) (a1 : Int × Int) : List (Nat × List Value) := [(a0, [.int .i64 a1.1, .int .i64 a1.2])]
noncomputable def AM (p0 : List (Int × Int)) (p1 : Int × Int) : Int → Option (Int ⊕ (Unit ⊕ Int))
  | x1 => (if x1 < (p0.length : Int) then (ix p0 x1).bind fun x2 => (if p1.1 = x2.1 ∧ p1.2 = x2.2 then some (.inr (.inr x1)) else some (.inl (A3 (x1 + 1)))) else some (.inr (.inl ())))
noncomputable def Bn (p0 : List (Int × Int)) (p1 : Int × Int) : Option Int := Ep (Au (AM p0 p1) 0) fun _ => some (-1)
theorem FI (Y : Nat → Prop) (w0 : World) (v1 : Value) (p0 : List (Int × Int)) (p1 : Int × Int) (r : Int) (H : Bn p0 p1 = some r) (h_v1 : Sl w0 (NX []) Ec v1 p0) :
    Calls Try.prog 74 #[v1, .agg #[.int .i64 p1.1, .int .i64 p1.2]] w0 fun e w' => e = .returned (.int .i64 r) ∧ Below w0.heap.size w0 w' := by
 refine enter Try.func74 Aa Try.ntmps74 Aa fun a F => ?_
 have W := Stw.start Y w0
 unfold Bn at H
 refine vc tk 2 F W fun a w F W => ?_
 refine Bq (cs := [.int .i64 p1.1, .int .i64 p1.2]) F W Aa Aa Aa fun b1 a w F W => ?_
 refine vl tk 2 F W fun a w F W => ?_
 refine Ac ?_
 obtain ⟨o1, G1, K1, L1⟩ := I5 H
 refine Aj (fun a w => some (Sum.inl ()) = some o1 ∧ Fr 19 [] [(4, .int .i64 0)] a ∧ Stw ⟨Y, [], w0⟩ (P9 b1 p1) [] w) ?_ ?_
 ·
  have H := G1
  clear G1 K1
  refine vc tk 3 F W fun a w F W => ?_
  refine ls F W Aa (AR (r := Ec) (l := p0) Jg Aa F Aa (Ab h_v1)).q fun a w F W => ?_
  refine Bz tk 4 F W fun a w F W => ?_
  refine AA H (fun s a w => Fr 19 [] [(0, v1), (3, .pointer (some ⟨b1, 0, none⟩)), (4, .int .i64 0), (7, .int .i64 (p0.length : Int)), (8, .int .i64 s)] a ∧ Stw ⟨Y, [], w0⟩ (P9 b1 p1) [] w) ⟨F.ra Aa, W⟩ fun s o a w H L2 hR => ?_
  obtain ⟨x1, rfl⟩ : ∃ x, x = s := ⟨s, rfl⟩
  obtain ⟨F, W⟩ := hR
  have F : Fr 19 [] [(0, v1), (3, .pointer (some ⟨b1, 0, none⟩)), (4, .int .i64 0), (7, .int .i64 (p0.length : Int)), (8, .int .i64 x1)] a := F
  have W : Stw ⟨Y, [], w0⟩ (P9 b1 p1) [] w := W
  rw [AM] at H
  refine vc tk 6 F W fun a w F W => ?_
  refine AN F Aa H (fun F H => ?_) fun F H => ?_
  ·
   refine Gm tk 11 F W fun a w F W => ?_
   refine Bi W MO (by kernel_rfl) ?_
   refine qs F Aa (AK (v := Value.agg #[.int .i64 p1.1, .int .i64 p1.2]) 0 F Aa Aa VP Aa).q fun a F => ?_
   iterate 2 refine qs F Aa (Ak F Aa).q fun a F => ?_
   obtain ⟨x2, h1, H⟩ := Ae H
   refine qs F Aa (Al (r := Ec) SF F Aa Aa (Ab h_v1) h1).q fun a F => ?_
   refine qs F Aa (Ag (y := Value.agg #[.int .i64 x2.1, .int .i64 x2.2]) (j := 0) (i := x1) F Aa Aa (Ab h_v1) h1 Sc.to VP Aa).q fun a F => ?_
   refine qs F Aa (QB (t := decide (p1.1 = x2.1 ∧ p1.2 = x2.2)) X8 (Ys _ _ _ _) F Aa Aa).q fun a F => ?_
   refine AB fun w W => ?_
   refine Ac ?_
   refine AN F Aa H (fun F H => ?_) fun F H => ?_
   ·
    refine vc tk 6 F W fun a w F W => ?_
    refine Ao (Ax ?_)
    iterate 2 refine Aw ?_
    refine Ax (Aw ?_)
    have H := L2 _ H
    have H := L1 _ H
    have H := Av H
    subst H
    refine AE (.inl Aa) F W Aa (Ai F Aa) ?_
    exact ⟨rfl, W.done⟩
   refine As (An ?_)
   refine vn tk 4 F W fun a w F W => ?_
   refine Ac ?_
   exact ⟨_, H, F.ra Aa, W⟩
  refine Ay ?_
  iterate 2 refine AO ?_
  refine Az (Ac ?_)
  have H := L2 _ H
  exact ⟨H, F.ra Aa, W⟩
 rintro a w ⟨hj, F, W⟩
 have H := K1 _ hj
 clear hj G1 K1 L1
 refine vc tk 5 F W fun a w F W => ?_
 refine Ao ?_
 have H := Av H
 subst H
 refine AE (.inl Aa) F W Aa (Ai F Aa) ?_
 exact ⟨rfl, W.done⟩
theorem Xg : Has Try.prog 74 := BS Try.func74
noncomputable def Dj (p0 : Int × (List (Int × Int × Int × Int × Int × Int)) × (List (Int × Int))) (p1 : Int) (p2 : Int) : Option Int := (Bn p0.2.2 (p1, p2)).bind fun x1 => some x1
theorem JQ (Y : Nat → Prop) (w0 : World) (v1 : Value) (v2 : Value) (p0 : Int × (List (Int × Int × Int × Int × Int × Int)) × (List (Int × Int))) (p1 : Int) (p2 : Int) (r : Int) (H : Dj p0 p1 p2 = some r) (h_v1 : Sl w0 (NX []) Er v1 p0.2.1) (h_v2 : Sl w0 (NX []) Ec v2 p0.2.2) :
    Calls Try.prog 53 #[.agg #[.int .i64 p0.1, v1, v2], .int .i64 p1, .int .i64 p2] w0 fun e w' => e = .returned (.int .i64 r) ∧ Below w0.heap.size w0 w' := by
 refine enter Try.func53 Aa Try.ntmps53 Aa fun a F => ?_
 have W := Stw.start Y w0
 unfold Dj at H
 refine vc tk 2 F W fun a w F W => ?_
 refine Bq (cs := [.int .i64 p0.1, v1, v2]) F W Aa Aa Aa fun b1 a w F W => ?_
 refine IG tk 9 [0] F W (ai fun a w F W => ?_)
 refine ls F W Aa (Bx (v := Value.agg #[.int .i64 p1, .int .i64 p2]) WJ F Aa Aa Aa).q fun a w F W => ?_
 obtain ⟨x1, h1, H⟩ := Ae H
 refine ls F W Aa (AL (v := Value.int .i64 x1) F Xg Aa (fun w W => FI any w (v2) p0.2.2 (p1, p2) _ h1 (Ci (Ab h_v2) W))) fun a w F W => ?_
 refine Bz tk 3 F W fun a w F W => ?_
 refine Ao ?_
 have H := Av H
 subst H
 refine AE (.inl Aa) F W Aa (Ai F Aa) ?_
 exact ⟨rfl, W.done⟩
theorem W9 : Has Try.prog 53 := BS Try.func53
noncomputable def Cy (p0 : Int × (List (Int × Int × Int × Int × Int × Int)) × (List (Int × Int))) (p1 : Int) (p2 : Int) : Int → Option (Int ⊕ (Unit ⊕ (Int × Int × Int × Bool)))
  | x1 => (if x1 < (p0.2.1.length : Int) then (ix p0.2.1 x1).bind fun x2 => (if p1 = x2.1 ∧ p2 = x2.2.1 then some (.inr (.inr (x2.2.2.1, x2.2.2.2.1, x1, true))) else (if p1 = x2.2.2.1 ∧ p2 = x2.2.2.2.1 then some (.inr (.inr (x2.1, x2.2.1, x1, true))) else some (.inl (A3 (x1 + 1))))) else some (.inr (.inl ())))
noncomputable def Dl (p0 : Int × (List (Int × Int × Int × Int × Int × Int)) × (List (Int × Int))) (p1 : Int) (p2 : Int) : Option (Int × Int × Int × Bool) := Ep (Au (Cy p0 p1 p2) 0) fun _ => some (0, 0, 0, false)
theorem Lp (Y : Nat → Prop) (w0 : World) (v1 : Value) (v2 : Value) (p0 : Int × (List (Int × Int × Int × Int × Int × Int)) × (List (Int × Int))) (p1 : Int) (p2 : Int) (r : Int × Int × Int × Bool) (H : Dl p0 p1 p2 = some r) (h_v1 : Sl w0 (NX []) Er v1 p0.2.1) (h_v2 : Sl w0 (NX []) Ec v2 p0.2.2) :
    Calls Try.prog 62 #[.agg #[.int .i64 p0.1, v1, v2], .int .i64 p1, .int .i64 p2] w0 fun e w' => e = .returned (.tuple #[.int .i64 r.1, .int .i64 r.2.1, .int .i64 r.2.2.1, .bool r.2.2.2]) ∧ Below w0.heap.size w0 w' := by
 refine enter Try.func62 Aa Try.ntmps62 Aa fun a F => ?_
 have W := Stw.start Y w0
 unfold Dl at H
 refine vc tk 2 F W fun a w F W => ?_
 refine Bq (cs := [.int .i64 p0.1, v1, v2]) F W Aa Aa Aa fun b1 a w F W => ?_
 refine Bz tk 10 F W fun a w F W => ?_
 refine ls F W Aa (Bx (v := Value.agg #[.int .i64 p1, .int .i64 p2]) QZ F Aa Aa Aa).q fun a w F W => ?_
 refine BU (cs := [.int .i64 0, .int .i64 0]) F W Aa S8 Aa fun b2 a w F W => ?_
 refine Fv 0 F W Aa Aa Aa Uz Aa Aa Aa fun w W => ?_
 refine DP (Ac ?_)
 obtain ⟨o1, G1, K1, L1⟩ := I5 H
 refine Aj (fun a w => some (Sum.inl ()) = some o1 ∧ Fr 49 [] [(6, .int .i64 0), (7, .int .i64 0), (8, .int .i64 0), (9, .bool false)] a ∧ Stw ⟨Y, [], w0⟩ [(b2, [.int .i64 p1, .int .i64 p2]), (b1, [.int .i64 p0.1, v1, v2])] [] w) ?_ ?_
 ·
  have H := G1
  clear G1 K1
  refine D3 tk 4 [1] F W (ai fun a w F W => ?_)
  refine ls F W Aa (AR (r := Er) (l := p0.2.1) LE Aa F Aa (Ab h_v1)).q fun a w F W => ?_
  refine Bz tk 4 F W fun a w F W => ?_
  have W := W.frontM (i := 1) Aa Aa
  have W := W.frontM (i := 1) Aa Aa
  refine AA H (fun s a w => Fr 49 [] [(6, .int .i64 0), (7, .int .i64 0), (8, .int .i64 0), (9, .bool false), (10, .pointer (some ⟨b2, 0, none⟩)), (17, v1), (18, .int .i64 (p0.2.1.length : Int)), (19, .int .i64 s)] a ∧ Stw ⟨Y, [], w0⟩ [(b2, [.int .i64 p1, .int .i64 p2]), (b1, [.int .i64 p0.1, v1, v2])] [] w) ⟨F.ra Aa, W⟩ fun s o a w H L2 hR => ?_
  obtain ⟨x1, rfl⟩ : ∃ x, x = s := ⟨s, rfl⟩
  obtain ⟨F, W⟩ := hR
  have F : Fr 49 [] [(6, .int .i64 0), (7, .int .i64 0), (8, .int .i64 0), (9, .bool false), (10, .pointer (some ⟨b2, 0, none⟩)), (17, v1), (18, .int .i64 (p0.2.1.length : Int)), (19, .int .i64 x1)] a := F
  have W : Stw ⟨Y, [], w0⟩ [(b2, [.int .i64 p1, .int .i64 p2]), (b1, [.int .i64 p0.1, v1, v2])] [] w := W
  rw [Cy] at H
  refine vc tk 6 F W fun a w F W => ?_
  refine AN F Aa H (fun F H => ?_) fun F H => ?_
  ·
   refine Gm tk 7 F W fun a w F W => ?_
   obtain ⟨x2, h1, H⟩ := Ae H
   refine ls F W Aa (Al (r := Er) SQ F Aa Aa (Ab h_v1) h1).q fun a w F W => ?_
   refine ls F W Aa (Ag (y := Value.agg #[.int .i64 x2.1, .int .i64 x2.2.1, .int .i64 x2.2.2.1, .int .i64 x2.2.2.2.1, .int .i64 x2.2.2.2.2.1, .int .i64 x2.2.2.2.2.2]) (j := 0) (i := x1) F Aa Aa (Ab h_v1) h1 SO.to QS Aa).q fun a w F W => ?_
   refine BU (cs := (QU)) F W Aa UI Aa fun b3 a w F W => ?_
   refine ls F W Aa (Bl F Aa).q fun a w F W => ?_
   refine Fv 0 F W Aa Aa Aa QS Aa Aa Aa fun w W => ?_
   refine IG tk 10 [1, 0, 0] F W (ai (ai (ai fun a w F W => ?_)))
   refine ls F W Aa (Bx (v := Value.agg #[.int .i64 x2.1, .int .i64 x2.2.1]) QZ F Aa Aa Aa).q fun a w F W => ?_
   refine ls F W Aa (QB (t := decide (p1 = x2.1 ∧ p2 = x2.2.1)) Vu (UA _ _ _ _) F Aa Aa).q fun a w F W => ?_
   refine Bz tk 2 F W fun a w F W => ?_
   refine AN F Aa H (fun F H => ?_) fun F H => ?_
   ·
    refine Nq ?_
    refine Bi W MO (by kernel_rfl) ?_
    refine qs F Aa (Af MG Aa Aa Aa T3 F Aa 2 Aa).q fun a F => ?_
    refine qs F Aa (AK (v := Value.int .i64 x2.2.2.1) 0 F Aa Aa T3 Aa).q fun a F => ?_
    refine qs F Aa (Af MG Aa Aa Aa T3 F Aa 3 Aa).q fun a F => ?_
    refine qs F Aa (AK (v := Value.int .i64 x2.2.2.2.1) 0 F Aa Aa T3 Aa).q fun a F => ?_
    refine qs F Aa (Ak F Aa).q fun a F => ?_
    iterate 4 refine qs F Aa (Bl F Aa).q fun a F => ?_
    refine AB fun w W => ?_
    refine Ac (Ao (Aw (Ax ?_)))
    iterate 2 refine Aw ?_
    refine Ax (Aw ?_)
    have H := L2 _ H
    have H := L1 _ H
    have H := Av H
    subst H
    refine Na (.inl Aa) F W Aa (Ai F Aa) (Ai F Aa) (Ai F Aa) (Ai F Aa) ?_
    exact ⟨rfl, W.done⟩
   refine Jk tk 9 [1, 0, 0] F W (ai (ai (ai fun a w F W => ?_)))
   refine ls F W Aa (Bx (v := Value.agg #[.int .i64 x2.2.2.1, .int .i64 x2.2.2.2.1]) QZ F Aa Aa Aa).q fun a w F W => ?_
   refine ls F W Aa (QB (t := decide (p1 = x2.2.2.1 ∧ p2 = x2.2.2.2.1)) Vu (UA _ _ _ _) F Aa Aa).q fun a w F W => ?_
   refine Bz tk 2 F W fun a w F W => ?_
   refine AN F Aa H (fun F H => ?_) fun F H => ?_
   ·
    refine Nq ?_
    refine Bi W MO (by kernel_rfl) ?_
    refine qs F Aa (Af MG Aa Aa Aa T3 F Aa 0 Aa).q fun a F => ?_
    refine qs F Aa (AK (v := Value.int .i64 x2.1) 0 F Aa Aa T3 Aa).q fun a F => ?_
    refine qs F Aa (Af MG Aa Aa Aa T3 F Aa 1 Aa).q fun a F => ?_
    refine qs F Aa (AK (v := Value.int .i64 x2.2.1) 0 F Aa Aa T3 Aa).q fun a F => ?_
    refine qs F Aa (Ak F Aa).q fun a F => ?_
    iterate 4 refine qs F Aa (Bl F Aa).q fun a F => ?_
    refine AB fun w W => ?_
    refine Ac (Ao (Ax ?_))
    iterate 2 refine Aw ?_
    refine Ax (Aw ?_)
    have H := L2 _ H
    have H := L1 _ H
    have H := Av H
    subst H
    refine Na (.inl Aa) F W Aa (Ai F Aa) (Ai F Aa) (Ai F Aa) (Ai F Aa) ?_
    exact ⟨rfl, W.done⟩
   refine As (An ?_)
   refine vn tk 4 F W fun a w F W => ?_
   refine Ac ?_
   have W := W.frontM (i := 2) Aa Aa
   have W := W.frontM (i := 2) Aa Aa
   have W := W.sub (M' := [(b2, [.int .i64 p1, .int .i64 p2]), (b1, [.int .i64 p0.1, v1, v2])]) (Z' := []) (List.Sublist.cons_cons _ (List.Sublist.cons_cons _ (List.nil_sublist _))) (List.Sublist.refl _)
   exact ⟨_, H, F.ra Aa, W⟩
  refine Ay ?_
  iterate 2 refine AO ?_
  refine Az (Ac ?_)
  have W := W.frontM (i := 1) Aa Aa
  have W := W.frontM (i := 1) Aa Aa
  have H := L2 _ H
  exact ⟨H, F.ra Aa, W⟩
 rintro a w ⟨hj, F, W⟩
 have H := K1 _ hj
 clear hj G1 K1 L1
 refine vc tk 8 F W fun a w F W => ?_
 refine Ao ?_
 have H := Av H
 subst H
 refine Na (.inl Aa) F W Aa (Ai F Aa) (Ai F Aa) (Ai F Aa) (Ai F Aa) ?_
 exact ⟨rfl, W.done⟩
theorem WX : Has Try.prog 62 := BS Try.func62
noncomputable def E6 (p0 : Int × (List (Int × Int × Int × Int × Int × Int)) × (List (Int × Int))) (p1 : List (List Int)) (p2 : Int) (p3 : Int) : Option (Int × Bool) := (if p2 < 0 then some true else (if (p1.length : Int) ≤ p2 then some true else (if p3 < 0 then some true else (ix p1 p2).bind fun x2 => some (decide ((x2.length : Int) ≤ p3))))).bind fun x1 => (if x1 = true then some (0, false) else (ix p1 p2).bind fun x3 => (ix x3 p3).bind fun x4 => (Dl p0 p2 x4).bind fun x5 => some (x5.1, x5.2.2.2))
theorem Oa (Y : Nat → Prop) (w0 : World) (v1 : Value) (v2 : Value) (v3 : Value) (p0 : Int × (List (Int × Int × Int × Int × Int × Int)) × (List (Int × Int))) (p1 : List (List Int)) (p2 : Int) (p3 : Int) (r : Int × Bool) (H : E6 p0 p1 p2 p3 = some r) (h_v1 : Sl w0 (NX []) Er v1 p0.2.1) (h_v2 : Sl w0 (NX []) Ec v2 p0.2.2) (h_v3 : Sl w0 (NX []) (Rp.slice (Rp.int .i64)) v3 p1) :
    Calls Try.prog 54 #[.agg #[.int .i64 p0.1, v1, v2], v3, .int .i64 p2, .int .i64 p3] w0 fun e w' => e = .returned (.tuple #[.int .i64 r.1, .bool r.2]) ∧ Below w0.heap.size w0 w' := by
 refine enter Try.func54 Aa Try.ntmps54 Aa fun a F => ?_
 have W := Stw.start Y w0
 obtain ⟨v4, h1, h_v3⟩ := h_v3.ex Bh
 unfold E6 at H
 refine vc tk 2 F W fun a w F W => ?_
 refine Bq (cs := [.int .i64 p0.1, v1, v2]) F W Aa Aa Aa fun b1 a w F W => ?_
 refine Bz tk 5 F W fun a w F W => ?_
 obtain ⟨o1, G1, K1⟩ := Ae H
 refine Aj (fun a w => ∃ x1 : Bool, some (x1) = some o1 ∧ Fr 52 [] [(1, v3), (2, .int .i64 p2), (3, .int .i64 p3), (4, .pointer (some ⟨b1, 0, none⟩)), (8, .int .i64 0), (9, .bool false), (34, .bool x1)] a ∧ Stw ⟨Y, [], w0⟩ [(b1, [.int .i64 p0.1, v1, v2])] [] w) ?_ ?_
 ·
  have H := G1
  clear G1 K1
  refine vc tk 4 F W fun a w F W => ?_
  rcases Bool.eq_false_or_eq_true (decide (p2 < 0)) with hb | hb
  ·
   have H := B5 (CT hb) H
   rw [hb] at F
   clear hb
   refine vl tk 19 F W fun a w F W => ?_
   refine Ac ?_
   exact ⟨_, H, F.ra Aa, W⟩
  have H := B6 (CV hb) H
  rw [hb] at F
  clear hb
  refine vl tk 2 F W fun a w F W => ?_
  refine CO F W (Ad F Aa Aa Aa Aa) Aa (Ah Aa) (AR (r := (Rp.slice (Rp.int .i64))) (l := p1) JP Aa F Aa (Aq Bh h1 (Ab h_v3))).q fun a w F W => ?_
  refine vl tk 3 F W fun a w F W => ?_
  rcases Bool.eq_false_or_eq_true (decide ((p1.length : Int) ≤ p2)) with hb | hb
  ·
   have H := B5 (CT hb) H
   rw [hb] at F
   clear hb
   refine vl tk 13 F W fun a w F W => ?_
   refine Ac ?_
   exact ⟨_, H, F.ra Aa, W⟩
  have H := B6 (CV hb) H
  rw [hb] at F
  clear hb
  refine vl tk 4 F W fun a w F W => ?_
  rcases Bool.eq_false_or_eq_true (decide (p3 < 0)) with hb | hb
  ·
   have H := B5 (CT hb) H
   rw [hb] at F
   clear hb
   refine vl tk 9 F W fun a w F W => ?_
   refine Ac ?_
   exact ⟨_, H, F.ra Aa, W⟩
  have H := B6 (CV hb) H
  rw [hb] at F
  clear hb
  refine vl tk 3 F W fun a w F W => ?_
  obtain ⟨x2, h2, H⟩ := Ae H
  obtain ⟨v5, h3, h4⟩ := Co h1 h2
  have h5 : C2 v5 = [(v5.1)] := congrArg (fun q : List Int => ([(v5.1)] : List Value)) h4
  refine CO F W (Ad F Aa Aa Aa Aa) Aa (Ah Aa) (Al (r := (Rp.vsl (Rp.int .i64))) Ke F Aa Aa (Ab h_v3) h3).q fun a w F W => ?_
  refine CO F W (Ad F Aa Aa Aa Aa) Aa (Ah Aa) (Ag (y := (v5.1)) (j := 0) (i := p2) (enc := C2) F Aa Aa (Ab h_v3) h3 Gd Jv (by rw [h5]; rfl)).q fun a w F W => ?_
  refine CO F W (Ad F Aa Aa Aa Aa) Aa (Ah Aa) (AR (r := (Rp.int .i64)) (l := x2) Hl Aa F Aa (A4 (Ab h_v3) h3 BL.here (congrArg (fun q : List Int => q) h4))).q fun a w F W => ?_
  refine vl tk 3 F W fun a w F W => ?_
  refine Ac ?_
  exact ⟨_, H, F.ra Aa, W⟩
 rintro a w ⟨x1, hj, F, W⟩
 have hj := Av hj
 subst hj
 have H := K1
 clear G1 K1
 refine B0 F Aa H (fun F H => ?_) fun F H => ?_
 ·
  refine vc tk 6 F W fun a w F W => ?_
  refine Ao (Aw ?_)
  have H := Av H
  subst H
  refine GI (.inl Aa) F W Aa (Ai F Aa) (Ai F Aa) ?_
  exact ⟨rfl, W.done⟩
 refine Gm tk 3 F W fun a w F W => ?_
 refine Bi W MO (by kernel_rfl) ?_
 refine qs F Aa (AK (v := Value.agg #[.int .i64 p0.1, v1, v2]) 0 F Aa Aa R8 Aa).q fun a F => ?_
 iterate 3 refine qs F Aa (Ak F Aa).q fun a F => ?_
 obtain ⟨x3, h6, H⟩ := Ae H
 obtain ⟨v6, h7, h8⟩ := Co h1 h6
 have h9 : C2 v6 = [(v6.1)] := congrArg (fun q : List Int => ([(v6.1)] : List Value)) h8
 refine qs F Aa (Al (r := (Rp.vsl (Rp.int .i64))) Ke F Aa Aa (Ab h_v3) h7).q fun a F => ?_
 refine qs F Aa (Ag (y := (v6.1)) (j := 0) (i := p2) (enc := C2) F Aa Aa (Ab h_v3) h7 Gd Jv (by rw [h9]; rfl)).q fun a F => ?_
 refine qs F Aa (Ak F Aa).q fun a F => ?_
 obtain ⟨x4, h10, H⟩ := Ae H
 refine qs F Aa (Al (r := (Rp.int .i64)) FS F Aa Aa (A4 (Ab h_v3) h7 BL.here (congrArg (fun q : List Int => q) h8)) h10).q fun a F => ?_
 refine qs F Aa (Ag (y := Value.int .i64 x4) (j := 0) (i := p3) F Aa Aa (A4 (Ab h_v3) h7 BL.here (congrArg (fun q : List Int => q) h8)) h10 Fl.int.to T3 Aa).q fun a F => ?_
 obtain ⟨x5, h11, H⟩ := Ae H
 refine qs F Aa (AL (v := Value.tuple #[.int .i64 x5.1, .int .i64 x5.2.1, .int .i64 x5.2.2.1, .bool x5.2.2.2]) F WX Aa (fun w W => Lp any w (v1) (v2) p0 p2 x4 _ h11 (Ci (Ab h_v1) W) (Ci (Ab h_v2) W))) fun a F => ?_
 refine qs F Aa (Ak F Aa).q fun a F => ?_
 refine qs F Aa (A9 (v := Value.int .i64 x5.1) F Aa Aa).q fun a F => ?_
 refine qs F Aa (A9 (v := Value.int .i64 x5.2.1) F Aa Aa).q fun a F => ?_
 refine qs F Aa (A9 (v := Value.int .i64 x5.2.2.1) F Aa Aa).q fun a F => ?_
 refine qs F Aa (A9 (v := Value.bool x5.2.2.2) F Aa Aa).q fun a F => ?_
 iterate 4 refine qs F Aa (Bl F Aa).q fun a F => ?_
 refine AB fun w W => ?_
 refine vn tk 8 F W fun a w F W => ?_
 refine Ao ?_
 have H := Av H
 subst H
 refine GI (.inl Aa) F W Aa (Ai F Aa) (Ai F Aa) ?_
 exact ⟨rfl, W.done⟩
theorem Yc : Has Try.prog 54 := BS Try.func54
noncomputable def Cb (p0 : List Int) (p1 : Int) : Int → Option (Int ⊕ (Unit ⊕ Bool))
  | x1 => (if x1 < (p0.length : Int) then (ix p0 x1).bind fun x2 => (if p1 = x2 then some (.inr (.inr true)) else some (.inl (A3 (x1 + 1)))) else some (.inr (.inl ())))
noncomputable def CA (p0 : List Int) (p1 : Int) : Option Bool := Ep (Au (Cb p0 p1) 0) fun _ => some false
theorem Jm (Y : Nat → Prop) (w0 : World) (v1 : Value) (p0 : List Int) (p1 : Int) (r : Bool) (H : CA p0 p1 = some r) (h_v1 : Sl w0 (NX []) (Rp.int .i64) v1 p0) :
    Calls Try.prog 55 #[v1, .int .i64 p1] w0 fun e w' => e = .returned (.bool r) ∧ Below w0.heap.size w0 w' := by
 refine enter Try.func55 Aa Try.ntmps55 Aa fun a F => ?_
 have W := Stw.start Y w0
 unfold CA at H
 refine vc tk 5 F W fun a w F W => ?_
 obtain ⟨o1, G1, K1, L1⟩ := I5 H
 refine Aj (fun a w => some (Sum.inl ()) = some o1 ∧ Fr 17 [] [(4, .bool false)] a ∧ Stw ⟨Y, [], w0⟩ [] [] w) ?_ ?_
 ·
  have H := G1
  clear G1 K1
  refine vc tk 3 F W fun a w F W => ?_
  refine ls F W Aa (AR (r := (Rp.int .i64)) (l := p0) Hl Aa F Aa (Ab h_v1)).q fun a w F W => ?_
  refine Bz tk 4 F W fun a w F W => ?_
  refine AA H (fun s a w => Fr 17 [] [(1, .int .i64 p1), (4, .bool false), (7, v1), (8, .int .i64 (p0.length : Int)), (9, .int .i64 s)] a ∧ Stw ⟨Y, [], w0⟩ [] [] w) ⟨F.ra Aa, W⟩ fun s o a w H L2 hR => ?_
  obtain ⟨x1, rfl⟩ : ∃ x, x = s := ⟨s, rfl⟩
  obtain ⟨F, W⟩ := hR
  have F : Fr 17 [] [(1, .int .i64 p1), (4, .bool false), (7, v1), (8, .int .i64 (p0.length : Int)), (9, .int .i64 x1)] a := F
  have W : Stw ⟨Y, [], w0⟩ [] [] w := W
  rw [Cb] at H
  refine vc tk 6 F W fun a w F W => ?_
  refine AN F Aa H (fun F H => ?_) fun F H => ?_
  ·
   refine Gm tk 6 F W fun a w F W => ?_
   obtain ⟨x2, h1, H⟩ := Ae H
   refine ls F W Aa (Al (r := (Rp.int .i64)) FS F Aa Aa (Ab h_v1) h1).q fun a w F W => ?_
   refine ls F W Aa (Ag (y := Value.int .i64 x2) (j := 0) (i := x1) F Aa Aa (Ab h_v1) h1 Fl.int.to T3 Aa).q fun a w F W => ?_
   refine Bz tk 10 F W fun a w F W => ?_
   refine AN F Aa H (fun F H => ?_) fun F H => ?_
   ·
    refine vc tk 5 F W fun a w F W => ?_
    refine Ao (Ax ?_)
    iterate 2 refine Aw ?_
    refine Ax (Aw ?_)
    have H := L2 _ H
    have H := L1 _ H
    have H := Av H
    subst H
    refine AE (.inl Aa) F W Aa (Ai F Aa) ?_
    exact ⟨rfl, W.done⟩
   refine As (An ?_)
   refine vn tk 4 F W fun a w F W => ?_
   refine Ac ?_
   exact ⟨_, H, F.ra Aa, W⟩
  refine Ay ?_
  iterate 2 refine AO ?_
  refine Az (Ac ?_)
  have H := L2 _ H
  exact ⟨H, F.ra Aa, W⟩
 rintro a w ⟨hj, F, W⟩
 have H := K1 _ hj
 clear hj G1 K1 L1
 refine vc tk 5 F W fun a w F W => ?_
 refine Ao ?_
 have H := Av H
 subst H
 refine AE (.inl Aa) F W Aa (Ai F Aa) ?_
 exact ⟨rfl, W.done⟩
theorem XD : Has Try.prog 55 := BS Try.func55
noncomputable def C0 (p0 : Int × (List (Int × Int × Int × Int × Int × Int)) × (List (Int × Int))) (p1 : List (List Int)) (p3 : Int) : (Int × List Int) → Option ((Int × List Int) ⊕ ((List Int) ⊕ (List Int × Int)))
  | (x2, x3) => (ix p1 x2).bind fun x4 => (ix x4 p3).bind fun x5 => (Dj p0 x2 x5).bind fun x6 => (if x6 ≠ p3 then (E6 p0 p1 x2 p3).bind fun x7 => (if (!x7.2) = true then some (.inr (.inr (([] : List Int), 13))) else (CA x3 x7.1).bind fun x8 => (if x8 = true then some (.inr (.inr (([] : List Int), 12))) else (Fo x3 ([x7.1] : List Int)).bind fun x9 => some (.inl (x7.1, x9)))) else some (.inr (.inl x3)))
noncomputable def E7 (p0 : Int × (List (Int × Int × Int × Int × Int × Int)) × (List (Int × Int))) (p1 : List (List Int)) (p2 : Int) (p3 : Int) : Option (List Int × Int) := Ep (Au (C0 p0 p1 p3) (p2, ([p2] : List Int))) fun x1 => some (x1, 0)
theorem N0 (Y : Nat → Prop) (w0 : World) (v1 : Value) (v2 : Value) (v3 : Value) (p0 : Int × (List (Int × Int × Int × Int × Int × Int)) × (List (Int × Int))) (p1 : List (List Int)) (p2 : Int) (p3 : Int) (r : List Int × Int) (H : E7 p0 p1 p2 p3 = some r) (h_v1 : Sl w0 (NX []) Er v1 p0.2.1) (h_v2 : Sl w0 (NX []) Ec v2 p0.2.2) (h_v3 : Sl w0 (NX []) (Rp.slice (Rp.int .i64)) v3 p1) :
    Calls Try.prog 28 #[.agg #[.int .i64 p0.1, v1, v2], v3, .int .i64 p2, .int .i64 p3] w0 fun e w' => ∃ x : Value, e = .returned (.tuple #[x, .int .i64 r.2]) ∧ Stw ⟨Y, [], w0⟩ [] [row (x) 3 (Rp.int .i64) r.1] w' := by
 refine enter Try.func28 Aa Try.ntmps28 Aa fun a F => ?_
 have W := Stw.start Y w0
 obtain ⟨v4, h1, h_v3⟩ := h_v3.ex Bh
 unfold E7 at H
 refine vc tk 2 F W fun a w F W => ?_
 refine Bq (cs := [.int .i64 p0.1, v1, v2]) F W Aa Aa Aa fun b1 a w F W => ?_
 refine Bz tk 7 F W fun a w F W => ?_
 refine Cp (z := Value.int .i64 0) (cs := [.int .i64 p2]) (Rp.int .i64) ([p2] : List Int) F W Aa FS Z3 Aa Aa Aa Aa Aa Aa (Fl.int.repL _ _ ([p2] : List Int)) fun v5 a w F W => ?_
 refine vl tk 2 F W fun a w F W => ?_
 refine Ac ?_
 obtain ⟨o1, G1, K1, L1⟩ := I5 H
 refine Aj (fun a w => ∃ x1 : List Int, ∃ v6 : Value, some (Sum.inl x1) = some o1 ∧ Fr 46 [] [(8, .slice none 0 0), (9, .int .i64 0), (10, v6)] a ∧ Stw ⟨Y, [], w0⟩ [(b1, [.int .i64 p0.1, v1, v2])] [row v6 3 (Rp.int .i64) x1] w) ?_ ?_
 ·
  have H := G1
  clear G1 K1
  refine Gr ?_
  refine AA H (fun s a w => ∃ v7 : Value, Fr 46 [] [(1, v3), (2, .int .i64 s.1), (3, .int .i64 p3), (4, .pointer (some ⟨b1, 0, none⟩)), (8, .slice none 0 0), (9, .int .i64 0), (10, v7)] a ∧ Stw ⟨Y, [], w0⟩ [(b1, [.int .i64 p0.1, v1, v2])] [row v7 3 (Rp.int .i64) s.2] w) ⟨(v5), F.ra Aa, W⟩ fun s o a w H L2 hR => ?_
  obtain ⟨x2, x3⟩ := s
  obtain ⟨v7, F, W⟩ := hR
  have F : Fr 46 [] [(1, v3), (2, .int .i64 x2), (3, .int .i64 p3), (4, .pointer (some ⟨b1, 0, none⟩)), (8, .slice none 0 0), (9, .int .i64 0), (10, v7)] a := F
  have W : Stw ⟨Y, [], w0⟩ [(b1, [.int .i64 p0.1, v1, v2])] [row v7 3 (Rp.int .i64) x3] w := W
  rw [C0] at H
  refine vc tk 2 F W fun a w F W => ?_
  refine Bi W MO (by kernel_rfl) ?_
  refine qs F Aa (AK (v := Value.agg #[.int .i64 p0.1, v1, v2]) 0 F Aa Aa R8 Aa).q fun a F => ?_
  iterate 3 refine qs F Aa (Ak F Aa).q fun a F => ?_
  obtain ⟨x4, h2, H⟩ := Ae H
  obtain ⟨v8, h3, h4⟩ := Co h1 h2
  have h5 : C2 v8 = [(v8.1)] := congrArg (fun q : List Int => ([(v8.1)] : List Value)) h4
  refine qs F Aa (Al (r := (Rp.vsl (Rp.int .i64))) Ke F Aa Aa (Ab h_v3) h3).q fun a F => ?_
  refine qs F Aa (Ag (y := (v8.1)) (j := 0) (i := x2) (enc := C2) F Aa Aa (Ab h_v3) h3 Gd Jv (by rw [h5]; rfl)).q fun a F => ?_
  refine qs F Aa (Ak F Aa).q fun a F => ?_
  obtain ⟨x5, h6, H⟩ := Ae H
  refine qs F Aa (Al (r := (Rp.int .i64)) FS F Aa Aa (A4 (Ab h_v3) h3 BL.here (congrArg (fun q : List Int => q) h4)) h6).q fun a F => ?_
  refine qs F Aa (Ag (y := Value.int .i64 x5) (j := 0) (i := p3) F Aa Aa (A4 (Ab h_v3) h3 BL.here (congrArg (fun q : List Int => q) h4)) h6 Fl.int.to T3 Aa).q fun a F => ?_
  obtain ⟨x6, h7, H⟩ := Ae H
  refine qs F Aa (AL (v := Value.int .i64 x6) F W9 Aa (fun w W => JQ any w (v1) (v2) p0 x2 x5 _ h7 (Ci (Ab h_v1) W) (Ci (Ab h_v2) W))) fun a F => ?_
  refine qs F Aa (Ak F Aa).q fun a F => ?_
  refine qs F Aa (IU F Aa Aa).q fun a F => ?_
  refine AB fun w W => ?_
  refine Ac ?_
  refine AN F Aa H (fun F H => ?_) fun F H => ?_
  ·
   refine Jk tk 9 [0] F W (ai fun a w F W => ?_)
   obtain ⟨x7, h8, H⟩ := Ae H
   refine ls F W Aa (AL (v := Value.tuple #[.int .i64 x7.1, .bool x7.2]) F Yc Aa (fun w W => Oa any w (v1) (v2) (v3) p0 p1 x2 p3 _ h8 (Ci (Ab h_v1) W) (Ci (Ab h_v2) W) (Ci (Aq Bh h1 (Ab h_v3)) W))) fun a w F W => ?_
   refine ls F W Aa (Ak F Aa).q fun a w F W => ?_
   refine ls F W Aa (A9 (v := Value.int .i64 x7.1) F Aa Aa).q fun a w F W => ?_
   refine ls F W Aa (A9 (v := Value.bool x7.2) F Aa Aa).q fun a w F W => ?_
   refine Bz tk 11 F W fun a w F W => ?_
   refine B0 F Aa H (fun F H => ?_) fun F H => ?_
   ·
    refine vc tk 6 F W fun a w F W => ?_
    refine Ao (Aw (Ax (Aw (Ax (Aw ?_)))))
    have H := L2 _ H
    have H := L1 _ H
    have H := Av H
    subst H
    refine GI (.inl Aa) F W Aa (Ai F Aa) (Ai F Aa) ?_
    have W := W.nilRow 3 (Rp.int .i64)
    have W := W.sub (M' := []) (Z' := [row (Value.slice none 0 0) 3 (Rp.int .i64) ([])]) (List.nil_sublist _) (List.Sublist.cons_cons _ (List.nil_sublist _))
    exact ⟨(Value.slice none 0 0), Aa, W⟩
   refine Gm tk 7 F W fun a w F W => ?_
   obtain ⟨x8, h9, H⟩ := Ae H
   refine ls F W Aa (AL (v := Value.bool x8) F XD Aa (fun w W => Jm any w (v7) x3 x7.1 _ h9 (Ci (BE 0 Aa) W))) fun a w F W => ?_
   refine Bz tk 2 F W fun a w F W => ?_
   refine B0 F Aa H (fun F H => ?_) fun F H => ?_
   ·
    refine vc tk 6 F W fun a w F W => ?_
    refine Ao (Aw (Ax (Aw (Ax (Aw ?_)))))
    have H := L2 _ H
    have H := L1 _ H
    have H := Av H
    subst H
    refine GI (.inl Aa) F W Aa (Ai F Aa) (Ai F Aa) ?_
    have W := W.nilRow 3 (Rp.int .i64)
    have W := W.sub (M' := []) (Z' := [row (Value.slice none 0 0) 3 (Rp.int .i64) ([])]) (List.nil_sublist _) (List.Sublist.cons_cons _ (List.nil_sublist _))
    exact ⟨(Value.slice none 0 0), Aa, W⟩
   refine Gm tk 6 F W fun a w F W => ?_
   refine Cp (z := Value.int .i64 0) (cs := [.int .i64 x7.1]) (Rp.int .i64) ([x7.1] : List Int) F W Aa FS Z3 Aa Aa Aa Aa Aa Aa (Fl.int.repL _ _ ([x7.1] : List Int)) fun v9 a w F W => ?_
   obtain ⟨x9, h10, H⟩ := Ae H
   refine BF (r := (Rp.int .i64)) (i := 1) F W Aa FS Aa Aa Aa Aa (Cr W 0 Aa) h10 Aa fun v10 a w F W => ?_
   have W : Stw ⟨Y, [], w0⟩ [(b1, [.int .i64 p0.1, v1, v2])] [row v10 3 (Rp.int .i64) x9, row v9 3 (Rp.int .i64) ([x7.1] : List Int)] w := W
   refine Bz tk 7 F W fun a w F W => ?_
   refine An (Ac ?_)
   have W := W.sub (M' := [(b1, [.int .i64 p0.1, v1, v2])]) (Z' := [row v10 3 (Rp.int .i64) x9]) (List.Sublist.refl _) (List.Sublist.cons_cons _ (List.nil_sublist _))
   exact ⟨_, H, (v10), F.ra Aa, W⟩
  refine Ay ?_
  iterate 2 refine AO ?_
  refine Az (Ac ?_)
  have H := L2 _ H
  exact ⟨_, (v7), H, F.ra Aa, W⟩
 rintro a w ⟨x1, v6, hj, F, W⟩
 have H := K1 _ hj
 clear hj G1 K1 L1
 refine vc tk 7 F W fun a w F W => ?_
 refine Ao ?_
 have H := Av H
 subst H
 refine GI (.inl Aa) F W Aa (Ai F Aa) (Ai F Aa) ?_
 have W := W.sub (M' := []) (Z' := [row v6 3 (Rp.int .i64) x1]) (List.nil_sublist _) (List.Sublist.refl _)
 exact ⟨(v6), Aa, W⟩
theorem XJ : Has Try.prog 28 := BS Try.func28
noncomputable def Di (p0 : Int × (List (Int × Int × Int × Int × Int × Int)) × (List (Int × Int))) (p1 : List (List Int)) (x2 : Int) (x3 : List Int) : Int → Option (Int ⊕ (Unit ⊕ (Int ⊕ (Unit ⊕ Bool))))
  | x4 => (if x4 < (x3.length : Int) then (E7 p0 p1 x2 x4).bind fun x5 => (if x5.2 ≠ 0 then some (.inr (.inr (.inr (.inr false)))) else some (.inl (A3 (x4 + 1)))) else some (.inr (.inl ())))
noncomputable def DI (p0 : Int × (List (Int × Int × Int × Int × Int × Int)) × (List (Int × Int))) (p1 : List (List Int)) : Int → Option (Int ⊕ (Unit ⊕ Bool))
  | x2 => (if x2 < (p1.length : Int) then Ep ((ix p1 x2).bind fun x3 => Au (Di p0 p1 x2 x3) 0) fun _ => some (.inl (A3 (x2 + 1))) else some (.inr (.inl ())))
noncomputable def EJ (p0 : Int × (List (Int × Int × Int × Int × Int × Int)) × (List (Int × Int))) (p1 : List (List Int)) : Option Bool := (Ey p0 p1).bind fun x1 => (if (!x1) = true then some false else Ep (Au (DI p0 p1) 0) fun _ => some true)
theorem Kw (Y : Nat → Prop) (w0 : World) (v1 : Value) (v2 : Value) (v3 : Value) (p0 : Int × (List (Int × Int × Int × Int × Int × Int)) × (List (Int × Int))) (p1 : List (List Int)) (r : Bool) (H : EJ p0 p1 = some r) (h_v1 : Sl w0 (NX []) Er v1 p0.2.1) (h_v2 : Sl w0 (NX []) Ec v2 p0.2.2) (h_v3 : Sl w0 (NX []) (Rp.slice (Rp.int .i64)) v3 p1) :
    Calls Try.prog 13 #[.agg #[.int .i64 p0.1, v1, v2], v3] w0 fun e w' => e = .returned (.bool r) ∧ Below w0.heap.size w0 w' := by
 refine enter Try.func13 Aa Try.ntmps13 Aa fun a F => ?_
 have W := Stw.start Y w0
 obtain ⟨v4, h1, h_v3⟩ := h_v3.ex Bh
 unfold EJ at H
 refine vc tk 2 F W fun a w F W => ?_
 refine Bq (cs := [.int .i64 p0.1, v1, v2]) F W Aa Aa Aa fun b1 a w F W => ?_
 refine IG tk 8 [0] F W (ai fun a w F W => ?_)
 obtain ⟨x1, h2, H⟩ := Ae H
 refine ls F W Aa (AL (v := Value.bool x1) F Yt Aa (fun w W => M7 any w (v1) (v2) (v3) p0 p1 _ h2 (Ci (Ab h_v1) W) (Ci (Ab h_v2) W) (Ci (Aq Bh h1 (Ab h_v3)) W))) fun a w F W => ?_
 refine Bz tk 3 F W fun a w F W => ?_
 refine B0 F Aa H (fun F H => ?_) fun F H => ?_
 ·
  refine vc tk 5 F W fun a w F W => ?_
  refine Ao (Aw ?_)
  have H := Av H
  subst H
  refine AE (.inl Aa) F W Aa (Ai F Aa) ?_
  exact ⟨rfl, W.done⟩
 refine As (Ac ?_)
 obtain ⟨o1, G1, K1, L1⟩ := I5 H
 refine Aj (fun a w => some (Sum.inl ()) = some o1 ∧ Fr 38 [] [(4, .bool false)] a ∧ Stw ⟨Y, [], w0⟩ [(b1, [.int .i64 p0.1, v1, v2])] [] w) ?_ ?_
 ·
  have H := G1
  clear G1 K1
  refine vc tk 3 F W fun a w F W => ?_
  refine ls F W Aa (AR (r := (Rp.slice (Rp.int .i64))) (l := p1) JP Aa F Aa (Aq Bh h1 (Ab h_v3))).q fun a w F W => ?_
  refine Bz tk 4 F W fun a w F W => ?_
  refine AA H (fun s a w => Fr 38 [] [(1, v3), (2, .pointer (some ⟨b1, 0, none⟩)), (4, .bool false), (14, v3), (15, .int .i64 (p1.length : Int)), (16, .int .i64 s)] a ∧ Stw ⟨Y, [], w0⟩ [(b1, [.int .i64 p0.1, v1, v2])] [] w) ⟨F.ra Aa, W⟩ fun s o a w H L2 hR => ?_
  obtain ⟨x2, rfl⟩ : ∃ x, x = s := ⟨s, rfl⟩
  obtain ⟨F, W⟩ := hR
  have F : Fr 38 [] [(1, v3), (2, .pointer (some ⟨b1, 0, none⟩)), (4, .bool false), (14, v3), (15, .int .i64 (p1.length : Int)), (16, .int .i64 x2)] a := F
  have W : Stw ⟨Y, [], w0⟩ [(b1, [.int .i64 p0.1, v1, v2])] [] w := W
  rw [DI] at H
  refine vc tk 6 F W fun a w F W => ?_
  refine AN F Aa H (fun F H => ?_) fun F H => ?_
  ·
   refine As (Ac ?_)
   obtain ⟨o3, G3, K3, L3⟩ := I5 H
   refine Aj (fun a w => some (Sum.inl ()) = some o3 ∧ Fr 38 [] [(1, v3), (2, .pointer (some ⟨b1, 0, none⟩)), (4, .bool false), (14, v3), (15, .int .i64 (p1.length : Int)), (16, .int .i64 x2)] a ∧ Stw ⟨Y, [], w0⟩ [(b1, [.int .i64 p0.1, v1, v2])] [] w) ?_ ?_
   ·
    have H := G3
    clear G3 K3
    refine vc tk 4 F W fun a w F W => ?_
    obtain ⟨x3, h3, H⟩ := Ae H
    obtain ⟨v5, h4, h5⟩ := Co h1 h3
    have h6 : C2 v5 = [(v5.1)] := congrArg (fun q : List Int => ([(v5.1)] : List Value)) h5
    refine ls F W Aa (Al (r := (Rp.vsl (Rp.int .i64))) Ke F Aa Aa (Ab h_v3) h4).q fun a w F W => ?_
    refine ls F W Aa (Ag (y := (v5.1)) (j := 0) (i := x2) (enc := C2) F Aa Aa (Ab h_v3) h4 Gd Jv (by rw [h6]; rfl)).q fun a w F W => ?_
    refine Bz tk 7 F W fun a w F W => ?_
    refine ls F W Aa (AR (r := (Rp.int .i64)) (l := x3) Hl Aa F Aa (A4 (Ab h_v3) h4 BL.here (congrArg (fun q : List Int => q) h5))).q fun a w F W => ?_
    refine Bz tk 4 F W fun a w F W => ?_
    refine AA H (fun s a w => Fr 38 [] [(1, v3), (2, .pointer (some ⟨b1, 0, none⟩)), (4, .bool false), (5, .int .i64 x2), (14, v3), (15, .int .i64 (p1.length : Int)), (16, .int .i64 x2), (22, .int .i64 (x3.length : Int)), (23, .int .i64 s)] a ∧ Stw ⟨Y, [], w0⟩ [(b1, [.int .i64 p0.1, v1, v2])] [] w) ⟨F.ra Aa, W⟩ fun s o a w H L4 hR => ?_
    obtain ⟨x4, rfl⟩ : ∃ x, x = s := ⟨s, rfl⟩
    obtain ⟨F, W⟩ := hR
    have F : Fr 38 [] [(1, v3), (2, .pointer (some ⟨b1, 0, none⟩)), (4, .bool false), (5, .int .i64 x2), (14, v3), (15, .int .i64 (p1.length : Int)), (16, .int .i64 x2), (22, .int .i64 (x3.length : Int)), (23, .int .i64 x4)] a := F
    have W : Stw ⟨Y, [], w0⟩ [(b1, [.int .i64 p0.1, v1, v2])] [] w := W
    rw [Di] at H
    refine vc tk 6 F W fun a w F W => ?_
    refine AN F Aa H (fun F H => ?_) fun F H => ?_
    ·
     refine Jk tk 16 [0] F W (ai fun a w F W => ?_)
     obtain ⟨x5, h7, H⟩ := Ae H
     refine Cv (Ml := []) (Zl := []) (β := Value) (rv := fun x => .tuple #[x, .int .i64 x5.2]) (MM := fun x => []) (ZZ := fun x => [row x 3 (Rp.int .i64) x5.1]) F W XJ Aa Aa (fun hL => N0 _ w (v1) (v2) (v3) p0 p1 x2 x4 _ h7 ((Ab h_v1) w W).nx ((Ab h_v2) w W).nx ((Aq Bh h1 (Ab h_v3)) w W).nx) fun x a w F W => ?_
     obtain ⟨v6, rfl⟩ : ∃ y, y = x := ⟨x, rfl⟩
     have W : Stw ⟨Y, [], w0⟩ [(b1, [.int .i64 p0.1, v1, v2])] [row v6 3 (Rp.int .i64) x5.1] w := W
     refine ls F W Aa (Ak F Aa).q fun a w F W => ?_
     refine ls F W Aa (A9 (v := v6) F Aa Aa).q fun a w F W => ?_
     refine ls F W Aa (A9 (v := Value.int .i64 x5.2) F Aa Aa).q fun a w F W => ?_
     refine Bz tk 10 F W fun a w F W => ?_
     refine AN F Aa H (fun F H => ?_) fun F H => ?_
     ·
      refine vc tk 5 F W fun a w F W => ?_
      refine Ao (Ax ?_)
      iterate 2 refine Aw ?_
      iterate 2 refine Ax ?_
      iterate 2 refine Aw ?_
      refine Ax (Aw ?_)
      have H := L4 _ H
      have H := L3 _ H
      have H := L2 _ H
      have H := L1 _ H
      have H := Av H
      subst H
      refine AE (.inl Aa) F W Aa (Ai F Aa) ?_
      exact ⟨rfl, W.done⟩
     refine As (An ?_)
     refine vn tk 4 F W fun a w F W => ?_
     refine Ac ?_
     have W := W.sub (M' := [(b1, [.int .i64 p0.1, v1, v2])]) (Z' := []) (List.Sublist.refl _) (List.nil_sublist _)
     exact ⟨_, H, F.ra Aa, W⟩
    refine Ay ?_
    iterate 2 refine AO ?_
    refine Az (An (Ac ?_))
    have H := L4 _ H
    exact ⟨H, F.ra Aa, W⟩
   rintro a w ⟨hj, F, W⟩
   have H := K3 _ hj
   clear hj G3 K3 L3
   refine vc tk 4 F W fun a w F W => ?_
   refine Ac ?_
   exact ⟨_, H, F.ra Aa, W⟩
  refine Ay ?_
  iterate 2 refine AO ?_
  refine Az (Ac ?_)
  have H := L2 _ H
  exact ⟨H, F.ra Aa, W⟩
 rintro a w ⟨hj, F, W⟩
 have H := K1 _ hj
 clear hj G1 K1 L1
 refine vc tk 5 F W fun a w F W => ?_
 refine Ao ?_
 have H := Av H
 subst H
 refine AE (.inl Aa) F W Aa (Ai F Aa) ?_
 exact ⟨rfl, W.done⟩
theorem M5 : type_of% Try.underlying35 := Try.underlying35
theorem SW : type_of% Try.underlying37 := Try.underlying37
theorem Tg : type_of% Try.underlying38 := Try.underlying38
theorem RR : type_of% Try.underlying58 := Try.underlying58
theorem RG : type_of% Try.underlying61 := Try.underlying61
theorem WT : Has Try.prog 13 := BS Try.func13
theorem Ui : Bt Try.prog 58 [.int .i64 0, .int .i64 0, .int .i64 0] [(0, 1), (1, 1), (2, 1)] := ⟨⟨.agg #[.int .i64 0, .int .i64 0, .int .i64 0], by kernel_rfl, rfl⟩, ⟨_, RR, fun w => by kernel_rfl⟩⟩
theorem UO : (Try.prog.info? 58).bind (·.zero) = some (.agg #[.int .i64 0, .int .i64 0, .int .i64 0]) := by kernel_rfl
abbrev BK : Rp (Int × Int × Int) := (Rp.pair (Rp.int .i64) (Rp.pair (Rp.int .i64) (Rp.int .i64)))
def XB (a : Int × Int × Int) : List Value := [.int .i64 a.1, .int .i64 a.2.1, .int .i64 a.2.2]
theorem SC : Fl BK XB := (Fl.pair Fl.int (Fl.pair Fl.int Fl.int))
theorem Nj : Et Try.prog 35 58 3 24 := Et.of M5 (by kernel_rfl) (by kernel_rfl) (by kernel_rfl) (by decide)
theorem UV : Ty Try.prog 40 true 6 := ⟨by kernel_rfl, by kernel_rfl⟩
theorem Xh : Bt Try.prog 61 [.int .i64 0, .slice none 0 0, .slice none 0 0, .slice none 0 0, .slice none 0 0, .slice none 0 0, .slice none 0 0, .int .i64 0, .int .i64 0, .int .i64 0, .int .i64 0] [(0, 3), (3, 1), (4, 1), (5, 6)] := ⟨⟨.agg #[.int .i64 0, .slice none 0 0, .slice none 0 0, .slice none 0 0, .slice none 0 0, .slice none 0 0, .slice none 0 0, .int .i64 0, .int .i64 0, .int .i64 0, .int .i64 0], by kernel_rfl, rfl⟩, ⟨_, RG, fun w => by kernel_rfl⟩⟩
theorem Xe : (Try.prog.info? 61).bind (·.zero) = some (.agg #[.int .i64 0, .slice none 0 0, .slice none 0 0, .slice none 0 0, .slice none 0 0, .slice none 0 0, .slice none 0 0, .int .i64 0, .int .i64 0, .int .i64 0, .int .i64 0]) := by kernel_rfl
theorem Uj : Ty Try.prog 61 true 11 := ⟨by kernel_rfl, by kernel_rfl⟩
theorem VV : Ty Try.prog 27 false 1 := ⟨by kernel_rfl, by kernel_rfl⟩
theorem Vr : Et Try.prog 37 78 4 32 := Et.of SW (by kernel_rfl) (by kernel_rfl) (by kernel_rfl) (by decide)
def XE (a : Int × Int × Int × Int) : List Value := [.int .i64 a.1, .int .i64 a.2.1, .int .i64 a.2.2.1, .int .i64 a.2.2.2]
theorem V2 : Fl HV XE := (Fl.pair Fl.int (Fl.pair Fl.int (Fl.pair Fl.int Fl.int)))
theorem To : Ty Try.prog 78 true 4 := ⟨by kernel_rfl, by kernel_rfl⟩
theorem VX : (Try.prog.info? 78).bind (·.zero) = some (.agg #[.int .i64 0, .int .i64 0, .int .i64 0, .int .i64 0]) := by kernel_rfl
theorem T4 : Ty Try.prog 38 false 1 := ⟨by kernel_rfl, by kernel_rfl⟩
abbrev NJ (a : Int × Int × (Value × List Int)) : List Value := [.int .i64 a.1, .int .i64 a.2.1, a.2.2.1]
theorem Tc : Hf Q8 NJ := (Hf.pair Fl.int.to (Hf.pair Fl.int.to Hf.vsl))
theorem U0 : Et Try.prog 38 65 3 40 := Et.of Tg (by kernel_rfl) (by kernel_rfl) (by kernel_rfl) (by decide)
theorem Wc : Ty Try.prog 65 true 3 := ⟨by kernel_rfl, by kernel_rfl⟩
noncomputable def BR (p0 : List Int) (p1 : Int) : Int → Option (Int ⊕ (Unit ⊕ Int))
  | x1 => (if x1 < (p0.length : Int) then (ix p0 x1).bind fun x2 => (if p1 = x2 then some (.inr (.inr x1)) else some (.inl (A3 (x1 + 1)))) else some (.inr (.inl ())))
noncomputable def CG (p0 : List Int) (p1 : Int) : Option Int := Ep (Au (BR p0 p1) 0) fun _ => some (-1)
theorem IK (Y : Nat → Prop) (w0 : World) (v1 : Value) (p0 : List Int) (p1 : Int) (r : Int) (H : CG p0 p1 = some r) (h_v1 : Sl w0 (NX []) (Rp.int .i64) v1 p0) :
    Calls Try.prog 78 #[v1, .int .i64 p1] w0 fun e w' => e = .returned (.int .i64 r) ∧ Below w0.heap.size w0 w' := by
 refine enter Try.func78 Aa Try.ntmps78 Aa fun a F => ?_
 have W := Stw.start Y w0
 unfold CG at H
 refine vc tk 5 F W fun a w F W => ?_
 obtain ⟨o1, G1, K1, L1⟩ := I5 H
 refine Aj (fun a w => some (Sum.inl ()) = some o1 ∧ Fr 19 [] [(4, .int .i64 0)] a ∧ Stw ⟨Y, [], w0⟩ [] [] w) ?_ ?_
 ·
  have H := G1
  clear G1 K1
  refine vc tk 3 F W fun a w F W => ?_
  refine ls F W Aa (AR (r := (Rp.int .i64)) (l := p0) Hl Aa F Aa (Ab h_v1)).q fun a w F W => ?_
  refine Bz tk 4 F W fun a w F W => ?_
  refine AA H (fun s a w => Fr 19 [] [(0, v1), (1, .int .i64 p1), (4, .int .i64 0), (7, .int .i64 (p0.length : Int)), (8, .int .i64 s)] a ∧ Stw ⟨Y, [], w0⟩ [] [] w) ⟨F.ra Aa, W⟩ fun s o a w H L2 hR => ?_
  obtain ⟨x1, rfl⟩ : ∃ x, x = s := ⟨s, rfl⟩
  obtain ⟨F, W⟩ := hR
  have F : Fr 19 [] [(0, v1), (1, .int .i64 p1), (4, .int .i64 0), (7, .int .i64 (p0.length : Int)), (8, .int .i64 x1)] a := F
  have W : Stw ⟨Y, [], w0⟩ [] [] w := W
  rw [BR] at H
  refine vc tk 6 F W fun a w F W => ?_
  refine AN F Aa H (fun F H => ?_) fun F H => ?_
  ·
   refine Gm tk 15 F W fun a w F W => ?_
   obtain ⟨x2, h1, H⟩ := Ae H
   refine ls F W Aa (Al (r := (Rp.int .i64)) FS F Aa Aa (Ab h_v1) h1).q fun a w F W => ?_
   refine ls F W Aa (Ag (y := Value.int .i64 x2) (j := 0) (i := x1) F Aa Aa (Ab h_v1) h1 Fl.int.to T3 Aa).q fun a w F W => ?_
   refine Bz tk 3 F W fun a w F W => ?_
   refine AN F Aa H (fun F H => ?_) fun F H => ?_
   ·
    refine vc tk 6 F W fun a w F W => ?_
    refine Ao (Ax ?_)
    iterate 2 refine Aw ?_
    refine Ax (Aw ?_)
    have H := L2 _ H
    have H := L1 _ H
    have H := Av H
    subst H
    refine AE (.inl Aa) F W Aa (Ai F Aa) ?_
    exact ⟨rfl, W.done⟩
   refine As (An ?_)
   refine vn tk 4 F W fun a w F W => ?_
   refine Ac ?_
   exact ⟨_, H, F.ra Aa, W⟩
  refine Ay ?_
  iterate 2 refine AO ?_
  refine Az (Ac ?_)
  have H := L2 _ H
  exact ⟨H, F.ra Aa, W⟩
 rintro a w ⟨hj, F, W⟩
 have H := K1 _ hj
 clear hj G1 K1 L1
 refine vc tk 5 F W fun a w F W => ?_
 refine Ao ?_
 have H := Av H
 subst H
 refine AE (.inl Aa) F W Aa (Ai F Aa) ?_
 exact ⟨rfl, W.done⟩
theorem Xv : Has Try.prog 78 := BS Try.func78
noncomputable def BN (p0 : List Int) (p1 : Int) : Option Bool := (CG p0 p1).bind fun x1 => some (decide (0 ≤ x1))
theorem Hy (Y : Nat → Prop) (w0 : World) (v1 : Value) (p0 : List Int) (p1 : Int) (r : Bool) (H : BN p0 p1 = some r) (h_v1 : Sl w0 (NX []) (Rp.int .i64) v1 p0) :
    Calls Try.prog 61 #[v1, .int .i64 p1] w0 fun e w' => e = .returned (.bool r) ∧ Below w0.heap.size w0 w' := by
 refine enter Try.func61 Aa Try.ntmps61 Aa fun a F => ?_
 have W := Stw.start Y w0
 unfold BN at H
 refine vc tk 9 F W fun a w F W => ?_
 obtain ⟨x1, h1, H⟩ := Ae H
 refine ls F W Aa (AL (v := Value.int .i64 x1) F Xv Aa (fun w W => IK any w (v1) p0 p1 _ h1 (Ci (Ab h_v1) W))) fun a w F W => ?_
 refine Bz tk 4 F W fun a w F W => ?_
 refine Ao ?_
 have H := Av H
 subst H
 refine AE (.inl Aa) F W Aa (Ai F Aa) ?_
 exact ⟨rfl, W.done⟩
end Go.Proofs.Ythhoflfhegfmcaa
