/- The functions of layer 25, GX. Conditions: none. -/
import Derived.Test.YthhoflfhegfmcaaRows
import Derived.Test.YthhoflfhegfmcaacOT
import Derived.Test.YthhoflfhegfmcaacQT
import Derived.Test.YthhoflfhegfmcaacOD
import Derived.Test.YthhoflfhegfmcaacDS
import Derived.Test.YthhoflfhegfmcaacXN
import Derived.Test.YthhoflfhegfmcaacOY
import Derived.Test.YthhoflfhegfmcaacOC
import Derived.Test.YthhoflfhegfmcaacVC
import Derived.Test.YthhoflfhegfmcaacOM
import Derived.Test.YthhoflfhegfmcaacDR
import Derived.Test.YthhoflfhegfmcaacOX
namespace Go.Proofs.Ythhoflfhegfmcaa
open Go Go.RowKit
set_option linter.unusedVariables false
set_option linter.unusedSimpArgs false
set_option maxRecDepth 20000
set_option maxHeartbeats 1600000
def V5 : Tt := ([(25, [(0, false, 1), (1, false, 1), (2, false, 1)]), (31, [(0, false, 1), (1, false, 1), (2, false, 1), (3, false, 1), (4, false, 1), (5, false, 1)]), (40, [(0, false, 1), (1, false, 1), (2, false, 1), (3, false, 1), (4, false, 1), (5, false, 1)]), (52, [(0, false, 1), (1, false, 1), (2, false, 1)]), (54, [(0, false, 1), (1, false, 1), (2, false, 1), (3, false, 1), (4, false, 1), (5, false, 1)]), (56, [(0, false, 1), (1, false, 1)]), (61, [(0, true, 3), (3, false, 1), (4, false, 1), (5, true, 6)]), (65, [(0, false, 1), (1, false, 1), (2, false, 1)]), (78, [(0, false, 1), (1, false, 1), (2, false, 1), (3, false, 1)]), (87, [(0, false, 1), (1, false, 1), (2, false, 1), (3, false, 1)]), (98, [(0, false, 1), (1, false, 1)]), (112, [(0, false, 1), (1, false, 1)]), (122, [(0, false, 1), (1, false, 1)])], [(3, false, 1), (22, false, 1), (23, false, 1), (25, true, 3), (27, false, 1), (28, false, 1), (29, false, 1), (31, true, 6), (37, false, 1), (38, false, 1), (40, true, 6), (46, false, 1), (61, true, 11), (65, true, 3), (78, true, 4), (87, true, 4), (122, true, 2), (134, true, 16), (136, true, 16)])
theorem tk : TtOk Try.prog V5 := ⟨by kernel_rfl, by kernel_rfl⟩
theorem N9 : type_of% Try.underlying22 := Try.underlying22
theorem Ni : type_of% Try.underlying23 := Try.underlying23
theorem Ut : type_of% Try.underlying25 := Try.underlying25
theorem I7 : type_of% Try.underlying27 := Try.underlying27
theorem PA : type_of% Try.underlying29 := Try.underlying29
theorem GS : type_of% Try.underlying46 := Try.underlying46
abbrev Gn : Rp (Int × Int × Int × Int × Int × Int) := (Rp.pair (Rp.int .i64) (Rp.pair (Rp.int .i64) (Rp.pair (Rp.int .i64) (Rp.pair (Rp.int .i64) (Rp.pair (Rp.int .i64) (Rp.int .i64))))))
abbrev GE : Rp (Int × Int) := (Rp.pair (Rp.int .i64) (Rp.int .i64))
abbrev LI : Rp (Int × Int × Int × Int) := (Rp.pair (Rp.int .i64) (Rp.pair (Rp.int .i64) (Rp.pair (Rp.int .i64) (Rp.int .i64))))
abbrev Oh : Rp (Int × Int × List Int) := (Rp.pair (Rp.int .i64) (Rp.pair (Rp.int .i64) (Rp.slice (Rp.int .i64))))
abbrev Uy (p : Value × List Int) : List Int := p.2
theorem Bn : Ex (Rp.slice (Rp.int .i64)) (Rp.vsl (Rp.int .i64)) Uy := Ex.sliceF
abbrev Nh : Rp (Int × Int × (Value × List Int)) := (Rp.pair (Rp.int .i64) (Rp.pair (Rp.int .i64) (Rp.vsl (Rp.int .i64))))
abbrev UP (p : Int × Int × (Value × List Int)) : Int × Int × List Int := (p.1, p.2.1, p.2.2.2)
theorem HY : Ex Oh Nh UP := (Ex.pair Ex.rfl' (Ex.pair Ex.rfl' Ex.sliceF))
theorem Th : Ty Try.prog 25 true 3 := ⟨by kernel_rfl, by kernel_rfl⟩
theorem TK : Ty Try.prog 31 true 6 := ⟨by kernel_rfl, by kernel_rfl⟩
theorem OP : Ty Try.prog 29 false 1 := ⟨by kernel_rfl, by kernel_rfl⟩
abbrev JT (a : Int × Int × (Value × List Int)) : List Value := [.int .i64 a.1, .int .i64 a.2.1, a.2.2.1]
theorem PQ : GB Nh JT := (GB.pair Fl.int.to (GB.pair Fl.int.to GB.vsl))
theorem TB : Et Try.prog 29 52 3 40 := Et.of PA (by kernel_rfl) (by kernel_rfl) (by kernel_rfl) (by decide)
theorem Kj : Ty Try.prog 46 false 1 := ⟨by kernel_rfl, by kernel_rfl⟩
abbrev Em (a : Value × List Int) : List Value := [a.1]
theorem Ik : GB (Rp.vsl (Rp.int .i64)) Em := GB.vsl
theorem LF : Et Try.prog 27 46 1 24 := Et.of I7 (by kernel_rfl) (by kernel_rfl) (by kernel_rfl) (by decide)
noncomputable def E5 (p1 : List (List Int)) : Int → Option (Int ⊕ (Unit ⊕ Bool))
  | x1 => (if x1 < (p1.length : Int) then (ix p1 x1).bind fun x2 => (if 12 < (x2.length : Int) then some (.inr (.inr false)) else some (.inl (A7 (x1 + 1)))) else some (.inr (.inl ())))
noncomputable def Ge (p0 : Int × (List (Int × Int × Int × Int × Int × Int)) × (List (Int × Int))) (p1 : List (List Int)) : Option Bool := EZ (An (E5 p1) 0) fun _ => some (decide ((p0.2.1.length : Int) ≤ 30) && (decide ((p0.2.2.length : Int) ≤ 12) && decide ((p1.length : Int) ≤ 12)))
theorem Ks (Y : Nat → Prop) (w0 : World) (v1 : Value) (v2 : Value) (v3 : Value) (p0 : Int × (List (Int × Int × Int × Int × Int × Int)) × (List (Int × Int))) (p1 : List (List Int)) (r : Bool) (H : Ge p0 p1 = some r) (h_v1 : Sl w0 (NX []) Gn v1 p0.2.1) (h_v2 : Sl w0 (NX []) GE v2 p0.2.2) (h_v3 : Sl w0 (NX []) (Rp.slice (Rp.int .i64)) v3 p1) :
    Calls Try.prog 16 #[.agg #[.int .i64 p0.1, v1, v2], v3] w0 fun e w' => e = .returned (.bool r) ∧ Below w0.heap.size w0 w' := by
 refine enter Try.func16 Aa Try.ntmps16 Aa fun a F => ?_
 have W := Stw.start Y w0
 obtain ⟨v4, h1, h_v3⟩ := h_v3.ex Bn
 unfold Ge at H
 refine vc tk 2 F W fun a w F W => ?_
 refine Cq (cs := [.int .i64 p0.1, v1, v2]) F W Aa Aa Aa fun b1 a w F W => ?_
 refine vl tk 2 F W fun a w F W => ?_
 refine Ac ?_
 obtain ⟨o1, G1, K1, L1⟩ := L9 H
 refine Av (fun a w => some (Sum.inl ()) = some o1 ∧ Fr 33 [] [(1, v3), (2, .pointer (some ⟨b1, 0, none⟩)), (4, .bool false)] a ∧ Stw ⟨Y, [], w0⟩ [(b1, [.int .i64 p0.1, v1, v2])] [] w) ?_ ?_
 ·
  have H := G1
  clear G1 K1
  refine vc tk 6 F W fun a w F W => ?_
  refine AP H (fun s a w => Fr 33 [] [(1, v3), (2, .pointer (some ⟨b1, 0, none⟩)), (4, .bool false), (5, .int .i64 s)] a ∧ Stw ⟨Y, [], w0⟩ [(b1, [.int .i64 p0.1, v1, v2])] [] w) ⟨F.ra Aa, W⟩ fun s o a w H L2 hR => ?_
  obtain ⟨x1, rfl⟩ : ∃ x, x = s := ⟨s, rfl⟩
  obtain ⟨F, W⟩ := hR
  have F : Fr 33 [] [(1, v3), (2, .pointer (some ⟨b1, 0, none⟩)), (4, .bool false), (5, .int .i64 x1)] a := F
  have W : Stw ⟨Y, [], w0⟩ [(b1, [.int .i64 p0.1, v1, v2])] [] w := W
  rw [E5] at H
  refine vc tk 5 F W fun a w F W => ?_
  refine ls F W Aa (A0 (r := (Rp.slice (Rp.int .i64))) (l := p1) I7 Aa F Aa (Ak Bn h1 (Ab h_v3))).q fun a w F W => ?_
  refine Cc tk 3 F W fun a w F W => ?_
  refine A3 F Aa H (fun F H => ?_) fun F H => ?_
  ·
   refine Ie tk 8 F W fun a w F W => ?_
   obtain ⟨x2, h2, H⟩ := Ad H
   obtain ⟨v5, h3, h4⟩ := CE h1 h2
   have h5 : Em v5 = [(v5.1)] := congrArg (fun q : List Int => ([(v5.1)] : List Value)) h4
   refine ls F W Aa (Aw (r := (Rp.vsl (Rp.int .i64))) LF F Aa Aa (Ab h_v3) h3).q fun a w F W => ?_
   refine ls F W Aa (Ai (y := (v5.1)) (j := 0) (i := x1) (enc := Em) F Aa Aa (Ab h_v3) h3 Ik Kj (by rw [h5]; rfl)).q fun a w F W => ?_
   refine ls F W Aa (A0 (r := (Rp.int .i64)) (l := x2) GS Aa F Aa (BE (Ab h_v3) h3 Cd.here (congrArg (fun q : List Int => q) h4))).q fun a w F W => ?_
   refine Cc tk 3 F W fun a w F W => ?_
   refine A3 F Aa H (fun F H => ?_) fun F H => ?_
   ·
    refine vc tk 5 F W fun a w F W => ?_
    refine Ao (AR ?_)
    iterate 2 refine AN ?_
    refine AR (AN ?_)
    have H := L2 _ H
    have H := L1 _ H
    have H := AA H
    subst H
    refine AG (.inl Aa) F W Aa (Al F Aa) ?_
    exact ⟨rfl, W.done⟩
   refine AD (Aq ?_)
   refine vn tk 5 F W fun a w F W => ?_
   refine Ac ?_
   exact ⟨_, H, F.ra Aa, W⟩
  refine AJ ?_
  iterate 2 refine A6 ?_
  refine AM (Ac ?_)
  have H := L2 _ H
  exact ⟨H, F.ra Aa, W⟩
 rintro a w ⟨hj, F, W⟩
 have H := K1 _ hj
 clear hj G1 K1 L1
 refine Av (fun a w => Fr 33 [] [(4, .bool (decide ((p0.2.1.length : Int) ≤ 30) && (decide ((p0.2.2.length : Int) ≤ 12) && decide ((p1.length : Int) ≤ 12))))] a ∧ Stw ⟨Y, [], w0⟩ [(b1, [.int .i64 p0.1, v1, v2])] [] w) ?_ ?_
 ·
  refine Ha tk 3 [0] F W (ai fun a w F W => ?_)
  refine ls F W Aa (A0 (r := Gn) (l := p0.2.1) N9 Aa F Aa (Ab h_v1)).q fun a w F W => ?_
  refine vl tk 2 F W fun a w F W => ?_
  rcases Bool.eq_false_or_eq_true (decide ((p0.2.1.length : Int) ≤ 30)) with hb0 | hb0
  ·
   rw [hb0] at F
   refine Jl tk 2 [0] F W (ai fun a w F W => ?_)
   refine E2 F W (Ae F Aa Aa Aa Aa) Aa (AC Aa) (A0 (r := GE) (l := p0.2.2) Ni Aa F Aa (Ab h_v2)).q fun a w F W => ?_
   refine vl tk 3 F W fun a w F W => ?_
   rcases Bool.eq_false_or_eq_true (decide ((p0.2.2.length : Int) ≤ 12)) with hb1 | hb1
   ·
    rw [hb1] at F
    refine E2 F W (Ae F Aa Aa Aa Aa) Aa (AC Aa) (Am F Aa).q fun a w F W => ?_
    refine E2 F W (Ae F Aa Aa Aa Aa) Aa (AC Aa) (A0 (r := (Rp.slice (Rp.int .i64))) (l := p1) I7 Aa F Aa (Ak Bn h1 (Ab h_v3))).q fun a w F W => ?_
    refine vl tk 4 F W fun a w F W => ?_
    refine Ac ?_
    exact ⟨F.re ⟨(JW (by try rw [hb0]; try rw [hb1]; all_goals simp only [Ka])), trivial⟩, W⟩
   rw [hb1] at F
   refine vl tk 6 F W fun a w F W => ?_
   refine Ac ?_
   exact ⟨F.re ⟨(JW (by try rw [hb0]; try rw [hb1]; all_goals simp only [Ka])), trivial⟩, W⟩
  rw [hb0] at F
  refine vl tk 12 F W fun a w F W => ?_
  refine Ac ?_
  exact ⟨F.re ⟨(JW (by try rw [hb0]; all_goals simp only [Ka])), trivial⟩, W⟩
 rintro a w ⟨F, W⟩
 refine Ao ?_
 have H := AA H
 subst H
 refine AG (.inl Aa) F W Aa (Al F Aa) ?_
 exact ⟨rfl, W.done⟩
theorem Sm : type_of% Try.underlying28 := Try.underlying28
theorem IZ : type_of% Try.underlying31 := Try.underlying31
theorem PF : type_of% Try.underlying52 := Try.underlying52
theorem VF : Has Try.prog 16 := Ct Try.func16
theorem Sz : Ty Try.prog 28 false 1 := ⟨by kernel_rfl, by kernel_rfl⟩
abbrev Jj (a0 : Nat) (a1 : Value) (a2 : Value) (a3 : (List (Int × Int × Int × Int)) × (List (Int × Int × List Int)) × Int × Int × Int × Int) (a4 : Nat) (a5 : Int × (List (Int × Int × Int × Int × Int × Int)) × (List (Int × Int))) (a6 : Value) (a7 : Value) : List (Nat × List Value) := [(a0, [a1, a2, .int .i64 a3.2.2.1, .int .i64 a3.2.2.2.1, .int .i64 a3.2.2.2.2.1, .int .i64 a3.2.2.2.2.2]), (a4, [.int .i64 a5.1, a6, a7])]
noncomputable def Ff (p3 : (List (Int × Int × Int × Int)) × (List (Int × Int × List Int)) × Int × Int × Int × Int) : Int → Option (Int ⊕ (Unit ⊕ Bool))
  | x1 => (if x1 < (p3.2.1.length : Int) then (ix p3.2.1 x1).bind fun x2 => (if 20 < (x2.2.2.length : Int) then some (.inr (.inr false)) else some (.inl (A7 (x1 + 1)))) else some (.inr (.inl ())))
noncomputable def Hj (p0 : Int × (List (Int × Int × Int × Int × Int × Int)) × (List (Int × Int))) (p1 : List (List Int)) (p2 : List (List Int)) (p3 : (List (Int × Int × Int × Int)) × (List (Int × Int × List Int)) × Int × Int × Int × Int) : Option Bool := EZ (An (Ff p3) 0) fun _ => ((Ge p0 p1).bind fun x4 => (if x4 = true then (Ge p0 p2).bind fun x5 => (if x5 = true then (if (p3.1.length : Int) ≤ 40 then some (decide ((p3.2.1.length : Int) ≤ 12)) else some false) else some false) else some false)).bind fun x3 => some x3
theorem NS (Y : Nat → Prop) (w0 : World) (v1 : Value) (v2 : Value) (v3 : Value) (v4 : Value) (v5 : Value) (v6 : Value) (p0 : Int × (List (Int × Int × Int × Int × Int × Int)) × (List (Int × Int))) (p1 : List (List Int)) (p2 : List (List Int)) (p3 : (List (Int × Int × Int × Int)) × (List (Int × Int × List Int)) × Int × Int × Int × Int) (r : Bool) (H : Hj p0 p1 p2 p3 = some r) (h_v1 : Sl w0 (NX []) Gn v1 p0.2.1) (h_v2 : Sl w0 (NX []) GE v2 p0.2.2) (h_v3 : Sl w0 (NX []) (Rp.slice (Rp.int .i64)) v3 p1) (h_v4 : Sl w0 (NX []) (Rp.slice (Rp.int .i64)) v4 p2) (h_v5 : Sl w0 (NX []) LI v5 p3.1) (h_v6 : Sl w0 (NX []) Oh v6 p3.2.1) :
    Calls Try.prog 5 #[.agg #[.int .i64 p0.1, v1, v2], v3, v4, .agg #[v5, v6, .int .i64 p3.2.2.1, .int .i64 p3.2.2.2.1, .int .i64 p3.2.2.2.2.1, .int .i64 p3.2.2.2.2.2]] w0 fun e w' => e = .returned (.bool r) ∧ Below w0.heap.size w0 w' := by
 refine enter Try.func5 Aa Try.ntmps5 Aa fun a F => ?_
 have W := Stw.start Y w0
 obtain ⟨v7, h1, h_v3⟩ := h_v3.ex Bn
 obtain ⟨v8, h2, h_v4⟩ := h_v4.ex Bn
 obtain ⟨v9, h3, h_v6⟩ := h_v6.ex HY
 unfold Hj at H
 refine vc tk 2 F W fun a w F W => ?_
 refine Cq (cs := [.int .i64 p0.1, v1, v2]) F W Aa Aa Aa fun b1 a w F W => ?_
 refine Cq (cs := [v5, v6, .int .i64 p3.2.2.1, .int .i64 p3.2.2.2.1, .int .i64 p3.2.2.2.2.1, .int .i64 p3.2.2.2.2.2]) F W Aa Aa Aa fun b2 a w F W => ?_
 refine vl tk 2 F W fun a w F W => ?_
 refine Ac ?_
 obtain ⟨o1, G1, K1, L1⟩ := L9 H
 refine Av (fun a w => some (Sum.inl ()) = some o1 ∧ Fr 45 [] [(1, v3), (2, v4), (4, .pointer (some ⟨b1, 0, none⟩)), (7, .pointer (some ⟨b2, 0, none⟩)), (8, .bool false)] a ∧ Stw ⟨Y, [], w0⟩ (Jj b2 v5 v6 p3 b1 p0 v1 v2) [] w) ?_ ?_
 ·
  have H := G1
  clear G1 K1
  refine vc tk 6 F W fun a w F W => ?_
  have W := W.frontM (i := 1) Aa Aa
  have W := W.frontM (i := 1) Aa Aa
  refine AP H (fun s a w => Fr 45 [] [(1, v3), (2, v4), (4, .pointer (some ⟨b1, 0, none⟩)), (7, .pointer (some ⟨b2, 0, none⟩)), (8, .bool false), (9, .int .i64 s)] a ∧ Stw ⟨Y, [], w0⟩ (Jj b2 v5 v6 p3 b1 p0 v1 v2) [] w) ⟨F.ra Aa, W⟩ fun s o a w H L2 hR => ?_
  obtain ⟨x1, rfl⟩ : ∃ x, x = s := ⟨s, rfl⟩
  obtain ⟨F, W⟩ := hR
  have F : Fr 45 [] [(1, v3), (2, v4), (4, .pointer (some ⟨b1, 0, none⟩)), (7, .pointer (some ⟨b2, 0, none⟩)), (8, .bool false), (9, .int .i64 x1)] a := F
  have W : Stw ⟨Y, [], w0⟩ (Jj b2 v5 v6 p3 b1 p0 v1 v2) [] w := W
  rw [Ff] at H
  refine Ha tk 6 [0] F W (ai fun a w F W => ?_)
  refine ls F W Aa (A0 (r := Oh) (l := p3.2.1) PA Aa F Aa (Ak HY h3 (Ab h_v6))).q fun a w F W => ?_
  refine Cc tk 3 F W fun a w F W => ?_
  refine A3 F Aa H (fun F H => ?_) fun F H => ?_
  ·
   refine MY tk 9 [0] F W (ai fun a w F W => ?_)
   obtain ⟨x2, h4, H⟩ := Ad H
   obtain ⟨v10, h5, h6⟩ := CE h3 h4
   have h7 : JT v10 = [.int .i64 x2.1, .int .i64 x2.2.1, (v10.2.2.1)] := congrArg (fun q : Int × Int × List Int => ([.int .i64 q.1, .int .i64 q.2.1, (v10.2.2.1)] : List Value)) h6
   refine ls F W Aa (Aw (r := Nh) TB F Aa Aa (Ab h_v6) h5).q fun a w F W => ?_
   refine ls F W Aa (Ah PF Aa Aa Aa Kj F Aa (Fi v6 + (x1).toNat * 3 + 2) Aa).q fun a w F W => ?_
   refine ls F W Aa (Ai (y := (v10.2.2.1)) (j := 2) (i := x1) (enc := JT) F Aa Aa (Ab h_v6) h5 PQ Kj (by rw [h7]; rfl)).q fun a w F W => ?_
   refine ls F W Aa (A0 (r := (Rp.int .i64)) (l := x2.2.2) GS Aa F Aa (BE (Ab h_v6) h5 (Cd.snd (Cd.snd Cd.here)) (congrArg (fun q : Int × Int × List Int => q.2.2) h6))).q fun a w F W => ?_
   refine Cc tk 3 F W fun a w F W => ?_
   refine A3 F Aa H (fun F H => ?_) fun F H => ?_
   ·
    refine vc tk 5 F W fun a w F W => ?_
    refine Ao (AR ?_)
    iterate 2 refine AN ?_
    refine AR (AN ?_)
    have H := L2 _ H
    have H := L1 _ H
    have H := AA H
    subst H
    refine AG (.inl Aa) F W Aa (Al F Aa) ?_
    exact ⟨rfl, W.done⟩
   refine AD (Aq ?_)
   refine vn tk 5 F W fun a w F W => ?_
   refine Ac ?_
   have W := W.frontM (i := 1) Aa Aa
   have W := W.frontM (i := 1) Aa Aa
   exact ⟨_, H, F.ra Aa, W⟩
  refine AJ ?_
  iterate 2 refine A6 ?_
  refine AM (Ac ?_)
  have W := W.frontM (i := 1) Aa Aa
  have W := W.frontM (i := 1) Aa Aa
  have H := L2 _ H
  exact ⟨H, F.ra Aa, W⟩
 rintro a w ⟨hj, F, W⟩
 have H := K1 _ hj
 clear hj G1 K1 L1
 obtain ⟨o3, G3, K3⟩ := Ad H
 refine Av (fun a w => ∃ x3 : Bool, some (x3) = some o3 ∧ Fr 45 [] [(8, .bool x3)] a ∧ Stw ⟨Y, [], w0⟩ (Jj b2 v5 v6 p3 b1 p0 v1 v2) [] w) ?_ ?_
 ·
  have H := G3
  clear G3 K3
  refine Ha tk 3 [1] F W (ai fun a w F W => ?_)
  obtain ⟨x4, h8, H⟩ := Ad H
  refine ls F W Aa (AW (v := Value.bool x4) F VF Aa (fun w W => Ks any w (v1) (v2) (v3) p0 p1 _ h8 (CW (Ab h_v1) W) (CW (Ab h_v2) W) (CW (Ak Bn h1 (Ab h_v3)) W))) fun a w F W => ?_
  refine ls F W Aa (Am F Aa).q fun a w F W => ?_
  rcases Bool.eq_false_or_eq_true x4 with hb | hb
  ·
   have H := Di hb H
   rw [hb] at F
   clear hb
   refine Jl tk 2 [1] F W (ai fun a w F W => ?_)
   refine Jg (Ae F Aa Aa Aa Aa) ?_
   obtain ⟨x5, h9, H⟩ := Ad H
   refine ls F W Aa (AW (v := Value.bool x5) F VF Aa (fun w W => Ks any w (v1) (v2) (v4) p0 p2 _ h9 (CW (Ab h_v1) W) (CW (Ab h_v2) W) (CW (Ak Bn h2 (Ab h_v4)) W))) fun a w F W => ?_
   refine vl tk 2 F W fun a w F W => ?_
   rcases Bool.eq_false_or_eq_true x5 with hb | hb
   ·
    have H := Di hb H
    rw [hb] at F
    clear hb
    refine Jl tk 2 [0] F W (ai fun a w F W => ?_)
    refine E2 F W (Ae F Aa Aa Aa Aa) Aa (AC Aa) (A0 (r := LI) (l := p3.1) Sm Aa F Aa (Ab h_v5)).q fun a w F W => ?_
    refine vl tk 3 F W fun a w F W => ?_
    rcases Bool.eq_false_or_eq_true (decide ((p3.1.length : Int) ≤ 40)) with hb | hb
    ·
     have H := Di (E6 hb) H
     rw [hb] at F
     clear hb
     refine Jl tk 2 [0] F W (ai fun a w F W => ?_)
     refine E2 F W (Ae F Aa Aa Aa Aa) Aa (AC Aa) (A0 (r := Oh) (l := p3.2.1) PA Aa F Aa (Ak HY h3 (Ab h_v6))).q fun a w F W => ?_
     refine vl tk 4 F W fun a w F W => ?_
     refine Ac ?_
     have W := W.frontM (i := 1) Aa Aa
     have W := W.frontM (i := 1) Aa Aa
     exact ⟨_, H, F.ra Aa, W⟩
    have H := Dg (Fh hb) H
    rw [hb] at F
    clear hb
    refine vl tk 7 F W fun a w F W => ?_
    refine Ac ?_
    have W := W.frontM (i := 1) Aa Aa
    have W := W.frontM (i := 1) Aa Aa
    exact ⟨_, H, F.ra Aa, W⟩
   have H := Dg (by rw [hb]; decide) H
   rw [hb] at F
   clear hb
   refine vl tk 13 F W fun a w F W => ?_
   refine Ac ?_
   have W := W.frontM (i := 1) Aa Aa
   have W := W.frontM (i := 1) Aa Aa
   exact ⟨_, H, F.ra Aa, W⟩
  have H := Dg (by rw [hb]; decide) H
  rw [hb] at F
  clear hb
  refine vl tk 18 F W fun a w F W => ?_
  refine Ac ?_
  have W := W.frontM (i := 1) Aa Aa
  have W := W.frontM (i := 1) Aa Aa
  exact ⟨_, H, F.ra Aa, W⟩
 rintro a w ⟨x3, hj, F, W⟩
 have hj := AA hj
 subst hj
 have H := K3
 clear G3 K3
 refine Ao ?_
 have H := AA H
 subst H
 refine AG (.inl Aa) F W Aa (Al F Aa) ?_
 exact ⟨rfl, W.done⟩
theorem Qn : type_of% Try.underlying40 := Try.underlying40
theorem Qj : type_of% Try.underlying54 := Try.underlying54
theorem Ui : type_of% Try.underlying56 := Try.underlying56
theorem Sx : type_of% Try.underlying119 := Try.underlying119
theorem O3 : type_of% Try.underlying122 := Try.underlying122
theorem H5 : Has Try.prog 5 := Ct Try.func5
theorem Vc : Bt Try.prog 54 [.int .i64 0, .int .i64 0, .int .i64 0, .int .i64 0, .int .i64 0, .int .i64 0] [(0, 1), (1, 1), (2, 1), (3, 1), (4, 1), (5, 1)] := ⟨⟨.agg #[.int .i64 0, .int .i64 0, .int .i64 0, .int .i64 0, .int .i64 0, .int .i64 0], by kernel_rfl, rfl⟩, ⟨_, Qj, fun w => by kernel_rfl⟩⟩
theorem UM : (Try.prog.info? 54).bind (·.zero) = some (.agg #[.int .i64 0, .int .i64 0, .int .i64 0, .int .i64 0, .int .i64 0, .int .i64 0]) := by kernel_rfl
def VX (a : Int × Int × Int × Int × Int × Int) : List Value := [.int .i64 a.1, .int .i64 a.2.1, .int .i64 a.2.2.1, .int .i64 a.2.2.2.1, .int .i64 a.2.2.2.2.1, .int .i64 a.2.2.2.2.2]
theorem T7 : Fl Gn VX := (Fl.pair Fl.int (Fl.pair Fl.int (Fl.pair Fl.int (Fl.pair Fl.int (Fl.pair Fl.int Fl.int)))))
theorem Uk : Et Try.prog 22 54 6 48 := Et.of N9 (by kernel_rfl) (by kernel_rfl) (by kernel_rfl) (by decide)
theorem Vr : Bt Try.prog 56 [.int .i64 0, .int .i64 0] [(0, 1), (1, 1)] := ⟨⟨.agg #[.int .i64 0, .int .i64 0], by kernel_rfl, rfl⟩, ⟨_, Ui, fun w => by kernel_rfl⟩⟩
theorem VG : (Try.prog.info? 56).bind (·.zero) = some (.agg #[.int .i64 0, .int .i64 0]) := by kernel_rfl
def V4 (a : Int × Int) : List Value := [.int .i64 a.1, .int .i64 a.2]
theorem UO : Fl GE V4 := (Fl.pair Fl.int Fl.int)
theorem UY : Et Try.prog 23 56 2 16 := Et.of Ni (by kernel_rfl) (by kernel_rfl) (by kernel_rfl) (by decide)
theorem Vq : Bt Try.prog 25 [.int .i64 0, .slice none 0 0, .slice none 0 0] [(0, 1), (1, 1), (2, 1)] := ⟨⟨.agg #[.int .i64 0, .slice none 0 0, .slice none 0 0], by kernel_rfl, rfl⟩, ⟨_, Ut, fun w => by kernel_rfl⟩⟩
theorem VN : (Try.prog.info? 25).bind (·.zero) = some (.agg #[.int .i64 0, .slice none 0 0, .slice none 0 0]) := by kernel_rfl
theorem Z3 : (Try.prog.info? 3).bind (·.zero) = some (.int .i64 0) := by kernel_rfl
theorem HT : Et Try.prog 46 3 1 8 := Et.of GS (by kernel_rfl) (by kernel_rfl) (by kernel_rfl) (by decide)
theorem Uz : (Try.prog.info? 46).bind (·.zero) = some (.slice none 0 0) := by kernel_rfl
theorem UJ : Bt Try.prog 40 [.slice none 0 0, .slice none 0 0, .int .i64 0, .int .i64 0, .int .i64 0, .int .i64 0] [(0, 1), (1, 1), (2, 1), (3, 1), (4, 1), (5, 1)] := ⟨⟨.agg #[.slice none 0 0, .slice none 0 0, .int .i64 0, .int .i64 0, .int .i64 0, .int .i64 0], by kernel_rfl, rfl⟩, ⟨_, Qn, fun w => by kernel_rfl⟩⟩
abbrev Hg : Rp (Int × Int × Int × Int) := (Rp.pair (Rp.int .i64) (Rp.pair (Rp.int .i64) (Rp.pair (Rp.int .i64) (Rp.int .i64))))
abbrev Jw : Rp (Int × Int × List Int) := (Rp.pair (Rp.int .i64) (Rp.pair (Rp.int .i64) (Rp.slice (Rp.int .i64))))
abbrev PN : Rp (Int × Int × (Value × List Int)) := (Rp.pair (Rp.int .i64) (Rp.pair (Rp.int .i64) (Rp.vsl (Rp.int .i64))))
abbrev U6 (p : Int × Int × (Value × List Int)) : Int × Int × List Int := (p.1, p.2.1, p.2.2.2)
theorem Fj : Ex Jw PN U6 := (Ex.pair Ex.rfl' (Ex.pair Ex.rfl' Ex.sliceF))
theorem T3 : Ty Try.prog 3 false 1 := ⟨by kernel_rfl, by kernel_rfl⟩
abbrev Hi (x : Int × Int) : Value := .agg #[.int .i64 x.1, .int .i64 x.2]
abbrev HV (x : Unit) : Value := .agg #[]
theorem SH : Ty Try.prog 54 true 6 := ⟨by kernel_rfl, by kernel_rfl⟩
theorem PH : Bt Try.prog 122 [.int .i64 0, .int .i64 0] [(0, 1), (1, 1)] := ⟨⟨.agg #[.int .i64 0, .int .i64 0], by kernel_rfl, rfl⟩, ⟨_, O3, fun w => by kernel_rfl⟩⟩
theorem Rz : (Try.prog.info? 122).bind (·.zero) = some (.agg #[.int .i64 0, .int .i64 0]) := by kernel_rfl
abbrev Fg : Rp (Int × Int) := (Rp.pair (Rp.int .i64) (Rp.int .i64))
def U1 (a : Int × Int) : List Value := [.int .i64 a.1, .int .i64 a.2]
theorem S5 : Fl Fg U1 := (Fl.pair Fl.int Fl.int)
theorem PY : Et Try.prog 119 122 2 16 := Et.of Sx (by kernel_rfl) (by kernel_rfl) (by kernel_rfl) (by decide)
theorem UF : Ty Try.prog 56 true 2 := ⟨by kernel_rfl, by kernel_rfl⟩
abbrev SJ  : List Value := [.int .i64 0, .int .i64 0, .int .i64 0, .int .i64 0, .int .i64 0, .int .i64 0]
abbrev U8 (a0 : Int × Int × Int × Int × Int × Int) : List Value := [.int .i64 a0.1, .int .i64 a0.2.1, .int .i64 a0.2.2.1, .int .i64 a0.2.2.2.1, .int .i64 a0.2.2.2.2.1, .int .i64 a0.2.2.2.2.2]
abbrev Vh (a0 : Nat) (a1 : Int × Int × Int × Int × Int × Int) (a2 : Nat) (a3 : Int × (List (Int × Int × Int × Int × Int × Int)) × (List (Int × Int))) (a4 : Value) (a5 : Value) : List (Nat × List Value) := [(a0, [.int .i64 a1.1, .int .i64 a1.2.1, .int .i64 a1.2.2.1, .int .i64 a1.2.2.2.1, .int .i64 a1.2.2.2.2.1, .int .i64 a1.2.2.2.2.2]), (a2, [.int .i64 a3.1, a4, a5])]
noncomputable def CK (p0 : Int × (List (Int × Int × Int × Int × Int × Int)) × (List (Int × Int))) : ((List (Int × Int)) × Int) → Option (((List (Int × Int)) × Int) ⊕ (List (Int × Int)))
  | (x2, x3) => (if x3 < (p0.2.1.length : Int) then (ix p0.2.1 x3).bind fun x4 => (FD x2 ([(x4.1, x4.2.1), (x4.2.2.1, x4.2.2.2.1)] : List (Int × Int))).bind fun x5 => some (.inl (x5, A7 (x3 + 1))) else some (.inr x2))
noncomputable def CM (p0 : Int × (List (Int × Int × Int × Int × Int × Int)) × (List (Int × Int))) : ((List (Int × Int)) × Int) → Option (((List (Int × Int)) × Int) ⊕ (List (Int × Int)))
  | (x7, x8) => (if x8 < (p0.2.2.length : Int) then (ix p0.2.2 x8).bind fun x9 => (FD x7 ([x9] : List (Int × Int))).bind fun x10 => some (.inl (x10, A7 (x8 + 1))) else some (.inr x7))
noncomputable def Ei (p0 : Int × (List (Int × Int × Int × Int × Int × Int)) × (List (Int × Int))) : Option (List (Int × Int)) := (An (CK p0) ([], 0)).bind fun x1 => (An (CM p0) (x1, 0)).bind fun x6 => some x6
theorem LQ (Y : Nat → Prop) (w0 : World) (v1 : Value) (v2 : Value) (p0 : Int × (List (Int × Int × Int × Int × Int × Int)) × (List (Int × Int))) (r : (List (Int × Int))) (H : Ei p0 = some r) (h_v1 : Sl w0 (NX []) Gn v1 p0.2.1) (h_v2 : Sl w0 (NX []) GE v2 p0.2.2) :
    Calls Try.prog 70 #[.agg #[.int .i64 p0.1, v1, v2]] w0 fun e w' => ∃ x : Value, e = .returned (x) ∧ Stw ⟨Y, [], w0⟩ [] [row (x) 122 Fg r] w' := by
 refine enter Try.func70 Aa Try.ntmps70 Aa fun a F => ?_
 have W := Stw.start Y w0
 unfold Ei at H
 refine vc tk 2 F W fun a w F W => ?_
 refine Cq (cs := [.int .i64 p0.1, v1, v2]) F W Aa Aa Aa fun b1 a w F W => ?_
 refine Cc tk 8 F W fun a w F W => ?_
 obtain ⟨o1, G1, K1⟩ := Ad H
 refine Av (fun a w => ∃ x1 : List (Int × Int), ∃ v3 : Value, some (x1) = some o1 ∧ Fr 46 [] [(1, .pointer (some ⟨b1, 0, none⟩)), (2, .slice none 0 0), (3, v3)] a ∧ Stw ⟨Y, [], w0⟩ [(b1, [.int .i64 p0.1, v1, v2])] [row v3 122 Fg x1] w) ?_ ?_
 ·
  have H := G1
  clear G1 K1
  refine Ha tk 4 [0] F W (ai fun a w F W => ?_)
  refine ls F W Aa (A0 (r := Gn) (l := p0.2.1) N9 Aa F Aa (Ab h_v1)).q fun a w F W => ?_
  refine Cc tk 4 F W fun a w F W => ?_
  have W := W.nilRow 122 Fg
  refine AP H (fun s a w => ∃ v4 : Value, Fr 46 [] [(1, .pointer (some ⟨b1, 0, none⟩)), (2, .slice none 0 0), (3, v4), (9, v1), (10, .int .i64 (p0.2.1.length : Int)), (11, .int .i64 s.2)] a ∧ Stw ⟨Y, [], w0⟩ [(b1, [.int .i64 p0.1, v1, v2])] [row v4 122 Fg s.1] w) ⟨(Value.slice none 0 0), F.ra Aa, W⟩ fun s o a w H L2 hR => ?_
  obtain ⟨x2, x3⟩ := s
  obtain ⟨v4, F, W⟩ := hR
  have F : Fr 46 [] [(1, .pointer (some ⟨b1, 0, none⟩)), (2, .slice none 0 0), (3, v4), (9, v1), (10, .int .i64 (p0.2.1.length : Int)), (11, .int .i64 x3)] a := F
  have W : Stw ⟨Y, [], w0⟩ [(b1, [.int .i64 p0.1, v1, v2])] [row v4 122 Fg x2] w := W
  rw [CK] at H
  refine vc tk 6 F W fun a w F W => ?_
  refine A3 F Aa H (fun F H => ?_) fun F H => ?_
  ·
   refine Ie tk 6 F W fun a w F W => ?_
   obtain ⟨x4, h1, H⟩ := Ad H
   refine ls F W Aa (Aw (r := Gn) Uk F Aa Aa (Ab h_v1) h1).q fun a w F W => ?_
   refine ls F W Aa (Ai (y := Value.agg #[.int .i64 x4.1, .int .i64 x4.2.1, .int .i64 x4.2.2.1, .int .i64 x4.2.2.2.1, .int .i64 x4.2.2.2.2.1, .int .i64 x4.2.2.2.2.2]) (j := 0) (i := x3) F Aa Aa (Ab h_v1) h1 T7.to SH Aa).q fun a w F W => ?_
   refine B9 (cs := (SJ)) F W Aa UM Aa fun b2 a w F W => ?_
   refine F6 0 F W Aa Aa Aa SH Aa Aa Aa fun w W => ?_
   refine JK tk 8 [0, 0] F W (ai (ai fun a w F W => ?_))
   refine ls F W Aa (B1 (v := Value.agg #[.int .i64 x4.1, .int .i64 x4.2.1]) PH F Aa Aa Aa).q fun a w F W => ?_
   refine Jl tk 4 [0, 0] F W (ai (ai fun a w F W => ?_))
   refine ls F W Aa (B1 (v := Value.agg #[.int .i64 x4.2.2.1, .int .i64 x4.2.2.2.1]) PH F Aa Aa Aa).q fun a w F W => ?_
   refine CQ (z := Value.agg #[.int .i64 0, .int .i64 0]) (cs := [.int .i64 x4.1, .int .i64 x4.2.1, .int .i64 x4.2.2.1, .int .i64 x4.2.2.2.1]) Fg ([(x4.1, x4.2.1), (x4.2.2.1, x4.2.2.2.1)] : List (Int × Int)) F W Aa PY Rz Aa Aa Aa Aa Aa Aa (S5.repL _ _ ([(x4.1, x4.2.1), (x4.2.2.1, x4.2.2.2.1)] : List (Int × Int))) fun v5 a w F W => ?_
   obtain ⟨x5, h2, H⟩ := Ad H
   refine Cp (r := Fg) (i := 1) F W Aa PY Aa Aa Aa Aa (Db W 0 Aa) h2 Aa fun v6 a w F W => ?_
   have W : Stw ⟨Y, [], w0⟩ (Vh b2 x4 b1 p0 v1 v2) [row v6 122 Fg x5, row v5 122 Fg ([(x4.1, x4.2.1), (x4.2.2.1, x4.2.2.2.1)] : List (Int × Int))] w := W
   refine vl tk 2 F W fun a w F W => ?_
   refine Aq ?_
   refine vn tk 4 F W fun a w F W => ?_
   refine Ac ?_
   have W := W.frontM (i := 1) Aa Aa
   have W := W.sub (M' := [(b1, [.int .i64 p0.1, v1, v2])]) (Z' := [row v6 122 Fg x5]) (List.Sublist.cons_cons _ (List.nil_sublist _)) (List.Sublist.cons_cons _ (List.nil_sublist _))
   exact ⟨_, H, (v6), F.ra Aa, W⟩
  refine AJ ?_
  iterate 2 refine A6 ?_
  refine AM (Ac ?_)
  have H := L2 _ H
  exact ⟨_, (v4), H, F.ra Aa, W⟩
 rintro a w ⟨x1, v3, hj, F, W⟩
 have hj := AA hj
 subst hj
 have H := K1
 clear G1 K1
 obtain ⟨o3, G3, K3⟩ := Ad H
 refine Av (fun a w => ∃ x6 : List (Int × Int), ∃ v7 : Value, some (x6) = some o3 ∧ Fr 46 [] [(2, .slice none 0 0), (3, v7)] a ∧ Stw ⟨Y, [], w0⟩ [(b1, [.int .i64 p0.1, v1, v2])] [row v7 122 Fg x6] w) ?_ ?_
 ·
  have H := G3
  clear G3 K3
  refine Ha tk 4 [0] F W (ai fun a w F W => ?_)
  refine ls F W Aa (A0 (r := GE) (l := p0.2.2) Ni Aa F Aa (Ab h_v2)).q fun a w F W => ?_
  refine Cc tk 4 F W fun a w F W => ?_
  refine AP H (fun s a w => ∃ v8 : Value, Fr 46 [] [(2, .slice none 0 0), (3, v8), (30, v2), (31, .int .i64 (p0.2.2.length : Int)), (32, .int .i64 s.2)] a ∧ Stw ⟨Y, [], w0⟩ [(b1, [.int .i64 p0.1, v1, v2])] [row v8 122 Fg s.1] w) ⟨(v3), F.ra Aa, W⟩ fun s o a w H L4 hR => ?_
  obtain ⟨x7, x8⟩ := s
  obtain ⟨v8, F, W⟩ := hR
  have F : Fr 46 [] [(2, .slice none 0 0), (3, v8), (30, v2), (31, .int .i64 (p0.2.2.length : Int)), (32, .int .i64 x8)] a := F
  have W : Stw ⟨Y, [], w0⟩ [(b1, [.int .i64 p0.1, v1, v2])] [row v8 122 Fg x7] w := W
  rw [CM] at H
  refine vc tk 6 F W fun a w F W => ?_
  refine A3 F Aa H (fun F H => ?_) fun F H => ?_
  ·
   refine Ie tk 6 F W fun a w F W => ?_
   obtain ⟨x9, h3, H⟩ := Ad H
   refine ls F W Aa (Aw (r := GE) UY F Aa Aa (Ab h_v2) h3).q fun a w F W => ?_
   refine ls F W Aa (Ai (y := Value.agg #[.int .i64 x9.1, .int .i64 x9.2]) (j := 0) (i := x8) F Aa Aa (Ab h_v2) h3 UO.to UF Aa).q fun a w F W => ?_
   refine B9 (cs := [.int .i64 0, .int .i64 0]) F W Aa VG Aa fun b3 a w F W => ?_
   refine F6 0 F W Aa Aa Aa UF Aa Aa Aa fun w W => ?_
   refine JK tk 8 [0, 0] F W (ai (ai fun a w F W => ?_))
   refine ls F W Aa (B1 (v := Value.agg #[.int .i64 x9.1, .int .i64 x9.2]) PH F Aa Aa Aa).q fun a w F W => ?_
   refine CQ (z := Value.agg #[.int .i64 0, .int .i64 0]) (cs := [.int .i64 x9.1, .int .i64 x9.2]) Fg ([x9] : List (Int × Int)) F W Aa PY Rz Aa Aa Aa Aa Aa Aa (S5.repL _ _ ([x9] : List (Int × Int))) fun v9 a w F W => ?_
   obtain ⟨x10, h4, H⟩ := Ad H
   refine Cp (r := Fg) (i := 1) F W Aa PY Aa Aa Aa Aa (Db W 0 Aa) h4 Aa fun v10 a w F W => ?_
   have W : Stw ⟨Y, [], w0⟩ [(b3, [.int .i64 x9.1, .int .i64 x9.2]), (b1, [.int .i64 p0.1, v1, v2])] [row v10 122 Fg x10, row v9 122 Fg ([x9] : List (Int × Int))] w := W
   refine vl tk 2 F W fun a w F W => ?_
   refine Aq ?_
   refine vn tk 4 F W fun a w F W => ?_
   refine Ac ?_
   have W := W.frontM (i := 1) Aa Aa
   have W := W.sub (M' := [(b1, [.int .i64 p0.1, v1, v2])]) (Z' := [row v10 122 Fg x10]) (List.Sublist.cons_cons _ (List.nil_sublist _)) (List.Sublist.cons_cons _ (List.nil_sublist _))
   exact ⟨_, H, (v10), F.ra Aa, W⟩
  refine AJ ?_
  iterate 2 refine A6 ?_
  refine AM (Ac ?_)
  have H := L4 _ H
  exact ⟨_, (v8), H, F.ra Aa, W⟩
 rintro a w ⟨x6, v7, hj, F, W⟩
 have hj := AA hj
 subst hj
 have H := K3
 clear G3 K3
 refine vc tk 6 F W fun a w F W => ?_
 refine Ao ?_
 have H := AA H
 subst H
 refine AG (.inl Aa) F W Aa (Al F Aa) ?_
 have W := W.sub (M' := []) (Z' := [row v7 122 Fg x6]) (List.nil_sublist _) (List.Sublist.refl _)
 exact ⟨(v7), Aa, W⟩
theorem Rf : type_of% Try.underlying3 := Try.underlying3
theorem T9 : type_of% Try.underlying123 := Try.underlying123
theorem VU : Has Try.prog 70 := Ct Try.func70
theorem SL : Ty Try.prog 122 true 2 := ⟨by kernel_rfl, by kernel_rfl⟩
theorem UC (dd : Nat) (x0 : Int) (x1 : Int) (y0 : Int) (y1 : Int) (w : World) : (Op.equalIn (dd + 2) 122 (.agg #[.int .i64 x0, .int .i64 x1]) (.agg #[.int .i64 y0, .int .i64 y1])).run Try.prog w = .ok (decide (x0 = y0 ∧ x1 = y1)) w :=
  J4 (d := dd + 1) (rs := [decide (x0 = y0), decide (x1 = y1)]) O3 (by kernel_rfl) ⟨rfl, HR (d := dd + 0) rfl rfl Rf T3 rfl rfl, rfl, HR (d := dd + 0) rfl rfl Rf T3 rfl rfl, trivial⟩ (by simp) w
theorem TL : Try.prog.eqGuardType Try.prog.depth 122 = false := by kernel_rfl
theorem SZ (x0 : Int) (x1 : Int) (y0 : Int) (y1 : Int) (w : World) : (Op.equalIn 10000 122 (.agg #[.int .i64 x0, .int .i64 x1]) (.agg #[.int .i64 y0, .int .i64 y1])).run Try.prog w = .ok (decide (x0 = y0 ∧ x1 = y1)) w := UC 9998 x0 x1 y0 y1 w
theorem So : KeyEnc Try.prog 122 Hi := ⟨⟨_, O3, .inl fun _ _ => rfl⟩, fun x y w => (SZ x.1 x.2 y.1 y.2 w).trans (by congr 1; exact decide_eq_decide.2 (by simp only [Prod.ext_iff])), fun b x w => KD (m := 9999) (cs := List.toArray [.int .i64 x.1, .int .i64 x.2]) O3 ⟨⟨_, Nv T3 rfl, HQ (m := 9998) Rf⟩, ⟨_, Nv T3 rfl, HQ (m := 9998) Rf⟩, trivial⟩ b w, fun x => by simp [Instr.sameBits]⟩
theorem Uq : (Try.prog.info? 123).bind (·.zero) = some (.agg #[]) := by kernel_rfl
theorem Vm : Ty Try.prog 123 true 0 := ⟨by kernel_rfl, by kernel_rfl⟩
theorem UW : Bt Try.prog 123 [] [] := ⟨⟨.agg #[], by kernel_rfl, rfl⟩, ⟨_, T9, fun w => by kernel_rfl⟩⟩
def Bm (p0 : Int × Int × Int × Int × Int × Int) : Bool := (decide (p0.1 = p0.2.2.1) || (decide (p0.2.2.2.2.1 < 1) || (decide (p0.2.2.2.2.2 < p0.2.2.2.2.1) || decide (1000 < p0.2.2.2.2.2))))
theorem J0 (Y : Nat → Prop) (w0 : World)  (p0 : Int × Int × Int × Int × Int × Int) (r : Bool) (H : Bm p0 = r)  :
    Calls Try.prog 72 #[.agg #[.int .i64 p0.1, .int .i64 p0.2.1, .int .i64 p0.2.2.1, .int .i64 p0.2.2.2.1, .int .i64 p0.2.2.2.2.1, .int .i64 p0.2.2.2.2.2]] w0 fun e w' => e = .returned (.bool r) ∧ Below w0.heap.size w0 w' := by
 refine enter Try.func72 Aa Try.ntmps72 Aa fun a F => ?_
 have W := Stw.start Y w0
 unfold Bm at H
 refine vc tk 2 F W fun a w F W => ?_
 refine Cq (cs := (U8 p0)) F W Aa Aa Aa fun b1 a w F W => ?_
 refine Cc tk 3 F W fun a w F W => ?_
 refine Av (fun a w => Fr 25 [] [(2, .bool (decide (p0.1 = p0.2.2.1) || (decide (p0.2.2.2.2.1 < 1) || (decide (p0.2.2.2.2.2 < p0.2.2.2.2.1) || decide (1000 < p0.2.2.2.2.2)))))] a ∧ Stw ⟨Y, [], w0⟩ [(b1, [.int .i64 p0.1, .int .i64 p0.2.1, .int .i64 p0.2.2.1, .int .i64 p0.2.2.2.1, .int .i64 p0.2.2.2.2.1, .int .i64 p0.2.2.2.2.2])] [] w) ?_ ?_
 ·
  refine Ha tk 7 [0, 0] F W (ai (ai fun a w F W => ?_))
  rcases Bool.eq_false_or_eq_true (decide (p0.1 = p0.2.2.1)) with hb0 | hb0
  ·
   rw [hb0] at F
   refine vl tk 18 F W fun a w F W => ?_
   refine Ac ?_
   exact ⟨F.re ⟨(JW (by try rw [hb0]; all_goals simp only [Ka])), trivial⟩, W⟩
  rw [hb0] at F
  refine Jl tk 5 [0] F W (ai fun a w F W => ?_)
  rcases Bool.eq_false_or_eq_true (decide (p0.2.2.2.2.1 < 1)) with hb1 | hb1
  ·
   rw [hb1] at F
   refine vl tk 13 F W fun a w F W => ?_
   refine Ac ?_
   exact ⟨F.re ⟨(JW (by try rw [hb1]; try rw [hb0]; all_goals simp only [Ka])), trivial⟩, W⟩
  rw [hb1] at F
  refine Jl tk 7 [0, 0] F W (ai (ai fun a w F W => ?_))
  rcases Bool.eq_false_or_eq_true (decide (p0.2.2.2.2.2 < p0.2.2.2.2.1)) with hb2 | hb2
  ·
   rw [hb2] at F
   refine vl tk 6 F W fun a w F W => ?_
   refine Ac ?_
   exact ⟨F.re ⟨(JW (by try rw [hb2]; try rw [hb1]; try rw [hb0]; all_goals simp only [Ka])), trivial⟩, W⟩
  rw [hb2] at F
  refine Jl tk 6 [0] F W (ai fun a w F W => ?_)
  refine Ac ?_
  exact ⟨F.re ⟨(JW (by try rw [hb2]; try rw [hb1]; try rw [hb0]; all_goals simp only [Ka])), trivial⟩, W⟩
 rintro a w ⟨F, W⟩
 refine Ao ?_
 subst H
 refine AG (.inl Aa) F W Aa (Al F Aa) ?_
 exact ⟨rfl, W.done⟩
theorem Wl : Has Try.prog 72 := Ct Try.func72
noncomputable def Ap (p0 : List (Int × Int × Int × Int × Int × Int)) : Int → Option (Int ⊕ (Unit ⊕ Int))
  | x1 => (if x1 < (p0.length : Int) then (ix p0 x1).bind fun x2 => (if (Bm x2) = true then some (.inr (.inr x1)) else some (.inl (A7 (x1 + 1)))) else some (.inr (.inl ())))
noncomputable def AY (p0 : List (Int × Int × Int × Int × Int × Int)) : Option Int := EZ (An (Ap p0) 0) fun _ => some (-1)
theorem EE (Y : Nat → Prop) (w0 : World) (v1 : Value) (p0 : List (Int × Int × Int × Int × Int × Int)) (r : Int) (H : AY p0 = some r) (h_v1 : Sl w0 (NX []) Gn v1 p0) :
    Calls Try.prog 87 #[v1, .func (.func 72) #[] #[]] w0 fun e w' => e = .returned (.int .i64 r) ∧ Below w0.heap.size w0 w' := by
 refine enter Try.func87 Aa Try.ntmps87 Aa fun a F => ?_
 have W := Stw.start Y w0
 unfold AY at H
 refine vc tk 5 F W fun a w F W => ?_
 obtain ⟨o1, G1, K1, L1⟩ := L9 H
 refine Av (fun a w => some (Sum.inl ()) = some o1 ∧ Fr 19 [] [(4, .int .i64 0)] a ∧ Stw ⟨Y, [], w0⟩ [] [] w) ?_ ?_
 ·
  have H := G1
  clear G1 K1
  refine vc tk 3 F W fun a w F W => ?_
  refine ls F W Aa (A0 (r := Gn) (l := p0) N9 Aa F Aa (Ab h_v1)).q fun a w F W => ?_
  refine Cc tk 4 F W fun a w F W => ?_
  refine AP H (fun s a w => Fr 19 [] [(0, v1), (1, .func (.func 72) #[] #[]), (4, .int .i64 0), (7, .int .i64 (p0.length : Int)), (8, .int .i64 s)] a ∧ Stw ⟨Y, [], w0⟩ [] [] w) ⟨F.ra Aa, W⟩ fun s o a w H L2 hR => ?_
  obtain ⟨x1, rfl⟩ : ∃ x, x = s := ⟨s, rfl⟩
  obtain ⟨F, W⟩ := hR
  have F : Fr 19 [] [(0, v1), (1, .func (.func 72) #[] #[]), (4, .int .i64 0), (7, .int .i64 (p0.length : Int)), (8, .int .i64 x1)] a := F
  have W : Stw ⟨Y, [], w0⟩ [] [] w := W
  rw [Ap] at H
  refine vc tk 6 F W fun a w F W => ?_
  refine A3 F Aa H (fun F H => ?_) fun F H => ?_
  ·
   refine Ie tk 15 F W fun a w F W => ?_
   obtain ⟨x2, h1, H⟩ := Ad H
   refine ls F W Aa (Aw (r := Gn) Uk F Aa Aa (Ab h_v1) h1).q fun a w F W => ?_
   refine ls F W Aa (Ai (y := Value.agg #[.int .i64 x2.1, .int .i64 x2.2.1, .int .i64 x2.2.2.1, .int .i64 x2.2.2.2.1, .int .i64 x2.2.2.2.2.1, .int .i64 x2.2.2.2.2.2]) (j := 0) (i := x1) F Aa Aa (Ab h_v1) h1 T7.to SH Aa).q fun a w F W => ?_
   refine ls F W Aa (MI (ws := [.agg #[.int .i64 x2.1, .int .i64 x2.2.1, .int .i64 x2.2.2.1, .int .i64 x2.2.2.2.1, .int .i64 x2.2.2.2.2.1, .int .i64 x2.2.2.2.2.2]]) (v := Value.bool (Bm x2)) F Wl Aa (fun w W => J0 any w x2 _ Aa)) fun a w F W => ?_
   refine Cc tk 2 F W fun a w F W => ?_
   refine D8 F Aa H (fun F H => ?_) fun F H => ?_
   ·
    refine vc tk 6 F W fun a w F W => ?_
    refine Ao (AR ?_)
    iterate 2 refine AN ?_
    refine AR (AN ?_)
    have H := L2 _ H
    have H := L1 _ H
    have H := AA H
    subst H
    refine AG (.inl Aa) F W Aa (Al F Aa) ?_
    exact ⟨rfl, W.done⟩
   refine AD (Aq ?_)
   refine vn tk 4 F W fun a w F W => ?_
   refine Ac ?_
   exact ⟨_, H, F.ra Aa, W⟩
  refine AJ ?_
  iterate 2 refine A6 ?_
  refine AM (Ac ?_)
  have H := L2 _ H
  exact ⟨H, F.ra Aa, W⟩
 rintro a w ⟨hj, F, W⟩
 have H := K1 _ hj
 clear hj G1 K1 L1
 refine vc tk 5 F W fun a w F W => ?_
 refine Ao ?_
 have H := AA H
 subst H
 refine AG (.inl Aa) F W Aa (Al F Aa) ?_
 exact ⟨rfl, W.done⟩
theorem WM : Has Try.prog 87 := Ct Try.func87
noncomputable def AE (p0 : List (Int × Int × Int × Int × Int × Int)) : Option Bool := (AY p0).bind fun x1 => some (decide (0 ≤ x1))
theorem D9 (Y : Nat → Prop) (w0 : World) (v1 : Value) (p0 : List (Int × Int × Int × Int × Int × Int)) (r : Bool) (H : AE p0 = some r) (h_v1 : Sl w0 (NX []) Gn v1 p0) :
    Calls Try.prog 71 #[v1, .func (.func 72) #[] #[]] w0 fun e w' => e = .returned (.bool r) ∧ Below w0.heap.size w0 w' := by
 refine enter Try.func71 Aa Try.ntmps71 Aa fun a F => ?_
 have W := Stw.start Y w0
 unfold AE at H
 refine vc tk 9 F W fun a w F W => ?_
 obtain ⟨x1, h1, H⟩ := Ad H
 refine ls F W Aa (AW (v := Value.int .i64 x1) F WM Aa (fun w W => EE any w (v1) p0 _ h1 (CW (Ab h_v1) W))) fun a w F W => ?_
 refine Cc tk 4 F W fun a w F W => ?_
 refine Ao ?_
 have H := AA H
 subst H
 refine AG (.inl Aa) F W Aa (Al F Aa) ?_
 exact ⟨rfl, W.done⟩
theorem Sw : type_of% Try.underlying118 := Try.underlying118
theorem Wu : Has Try.prog 71 := Ct Try.func71
noncomputable def Ce (p0 : Int × (List (Int × Int × Int × Int × Int × Int)) × (List (Int × Int))) (x2 : (List (Int × Int))) : (Int × (List ((Int × Int) × Unit))) → Option ((Int × (List ((Int × Int) × Unit))) ⊕ ((List ((Int × Int) × Unit)) ⊕ Bool))
  | (x3, x4) => (if x3 < (x2.length : Int) then (ix x2 x3).bind fun x5 => (if (decide (x5.1 < 0) || (decide (p0.1 ≤ x5.1) || (decide (x5.2 < 0) || decide (8 ≤ x5.2)))) = true then some (.inr (.inr false)) else (if ((Ke x4 x5).isSome) = true then some (.inr (.inr false)) else some (.inl (A7 (x3 + 1), Kg x4 x5 ())))) else some (.inr (.inl x4)))
noncomputable def EU (p0 : Int × (List (Int × Int × Int × Int × Int × Int)) × (List (Int × Int))) : Option Bool := (if (decide (p0.1 < 1) || (decide (8 < p0.1) || (decide (24 < (p0.2.1.length : Int)) || decide (8 < (p0.2.2.length : Int))))) = true then some false else EZ ((Ei p0).bind fun x2 => An (Ce p0 x2) (0, ([] : List ((Int × Int) × Unit)))) fun x1 => (AE p0.2.1).bind fun x6 => some (!x6))
theorem MX (Y : Nat → Prop) (w0 : World) (v1 : Value) (v2 : Value) (p0 : Int × (List (Int × Int × Int × Int × Int × Int)) × (List (Int × Int))) (r : Bool) (H : EU p0 = some r) (h_v1 : Sl w0 (NX []) Gn v1 p0.2.1) (h_v2 : Sl w0 (NX []) GE v2 p0.2.2) :
    Calls Try.prog 50 #[.agg #[.int .i64 p0.1, v1, v2]] w0 fun e w' => e = .returned (.bool r) ∧ Below w0.heap.size w0 w' := by
 refine enter Try.func50 Aa Try.ntmps50 Aa fun a F => ?_
 have W := Stw.start Y w0
 unfold EU at H
 refine vc tk 2 F W fun a w F W => ?_
 refine Cq (cs := [.int .i64 p0.1, v1, v2]) F W Aa Aa Aa fun b1 a w F W => ?_
 refine Cc tk 4 F W fun a w F W => ?_
 refine Av (fun a w => Fr 71 [] [(1, .pointer (some ⟨b1, 0, none⟩)), (2, .bool false), (27, .bool (decide (p0.1 < 1) || (decide (8 < p0.1) || (decide (24 < (p0.2.1.length : Int)) || decide (8 < (p0.2.2.length : Int))))))] a ∧ Stw ⟨Y, [], w0⟩ [(b1, [.int .i64 p0.1, v1, v2])] [] w) ?_ ?_
 ·
  refine Ha tk 5 [0] F W (ai fun a w F W => ?_)
  rcases Bool.eq_false_or_eq_true (decide (p0.1 < 1)) with hb0 | hb0
  ·
   rw [hb0] at F
   refine vl tk 17 F W fun a w F W => ?_
   refine Ac ?_
   exact ⟨F.re ⟨rfl, Aa, (JW (by try rw [hb0]; all_goals simp only [Ka])), trivial⟩, W⟩
  rw [hb0] at F
  refine Jl tk 5 [0] F W (ai fun a w F W => ?_)
  rcases Bool.eq_false_or_eq_true (decide (8 < p0.1)) with hb1 | hb1
  ·
   rw [hb1] at F
   refine vl tk 12 F W fun a w F W => ?_
   refine Ac ?_
   exact ⟨F.re ⟨rfl, Aa, (JW (by try rw [hb0]; try rw [hb1]; all_goals simp only [Ka])), trivial⟩, W⟩
  rw [hb1] at F
  refine Jl tk 2 [0] F W (ai fun a w F W => ?_)
  refine E2 F W (Ae F Aa Aa Aa Aa) Aa (AC Aa) (A0 (r := Gn) (l := p0.2.1) N9 Aa F Aa (Ab h_v1)).q fun a w F W => ?_
  refine vl tk 3 F W fun a w F W => ?_
  rcases Bool.eq_false_or_eq_true (decide (24 < (p0.2.1.length : Int))) with hb2 | hb2
  ·
   rw [hb2] at F
   refine vl tk 6 F W fun a w F W => ?_
   refine Ac ?_
   exact ⟨F.re ⟨rfl, Aa, (JW (by try rw [hb2]; try rw [hb0]; try rw [hb1]; all_goals simp only [Ka])), trivial⟩, W⟩
  rw [hb2] at F
  refine Jl tk 2 [0] F W (ai fun a w F W => ?_)
  refine E2 F W (Ae F Aa Aa Aa Aa) Aa (AC Aa) (A0 (r := GE) (l := p0.2.2) Ni Aa F Aa (Ab h_v2)).q fun a w F W => ?_
  refine vl tk 3 F W fun a w F W => ?_
  refine Ac ?_
  exact ⟨F.re ⟨rfl, Aa, (JW (by try rw [hb2]; try rw [hb0]; try rw [hb1]; all_goals simp only [Ka])), trivial⟩, W⟩
 rintro a w ⟨F, W⟩
 refine D8 F Aa H (fun F H => ?_) fun F H => ?_
 ·
  refine vc tk 5 F W fun a w F W => ?_
  refine Ao (AN ?_)
  have H := AA H
  subst H
  refine AG (.inl Aa) F W Aa (Al F Aa) ?_
  exact ⟨rfl, W.done⟩
 refine Ie tk 4 F W fun a w F W => ?_
 refine Pl Hi HV F W Aa fun b2 a w F W => ?_
 have W : Stw ⟨Y, [], w0⟩ [(b1, [.int .i64 p0.1, v1, v2])] [mp b2 Hi HV ([] : List ((Int × Int) × Unit))] w := W
 refine vl tk 2 F W fun a w F W => ?_
 refine Ac ?_
 obtain ⟨o1, G1, K1, L1⟩ := L9 H
 refine Av (fun a w => ∃ x1 : List ((Int × Int) × Unit), some (Sum.inl x1) = some o1 ∧ Fr 71 [] [(1, .pointer (some ⟨b1, 0, none⟩)), (2, .bool false)] a ∧ Stw ⟨Y, [], w0⟩ [(b1, [.int .i64 p0.1, v1, v2])] [mp b2 Hi HV x1] w) ?_ ?_
 ·
  have H := G1
  clear G1 K1
  refine Ha tk 3 [0] F W (ai fun a w F W => ?_)
  obtain ⟨x2, h1, H⟩ := Ad H
  refine CJ (Ml := []) (Zl := []) (β := Value) (rv := fun x => x) (MM := fun x => []) (ZZ := fun x => [row x 122 Fg x2]) F W VU Aa Aa (fun hL => LQ _ w (v1) (v2) p0 _ h1 ((Ab h_v1) w W).nx ((Ab h_v2) w W).nx) fun x a w F W => ?_
  obtain ⟨v3, rfl⟩ : ∃ y, y = x := ⟨x, rfl⟩
  have W : Stw ⟨Y, [], w0⟩ [(b1, [.int .i64 p0.1, v1, v2])] [row v3 122 Fg x2, mp b2 Hi HV ([] : List ((Int × Int) × Unit))] w := W
  refine ls F W Aa (A0 (r := Fg) (l := x2) Sx Aa F Aa (CY 0 Aa)).q fun a w F W => ?_
  refine Cc tk 4 F W fun a w F W => ?_
  have W := W.frontZ (i := 1) Aa Aa
  have W := W.frontZ (i := 1) Aa Aa
  refine AP H (fun s a w => Fr 71 [] [(1, .pointer (some ⟨b1, 0, none⟩)), (2, .bool false), (3, .map (some b2)), (30, v3), (31, .int .i64 (x2.length : Int)), (32, .int .i64 s.1)] a ∧ Stw ⟨Y, [], w0⟩ [(b1, [.int .i64 p0.1, v1, v2])] [row v3 122 Fg x2, mp b2 Hi HV s.2] w) ⟨F.ra Aa, W⟩ fun s o a w H L2 hR => ?_
  obtain ⟨x3, x4⟩ := s
  obtain ⟨F, W⟩ := hR
  have F : Fr 71 [] [(1, .pointer (some ⟨b1, 0, none⟩)), (2, .bool false), (3, .map (some b2)), (30, v3), (31, .int .i64 (x2.length : Int)), (32, .int .i64 x3)] a := F
  have W : Stw ⟨Y, [], w0⟩ [(b1, [.int .i64 p0.1, v1, v2])] [row v3 122 Fg x2, mp b2 Hi HV x4] w := W
  rw [Ce] at H
  refine vc tk 6 F W fun a w F W => ?_
  refine A3 F Aa H (fun F H => ?_) fun F H => ?_
  ·
   refine Ie tk 6 F W fun a w F W => ?_
   obtain ⟨x5, h2, H⟩ := Ad H
   refine ls F W Aa (Aw (r := Fg) PY F Aa Aa (CY 0 Aa) h2).q fun a w F W => ?_
   refine ls F W Aa (Ai (y := Value.agg #[.int .i64 x5.1, .int .i64 x5.2]) (j := 0) (i := x3) F Aa Aa (CY 0 Aa) h2 S5.to SL Aa).q fun a w F W => ?_
   refine B9 (cs := [.int .i64 0, .int .i64 0]) F W Aa Rz Aa fun b3 a w F W => ?_
   refine F6 0 F W Aa Aa Aa SL Aa Aa Aa fun w W => ?_
   refine Cc tk 3 F W fun a w F W => ?_
   refine Av (fun a w => Fr 71 [] [(1, .pointer (some ⟨b1, 0, none⟩)), (2, .bool false), (3, .map (some b2)), (5, .pointer (some ⟨b3, 0, none⟩)), (30, v3), (31, .int .i64 (x2.length : Int)), (32, .int .i64 x3), (55, .bool (decide (x5.1 < 0) || (decide (p0.1 ≤ x5.1) || (decide (x5.2 < 0) || decide (8 ≤ x5.2)))))] a ∧ Stw ⟨Y, [], w0⟩ [(b3, [.int .i64 x5.1, .int .i64 x5.2]), (b1, [.int .i64 p0.1, v1, v2])] [row v3 122 Fg x2, mp b2 Hi HV x4] w) ?_ ?_
   ·
    refine Ha tk 5 [0] F W (ai fun a w F W => ?_)
    rcases Bool.eq_false_or_eq_true (decide (x5.1 < 0)) with hb0 | hb0
    ·
     rw [hb0] at F
     refine vl tk 17 F W fun a w F W => ?_
     refine Ac ?_
     exact ⟨F.re ⟨rfl, Aa, Aa, Aa, Aa, Aa, Aa, (JW (by try rw [hb0]; all_goals simp only [Ka])), trivial⟩, W⟩
    rw [hb0] at F
    refine Jl tk 7 [0, 1] F W (ai (ai fun a w F W => ?_))
    rcases Bool.eq_false_or_eq_true (decide (p0.1 ≤ x5.1)) with hb1 | hb1
    ·
     rw [hb1] at F
     refine vl tk 10 F W fun a w F W => ?_
     refine Ac ?_
     exact ⟨F.re ⟨rfl, Aa, Aa, Aa, Aa, Aa, Aa, (JW (by try rw [hb1]; try rw [hb0]; all_goals simp only [Ka])), trivial⟩, W⟩
    rw [hb1] at F
    refine Jl tk 5 [0] F W (ai fun a w F W => ?_)
    rcases Bool.eq_false_or_eq_true (decide (x5.2 < 0)) with hb2 | hb2
    ·
     rw [hb2] at F
     refine vl tk 5 F W fun a w F W => ?_
     refine Ac ?_
     exact ⟨F.re ⟨rfl, Aa, Aa, Aa, Aa, Aa, Aa, (JW (by try rw [hb1]; try rw [hb0]; try rw [hb2]; all_goals simp only [Ka])), trivial⟩, W⟩
    rw [hb2] at F
    refine Jl tk 5 [0] F W (ai fun a w F W => ?_)
    refine Ac ?_
    exact ⟨F.re ⟨rfl, Aa, Aa, Aa, Aa, Aa, Aa, (JW (by try rw [hb1]; try rw [hb0]; try rw [hb2]; all_goals simp only [Ka])), trivial⟩, W⟩
   rintro a w ⟨F, W⟩
   refine D8 F Aa H (fun F H => ?_) fun F H => ?_
   ·
    refine vc tk 5 F W fun a w F W => ?_
    refine Ao (AN (AR ?_))
    iterate 2 refine AN ?_
    refine AR (AN ?_)
    have H := L2 _ H
    have H := L1 _ H
    have H := AA H
    subst H
    refine AG (.inl Aa) F W Aa (Al F Aa) ?_
    exact ⟨rfl, W.done⟩
   refine MY tk 7 [0] F W (ai fun a w F W => ?_)
   refine ls F W Aa (Py (zv := (() : Unit)) (kx := (x5 : Int × Int)) (q := 1) (E := Hi) (V := HV) F Aa Aa Aa So Sw Uq).q fun a w F W => ?_
   refine ls F W Aa (Am F Aa).q fun a w F W => ?_
   refine ls F W Aa (CC (v := Value.agg #[]) F Aa Aa).q fun a w F W => ?_
   refine ls F W Aa (CC (v := Value.bool ((Ke x4 x5).isSome)) F Aa Aa).q fun a w F W => ?_
   refine B9 (cs := []) F W Aa Uq Aa fun b4 a w F W => ?_
   refine F6 0 F W Aa Aa Aa Vm Aa Aa Aa fun w W => ?_
   refine Cc tk 8 F W fun a w F W => ?_
   refine GZ F Aa (fun hb => ?_) fun hb => ?_
   ·
    have H := Di hb H
    rw [hb] at F
    clear hb
    refine vc tk 5 F W fun a w F W => ?_
    refine Ao (AN (AR ?_))
    iterate 2 refine AN ?_
    refine AR (AN ?_)
    have H := L2 _ H
    have H := L1 _ H
    have H := AA H
    subst H
    refine AG (.inl Aa) F W Aa (Al F Aa) ?_
    exact ⟨rfl, W.done⟩
   have H := Dg (by rw [hb]; decide) H
   rw [hb] at F
   clear hb
   refine MY tk 5 [1] F W (ai fun a w F W => ?_)
   refine ls F W Aa (B1 (v := Value.agg #[]) UW F Aa Aa Aa).q fun a w F W => ?_
   refine Qh (q := 1) (kx := (x5 : Int × Int)) (vx := (() : Unit)) (E := Hi) (V := HV) F W Aa Aa Aa Aa Aa So Sw fun w W => ?_
   have W : Stw ⟨Y, [], w0⟩ [(b4, []), (b3, [.int .i64 x5.1, .int .i64 x5.2]), (b1, [.int .i64 p0.1, v1, v2])] [mp b2 Hi HV (Kg x4 x5 ()), row v3 122 Fg x2] w := W
   refine EF (Aq ?_)
   refine vn tk 4 F W fun a w F W => ?_
   refine Ac ?_
   have W := W.frontZ (i := 1) Aa Aa
   have W := W.frontM (i := 2) Aa Aa
   have W := W.sub (M' := [(b1, [.int .i64 p0.1, v1, v2])]) (Z' := [row v3 122 Fg x2, mp b2 Hi HV (Kg x4 x5 ())]) (List.Sublist.cons_cons _ (List.nil_sublist _)) (List.Sublist.refl _)
   exact ⟨_, H, F.ra Aa, W⟩
  refine AJ ?_
  iterate 2 refine A6 ?_
  refine AM (Ac ?_)
  have W := W.frontZ (i := 1) Aa Aa
  have W := W.sub (M' := [(b1, [.int .i64 p0.1, v1, v2])]) (Z' := [mp b2 Hi HV x4]) (List.Sublist.refl _) (List.Sublist.cons_cons _ (List.nil_sublist _))
  have H := L2 _ H
  exact ⟨_, H, F.ra Aa, W⟩
 rintro a w ⟨x1, hj, F, W⟩
 have H := K1 _ hj
 clear hj G1 K1 L1
 refine Ha tk 4 [0] F W (ai fun a w F W => ?_)
 obtain ⟨x6, h3, H⟩ := Ad H
 refine ls F W Aa (AW (v := Value.bool x6) F Wu Aa (fun w W => D9 any w (v1) p0.2.1 _ h3 (CW (Ab h_v1) W))) fun a w F W => ?_
 refine Cc tk 4 F W fun a w F W => ?_
 refine Ao ?_
 have H := AA H
 subst H
 refine AG (.inl Aa) F W Aa (Al F Aa) ?_
 exact ⟨rfl, W.done⟩
theorem WB : Has Try.prog 50 := Ct Try.func50
def CA (p0 : Int) : Bool := (decide (p0 < 0) || decide (8 ≤ p0))
theorem Jq (Y : Nat → Prop) (w0 : World)  (p0 : Int) (r : Bool) (H : CA p0 = r)  :
    Calls Try.prog 52 #[.int .i64 p0] w0 fun e w' => e = .returned (.bool r) ∧ Below w0.heap.size w0 w' := by
 refine enter Try.func52 Aa Try.ntmps52 Aa fun a F => ?_
 have W := Stw.start Y w0
 unfold CA at H
 refine vc tk 5 F W fun a w F W => ?_
 refine Av (fun a w => Fr 9 [] [(2, .bool (decide (p0 < 0) || decide (8 ≤ p0)))] a ∧ Stw ⟨Y, [], w0⟩ [] [] w) ?_ ?_
 ·
  refine vc tk 4 F W fun a w F W => ?_
  rcases Bool.eq_false_or_eq_true (decide (p0 < 0)) with hb0 | hb0
  ·
   rw [hb0] at F
   refine vl tk 5 F W fun a w F W => ?_
   refine Ac ?_
   exact ⟨F.re ⟨(JW (by try rw [hb0]; all_goals simp only [Ka])), trivial⟩, W⟩
  rw [hb0] at F
  refine vl tk 5 F W fun a w F W => ?_
  refine Ac ?_
  exact ⟨F.re ⟨(JW (by try rw [hb0]; all_goals simp only [Ka])), trivial⟩, W⟩
 rintro a w ⟨F, W⟩
 refine Ao ?_
 subst H
 refine AG (.inl Aa) F W Aa (Al F Aa) ?_
 exact ⟨rfl, W.done⟩
theorem VY : Has Try.prog 52 := Ct Try.func52
noncomputable def AH (p0 : List Int) : Int → Option (Int ⊕ (Unit ⊕ Int))
  | x1 => (if x1 < (p0.length : Int) then (ix p0 x1).bind fun x2 => (if (CA x2) = true then some (.inr (.inr x1)) else some (.inl (A7 (x1 + 1)))) else some (.inr (.inl ())))
noncomputable def BT (p0 : List Int) : Option Int := EZ (An (AH p0) 0) fun _ => some (-1)
theorem Gg (Y : Nat → Prop) (w0 : World) (v1 : Value) (p0 : List Int) (r : Int) (H : BT p0 = some r) (h_v1 : Sl w0 (NX []) (Rp.int .i64) v1 p0) :
    Calls Try.prog 73 #[v1, .func (.func 52) #[] #[]] w0 fun e w' => e = .returned (.int .i64 r) ∧ Below w0.heap.size w0 w' := by
 refine enter Try.func73 Aa Try.ntmps73 Aa fun a F => ?_
 have W := Stw.start Y w0
 unfold BT at H
 refine vc tk 5 F W fun a w F W => ?_
 obtain ⟨o1, G1, K1, L1⟩ := L9 H
 refine Av (fun a w => some (Sum.inl ()) = some o1 ∧ Fr 19 [] [(4, .int .i64 0)] a ∧ Stw ⟨Y, [], w0⟩ [] [] w) ?_ ?_
 ·
  have H := G1
  clear G1 K1
  refine vc tk 3 F W fun a w F W => ?_
  refine ls F W Aa (A0 (r := (Rp.int .i64)) (l := p0) GS Aa F Aa (Ab h_v1)).q fun a w F W => ?_
  refine Cc tk 4 F W fun a w F W => ?_
  refine AP H (fun s a w => Fr 19 [] [(0, v1), (1, .func (.func 52) #[] #[]), (4, .int .i64 0), (7, .int .i64 (p0.length : Int)), (8, .int .i64 s)] a ∧ Stw ⟨Y, [], w0⟩ [] [] w) ⟨F.ra Aa, W⟩ fun s o a w H L2 hR => ?_
  obtain ⟨x1, rfl⟩ : ∃ x, x = s := ⟨s, rfl⟩
  obtain ⟨F, W⟩ := hR
  have F : Fr 19 [] [(0, v1), (1, .func (.func 52) #[] #[]), (4, .int .i64 0), (7, .int .i64 (p0.length : Int)), (8, .int .i64 x1)] a := F
  have W : Stw ⟨Y, [], w0⟩ [] [] w := W
  rw [AH] at H
  refine vc tk 6 F W fun a w F W => ?_
  refine A3 F Aa H (fun F H => ?_) fun F H => ?_
  ·
   refine Ie tk 15 F W fun a w F W => ?_
   obtain ⟨x2, h1, H⟩ := Ad H
   refine ls F W Aa (Aw (r := (Rp.int .i64)) HT F Aa Aa (Ab h_v1) h1).q fun a w F W => ?_
   refine ls F W Aa (Ai (y := Value.int .i64 x2) (j := 0) (i := x1) F Aa Aa (Ab h_v1) h1 Fl.int.to T3 Aa).q fun a w F W => ?_
   refine ls F W Aa (MI (ws := [.int .i64 x2]) (v := Value.bool (CA x2)) F VY Aa (fun w W => Jq any w x2 _ Aa)) fun a w F W => ?_
   refine Cc tk 2 F W fun a w F W => ?_
   refine D8 F Aa H (fun F H => ?_) fun F H => ?_
   ·
    refine vc tk 6 F W fun a w F W => ?_
    refine Ao (AR ?_)
    iterate 2 refine AN ?_
    refine AR (AN ?_)
    have H := L2 _ H
    have H := L1 _ H
    have H := AA H
    subst H
    refine AG (.inl Aa) F W Aa (Al F Aa) ?_
    exact ⟨rfl, W.done⟩
   refine AD (Aq ?_)
   refine vn tk 4 F W fun a w F W => ?_
   refine Ac ?_
   exact ⟨_, H, F.ra Aa, W⟩
  refine AJ ?_
  iterate 2 refine A6 ?_
  refine AM (Ac ?_)
  have H := L2 _ H
  exact ⟨H, F.ra Aa, W⟩
 rintro a w ⟨hj, F, W⟩
 have H := K1 _ hj
 clear hj G1 K1 L1
 refine vc tk 5 F W fun a w F W => ?_
 refine Ao ?_
 have H := AA H
 subst H
 refine AG (.inl Aa) F W Aa (Al F Aa) ?_
 exact ⟨rfl, W.done⟩
theorem WE : Has Try.prog 73 := Ct Try.func73
noncomputable def Ba (p0 : List Int) : Option Bool := (BT p0).bind fun x1 => some (decide (0 ≤ x1))
theorem FH (Y : Nat → Prop) (w0 : World) (v1 : Value) (p0 : List Int) (r : Bool) (H : Ba p0 = some r) (h_v1 : Sl w0 (NX []) (Rp.int .i64) v1 p0) :
    Calls Try.prog 51 #[v1, .func (.func 52) #[] #[]] w0 fun e w' => e = .returned (.bool r) ∧ Below w0.heap.size w0 w' := by
 refine enter Try.func51 Aa Try.ntmps51 Aa fun a F => ?_
 have W := Stw.start Y w0
 unfold Ba at H
 refine vc tk 9 F W fun a w F W => ?_
 obtain ⟨x1, h1, H⟩ := Ad H
 refine ls F W Aa (AW (v := Value.int .i64 x1) F WE Aa (fun w W => Gg any w (v1) p0 _ h1 (CW (Ab h_v1) W))) fun a w F W => ?_
 refine Cc tk 4 F W fun a w F W => ?_
 refine Ao ?_
 have H := AA H
 subst H
 refine AG (.inl Aa) F W Aa (Al F Aa) ?_
 exact ⟨rfl, W.done⟩
theorem WI : Has Try.prog 51 := Ct Try.func51
noncomputable def C3 (p0 : Int × (List (Int × Int × Int × Int × Int × Int)) × (List (Int × Int))) (p1 : List (List Int)) : Int → Option (Int ⊕ (Unit ⊕ Bool))
  | x3 => (if x3 < (p1.length : Int) then (ix p1 x3).bind fun x4 => (if (x4.length : Int) ≠ (p0.2.2.length : Int) then some true else (Ba x4).bind fun x6 => some x6).bind fun x5 => (if x5 = true then some (.inr (.inr false)) else some (.inl (A7 (x3 + 1)))) else some (.inr (.inl ())))
noncomputable def Eu (p0 : Int × (List (Int × Int × Int × Int × Int × Int)) × (List (Int × Int))) (p1 : List (List Int)) : Option Bool := ((EU p0).bind fun x2 => (if (!x2) = true then some true else some (decide ((p1.length : Int) ≠ p0.1)))).bind fun x1 => (if x1 = true then some false else EZ (An (C3 p0 p1) 0) fun _ => some true)
theorem LK (Y : Nat → Prop) (w0 : World) (v1 : Value) (v2 : Value) (v3 : Value) (p0 : Int × (List (Int × Int × Int × Int × Int × Int)) × (List (Int × Int))) (p1 : List (List Int)) (r : Bool) (H : Eu p0 p1 = some r) (h_v1 : Sl w0 (NX []) Gn v1 p0.2.1) (h_v2 : Sl w0 (NX []) GE v2 p0.2.2) (h_v3 : Sl w0 (NX []) (Rp.slice (Rp.int .i64)) v3 p1) :
    Calls Try.prog 27 #[.agg #[.int .i64 p0.1, v1, v2], v3] w0 fun e w' => e = .returned (.bool r) ∧ Below w0.heap.size w0 w' := by
 refine enter Try.func27 Aa Try.ntmps27 Aa fun a F => ?_
 have W := Stw.start Y w0
 obtain ⟨v4, h1, h_v3⟩ := h_v3.ex Bn
 unfold Eu at H
 refine vc tk 2 F W fun a w F W => ?_
 refine Cq (cs := [.int .i64 p0.1, v1, v2]) F W Aa Aa Aa fun b1 a w F W => ?_
 refine Cc tk 4 F W fun a w F W => ?_
 obtain ⟨o1, G1, K1⟩ := Ad H
 refine Av (fun a w => ∃ x1 : Bool, some (x1) = some o1 ∧ Fr 34 [] [(1, v3), (2, .pointer (some ⟨b1, 0, none⟩)), (4, .bool false), (16, .bool x1)] a ∧ Stw ⟨Y, [], w0⟩ [(b1, [.int .i64 p0.1, v1, v2])] [] w) ?_ ?_
 ·
  have H := G1
  clear G1 K1
  refine Ha tk 2 [0] F W (ai fun a w F W => ?_)
  obtain ⟨x2, h2, H⟩ := Ad H
  refine ls F W Aa (AW (v := Value.bool x2) F WB Aa (fun w W => MX any w (v1) (v2) p0 _ h2 (CW (Ab h_v1) W) (CW (Ab h_v2) W))) fun a w F W => ?_
  refine vl tk 2 F W fun a w F W => ?_
  rcases Bool.eq_false_or_eq_true (!x2) with hb | hb
  ·
   have H := Di hb H
   rw [hb] at F
   clear hb
   refine vl tk 7 F W fun a w F W => ?_
   refine Ac ?_
   exact ⟨_, H, F.ra Aa, W⟩
  have H := Dg (by rw [hb]; decide) H
  rw [hb] at F
  clear hb
  refine E2 F W (Ae F Aa Aa Aa Aa) Aa (AC Aa) (Am F Aa).q fun a w F W => ?_
  refine E2 F W (Ae F Aa Aa Aa Aa) Aa (AC Aa) (A0 (r := (Rp.slice (Rp.int .i64))) (l := p1) I7 Aa F Aa (Ak Bn h1 (Ab h_v3))).q fun a w F W => ?_
  refine Jl tk 5 [0] F W (ai fun a w F W => ?_)
  refine Ac ?_
  exact ⟨_, H, F.ra Aa, W⟩
 rintro a w ⟨x1, hj, F, W⟩
 have hj := AA hj
 subst hj
 have H := K1
 clear G1 K1
 refine D8 F Aa H (fun F H => ?_) fun F H => ?_
 ·
  refine vc tk 5 F W fun a w F W => ?_
  refine Ao (AN ?_)
  have H := AA H
  subst H
  refine AG (.inl Aa) F W Aa (Al F Aa) ?_
  exact ⟨rfl, W.done⟩
 refine AD (Ac ?_)
 obtain ⟨o2, G2, K2, L2⟩ := L9 H
 refine Av (fun a w => some (Sum.inl ()) = some o2 ∧ Fr 34 [] [(4, .bool false)] a ∧ Stw ⟨Y, [], w0⟩ [(b1, [.int .i64 p0.1, v1, v2])] [] w) ?_ ?_
 ·
  have H := G2
  clear G2 K2
  refine vc tk 3 F W fun a w F W => ?_
  refine ls F W Aa (A0 (r := (Rp.slice (Rp.int .i64))) (l := p1) I7 Aa F Aa (Ak Bn h1 (Ab h_v3))).q fun a w F W => ?_
  refine Cc tk 4 F W fun a w F W => ?_
  refine AP H (fun s a w => Fr 34 [] [(2, .pointer (some ⟨b1, 0, none⟩)), (4, .bool false), (17, v3), (18, .int .i64 (p1.length : Int)), (19, .int .i64 s)] a ∧ Stw ⟨Y, [], w0⟩ [(b1, [.int .i64 p0.1, v1, v2])] [] w) ⟨F.ra Aa, W⟩ fun s o a w H L3 hR => ?_
  obtain ⟨x3, rfl⟩ : ∃ x, x = s := ⟨s, rfl⟩
  obtain ⟨F, W⟩ := hR
  have F : Fr 34 [] [(2, .pointer (some ⟨b1, 0, none⟩)), (4, .bool false), (17, v3), (18, .int .i64 (p1.length : Int)), (19, .int .i64 x3)] a := F
  have W : Stw ⟨Y, [], w0⟩ [(b1, [.int .i64 p0.1, v1, v2])] [] w := W
  rw [C3] at H
  refine vc tk 6 F W fun a w F W => ?_
  refine A3 F Aa H (fun F H => ?_) fun F H => ?_
  ·
   refine Ie tk 6 F W fun a w F W => ?_
   obtain ⟨x4, h3, H⟩ := Ad H
   obtain ⟨v5, h4, h5⟩ := CE h1 h3
   have h6 : Em v5 = [(v5.1)] := congrArg (fun q : List Int => ([(v5.1)] : List Value)) h5
   refine ls F W Aa (Aw (r := (Rp.vsl (Rp.int .i64))) LF F Aa Aa (Ab h_v3) h4).q fun a w F W => ?_
   refine ls F W Aa (Ai (y := (v5.1)) (j := 0) (i := x3) (enc := Em) F Aa Aa (Ab h_v3) h4 Ik Kj (by rw [h6]; rfl)).q fun a w F W => ?_
   refine vl tk 2 F W fun a w F W => ?_
   refine Ac ?_
   obtain ⟨o4, G4, K4⟩ := Ad H
   refine Av (fun a w => ∃ x5 : Bool, some (x5) = some o4 ∧ Fr 34 [] [(2, .pointer (some ⟨b1, 0, none⟩)), (4, .bool false), (17, v3), (18, .int .i64 (p1.length : Int)), (19, .int .i64 x3), (32, .bool x5)] a ∧ Stw ⟨Y, [], w0⟩ [(b1, [.int .i64 p0.1, v1, v2])] [] w) ?_ ?_
   ·
    have H := G4
    clear G4 K4
    refine vc tk 2 F W fun a w F W => ?_
    refine ls F W Aa (A0 (r := (Rp.int .i64)) (l := x4) GS Aa F Aa (BE (Ab h_v3) h4 Cd.here (congrArg (fun q : List Int => q) h5))).q fun a w F W => ?_
    refine Jl tk 2 [0] F W (ai fun a w F W => ?_)
    refine ls F W Aa (A0 (r := GE) (l := p0.2.2) Ni Aa F Aa (Ab h_v2)).q fun a w F W => ?_
    refine vl tk 2 F W fun a w F W => ?_
    rcases Bool.eq_false_or_eq_true (decide ((x4.length : Int) ≠ (p0.2.2.length : Int))) with hb | hb
    ·
     have H := Di (E6 hb) H
     rw [hb] at F
     clear hb
     refine vl tk 4 F W fun a w F W => ?_
     refine Ac ?_
     exact ⟨_, H, F.ra Aa, W⟩
    have H := Dg (Fh hb) H
    rw [hb] at F
    clear hb
    refine E2 F W (Ae F Aa Aa Aa Aa) Aa (AC Aa) (Am F Aa).q fun a w F W => ?_
    refine Jg (Ae F Aa Aa Aa Aa) ?_
    obtain ⟨x6, h7, H⟩ := Ad H
    refine ls F W Aa (AW (v := Value.bool x6) F WI Aa (fun w W => FH any w ((v5.1)) x4 _ h7 (CW (BE (Ab h_v3) h4 Cd.here (congrArg (fun q : List Int => q) h5)) W))) fun a w F W => ?_
    refine vl tk 2 F W fun a w F W => ?_
    refine Ac ?_
    exact ⟨_, H, F.ra Aa, W⟩
   rintro a w ⟨x5, hj, F, W⟩
   have hj := AA hj
   subst hj
   have H := K4
   clear G4 K4
   refine D8 F Aa H (fun F H => ?_) fun F H => ?_
   ·
    refine vc tk 5 F W fun a w F W => ?_
    refine Ao (AR ?_)
    iterate 2 refine AN ?_
    refine AR (AN ?_)
    have H := L3 _ H
    have H := L2 _ H
    have H := AA H
    subst H
    refine AG (.inl Aa) F W Aa (Al F Aa) ?_
    exact ⟨rfl, W.done⟩
   refine AD (Aq ?_)
   refine vn tk 4 F W fun a w F W => ?_
   refine Ac ?_
   exact ⟨_, H, F.ra Aa, W⟩
  refine AJ ?_
  iterate 2 refine A6 ?_
  refine AM (Ac ?_)
  have H := L3 _ H
  exact ⟨H, F.ra Aa, W⟩
 rintro a w ⟨hj, F, W⟩
 have H := K2 _ hj
 clear hj G2 K2 L2
 refine vc tk 5 F W fun a w F W => ?_
 refine Ao ?_
 have H := AA H
 subst H
 refine AG (.inl Aa) F W Aa (Al F Aa) ?_
 exact ⟨rfl, W.done⟩
theorem WF : Has Try.prog 27 := Ct Try.func27
theorem MO : Try.prog.follows .mixedOrders = true := by kernel_rfl
theorem Vj (dd : Nat) (x0 : Int) (x1 : Int) (y0 : Int) (y1 : Int) (w : World) : (Op.equalIn (dd + 2) 56 (.agg #[.int .i64 x0, .int .i64 x1]) (.agg #[.int .i64 y0, .int .i64 y1])).run Try.prog w = .ok (decide (x0 = y0 ∧ x1 = y1)) w :=
  J4 (d := dd + 1) (rs := [decide (x0 = y0), decide (x1 = y1)]) Ui (by kernel_rfl) ⟨rfl, HR (d := dd + 0) rfl rfl Rf T3 rfl rfl, rfl, HR (d := dd + 0) rfl rfl Rf T3 rfl rfl, trivial⟩ (by simp) w
theorem VK : Try.prog.eqGuardType Try.prog.depth 56 = false := by kernel_rfl
theorem WL (x0 : Int) (x1 : Int) (y0 : Int) (y1 : Int) (w : World) : (Op.equalIn 10000 56 (.agg #[.int .i64 x0, .int .i64 x1]) (.agg #[.int .i64 y0, .int .i64 y1])).run Try.prog w = .ok (decide (x0 = y0 ∧ x1 = y1)) w := Vj 9998 x0 x1 y0 y1 w
abbrev OK (a0 : Nat) (a1 : Int × Int) : List (Nat × List Value) := [(a0, [.int .i64 a1.1, .int .i64 a1.2])]
noncomputable def Ax (p0 : List (Int × Int)) (p1 : Int × Int) : Int → Option (Int ⊕ (Unit ⊕ Int))
  | x1 => (if x1 < (p0.length : Int) then (ix p0 x1).bind fun x2 => (if p1.1 = x2.1 ∧ p1.2 = x2.2 then some (.inr (.inr x1)) else some (.inl (A7 (x1 + 1)))) else some (.inr (.inl ())))
noncomputable def Bd (p0 : List (Int × Int)) (p1 : Int × Int) : Option Int := EZ (An (Ax p0 p1) 0) fun _ => some (-1)
theorem Fc (Y : Nat → Prop) (w0 : World) (v1 : Value) (p0 : List (Int × Int)) (p1 : Int × Int) (r : Int) (H : Bd p0 p1 = some r) (h_v1 : Sl w0 (NX []) GE v1 p0) :
    Calls Try.prog 74 #[v1, .agg #[.int .i64 p1.1, .int .i64 p1.2]] w0 fun e w' => e = .returned (.int .i64 r) ∧ Below w0.heap.size w0 w' := by
 refine enter Try.func74 Aa Try.ntmps74 Aa fun a F => ?_
 have W := Stw.start Y w0
 unfold Bd at H
 refine vc tk 2 F W fun a w F W => ?_
 refine Cq (cs := [.int .i64 p1.1, .int .i64 p1.2]) F W Aa Aa Aa fun b1 a w F W => ?_
 refine vl tk 2 F W fun a w F W => ?_
 refine Ac ?_
 obtain ⟨o1, G1, K1, L1⟩ := L9 H
 refine Av (fun a w => some (Sum.inl ()) = some o1 ∧ Fr 19 [] [(4, .int .i64 0)] a ∧ Stw ⟨Y, [], w0⟩ (OK b1 p1) [] w) ?_ ?_
 ·
  have H := G1
  clear G1 K1
  refine vc tk 3 F W fun a w F W => ?_
  refine ls F W Aa (A0 (r := GE) (l := p0) Ni Aa F Aa (Ab h_v1)).q fun a w F W => ?_
  refine Cc tk 4 F W fun a w F W => ?_
  refine AP H (fun s a w => Fr 19 [] [(0, v1), (3, .pointer (some ⟨b1, 0, none⟩)), (4, .int .i64 0), (7, .int .i64 (p0.length : Int)), (8, .int .i64 s)] a ∧ Stw ⟨Y, [], w0⟩ (OK b1 p1) [] w) ⟨F.ra Aa, W⟩ fun s o a w H L2 hR => ?_
  obtain ⟨x1, rfl⟩ : ∃ x, x = s := ⟨s, rfl⟩
  obtain ⟨F, W⟩ := hR
  have F : Fr 19 [] [(0, v1), (3, .pointer (some ⟨b1, 0, none⟩)), (4, .int .i64 0), (7, .int .i64 (p0.length : Int)), (8, .int .i64 x1)] a := F
  have W : Stw ⟨Y, [], w0⟩ (OK b1 p1) [] w := W
  rw [Ax] at H
  refine vc tk 6 F W fun a w F W => ?_
  refine A3 F Aa H (fun F H => ?_) fun F H => ?_
  ·
   refine Ie tk 11 F W fun a w F W => ?_
   refine Cx W MO (by kernel_rfl) ?_
   refine qs F Aa (A4 (v := Value.agg #[.int .i64 p1.1, .int .i64 p1.2]) 0 F Aa Aa UF Aa).q fun a F => ?_
   iterate 2 refine qs F Aa (Am F Aa).q fun a F => ?_
   obtain ⟨x2, h1, H⟩ := Ad H
   refine qs F Aa (Aw (r := GE) UY F Aa Aa (Ab h_v1) h1).q fun a F => ?_
   refine qs F Aa (Ai (y := Value.agg #[.int .i64 x2.1, .int .i64 x2.2]) (j := 0) (i := x1) F Aa Aa (Ab h_v1) h1 UO.to UF Aa).q fun a F => ?_
   refine qs F Aa (OO (t := decide (p1.1 = x2.1 ∧ p1.2 = x2.2)) VK (WL _ _ _ _) F Aa Aa).q fun a F => ?_
   refine A9 fun w W => ?_
   refine Ac ?_
   refine A3 F Aa H (fun F H => ?_) fun F H => ?_
   ·
    refine vc tk 6 F W fun a w F W => ?_
    refine Ao (AR ?_)
    iterate 2 refine AN ?_
    refine AR (AN ?_)
    have H := L2 _ H
    have H := L1 _ H
    have H := AA H
    subst H
    refine AG (.inl Aa) F W Aa (Al F Aa) ?_
    exact ⟨rfl, W.done⟩
   refine AD (Aq ?_)
   refine vn tk 4 F W fun a w F W => ?_
   refine Ac ?_
   exact ⟨_, H, F.ra Aa, W⟩
  refine AJ ?_
  iterate 2 refine A6 ?_
  refine AM (Ac ?_)
  have H := L2 _ H
  exact ⟨H, F.ra Aa, W⟩
 rintro a w ⟨hj, F, W⟩
 have H := K1 _ hj
 clear hj G1 K1 L1
 refine vc tk 5 F W fun a w F W => ?_
 refine Ao ?_
 have H := AA H
 subst H
 refine AG (.inl Aa) F W Aa (Al F Aa) ?_
 exact ⟨rfl, W.done⟩
theorem WT : Has Try.prog 74 := Ct Try.func74
noncomputable def C2 (p0 : Int × (List (Int × Int × Int × Int × Int × Int)) × (List (Int × Int))) (p1 : Int) (p2 : Int) : Option Int := (Bd p0.2.2 (p1, p2)).bind fun x1 => some x1
theorem IX (Y : Nat → Prop) (w0 : World) (v1 : Value) (v2 : Value) (p0 : Int × (List (Int × Int × Int × Int × Int × Int)) × (List (Int × Int))) (p1 : Int) (p2 : Int) (r : Int) (H : C2 p0 p1 p2 = some r) (h_v1 : Sl w0 (NX []) Gn v1 p0.2.1) (h_v2 : Sl w0 (NX []) GE v2 p0.2.2) :
    Calls Try.prog 53 #[.agg #[.int .i64 p0.1, v1, v2], .int .i64 p1, .int .i64 p2] w0 fun e w' => e = .returned (.int .i64 r) ∧ Below w0.heap.size w0 w' := by
 refine enter Try.func53 Aa Try.ntmps53 Aa fun a F => ?_
 have W := Stw.start Y w0
 unfold C2 at H
 refine vc tk 2 F W fun a w F W => ?_
 refine Cq (cs := [.int .i64 p0.1, v1, v2]) F W Aa Aa Aa fun b1 a w F W => ?_
 refine JK tk 9 [0] F W (ai fun a w F W => ?_)
 refine ls F W Aa (B1 (v := Value.agg #[.int .i64 p1, .int .i64 p2]) Vr F Aa Aa Aa).q fun a w F W => ?_
 obtain ⟨x1, h1, H⟩ := Ad H
 refine ls F W Aa (AW (v := Value.int .i64 x1) F WT Aa (fun w W => Fc any w (v2) p0.2.2 (p1, p2) _ h1 (CW (Ab h_v2) W))) fun a w F W => ?_
 refine Cc tk 3 F W fun a w F W => ?_
 refine Ao ?_
 have H := AA H
 subst H
 refine AG (.inl Aa) F W Aa (Al F Aa) ?_
 exact ⟨rfl, W.done⟩
theorem Vs : Has Try.prog 53 := Ct Try.func53
noncomputable def CG (p0 : Int × (List (Int × Int × Int × Int × Int × Int)) × (List (Int × Int))) (p1 : Int) (p2 : Int) : Int → Option (Int ⊕ (Unit ⊕ (Int × Int × Int × Bool)))
  | x1 => (if x1 < (p0.2.1.length : Int) then (ix p0.2.1 x1).bind fun x2 => (if p1 = x2.1 ∧ p2 = x2.2.1 then some (.inr (.inr (x2.2.2.1, x2.2.2.2.1, x1, true))) else (if p1 = x2.2.2.1 ∧ p2 = x2.2.2.2.1 then some (.inr (.inr (x2.1, x2.2.1, x1, true))) else some (.inl (A7 (x1 + 1))))) else some (.inr (.inl ())))
noncomputable def D2 (p0 : Int × (List (Int × Int × Int × Int × Int × Int)) × (List (Int × Int))) (p1 : Int) (p2 : Int) : Option (Int × Int × Int × Bool) := EZ (An (CG p0 p1 p2) 0) fun _ => some (0, 0, 0, false)
theorem Kq (Y : Nat → Prop) (w0 : World) (v1 : Value) (v2 : Value) (p0 : Int × (List (Int × Int × Int × Int × Int × Int)) × (List (Int × Int))) (p1 : Int) (p2 : Int) (r : Int × Int × Int × Bool) (H : D2 p0 p1 p2 = some r) (h_v1 : Sl w0 (NX []) Gn v1 p0.2.1) (h_v2 : Sl w0 (NX []) GE v2 p0.2.2) :
    Calls Try.prog 62 #[.agg #[.int .i64 p0.1, v1, v2], .int .i64 p1, .int .i64 p2] w0 fun e w' => e = .returned (.tuple #[.int .i64 r.1, .int .i64 r.2.1, .int .i64 r.2.2.1, .bool r.2.2.2]) ∧ Below w0.heap.size w0 w' := by
 refine enter Try.func62 Aa Try.ntmps62 Aa fun a F => ?_
 have W := Stw.start Y w0
 unfold D2 at H
 refine vc tk 2 F W fun a w F W => ?_
 refine Cq (cs := [.int .i64 p0.1, v1, v2]) F W Aa Aa Aa fun b1 a w F W => ?_
 refine Cc tk 10 F W fun a w F W => ?_
 refine ls F W Aa (B1 (v := Value.agg #[.int .i64 p1, .int .i64 p2]) PH F Aa Aa Aa).q fun a w F W => ?_
 refine B9 (cs := [.int .i64 0, .int .i64 0]) F W Aa Rz Aa fun b2 a w F W => ?_
 refine F6 0 F W Aa Aa Aa SL Aa Aa Aa fun w W => ?_
 refine EF (Ac ?_)
 obtain ⟨o1, G1, K1, L1⟩ := L9 H
 refine Av (fun a w => some (Sum.inl ()) = some o1 ∧ Fr 49 [] [(6, .int .i64 0), (7, .int .i64 0), (8, .int .i64 0), (9, .bool false)] a ∧ Stw ⟨Y, [], w0⟩ [(b2, [.int .i64 p1, .int .i64 p2]), (b1, [.int .i64 p0.1, v1, v2])] [] w) ?_ ?_
 ·
  have H := G1
  clear G1 K1
  refine Ha tk 4 [1] F W (ai fun a w F W => ?_)
  refine ls F W Aa (A0 (r := Gn) (l := p0.2.1) N9 Aa F Aa (Ab h_v1)).q fun a w F W => ?_
  refine Cc tk 4 F W fun a w F W => ?_
  have W := W.frontM (i := 1) Aa Aa
  have W := W.frontM (i := 1) Aa Aa
  refine AP H (fun s a w => Fr 49 [] [(6, .int .i64 0), (7, .int .i64 0), (8, .int .i64 0), (9, .bool false), (10, .pointer (some ⟨b2, 0, none⟩)), (17, v1), (18, .int .i64 (p0.2.1.length : Int)), (19, .int .i64 s)] a ∧ Stw ⟨Y, [], w0⟩ [(b2, [.int .i64 p1, .int .i64 p2]), (b1, [.int .i64 p0.1, v1, v2])] [] w) ⟨F.ra Aa, W⟩ fun s o a w H L2 hR => ?_
  obtain ⟨x1, rfl⟩ : ∃ x, x = s := ⟨s, rfl⟩
  obtain ⟨F, W⟩ := hR
  have F : Fr 49 [] [(6, .int .i64 0), (7, .int .i64 0), (8, .int .i64 0), (9, .bool false), (10, .pointer (some ⟨b2, 0, none⟩)), (17, v1), (18, .int .i64 (p0.2.1.length : Int)), (19, .int .i64 x1)] a := F
  have W : Stw ⟨Y, [], w0⟩ [(b2, [.int .i64 p1, .int .i64 p2]), (b1, [.int .i64 p0.1, v1, v2])] [] w := W
  rw [CG] at H
  refine vc tk 6 F W fun a w F W => ?_
  refine A3 F Aa H (fun F H => ?_) fun F H => ?_
  ·
   refine Ie tk 7 F W fun a w F W => ?_
   obtain ⟨x2, h1, H⟩ := Ad H
   refine ls F W Aa (Aw (r := Gn) Uk F Aa Aa (Ab h_v1) h1).q fun a w F W => ?_
   refine ls F W Aa (Ai (y := Value.agg #[.int .i64 x2.1, .int .i64 x2.2.1, .int .i64 x2.2.2.1, .int .i64 x2.2.2.2.1, .int .i64 x2.2.2.2.2.1, .int .i64 x2.2.2.2.2.2]) (j := 0) (i := x1) F Aa Aa (Ab h_v1) h1 T7.to SH Aa).q fun a w F W => ?_
   refine B9 (cs := (SJ)) F W Aa UM Aa fun b3 a w F W => ?_
   refine ls F W Aa (BR F Aa).q fun a w F W => ?_
   refine F6 0 F W Aa Aa Aa SH Aa Aa Aa fun w W => ?_
   refine JK tk 10 [1, 0, 0] F W (ai (ai (ai fun a w F W => ?_)))
   refine ls F W Aa (B1 (v := Value.agg #[.int .i64 x2.1, .int .i64 x2.2.1]) PH F Aa Aa Aa).q fun a w F W => ?_
   refine ls F W Aa (OO (t := decide (p1 = x2.1 ∧ p2 = x2.2.1)) TL (SZ _ _ _ _) F Aa Aa).q fun a w F W => ?_
   refine Cc tk 2 F W fun a w F W => ?_
   refine A3 F Aa H (fun F H => ?_) fun F H => ?_
   ·
    refine Pe ?_
    refine Cx W MO (by kernel_rfl) ?_
    refine qs F Aa (Ah Qj Aa Aa Aa T3 F Aa 2 Aa).q fun a F => ?_
    refine qs F Aa (A4 (v := Value.int .i64 x2.2.2.1) 0 F Aa Aa T3 Aa).q fun a F => ?_
    refine qs F Aa (Ah Qj Aa Aa Aa T3 F Aa 3 Aa).q fun a F => ?_
    refine qs F Aa (A4 (v := Value.int .i64 x2.2.2.2.1) 0 F Aa Aa T3 Aa).q fun a F => ?_
    refine qs F Aa (Am F Aa).q fun a F => ?_
    iterate 4 refine qs F Aa (BR F Aa).q fun a F => ?_
    refine A9 fun w W => ?_
    refine Ac (Ao (AN (AR ?_)))
    iterate 2 refine AN ?_
    refine AR (AN ?_)
    have H := L2 _ H
    have H := L1 _ H
    have H := AA H
    subst H
    refine Qi (.inl Aa) F W Aa (Al F Aa) (Al F Aa) (Al F Aa) (Al F Aa) ?_
    exact ⟨rfl, W.done⟩
   refine MY tk 9 [1, 0, 0] F W (ai (ai (ai fun a w F W => ?_)))
   refine ls F W Aa (B1 (v := Value.agg #[.int .i64 x2.2.2.1, .int .i64 x2.2.2.2.1]) PH F Aa Aa Aa).q fun a w F W => ?_
   refine ls F W Aa (OO (t := decide (p1 = x2.2.2.1 ∧ p2 = x2.2.2.2.1)) TL (SZ _ _ _ _) F Aa Aa).q fun a w F W => ?_
   refine Cc tk 2 F W fun a w F W => ?_
   refine A3 F Aa H (fun F H => ?_) fun F H => ?_
   ·
    refine Pe ?_
    refine Cx W MO (by kernel_rfl) ?_
    refine qs F Aa (Ah Qj Aa Aa Aa T3 F Aa 0 Aa).q fun a F => ?_
    refine qs F Aa (A4 (v := Value.int .i64 x2.1) 0 F Aa Aa T3 Aa).q fun a F => ?_
    refine qs F Aa (Ah Qj Aa Aa Aa T3 F Aa 1 Aa).q fun a F => ?_
    refine qs F Aa (A4 (v := Value.int .i64 x2.2.1) 0 F Aa Aa T3 Aa).q fun a F => ?_
    refine qs F Aa (Am F Aa).q fun a F => ?_
    iterate 4 refine qs F Aa (BR F Aa).q fun a F => ?_
    refine A9 fun w W => ?_
    refine Ac (Ao (AR ?_))
    iterate 2 refine AN ?_
    refine AR (AN ?_)
    have H := L2 _ H
    have H := L1 _ H
    have H := AA H
    subst H
    refine Qi (.inl Aa) F W Aa (Al F Aa) (Al F Aa) (Al F Aa) (Al F Aa) ?_
    exact ⟨rfl, W.done⟩
   refine AD (Aq ?_)
   refine vn tk 4 F W fun a w F W => ?_
   refine Ac ?_
   have W := W.frontM (i := 2) Aa Aa
   have W := W.frontM (i := 2) Aa Aa
   have W := W.sub (M' := [(b2, [.int .i64 p1, .int .i64 p2]), (b1, [.int .i64 p0.1, v1, v2])]) (Z' := []) (List.Sublist.cons_cons _ (List.Sublist.cons_cons _ (List.nil_sublist _))) (List.Sublist.refl _)
   exact ⟨_, H, F.ra Aa, W⟩
  refine AJ ?_
  iterate 2 refine A6 ?_
  refine AM (Ac ?_)
  have W := W.frontM (i := 1) Aa Aa
  have W := W.frontM (i := 1) Aa Aa
  have H := L2 _ H
  exact ⟨H, F.ra Aa, W⟩
 rintro a w ⟨hj, F, W⟩
 have H := K1 _ hj
 clear hj G1 K1 L1
 refine vc tk 8 F W fun a w F W => ?_
 refine Ao ?_
 have H := AA H
 subst H
 refine Qi (.inl Aa) F W Aa (Al F Aa) (Al F Aa) (Al F Aa) (Al F Aa) ?_
 exact ⟨rfl, W.done⟩
theorem Vp : Has Try.prog 62 := Ct Try.func62
noncomputable def EM (p0 : Int × (List (Int × Int × Int × Int × Int × Int)) × (List (Int × Int))) (p1 : List (List Int)) (p2 : Int) (p3 : Int) : Option (Int × Bool) := (if p2 < 0 then some true else (if (p1.length : Int) ≤ p2 then some true else (if p3 < 0 then some true else (ix p1 p2).bind fun x2 => some (decide ((x2.length : Int) ≤ p3))))).bind fun x1 => (if x1 = true then some (0, false) else (ix p1 p2).bind fun x3 => (ix x3 p3).bind fun x4 => (D2 p0 p2 x4).bind fun x5 => some (x5.1, x5.2.2.2))
theorem Mq (Y : Nat → Prop) (w0 : World) (v1 : Value) (v2 : Value) (v3 : Value) (p0 : Int × (List (Int × Int × Int × Int × Int × Int)) × (List (Int × Int))) (p1 : List (List Int)) (p2 : Int) (p3 : Int) (r : Int × Bool) (H : EM p0 p1 p2 p3 = some r) (h_v1 : Sl w0 (NX []) Gn v1 p0.2.1) (h_v2 : Sl w0 (NX []) GE v2 p0.2.2) (h_v3 : Sl w0 (NX []) (Rp.slice (Rp.int .i64)) v3 p1) :
    Calls Try.prog 54 #[.agg #[.int .i64 p0.1, v1, v2], v3, .int .i64 p2, .int .i64 p3] w0 fun e w' => e = .returned (.tuple #[.int .i64 r.1, .bool r.2]) ∧ Below w0.heap.size w0 w' := by
 refine enter Try.func54 Aa Try.ntmps54 Aa fun a F => ?_
 have W := Stw.start Y w0
 obtain ⟨v4, h1, h_v3⟩ := h_v3.ex Bn
 unfold EM at H
 refine vc tk 2 F W fun a w F W => ?_
 refine Cq (cs := [.int .i64 p0.1, v1, v2]) F W Aa Aa Aa fun b1 a w F W => ?_
 refine Cc tk 5 F W fun a w F W => ?_
 obtain ⟨o1, G1, K1⟩ := Ad H
 refine Av (fun a w => ∃ x1 : Bool, some (x1) = some o1 ∧ Fr 52 [] [(1, v3), (2, .int .i64 p2), (3, .int .i64 p3), (4, .pointer (some ⟨b1, 0, none⟩)), (8, .int .i64 0), (9, .bool false), (34, .bool x1)] a ∧ Stw ⟨Y, [], w0⟩ [(b1, [.int .i64 p0.1, v1, v2])] [] w) ?_ ?_
 ·
  have H := G1
  clear G1 K1
  refine vc tk 4 F W fun a w F W => ?_
  rcases Bool.eq_false_or_eq_true (decide (p2 < 0)) with hb | hb
  ·
   have H := Di (E6 hb) H
   rw [hb] at F
   clear hb
   refine vl tk 19 F W fun a w F W => ?_
   refine Ac ?_
   exact ⟨_, H, F.ra Aa, W⟩
  have H := Dg (Fh hb) H
  rw [hb] at F
  clear hb
  refine vl tk 2 F W fun a w F W => ?_
  refine E2 F W (Ae F Aa Aa Aa Aa) Aa (AC Aa) (A0 (r := (Rp.slice (Rp.int .i64))) (l := p1) I7 Aa F Aa (Ak Bn h1 (Ab h_v3))).q fun a w F W => ?_
  refine vl tk 3 F W fun a w F W => ?_
  rcases Bool.eq_false_or_eq_true (decide ((p1.length : Int) ≤ p2)) with hb | hb
  ·
   have H := Di (E6 hb) H
   rw [hb] at F
   clear hb
   refine vl tk 13 F W fun a w F W => ?_
   refine Ac ?_
   exact ⟨_, H, F.ra Aa, W⟩
  have H := Dg (Fh hb) H
  rw [hb] at F
  clear hb
  refine vl tk 4 F W fun a w F W => ?_
  rcases Bool.eq_false_or_eq_true (decide (p3 < 0)) with hb | hb
  ·
   have H := Di (E6 hb) H
   rw [hb] at F
   clear hb
   refine vl tk 9 F W fun a w F W => ?_
   refine Ac ?_
   exact ⟨_, H, F.ra Aa, W⟩
  have H := Dg (Fh hb) H
  rw [hb] at F
  clear hb
  refine vl tk 3 F W fun a w F W => ?_
  obtain ⟨x2, h2, H⟩ := Ad H
  obtain ⟨v5, h3, h4⟩ := CE h1 h2
  have h5 : Em v5 = [(v5.1)] := congrArg (fun q : List Int => ([(v5.1)] : List Value)) h4
  refine E2 F W (Ae F Aa Aa Aa Aa) Aa (AC Aa) (Aw (r := (Rp.vsl (Rp.int .i64))) LF F Aa Aa (Ab h_v3) h3).q fun a w F W => ?_
  refine E2 F W (Ae F Aa Aa Aa Aa) Aa (AC Aa) (Ai (y := (v5.1)) (j := 0) (i := p2) (enc := Em) F Aa Aa (Ab h_v3) h3 Ik Kj (by rw [h5]; rfl)).q fun a w F W => ?_
  refine E2 F W (Ae F Aa Aa Aa Aa) Aa (AC Aa) (A0 (r := (Rp.int .i64)) (l := x2) GS Aa F Aa (BE (Ab h_v3) h3 Cd.here (congrArg (fun q : List Int => q) h4))).q fun a w F W => ?_
  refine vl tk 3 F W fun a w F W => ?_
  refine Ac ?_
  exact ⟨_, H, F.ra Aa, W⟩
 rintro a w ⟨x1, hj, F, W⟩
 have hj := AA hj
 subst hj
 have H := K1
 clear G1 K1
 refine D8 F Aa H (fun F H => ?_) fun F H => ?_
 ·
  refine vc tk 6 F W fun a w F W => ?_
  refine Ao (AN ?_)
  have H := AA H
  subst H
  refine N4 (.inl Aa) F W Aa (Al F Aa) (Al F Aa) ?_
  exact ⟨rfl, W.done⟩
 refine Ie tk 3 F W fun a w F W => ?_
 refine Cx W MO (by kernel_rfl) ?_
 refine qs F Aa (A4 (v := Value.agg #[.int .i64 p0.1, v1, v2]) 0 F Aa Aa Th Aa).q fun a F => ?_
 iterate 3 refine qs F Aa (Am F Aa).q fun a F => ?_
 obtain ⟨x3, h6, H⟩ := Ad H
 obtain ⟨v6, h7, h8⟩ := CE h1 h6
 have h9 : Em v6 = [(v6.1)] := congrArg (fun q : List Int => ([(v6.1)] : List Value)) h8
 refine qs F Aa (Aw (r := (Rp.vsl (Rp.int .i64))) LF F Aa Aa (Ab h_v3) h7).q fun a F => ?_
 refine qs F Aa (Ai (y := (v6.1)) (j := 0) (i := p2) (enc := Em) F Aa Aa (Ab h_v3) h7 Ik Kj (by rw [h9]; rfl)).q fun a F => ?_
 refine qs F Aa (Am F Aa).q fun a F => ?_
 obtain ⟨x4, h10, H⟩ := Ad H
 refine qs F Aa (Aw (r := (Rp.int .i64)) HT F Aa Aa (BE (Ab h_v3) h7 Cd.here (congrArg (fun q : List Int => q) h8)) h10).q fun a F => ?_
 refine qs F Aa (Ai (y := Value.int .i64 x4) (j := 0) (i := p3) F Aa Aa (BE (Ab h_v3) h7 Cd.here (congrArg (fun q : List Int => q) h8)) h10 Fl.int.to T3 Aa).q fun a F => ?_
 obtain ⟨x5, h11, H⟩ := Ad H
 refine qs F Aa (AW (v := Value.tuple #[.int .i64 x5.1, .int .i64 x5.2.1, .int .i64 x5.2.2.1, .bool x5.2.2.2]) F Vp Aa (fun w W => Kq any w (v1) (v2) p0 p2 x4 _ h11 (CW (Ab h_v1) W) (CW (Ab h_v2) W))) fun a F => ?_
 refine qs F Aa (Am F Aa).q fun a F => ?_
 refine qs F Aa (CC (v := Value.int .i64 x5.1) F Aa Aa).q fun a F => ?_
 refine qs F Aa (CC (v := Value.int .i64 x5.2.1) F Aa Aa).q fun a F => ?_
 refine qs F Aa (CC (v := Value.int .i64 x5.2.2.1) F Aa Aa).q fun a F => ?_
 refine qs F Aa (CC (v := Value.bool x5.2.2.2) F Aa Aa).q fun a F => ?_
 iterate 4 refine qs F Aa (BR F Aa).q fun a F => ?_
 refine A9 fun w W => ?_
 refine vn tk 8 F W fun a w F W => ?_
 refine Ao ?_
 have H := AA H
 subst H
 refine N4 (.inl Aa) F W Aa (Al F Aa) (Al F Aa) ?_
 exact ⟨rfl, W.done⟩
theorem Wa : Has Try.prog 54 := Ct Try.func54
noncomputable def BW (p0 : List Int) (p1 : Int) : Int → Option (Int ⊕ (Unit ⊕ Bool))
  | x1 => (if x1 < (p0.length : Int) then (ix p0 x1).bind fun x2 => (if p1 = x2 then some (.inr (.inr true)) else some (.inl (A7 (x1 + 1)))) else some (.inr (.inl ())))
noncomputable def Cj (p0 : List Int) (p1 : Int) : Option Bool := EZ (An (BW p0 p1) 0) fun _ => some false
theorem Ic (Y : Nat → Prop) (w0 : World) (v1 : Value) (p0 : List Int) (p1 : Int) (r : Bool) (H : Cj p0 p1 = some r) (h_v1 : Sl w0 (NX []) (Rp.int .i64) v1 p0) :
    Calls Try.prog 55 #[v1, .int .i64 p1] w0 fun e w' => e = .returned (.bool r) ∧ Below w0.heap.size w0 w' := by
 refine enter Try.func55 Aa Try.ntmps55 Aa fun a F => ?_
 have W := Stw.start Y w0
 unfold Cj at H
 refine vc tk 5 F W fun a w F W => ?_
 obtain ⟨o1, G1, K1, L1⟩ := L9 H
 refine Av (fun a w => some (Sum.inl ()) = some o1 ∧ Fr 17 [] [(4, .bool false)] a ∧ Stw ⟨Y, [], w0⟩ [] [] w) ?_ ?_
 ·
  have H := G1
  clear G1 K1
  refine vc tk 3 F W fun a w F W => ?_
  refine ls F W Aa (A0 (r := (Rp.int .i64)) (l := p0) GS Aa F Aa (Ab h_v1)).q fun a w F W => ?_
  refine Cc tk 4 F W fun a w F W => ?_
  refine AP H (fun s a w => Fr 17 [] [(1, .int .i64 p1), (4, .bool false), (7, v1), (8, .int .i64 (p0.length : Int)), (9, .int .i64 s)] a ∧ Stw ⟨Y, [], w0⟩ [] [] w) ⟨F.ra Aa, W⟩ fun s o a w H L2 hR => ?_
  obtain ⟨x1, rfl⟩ : ∃ x, x = s := ⟨s, rfl⟩
  obtain ⟨F, W⟩ := hR
  have F : Fr 17 [] [(1, .int .i64 p1), (4, .bool false), (7, v1), (8, .int .i64 (p0.length : Int)), (9, .int .i64 x1)] a := F
  have W : Stw ⟨Y, [], w0⟩ [] [] w := W
  rw [BW] at H
  refine vc tk 6 F W fun a w F W => ?_
  refine A3 F Aa H (fun F H => ?_) fun F H => ?_
  ·
   refine Ie tk 6 F W fun a w F W => ?_
   obtain ⟨x2, h1, H⟩ := Ad H
   refine ls F W Aa (Aw (r := (Rp.int .i64)) HT F Aa Aa (Ab h_v1) h1).q fun a w F W => ?_
   refine ls F W Aa (Ai (y := Value.int .i64 x2) (j := 0) (i := x1) F Aa Aa (Ab h_v1) h1 Fl.int.to T3 Aa).q fun a w F W => ?_
   refine Cc tk 10 F W fun a w F W => ?_
   refine A3 F Aa H (fun F H => ?_) fun F H => ?_
   ·
    refine vc tk 5 F W fun a w F W => ?_
    refine Ao (AR ?_)
    iterate 2 refine AN ?_
    refine AR (AN ?_)
    have H := L2 _ H
    have H := L1 _ H
    have H := AA H
    subst H
    refine AG (.inl Aa) F W Aa (Al F Aa) ?_
    exact ⟨rfl, W.done⟩
   refine AD (Aq ?_)
   refine vn tk 4 F W fun a w F W => ?_
   refine Ac ?_
   exact ⟨_, H, F.ra Aa, W⟩
  refine AJ ?_
  iterate 2 refine A6 ?_
  refine AM (Ac ?_)
  have H := L2 _ H
  exact ⟨H, F.ra Aa, W⟩
 rintro a w ⟨hj, F, W⟩
 have H := K1 _ hj
 clear hj G1 K1 L1
 refine vc tk 5 F W fun a w F W => ?_
 refine Ao ?_
 have H := AA H
 subst H
 refine AG (.inl Aa) F W Aa (Al F Aa) ?_
 exact ⟨rfl, W.done⟩
theorem Wt : Has Try.prog 55 := Ct Try.func55
noncomputable def CI (p0 : Int × (List (Int × Int × Int × Int × Int × Int)) × (List (Int × Int))) (p1 : List (List Int)) (p3 : Int) : (Int × List Int) → Option ((Int × List Int) ⊕ ((List Int) ⊕ (List Int × Int)))
  | (x2, x3) => (ix p1 x2).bind fun x4 => (ix x4 p3).bind fun x5 => (C2 p0 x2 x5).bind fun x6 => (if x6 ≠ p3 then (EM p0 p1 x2 p3).bind fun x7 => (if (!x7.2) = true then some (.inr (.inr (([] : List Int), 13))) else (Cj x3 x7.1).bind fun x8 => (if x8 = true then some (.inr (.inr (([] : List Int), 12))) else (FD x3 ([x7.1] : List Int)).bind fun x9 => some (.inl (x7.1, x9)))) else some (.inr (.inl x3)))
noncomputable def ES (p0 : Int × (List (Int × Int × Int × Int × Int × Int)) × (List (Int × Int))) (p1 : List (List Int)) (p2 : Int) (p3 : Int) : Option (List Int × Int) := EZ (An (CI p0 p1 p3) (p2, ([p2] : List Int))) fun x1 => some (x1, 0)
theorem Mt (Y : Nat → Prop) (w0 : World) (v1 : Value) (v2 : Value) (v3 : Value) (p0 : Int × (List (Int × Int × Int × Int × Int × Int)) × (List (Int × Int))) (p1 : List (List Int)) (p2 : Int) (p3 : Int) (r : List Int × Int) (H : ES p0 p1 p2 p3 = some r) (h_v1 : Sl w0 (NX []) Gn v1 p0.2.1) (h_v2 : Sl w0 (NX []) GE v2 p0.2.2) (h_v3 : Sl w0 (NX []) (Rp.slice (Rp.int .i64)) v3 p1) :
    Calls Try.prog 28 #[.agg #[.int .i64 p0.1, v1, v2], v3, .int .i64 p2, .int .i64 p3] w0 fun e w' => ∃ x : Value, e = .returned (.tuple #[x, .int .i64 r.2]) ∧ Stw ⟨Y, [], w0⟩ [] [row (x) 3 (Rp.int .i64) r.1] w' := by
 refine enter Try.func28 Aa Try.ntmps28 Aa fun a F => ?_
 have W := Stw.start Y w0
 obtain ⟨v4, h1, h_v3⟩ := h_v3.ex Bn
 unfold ES at H
 refine vc tk 2 F W fun a w F W => ?_
 refine Cq (cs := [.int .i64 p0.1, v1, v2]) F W Aa Aa Aa fun b1 a w F W => ?_
 refine Cc tk 7 F W fun a w F W => ?_
 refine CQ (z := Value.int .i64 0) (cs := [.int .i64 p2]) (Rp.int .i64) ([p2] : List Int) F W Aa HT Z3 Aa Aa Aa Aa Aa Aa (Fl.int.repL _ _ ([p2] : List Int)) fun v5 a w F W => ?_
 refine vl tk 2 F W fun a w F W => ?_
 refine Ac ?_
 obtain ⟨o1, G1, K1, L1⟩ := L9 H
 refine Av (fun a w => ∃ x1 : List Int, ∃ v6 : Value, some (Sum.inl x1) = some o1 ∧ Fr 46 [] [(8, .slice none 0 0), (9, .int .i64 0), (10, v6)] a ∧ Stw ⟨Y, [], w0⟩ [(b1, [.int .i64 p0.1, v1, v2])] [row v6 3 (Rp.int .i64) x1] w) ?_ ?_
 ·
  have H := G1
  clear G1 K1
  refine Lj ?_
  refine AP H (fun s a w => ∃ v7 : Value, Fr 46 [] [(1, v3), (2, .int .i64 s.1), (3, .int .i64 p3), (4, .pointer (some ⟨b1, 0, none⟩)), (8, .slice none 0 0), (9, .int .i64 0), (10, v7)] a ∧ Stw ⟨Y, [], w0⟩ [(b1, [.int .i64 p0.1, v1, v2])] [row v7 3 (Rp.int .i64) s.2] w) ⟨(v5), F.ra Aa, W⟩ fun s o a w H L2 hR => ?_
  obtain ⟨x2, x3⟩ := s
  obtain ⟨v7, F, W⟩ := hR
  have F : Fr 46 [] [(1, v3), (2, .int .i64 x2), (3, .int .i64 p3), (4, .pointer (some ⟨b1, 0, none⟩)), (8, .slice none 0 0), (9, .int .i64 0), (10, v7)] a := F
  have W : Stw ⟨Y, [], w0⟩ [(b1, [.int .i64 p0.1, v1, v2])] [row v7 3 (Rp.int .i64) x3] w := W
  rw [CI] at H
  refine vc tk 2 F W fun a w F W => ?_
  refine Cx W MO (by kernel_rfl) ?_
  refine qs F Aa (A4 (v := Value.agg #[.int .i64 p0.1, v1, v2]) 0 F Aa Aa Th Aa).q fun a F => ?_
  iterate 3 refine qs F Aa (Am F Aa).q fun a F => ?_
  obtain ⟨x4, h2, H⟩ := Ad H
  obtain ⟨v8, h3, h4⟩ := CE h1 h2
  have h5 : Em v8 = [(v8.1)] := congrArg (fun q : List Int => ([(v8.1)] : List Value)) h4
  refine qs F Aa (Aw (r := (Rp.vsl (Rp.int .i64))) LF F Aa Aa (Ab h_v3) h3).q fun a F => ?_
  refine qs F Aa (Ai (y := (v8.1)) (j := 0) (i := x2) (enc := Em) F Aa Aa (Ab h_v3) h3 Ik Kj (by rw [h5]; rfl)).q fun a F => ?_
  refine qs F Aa (Am F Aa).q fun a F => ?_
  obtain ⟨x5, h6, H⟩ := Ad H
  refine qs F Aa (Aw (r := (Rp.int .i64)) HT F Aa Aa (BE (Ab h_v3) h3 Cd.here (congrArg (fun q : List Int => q) h4)) h6).q fun a F => ?_
  refine qs F Aa (Ai (y := Value.int .i64 x5) (j := 0) (i := p3) F Aa Aa (BE (Ab h_v3) h3 Cd.here (congrArg (fun q : List Int => q) h4)) h6 Fl.int.to T3 Aa).q fun a F => ?_
  obtain ⟨x6, h7, H⟩ := Ad H
  refine qs F Aa (AW (v := Value.int .i64 x6) F Vs Aa (fun w W => IX any w (v1) (v2) p0 x2 x5 _ h7 (CW (Ab h_v1) W) (CW (Ab h_v2) W))) fun a F => ?_
  refine qs F Aa (Am F Aa).q fun a F => ?_
  refine qs F Aa (O4 F Aa Aa).q fun a F => ?_
  refine A9 fun w W => ?_
  refine Ac ?_
  refine A3 F Aa H (fun F H => ?_) fun F H => ?_
  ·
   refine MY tk 9 [0] F W (ai fun a w F W => ?_)
   obtain ⟨x7, h8, H⟩ := Ad H
   refine ls F W Aa (AW (v := Value.tuple #[.int .i64 x7.1, .bool x7.2]) F Wa Aa (fun w W => Mq any w (v1) (v2) (v3) p0 p1 x2 p3 _ h8 (CW (Ab h_v1) W) (CW (Ab h_v2) W) (CW (Ak Bn h1 (Ab h_v3)) W))) fun a w F W => ?_
   refine ls F W Aa (Am F Aa).q fun a w F W => ?_
   refine ls F W Aa (CC (v := Value.int .i64 x7.1) F Aa Aa).q fun a w F W => ?_
   refine ls F W Aa (CC (v := Value.bool x7.2) F Aa Aa).q fun a w F W => ?_
   refine Cc tk 11 F W fun a w F W => ?_
   refine D8 F Aa H (fun F H => ?_) fun F H => ?_
   ·
    refine vc tk 6 F W fun a w F W => ?_
    refine Ao (AN (AR (AN (AR (AN ?_)))))
    have H := L2 _ H
    have H := L1 _ H
    have H := AA H
    subst H
    refine N4 (.inl Aa) F W Aa (Al F Aa) (Al F Aa) ?_
    have W := W.nilRow 3 (Rp.int .i64)
    have W := W.sub (M' := []) (Z' := [row (Value.slice none 0 0) 3 (Rp.int .i64) ([])]) (List.nil_sublist _) (List.Sublist.cons_cons _ (List.nil_sublist _))
    exact ⟨(Value.slice none 0 0), Aa, W⟩
   refine Ie tk 7 F W fun a w F W => ?_
   obtain ⟨x8, h9, H⟩ := Ad H
   refine ls F W Aa (AW (v := Value.bool x8) F Wt Aa (fun w W => Ic any w (v7) x3 x7.1 _ h9 (CW (CY 0 Aa) W))) fun a w F W => ?_
   refine Cc tk 2 F W fun a w F W => ?_
   refine D8 F Aa H (fun F H => ?_) fun F H => ?_
   ·
    refine vc tk 6 F W fun a w F W => ?_
    refine Ao (AN (AR (AN (AR (AN ?_)))))
    have H := L2 _ H
    have H := L1 _ H
    have H := AA H
    subst H
    refine N4 (.inl Aa) F W Aa (Al F Aa) (Al F Aa) ?_
    have W := W.nilRow 3 (Rp.int .i64)
    have W := W.sub (M' := []) (Z' := [row (Value.slice none 0 0) 3 (Rp.int .i64) ([])]) (List.nil_sublist _) (List.Sublist.cons_cons _ (List.nil_sublist _))
    exact ⟨(Value.slice none 0 0), Aa, W⟩
   refine Ie tk 6 F W fun a w F W => ?_
   refine CQ (z := Value.int .i64 0) (cs := [.int .i64 x7.1]) (Rp.int .i64) ([x7.1] : List Int) F W Aa HT Z3 Aa Aa Aa Aa Aa Aa (Fl.int.repL _ _ ([x7.1] : List Int)) fun v9 a w F W => ?_
   obtain ⟨x9, h10, H⟩ := Ad H
   refine Cp (r := (Rp.int .i64)) (i := 1) F W Aa HT Aa Aa Aa Aa (Db W 0 Aa) h10 Aa fun v10 a w F W => ?_
   have W : Stw ⟨Y, [], w0⟩ [(b1, [.int .i64 p0.1, v1, v2])] [row v10 3 (Rp.int .i64) x9, row v9 3 (Rp.int .i64) ([x7.1] : List Int)] w := W
   refine Cc tk 7 F W fun a w F W => ?_
   refine Aq (Ac ?_)
   have W := W.sub (M' := [(b1, [.int .i64 p0.1, v1, v2])]) (Z' := [row v10 3 (Rp.int .i64) x9]) (List.Sublist.refl _) (List.Sublist.cons_cons _ (List.nil_sublist _))
   exact ⟨_, H, (v10), F.ra Aa, W⟩
  refine AJ ?_
  iterate 2 refine A6 ?_
  refine AM (Ac ?_)
  have H := L2 _ H
  exact ⟨_, (v7), H, F.ra Aa, W⟩
 rintro a w ⟨x1, v6, hj, F, W⟩
 have H := K1 _ hj
 clear hj G1 K1 L1
 refine vc tk 7 F W fun a w F W => ?_
 refine Ao ?_
 have H := AA H
 subst H
 refine N4 (.inl Aa) F W Aa (Al F Aa) (Al F Aa) ?_
 have W := W.sub (M' := []) (Z' := [row v6 3 (Rp.int .i64) x1]) (List.nil_sublist _) (List.Sublist.refl _)
 exact ⟨(v6), Aa, W⟩
theorem VH : Has Try.prog 28 := Ct Try.func28
noncomputable def C1 (p0 : Int × (List (Int × Int × Int × Int × Int × Int)) × (List (Int × Int))) (p1 : List (List Int)) (x2 : Int) (x3 : List Int) : Int → Option (Int ⊕ (Unit ⊕ (Int ⊕ (Unit ⊕ Bool))))
  | x4 => (if x4 < (x3.length : Int) then (ES p0 p1 x2 x4).bind fun x5 => (if x5.2 ≠ 0 then some (.inr (.inr (.inr (.inr false)))) else some (.inl (A7 (x4 + 1)))) else some (.inr (.inl ())))
noncomputable def Dv (p0 : Int × (List (Int × Int × Int × Int × Int × Int)) × (List (Int × Int))) (p1 : List (List Int)) : Int → Option (Int ⊕ (Unit ⊕ Bool))
  | x2 => (if x2 < (p1.length : Int) then EZ ((ix p1 x2).bind fun x3 => An (C1 p0 p1 x2 x3) 0) fun _ => some (.inl (A7 (x2 + 1))) else some (.inr (.inl ())))
noncomputable def DT (p0 : Int × (List (Int × Int × Int × Int × Int × Int)) × (List (Int × Int))) (p1 : List (List Int)) : Option Bool := (Eu p0 p1).bind fun x1 => (if (!x1) = true then some false else EZ (An (Dv p0 p1) 0) fun _ => some true)
theorem HF (Y : Nat → Prop) (w0 : World) (v1 : Value) (v2 : Value) (v3 : Value) (p0 : Int × (List (Int × Int × Int × Int × Int × Int)) × (List (Int × Int))) (p1 : List (List Int)) (r : Bool) (H : DT p0 p1 = some r) (h_v1 : Sl w0 (NX []) Gn v1 p0.2.1) (h_v2 : Sl w0 (NX []) GE v2 p0.2.2) (h_v3 : Sl w0 (NX []) (Rp.slice (Rp.int .i64)) v3 p1) :
    Calls Try.prog 13 #[.agg #[.int .i64 p0.1, v1, v2], v3] w0 fun e w' => e = .returned (.bool r) ∧ Below w0.heap.size w0 w' := by
 refine enter Try.func13 Aa Try.ntmps13 Aa fun a F => ?_
 have W := Stw.start Y w0
 obtain ⟨v4, h1, h_v3⟩ := h_v3.ex Bn
 unfold DT at H
 refine vc tk 2 F W fun a w F W => ?_
 refine Cq (cs := [.int .i64 p0.1, v1, v2]) F W Aa Aa Aa fun b1 a w F W => ?_
 refine JK tk 8 [0] F W (ai fun a w F W => ?_)
 obtain ⟨x1, h2, H⟩ := Ad H
 refine ls F W Aa (AW (v := Value.bool x1) F WF Aa (fun w W => LK any w (v1) (v2) (v3) p0 p1 _ h2 (CW (Ab h_v1) W) (CW (Ab h_v2) W) (CW (Ak Bn h1 (Ab h_v3)) W))) fun a w F W => ?_
 refine Cc tk 3 F W fun a w F W => ?_
 refine D8 F Aa H (fun F H => ?_) fun F H => ?_
 ·
  refine vc tk 5 F W fun a w F W => ?_
  refine Ao (AN ?_)
  have H := AA H
  subst H
  refine AG (.inl Aa) F W Aa (Al F Aa) ?_
  exact ⟨rfl, W.done⟩
 refine AD (Ac ?_)
 obtain ⟨o1, G1, K1, L1⟩ := L9 H
 refine Av (fun a w => some (Sum.inl ()) = some o1 ∧ Fr 38 [] [(4, .bool false)] a ∧ Stw ⟨Y, [], w0⟩ [(b1, [.int .i64 p0.1, v1, v2])] [] w) ?_ ?_
 ·
  have H := G1
  clear G1 K1
  refine vc tk 3 F W fun a w F W => ?_
  refine ls F W Aa (A0 (r := (Rp.slice (Rp.int .i64))) (l := p1) I7 Aa F Aa (Ak Bn h1 (Ab h_v3))).q fun a w F W => ?_
  refine Cc tk 4 F W fun a w F W => ?_
  refine AP H (fun s a w => Fr 38 [] [(1, v3), (2, .pointer (some ⟨b1, 0, none⟩)), (4, .bool false), (14, v3), (15, .int .i64 (p1.length : Int)), (16, .int .i64 s)] a ∧ Stw ⟨Y, [], w0⟩ [(b1, [.int .i64 p0.1, v1, v2])] [] w) ⟨F.ra Aa, W⟩ fun s o a w H L2 hR => ?_
  obtain ⟨x2, rfl⟩ : ∃ x, x = s := ⟨s, rfl⟩
  obtain ⟨F, W⟩ := hR
  have F : Fr 38 [] [(1, v3), (2, .pointer (some ⟨b1, 0, none⟩)), (4, .bool false), (14, v3), (15, .int .i64 (p1.length : Int)), (16, .int .i64 x2)] a := F
  have W : Stw ⟨Y, [], w0⟩ [(b1, [.int .i64 p0.1, v1, v2])] [] w := W
  rw [Dv] at H
  refine vc tk 6 F W fun a w F W => ?_
  refine A3 F Aa H (fun F H => ?_) fun F H => ?_
  ·
   refine AD (Ac ?_)
   obtain ⟨o3, G3, K3, L3⟩ := L9 H
   refine Av (fun a w => some (Sum.inl ()) = some o3 ∧ Fr 38 [] [(1, v3), (2, .pointer (some ⟨b1, 0, none⟩)), (4, .bool false), (14, v3), (15, .int .i64 (p1.length : Int)), (16, .int .i64 x2)] a ∧ Stw ⟨Y, [], w0⟩ [(b1, [.int .i64 p0.1, v1, v2])] [] w) ?_ ?_
   ·
    have H := G3
    clear G3 K3
    refine vc tk 4 F W fun a w F W => ?_
    obtain ⟨x3, h3, H⟩ := Ad H
    obtain ⟨v5, h4, h5⟩ := CE h1 h3
    have h6 : Em v5 = [(v5.1)] := congrArg (fun q : List Int => ([(v5.1)] : List Value)) h5
    refine ls F W Aa (Aw (r := (Rp.vsl (Rp.int .i64))) LF F Aa Aa (Ab h_v3) h4).q fun a w F W => ?_
    refine ls F W Aa (Ai (y := (v5.1)) (j := 0) (i := x2) (enc := Em) F Aa Aa (Ab h_v3) h4 Ik Kj (by rw [h6]; rfl)).q fun a w F W => ?_
    refine Cc tk 7 F W fun a w F W => ?_
    refine ls F W Aa (A0 (r := (Rp.int .i64)) (l := x3) GS Aa F Aa (BE (Ab h_v3) h4 Cd.here (congrArg (fun q : List Int => q) h5))).q fun a w F W => ?_
    refine Cc tk 4 F W fun a w F W => ?_
    refine AP H (fun s a w => Fr 38 [] [(1, v3), (2, .pointer (some ⟨b1, 0, none⟩)), (4, .bool false), (5, .int .i64 x2), (14, v3), (15, .int .i64 (p1.length : Int)), (16, .int .i64 x2), (22, .int .i64 (x3.length : Int)), (23, .int .i64 s)] a ∧ Stw ⟨Y, [], w0⟩ [(b1, [.int .i64 p0.1, v1, v2])] [] w) ⟨F.ra Aa, W⟩ fun s o a w H L4 hR => ?_
    obtain ⟨x4, rfl⟩ : ∃ x, x = s := ⟨s, rfl⟩
    obtain ⟨F, W⟩ := hR
    have F : Fr 38 [] [(1, v3), (2, .pointer (some ⟨b1, 0, none⟩)), (4, .bool false), (5, .int .i64 x2), (14, v3), (15, .int .i64 (p1.length : Int)), (16, .int .i64 x2), (22, .int .i64 (x3.length : Int)), (23, .int .i64 x4)] a := F
    have W : Stw ⟨Y, [], w0⟩ [(b1, [.int .i64 p0.1, v1, v2])] [] w := W
    rw [C1] at H
    refine vc tk 6 F W fun a w F W => ?_
    refine A3 F Aa H (fun F H => ?_) fun F H => ?_
    ·
     refine MY tk 16 [0] F W (ai fun a w F W => ?_)
     obtain ⟨x5, h7, H⟩ := Ad H
     refine CJ (Ml := []) (Zl := []) (β := Value) (rv := fun x => .tuple #[x, .int .i64 x5.2]) (MM := fun x => []) (ZZ := fun x => [row x 3 (Rp.int .i64) x5.1]) F W VH Aa Aa (fun hL => Mt _ w (v1) (v2) (v3) p0 p1 x2 x4 _ h7 ((Ab h_v1) w W).nx ((Ab h_v2) w W).nx ((Ak Bn h1 (Ab h_v3)) w W).nx) fun x a w F W => ?_
     obtain ⟨v6, rfl⟩ : ∃ y, y = x := ⟨x, rfl⟩
     have W : Stw ⟨Y, [], w0⟩ [(b1, [.int .i64 p0.1, v1, v2])] [row v6 3 (Rp.int .i64) x5.1] w := W
     refine ls F W Aa (Am F Aa).q fun a w F W => ?_
     refine ls F W Aa (CC (v := v6) F Aa Aa).q fun a w F W => ?_
     refine ls F W Aa (CC (v := Value.int .i64 x5.2) F Aa Aa).q fun a w F W => ?_
     refine Cc tk 10 F W fun a w F W => ?_
     refine A3 F Aa H (fun F H => ?_) fun F H => ?_
     ·
      refine vc tk 5 F W fun a w F W => ?_
      refine Ao (AR ?_)
      iterate 2 refine AN ?_
      iterate 2 refine AR ?_
      iterate 2 refine AN ?_
      refine AR (AN ?_)
      have H := L4 _ H
      have H := L3 _ H
      have H := L2 _ H
      have H := L1 _ H
      have H := AA H
      subst H
      refine AG (.inl Aa) F W Aa (Al F Aa) ?_
      exact ⟨rfl, W.done⟩
     refine AD (Aq ?_)
     refine vn tk 4 F W fun a w F W => ?_
     refine Ac ?_
     have W := W.sub (M' := [(b1, [.int .i64 p0.1, v1, v2])]) (Z' := []) (List.Sublist.refl _) (List.nil_sublist _)
     exact ⟨_, H, F.ra Aa, W⟩
    refine AJ ?_
    iterate 2 refine A6 ?_
    refine AM (Aq (Ac ?_))
    have H := L4 _ H
    exact ⟨H, F.ra Aa, W⟩
   rintro a w ⟨hj, F, W⟩
   have H := K3 _ hj
   clear hj G3 K3 L3
   refine vc tk 4 F W fun a w F W => ?_
   refine Ac ?_
   exact ⟨_, H, F.ra Aa, W⟩
  refine AJ ?_
  iterate 2 refine A6 ?_
  refine AM (Ac ?_)
  have H := L2 _ H
  exact ⟨H, F.ra Aa, W⟩
 rintro a w ⟨hj, F, W⟩
 have H := K1 _ hj
 clear hj G1 K1 L1
 refine vc tk 5 F W fun a w F W => ?_
 refine Ao ?_
 have H := AA H
 subst H
 refine AG (.inl Aa) F W Aa (Al F Aa) ?_
 exact ⟨rfl, W.done⟩
theorem Mp : type_of% Try.underlying35 := Try.underlying35
theorem Sj : type_of% Try.underlying37 := Try.underlying37
theorem RG : type_of% Try.underlying38 := Try.underlying38
theorem Uc : type_of% Try.underlying58 := Try.underlying58
theorem Q7 : type_of% Try.underlying61 := Try.underlying61
theorem Vk : Has Try.prog 13 := Ct Try.func13
theorem Ts : Bt Try.prog 58 [.int .i64 0, .int .i64 0, .int .i64 0] [(0, 1), (1, 1), (2, 1)] := ⟨⟨.agg #[.int .i64 0, .int .i64 0, .int .i64 0], by kernel_rfl, rfl⟩, ⟨_, Uc, fun w => by kernel_rfl⟩⟩
theorem Tb : (Try.prog.info? 58).bind (·.zero) = some (.agg #[.int .i64 0, .int .i64 0, .int .i64 0]) := by kernel_rfl
abbrev Bw : Rp (Int × Int × Int) := (Rp.pair (Rp.int .i64) (Rp.pair (Rp.int .i64) (Rp.int .i64)))
def VM (a : Int × Int × Int) : List Value := [.int .i64 a.1, .int .i64 a.2.1, .int .i64 a.2.2]
theorem SA : Fl Bw VM := (Fl.pair Fl.int (Fl.pair Fl.int Fl.int))
theorem Nm : Et Try.prog 35 58 3 24 := Et.of Mp (by kernel_rfl) (by kernel_rfl) (by kernel_rfl) (by decide)
theorem TF : Ty Try.prog 40 true 6 := ⟨by kernel_rfl, by kernel_rfl⟩
theorem WV : Bt Try.prog 61 [.int .i64 0, .slice none 0 0, .slice none 0 0, .slice none 0 0, .slice none 0 0, .slice none 0 0, .slice none 0 0, .int .i64 0, .int .i64 0, .int .i64 0, .int .i64 0] [(0, 3), (3, 1), (4, 1), (5, 6)] := ⟨⟨.agg #[.int .i64 0, .slice none 0 0, .slice none 0 0, .slice none 0 0, .slice none 0 0, .slice none 0 0, .slice none 0 0, .int .i64 0, .int .i64 0, .int .i64 0, .int .i64 0], by kernel_rfl, rfl⟩, ⟨_, Q7, fun w => by kernel_rfl⟩⟩
theorem WG : (Try.prog.info? 61).bind (·.zero) = some (.agg #[.int .i64 0, .slice none 0 0, .slice none 0 0, .slice none 0 0, .slice none 0 0, .slice none 0 0, .slice none 0 0, .int .i64 0, .int .i64 0, .int .i64 0, .int .i64 0]) := by kernel_rfl
theorem SN : Ty Try.prog 61 true 11 := ⟨by kernel_rfl, by kernel_rfl⟩
theorem UI : Ty Try.prog 27 false 1 := ⟨by kernel_rfl, by kernel_rfl⟩
theorem TR : Et Try.prog 37 78 4 32 := Et.of Sj (by kernel_rfl) (by kernel_rfl) (by kernel_rfl) (by decide)
def WN (a : Int × Int × Int × Int) : List Value := [.int .i64 a.1, .int .i64 a.2.1, .int .i64 a.2.2.1, .int .i64 a.2.2.2]
theorem UE : Fl Hg WN := (Fl.pair Fl.int (Fl.pair Fl.int (Fl.pair Fl.int Fl.int)))
theorem Sc : Ty Try.prog 78 true 4 := ⟨by kernel_rfl, by kernel_rfl⟩
theorem UL : (Try.prog.info? 78).bind (·.zero) = some (.agg #[.int .i64 0, .int .i64 0, .int .i64 0, .int .i64 0]) := by kernel_rfl
theorem Sp : Ty Try.prog 38 false 1 := ⟨by kernel_rfl, by kernel_rfl⟩
abbrev MF (a : Int × Int × (Value × List Int)) : List Value := [.int .i64 a.1, .int .i64 a.2.1, a.2.2.1]
theorem R3 : GB PN MF := (GB.pair Fl.int.to (GB.pair Fl.int.to GB.vsl))
theorem TE : Et Try.prog 38 65 3 40 := Et.of RG (by kernel_rfl) (by kernel_rfl) (by kernel_rfl) (by decide)
theorem UN : Ty Try.prog 65 true 3 := ⟨by kernel_rfl, by kernel_rfl⟩
noncomputable def BC (p0 : List Int) (p1 : Int) : Int → Option (Int ⊕ (Unit ⊕ Int))
  | x1 => (if x1 < (p0.length : Int) then (ix p0 x1).bind fun x2 => (if p1 = x2 then some (.inr (.inr x1)) else some (.inl (A7 (x1 + 1)))) else some (.inr (.inl ())))
noncomputable def Cn (p0 : List Int) (p1 : Int) : Option Int := EZ (An (BC p0 p1) 0) fun _ => some (-1)
theorem HI (Y : Nat → Prop) (w0 : World) (v1 : Value) (p0 : List Int) (p1 : Int) (r : Int) (H : Cn p0 p1 = some r) (h_v1 : Sl w0 (NX []) (Rp.int .i64) v1 p0) :
    Calls Try.prog 78 #[v1, .int .i64 p1] w0 fun e w' => e = .returned (.int .i64 r) ∧ Below w0.heap.size w0 w' := by
 refine enter Try.func78 Aa Try.ntmps78 Aa fun a F => ?_
 have W := Stw.start Y w0
 unfold Cn at H
 refine vc tk 5 F W fun a w F W => ?_
 obtain ⟨o1, G1, K1, L1⟩ := L9 H
 refine Av (fun a w => some (Sum.inl ()) = some o1 ∧ Fr 19 [] [(4, .int .i64 0)] a ∧ Stw ⟨Y, [], w0⟩ [] [] w) ?_ ?_
 ·
  have H := G1
  clear G1 K1
  refine vc tk 3 F W fun a w F W => ?_
  refine ls F W Aa (A0 (r := (Rp.int .i64)) (l := p0) GS Aa F Aa (Ab h_v1)).q fun a w F W => ?_
  refine Cc tk 4 F W fun a w F W => ?_
  refine AP H (fun s a w => Fr 19 [] [(0, v1), (1, .int .i64 p1), (4, .int .i64 0), (7, .int .i64 (p0.length : Int)), (8, .int .i64 s)] a ∧ Stw ⟨Y, [], w0⟩ [] [] w) ⟨F.ra Aa, W⟩ fun s o a w H L2 hR => ?_
  obtain ⟨x1, rfl⟩ : ∃ x, x = s := ⟨s, rfl⟩
  obtain ⟨F, W⟩ := hR
  have F : Fr 19 [] [(0, v1), (1, .int .i64 p1), (4, .int .i64 0), (7, .int .i64 (p0.length : Int)), (8, .int .i64 x1)] a := F
  have W : Stw ⟨Y, [], w0⟩ [] [] w := W
  rw [BC] at H
  refine vc tk 6 F W fun a w F W => ?_
  refine A3 F Aa H (fun F H => ?_) fun F H => ?_
  ·
   refine Ie tk 15 F W fun a w F W => ?_
   obtain ⟨x2, h1, H⟩ := Ad H
   refine ls F W Aa (Aw (r := (Rp.int .i64)) HT F Aa Aa (Ab h_v1) h1).q fun a w F W => ?_
   refine ls F W Aa (Ai (y := Value.int .i64 x2) (j := 0) (i := x1) F Aa Aa (Ab h_v1) h1 Fl.int.to T3 Aa).q fun a w F W => ?_
   refine Cc tk 3 F W fun a w F W => ?_
   refine A3 F Aa H (fun F H => ?_) fun F H => ?_
   ·
    refine vc tk 6 F W fun a w F W => ?_
    refine Ao (AR ?_)
    iterate 2 refine AN ?_
    refine AR (AN ?_)
    have H := L2 _ H
    have H := L1 _ H
    have H := AA H
    subst H
    refine AG (.inl Aa) F W Aa (Al F Aa) ?_
    exact ⟨rfl, W.done⟩
   refine AD (Aq ?_)
   refine vn tk 4 F W fun a w F W => ?_
   refine Ac ?_
   exact ⟨_, H, F.ra Aa, W⟩
  refine AJ ?_
  iterate 2 refine A6 ?_
  refine AM (Ac ?_)
  have H := L2 _ H
  exact ⟨H, F.ra Aa, W⟩
 rintro a w ⟨hj, F, W⟩
 have H := K1 _ hj
 clear hj G1 K1 L1
 refine vc tk 5 F W fun a w F W => ?_
 refine Ao ?_
 have H := AA H
 subst H
 refine AG (.inl Aa) F W Aa (Al F Aa) ?_
 exact ⟨rfl, W.done⟩
theorem V8 : Has Try.prog 78 := Ct Try.func78
noncomputable def BB (p0 : List Int) (p1 : Int) : Option Bool := (Cn p0 p1).bind fun x1 => some (decide (0 ≤ x1))
theorem GF (Y : Nat → Prop) (w0 : World) (v1 : Value) (p0 : List Int) (p1 : Int) (r : Bool) (H : BB p0 p1 = some r) (h_v1 : Sl w0 (NX []) (Rp.int .i64) v1 p0) :
    Calls Try.prog 61 #[v1, .int .i64 p1] w0 fun e w' => e = .returned (.bool r) ∧ Below w0.heap.size w0 w' := by
 refine enter Try.func61 Aa Try.ntmps61 Aa fun a F => ?_
 have W := Stw.start Y w0
 unfold BB at H
 refine vc tk 9 F W fun a w F W => ?_
 obtain ⟨x1, h1, H⟩ := Ad H
 refine ls F W Aa (AW (v := Value.int .i64 x1) F V8 Aa (fun w W => HI any w (v1) p0 p1 _ h1 (CW (Ab h_v1) W))) fun a w F W => ?_
 refine Cc tk 4 F W fun a w F W => ?_
 refine Ao ?_
 have H := AA H
 subst H
 refine AG (.inl Aa) F W Aa (Al F Aa) ?_
 exact ⟨rfl, W.done⟩
end Go.Proofs.Ythhoflfhegfmcaa
