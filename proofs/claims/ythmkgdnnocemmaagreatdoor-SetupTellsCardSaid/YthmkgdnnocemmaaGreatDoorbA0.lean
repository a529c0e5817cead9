/- The functions of layer 40, GQ. Conditions: none. -/
import Derived.Test.YthmkgdnnocemmaaGreatDoorRows
import Derived.Test.YthmkgdnnocemmaaGreatDoorbOB
import Derived.Test.YthmkgdnnocemmaaGreatDoorbOG
import Derived.Test.YthmkgdnnocemmaaGreatDoorbOT
import Derived.Test.YthmkgdnnocemmaaGreatDoorbOD
import Derived.Test.YthmkgdnnocemmaaGreatDoorbOY
import Derived.Test.YthmkgdnnocemmaaGreatDoorbOC
import Derived.Test.YthmkgdnnocemmaaGreatDoorbVC
import Derived.Test.YthmkgdnnocemmaaGreatDoorbOY
import Derived.Test.YthmkgdnnocemmaaGreatDoorbOX
namespace Go.Proofs.YthmkgdnnocemmaaGreatDoor
open Go Go.RowKit
set_option linter.unusedVariables false
set_option linter.unusedSimpArgs false
set_option maxRecDepth 20000
def TQ : Tt := ([(25, [(0, false, 1), (1, false, 1), (2, false, 1)]), (29, [(0, true, 3), (3, false, 1), (4, false, 1), (5, false, 1), (6, false, 1), (7, false, 1), (8, false, 1), (9, false, 1), (10, false, 1)]), (45, [(0, false, 1), (1, false, 1)]), (50, [(0, false, 1), (1, false, 1), (2, false, 1), (3, false, 1), (4, false, 1), (5, false, 1)]), (52, [(0, false, 1), (1, false, 1)]), (81, [(0, false, 1)])], [(3, false, 1), (9, false, 1), (22, false, 1), (23, false, 1), (26, false, 1), (27, false, 1), (29, true, 11)])
theorem tk : TtOk Tryz.prog TQ := ⟨by kernel_rfl, by kernel_rfl⟩
theorem Kh : type_of% Tryz.underlying22 := Tryz.underlying22
theorem Kl : type_of% Tryz.underlying23 := Tryz.underlying23
theorem Gn : type_of% Tryz.underlying25 := Tryz.underlying25
theorem JB : type_of% Tryz.underlying26 := Tryz.underlying26
theorem Jg : type_of% Tryz.underlying27 := Tryz.underlying27
theorem Dj : type_of% Tryz.underlying29 := Tryz.underlying29
theorem Kf : type_of% Tryz.underlying40 := Tryz.underlying40
abbrev AV : Rp (Int × Int × Int × Int × Int × Int) := (Rp.pair (Rp.int .i64) (Rp.pair (Rp.int .i64) (Rp.pair (Rp.int .i64) (Rp.pair (Rp.int .i64) (Rp.pair (Rp.int .i64) (Rp.int .i64))))))
abbrev A3 : Rp (Int × Int) := (Rp.pair (Rp.int .i64) (Rp.int .i64))
abbrev SU (p : Value × List Int) : List Int := p.2
theorem D4 : Ex (Rp.slice (Rp.int .u64)) (Rp.vsl (Rp.int .u64)) SU := Ex.sliceF
theorem ET : Ty Tryz.prog 29 true 11 := ⟨by kernel_rfl, by kernel_rfl⟩
theorem NA : Ty Tryz.prog 26 false 1 := ⟨by kernel_rfl, by kernel_rfl⟩
abbrev Hw (a : Value × List Int) : List Value := [a.1]
theorem LS : Kq (Rp.vsl (Rp.int .u64)) Hw := Kq.vsl
theorem NW : Et Tryz.prog 26 40 1 24 := Et.of JB (by kernel_rfl) (by kernel_rfl) (by kernel_rfl) (by decide)
theorem QL : Ty Tryz.prog 40 false 1 := ⟨by kernel_rfl, by kernel_rfl⟩
theorem KB : Ty Tryz.prog 25 true 3 := ⟨by kernel_rfl, by kernel_rfl⟩
theorem MA : Ty Tryz.prog 22 false 1 := ⟨by kernel_rfl, by kernel_rfl⟩
theorem KM : Ty Tryz.prog 23 false 1 := ⟨by kernel_rfl, by kernel_rfl⟩
theorem QJ : Ty Tryz.prog 27 false 1 := ⟨by kernel_rfl, by kernel_rfl⟩
abbrev BP (a0 : (Int × (List (Int × Int × Int × Int × Int × Int)) × (List (Int × Int))) × List (List Int) × List Int × Int × Int × Int × Int × Int × Int) (a1 : Value) (a2 : Value) (a3 : Value) (a4 : Value) : List Value := [.int .i64 a0.1.1, a1, a2, a3, a4, .int .i64 a0.2.2.2.1, .int .i64 a0.2.2.2.2.1, .int .i64 a0.2.2.2.2.2.1, .int .i64 a0.2.2.2.2.2.2.1, .int .i64 a0.2.2.2.2.2.2.2.1, .int .i64 a0.2.2.2.2.2.2.2.2]
abbrev Cd (a0 : Nat) (a1 : (Int × (List (Int × Int × Int × Int × Int × Int)) × (List (Int × Int))) × List (List Int) × List Int × Int × Int × Int × Int × Int × Int) (a2 : Value) (a3 : Value) (a4 : Value) (a5 : Value) : List (Nat × List Value) := [(a0, [.int .i64 a1.1.1, a2, a3, a4, a5, .int .i64 a1.2.2.2.1, .int .i64 a1.2.2.2.2.1, .int .i64 a1.2.2.2.2.2.1, .int .i64 a1.2.2.2.2.2.2.1, .int .i64 a1.2.2.2.2.2.2.2.1, .int .i64 a1.2.2.2.2.2.2.2.2])]
noncomputable def EL (p0 : (Int × (List (Int × Int × Int × Int × Int × Int)) × (List (Int × Int))) × List (List Int) × List Int × Int × Int × Int × Int × Int × Int) : Int → Option (Int ⊕ (Unit ⊕ Bool))
  | x1 => (if x1 < (p0.2.1.length : Int) then (ix p0.2.1 x1).bind fun x2 => (if 30 < (x2.length : Int) then some (.inr (.inr false)) else some (.inl (BD (x1 + 1)))) else some (.inr (.inl ())))
noncomputable def FT (p0 : (Int × (List (Int × Int × Int × Int × Int × Int)) × (List (Int × Int))) × List (List Int) × List Int × Int × Int × Int × Int × Int × Int) : Option Bool := ES (Av (EL p0) 0) fun _ => some (decide ((p0.1.2.1.length : Int) ≤ 30) && (decide ((p0.1.2.2.length : Int) ≤ 30) && (decide ((p0.2.1.length : Int) ≤ 10) && decide ((p0.2.2.1.length : Int) ≤ 30))))
theorem I3 (Y : Nat → Prop) (w0 : World) (v1 : Value) (v2 : Value) (v3 : Value) (v4 : Value) (p0 : (Int × (List (Int × Int × Int × Int × Int × Int)) × (List (Int × Int))) × List (List Int) × List Int × Int × Int × Int × Int × Int × Int) (r : Bool) (H : FT p0 = some r) (h_v1 : Sl w0 (NX []) AV v1 p0.1.2.1) (h_v2 : Sl w0 (NX []) A3 v2 p0.1.2.2) (h_v3 : Sl w0 (NX []) (Rp.slice (Rp.int .u64)) v3 p0.2.1) (h_v4 : Sl w0 (NX []) (Rp.int .i64) v4 p0.2.2.1) :
    Calls Tryz.prog 4 #[.agg #[.int .i64 p0.1.1, v1, v2, v3, v4, .int .i64 p0.2.2.2.1, .int .i64 p0.2.2.2.2.1, .int .i64 p0.2.2.2.2.2.1, .int .i64 p0.2.2.2.2.2.2.1, .int .i64 p0.2.2.2.2.2.2.2.1, .int .i64 p0.2.2.2.2.2.2.2.2]] w0 fun e w' => e = .returned (.bool r) ∧ Below w0.heap.size w0 w' := by
 refine enter Tryz.func4 Aa Tryz.ntmps4 Aa fun a W => ?_
 have F := Stw.start Y w0
 obtain ⟨v5, h1, h_v3⟩ := h_v3.ex D4
 unfold FT at H
 refine vc tk 2 W F fun a w W F => ?_
 refine GU (cs := (BP p0 v1 v2 v3 v4)) W F Aa Aa Aa fun b1 a w W F => ?_
 refine vl tk 2 W F fun a w W F => ?_
 refine Ac ?_
 obtain ⟨o1, G1, K1, L1⟩ := HU H
 refine Aw (fun a w => some (Sum.inl ()) = some o1 ∧ Fr 42 [] [(1, .pointer (some ⟨b1, 0, none⟩)), (2, .bool false)] a ∧ Stw ⟨Y, [], w0⟩ (Cd b1 p0 v1 v2 v3 v4) [] w) ?_ ?_
 ·
  have H := G1
  clear G1 K1
  refine vc tk 6 W F fun a w W F => ?_
  refine Bl H (fun s a w => Fr 42 [] [(1, .pointer (some ⟨b1, 0, none⟩)), (2, .bool false), (3, .int .i64 s)] a ∧ Stw ⟨Y, [], w0⟩ (Cd b1 p0 v1 v2 v3 v4) [] w) ⟨W.ra Aa, F⟩ fun s o a w H L2 hR => ?_
  obtain ⟨x1, rfl⟩ : ∃ x, x = s := ⟨s, rfl⟩
  obtain ⟨W, F⟩ := hR
  have W : Fr 42 [] [(1, .pointer (some ⟨b1, 0, none⟩)), (2, .bool false), (3, .int .i64 x1)] a := W
  have F : Stw ⟨Y, [], w0⟩ (Cd b1 p0 v1 v2 v3 v4) [] w := F
  rw [EL] at H
  refine Ib tk 6 [0] W F (ai fun a w W F => ?_)
  refine ls W F Aa (BN (r := (Rp.slice (Rp.int .u64))) (l := p0.2.1) JB Aa W Aa (B9 D4 h1 (Ah h_v3))).q fun a w W F => ?_
  refine vl tk 2 W F fun a w W F => ?_
  refine Ac ?_
  refine Bq W Aa H (fun W H => ?_) fun W H => ?_
  ·
   refine ON tk 9 [0] W F (ai fun a w W F => ?_)
   obtain ⟨x2, h2, H⟩ := Ae H
   obtain ⟨v6, h3, h4⟩ := I5 h1 h2
   have h5 : Hw v6 = [(v6.1)] := congrArg (fun q : List Int => ([(v6.1)] : List Value)) h4
   refine ls W F Aa (AR (r := (Rp.vsl (Rp.int .u64))) NW W Aa Aa (Ah h_v3) h3).q fun a w W F => ?_
   refine ls W F Aa (An (y := (v6.1)) (j := 0) (i := x1) (enc := Hw) W Aa Aa (Ah h_v3) h3 LS QL (by rw [h5]; rfl)).q fun a w W F => ?_
   refine ls W F Aa (BN (r := (Rp.int .u64)) (l := x2) Kf Aa W Aa (F4 (Ah h_v3) h3 HL.here (congrArg (fun q : List Int => q) h4))).q fun a w W F => ?_
   refine vl tk 2 W F fun a w W F => ?_
   refine Ac ?_
   refine Bq W Aa H (fun W H => ?_) fun W H => ?_
   ·
    refine vc tk 5 W F fun a w W F => ?_
    refine Ax (AU ?_)
    iterate 2 refine Az ?_
    refine AU (Az ?_)
    have H := L2 _ H
    have H := L1 _ H
    have H := AA H
    subst H
    refine BB (.inl Aa) W F Aa (Ao W Aa) ?_
    exact ⟨rfl, F.done⟩
   refine Bp (AB ?_)
   refine vn tk 5 W F fun a w W F => ?_
   refine Ac ?_
   exact ⟨_, H, W.ra Aa, F⟩
  refine A1 ?_
  iterate 2 refine BC ?_
  refine Bb (Ac ?_)
  have H := L2 _ H
  exact ⟨H, W.ra Aa, F⟩
 rintro a w ⟨hj, W, F⟩
 have H := K1 _ hj
 clear hj G1 K1 L1
 refine Aw (fun a w => Fr 42 [] [(2, .bool (decide ((p0.1.2.1.length : Int) ≤ 30) && (decide ((p0.1.2.2.length : Int) ≤ 30) && (decide ((p0.2.1.length : Int) ≤ 10) && decide ((p0.2.2.1.length : Int) ≤ 30)))))] a ∧ Stw ⟨Y, [], w0⟩ (Cd b1 p0 v1 v2 v3 v4) [] w) ?_ ?_
 ·
  refine Ib tk 4 [0] W F (ai fun a w W F => ?_)
  refine ls W F Aa (BN (r := AV) (l := p0.1.2.1) Kh Aa W Aa (Ah h_v1)).q fun a w W F => ?_
  refine vl tk 2 W F fun a w W F => ?_
  rcases Bool.eq_false_or_eq_true (decide ((p0.1.2.1.length : Int) ≤ 30)) with hb0 | hb0
  ·
   rw [hb0] at W
   refine LA tk 3 [0] W F (ai fun a w W F => ?_)
   refine Cw W F (Ag W Aa Aa Aa Aa) Aa (Bi Aa) (BN (r := A3) (l := p0.1.2.2) Kl Aa W Aa (Ah h_v2)).q fun a w W F => ?_
   refine vl tk 3 W F fun a w W F => ?_
   rcases Bool.eq_false_or_eq_true (decide ((p0.1.2.2.length : Int) ≤ 30)) with hb1 | hb1
   ·
    rw [hb1] at W
    refine LA tk 2 [0] W F (ai fun a w W F => ?_)
    refine Cw W F (Ag W Aa Aa Aa Aa) Aa (Bi Aa) (BN (r := (Rp.slice (Rp.int .u64))) (l := p0.2.1) JB Aa W Aa (B9 D4 h1 (Ah h_v3))).q fun a w W F => ?_
    refine vl tk 3 W F fun a w W F => ?_
    rcases Bool.eq_false_or_eq_true (decide ((p0.2.1.length : Int) ≤ 10)) with hb2 | hb2
    ·
     rw [hb2] at W
     refine LA tk 2 [0] W F (ai fun a w W F => ?_)
     refine Cw W F (Ag W Aa Aa Aa Aa) Aa (Bi Aa) (BN (r := (Rp.int .i64)) (l := p0.2.2.1) Jg Aa W Aa (Ah h_v4)).q fun a w W F => ?_
     refine vl tk 4 W F fun a w W F => ?_
     refine Ac ?_
     exact ⟨W.re ⟨(JR (by try rw [hb0]; try rw [hb1]; try rw [hb2]; all_goals simp only [JI])), trivial⟩, F⟩
    rw [hb2] at W
    refine vl tk 7 W F fun a w W F => ?_
    refine Ac ?_
    exact ⟨W.re ⟨(JR (by try rw [hb0]; try rw [hb1]; try rw [hb2]; all_goals simp only [JI])), trivial⟩, F⟩
   rw [hb1] at W
   refine vl tk 13 W F fun a w W F => ?_
   refine Ac ?_
   exact ⟨W.re ⟨(JR (by try rw [hb0]; try rw [hb1]; all_goals simp only [JI])), trivial⟩, F⟩
  rw [hb0] at W
  refine vl tk 20 W F fun a w W F => ?_
  refine Ac ?_
  exact ⟨W.re ⟨(JR (by try rw [hb0]; all_goals simp only [JI])), trivial⟩, F⟩
 rintro a w ⟨W, F⟩
 refine Ax ?_
 have H := AA H
 subst H
 refine BB (.inl Aa) W F Aa (Ao W Aa) ?_
 exact ⟨rfl, F.done⟩
theorem H4 : Has Tryz.prog 4 := ⟨fun args w => Af Tryz.func4 rfl (by decide) args w⟩
theorem TV : Bt Tryz.prog 25 [.int .i64 0, .slice none 0 0, .slice none 0 0] [(0, 1), (1, 1), (2, 1)] := ⟨⟨.agg #[.int .i64 0, .slice none 0 0, .slice none 0 0], by kernel_rfl, rfl⟩, ⟨_, Gn, fun w => by kernel_rfl⟩⟩
theorem S0 : (Tryz.prog.info? 41).bind (·.zero) = some (.int .u64 0) := by kernel_rfl
theorem Pn : Et Tryz.prog 40 41 1 8 := Et.of Kf (by kernel_rfl) (by kernel_rfl) (by kernel_rfl) (by decide)
theorem SJ : (Tryz.prog.info? 40).bind (·.zero) = some (.slice none 0 0) := by kernel_rfl
theorem Z3 : (Tryz.prog.info? 3).bind (·.zero) = some (.int .i64 0) := by kernel_rfl
theorem Fb : Et Tryz.prog 27 3 1 8 := Et.of Jg (by kernel_rfl) (by kernel_rfl) (by kernel_rfl) (by decide)
theorem SW : Bt Tryz.prog 29 [.int .i64 0, .slice none 0 0, .slice none 0 0, .slice none 0 0, .slice none 0 0, .int .i64 0, .int .i64 0, .int .i64 0, .int .i64 0, .int .i64 0, .int .i64 0] [(0, 3), (3, 1), (4, 1), (5, 1), (6, 1), (7, 1), (8, 1), (9, 1), (10, 1)] := ⟨⟨.agg #[.int .i64 0, .slice none 0 0, .slice none 0 0, .slice none 0 0, .slice none 0 0, .int .i64 0, .int .i64 0, .int .i64 0, .int .i64 0, .int .i64 0, .int .i64 0], by kernel_rfl, rfl⟩, ⟨_, Dj, fun w => by kernel_rfl⟩⟩
theorem P2 : (Tryz.prog.info? 29).bind (·.zero) = some (.agg #[.int .i64 0, .slice none 0 0, .slice none 0 0, .slice none 0 0, .slice none 0 0, .int .i64 0, .int .i64 0, .int .i64 0, .int .i64 0, .int .i64 0, .int .i64 0]) := by kernel_rfl
theorem T3 : Ty Tryz.prog 3 false 1 := ⟨by kernel_rfl, by kernel_rfl⟩
theorem Mz : Has Tryz.prog 24 := ⟨fun args w => Af Tryz.func24 rfl (by decide) args w⟩
theorem Ti : Has Tryz.prog 42 := ⟨fun args w => Af Tryz.func42 rfl (by decide) args w⟩
theorem Tl : Has Tryz.prog 27 := ⟨fun args w => Af Tryz.func27 rfl (by decide) args w⟩
noncomputable def Dq (p1 : List Int) : (Int × List UInt8) → Option ((Int × List UInt8) ⊕ (List UInt8))
  | (x3, x4) => (if x3 < (p1.length : Int) then (ix p1 x3).bind fun x5 => (JG x5).bind fun x6 => (Dg ([32] : List UInt8) x6).bind fun x7 => (Dg x4 x7).bind fun x8 => some (.inl (BD (x3 + 1), x8)) else some (.inr x4))
noncomputable def Bk (p0 : List UInt8) (p1 : List Int) : Option (List UInt8) := (Dg ([] : List UInt8) p0).bind fun x1 => (Av (Dq p1) (0, x1)).bind fun x2 => (Dg x2 ([10] : List UInt8)).bind fun x9 => (Lx x9).bind fun x10 => some x10
theorem CK (Y : Nat → Prop) (w0 : World) (v1 : Value) (p0 : List UInt8) (p1 : List Int) (r : List UInt8) (H : Bk p0 p1 = some r) (h_v1 : Sl w0 (NX []) (Rp.int .i64) v1 p1) (hG : Gk [] w0) :
    Calls Tryz.prog 25 #[.string (bs p0), v1] w0 fun e w' => e = .returned (.string (bs r)) ∧ Below w0.heap.size w0 w' := by
 refine enter Tryz.func25 Aa Tryz.ntmps25 Aa fun a W => ?_
 have F := Stw.start Y w0
 unfold Bk at H
 refine vc tk 2 W F fun a w W F => ?_
 refine ls W F Aa (Cc (v := Value.string (bs ([] : List UInt8))) W Aa).q fun a w W F => ?_
 refine C5 tk 4 W F fun a w W F => ?_
 refine Mi W F Aa fun b1 a w W F => ?_
 have F : Stw ⟨Y, [], w0⟩ [] [BL 65 5 b1 (Value.slice none 0 0) ([] : List UInt8)] w := F
 refine C5 tk 5 W F fun a w W F => ?_
 obtain ⟨x1, h1, H⟩ := Ae H
 refine AC (Ml := []) (Zl := [BL 65 5 b1 (Value.slice none 0 0) ([] : List UInt8)]) (M := []) (Z := []) (β := Value) (rv := fun x => .tuple #[.int .i64 (p0.length : Int), .nilIface]) (MM := fun x => []) (ZZ := fun x => [BL 65 5 b1 x x1]) W F Mz Aa Aa (fun hL => HI _ _ w b1 (Value.slice none 0 0) ([] : List UInt8) p0 _ h1 hL) fun v2 a w W F => ?_
 have F : Stw ⟨Y, [], w0⟩ [] [BL 65 5 b1 v2 x1] w := F
 refine CJ (Ac ?_)
 obtain ⟨o1, G1, K1⟩ := Ae H
 refine Aw (fun a w => ∃ x2 : List UInt8, ∃ v3 : Value, some (x2) = some o1 ∧ Fr 23 [] [(4, .string (bs ([] : List UInt8))), (5, .pointer (some ⟨b1, 0, none⟩))] a ∧ Stw ⟨Y, [], w0⟩ [] [BL 65 5 b1 v3 x2] w) ?_ ?_
 ·
  have H := G1
  clear G1 K1
  refine vc tk 3 W F fun a w W F => ?_
  refine ls W F Aa (BN (r := (Rp.int .i64)) (l := p1) Jg Aa W Aa (Ah h_v1)).q fun a w W F => ?_
  refine C5 tk 4 W F fun a w W F => ?_
  refine Bl H (fun s a w => ∃ v4 : Value, Fr 23 [] [(4, .string (bs ([] : List UInt8))), (5, .pointer (some ⟨b1, 0, none⟩)), (10, v1), (11, .int .i64 (p1.length : Int)), (12, .int .i64 s.1)] a ∧ Stw ⟨Y, [], w0⟩ [] [BL 65 5 b1 v4 s.2] w) ⟨v2, W.ra Aa, F⟩ fun s o a w H L2 hR => ?_
  obtain ⟨x3, x4⟩ := s
  obtain ⟨v4, W, F⟩ := hR
  have W : Fr 23 [] [(4, .string (bs ([] : List UInt8))), (5, .pointer (some ⟨b1, 0, none⟩)), (10, v1), (11, .int .i64 (p1.length : Int)), (12, .int .i64 x3)] a := W
  have F : Stw ⟨Y, [], w0⟩ [] [BL 65 5 b1 v4 x4] w := F
  rw [Dq] at H
  refine vc tk 6 W F fun a w W F => ?_
  refine Bq W Aa H (fun W H => ?_) fun W H => ?_
  ·
   refine Ek tk 6 W F fun a w W F => ?_
   obtain ⟨x5, h2, H⟩ := Ae H
   refine ls W F Aa (AR (r := (Rp.int .i64)) Fb W Aa Aa (Ah h_v1) h2).q fun a w W F => ?_
   refine ls W F Aa (An (y := Value.int .i64 x5) (j := 0) (i := x3) W Aa Aa (Ah h_v1) h2 Fl.int.to T3 Aa).q fun a w W F => ?_
   refine C5 tk 5 W F fun a w W F => ?_
   obtain ⟨x6, h3, H⟩ := Ae H
   refine ls W F Aa (AE (v := Value.string (bs x6)) W Ti Aa (fun w F => Ow any w x5 _ h3 (hG.go0 F))) fun a w W F => ?_
   obtain ⟨x7, h4, H⟩ := Ae H
   refine ls W F Aa (DB (l := ([32] : List UInt8)) (m := x6) W Aa Aa h4).q fun a w W F => ?_
   obtain ⟨x8, h5, H⟩ := Ae H
   refine AC (Ml := []) (Zl := [BL 65 5 b1 v4 x4]) (M := []) (Z := []) (β := Value) (rv := fun x => .tuple #[.int .i64 (x7.length : Int), .nilIface]) (MM := fun x => []) (ZZ := fun x => [BL 65 5 b1 x x8]) W F Mz Aa Aa (fun hL => HI _ _ w b1 v4 x4 x7 _ h5 hL) fun v5 a w W F => ?_
   have F : Stw ⟨Y, [], w0⟩ [] [BL 65 5 b1 v5 x8] w := F
   refine CJ (AB ?_)
   refine vn tk 4 W F fun a w W F => ?_
   refine Ac ?_
   exact ⟨_, H, v5, W.ra Aa, F⟩
  refine A1 ?_
  iterate 2 refine BC ?_
  refine Bb (Ac ?_)
  have H := L2 _ H
  exact ⟨_, v4, H, W.ra Aa, F⟩
 rintro a w ⟨x2, v3, hj, W, F⟩
 have hj := AA hj
 subst hj
 have H := K1
 clear G1 K1
 refine vc tk 2 W F fun a w W F => ?_
 obtain ⟨x9, h6, H⟩ := Ae H
 refine AC (Ml := []) (Zl := [BL 65 5 b1 v3 x2]) (M := []) (Z := []) (β := Value) (rv := fun x => .tuple #[.int .i64 (([10] : List UInt8).length : Int), .nilIface]) (MM := fun x => []) (ZZ := fun x => [BL 65 5 b1 x x9]) W F Mz Aa Aa (fun hL => HI _ _ w b1 v3 x2 ([10] : List UInt8) _ h6 hL) fun v6 a w W F => ?_
 have F : Stw ⟨Y, [], w0⟩ [] [BL 65 5 b1 v6 x9] w := F
 refine C5 tk 4 W F fun a w W F => ?_
 obtain ⟨x10, h7, H⟩ := Ae H
 refine AC (Ml := []) (Zl := [BL 65 5 b1 v6 x9]) (M := []) (Z := []) (β := Unit) (rv := fun x => .string (bs x10)) (MM := fun x => []) (ZZ := fun x => [BL 65 5 b1 v6 x9]) W F Tl Aa Aa (fun hL => Sb _ _ w b1 v6 x9 _ h7 hL) fun _ a w W F => ?_
 have F : Stw ⟨Y, [], w0⟩ [] [BL 65 5 b1 v6 x9] w := F
 refine vl tk 2 W F fun a w W F => ?_
 refine Ac (Ax ?_)
 have H := AA H
 subst H
 refine BB (.inl Aa) W F Aa (Ao W Aa) ?_
 exact ⟨rfl, F.done⟩
theorem PM : Has Tryz.prog 25 := ⟨fun args w => Af Tryz.func25 rfl (by decide) args w⟩
theorem PL : Et Tryz.prog 22 50 6 48 := Et.of Kh (by kernel_rfl) (by kernel_rfl) (by kernel_rfl) (by decide)
def T1 (a : Int × Int × Int × Int × Int × Int) : List Value := [.int .i64 a.1, .int .i64 a.2.1, .int .i64 a.2.2.1, .int .i64 a.2.2.2.1, .int .i64 a.2.2.2.2.1, .int .i64 a.2.2.2.2.2]
theorem QN : Fl AV T1 := (Fl.pair Fl.int (Fl.pair Fl.int (Fl.pair Fl.int (Fl.pair Fl.int (Fl.pair Fl.int Fl.int)))))
theorem QA : Ty Tryz.prog 50 true 6 := ⟨by kernel_rfl, by kernel_rfl⟩
theorem So : (Tryz.prog.info? 50).bind (·.zero) = some (.agg #[.int .i64 0, .int .i64 0, .int .i64 0, .int .i64 0, .int .i64 0, .int .i64 0]) := by kernel_rfl
theorem O9 : Et Tryz.prog 23 52 2 16 := Et.of Kl (by kernel_rfl) (by kernel_rfl) (by kernel_rfl) (by decide)
def TR (a : Int × Int) : List Value := [.int .i64 a.1, .int .i64 a.2]
theorem PU : Fl A3 TR := (Fl.pair Fl.int Fl.int)
theorem Rq : Ty Tryz.prog 52 true 2 := ⟨by kernel_rfl, by kernel_rfl⟩
theorem SI : (Tryz.prog.info? 52).bind (·.zero) = some (.agg #[.int .i64 0, .int .i64 0]) := by kernel_rfl
theorem Rw : Ty Tryz.prog 41 false 1 := ⟨by kernel_rfl, by kernel_rfl⟩
theorem I9 : (Tryz.prog.underlying 9).map (fun d => match d with | .interface _ => true | _ => false) = some false := by kernel_rfl
theorem St : (Tryz.prog.info? 135).bind (·.zero) = some (.agg #[.int .u8 0, .int .u8 0, .int .u8 0, .int .u8 0, .int .u8 0, .int .u8 0, .int .u8 0, .int .u8 0, .int .u8 0, .int .u8 0, .int .u8 0, .int .u8 0, .int .u8 0, .int .u8 0, .int .u8 0, .int .u8 0, .int .u8 0, .int .u8 0, .int .u8 0, .int .u8 0, .int .u8 0, .int .u8 0, .int .u8 0, .int .u8 0, .int .u8 0, .int .u8 0, .int .u8 0, .int .u8 0, .int .u8 0, .int .u8 0, .int .u8 0, .int .u8 0, .int .u8 0, .int .u8 0, .int .u8 0, .int .u8 0, .int .u8 0, .int .u8 0, .int .u8 0, .int .u8 0, .int .u8 0, .int .u8 0, .int .u8 0, .int .u8 0, .int .u8 0, .int .u8 0, .int .u8 0, .int .u8 0, .int .u8 0, .int .u8 0, .int .u8 0, .int .u8 0, .int .u8 0, .int .u8 0, .int .u8 0, .int .u8 0, .int .u8 0, .int .u8 0, .int .u8 0, .int .u8 0, .int .u8 0, .int .u8 0, .int .u8 0, .int .u8 0, .int .u8 0]) := by kernel_rfl
def BS (p0 : Int) : Bool := decide ((Mv .i64 p0 (BD (p0 - 1))) = 0)
theorem EV (Y : Nat → Prop) (w0 : World)  (p0 : Int) (r : Bool) (H : BS p0 = r)  :
    Calls Tryz.prog 96 #[.int .i64 p0] w0 fun e w' => e = .returned (.bool r) ∧ Below w0.heap.size w0 w' := by
 refine enter Tryz.func96 Aa Tryz.ntmps96 Aa fun a W => ?_
 have F := Stw.start Y w0
 unfold BS at H
 refine vc tk 15 W F fun a w W F => ?_
 refine Ax ?_
 subst H
 refine BB (.inl Aa) W F Aa (Ao W Aa) ?_
 exact ⟨rfl, F.done⟩
theorem Lm : type_of% Tryz.underlying3 := Tryz.underlying3
theorem QY : type_of% Tryz.underlying5 := Tryz.underlying5
theorem Eu : type_of% Tryz.underlying9 := Tryz.underlying9
theorem LB : type_of% Tryz.underlying41 := Tryz.underlying41
theorem Qp : type_of% Tryz.underlying63 := Tryz.underlying63
theorem M5 : type_of% Tryz.underlying100 := Tryz.underlying100
theorem RV : type_of% Tryz.underlying135 := Tryz.underlying135
theorem TJ : Has Tryz.prog 96 := ⟨fun args w => Af Tryz.func96 rfl (by decide) args w⟩
theorem TA : Has Tryz.prog 97 := ⟨fun args w => Af Tryz.func97 rfl (by decide) args w⟩
theorem KQ : Ar Tryz.prog 135 65 5 1 := ⟨RV, by kernel_rfl⟩
theorem T5 : Ty Tryz.prog 5 false 1 := ⟨by kernel_rfl, by kernel_rfl⟩
noncomputable def AO (p2 : Int) (x5 : Int) : (Int × Int × List Int) → Option ((Int × Int × List Int) ⊕ (Int × Int × List Int))
  | (x9, x10, x11) => (if (IntKind.u64.wrap p2) ≤ x9 then (ix ([48, 49, 50, 51, 52, 53, 54, 55, 56, 57, 97, 98, 99, 100, 101, 102, 103, 104, 105, 106, 107, 108, 109, 110, 111, 112, 113, 114, 115, 116, 117, 118, 119, 120, 121, 122] : List UInt8) (Mv .u64 x9 (IntKind.u64.wrap ((IntKind.u64.wrap p2) - 1)))).bind fun x12 => (MB 65 x11 (BD (x10 - 1))).bind fun x13 => (Qw (Og .u64 x9 (IntKind.u64.wrap x5)) (IntKind.u64.wrap x5)).bind fun x14 => some (.inl (x14, BD (x10 - 1), (EX x11 (BD (x10 - 1)) (x12.toNat : Int)))) else some (.inr (x9, x10, x11)))
noncomputable def Cf (p2 : Int) : (Int × Int × List Int) → Option ((Int × Int × List Int) ⊕ (Int × Int × List Int))
  | (x20, x21, x22) => (if (IntKind.u64.wrap p2) ≤ x20 then (Rz .u64 x20 (IntKind.u64.wrap p2)).bind fun x23 => (ix ([48, 49, 50, 51, 52, 53, 54, 55, 56, 57, 97, 98, 99, 100, 101, 102, 103, 104, 105, 106, 107, 108, 109, 110, 111, 112, 113, 114, 115, 116, 117, 118, 119, 120, 121, 122] : List UInt8) (IntKind.u64.wrap (x20 - (IntKind.u64.wrap (x23 * (IntKind.u64.wrap p2)))))).bind fun x24 => (MB 65 x22 (BD (x21 - 1))).bind fun x25 => some (.inl (x23, BD (x21 - 1), (EX x22 (BD (x21 - 1)) (x24.toNat : Int)))) else some (.inr (x20, x21, x22)))
noncomputable def BJ (p0 : List Int) (p1 : Int) (p2 : Int) (p3 : Bool) (p4 : Bool) : Option (List Int × List UInt8) := (if (decide (p2 < 2) || (decide (p2 = 10) || decide (36 < p2))) = true then none else (if p3 = true then some (IntKind.u64.wrap (0 - p1), true) else some (p1, false)).bind fun (x1, x2) => (if (BS p2) = true then (Sf (IntKind.u64.wrap p2)).bind fun x5 => (Av (AO p2 x5) (x1, 65, (List.replicate 65 (0 : Int)))).bind fun (x6, x7, x8) => (ix ([48, 49, 50, 51, 52, 53, 54, 55, 56, 57, 97, 98, 99, 100, 101, 102, 103, 104, 105, 106, 107, 108, 109, 110, 111, 112, 113, 114, 115, 116, 117, 118, 119, 120, 121, 122] : List UInt8) x6).bind fun x15 => (MB 65 x8 (BD (x7 - 1))).bind fun x16 => some (BD (x7 - 1), (EX x8 (BD (x7 - 1)) (x15.toNat : Int))) else (Av (Cf p2) (x1, 65, (List.replicate 65 (0 : Int)))).bind fun (x17, x18, x19) => (ix ([48, 49, 50, 51, 52, 53, 54, 55, 56, 57, 97, 98, 99, 100, 101, 102, 103, 104, 105, 106, 107, 108, 109, 110, 111, 112, 113, 114, 115, 116, 117, 118, 119, 120, 121, 122] : List UInt8) x17).bind fun x26 => (MB 65 x19 (BD (x18 - 1))).bind fun x27 => some (BD (x18 - 1), (EX x19 (BD (x18 - 1)) (x26.toNat : Int)))).bind fun (x3, x4) => (if x2 = true then (MB 65 x4 (BD (x3 - 1))).bind fun x30 => some (BD (x3 - 1), (EX x4 (BD (x3 - 1)) 45)) else some (x3, x4)).bind fun (x28, x29) => (if p4 = true then none else (Oe 65 x29 x28).bind fun x31 => some (([] : List Int), HQ x31)))
theorem Ft (Y : Nat → Prop) (w0 : World) (v1 : Value) (p0 : List Int) (p1 : Int) (p2 : Int) (p3 : Bool) (p4 : Bool) (r : List Int × List UInt8) (H : BJ p0 p1 p2 p3 p4 = some r) (h_v1 : Sl w0 (NX []) (Rp.int .u8) v1 p0) (hG : Gk [] w0) :
    Calls Tryz.prog 79 #[v1, .int .u64 p1, .int .i64 p2, .bool p3, .bool p4] w0 fun e w' => ∃ x : Value, e = .returned (.tuple #[x, .string (bs r.2)]) ∧ Stw ⟨Y, [], w0⟩ [] [row (x) 5 (Rp.int .u8) r.1] w' := by
 refine enter Tryz.func79 Aa Tryz.ntmps79 Aa fun a W => ?_
 have F := Stw.start Y w0
 unfold BJ at H
 refine vc tk 3 W F fun a w W F => ?_
 refine ls W F Aa (Cc (v := Value.string (bs ([] : List UInt8))) W Aa).q fun a w W F => ?_
 refine C5 tk 3 W F fun a w W F => ?_
 refine Aw (fun a w => Fr 102 [] [(0, v1), (1, .int .u64 p1), (2, .int .i64 p2), (3, .bool p3), (4, .bool p4), (10, .slice none 0 0), (11, .string (bs ([] : List UInt8))), (28, .bool (decide (p2 < 2) || (decide (p2 = 10) || decide (36 < p2))))] a ∧ Stw ⟨Y, [], w0⟩ [] [] w) ?_ ?_
 ·
  refine vc tk 4 W F fun a w W F => ?_
  rcases Bool.eq_false_or_eq_true (decide (p2 < 2)) with hb0 | hb0
  ·
   rw [hb0] at W
   refine vl tk 8 W F fun a w W F => ?_
   refine Ac ?_
   exact ⟨W.re ⟨rfl, Aa, Aa, Aa, Aa, Aa, Aa, (JR (by try rw [hb0]; all_goals simp only [JI])), trivial⟩, F⟩
  rw [hb0] at W
  refine vl tk 4 W F fun a w W F => ?_
  rcases Bool.eq_false_or_eq_true (decide (p2 = 10)) with hb1 | hb1
  ·
   rw [hb1] at W
   refine vl tk 4 W F fun a w W F => ?_
   refine Ac ?_
   exact ⟨W.re ⟨rfl, Aa, Aa, Aa, Aa, Aa, Aa, (JR (by try rw [hb1]; try rw [hb0]; all_goals simp only [JI])), trivial⟩, F⟩
  rw [hb1] at W
  refine vl tk 4 W F fun a w W F => ?_
  refine Ac ?_
  exact ⟨W.re ⟨rfl, Aa, Aa, Aa, Aa, Aa, Aa, (JR (by try rw [hb1]; try rw [hb0]; all_goals simp only [JI])), trivial⟩, F⟩
 rintro a w ⟨W, F⟩
 refine B2 W Aa H (fun W H => ?_) fun W H => ?_
 ·
  refine JX ?_
  refine ls W F Aa (C7 I9 W Aa).q fun a w W F => ?_
  exact nomatch H
 refine Ek tk 4 W F fun a w W F => ?_
 refine Pj (r := (Rp.int .u8)) (l := (List.replicate 65 (0 : Int))) (cs := List.replicate 65 (Value.int .u8 0)) W F Aa St Aa (fun w A => KV .u8 65) Aa fun b1 a w W F => ?_
 have F : Stw ⟨Y, [], w0⟩ [] [row (Value.slice (some ⟨b1, 0, none⟩) 65 65) 135 (Rp.int .u8) (List.replicate 65 (0 : Int))] w := F
 refine C5 tk 7 W F fun a w W F => ?_
 obtain ⟨o1, G1, K1⟩ := Ae H
 refine Aw (fun a w => ∃ x1 : Int, ∃ x2 : Bool, some ((x1, x2)) = some o1 ∧ Fr 102 [] [(0, v1), (1, .int .u64 x1), (2, .int .i64 p2), (3, .bool x2), (4, .bool p4), (10, .slice none 0 0), (11, .string (bs ([] : List UInt8))), (12, .pointer (some ⟨b1, 0, none⟩)), (13, .int .i64 65)] a ∧ Stw ⟨Y, [], w0⟩ [] [row (Value.slice (some ⟨b1, 0, none⟩) 65 65) 135 (Rp.int .u8) (List.replicate 65 (0 : Int))] w) ?_ ?_
 ·
  have H := G1
  clear G1 K1
  refine vc tk 5 W F fun a w W F => ?_
  refine H0 W Aa (fun hb => ?_) fun hb => ?_
  ·
   have H := Cu hb H
   rw [hb] at W
   clear hb
   refine vc tk 2 W F fun a w W F => ?_
   refine ls W F Aa (Sa W Aa Aa).q fun a w W F => ?_
   refine vl tk 2 W F fun a w W F => ?_
   refine Ac ?_
   exact ⟨_, _, H, W.ra Aa, F⟩
  have H := Ct (by rw [hb]; decide) H
  rw [hb] at W
  clear hb
  refine Bp (Ac ?_)
  exact ⟨_, _, H, W.ra Aa, F⟩
 rintro a w ⟨x1, x2, hj, W, F⟩
 have hj := AA hj
 subst hj
 have H := K1
 clear G1 K1
 obtain ⟨o2, G2, K2⟩ := Ae H
 refine Aw (fun a w => ∃ x3 : Int, ∃ x4 : List Int, some ((x3, x4)) = some o2 ∧ Fr 102 [] [(0, v1), (3, .bool x2), (4, .bool p4), (10, .slice none 0 0), (11, .string (bs ([] : List UInt8))), (12, .pointer (some ⟨b1, 0, none⟩)), (13, .int .i64 x3)] a ∧ Stw ⟨Y, [], w0⟩ [] [row (Value.slice (some ⟨b1, 0, none⟩) 65 65) 135 (Rp.int .u8) x4] w) ?_ ?_
 ·
  have H := G2
  clear G2 K2
  refine vc tk 3 W F fun a w W F => ?_
  refine ls W F Aa (AE (v := Value.bool (BS p2)) W TJ Aa (fun w F => EV any w p2 _ Aa)) fun a w W F => ?_
  refine CJ (Ac ?_)
  refine B2 W Aa H (fun W H => ?_) fun W H => ?_
  ·
   refine vc tk 3 W F fun a w W F => ?_
   refine ls W F Aa (DY Lm M5 W Aa).q fun a w W F => ?_
   obtain ⟨x5, h1, H⟩ := Ae H
   refine ls W F Aa (AE (v := Value.int .i64 x5) W TA Aa (fun w F => Sv any w (IntKind.u64.wrap p2) _ h1 (hG.go0 F))) fun a w W F => ?_
   refine ls W F Aa (DY Lm M5 W Aa).q fun a w W F => ?_
   refine C5 tk 6 W F fun a w W F => ?_
   refine ls W F Aa (DY Lm LB W Aa).q fun a w W F => ?_
   refine C5 tk 6 W F fun a w W F => ?_
   refine ls W F Aa (DY Lm M5 W Aa).q fun a w W F => ?_
   refine vl tk 3 W F fun a w W F => ?_
   refine Ac ?_
   obtain ⟨o3, G3, K3⟩ := Ae H
   refine Aw (fun a w => ∃ x6 : Int, ∃ x7 : Int, ∃ x8 : List Int, some ((x6, x7, x8)) = some o3 ∧ Fr 102 [] [(0, v1), (1, .int .u64 x6), (3, .bool x2), (4, .bool p4), (10, .slice none 0 0), (11, .string (bs ([] : List UInt8))), (12, .pointer (some ⟨b1, 0, none⟩)), (13, .int .i64 x7)] a ∧ Stw ⟨Y, [], w0⟩ [] [row (Value.slice (some ⟨b1, 0, none⟩) 65 65) 135 (Rp.int .u8) x8] w) ?_ ?_
   ·
    have H := G3
    clear G3 K3
    refine Dk ?_
    refine Bl H (fun s a w => Fr 102 [] [(0, v1), (1, .int .u64 s.1), (3, .bool x2), (4, .bool p4), (10, .slice none 0 0), (11, .string (bs ([] : List UInt8))), (12, .pointer (some ⟨b1, 0, none⟩)), (13, .int .i64 s.2.1), (14, .int .u64 (IntKind.u64.wrap x5)), (15, .int .u64 (IntKind.u64.wrap p2)), (16, .int .u64 (IntKind.u64.wrap ((IntKind.u64.wrap p2) - 1)))] a ∧ Stw ⟨Y, [], w0⟩ [] [row (Value.slice (some ⟨b1, 0, none⟩) 65 65) 135 (Rp.int .u8) s.2.2] w) ⟨W.ra Aa, F⟩ fun s o a w H L4 hR => ?_
    obtain ⟨x9, x10, x11⟩ := s
    obtain ⟨W, F⟩ := hR
    have W : Fr 102 [] [(0, v1), (1, .int .u64 x9), (3, .bool x2), (4, .bool p4), (10, .slice none 0 0), (11, .string (bs ([] : List UInt8))), (12, .pointer (some ⟨b1, 0, none⟩)), (13, .int .i64 x10), (14, .int .u64 (IntKind.u64.wrap x5)), (15, .int .u64 (IntKind.u64.wrap p2)), (16, .int .u64 (IntKind.u64.wrap ((IntKind.u64.wrap p2) - 1)))] a := W
    have F : Stw ⟨Y, [], w0⟩ [] [row (Value.slice (some ⟨b1, 0, none⟩) 65 65) 135 (Rp.int .u8) x11] w := F
    rw [AO] at H
    refine vc tk 8 W F fun a w W F => ?_
    refine Bq W Aa H (fun W H => ?_) fun W H => ?_
    ·
     refine Ek tk 16 W F fun a w W F => ?_
     obtain ⟨x12, h2, H⟩ := Ae H
     refine ls W F Aa (Bn (l := ([48, 49, 50, 51, 52, 53, 54, 55, 56, 57, 97, 98, 99, 100, 101, 102, 103, 104, 105, 106, 107, 108, 109, 110, 111, 112, 113, 114, 115, 116, 117, 118, 119, 120, 121, 122] : List UInt8)) Eu W Aa Aa h2).q fun a w W F => ?_
     obtain ⟨x13, h3, H⟩ := Ae H
     refine ls W F Aa (Hb (0 + (BD (x10 - 1)).toNat * 1) KQ W Aa Aa (C8 h3).1 (C8 h3).2 Aa).q fun a w W F => ?_
     refine F9 (i := BD (x10 - 1)) (j := 0) (vs := [.int .u8 (x12.toNat : Int)]) (x' := (x12.toNat : Int)) W F Aa Aa Aa (k := 0) Aa Aa (C8 h3).2 T5 Aa Aa Aa Aa (fun A cs _ => Fl.int.sto (by rfl) _ _ _) fun w F => ?_
     refine C5 tk 5 W F fun a w W F => ?_
     obtain ⟨x14, h4, H⟩ := Ae H
     refine ls W F Aa (Qy (Ig h4).2 (Se W Aa Aa (Ig h4).1)).q fun a w W F => ?_
     refine vl tk 2 W F fun a w W F => ?_
     refine AB (Ac ?_)
     exact ⟨_, H, W.ra Aa, F⟩
    refine A1 ?_
    iterate 2 refine BC ?_
    refine Bb (Ac ?_)
    have H := L4 _ H
    exact ⟨_, _, _, H, W.ra Aa, F⟩
   rintro a w ⟨x6, x7, x8, hj, W, F⟩
   have hj := AA hj
   subst hj
   have H := K3
   clear G3 K3
   refine vc tk 10 W F fun a w W F => ?_
   obtain ⟨x15, h5, H⟩ := Ae H
   refine ls W F Aa (Bn (l := ([48, 49, 50, 51, 52, 53, 54, 55, 56, 57, 97, 98, 99, 100, 101, 102, 103, 104, 105, 106, 107, 108, 109, 110, 111, 112, 113, 114, 115, 116, 117, 118, 119, 120, 121, 122] : List UInt8)) Eu W Aa Aa h5).q fun a w W F => ?_
   obtain ⟨x16, h6, H⟩ := Ae H
   refine ls W F Aa (Hb (0 + (BD (x7 - 1)).toNat * 1) KQ W Aa Aa (C8 h6).1 (C8 h6).2 Aa).q fun a w W F => ?_
   refine F9 (i := BD (x7 - 1)) (j := 0) (vs := [.int .u8 (x15.toNat : Int)]) (x' := (x15.toNat : Int)) W F Aa Aa Aa (k := 0) Aa Aa (C8 h6).2 T5 Aa Aa Aa Aa (fun A cs _ => Fl.int.sto (by rfl) _ _ _) fun w F => ?_
   refine CJ (Ac ?_)
   exact ⟨_, _, H, W.ra Aa, F⟩
  refine vc tk 3 W F fun a w W F => ?_
  refine ls W F Aa (DY Lm LB W Aa).q fun a w W F => ?_
  refine vl tk 2 W F fun a w W F => ?_
  refine Ac ?_
  obtain ⟨o5, G5, K5⟩ := Ae H
  refine Aw (fun a w => ∃ x17 : Int, ∃ x18 : Int, ∃ x19 : List Int, some ((x17, x18, x19)) = some o5 ∧ Fr 102 [] [(0, v1), (1, .int .u64 x17), (3, .bool x2), (4, .bool p4), (10, .slice none 0 0), (11, .string (bs ([] : List UInt8))), (12, .pointer (some ⟨b1, 0, none⟩)), (13, .int .i64 x18)] a ∧ Stw ⟨Y, [], w0⟩ [] [row (Value.slice (some ⟨b1, 0, none⟩) 65 65) 135 (Rp.int .u8) x19] w) ?_ ?_
  ·
   have H := G5
   clear G5 K5
   refine Dk ?_
   refine Bl H (fun s a w => Fr 102 [] [(0, v1), (1, .int .u64 s.1), (3, .bool x2), (4, .bool p4), (10, .slice none 0 0), (11, .string (bs ([] : List UInt8))), (12, .pointer (some ⟨b1, 0, none⟩)), (13, .int .i64 s.2.1), (17, .int .u64 (IntKind.u64.wrap p2))] a ∧ Stw ⟨Y, [], w0⟩ [] [row (Value.slice (some ⟨b1, 0, none⟩) 65 65) 135 (Rp.int .u8) s.2.2] w) ⟨W.ra Aa, F⟩ fun s o a w H L6 hR => ?_
   obtain ⟨x20, x21, x22⟩ := s
   obtain ⟨W, F⟩ := hR
   have W : Fr 102 [] [(0, v1), (1, .int .u64 x20), (3, .bool x2), (4, .bool p4), (10, .slice none 0 0), (11, .string (bs ([] : List UInt8))), (12, .pointer (some ⟨b1, 0, none⟩)), (13, .int .i64 x21), (17, .int .u64 (IntKind.u64.wrap p2))] a := W
   have F : Stw ⟨Y, [], w0⟩ [] [row (Value.slice (some ⟨b1, 0, none⟩) 65 65) 135 (Rp.int .u8) x22] w := F
   rw [Cf] at H
   refine vc tk 8 W F fun a w W F => ?_
   refine Bq W Aa H (fun W H => ?_) fun W H => ?_
   ·
    refine Ek tk 14 W F fun a w W F => ?_
    obtain ⟨x23, h7, H⟩ := Ae H
    refine ls W F Aa (LC W Aa Aa (Id h7).1 (Id h7).2).q fun a w W F => ?_
    refine C5 tk 11 W F fun a w W F => ?_
    obtain ⟨x24, h8, H⟩ := Ae H
    refine ls W F Aa (Bn (l := ([48, 49, 50, 51, 52, 53, 54, 55, 56, 57, 97, 98, 99, 100, 101, 102, 103, 104, 105, 106, 107, 108, 109, 110, 111, 112, 113, 114, 115, 116, 117, 118, 119, 120, 121, 122] : List UInt8)) Eu W Aa Aa h8).q fun a w W F => ?_
    obtain ⟨x25, h9, H⟩ := Ae H
    refine ls W F Aa (Hb (0 + (BD (x21 - 1)).toNat * 1) KQ W Aa Aa (C8 h9).1 (C8 h9).2 Aa).q fun a w W F => ?_
    refine F9 (i := BD (x21 - 1)) (j := 0) (vs := [.int .u8 (x24.toNat : Int)]) (x' := (x24.toNat : Int)) W F Aa Aa Aa (k := 0) Aa Aa (C8 h9).2 T5 Aa Aa Aa Aa (fun A cs _ => Fl.int.sto (by rfl) _ _ _) fun w F => ?_
    refine C5 tk 6 W F fun a w W F => ?_
    refine AB (Ac ?_)
    exact ⟨_, H, W.ra Aa, F⟩
   refine A1 ?_
   iterate 2 refine BC ?_
   refine Bb (Ac ?_)
   have H := L6 _ H
   exact ⟨_, _, _, H, W.ra Aa, F⟩
  rintro a w ⟨x17, x18, x19, hj, W, F⟩
  have hj := AA hj
  subst hj
  have H := K5
  clear G5 K5
  refine vc tk 10 W F fun a w W F => ?_
  obtain ⟨x26, h10, H⟩ := Ae H
  refine ls W F Aa (Bn (l := ([48, 49, 50, 51, 52, 53, 54, 55, 56, 57, 97, 98, 99, 100, 101, 102, 103, 104, 105, 106, 107, 108, 109, 110, 111, 112, 113, 114, 115, 116, 117, 118, 119, 120, 121, 122] : List UInt8)) Eu W Aa Aa h10).q fun a w W F => ?_
  obtain ⟨x27, h11, H⟩ := Ae H
  refine ls W F Aa (Hb (0 + (BD (x18 - 1)).toNat * 1) KQ W Aa Aa (C8 h11).1 (C8 h11).2 Aa).q fun a w W F => ?_
  refine F9 (i := BD (x18 - 1)) (j := 0) (vs := [.int .u8 (x26.toNat : Int)]) (x' := (x26.toNat : Int)) W F Aa Aa Aa (k := 0) Aa Aa (C8 h11).2 T5 Aa Aa Aa Aa (fun A cs _ => Fl.int.sto (by rfl) _ _ _) fun w F => ?_
  refine CJ (Ac ?_)
  exact ⟨_, _, H, W.ra Aa, F⟩
 rintro a w ⟨x3, x4, hj, W, F⟩
 have hj := AA hj
 subst hj
 have H := K2
 clear G2 K2
 obtain ⟨o7, G7, K7⟩ := Ae H
 refine Aw (fun a w => ∃ x28 : Int, ∃ x29 : List Int, some ((x28, x29)) = some o7 ∧ Fr 102 [] [(0, v1), (4, .bool p4), (10, .slice none 0 0), (11, .string (bs ([] : List UInt8))), (12, .pointer (some ⟨b1, 0, none⟩)), (13, .int .i64 x28)] a ∧ Stw ⟨Y, [], w0⟩ [] [row (Value.slice (some ⟨b1, 0, none⟩) 65 65) 135 (Rp.int .u8) x29] w) ?_ ?_
 ·
  have H := G7
  clear G7 K7
  refine vc tk 5 W F fun a w W F => ?_
  refine H0 W Aa (fun hb => ?_) fun hb => ?_
  ·
   have H := Cu hb H
   rw [hb] at W
   clear hb
   refine vc tk 9 W F fun a w W F => ?_
   obtain ⟨x30, h12, H⟩ := Ae H
   refine ls W F Aa (Hb (0 + (BD (x3 - 1)).toNat * 1) KQ W Aa Aa (C8 h12).1 (C8 h12).2 Aa).q fun a w W F => ?_
   refine F9 (i := BD (x3 - 1)) (j := 0) (vs := [.int .u8 45]) (x' := 45) W F Aa Aa Aa (k := 0) Aa Aa (C8 h12).2 T5 Aa Aa Aa Aa (fun A cs _ => Fl.int.sto (by rfl) _ _ _) fun w F => ?_
   refine CJ (Ac ?_)
   exact ⟨_, _, H, W.ra Aa, F⟩
  have H := Ct (by rw [hb]; decide) H
  rw [hb] at W
  clear hb
  refine Bp (Ac ?_)
  exact ⟨_, _, H, W.ra Aa, F⟩
 rintro a w ⟨x28, x29, hj, W, F⟩
 have hj := AA hj
 subst hj
 have H := K7
 clear G7 K7
 refine vc tk 6 W F fun a w W F => ?_
 refine H0 W Aa (fun hb => ?_) fun hb => ?_
 ·
  have H := Cu hb H
  rw [hb] at W
  clear hb
  exact nomatch H
 have H := Ct (by rw [hb]; decide) H
 rw [hb] at W
 clear hb
 refine Ek tk 5 W F fun a w W F => ?_
 obtain ⟨x31, h13, H⟩ := Ae H
 refine ls W F Aa (N7 KQ W Aa Aa (E1 (IU h13).2).1 (E1 (IU h13).2).2.1).q fun a w W F => ?_
 refine ls W F Aa (Qb (ns := x31) Qp QY Eu W Aa (P1 (Ap 0 Aa) (IU h13).2)).q fun a w W F => ?_
 refine vl tk 2 W F fun a w W F => ?_
 refine Ac (Ax ?_)
 have H := AA H
 subst H
 refine EA (.inl Aa) W F Aa (Ao W Aa) (Ao W Aa) ?_
 have F := F.nilRow 5 (Rp.int .u8)
 have F := F.sub (M' := []) (Z' := [row (Value.slice none 0 0) 5 (Rp.int .u8) ([])]) (List.Sublist.refl _) (List.Sublist.cons_cons _ (List.nil_sublist _))
 exact ⟨(Value.slice none 0 0), Aa, F⟩
theorem TX : Has Tryz.prog 79 := ⟨fun args w => Af Tryz.func79 rfl (by decide) args w⟩
noncomputable def BI (p0 : Int) (p1 : Int) : Option (List UInt8) := (if p1 = 10 then none else (BJ ([] : List Int) p0 p1 false false).bind fun x1 => some x1.2)
theorem Fm (Y : Nat → Prop) (w0 : World)  (p0 : Int) (p1 : Int) (r : List UInt8) (H : BI p0 p1 = some r) (hG : Gk [] w0) :
    Calls Tryz.prog 61 #[.int .u64 p0, .int .i64 p1] w0 fun e w' => e = .returned (.string (bs r)) ∧ Below w0.heap.size w0 w' := by
 refine enter Tryz.func61 Aa Tryz.ntmps61 Aa fun a W => ?_
 have F := Stw.start Y w0
 unfold BI at H
 refine vc tk 2 W F fun a w W F => ?_
 refine ls W F Aa (Cc (v := Value.string (bs ([] : List UInt8))) W Aa).q fun a w W F => ?_
 refine C5 tk 9 W F fun a w W F => ?_
 refine Bq W Aa H (fun W H => ?_) fun W H => ?_
 ·
  exact nomatch H
 refine Ek tk 6 W F fun a w W F => ?_
 obtain ⟨x1, h1, H⟩ := Ae H
 refine AC (Ml := []) (Zl := []) (M := []) (Z := []) (β := Value) (rv := fun x => .tuple #[x, .string (bs x1.2)]) (MM := fun x => []) (ZZ := fun x => [row x 5 (Rp.int .u8) x1.1]) W F TX Aa Aa (fun hL => Ft _ w (Value.slice none 0 0) ([] : List Int) p0 p1 false false _ h1 Sl.nil (hG.go0 F)) fun x a w W F => ?_
 obtain ⟨v1, rfl⟩ : ∃ y, y = x := ⟨x, rfl⟩
 have F : Stw ⟨Y, [], w0⟩ [] [row v1 5 (Rp.int .u8) x1.1] w := F
 refine ls W F Aa (Am W Aa).q fun a w W F => ?_
 refine ls W F Aa (Au (v := v1) W Aa Aa).q fun a w W F => ?_
 refine ls W F Aa (Au (v := Value.string (bs x1.2)) W Aa Aa).q fun a w W F => ?_
 refine C5 tk 10 W F fun a w W F => ?_
 refine Ax ?_
 have H := AA H
 subst H
 refine BB (.inl Aa) W F Aa (Ao W Aa) ?_
 exact ⟨rfl, F.done⟩
theorem TE : Has Tryz.prog 61 := ⟨fun args w => Af Tryz.func61 rfl (by decide) args w⟩
noncomputable def B7 (p0 : Int) (p1 : Int) : Option (List UInt8) := (BI p0 p1).bind fun x1 => some x1
theorem Hj (Y : Nat → Prop) (w0 : World)  (p0 : Int) (p1 : Int) (r : List UInt8) (H : B7 p0 p1 = some r) (hG : Gk [] w0) :
    Calls Tryz.prog 50 #[.int .u64 p0, .int .i64 p1] w0 fun e w' => e = .returned (.string (bs r)) ∧ Below w0.heap.size w0 w' := by
 refine enter Tryz.func50 Aa Tryz.ntmps50 Aa fun a W => ?_
 have F := Stw.start Y w0
 unfold B7 at H
 refine vc tk 2 W F fun a w W F => ?_
 refine ls W F Aa (Cc (v := Value.string (bs ([] : List UInt8))) W Aa).q fun a w W F => ?_
 refine C5 tk 6 W F fun a w W F => ?_
 obtain ⟨x1, h1, H⟩ := Ae H
 refine ls W F Aa (AE (v := Value.string (bs x1)) W TE Aa (fun w F => Fm any w p0 p1 _ h1 (hG.go0 F))) fun a w W F => ?_
 refine vl tk 2 W F fun a w W F => ?_
 refine Ac (Ax ?_)
 have H := AA H
 subst H
 refine BB (.inl Aa) W F Aa (Ao W Aa) ?_
 exact ⟨rfl, F.done⟩
theorem TC : Has Tryz.prog 50 := ⟨fun args w => Af Tryz.func50 rfl (by decide) args w⟩
theorem TK : Has Tryz.prog 51 := ⟨fun args w => Af Tryz.func51 rfl (by decide) args w⟩
noncomputable def EB (p0 : Int) : Option (List UInt8) := (B7 p0 16).bind fun x1 => (HC ([48] : List UInt8) (BD (16 - (x1.length : Int)))).bind fun x2 => (Dg x2 x1).bind fun x3 => some x3
theorem I2 (Y : Nat → Prop) (w0 : World)  (p0 : Int) (r : List UInt8) (H : EB p0 = some r) (hG : Gk [] w0) :
    Calls Tryz.prog 26 #[.int .u64 p0] w0 fun e w' => e = .returned (.string (bs r)) ∧ Below w0.heap.size w0 w' := by
 refine enter Tryz.func26 Aa Tryz.ntmps26 Aa fun a W => ?_
 have F := Stw.start Y w0
 unfold EB at H
 refine vc tk 2 W F fun a w W F => ?_
 refine ls W F Aa (Cc (v := Value.string (bs ([] : List UInt8))) W Aa).q fun a w W F => ?_
 refine C5 tk 5 W F fun a w W F => ?_
 obtain ⟨x1, h1, H⟩ := Ae H
 refine ls W F Aa (AE (v := Value.string (bs x1)) W TC Aa (fun w F => Hj any w p0 16 _ h1 (hG.go0 F))) fun a w W F => ?_
 refine C5 tk 6 W F fun a w W F => ?_
 refine ls W F Aa (Eh (l := x1) Eu Aa W Aa).q fun a w W F => ?_
 refine ls W F Aa (Nh W Aa Aa Aa).q fun a w W F => ?_
 obtain ⟨x2, h2, H⟩ := Ae H
 refine ls W F Aa (AE (v := Value.string (bs x2)) W TK Aa (fun w F => Pg any w ([48] : List UInt8) (BD (16 - (x1.length : Int))) _ h2 (hG.go0 F))) fun a w W F => ?_
 refine ls W F Aa (Am W Aa).q fun a w W F => ?_
 obtain ⟨x3, h3, H⟩ := Ae H
 refine ls W F Aa (DB (l := x2) (m := x1) W Aa Aa h3).q fun a w W F => ?_
 refine vl tk 2 W F fun a w W F => ?_
 refine Ac (Ax ?_)
 have H := AA H
 subst H
 refine BB (.inl Aa) W F Aa (Ao W Aa) ?_
 exact ⟨rfl, F.done⟩
theorem R3 : type_of% Tryz.underlying50 := Tryz.underlying50
theorem P4 : type_of% Tryz.underlying52 := Tryz.underlying52
theorem S6 : Has Tryz.prog 26 := ⟨fun args w => Af Tryz.func26 rfl (by decide) args w⟩
abbrev R5  : List Value := [.int .i64 0, .int .i64 0, .int .i64 0, .int .i64 0, .int .i64 0, .int .i64 0]
abbrev Qg (a0 : Int × Int × Int × Int × Int × Int) : List Value := [.int .i64 a0.1, .int .i64 a0.2.1, .int .i64 a0.2.2.1, .int .i64 a0.2.2.2.1, .int .i64 a0.2.2.2.2.1, .int .i64 a0.2.2.2.2.2]
abbrev P6 (a0 : Nat) (a1 : Int × Int × Int × Int × Int × Int) (a2 : Nat) (a3 : (Int × (List (Int × Int × Int × Int × Int × Int)) × (List (Int × Int))) × List (List Int) × List Int × Int × Int × Int × Int × Int × Int) (a4 : Value) (a5 : Value) (a6 : Value) (a7 : Value) : List (Nat × List Value) := [(a0, [.int .i64 a1.1, .int .i64 a1.2.1, .int .i64 a1.2.2.1, .int .i64 a1.2.2.2.1, .int .i64 a1.2.2.2.2.1, .int .i64 a1.2.2.2.2.2]), (a2, [.int .i64 a3.1.1, a4, a5, a6, a7, .int .i64 a3.2.2.2.1, .int .i64 a3.2.2.2.2.1, .int .i64 a3.2.2.2.2.2.1, .int .i64 a3.2.2.2.2.2.2.1, .int .i64 a3.2.2.2.2.2.2.2.1, .int .i64 a3.2.2.2.2.2.2.2.2])]
abbrev Rh (a0 : Nat) (a1 : Int × Int) (a2 : Nat) (a3 : (Int × (List (Int × Int × Int × Int × Int × Int)) × (List (Int × Int))) × List (List Int) × List Int × Int × Int × Int × Int × Int × Int) (a4 : Value) (a5 : Value) (a6 : Value) (a7 : Value) : List (Nat × List Value) := [(a0, [.int .i64 a1.1, .int .i64 a1.2]), (a2, [.int .i64 a3.1.1, a4, a5, a6, a7, .int .i64 a3.2.2.2.1, .int .i64 a3.2.2.2.2.1, .int .i64 a3.2.2.2.2.2.1, .int .i64 a3.2.2.2.2.2.2.1, .int .i64 a3.2.2.2.2.2.2.2.1, .int .i64 a3.2.2.2.2.2.2.2.2])]
noncomputable def C4 (p0 : (Int × (List (Int × Int × Int × Int × Int × Int)) × (List (Int × Int))) × List (List Int) × List Int × Int × Int × Int × Int × Int × Int) : (Int × List UInt8) → Option ((Int × List UInt8) ⊕ (List UInt8))
  | (x4, x5) => (if x4 < (p0.1.2.1.length : Int) then (ix p0.1.2.1 x4).bind fun x6 => (Bk ([108, 105, 110, 107] : List UInt8) ([x6.1, x6.2.1, x6.2.2.1, x6.2.2.2.1, x6.2.2.2.2.1, x6.2.2.2.2.2] : List Int)).bind fun x7 => (Dg x5 x7).bind fun x8 => some (.inl (BD (x4 + 1), x8)) else some (.inr x5))
noncomputable def C6 (p0 : (Int × (List (Int × Int × Int × Int × Int × Int)) × (List (Int × Int))) × List (List Int) × List Int × Int × Int × Int × Int × Int × Int) : (Int × List UInt8) → Option ((Int × List UInt8) ⊕ (List UInt8))
  | (x10, x11) => (if x10 < (p0.1.2.2.length : Int) then (ix p0.1.2.2 x10).bind fun x12 => (Bk ([104, 111, 115, 116] : List UInt8) ([x12.1, x12.2] : List Int)).bind fun x13 => (Dg x11 x13).bind fun x14 => some (.inl (BD (x10 + 1), x14)) else some (.inr x11))
noncomputable def CL (x19 : List Int) : (Int × List UInt8) → Option ((Int × List UInt8) ⊕ (List UInt8))
  | (x22, x23) => (if x22 < (x19.length : Int) then (ix x19 x22).bind fun x24 => (EB x24).bind fun x25 => (Dg ([32] : List UInt8) x25).bind fun x26 => (Dg x23 x26).bind fun x27 => some (.inl (BD (x22 + 1), x27)) else some (.inr x23))
noncomputable def C3 (p0 : (Int × (List (Int × Int × Int × Int × Int × Int)) × (List (Int × Int))) × List (List Int) × List Int × Int × Int × Int × Int × Int × Int) : (Int × List UInt8) → Option ((Int × List UInt8) ⊕ (List UInt8))
  | (x16, x17) => (if x16 < (p0.2.1.length : Int) then ((ix p0.2.1 x16).bind fun x19 => (Dg x17 ([119, 101, 105, 103, 104, 116, 115] : List UInt8)).bind fun x20 => (Av (CL x19) (0, x20)).bind fun x21 => (Dg x21 ([10] : List UInt8)).bind fun x28 => some x28).bind fun x18 => some (.inl (BD (x16 + 1), x18)) else some (.inr x17))
noncomputable def D1 (p0 : (Int × (List (Int × Int × Int × Int × Int × Int)) × (List (Int × Int))) × List (List Int) × List Int × Int × Int × Int × Int × Int × Int) : Option (List UInt8) := (Bk ([115, 119, 105, 116, 99, 104, 101, 115] : List UInt8) ([p0.1.1] : List Int)).bind fun x1 => (Dg ([] : List UInt8) x1).bind fun x2 => (Av (C4 p0) (0, x2)).bind fun x3 => (Av (C6 p0) (0, x3)).bind fun x9 => (Av (C3 p0) (0, x9)).bind fun x15 => (Bk ([115, 116, 97, 114, 116, 115] : List UInt8) p0.2.2.1).bind fun x29 => (Dg x15 x29).bind fun x30 => (Bk ([114, 97, 116, 101] : List UInt8) ([p0.2.2.2.1] : List Int)).bind fun x31 => (Dg x30 x31).bind fun x32 => (Bk ([114, 111, 111, 109] : List UInt8) ([p0.2.2.2.2.1] : List Int)).bind fun x33 => (Dg x32 x33).bind fun x34 => (Bk ([119, 105, 100, 101] : List UInt8) ([p0.2.2.2.2.2.1] : List Int)).bind fun x35 => (Dg x34 x35).bind fun x36 => (Bk ([108, 101, 97, 100] : List UInt8) ([p0.2.2.2.2.2.2.1] : List Int)).bind fun x37 => (Dg x36 x37).bind fun x38 => (Bk ([109, 97, 114, 103, 105, 110] : List UInt8) ([p0.2.2.2.2.2.2.2.1] : List Int)).bind fun x39 => (Dg x38 x39).bind fun x40 => (Bk ([114, 101, 116, 114, 121] : List UInt8) ([p0.2.2.2.2.2.2.2.2] : List Int)).bind fun x41 => (Dg x40 x41).bind fun x42 => (Lx x42).bind fun x43 => some x43
theorem Iu (Y : Nat → Prop) (w0 : World) (v1 : Value) (v2 : Value) (v3 : Value) (v4 : Value) (p0 : (Int × (List (Int × Int × Int × Int × Int × Int)) × (List (Int × Int))) × List (List Int) × List Int × Int × Int × Int × Int × Int × Int) (r : List UInt8) (H : D1 p0 = some r) (h_v1 : Sl w0 (NX []) AV v1 p0.1.2.1) (h_v2 : Sl w0 (NX []) A3 v2 p0.1.2.2) (h_v3 : Sl w0 (NX []) (Rp.slice (Rp.int .u64)) v3 p0.2.1) (h_v4 : Sl w0 (NX []) (Rp.int .i64) v4 p0.2.2.1) (hG : Gk [] w0) :
    Calls Tryz.prog 8 #[.agg #[.int .i64 p0.1.1, v1, v2, v3, v4, .int .i64 p0.2.2.2.1, .int .i64 p0.2.2.2.2.1, .int .i64 p0.2.2.2.2.2.1, .int .i64 p0.2.2.2.2.2.2.1, .int .i64 p0.2.2.2.2.2.2.2.1, .int .i64 p0.2.2.2.2.2.2.2.2]] w0 fun e w' => e = .returned (.string (bs r)) ∧ Below w0.heap.size w0 w' := by
 refine enter Tryz.func8 Aa Tryz.ntmps8 Aa fun a W => ?_
 have F := Stw.start Y w0
 obtain ⟨v5, h1, h_v3⟩ := h_v3.ex D4
 unfold D1 at H
 refine vc tk 2 W F fun a w W F => ?_
 refine GU (cs := (BP p0 v1 v2 v3 v4)) W F Aa Aa Aa fun b1 a w W F => ?_
 refine ls W F Aa (Cc (v := Value.string (bs ([] : List UInt8))) W Aa).q fun a w W F => ?_
 refine C5 tk 4 W F fun a w W F => ?_
 refine Mi W F Aa fun b2 a w W F => ?_
 have F : Stw ⟨Y, [], w0⟩ (Cd b1 p0 v1 v2 v3 v4) [BL 65 5 b2 (Value.slice none 0 0) ([] : List UInt8)] w := F
 refine GO tk 7 [0] W F (ai fun a w W F => ?_)
 refine CY (z := Value.int .i64 0) (cs := [.int .i64 p0.1.1]) (Rp.int .i64) ([p0.1.1] : List Int) W F Aa Fb Z3 Aa Aa Aa Aa Aa Aa (Fl.int.repL _ _ ([p0.1.1] : List Int)) fun v6 a w W F => ?_
 obtain ⟨x1, h2, H⟩ := Ae H
 refine ls W F Aa (AE (v := Value.string (bs x1)) W PM Aa (fun w F => CK any w (v6) ([115, 119, 105, 116, 99, 104, 101, 115] : List UInt8) ([p0.1.1] : List Int) _ h2 (((Ap 0 Aa) : CW _ _ _ _ _ _) w F).nx (hG.go0 F))) fun a w W F => ?_
 have F := F.frontZ (i := 1) Aa Aa
 obtain ⟨x2, h3, H⟩ := Ae H
 refine AC (Ml := []) (Zl := [BL 65 5 b2 (Value.slice none 0 0) ([] : List UInt8)]) (M := (Cd b1 p0 v1 v2 v3 v4)) (Z := [row v6 3 (Rp.int .i64) ([p0.1.1] : List Int)]) (β := Value) (rv := fun x => .tuple #[.int .i64 (x1.length : Int), .nilIface]) (MM := fun x => []) (ZZ := fun x => [BL 65 5 b2 x x2]) W F Mz Aa Aa (fun hL => HI _ _ w b2 (Value.slice none 0 0) ([] : List UInt8) x1 _ h3 hL) fun v7 a w W F => ?_
 have F : Stw ⟨Y, [], w0⟩ (Cd b1 p0 v1 v2 v3 v4) [BL 65 5 b2 v7 x2, row v6 3 (Rp.int .i64) ([p0.1.1] : List Int)] w := F
 refine CJ (Ac ?_)
 obtain ⟨o1, G1, K1⟩ := Ae H
 refine Aw (fun a w => ∃ x3 : List UInt8, ∃ v8 : Value, some (x3) = some o1 ∧ Fr 114 [] [(1, .pointer (some ⟨b1, 0, none⟩)), (2, .string (bs ([] : List UInt8))), (3, .pointer (some ⟨b2, 0, none⟩))] a ∧ Stw ⟨Y, [], w0⟩ (Cd b1 p0 v1 v2 v3 v4) [BL 65 5 b2 v8 x3] w) ?_ ?_
 ·
  have H := G1
  clear G1 K1
  refine Ib tk 5 [0] W F (ai fun a w W F => ?_)
  refine ls W F Aa (BN (r := AV) (l := p0.1.2.1) Kh Aa W Aa (Ah h_v1)).q fun a w W F => ?_
  refine C5 tk 4 W F fun a w W F => ?_
  have F := F.sub (M' := (Cd b1 p0 v1 v2 v3 v4)) (Z' := [BL 65 5 b2 v7 x2]) (List.Sublist.refl _) (List.Sublist.cons_cons _ (List.nil_sublist _))
  refine Bl H (fun s a w => ∃ v9 : Value, Fr 114 [] [(1, .pointer (some ⟨b1, 0, none⟩)), (2, .string (bs ([] : List UInt8))), (3, .pointer (some ⟨b2, 0, none⟩)), (20, v1), (21, .int .i64 (p0.1.2.1.length : Int)), (22, .int .i64 s.1)] a ∧ Stw ⟨Y, [], w0⟩ (Cd b1 p0 v1 v2 v3 v4) [BL 65 5 b2 v9 s.2] w) ⟨v7, W.ra Aa, F⟩ fun s o a w H L2 hR => ?_
  obtain ⟨x4, x5⟩ := s
  obtain ⟨v9, W, F⟩ := hR
  have W : Fr 114 [] [(1, .pointer (some ⟨b1, 0, none⟩)), (2, .string (bs ([] : List UInt8))), (3, .pointer (some ⟨b2, 0, none⟩)), (20, v1), (21, .int .i64 (p0.1.2.1.length : Int)), (22, .int .i64 x4)] a := W
  have F : Stw ⟨Y, [], w0⟩ (Cd b1 p0 v1 v2 v3 v4) [BL 65 5 b2 v9 x5] w := F
  rw [C4] at H
  refine vc tk 6 W F fun a w W F => ?_
  refine Bq W Aa H (fun W H => ?_) fun W H => ?_
  ·
   refine Ek tk 6 W F fun a w W F => ?_
   obtain ⟨x6, h4, H⟩ := Ae H
   refine ls W F Aa (AR (r := AV) PL W Aa Aa (Ah h_v1) h4).q fun a w W F => ?_
   refine ls W F Aa (An (y := Value.agg #[.int .i64 x6.1, .int .i64 x6.2.1, .int .i64 x6.2.2.1, .int .i64 x6.2.2.2.1, .int .i64 x6.2.2.2.2.1, .int .i64 x6.2.2.2.2.2]) (j := 0) (i := x4) W Aa Aa (Ah h_v1) h4 QN.to QA Aa).q fun a w W F => ?_
   refine DI (cs := (R5)) W F Aa So Aa fun b3 a w W F => ?_
   refine Bg (vs := (Qg x6)) (M' := (P6 b3 x6 b1 p0 v1 v2 v3 v4)) 0 W F Aa Aa Aa QA Aa Aa Aa Aa Aa fun w F => ?_
   refine GO tk 15 [0, 0, 0, 0, 0, 0] W F (ai (ai (ai (ai (ai (ai fun a w W F => ?_))))))
   refine CY (z := Value.int .i64 0) (cs := (Qg x6)) (Rp.int .i64) ([x6.1, x6.2.1, x6.2.2.1, x6.2.2.2.1, x6.2.2.2.2.1, x6.2.2.2.2.2] : List Int) W F Aa Fb Z3 Aa Aa Aa Aa Aa Aa (Fl.int.repL _ _ ([x6.1, x6.2.1, x6.2.2.1, x6.2.2.2.1, x6.2.2.2.2.1, x6.2.2.2.2.2] : List Int)) fun v10 a w W F => ?_
   obtain ⟨x7, h5, H⟩ := Ae H
   refine ls W F Aa (AE (v := Value.string (bs x7)) W PM Aa (fun w F => CK any w (v10) ([108, 105, 110, 107] : List UInt8) ([x6.1, x6.2.1, x6.2.2.1, x6.2.2.2.1, x6.2.2.2.2.1, x6.2.2.2.2.2] : List Int) _ h5 (((Ap 0 Aa) : CW _ _ _ _ _ _) w F).nx (hG.go0 F))) fun a w W F => ?_
   have F := F.frontZ (i := 1) Aa Aa
   obtain ⟨x8, h6, H⟩ := Ae H
   refine AC (Ml := []) (Zl := [BL 65 5 b2 v9 x5]) (M := (P6 b3 x6 b1 p0 v1 v2 v3 v4)) (Z := [row v10 3 (Rp.int .i64) ([x6.1, x6.2.1, x6.2.2.1, x6.2.2.2.1, x6.2.2.2.2.1, x6.2.2.2.2.2] : List Int)]) (β := Value) (rv := fun x => .tuple #[.int .i64 (x7.length : Int), .nilIface]) (MM := fun x => []) (ZZ := fun x => [BL 65 5 b2 x x8]) W F Mz Aa Aa (fun hL => HI _ _ w b2 v9 x5 x7 _ h6 hL) fun v11 a w W F => ?_
   have F : Stw ⟨Y, [], w0⟩ (P6 b3 x6 b1 p0 v1 v2 v3 v4) [BL 65 5 b2 v11 x8, row v10 3 (Rp.int .i64) ([x6.1, x6.2.1, x6.2.2.1, x6.2.2.2.1, x6.2.2.2.2.1, x6.2.2.2.2.2] : List Int)] w := F
   refine CJ (AB ?_)
   refine vn tk 4 W F fun a w W F => ?_
   refine Ac ?_
   have F := F.frontM (i := 1) Aa Aa
   have F := F.sub (M' := (Cd b1 p0 v1 v2 v3 v4)) (Z' := [BL 65 5 b2 v11 x8]) (List.Sublist.cons_cons _ (List.nil_sublist _)) (List.Sublist.cons_cons _ (List.nil_sublist _))
   exact ⟨_, H, v11, W.ra Aa, F⟩
  refine A1 ?_
  iterate 2 refine BC ?_
  refine Bb (Ac ?_)
  have H := L2 _ H
  exact ⟨_, v9, H, W.ra Aa, F⟩
 rintro a w ⟨x3, v8, hj, W, F⟩
 have hj := AA hj
 subst hj
 have H := K1
 clear G1 K1
 obtain ⟨o3, G3, K3⟩ := Ae H
 refine Aw (fun a w => ∃ x9 : List UInt8, ∃ v12 : Value, some (x9) = some o3 ∧ Fr 114 [] [(1, .pointer (some ⟨b1, 0, none⟩)), (2, .string (bs ([] : List UInt8))), (3, .pointer (some ⟨b2, 0, none⟩))] a ∧ Stw ⟨Y, [], w0⟩ (Cd b1 p0 v1 v2 v3 v4) [BL 65 5 b2 v12 x9] w) ?_ ?_
 ·
  have H := G3
  clear G3 K3
  refine Ib tk 5 [0] W F (ai fun a w W F => ?_)
  refine ls W F Aa (BN (r := A3) (l := p0.1.2.2) Kl Aa W Aa (Ah h_v2)).q fun a w W F => ?_
  refine C5 tk 4 W F fun a w W F => ?_
  refine Bl H (fun s a w => ∃ v13 : Value, Fr 114 [] [(1, .pointer (some ⟨b1, 0, none⟩)), (2, .string (bs ([] : List UInt8))), (3, .pointer (some ⟨b2, 0, none⟩)), (44, v2), (45, .int .i64 (p0.1.2.2.length : Int)), (46, .int .i64 s.1)] a ∧ Stw ⟨Y, [], w0⟩ (Cd b1 p0 v1 v2 v3 v4) [BL 65 5 b2 v13 s.2] w) ⟨v8, W.ra Aa, F⟩ fun s o a w H L4 hR => ?_
  obtain ⟨x10, x11⟩ := s
  obtain ⟨v13, W, F⟩ := hR
  have W : Fr 114 [] [(1, .pointer (some ⟨b1, 0, none⟩)), (2, .string (bs ([] : List UInt8))), (3, .pointer (some ⟨b2, 0, none⟩)), (44, v2), (45, .int .i64 (p0.1.2.2.length : Int)), (46, .int .i64 x10)] a := W
  have F : Stw ⟨Y, [], w0⟩ (Cd b1 p0 v1 v2 v3 v4) [BL 65 5 b2 v13 x11] w := F
  rw [C6] at H
  refine vc tk 6 W F fun a w W F => ?_
  refine Bq W Aa H (fun W H => ?_) fun W H => ?_
  ·
   refine Ek tk 6 W F fun a w W F => ?_
   obtain ⟨x12, h7, H⟩ := Ae H
   refine ls W F Aa (AR (r := A3) O9 W Aa Aa (Ah h_v2) h7).q fun a w W F => ?_
   refine ls W F Aa (An (y := Value.agg #[.int .i64 x12.1, .int .i64 x12.2]) (j := 0) (i := x10) W Aa Aa (Ah h_v2) h7 PU.to Rq Aa).q fun a w W F => ?_
   refine DI (cs := [.int .i64 0, .int .i64 0]) W F Aa SI Aa fun b4 a w W F => ?_
   refine Bg (vs := [.int .i64 x12.1, .int .i64 x12.2]) (M' := (Rh b4 x12 b1 p0 v1 v2 v3 v4)) 0 W F Aa Aa Aa Rq Aa Aa Aa Aa Aa fun w F => ?_
   refine GO tk 7 [0, 0] W F (ai (ai fun a w W F => ?_))
   refine CY (z := Value.int .i64 0) (cs := [.int .i64 x12.1, .int .i64 x12.2]) (Rp.int .i64) ([x12.1, x12.2] : List Int) W F Aa Fb Z3 Aa Aa Aa Aa Aa Aa (Fl.int.repL _ _ ([x12.1, x12.2] : List Int)) fun v14 a w W F => ?_
   obtain ⟨x13, h8, H⟩ := Ae H
   refine ls W F Aa (AE (v := Value.string (bs x13)) W PM Aa (fun w F => CK any w (v14) ([104, 111, 115, 116] : List UInt8) ([x12.1, x12.2] : List Int) _ h8 (((Ap 0 Aa) : CW _ _ _ _ _ _) w F).nx (hG.go0 F))) fun a w W F => ?_
   have F := F.frontZ (i := 1) Aa Aa
   obtain ⟨x14, h9, H⟩ := Ae H
   refine AC (Ml := []) (Zl := [BL 65 5 b2 v13 x11]) (M := (Rh b4 x12 b1 p0 v1 v2 v3 v4)) (Z := [row v14 3 (Rp.int .i64) ([x12.1, x12.2] : List Int)]) (β := Value) (rv := fun x => .tuple #[.int .i64 (x13.length : Int), .nilIface]) (MM := fun x => []) (ZZ := fun x => [BL 65 5 b2 x x14]) W F Mz Aa Aa (fun hL => HI _ _ w b2 v13 x11 x13 _ h9 hL) fun v15 a w W F => ?_
   have F : Stw ⟨Y, [], w0⟩ (Rh b4 x12 b1 p0 v1 v2 v3 v4) [BL 65 5 b2 v15 x14, row v14 3 (Rp.int .i64) ([x12.1, x12.2] : List Int)] w := F
   refine CJ (AB ?_)
   refine vn tk 4 W F fun a w W F => ?_
   refine Ac ?_
   have F := F.frontM (i := 1) Aa Aa
   have F := F.sub (M' := (Cd b1 p0 v1 v2 v3 v4)) (Z' := [BL 65 5 b2 v15 x14]) (List.Sublist.cons_cons _ (List.nil_sublist _)) (List.Sublist.cons_cons _ (List.nil_sublist _))
   exact ⟨_, H, v15, W.ra Aa, F⟩
  refine A1 ?_
  iterate 2 refine BC ?_
  refine Bb (Ac ?_)
  have H := L4 _ H
  exact ⟨_, v13, H, W.ra Aa, F⟩
 rintro a w ⟨x9, v12, hj, W, F⟩
 have hj := AA hj
 subst hj
 have H := K3
 clear G3 K3
 obtain ⟨o5, G5, K5⟩ := Ae H
 refine Aw (fun a w => ∃ x15 : List UInt8, ∃ v16 : Value, some (x15) = some o5 ∧ Fr 114 [] [(1, .pointer (some ⟨b1, 0, none⟩)), (2, .string (bs ([] : List UInt8))), (3, .pointer (some ⟨b2, 0, none⟩))] a ∧ Stw ⟨Y, [], w0⟩ (Cd b1 p0 v1 v2 v3 v4) [BL 65 5 b2 v16 x15] w) ?_ ?_
 ·
  have H := G5
  clear G5 K5
  refine Ib tk 4 [0] W F (ai fun a w W F => ?_)
  refine ls W F Aa (BN (r := (Rp.slice (Rp.int .u64))) (l := p0.2.1) JB Aa W Aa (B9 D4 h1 (Ah h_v3))).q fun a w W F => ?_
  refine C5 tk 4 W F fun a w W F => ?_
  refine Bl H (fun s a w => ∃ v17 : Value, Fr 114 [] [(1, .pointer (some ⟨b1, 0, none⟩)), (2, .string (bs ([] : List UInt8))), (3, .pointer (some ⟨b2, 0, none⟩)), (59, v3), (60, .int .i64 (p0.2.1.length : Int)), (61, .int .i64 s.1)] a ∧ Stw ⟨Y, [], w0⟩ (Cd b1 p0 v1 v2 v3 v4) [BL 65 5 b2 v17 s.2] w) ⟨v12, W.ra Aa, F⟩ fun s o a w H L6 hR => ?_
  obtain ⟨x16, x17⟩ := s
  obtain ⟨v17, W, F⟩ := hR
  have W : Fr 114 [] [(1, .pointer (some ⟨b1, 0, none⟩)), (2, .string (bs ([] : List UInt8))), (3, .pointer (some ⟨b2, 0, none⟩)), (59, v3), (60, .int .i64 (p0.2.1.length : Int)), (61, .int .i64 x16)] a := W
  have F : Stw ⟨Y, [], w0⟩ (Cd b1 p0 v1 v2 v3 v4) [BL 65 5 b2 v17 x17] w := F
  rw [C3] at H
  refine vc tk 6 W F fun a w W F => ?_
  refine Bq W Aa H (fun W H => ?_) fun W H => ?_
  ·
   refine Bp (Ac ?_)
   obtain ⟨o7, G7, K7⟩ := Ae H
   refine Aw (fun a w => ∃ x18 : List UInt8, ∃ v18 : Value, some (x18) = some o7 ∧ Fr 114 [] [(1, .pointer (some ⟨b1, 0, none⟩)), (2, .string (bs ([] : List UInt8))), (3, .pointer (some ⟨b2, 0, none⟩)), (59, v3), (60, .int .i64 (p0.2.1.length : Int)), (61, .int .i64 x16)] a ∧ Stw ⟨Y, [], w0⟩ (Cd b1 p0 v1 v2 v3 v4) [BL 65 5 b2 v18 x18] w) ?_ ?_
   ·
    have H := G7
    clear G7 K7
    refine vc tk 3 W F fun a w W F => ?_
    obtain ⟨x19, h10, H⟩ := Ae H
    obtain ⟨v19, h11, h12⟩ := I5 h1 h10
    have h13 : Hw v19 = [(v19.1)] := congrArg (fun q : List Int => ([(v19.1)] : List Value)) h12
    refine ls W F Aa (AR (r := (Rp.vsl (Rp.int .u64))) NW W Aa Aa (Ah h_v3) h11).q fun a w W F => ?_
    refine ls W F Aa (An (y := (v19.1)) (j := 0) (i := x16) (enc := Hw) W Aa Aa (Ah h_v3) h11 LS QL (by rw [h13]; rfl)).q fun a w W F => ?_
    refine C5 tk 5 W F fun a w W F => ?_
    obtain ⟨x20, h14, H⟩ := Ae H
    refine AC (Ml := []) (Zl := [BL 65 5 b2 v17 x17]) (M := (Cd b1 p0 v1 v2 v3 v4)) (Z := []) (β := Value) (rv := fun x => .tuple #[.int .i64 (([119, 101, 105, 103, 104, 116, 115] : List UInt8).length : Int), .nilIface]) (MM := fun x => []) (ZZ := fun x => [BL 65 5 b2 x x20]) W F Mz Aa Aa (fun hL => HI _ _ w b2 v17 x17 ([119, 101, 105, 103, 104, 116, 115] : List UInt8) _ h14 hL) fun v20 a w W F => ?_
    have F : Stw ⟨Y, [], w0⟩ (Cd b1 p0 v1 v2 v3 v4) [BL 65 5 b2 v20 x20] w := F
    refine CJ (Ac ?_)
    obtain ⟨o8, G8, K8⟩ := Ae H
    refine Aw (fun a w => ∃ x21 : List UInt8, ∃ v21 : Value, some (x21) = some o8 ∧ Fr 114 [] [(1, .pointer (some ⟨b1, 0, none⟩)), (2, .string (bs ([] : List UInt8))), (3, .pointer (some ⟨b2, 0, none⟩)), (59, v3), (60, .int .i64 (p0.2.1.length : Int)), (61, .int .i64 x16)] a ∧ Stw ⟨Y, [], w0⟩ (Cd b1 p0 v1 v2 v3 v4) [BL 65 5 b2 v21 x21] w) ?_ ?_
    ·
     have H := G8
     clear G8 K8
     refine vc tk 3 W F fun a w W F => ?_
     refine ls W F Aa (BN (r := (Rp.int .u64)) (l := x19) Kf Aa W Aa (F4 (Ah h_v3) h11 HL.here (congrArg (fun q : List Int => q) h12))).q fun a w W F => ?_
     refine C5 tk 4 W F fun a w W F => ?_
     refine Bl H (fun s a w => ∃ v22 : Value, Fr 114 [] [(1, .pointer (some ⟨b1, 0, none⟩)), (2, .string (bs ([] : List UInt8))), (3, .pointer (some ⟨b2, 0, none⟩)), (59, v3), (60, .int .i64 (p0.2.1.length : Int)), (61, .int .i64 x16), (66, (v19.1)), (67, .int .i64 (x19.length : Int)), (68, .int .i64 s.1)] a ∧ Stw ⟨Y, [], w0⟩ (Cd b1 p0 v1 v2 v3 v4) [BL 65 5 b2 v22 s.2] w) ⟨v20, W.ra Aa, F⟩ fun s o a w H L9 hR => ?_
     obtain ⟨x22, x23⟩ := s
     obtain ⟨v22, W, F⟩ := hR
     have W : Fr 114 [] [(1, .pointer (some ⟨b1, 0, none⟩)), (2, .string (bs ([] : List UInt8))), (3, .pointer (some ⟨b2, 0, none⟩)), (59, v3), (60, .int .i64 (p0.2.1.length : Int)), (61, .int .i64 x16), (66, (v19.1)), (67, .int .i64 (x19.length : Int)), (68, .int .i64 x22)] a := W
     have F : Stw ⟨Y, [], w0⟩ (Cd b1 p0 v1 v2 v3 v4) [BL 65 5 b2 v22 x23] w := F
     rw [CL] at H
     refine vc tk 6 W F fun a w W F => ?_
     refine Bq W Aa H (fun W H => ?_) fun W H => ?_
     ·
      refine Ek tk 6 W F fun a w W F => ?_
      obtain ⟨x24, h15, H⟩ := Ae H
      refine ls W F Aa (AR (r := (Rp.int .u64)) Pn W Aa Aa (F4 (Ah h_v3) h11 HL.here (congrArg (fun q : List Int => q) h12)) h15).q fun a w W F => ?_
      refine ls W F Aa (An (y := Value.int .u64 x24) (j := 0) (i := x22) W Aa Aa (F4 (Ah h_v3) h11 HL.here (congrArg (fun q : List Int => q) h12)) h15 Fl.int.to Rw Aa).q fun a w W F => ?_
      refine C5 tk 5 W F fun a w W F => ?_
      obtain ⟨x25, h16, H⟩ := Ae H
      refine ls W F Aa (AE (v := Value.string (bs x25)) W S6 Aa (fun w F => I2 any w x24 _ h16 (hG.go0 F))) fun a w W F => ?_
      obtain ⟨x26, h17, H⟩ := Ae H
      refine ls W F Aa (DB (l := ([32] : List UInt8)) (m := x25) W Aa Aa h17).q fun a w W F => ?_
      obtain ⟨x27, h18, H⟩ := Ae H
      refine AC (Ml := []) (Zl := [BL 65 5 b2 v22 x23]) (M := (Cd b1 p0 v1 v2 v3 v4)) (Z := []) (β := Value) (rv := fun x => .tuple #[.int .i64 (x26.length : Int), .nilIface]) (MM := fun x => []) (ZZ := fun x => [BL 65 5 b2 x x27]) W F Mz Aa Aa (fun hL => HI _ _ w b2 v22 x23 x26 _ h18 hL) fun v23 a w W F => ?_
      have F : Stw ⟨Y, [], w0⟩ (Cd b1 p0 v1 v2 v3 v4) [BL 65 5 b2 v23 x27] w := F
      refine CJ (AB ?_)
      refine vn tk 4 W F fun a w W F => ?_
      refine Ac ?_
      exact ⟨_, H, v23, W.ra Aa, F⟩
     refine A1 ?_
     iterate 2 refine BC ?_
     refine Bb (Ac ?_)
     have H := L9 _ H
     exact ⟨_, v22, H, W.ra Aa, F⟩
    rintro a w ⟨x21, v21, hj, W, F⟩
    have hj := AA hj
    subst hj
    have H := K8
    clear G8 K8
    refine JX ?_
    obtain ⟨x28, h19, H⟩ := Ae H
    refine AC (Ml := []) (Zl := [BL 65 5 b2 v21 x21]) (M := (Cd b1 p0 v1 v2 v3 v4)) (Z := []) (β := Value) (rv := fun x => .tuple #[.int .i64 (([10] : List UInt8).length : Int), .nilIface]) (MM := fun x => []) (ZZ := fun x => [BL 65 5 b2 x x28]) W F Mz Aa Aa (fun hL => HI _ _ w b2 v21 x21 ([10] : List UInt8) _ h19 hL) fun v24 a w W F => ?_
    have F : Stw ⟨Y, [], w0⟩ (Cd b1 p0 v1 v2 v3 v4) [BL 65 5 b2 v24 x28] w := F
    refine CJ (AB (Ac ?_))
    exact ⟨_, v24, H, W.ra Aa, F⟩
   rintro a w ⟨x18, v18, hj, W, F⟩
   have hj := AA hj
   subst hj
   have H := K7
   clear G7 K7
   refine vc tk 4 W F fun a w W F => ?_
   refine Ac ?_
   exact ⟨_, H, v18, W.ra Aa, F⟩
  refine A1 ?_
  iterate 2 refine BC ?_
  refine Bb (Ac ?_)
  have H := L6 _ H
  exact ⟨_, v17, H, W.ra Aa, F⟩
 rintro a w ⟨x15, v16, hj, W, F⟩
 have hj := AA hj
 subst hj
 have H := K5
 clear G5 K5
 refine Ib tk 4 [0] W F (ai fun a w W F => ?_)
 obtain ⟨x29, h20, H⟩ := Ae H
 refine ls W F Aa (AE (v := Value.string (bs x29)) W PM Aa (fun w F => CK any w (v4) ([115, 116, 97, 114, 116, 115] : List UInt8) p0.2.2.1 _ h20 (((Ah h_v4) : CW _ _ _ _ _ _) w F).nx (hG.go0 F))) fun a w W F => ?_
 obtain ⟨x30, h21, H⟩ := Ae H
 refine AC (Ml := []) (Zl := [BL 65 5 b2 v16 x15]) (M := (Cd b1 p0 v1 v2 v3 v4)) (Z := []) (β := Value) (rv := fun x => .tuple #[.int .i64 (x29.length : Int), .nilIface]) (MM := fun x => []) (ZZ := fun x => [BL 65 5 b2 x x30]) W F Mz Aa Aa (fun hL => HI _ _ w b2 v16 x15 x29 _ h21 hL) fun v25 a w W F => ?_
 have F : Stw ⟨Y, [], w0⟩ (Cd b1 p0 v1 v2 v3 v4) [BL 65 5 b2 v25 x30] w := F
 refine GO tk 6 [0] W F (ai fun a w W F => ?_)
 refine CY (z := Value.int .i64 0) (cs := [.int .i64 p0.2.2.2.1]) (Rp.int .i64) ([p0.2.2.2.1] : List Int) W F Aa Fb Z3 Aa Aa Aa Aa Aa Aa (Fl.int.repL _ _ ([p0.2.2.2.1] : List Int)) fun v26 a w W F => ?_
 obtain ⟨x31, h22, H⟩ := Ae H
 refine ls W F Aa (AE (v := Value.string (bs x31)) W PM Aa (fun w F => CK any w (v26) ([114, 97, 116, 101] : List UInt8) ([p0.2.2.2.1] : List Int) _ h22 (((Ap 0 Aa) : CW _ _ _ _ _ _) w F).nx (hG.go0 F))) fun a w W F => ?_
 have F := F.frontZ (i := 1) Aa Aa
 obtain ⟨x32, h23, H⟩ := Ae H
 refine AC (Ml := []) (Zl := [BL 65 5 b2 v25 x30]) (M := (Cd b1 p0 v1 v2 v3 v4)) (Z := [row v26 3 (Rp.int .i64) ([p0.2.2.2.1] : List Int)]) (β := Value) (rv := fun x => .tuple #[.int .i64 (x31.length : Int), .nilIface]) (MM := fun x => []) (ZZ := fun x => [BL 65 5 b2 x x32]) W F Mz Aa Aa (fun hL => HI _ _ w b2 v25 x30 x31 _ h23 hL) fun v27 a w W F => ?_
 have F : Stw ⟨Y, [], w0⟩ (Cd b1 p0 v1 v2 v3 v4) [BL 65 5 b2 v27 x32, row v26 3 (Rp.int .i64) ([p0.2.2.2.1] : List Int)] w := F
 refine GO tk 6 [0] W F (ai fun a w W F => ?_)
 refine CY (z := Value.int .i64 0) (cs := [.int .i64 p0.2.2.2.2.1]) (Rp.int .i64) ([p0.2.2.2.2.1] : List Int) W F Aa Fb Z3 Aa Aa Aa Aa Aa Aa (Fl.int.repL _ _ ([p0.2.2.2.2.1] : List Int)) fun v28 a w W F => ?_
 obtain ⟨x33, h24, H⟩ := Ae H
 refine ls W F Aa (AE (v := Value.string (bs x33)) W PM Aa (fun w F => CK any w (v28) ([114, 111, 111, 109] : List UInt8) ([p0.2.2.2.2.1] : List Int) _ h24 (((Ap 0 Aa) : CW _ _ _ _ _ _) w F).nx (hG.go0 F))) fun a w W F => ?_
 have F := F.frontZ (i := 1) Aa Aa
 obtain ⟨x34, h25, H⟩ := Ae H
 refine AC (Ml := []) (Zl := [BL 65 5 b2 v27 x32]) (M := (Cd b1 p0 v1 v2 v3 v4)) (Z := [row v28 3 (Rp.int .i64) ([p0.2.2.2.2.1] : List Int), row v26 3 (Rp.int .i64) ([p0.2.2.2.1] : List Int)]) (β := Value) (rv := fun x => .tuple #[.int .i64 (x33.length : Int), .nilIface]) (MM := fun x => []) (ZZ := fun x => [BL 65 5 b2 x x34]) W F Mz Aa Aa (fun hL => HI _ _ w b2 v27 x32 x33 _ h25 hL) fun v29 a w W F => ?_
 have F : Stw ⟨Y, [], w0⟩ (Cd b1 p0 v1 v2 v3 v4) [BL 65 5 b2 v29 x34, row v28 3 (Rp.int .i64) ([p0.2.2.2.2.1] : List Int), row v26 3 (Rp.int .i64) ([p0.2.2.2.1] : List Int)] w := F
 refine GO tk 6 [0] W F (ai fun a w W F => ?_)
 refine CY (z := Value.int .i64 0) (cs := [.int .i64 p0.2.2.2.2.2.1]) (Rp.int .i64) ([p0.2.2.2.2.2.1] : List Int) W F Aa Fb Z3 Aa Aa Aa Aa Aa Aa (Fl.int.repL _ _ ([p0.2.2.2.2.2.1] : List Int)) fun v30 a w W F => ?_
 obtain ⟨x35, h26, H⟩ := Ae H
 refine ls W F Aa (AE (v := Value.string (bs x35)) W PM Aa (fun w F => CK any w (v30) ([119, 105, 100, 101] : List UInt8) ([p0.2.2.2.2.2.1] : List Int) _ h26 (((Ap 0 Aa) : CW _ _ _ _ _ _) w F).nx (hG.go0 F))) fun a w W F => ?_
 have F := F.frontZ (i := 1) Aa Aa
 obtain ⟨x36, h27, H⟩ := Ae H
 refine AC (Ml := []) (Zl := [BL 65 5 b2 v29 x34]) (M := (Cd b1 p0 v1 v2 v3 v4)) (Z := [row v30 3 (Rp.int .i64) ([p0.2.2.2.2.2.1] : List Int), row v28 3 (Rp.int .i64) ([p0.2.2.2.2.1] : List Int), row v26 3 (Rp.int .i64) ([p0.2.2.2.1] : List Int)]) (β := Value) (rv := fun x => .tuple #[.int .i64 (x35.length : Int), .nilIface]) (MM := fun x => []) (ZZ := fun x => [BL 65 5 b2 x x36]) W F Mz Aa Aa (fun hL => HI _ _ w b2 v29 x34 x35 _ h27 hL) fun v31 a w W F => ?_
 have F : Stw ⟨Y, [], w0⟩ (Cd b1 p0 v1 v2 v3 v4) [BL 65 5 b2 v31 x36, row v30 3 (Rp.int .i64) ([p0.2.2.2.2.2.1] : List Int), row v28 3 (Rp.int .i64) ([p0.2.2.2.2.1] : List Int), row v26 3 (Rp.int .i64) ([p0.2.2.2.1] : List Int)] w := F
 refine GO tk 6 [0] W F (ai fun a w W F => ?_)
 refine CY (z := Value.int .i64 0) (cs := [.int .i64 p0.2.2.2.2.2.2.1]) (Rp.int .i64) ([p0.2.2.2.2.2.2.1] : List Int) W F Aa Fb Z3 Aa Aa Aa Aa Aa Aa (Fl.int.repL _ _ ([p0.2.2.2.2.2.2.1] : List Int)) fun v32 a w W F => ?_
 obtain ⟨x37, h28, H⟩ := Ae H
 refine ls W F Aa (AE (v := Value.string (bs x37)) W PM Aa (fun w F => CK any w (v32) ([108, 101, 97, 100] : List UInt8) ([p0.2.2.2.2.2.2.1] : List Int) _ h28 (((Ap 0 Aa) : CW _ _ _ _ _ _) w F).nx (hG.go0 F))) fun a w W F => ?_
 have F := F.frontZ (i := 1) Aa Aa
 obtain ⟨x38, h29, H⟩ := Ae H
 refine AC (Ml := []) (Zl := [BL 65 5 b2 v31 x36]) (M := (Cd b1 p0 v1 v2 v3 v4)) (Z := [row v32 3 (Rp.int .i64) ([p0.2.2.2.2.2.2.1] : List Int), row v30 3 (Rp.int .i64) ([p0.2.2.2.2.2.1] : List Int), row v28 3 (Rp.int .i64) ([p0.2.2.2.2.1] : List Int), row v26 3 (Rp.int .i64) ([p0.2.2.2.1] : List Int)]) (β := Value) (rv := fun x => .tuple #[.int .i64 (x37.length : Int), .nilIface]) (MM := fun x => []) (ZZ := fun x => [BL 65 5 b2 x x38]) W F Mz Aa Aa (fun hL => HI _ _ w b2 v31 x36 x37 _ h29 hL) fun v33 a w W F => ?_
 have F : Stw ⟨Y, [], w0⟩ (Cd b1 p0 v1 v2 v3 v4) [BL 65 5 b2 v33 x38, row v32 3 (Rp.int .i64) ([p0.2.2.2.2.2.2.1] : List Int), row v30 3 (Rp.int .i64) ([p0.2.2.2.2.2.1] : List Int), row v28 3 (Rp.int .i64) ([p0.2.2.2.2.1] : List Int), row v26 3 (Rp.int .i64) ([p0.2.2.2.1] : List Int)] w := F
 refine GO tk 6 [0] W F (ai fun a w W F => ?_)
 refine CY (z := Value.int .i64 0) (cs := [.int .i64 p0.2.2.2.2.2.2.2.1]) (Rp.int .i64) ([p0.2.2.2.2.2.2.2.1] : List Int) W F Aa Fb Z3 Aa Aa Aa Aa Aa Aa (Fl.int.repL _ _ ([p0.2.2.2.2.2.2.2.1] : List Int)) fun v34 a w W F => ?_
 obtain ⟨x39, h30, H⟩ := Ae H
 refine ls W F Aa (AE (v := Value.string (bs x39)) W PM Aa (fun w F => CK any w (v34) ([109, 97, 114, 103, 105, 110] : List UInt8) ([p0.2.2.2.2.2.2.2.1] : List Int) _ h30 (((Ap 0 Aa) : CW _ _ _ _ _ _) w F).nx (hG.go0 F))) fun a w W F => ?_
 have F := F.frontZ (i := 1) Aa Aa
 obtain ⟨x40, h31, H⟩ := Ae H
 refine AC (Ml := []) (Zl := [BL 65 5 b2 v33 x38]) (M := (Cd b1 p0 v1 v2 v3 v4)) (Z := [row v34 3 (Rp.int .i64) ([p0.2.2.2.2.2.2.2.1] : List Int), row v32 3 (Rp.int .i64) ([p0.2.2.2.2.2.2.1] : List Int), row v30 3 (Rp.int .i64) ([p0.2.2.2.2.2.1] : List Int), row v28 3 (Rp.int .i64) ([p0.2.2.2.2.1] : List Int), row v26 3 (Rp.int .i64) ([p0.2.2.2.1] : List Int)]) (β := Value) (rv := fun x => .tuple #[.int .i64 (x39.length : Int), .nilIface]) (MM := fun x => []) (ZZ := fun x => [BL 65 5 b2 x x40]) W F Mz Aa Aa (fun hL => HI _ _ w b2 v33 x38 x39 _ h31 hL) fun v35 a w W F => ?_
 have F : Stw ⟨Y, [], w0⟩ (Cd b1 p0 v1 v2 v3 v4) [BL 65 5 b2 v35 x40, row v34 3 (Rp.int .i64) ([p0.2.2.2.2.2.2.2.1] : List Int), row v32 3 (Rp.int .i64) ([p0.2.2.2.2.2.2.1] : List Int), row v30 3 (Rp.int .i64) ([p0.2.2.2.2.2.1] : List Int), row v28 3 (Rp.int .i64) ([p0.2.2.2.2.1] : List Int), row v26 3 (Rp.int .i64) ([p0.2.2.2.1] : List Int)] w := F
 refine GO tk 6 [0] W F (ai fun a w W F => ?_)
 refine CY (z := Value.int .i64 0) (cs := [.int .i64 p0.2.2.2.2.2.2.2.2]) (Rp.int .i64) ([p0.2.2.2.2.2.2.2.2] : List Int) W F Aa Fb Z3 Aa Aa Aa Aa Aa Aa (Fl.int.repL _ _ ([p0.2.2.2.2.2.2.2.2] : List Int)) fun v36 a w W F => ?_
 obtain ⟨x41, h32, H⟩ := Ae H
 refine ls W F Aa (AE (v := Value.string (bs x41)) W PM Aa (fun w F => CK any w (v36) ([114, 101, 116, 114, 121] : List UInt8) ([p0.2.2.2.2.2.2.2.2] : List Int) _ h32 (((Ap 0 Aa) : CW _ _ _ _ _ _) w F).nx (hG.go0 F))) fun a w W F => ?_
 have F := F.frontZ (i := 1) Aa Aa
 obtain ⟨x42, h33, H⟩ := Ae H
 refine AC (Ml := []) (Zl := [BL 65 5 b2 v35 x40]) (M := (Cd b1 p0 v1 v2 v3 v4)) (Z := [row v36 3 (Rp.int .i64) ([p0.2.2.2.2.2.2.2.2] : List Int), row v34 3 (Rp.int .i64) ([p0.2.2.2.2.2.2.2.1] : List Int), row v32 3 (Rp.int .i64) ([p0.2.2.2.2.2.2.1] : List Int), row v30 3 (Rp.int .i64) ([p0.2.2.2.2.2.1] : List Int), row v28 3 (Rp.int .i64) ([p0.2.2.2.2.1] : List Int), row v26 3 (Rp.int .i64) ([p0.2.2.2.1] : List Int)]) (β := Value) (rv := fun x => .tuple #[.int .i64 (x41.length : Int), .nilIface]) (MM := fun x => []) (ZZ := fun x => [BL 65 5 b2 x x42]) W F Mz Aa Aa (fun hL => HI _ _ w b2 v35 x40 x41 _ h33 hL) fun v37 a w W F => ?_
 have F : Stw ⟨Y, [], w0⟩ (Cd b1 p0 v1 v2 v3 v4) [BL 65 5 b2 v37 x42, row v36 3 (Rp.int .i64) ([p0.2.2.2.2.2.2.2.2] : List Int), row v34 3 (Rp.int .i64) ([p0.2.2.2.2.2.2.2.1] : List Int), row v32 3 (Rp.int .i64) ([p0.2.2.2.2.2.2.1] : List Int), row v30 3 (Rp.int .i64) ([p0.2.2.2.2.2.1] : List Int), row v28 3 (Rp.int .i64) ([p0.2.2.2.2.1] : List Int), row v26 3 (Rp.int .i64) ([p0.2.2.2.1] : List Int)] w := F
 refine C5 tk 4 W F fun a w W F => ?_
 obtain ⟨x43, h34, H⟩ := Ae H
 refine AC (Ml := []) (Zl := [BL 65 5 b2 v37 x42]) (M := (Cd b1 p0 v1 v2 v3 v4)) (Z := [row v36 3 (Rp.int .i64) ([p0.2.2.2.2.2.2.2.2] : List Int), row v34 3 (Rp.int .i64) ([p0.2.2.2.2.2.2.2.1] : List Int), row v32 3 (Rp.int .i64) ([p0.2.2.2.2.2.2.1] : List Int), row v30 3 (Rp.int .i64) ([p0.2.2.2.2.2.1] : List Int), row v28 3 (Rp.int .i64) ([p0.2.2.2.2.1] : List Int), row v26 3 (Rp.int .i64) ([p0.2.2.2.1] : List Int)]) (β := Unit) (rv := fun x => .string (bs x43)) (MM := fun x => []) (ZZ := fun x => [BL 65 5 b2 v37 x42]) W F Tl Aa Aa (fun hL => Sb _ _ w b2 v37 x42 _ h34 hL) fun _ a w W F => ?_
 have F : Stw ⟨Y, [], w0⟩ (Cd b1 p0 v1 v2 v3 v4) [BL 65 5 b2 v37 x42, row v36 3 (Rp.int .i64) ([p0.2.2.2.2.2.2.2.2] : List Int), row v34 3 (Rp.int .i64) ([p0.2.2.2.2.2.2.2.1] : List Int), row v32 3 (Rp.int .i64) ([p0.2.2.2.2.2.2.1] : List Int), row v30 3 (Rp.int .i64) ([p0.2.2.2.2.2.1] : List Int), row v28 3 (Rp.int .i64) ([p0.2.2.2.2.1] : List Int), row v26 3 (Rp.int .i64) ([p0.2.2.2.1] : List Int)] w := F
 refine vl tk 2 W F fun a w W F => ?_
 refine Ac (Ax ?_)
 have H := AA H
 subst H
 refine BB (.inl Aa) W F Aa (Ao W Aa) ?_
 exact ⟨rfl, F.done⟩
theorem NK : type_of% Tryz.underlying45 := Tryz.underlying45
theorem SY : type_of% Tryz.underlying81 := Tryz.underlying81
theorem H8 : Has Tryz.prog 8 := ⟨fun args w => Af Tryz.func8 rfl (by decide) args w⟩
theorem TO : (Tryz.prog.info? 32).bind (·.zero) = some (.int .i64 0) := by kernel_rfl
theorem TP : Bt Tryz.prog 45 [.string (bs ([] : List UInt8)), .int .i64 0] [(0, 1), (1, 1)] := ⟨⟨.agg #[.string (bs ([] : List UInt8)), .int .i64 0], by kernel_rfl, rfl⟩, ⟨_, NK, fun w => by kernel_rfl⟩⟩
theorem T9 : Ty Tryz.prog 9 false 1 := ⟨by kernel_rfl, by kernel_rfl⟩
theorem SN : Has Tryz.prog 38 := ⟨fun args w => Af Tryz.func38 rfl (by decide) args w⟩
theorem TF : Bt Tryz.prog 81 [.int .i64 0] [(0, 1)] := ⟨⟨.agg #[.int .i64 0], by kernel_rfl, rfl⟩, ⟨_, SY, fun w => by kernel_rfl⟩⟩
theorem Tk : (Tryz.prog.underlying 81).map (fun d => match d with | .interface _ => true | _ => false) = some false := by kernel_rfl
def As (p0 : List UInt8 × Int) : Int := p0.2
theorem B0 (Y : Nat → Prop) (w0 : World) (q_p0 : Nat) (p0 : List UInt8 × Int) (r : Int) (H : As p0 = r) (a_q_p0 : At ⟨Y, [], w0⟩ q_p0 0 [.string (bs p0.1), .int .i64 p0.2]) :
    Calls Tryz.prog 43 #[.pointer (some ⟨q_p0, 0, none⟩)] w0 fun e w' => ∃ x : Unit, e = .panicked [{ v := .iface 81 (.agg #[.int .i64 r]), recovered := false }] ∧ Stw ⟨Y, [], w0⟩ [] [] w' := by
 refine enter Tryz.func43 Aa Tryz.ntmps43 Aa fun a W => ?_
 have F := Stw.start Y w0
 unfold As at H
 refine vc tk 2 W F fun a w W F => ?_
 refine ls W F Aa (Er W Aa).q fun a w W F => ?_
 refine ls W F Aa (Aj NK Aa Aa Aa T3 W Aa 1 Aa).q fun a w W F => ?_
 refine ls W F Aa (IM (y := Value.int .i64 p0.2) (j := 1) W Aa (Nat.zero_add _).symm a_q_p0 T3 Aa).q fun a w W F => ?_
 refine ls W F Aa (Fa (v := Value.agg #[.int .i64 p0.2]) TF W Aa Aa Aa).q fun a w W F => ?_
 refine ls W F Aa (C7 Tk W Aa).q fun a w W F => ?_
 refine Qa W Aa ?_
 subst H
 refine CB W ?_
 exact ⟨(), Aa, F⟩
theorem QP : Has Tryz.prog 43 := ⟨fun args w => Af Tryz.func43 rfl (by decide) args w⟩
noncomputable def BE (p0 : List UInt8 × Int) : Option ((List UInt8) ⊕ Int) := (Jl p0.1 ([10] : List UInt8)).bind fun x1 => (if (!x1.2.2) = true then some (.inr (As p0)) else some (.inl x1.1))
theorem Dy (Y : Nat → Prop) (w0 : World) (q_p0 : Nat) (p0 : List UInt8 × Int) (r : (List UInt8) ⊕ Int) (H : BE p0 = some r) (a_q_p0 : At ⟨Y, [], w0⟩ q_p0 0 [.string (bs p0.1), .int .i64 p0.2]) (hG : Gk [] w0) :
    Calls Tryz.prog 39 #[.pointer (some ⟨q_p0, 0, none⟩)] w0 fun e w' => Ko r (fun r => ∃ x : Unit, e = .returned (.string (bs r)) ∧ Stw ⟨Y, [], w0⟩ [] [] w') (fun r => ∃ x : Unit, e = .panicked [{ v := .iface 81 (.agg #[.int .i64 r]), recovered := false }] ∧ Stw ⟨Y, [], w0⟩ [] [] w') := by
 refine enter Tryz.func39 Aa Tryz.ntmps39 Aa fun a W => ?_
 have F := Stw.start Y w0
 unfold BE at H
 refine vc tk 2 W F fun a w W F => ?_
 refine ls W F Aa (Cc (v := Value.string (bs ([] : List UInt8))) W Aa).q fun a w W F => ?_
 refine C5 tk 5 W F fun a w W F => ?_
 refine ls W F Aa (Er W Aa).q fun a w W F => ?_
 refine ls W F Aa (Aj NK Aa Aa Aa T9 W Aa 0 Aa).q fun a w W F => ?_
 refine ls W F Aa (IM (y := Value.string (bs p0.1)) (j := 0) W Aa (Nat.zero_add _).symm a_q_p0 T9 Aa).q fun a w W F => ?_
 obtain ⟨x1, h1, H⟩ := Ae H
 refine ls W F Aa (AE (v := Value.tuple #[.string (bs x1.1), .string (bs x1.2.1), .bool x1.2.2]) W SN Aa (fun w F => OV any w p0.1 ([10] : List UInt8) _ h1 (hG.go0 F))) fun a w W F => ?_
 refine ls W F Aa (Am W Aa).q fun a w W F => ?_
 refine ls W F Aa (Au (v := Value.string (bs x1.1)) W Aa Aa).q fun a w W F => ?_
 refine ls W F Aa (Au (v := Value.string (bs x1.2.1)) W Aa Aa).q fun a w W F => ?_
 refine ls W F Aa (Au (v := Value.bool x1.2.2) W Aa Aa).q fun a w W F => ?_
 refine C5 tk 12 W F fun a w W F => ?_
 refine B2 W Aa H (fun W H => ?_) fun W H => ?_
 ·
  refine vc tk 2 W F fun a w W F => ?_
  refine B4 (Ml := []) (Zl := []) (M := []) (Z := []) (β := Unit) (pv := fun x => .iface 81 (.agg #[.int .i64 (As p0)])) (MM := fun x => []) (ZZ := fun x => []) W F QP Aa (fun hL => B0 _ w q_p0 p0 _ Aa (At.re a_q_p0 F)) fun x w F => ?_
  have F : Stw ⟨Y, [], w0⟩ [] [] w := F
  refine BH ?_
  have H := AA H
  subst H
  refine CB W ?_
  exact ⟨(), Aa, F⟩
 refine Ek tk 8 W F fun a w W F => ?_
 refine Ax ?_
 have H := AA H
 subst H
 refine BB (.inl Aa) W F Aa (Ao W Aa) ?_
 exact ⟨(), Aa, F⟩
theorem MJ : type_of% Tryz.underlying54 := Tryz.underlying54
theorem Sq : Has Tryz.prog 39 := ⟨fun args w => Af Tryz.func39 rfl (by decide) args w⟩
theorem TB : Has Tryz.prog 54 := ⟨fun args w => Af Tryz.func54 rfl (by decide) args w⟩
theorem JP : Et Tryz.prog 54 9 1 16 := Et.of MJ (by kernel_rfl) (by kernel_rfl) (by kernel_rfl) (by decide)
noncomputable def BW (p0 : List UInt8 × Int) (p1 : List UInt8) : Option ((List (List UInt8)) ⊕ Int) := (BE p0).bind fun x1 => Cq x1 (fun x2 => (HW x2 ([32] : List UInt8)).bind fun x4 => (ix x4 0).bind fun x5 => (if x5 ≠ p1 then some (.inr (As p0)) else (D3 x4 1 (x4.length : Int)).bind fun x6 => some (.inl x6))) (fun x3 => some (.inr x3))
theorem Dp (Y : Nat → Prop) (w0 : World) (q_p0 : Nat) (p0 : List UInt8 × Int) (p1 : List UInt8) (r : (List (List UInt8)) ⊕ Int) (H : BW p0 p1 = some r) (a_q_p0 : At ⟨Y, [], w0⟩ q_p0 0 [.string (bs p0.1), .int .i64 p0.2]) (hG : Gk [] w0) :
    Calls Tryz.prog 40 #[.pointer (some ⟨q_p0, 0, none⟩), .string (bs p1)] w0 fun e w' => Ko r (fun r => ∃ x : Value, e = .returned (x) ∧ Stw ⟨Y, [], w0⟩ [] [row (x) 9 Rp.str r] w') (fun r => ∃ x : Unit, e = .panicked [{ v := .iface 81 (.agg #[.int .i64 r]), recovered := false }] ∧ Stw ⟨Y, [], w0⟩ [] [] w') := by
 refine enter Tryz.func40 Aa Tryz.ntmps40 Aa fun a W => ?_
 have F := Stw.start Y w0
 unfold BW at H
 refine vc tk 8 W F fun a w W F => ?_
 obtain ⟨x1, h1, H⟩ := Ae H
 rcases x1 with x2 | x3
 ·
  have H := F1 H
  refine AC (Ml := []) (Zl := []) (M := []) (Z := []) (β := Unit) (rv := fun x => .string (bs x2)) (MM := fun x => []) (ZZ := fun x => []) W F Sq Aa Aa (fun hL => Dy _ w q_p0 p0 _ h1 (At.re a_q_p0 F) (hG.go0 F)) fun x a w W F => ?_
  have F : Stw ⟨Y, [], w0⟩ [] [] w := F
  obtain ⟨x4, h2, H⟩ := Ae H
  refine AC (Ml := []) (Zl := []) (M := []) (Z := []) (β := Value) (rv := fun x => x) (MM := fun x => []) (ZZ := fun x => [row x 9 Rp.str x4]) W F TB Aa Aa (fun hL => Qd _ w x2 ([32] : List UInt8) _ h2 (hG.go0 F)) fun x a w W F => ?_
  obtain ⟨v1, rfl⟩ : ∃ y, y = x := ⟨x, rfl⟩
  have F : Stw ⟨Y, [], w0⟩ [] [row v1 9 Rp.str x4] w := F
  refine C5 tk 7 W F fun a w W F => ?_
  obtain ⟨x5, h3, H⟩ := Ae H
  refine ls W F Aa (AR (r := Rp.str) JP W Aa Aa (Ap 0 Aa) h3).q fun a w W F => ?_
  refine ls W F Aa (An (y := Value.string (bs x5)) (j := 0) (i := 0) W Aa Aa (Ap 0 Aa) h3 Fl.str.to T9 Aa).q fun a w W F => ?_
  refine ls W F Aa (Am W Aa).q fun a w W F => ?_
  refine ls W F Aa (Mq (l := x5) (m := p1) W Aa Aa).q fun a w W F => ?_
  refine CJ (Ac ?_)
  refine Bq W Aa H (fun W H => ?_) fun W H => ?_
  ·
   refine vc tk 2 W F fun a w W F => ?_
   refine B4 (Ml := []) (Zl := []) (M := []) (Z := [row v1 9 Rp.str x4]) (β := Unit) (pv := fun x => .iface 81 (.agg #[.int .i64 (As p0)])) (MM := fun x => []) (ZZ := fun x => []) W F QP Aa (fun hL => B0 _ w q_p0 p0 _ Aa (At.re a_q_p0 F)) fun x w F => ?_
   have F : Stw ⟨Y, [], w0⟩ [] [row v1 9 Rp.str x4] w := F
   refine BH ?_
   have H := AA H
   subst H
   refine CB W ?_
   have F := F.sub (M' := []) (Z' := []) (List.Sublist.refl _) (List.nil_sublist _)
   exact ⟨(), Aa, F⟩
  refine Ek tk 5 W F fun a w W F => ?_
  obtain ⟨x6, h4, H⟩ := Ae H
  refine ls W F Aa (Qf (r := Rp.str) JP W Aa Aa Aa (Ap 0 Aa) h4).q fun a w W F => ?_
  refine vl tk 2 W F fun a w W F => ?_
  refine Ac (Ax ?_)
  have H := AA H
  subst H
  refine BB (.inl Aa) W F Aa (Ao W Aa) ?_
  have F := F.subRow (k := 0) Aa Aa h4
  exact ⟨((DW v1 (1 : Int) (x4.length : Int) 1)), Aa, F⟩
 have H := F3 H
 refine B4 (Ml := []) (Zl := []) (M := []) (Z := []) (β := Unit) (pv := fun x => .iface 81 (.agg #[.int .i64 x3])) (MM := fun x => []) (ZZ := fun x => []) W F Sq Aa (fun hL => Dy _ w q_p0 p0 _ h1 (At.re a_q_p0 F) (hG.go0 F)) fun x w F => ?_
 have F : Stw ⟨Y, [], w0⟩ [] [] w := F
 refine BH ?_
 have H := AA H
 subst H
 refine CB W ?_
 exact ⟨(), Aa, F⟩
theorem Sn : Has Tryz.prog 40 := ⟨fun args w => Af Tryz.func40 rfl (by decide) args w⟩
theorem Tg : Has Tryz.prog 41 := ⟨fun args w => Af Tryz.func41 rfl (by decide) args w⟩
noncomputable def BQ (p0 : List UInt8 × Int) : Option (List UInt8 × Int) := (Jl p0.1 ([10] : List UInt8)).bind fun x1 => some (x1.2.1, BD (p0.2 + 1))
theorem FP (Y : Nat → Prop) (X : List Nat) (w0 : World) (q_p0 : Nat) (p0 : List UInt8 × Int) (r : (List UInt8 × Int)) (H : BQ p0 = some r) (hG : Gk X w0) (hL : Stw ⟨Y, X, w0⟩ [(q_p0, [.string (bs p0.1), .int .i64 p0.2])] [] w0) :
    Calls Tryz.prog 44 #[.pointer (some ⟨q_p0, 0, none⟩)] w0 fun e w' => ∃ x : Unit, e = .returned (.tuple #[]) ∧ Stw ⟨Y, X, w0⟩ [(q_p0, [.string (bs r.1), .int .i64 r.2])] [] w' := by
 refine enter Tryz.func44 Aa Tryz.ntmps44 Aa fun a W => ?_
 have F := hL
 unfold BQ at H
 refine vc tk 4 W F fun a w W F => ?_
 refine ls W F Aa (Er W Aa).q fun a w W F => ?_
 refine LA tk 2 [0] W F (ai fun a w W F => ?_)
 obtain ⟨x1, h1, H⟩ := Ae H
 refine ls W F Aa (AE (v := Value.tuple #[.string (bs x1.1), .string (bs x1.2.1), .bool x1.2.2]) W SN Aa (fun w F => OV any w p0.1 ([10] : List UInt8) _ h1 (hG.go0 F))) fun a w W F => ?_
 refine ls W F Aa (Am W Aa).q fun a w W F => ?_
 refine ls W F Aa (Au (v := Value.string (bs x1.1)) W Aa Aa).q fun a w W F => ?_
 refine ls W F Aa (Au (v := Value.string (bs x1.2.1)) W Aa Aa).q fun a w W F => ?_
 refine ls W F Aa (Au (v := Value.bool x1.2.2) W Aa Aa).q fun a w W F => ?_
 refine ls W F Aa (Er W Aa).q fun a w W F => ?_
 refine ls W F Aa (Aj NK Aa Aa Aa T9 W Aa 0 Aa).q fun a w W F => ?_
 refine Bg (vs := [.string (bs x1.2.1)]) (M' := [(q_p0, [.string (bs x1.2.1), .int .i64 p0.2])]) 0 W F Aa Aa Aa T9 Aa Aa Aa Aa Aa fun w F => ?_
 refine C5 tk 4 W F fun a w W F => ?_
 refine ls W F Aa (Er W Aa).q fun a w W F => ?_
 refine LA tk 3 [0] W F (ai fun a w W F => ?_)
 refine ls W F Aa (Er W Aa).q fun a w W F => ?_
 refine ls W F Aa (Aj NK Aa Aa Aa T3 W Aa 1 Aa).q fun a w W F => ?_
 refine Bg (vs := [.int .i64 (BD (p0.2 + 1))]) (M' := [(q_p0, [.string (bs x1.2.1), .int .i64 (BD (p0.2 + 1))])]) 0 W F Aa Aa Aa T3 Aa Aa Aa Aa Aa fun w F => ?_
 refine CJ ?_
 have H := AA H
 subst H
 refine Nu (.inr Aa) W Aa ?_
 exact ⟨(), Aa, F⟩
theorem Od : type_of% Tryz.underlying67 := Tryz.underlying67
theorem Tf : Has Tryz.prog 44 := ⟨fun args w => Af Tryz.func44 rfl (by decide) args w⟩
noncomputable def Be (p0 : List UInt8 × Int) (x3 : List (List UInt8)) : (List Int × Int) → Option ((List Int × Int) ⊕ ((List Int) ⊕ ((List Int × (List UInt8 × Int)) ⊕ (Int × (List UInt8 × Int)))))
  | (x5, x6) => (if x6 < (x3.length : Int) then (ix x3 x6).bind fun x7 => (HR x7).bind fun x8 => Cq x8 (fun x9 => ES (if x9 < (-1125899906842624) then some (.inl true) else (if 1125899906842624 < x9 then some (.inl true) else (JG x9).bind fun x12 => some (.inl (decide (x12 ≠ x7))))) fun x11 => (if x11 = true then some (.inr (.inr (.inr ((As p0), p0)))) else (Dg x5 ([x9] : List Int)).bind fun x13 => some (.inl (x13, BD (x6 + 1))))) (fun x10 => some (.inr (.inr (.inr ((As p0), p0))))) else some (.inr (.inl x5)))
noncomputable def AG (p0 : List UInt8 × Int) (p1 : List UInt8) (p2 : Int) : Option ((List Int × (List UInt8 × Int)) ⊕ (Int × (List UInt8 × Int))) := ES ((BW p0 p1).bind fun x2 => Cq x2 (fun x3 => Av (Be p0 x3) ([], 0)) (fun x4 => some (.inr (.inr (x4, p0))))) fun x1 => (if (decide (p2 ≠ (-1)) && decide ((x1.length : Int) ≠ p2)) = true then some (.inr ((As p0), p0)) else (BQ p0).bind fun x14 => some (.inl (x1, x14)))
theorem BF (Y : Nat → Prop) (X : List Nat) (w0 : World) (q_p0 : Nat) (p0 : List UInt8 × Int) (p1 : List UInt8) (p2 : Int) (r : (List Int × (List UInt8 × Int)) ⊕ (Int × (List UInt8 × Int))) (H : AG p0 p1 p2 = some r) (hG : Gk X w0) (hL : Stw ⟨Y, X, w0⟩ [(q_p0, [.string (bs p0.1), .int .i64 p0.2])] [] w0) :
    Calls Tryz.prog 16 #[.pointer (some ⟨q_p0, 0, none⟩), .string (bs p1), .int .i64 p2] w0 fun e w' => Ko r (fun r => ∃ x : Value, e = .returned (x) ∧ Stw ⟨Y, X, w0⟩ [(q_p0, [.string (bs r.2.1), .int .i64 r.2.2])] [row (x) 3 (Rp.int .i64) r.1] w') (fun r => ∃ x : Unit, e = .panicked [{ v := .iface 81 (.agg #[.int .i64 r.1]), recovered := false }] ∧ Stw ⟨Y, X, w0⟩ [(q_p0, [.string (bs r.2.1), .int .i64 r.2.2])] [] w') := by
 refine enter Tryz.func16 Aa Tryz.ntmps16 Aa fun a W => ?_
 have F := hL
 unfold AG at H
 refine vc tk 10 W F fun a w W F => ?_
 obtain ⟨o1, G1, K1, L1⟩ := HU H
 refine Aw (fun a w => ∃ x1 : List Int, ∃ v1 : Value, some (Sum.inl x1) = some o1 ∧ Fr 61 [] [(0, .pointer (some ⟨q_p0, 0, none⟩)), (2, .int .i64 p2), (6, .slice none 0 0), (7, v1)] a ∧ Stw ⟨Y, X, w0⟩ [(q_p0, [.string (bs p0.1), .int .i64 p0.2])] [row v1 3 (Rp.int .i64) x1] w) ?_ ?_
 ·
  have H := G1
  clear G1 K1
  refine vc tk 4 W F fun a w W F => ?_
  obtain ⟨x2, h1, H⟩ := Ae H
  rcases x2 with x3 | x4
  ·
   have H := F1 H
   refine AC (Ml := []) (Zl := []) (M := [(q_p0, [.string (bs p0.1), .int .i64 p0.2])]) (Z := []) (β := Value) (rv := fun x => x) (MM := fun x => []) (ZZ := fun x => [row x 9 Rp.str x3]) W F Sn Aa Aa (fun hL => Dp _ w q_p0 p0 p1 _ h1 (G0 F 0 Aa) (hG.go0 F)) fun x a w W F => ?_
   obtain ⟨v2, rfl⟩ : ∃ y, y = x := ⟨x, rfl⟩
   have F : Stw ⟨Y, X, w0⟩ [(q_p0, [.string (bs p0.1), .int .i64 p0.2])] [row v2 9 Rp.str x3] w := F
   refine ls W F Aa (BN (r := Rp.str) (l := x3) MJ Aa W Aa (Ap 0 Aa)).q fun a w W F => ?_
   refine C5 tk 4 W F fun a w W F => ?_
   have F := F.nilRow 3 (Rp.int .i64)
   have F := F.frontZ (i := 1) Aa Aa
   have F := F.frontZ (i := 1) Aa Aa
   refine Bl H (fun s a w => ∃ v3 : Value, Fr 61 [] [(0, .pointer (some ⟨q_p0, 0, none⟩)), (2, .int .i64 p2), (6, .slice none 0 0), (7, v3), (14, v2), (15, .int .i64 (x3.length : Int)), (16, .int .i64 s.2)] a ∧ Stw ⟨Y, X, w0⟩ [(q_p0, [.string (bs p0.1), .int .i64 p0.2])] [row v3 3 (Rp.int .i64) s.1, row v2 9 Rp.str x3] w) ⟨(Value.slice none 0 0), W.ra Aa, F⟩ fun s o a w H L2 hR => ?_
   obtain ⟨x5, x6⟩ := s
   obtain ⟨v3, W, F⟩ := hR
   have W : Fr 61 [] [(0, .pointer (some ⟨q_p0, 0, none⟩)), (2, .int .i64 p2), (6, .slice none 0 0), (7, v3), (14, v2), (15, .int .i64 (x3.length : Int)), (16, .int .i64 x6)] a := W
   have F : Stw ⟨Y, X, w0⟩ [(q_p0, [.string (bs p0.1), .int .i64 p0.2])] [row v3 3 (Rp.int .i64) x5, row v2 9 Rp.str x3] w := F
   rw [Be] at H
   refine vc tk 6 W F fun a w W F => ?_
   refine Bq W Aa H (fun W H => ?_) fun W H => ?_
   ·
    refine Ek tk 6 W F fun a w W F => ?_
    obtain ⟨x7, h2, H⟩ := Ae H
    refine ls W F Aa (AR (r := Rp.str) JP W Aa Aa (Ap 1 Aa) h2).q fun a w W F => ?_
    refine ls W F Aa (An (y := Value.string (bs x7)) (j := 0) (i := x6) W Aa Aa (Ap 1 Aa) h2 Fl.str.to T9 Aa).q fun a w W F => ?_
    refine C5 tk 6 W F fun a w W F => ?_
    obtain ⟨x8, h3, H⟩ := Ae H
    rcases x8 with x9 | x10
    ·
     have H := F1 H
     refine AC (Ml := []) (Zl := []) (M := [(q_p0, [.string (bs p0.1), .int .i64 p0.2])]) (Z := [row v3 3 (Rp.int .i64) x5, row v2 9 Rp.str x3]) (β := Unit) (rv := fun x => .tuple #[.int .i64 x9, .nilIface]) (MM := fun x => []) (ZZ := fun x => []) W F Tg Aa Aa (fun hL => OT _ w x7 _ h3 (hG.go0 F)) fun x a w W F => ?_
     have F : Stw ⟨Y, X, w0⟩ [(q_p0, [.string (bs p0.1), .int .i64 p0.2])] [row v3 3 (Rp.int .i64) x5, row v2 9 Rp.str x3] w := F
     refine ls W F Aa (Am W Aa).q fun a w W F => ?_
     refine ls W F Aa (Au (v := Value.int .i64 x9) W Aa Aa).q fun a w W F => ?_
     refine ls W F Aa (Au (v := Value.nilIface) W Aa Aa).q fun a w W F => ?_
     refine C5 tk 5 W F fun a w W F => ?_
     obtain ⟨o3, G3, K3, L3⟩ := HU H
     refine Aw (fun a w => ∃ x11 : Bool, some (Sum.inl x11) = some o3 ∧ Fr 61 [] [(0, .pointer (some ⟨q_p0, 0, none⟩)), (2, .int .i64 p2), (6, .slice none 0 0), (7, v3), (10, .int .i64 x9), (14, v2), (15, .int .i64 (x3.length : Int)), (16, .int .i64 x6), (40, .bool x11)] a ∧ Stw ⟨Y, X, w0⟩ [(q_p0, [.string (bs p0.1), .int .i64 p0.2])] [row v3 3 (Rp.int .i64) x5, row v2 9 Rp.str x3] w) ?_ ?_
     ·
      have H := G3
      clear G3 K3
      refine vc tk 2 W F fun a w W F => ?_
      refine ls W F Aa (FR Od W Aa).q fun a w W F => ?_
      refine vl tk 5 W F fun a w W F => ?_
      rcases Bool.eq_false_or_eq_true (decide (x9 < (-1125899906842624))) with hb | hb
      ·
       have H := Cu (Dc hb) H
       rw [hb] at W
       clear hb
       refine vl tk 10 W F fun a w W F => ?_
       refine Ac ?_
       have F := F.frontZ (i := 1) Aa Aa
       have F := F.frontZ (i := 1) Aa Aa
       exact ⟨_, H, W.ra Aa, F⟩
      have H := Ct (Db hb) H
      rw [hb] at W
      clear hb
      refine vl tk 4 W F fun a w W F => ?_
      rcases Bool.eq_false_or_eq_true (decide (1125899906842624 < x9)) with hb | hb
      ·
       have H := Cu (Dc hb) H
       rw [hb] at W
       clear hb
       refine vl tk 6 W F fun a w W F => ?_
       refine Ac ?_
       have F := F.frontZ (i := 1) Aa Aa
       have F := F.frontZ (i := 1) Aa Aa
       exact ⟨_, H, W.ra Aa, F⟩
      have H := Ct (Db hb) H
      rw [hb] at W
      clear hb
      refine Cw W F (Ag W Aa Aa Aa Aa) Aa (Bi Aa) (Am W Aa).q fun a w W F => ?_
      refine E5 (Ag W Aa Aa Aa Aa) ?_
      obtain ⟨x12, h4, H⟩ := Ae H
      refine ls W F Aa (AE (v := Value.string (bs x12)) W Ti Aa (fun w F => Ow any w x9 _ h4 (hG.go0 F))) fun a w W F => ?_
      refine Cw W F (Ag W Aa Aa Aa Aa) Aa (Bi Aa) (Am W Aa).q fun a w W F => ?_
      refine Cw W F (Ag W Aa Aa Aa Aa) Aa (Bi Aa) (Mq (l := x12) (m := x7) W Aa Aa).q fun a w W F => ?_
      refine vl tk 2 W F fun a w W F => ?_
      refine Ac ?_
      have F := F.frontZ (i := 1) Aa Aa
      have F := F.frontZ (i := 1) Aa Aa
      exact ⟨_, H, W.ra Aa, F⟩
     rintro a w ⟨x11, hj, W, F⟩
     have H := K3 _ hj
     clear hj G3 K3 L3
     refine B2 W Aa H (fun W H => ?_) fun W H => ?_
     ·
      refine vc tk 2 W F fun a w W F => ?_
      refine B4 (Ml := []) (Zl := []) (M := [(q_p0, [.string (bs p0.1), .int .i64 p0.2])]) (Z := [row v3 3 (Rp.int .i64) x5, row v2 9 Rp.str x3]) (β := Unit) (pv := fun x => .iface 81 (.agg #[.int .i64 (As p0)])) (MM := fun x => []) (ZZ := fun x => []) W F QP Aa (fun hL => B0 _ w q_p0 p0 _ Aa (G0 F 0 Aa)) fun x w F => ?_
      have F : Stw ⟨Y, X, w0⟩ [(q_p0, [.string (bs p0.1), .int .i64 p0.2])] [row v3 3 (Rp.int .i64) x5, row v2 9 Rp.str x3] w := F
      refine BH (Di ?_)
      iterate 2 refine BH ?_
      refine Di (BH ?_)
      have H := L2 _ H
      have H := L1 _ H
      have H := AA H
      subst H
      refine CB W ?_
      have F := F.sub (M' := [(q_p0, [.string (bs p0.1), .int .i64 p0.2])]) (Z' := []) (List.Sublist.refl _) (List.nil_sublist _)
      exact ⟨(), Aa, F⟩
     refine Ek tk 5 W F fun a w W F => ?_
     refine CY (z := Value.int .i64 0) (cs := [.int .i64 x9]) (Rp.int .i64) ([x9] : List Int) W F Aa Fb Z3 Aa Aa Aa Aa Aa Aa (Fl.int.repL _ _ ([x9] : List Int)) fun v4 a w W F => ?_
     obtain ⟨x13, h5, H⟩ := Ae H
     refine Do (r := (Rp.int .i64)) (i := 1) W F Aa Fb Aa Aa Aa Aa (DZ F 0 Aa) h5 Aa fun v5 a w W F => ?_
     have F : Stw ⟨Y, X, w0⟩ [(q_p0, [.string (bs p0.1), .int .i64 p0.2])] [row v5 3 (Rp.int .i64) x13, row v4 3 (Rp.int .i64) ([x9] : List Int), row v2 9 Rp.str x3] w := F
     refine vl tk 2 W F fun a w W F => ?_
     refine AB ?_
     refine vn tk 4 W F fun a w W F => ?_
     refine Ac ?_
     have F := F.frontZ (i := 2) Aa Aa
     have F := F.frontZ (i := 1) Aa Aa
     have F := F.sub (M' := [(q_p0, [.string (bs p0.1), .int .i64 p0.2])]) (Z' := [row v5 3 (Rp.int .i64) x13, row v2 9 Rp.str x3]) (List.Sublist.refl _) (List.Sublist.cons_cons _ (List.Sublist.cons_cons _ (List.nil_sublist _)))
     exact ⟨_, H, (v5), W.ra Aa, F⟩
    have H := F3 H
    refine AC (Ml := []) (Zl := []) (M := [(q_p0, [.string (bs p0.1), .int .i64 p0.2])]) (Z := [row v3 3 (Rp.int .i64) x5, row v2 9 Rp.str x3]) (β := Nat) (rv := fun x => .tuple #[.int .i64 x10, .iface 111 (.pointer (some ⟨x, 0, none⟩))]) (MM := fun x => []) (ZZ := fun x => []) W F Tg Aa Aa (fun hL => OT _ w x7 _ h3 (hG.go0 F)) fun x a w W F => ?_
    obtain ⟨b1, rfl⟩ : ∃ y, y = x := ⟨x, rfl⟩
    have F : Stw ⟨Y, X, w0⟩ [(q_p0, [.string (bs p0.1), .int .i64 p0.2])] [row v3 3 (Rp.int .i64) x5, row v2 9 Rp.str x3] w := F
    refine ls W F Aa (Am W Aa).q fun a w W F => ?_
    refine ls W F Aa (Au (v := Value.int .i64 x10) W Aa Aa).q fun a w W F => ?_
    refine ls W F Aa (Au (v := Value.iface 111 (.pointer (some ⟨b1, 0, none⟩))) W Aa Aa).q fun a w W F => ?_
    refine C5 tk 8 W F fun a w W F => ?_
    refine ls W F Aa (Ff Od W Aa).q fun a w W F => ?_
    refine C5 tk 19 W F fun a w W F => ?_
    refine B4 (Ml := []) (Zl := []) (M := [(q_p0, [.string (bs p0.1), .int .i64 p0.2])]) (Z := [row v3 3 (Rp.int .i64) x5, row v2 9 Rp.str x3]) (β := Unit) (pv := fun x => .iface 81 (.agg #[.int .i64 (As p0)])) (MM := fun x => []) (ZZ := fun x => []) W F QP Aa (fun hL => B0 _ w q_p0 p0 _ Aa (G0 F 0 Aa)) fun x w F => ?_
    have F : Stw ⟨Y, X, w0⟩ [(q_p0, [.string (bs p0.1), .int .i64 p0.2])] [row v3 3 (Rp.int .i64) x5, row v2 9 Rp.str x3] w := F
    refine BH (Di ?_)
    iterate 2 refine BH ?_
    refine Di (BH ?_)
    have H := L2 _ H
    have H := L1 _ H
    have H := AA H
    subst H
    refine CB W ?_
    have F := F.sub (M' := [(q_p0, [.string (bs p0.1), .int .i64 p0.2])]) (Z' := []) (List.Sublist.refl _) (List.nil_sublist _)
    exact ⟨(), Aa, F⟩
   refine A1 ?_
   iterate 2 refine BC ?_
   refine Bb (Ac ?_)
   have F := F.sub (M' := [(q_p0, [.string (bs p0.1), .int .i64 p0.2])]) (Z' := [row v3 3 (Rp.int .i64) x5]) (List.Sublist.refl _) (List.Sublist.cons_cons _ (List.nil_sublist _))
   have H := L2 _ H
   exact ⟨_, (v3), H, W.ra Aa, F⟩
  have H := F3 H
  refine B4 (Ml := []) (Zl := []) (M := [(q_p0, [.string (bs p0.1), .int .i64 p0.2])]) (Z := []) (β := Unit) (pv := fun x => .iface 81 (.agg #[.int .i64 x4])) (MM := fun x => []) (ZZ := fun x => []) W F Sn Aa (fun hL => Dp _ w q_p0 p0 p1 _ h1 (G0 F 0 Aa) (hG.go0 F)) fun x w F => ?_
  have F : Stw ⟨Y, X, w0⟩ [(q_p0, [.string (bs p0.1), .int .i64 p0.2])] [] w := F
  iterate 2 refine BH ?_
  have H := L1 _ H
  have H := AA H
  subst H
  refine CB W ?_
  exact ⟨(), Aa, F⟩
 rintro a w ⟨x1, v1, hj, W, F⟩
 have H := K1 _ hj
 clear hj G1 K1 L1
 refine Nv ?_
 refine Aw (fun a w => Fr 61 [] [(0, .pointer (some ⟨q_p0, 0, none⟩)), (6, .slice none 0 0), (7, v1), (55, .bool (decide (p2 ≠ (-1)) && decide ((x1.length : Int) ≠ p2)))] a ∧ Stw ⟨Y, X, w0⟩ [(q_p0, [.string (bs p0.1), .int .i64 p0.2])] [row v1 3 (Rp.int .i64) x1] w) ?_ ?_
 ·
  refine vc tk 4 W F fun a w W F => ?_
  rcases Bool.eq_false_or_eq_true (decide (p2 ≠ (-1))) with hb0 | hb0
  ·
   rw [hb0] at W
   refine Cw W F (Ag W Aa Aa Aa Aa) Aa (Bi Aa) (Am W Aa).q fun a w W F => ?_
   refine Cw W F (Ag W Aa Aa Aa Aa) Aa (Bi Aa) (BN (r := (Rp.int .i64)) (l := x1) Jg Aa W Aa (Ap 0 Aa)).q fun a w W F => ?_
   refine vl tk 4 W F fun a w W F => ?_
   refine Ac ?_
   exact ⟨W.re ⟨rfl, Aa, Aa, (JR (by try rw [hb0]; all_goals simp only [JI])), trivial⟩, F⟩
  rw [hb0] at W
  refine vl tk 6 W F fun a w W F => ?_
  refine Ac ?_
  exact ⟨W.re ⟨rfl, Aa, Aa, (JR (by try rw [hb0]; all_goals simp only [JI])), trivial⟩, F⟩
 rintro a w ⟨W, F⟩
 refine B2 W Aa H (fun W H => ?_) fun W H => ?_
 ·
  refine vc tk 2 W F fun a w W F => ?_
  refine B4 (Ml := []) (Zl := []) (M := [(q_p0, [.string (bs p0.1), .int .i64 p0.2])]) (Z := [row v1 3 (Rp.int .i64) x1]) (β := Unit) (pv := fun x => .iface 81 (.agg #[.int .i64 (As p0)])) (MM := fun x => []) (ZZ := fun x => []) W F QP Aa (fun hL => B0 _ w q_p0 p0 _ Aa (G0 F 0 Aa)) fun x w F => ?_
  have F : Stw ⟨Y, X, w0⟩ [(q_p0, [.string (bs p0.1), .int .i64 p0.2])] [row v1 3 (Rp.int .i64) x1] w := F
  refine BH ?_
  have H := AA H
  subst H
  refine CB W ?_
  have F := F.sub (M' := [(q_p0, [.string (bs p0.1), .int .i64 p0.2])]) (Z' := []) (List.Sublist.refl _) (List.nil_sublist _)
  exact ⟨(), Aa, F⟩
 refine Ek tk 5 W F fun a w W F => ?_
 obtain ⟨x14, h6, H⟩ := Ae H
 refine AC (Ml := [(q_p0, [.string (bs p0.1), .int .i64 p0.2])]) (Zl := []) (M := []) (Z := [row v1 3 (Rp.int .i64) x1]) (β := Unit) (rv := fun x => .tuple #[]) (MM := fun x => [(q_p0, [.string (bs x14.1), .int .i64 x14.2])]) (ZZ := fun x => []) W F Tf Aa Aa (fun hL => FP _ _ w q_p0 p0 _ h6 (hG.go F) hL) fun x a w W F => ?_
 have F : Stw ⟨Y, X, w0⟩ [(q_p0, [.string (bs x14.1), .int .i64 x14.2])] [row v1 3 (Rp.int .i64) x1] w := F
 refine C5 tk 8 W F fun a w W F => ?_
 refine Ax ?_
 have H := AA H
 subst H
 refine BB (.inl Aa) W F Aa (Ao W Aa) ?_
 exact ⟨(v1), Aa, F⟩
theorem QM : Has Tryz.prog 16 := ⟨fun args w => Af Tryz.func16 rfl (by decide) args w⟩
noncomputable def Aq (p0 : List UInt8 × Int) (p1 : List UInt8) : Option ((Int × (List UInt8 × Int)) ⊕ (Int × (List UInt8 × Int))) := (AG p0 p1 1).bind fun x1 => Cq x1 (fun x2 => (ix x2.1 0).bind fun x4 => some (.inl (x4, x2.2))) (fun x3 => some (.inr (x3.1, x3.2)))
theorem AM (Y : Nat → Prop) (X : List Nat) (w0 : World) (q_p0 : Nat) (p0 : List UInt8 × Int) (p1 : List UInt8) (r : (Int × (List UInt8 × Int)) ⊕ (Int × (List UInt8 × Int))) (H : Aq p0 p1 = some r) (hG : Gk X w0) (hL : Stw ⟨Y, X, w0⟩ [(q_p0, [.string (bs p0.1), .int .i64 p0.2])] [] w0) :
    Calls Tryz.prog 14 #[.pointer (some ⟨q_p0, 0, none⟩), .string (bs p1)] w0 fun e w' => Ko r (fun r => ∃ x : Unit, e = .returned (.int .i64 r.1) ∧ Stw ⟨Y, X, w0⟩ [(q_p0, [.string (bs r.2.1), .int .i64 r.2.2])] [] w') (fun r => ∃ x : Unit, e = .panicked [{ v := .iface 81 (.agg #[.int .i64 r.1]), recovered := false }] ∧ Stw ⟨Y, X, w0⟩ [(q_p0, [.string (bs r.2.1), .int .i64 r.2.2])] [] w') := by
 refine enter Tryz.func14 Aa Tryz.ntmps14 Aa fun a W => ?_
 have F := hL
 unfold Aq at H
 refine vc tk 9 W F fun a w W F => ?_
 obtain ⟨x1, h1, H⟩ := Ae H
 rcases x1 with x2 | x3
 ·
  have H := F1 H
  refine AC (Ml := [(q_p0, [.string (bs p0.1), .int .i64 p0.2])]) (Zl := []) (M := []) (Z := []) (β := Value) (rv := fun x => x) (MM := fun x => [(q_p0, [.string (bs x2.2.1), .int .i64 x2.2.2])]) (ZZ := fun x => [row x 3 (Rp.int .i64) x2.1]) W F QM Aa Aa (fun hL => BF _ _ w q_p0 p0 p1 1 _ h1 (hG.go F) hL) fun x a w W F => ?_
  obtain ⟨v1, rfl⟩ : ∃ y, y = x := ⟨x, rfl⟩
  have F : Stw ⟨Y, X, w0⟩ [(q_p0, [.string (bs x2.2.1), .int .i64 x2.2.2])] [row v1 3 (Rp.int .i64) x2.1] w := F
  obtain ⟨x4, h2, H⟩ := Ae H
  refine ls W F Aa (AR (r := (Rp.int .i64)) Fb W Aa Aa (Ap 0 Aa) h2).q fun a w W F => ?_
  refine ls W F Aa (An (y := Value.int .i64 x4) (j := 0) (i := 0) W Aa Aa (Ap 0 Aa) h2 Fl.int.to T3 Aa).q fun a w W F => ?_
  refine vl tk 2 W F fun a w W F => ?_
  refine Ac (Ax ?_)
  have H := AA H
  subst H
  refine BB (.inl Aa) W F Aa (Ao W Aa) ?_
  have F := F.sub (M' := [(q_p0, [.string (bs x2.2.1), .int .i64 x2.2.2])]) (Z' := []) (List.Sublist.refl _) (List.nil_sublist _)
  exact ⟨(), Aa, F⟩
 have H := F3 H
 refine B4 (Ml := [(q_p0, [.string (bs p0.1), .int .i64 p0.2])]) (Zl := []) (M := []) (Z := []) (β := Unit) (pv := fun x => .iface 81 (.agg #[.int .i64 x3.1])) (MM := fun x => [(q_p0, [.string (bs x3.2.1), .int .i64 x3.2.2])]) (ZZ := fun x => []) W F QM Aa (fun hL => BF _ _ w q_p0 p0 p1 1 _ h1 (hG.go F) hL) fun x w F => ?_
 have F : Stw ⟨Y, X, w0⟩ [(q_p0, [.string (bs x3.2.1), .int .i64 x3.2.2])] [] w := F
 refine BH ?_
 have H := AA H
 subst H
 refine CB W ?_
 exact ⟨(), Aa, F⟩
theorem Nn : Has Tryz.prog 14 := ⟨fun args w => Af Tryz.func14 rfl (by decide) args w⟩
noncomputable def AF (p0 : List UInt8 × Int) (p1 : List UInt8) : Option (Bool ⊕ Int) := (BE p0).bind fun x1 => Cq x1 (fun x2 => (Jl x2 ([32] : List UInt8)).bind fun x4 => some (.inl (decide (x4.1 = p1)))) (fun x3 => some (.inr x3))
theorem Ci (Y : Nat → Prop) (w0 : World) (q_p0 : Nat) (p0 : List UInt8 × Int) (p1 : List UInt8) (r : Bool ⊕ Int) (H : AF p0 p1 = some r) (a_q_p0 : At ⟨Y, [], w0⟩ q_p0 0 [.string (bs p0.1), .int .i64 p0.2]) (hG : Gk [] w0) :
    Calls Tryz.prog 15 #[.pointer (some ⟨q_p0, 0, none⟩), .string (bs p1)] w0 fun e w' => Ko r (fun r => ∃ x : Unit, e = .returned (.bool r) ∧ Stw ⟨Y, [], w0⟩ [] [] w') (fun r => ∃ x : Unit, e = .panicked [{ v := .iface 81 (.agg #[.int .i64 r]), recovered := false }] ∧ Stw ⟨Y, [], w0⟩ [] [] w') := by
 refine enter Tryz.func15 Aa Tryz.ntmps15 Aa fun a W => ?_
 have F := Stw.start Y w0
 unfold AF at H
 refine vc tk 8 W F fun a w W F => ?_
 obtain ⟨x1, h1, H⟩ := Ae H
 rcases x1 with x2 | x3
 ·
  have H := F1 H
  refine AC (Ml := []) (Zl := []) (M := []) (Z := []) (β := Unit) (rv := fun x => .string (bs x2)) (MM := fun x => []) (ZZ := fun x => []) W F Sq Aa Aa (fun hL => Dy _ w q_p0 p0 _ h1 (At.re a_q_p0 F) (hG.go0 F)) fun x a w W F => ?_
  have F : Stw ⟨Y, [], w0⟩ [] [] w := F
  obtain ⟨x4, h2, H⟩ := Ae H
  refine ls W F Aa (AE (v := Value.tuple #[.string (bs x4.1), .string (bs x4.2.1), .bool x4.2.2]) W SN Aa (fun w F => OV any w x2 ([32] : List UInt8) _ h2 (hG.go0 F))) fun a w W F => ?_
  refine ls W F Aa (Am W Aa).q fun a w W F => ?_
  refine ls W F Aa (Au (v := Value.string (bs x4.1)) W Aa Aa).q fun a w W F => ?_
  refine ls W F Aa (Au (v := Value.string (bs x4.2.1)) W Aa Aa).q fun a w W F => ?_
  refine ls W F Aa (Au (v := Value.bool x4.2.2) W Aa Aa).q fun a w W F => ?_
  refine C5 tk 9 W F fun a w W F => ?_
  refine ls W F Aa (JF (l := x4.1) (m := p1) W Aa Aa).q fun a w W F => ?_
  refine vl tk 2 W F fun a w W F => ?_
  refine Ac (Ax ?_)
  have H := AA H
  subst H
  refine BB (.inl Aa) W F Aa (Ao W Aa) ?_
  exact ⟨(), Aa, F⟩
 have H := F3 H
 refine B4 (Ml := []) (Zl := []) (M := []) (Z := []) (β := Unit) (pv := fun x => .iface 81 (.agg #[.int .i64 x3])) (MM := fun x => []) (ZZ := fun x => []) W F Sq Aa (fun hL => Dy _ w q_p0 p0 _ h1 (At.re a_q_p0 F) (hG.go0 F)) fun x w F => ?_
 have F : Stw ⟨Y, [], w0⟩ [] [] w := F
 refine BH ?_
 have H := AA H
 subst H
 refine CB W ?_
 exact ⟨(), Aa, F⟩
theorem Ry : Has Tryz.prog 15 := ⟨fun args w => Af Tryz.func15 rfl (by decide) args w⟩
theorem MO : Tryz.prog.follows .mixedOrders = true := by kernel_rfl
theorem To : Bt Tryz.prog 50 [.int .i64 0, .int .i64 0, .int .i64 0, .int .i64 0, .int .i64 0, .int .i64 0] [(0, 1), (1, 1), (2, 1), (3, 1), (4, 1), (5, 1)] := ⟨⟨.agg #[.int .i64 0, .int .i64 0, .int .i64 0, .int .i64 0, .int .i64 0, .int .i64 0], by kernel_rfl, rfl⟩, ⟨_, R3, fun w => by kernel_rfl⟩⟩
theorem Tp : (Tryz.prog.info? 81).bind (·.zero) = some (.agg #[.int .i64 0]) := by kernel_rfl
theorem TL : Ty Tryz.prog 81 true 1 := ⟨by kernel_rfl, by kernel_rfl⟩
def BV (p0 : Int) : Int := p0
theorem JM (Y : Nat → Prop) (w0 : World)  (p0 : Int) (r : Int) (H : BV p0 = r)  :
    Calls Tryz.prog 13 #[.iface 81 (.agg #[.int .i64 p0])] w0 fun e w' => e = .returned (.int .i64 r) ∧ Below w0.heap.size w0 w' := by
 refine enter Tryz.func13 Aa Tryz.ntmps13 Aa fun a W => ?_
 have F := Stw.start Y w0
 unfold BV at H
 refine vc tk 8 W F fun a w W F => ?_
 refine ls W F Aa (Ln Tk W Aa).q fun a w W F => ?_
 refine ls W F Aa (Am W Aa).q fun a w W F => ?_
 refine ls W F Aa (Au (v := Value.agg #[.int .i64 p0]) W Aa Aa).q fun a w W F => ?_
 refine ls W F Aa (Au (v := Value.bool true) W Aa Aa).q fun a w W F => ?_
 refine DI (cs := [.int .i64 0]) W F Aa Tp Aa fun b1 a w W F => ?_
 refine Bg (vs := [.int .i64 p0]) (M' := [(b1, [.int .i64 p0])]) 0 W F Aa Aa Aa TL Aa Aa Aa Aa Aa fun w F => ?_
 refine GO tk 20 [0] W F (ai fun a w W F => ?_)
 refine Ax ?_
 subst H
 refine BB (.inl Aa) W F Aa (Ao W Aa) ?_
 exact ⟨rfl, F.done⟩
end Go.Proofs.YthmkgdnnocemmaaGreatDoor
