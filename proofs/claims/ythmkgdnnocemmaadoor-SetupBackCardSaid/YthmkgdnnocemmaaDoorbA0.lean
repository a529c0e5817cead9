/- The functions of layer 40, Gi. Conditions: none. -/
import Derived.Test.YthmkgdnnocemmaaDoorRows
import Derived.Test.YthmkgdnnocemmaaDoorbOB
import Derived.Test.YthmkgdnnocemmaaDoorbOG
import Derived.Test.YthmkgdnnocemmaaDoorbOT
import Derived.Test.YthmkgdnnocemmaaDoorbOD
import Derived.Test.YthmkgdnnocemmaaDoorbOY
import Derived.Test.YthmkgdnnocemmaaDoorbOC
import Derived.Test.YthmkgdnnocemmaaDoorbOY
import Derived.Test.YthmkgdnnocemmaaDoorbOX
namespace Go.Proofs.YthmkgdnnocemmaaDoor
open Go Go.RowKit
set_option linter.unusedVariables false
set_option linter.unusedSimpArgs false
set_option maxRecDepth 20000
theorem Jt : type_of% Tryd.underlying22 := Tryd.underlying22
theorem Jr : type_of% Tryd.underlying23 := Tryd.underlying23
theorem DE : type_of% Tryd.underlying25 := Tryd.underlying25
theorem Ju : type_of% Tryd.underlying26 := Tryd.underlying26
theorem Ir : type_of% Tryd.underlying27 := Tryd.underlying27
theorem Bw : type_of% Tryd.underlying29 := Tryd.underlying29
theorem JU : type_of% Tryd.underlying39 := Tryd.underlying39
abbrev Bn : Rp (Int × Int × Int × Int × Int × Int) := (Rp.pair (Rp.int .i64) (Rp.pair (Rp.int .i64) (Rp.pair (Rp.int .i64) (Rp.pair (Rp.int .i64) (Rp.pair (Rp.int .i64) (Rp.int .i64))))))
abbrev Br : Rp (Int × Int) := (Rp.pair (Rp.int .i64) (Rp.int .i64))
abbrev PG (p : Value × List Int) : List Int := p.2
theorem Eo : Ex (Rp.slice (Rp.int .u64)) (Rp.vsl (Rp.int .u64)) PG := Ex.sliceF
theorem GI : Ty Tryd.prog 29 true 11 := ⟨by kernel_rfl, by kernel_rfl⟩
theorem HY : Ty Tryd.prog 26 false 1 := ⟨by kernel_rfl, by kernel_rfl⟩
abbrev HJ (a : Value × List Int) : List Value := [a.1]
theorem Mr : Jn (Rp.vsl (Rp.int .u64)) HJ := Jn.vsl
theorem Od : Et Tryd.prog 26 39 1 24 := Et.of Ju (by kernel_rfl) (by kernel_rfl) (by kernel_rfl) (by decide)
theorem O7 : Ty Tryd.prog 39 false 1 := ⟨by kernel_rfl, by kernel_rfl⟩
theorem GE : Ty Tryd.prog 25 true 3 := ⟨by kernel_rfl, by kernel_rfl⟩
theorem HV : Ty Tryd.prog 22 false 1 := ⟨by kernel_rfl, by kernel_rfl⟩
theorem Hu : Ty Tryd.prog 23 false 1 := ⟨by kernel_rfl, by kernel_rfl⟩
theorem KN : Ty Tryd.prog 27 false 1 := ⟨by kernel_rfl, by kernel_rfl⟩
abbrev B3 (a0 : (Int × (List (Int × Int × Int × Int × Int × Int)) × (List (Int × Int))) × List (List Int) × List Int × Int × Int × Int × Int × Int × Int) (a1 : Value) (a2 : Value) (a3 : Value) (a4 : Value) : List Value := [.int .i64 a0.1.1, a1, a2, a3, a4, .int .i64 a0.2.2.2.1, .int .i64 a0.2.2.2.2.1, .int .i64 a0.2.2.2.2.2.1, .int .i64 a0.2.2.2.2.2.2.1, .int .i64 a0.2.2.2.2.2.2.2.1, .int .i64 a0.2.2.2.2.2.2.2.2]
abbrev Cp (a0 : Nat) (a1 : (Int × (List (Int × Int × Int × Int × Int × Int)) × (List (Int × Int))) × List (List Int) × List Int × Int × Int × Int × Int × Int × Int) (a2 : Value) (a3 : Value) (a4 : Value) (a5 : Value) : List (Nat × List Value) := [(a0, [.int .i64 a1.1.1, a2, a3, a4, a5, .int .i64 a1.2.2.2.1, .int .i64 a1.2.2.2.2.1, .int .i64 a1.2.2.2.2.2.1, .int .i64 a1.2.2.2.2.2.2.1, .int .i64 a1.2.2.2.2.2.2.2.1, .int .i64 a1.2.2.2.2.2.2.2.2])]
noncomputable def El (p0 : (Int × (List (Int × Int × Int × Int × Int × Int)) × (List (Int × Int))) × List (List Int) × List Int × Int × Int × Int × Int × Int × Int) : Int → Option (Int ⊕ (Unit ⊕ Bool))
  | x1 => (if x1 < (p0.2.1.length : Int) then (ix p0.2.1 x1).bind fun x2 => (if 30 < (x2.length : Int) then some (.inr (.inr false)) else some (.inl (CD (x1 + 1)))) else some (.inr (.inl ())))
noncomputable def FR (p0 : (Int × (List (Int × Int × Int × Int × Int × Int)) × (List (Int × Int))) × List (List Int) × List Int × Int × Int × Int × Int × Int × Int) : Option Bool := D6 (Bf (El p0) 0) fun _ => some (decide ((p0.1.2.1.length : Int) ≤ 30) && (decide ((p0.1.2.2.length : Int) ≤ 30) && (decide ((p0.2.1.length : Int) ≤ 10) && decide ((p0.2.2.1.length : Int) ≤ 30))))
theorem Ko (Y : Nat → Prop) (w0 : World) (v1 : Value) (v2 : Value) (v3 : Value) (v4 : Value) (p0 : (Int × (List (Int × Int × Int × Int × Int × Int)) × (List (Int × Int))) × List (List Int) × List Int × Int × Int × Int × Int × Int × Int) (r : Bool) (H : FR p0 = some r) (h_v1 : Sl w0 (NX []) Bn v1 p0.1.2.1) (h_v2 : Sl w0 (NX []) Br v2 p0.1.2.2) (h_v3 : Sl w0 (NX []) (Rp.slice (Rp.int .u64)) v3 p0.2.1) (h_v4 : Sl w0 (NX []) (Rp.int .i64) v4 p0.2.2.1) :
    Calls Tryd.prog 5 #[.agg #[.int .i64 p0.1.1, v1, v2, v3, v4, .int .i64 p0.2.2.2.1, .int .i64 p0.2.2.2.2.1, .int .i64 p0.2.2.2.2.2.1, .int .i64 p0.2.2.2.2.2.2.1, .int .i64 p0.2.2.2.2.2.2.2.1, .int .i64 p0.2.2.2.2.2.2.2.2]] w0 fun e w' => e = .returned (.bool r) ∧ Below w0.heap.size w0 w' := by
 refine enter Tryd.func5 Aa Tryd.ntmps5 Aa fun a F => ?_
 have W := Stw.start Y w0
 obtain ⟨v5, h1, h_v3⟩ := h_v3.ex Eo
 unfold FR at H
 refine Ak (Ac ?_)
 refine GU (cs := (B3 p0 v1 v2 v3 v4)) F W Aa Aa Aa fun b1 a w F W => ?_
 refine ls F W Aa (Ag F Aa).q fun a w F W => ?_
 refine Af (Ad ?_)
 obtain ⟨o1, G1, K1, L1⟩ := Ib H
 refine AX (fun a w => some (Sum.inl ()) = some o1 ∧ Fr 42 [] [(1, .pointer (some ⟨b1, 0, none⟩)), (2, .bool false)] a ∧ Stw ⟨Y, [], w0⟩ (Cp b1 p0 v1 v2 v3 v4) [] w) ?_ ?_
 ·
  have H := G1
  clear G1 K1
  refine Ak (Ac ?_)
  refine ls F W Aa (Ag F Aa).q fun a w F W => ?_
  refine Af (Ad (AC ?_))
  refine B9 H (fun s a w => Fr 42 [] [(1, .pointer (some ⟨b1, 0, none⟩)), (2, .bool false), (3, .int .i64 s)] a ∧ Stw ⟨Y, [], w0⟩ (Cp b1 p0 v1 v2 v3 v4) [] w) ⟨F.re ⟨rfl, Aa, Aa, trivial⟩, W⟩ fun s o a w H L2 hR => ?_
  obtain ⟨x1, rfl⟩ : ∃ x, x = s := ⟨s, rfl⟩
  obtain ⟨F, W⟩ := hR
  have F : Fr 42 [] [(1, .pointer (some ⟨b1, 0, none⟩)), (2, .bool false), (3, .int .i64 x1)] a := F
  have W : Stw ⟨Y, [], w0⟩ (Cp b1 p0 v1 v2 v3 v4) [] w := W
  rw [El] at H
  refine Ak (Ak (Ac ?_))
  refine ls F W Aa (Ae F Aa).q fun a w F W => ?_
  refine ls F W Aa (Ai Bw Aa Aa Aa HY F Aa 3 Aa).q fun a w F W => ?_
  refine ls F W Aa (Az (v := v3) 0 F Aa Aa HY Aa).q fun a w F W => ?_
  refine ls F W Aa (B4 (r := (Rp.slice (Rp.int .u64))) (l := p0.2.1) Ju Aa F Aa (CO Eo h1 (Ao h_v3))).q fun a w F W => ?_
  refine ls F W Aa (Dk F Aa Aa).q fun a w F W => ?_
  refine Af (Ad ?_)
  refine AD F Aa (fun hb => ?_) fun hb => ?_
  ·
   have H := AW (BI hb) H
   rw [hb] at F
   clear hb
   refine Aw (Ad (Ak (AC (Ak (Ac ?_)))))
   refine ls F W Aa (Ai Bw Aa Aa Aa HY F Aa 3 Aa).q fun a w F W => ?_
   refine ls F W Aa (Az (v := v3) 0 F Aa Aa HY Aa).q fun a w F W => ?_
   refine ls F W Aa (Ae F Aa).q fun a w F W => ?_
   obtain ⟨x2, h2, H⟩ := An H
   obtain ⟨v6, h3, h4⟩ := JS h1 h2
   have h5 : HJ v6 = [(v6.1)] := congrArg (fun q : List Int => ([(v6.1)] : List Value)) h4
   refine ls F W Aa (Bz (r := (Rp.vsl (Rp.int .u64))) Od F Aa Aa (Ao h_v3) h3).q fun a w F W => ?_
   refine ls F W Aa (AH (y := (v6.1)) (j := 0) (i := x1) (enc := HJ) F Aa Aa (Ao h_v3) h3 Mr O7 (by rw [h5]; rfl)).q fun a w F W => ?_
   refine ls F W Aa (B4 (r := (Rp.int .u64)) (l := x2) JU Aa F Aa (Gz (Ao h_v3) h3 Hy.here (congrArg (fun q : List Int => q) h4))).q fun a w F W => ?_
   refine ls F W Aa (JL F Aa Aa).q fun a w F W => ?_
   refine Af (Ad ?_)
   refine AD F Aa (fun hb => ?_) fun hb => ?_
   ·
    have H := AW (BI hb) H
    rw [hb] at F
    clear hb
    refine Ak (Ac ?_)
    refine ls F W Aa (Ag F Aa).q fun a w F W => ?_
    refine Af (Ad (AP (Bo ?_)))
    iterate 2 refine Be ?_
    refine Bo (Be ?_)
    have H := L2 _ H
    have H := L1 _ H
    have H := Ba H
    subst H
    refine BM (.inl Aa) F W Aa (AG F Aa) ?_
    exact ⟨rfl, W.done⟩
   have H := AV (BG hb) H
   rw [hb] at F
   clear hb
   refine Aw (Bb (Ad (Ac ?_)))
   refine ls F W Aa (Ae F Aa).q fun a w F W => ?_
   refine ls F W Aa (Dj F Aa Aa Aa).q fun a w F W => ?_
   refine ls F W Aa (Ag F Aa).q fun a w F W => ?_
   refine Af (Ad ?_)
   exact ⟨_, H, F.re ⟨rfl, Aa, Aa, trivial⟩, W⟩
  have H := AV (BG hb) H
  rw [hb] at F
  clear hb
  refine BR ?_
  iterate 2 refine Cr ?_
  refine BQ (Ad ?_)
  have H := L2 _ H
  exact ⟨H, F.re ⟨rfl, Aa, trivial⟩, W⟩
 rintro a w ⟨hj, F, W⟩
 have H := K1 _ hj
 clear hj G1 K1 L1
 refine AX (fun a w => Fr 42 [] [(2, .bool (decide ((p0.1.2.1.length : Int) ≤ 30) && (decide ((p0.1.2.2.length : Int) ≤ 30) && (decide ((p0.2.1.length : Int) ≤ 10) && decide ((p0.2.2.1.length : Int) ≤ 30)))))] a ∧ Stw ⟨Y, [], w0⟩ (Cp b1 p0 v1 v2 v3 v4) [] w) ?_ ?_
 ·
  refine Ac ?_
  refine ls F W Aa (Ai Bw Aa Aa Aa GE F Aa 0 Aa).q fun a w F W => ?_
  refine ls F W Aa (Ai DE Aa Aa Aa HV F Aa 1 Aa).q fun a w F W => ?_
  refine ls F W Aa (Az (v := v1) 0 F Aa Aa HV Aa).q fun a w F W => ?_
  refine ls F W Aa (B4 (r := Bn) (l := p0.1.2.1) Jt Aa F Aa (Ao h_v1)).q fun a w F W => ?_
  refine ls F W Aa (EO F Aa Aa).q fun a w F W => ?_
  refine ls F W Aa (Ae F Aa).q fun a w F W => ?_
  rcases Bool.eq_false_or_eq_true (decide ((p0.1.2.1.length : Int) ≤ 30)) with hb0 | hb0
  ·
   rw [hb0] at F
   refine AB F W (Ah F Aa Aa Aa Aa) Aa (Ap Aa) (Ai Bw Aa Aa Aa GE F Aa 0 Aa).q fun a w F W => ?_
   refine AB F W (Ah F Aa Aa Aa Aa) Aa (Ap Aa) (Ai DE Aa Aa Aa Hu F Aa 2 Aa).q fun a w F W => ?_
   refine AB F W (Ah F Aa Aa Aa Aa) Aa (Ap Aa) (Az (v := v2) 0 F Aa Aa Hu Aa).q fun a w F W => ?_
   refine AB F W (Ah F Aa Aa Aa Aa) Aa (Ap Aa) (B4 (r := Br) (l := p0.1.2.2) Jr Aa F Aa (Ao h_v2)).q fun a w F W => ?_
   refine AB F W (Ah F Aa Aa Aa Aa) Aa (Ap Aa) (EO F Aa Aa).q fun a w F W => ?_
   refine ls F W Aa (As F Aa Aa Aa).q fun a w F W => ?_
   refine ls F W Aa (Ae F Aa).q fun a w F W => ?_
   rcases Bool.eq_false_or_eq_true (decide ((p0.1.2.2.length : Int) ≤ 30)) with hb1 | hb1
   ·
    rw [hb1] at F
    refine AB F W (Ah F Aa Aa Aa Aa) Aa (Ap Aa) (Ai Bw Aa Aa Aa HY F Aa 3 Aa).q fun a w F W => ?_
    refine AB F W (Ah F Aa Aa Aa Aa) Aa (Ap Aa) (Az (v := v3) 0 F Aa Aa HY Aa).q fun a w F W => ?_
    refine AB F W (Ah F Aa Aa Aa Aa) Aa (Ap Aa) (B4 (r := (Rp.slice (Rp.int .u64))) (l := p0.2.1) Ju Aa F Aa (CO Eo h1 (Ao h_v3))).q fun a w F W => ?_
    refine AB F W (Ah F Aa Aa Aa Aa) Aa (Ap Aa) (EO F Aa Aa).q fun a w F W => ?_
    refine ls F W Aa (As F Aa Aa Aa).q fun a w F W => ?_
    refine ls F W Aa (Ae F Aa).q fun a w F W => ?_
    rcases Bool.eq_false_or_eq_true (decide ((p0.2.1.length : Int) ≤ 10)) with hb2 | hb2
    ·
     rw [hb2] at F
     refine AB F W (Ah F Aa Aa Aa Aa) Aa (Ap Aa) (Ai Bw Aa Aa Aa KN F Aa 4 Aa).q fun a w F W => ?_
     refine AB F W (Ah F Aa Aa Aa Aa) Aa (Ap Aa) (Az (v := v4) 0 F Aa Aa KN Aa).q fun a w F W => ?_
     refine AB F W (Ah F Aa Aa Aa Aa) Aa (Ap Aa) (B4 (r := (Rp.int .i64)) (l := p0.2.2.1) Ir Aa F Aa (Ao h_v4)).q fun a w F W => ?_
     refine AB F W (Ah F Aa Aa Aa Aa) Aa (Ap Aa) (EO F Aa Aa).q fun a w F W => ?_
     refine ls F W Aa (As F Aa Aa Aa).q fun a w F W => ?_
     refine ls F W Aa (Ag F Aa).q fun a w F W => ?_
     refine Af (Ad ?_)
     exact ⟨F.re ⟨(Jd (by try rw [hb0]; try rw [hb1]; try rw [hb2]; all_goals simp only [Jb])), trivial⟩, W⟩
    rw [hb2] at F
    iterate 4 refine B8 F Aa Aa Aa Aa Aa Aa Aa fun a F => ?_
    refine ls F W Aa (Al F Aa Aa Aa).q fun a w F W => ?_
    refine ls F W Aa (Ag F Aa).q fun a w F W => ?_
    refine Af (Ad ?_)
    exact ⟨F.re ⟨(Jd (by try rw [hb0]; try rw [hb1]; try rw [hb2]; all_goals simp only [Jb])), trivial⟩, W⟩
   rw [hb1] at F
   iterate 4 refine B8 F Aa Aa Aa Aa Aa Aa Aa fun a F => ?_
   refine ls F W Aa (Al F Aa Aa Aa).q fun a w F W => ?_
   refine ls F W Aa (Ae F Aa).q fun a w F W => ?_
   iterate 4 refine B8 F Aa Aa Aa Aa Aa Aa Aa fun a F => ?_
   refine ls F W Aa (Al F Aa Aa Aa).q fun a w F W => ?_
   refine ls F W Aa (Ag F Aa).q fun a w F W => ?_
   refine Af (Ad ?_)
   exact ⟨F.re ⟨(Jd (by try rw [hb0]; try rw [hb1]; all_goals simp only [Jb])), trivial⟩, W⟩
  rw [hb0] at F
  iterate 5 refine B8 F Aa Aa Aa Aa Aa Aa Aa fun a F => ?_
  refine ls F W Aa (Al F Aa Aa Aa).q fun a w F W => ?_
  refine ls F W Aa (Ae F Aa).q fun a w F W => ?_
  iterate 4 refine B8 F Aa Aa Aa Aa Aa Aa Aa fun a F => ?_
  refine ls F W Aa (Al F Aa Aa Aa).q fun a w F W => ?_
  refine ls F W Aa (Ae F Aa).q fun a w F W => ?_
  iterate 4 refine B8 F Aa Aa Aa Aa Aa Aa Aa fun a F => ?_
  refine ls F W Aa (Al F Aa Aa Aa).q fun a w F W => ?_
  refine ls F W Aa (Ag F Aa).q fun a w F W => ?_
  refine Af (Ad ?_)
  exact ⟨F.re ⟨(Jd (by try rw [hb0]; all_goals simp only [Jb])), trivial⟩, W⟩
 rintro a w ⟨F, W⟩
 refine AP ?_
 have H := Ba H
 subst H
 refine BM (.inl Aa) F W Aa (AG F Aa) ?_
 exact ⟨rfl, W.done⟩
theorem H5 : Has Tryd.prog 5 := ⟨fun args w => Am Tryd.func5 rfl (by decide) args w⟩
theorem T3 : Ty Tryd.prog 3 false 1 := ⟨by kernel_rfl, by kernel_rfl⟩
theorem Z3 : (Tryd.prog.info? 3).bind (·.zero) = some (.int .i64 0) := by kernel_rfl
theorem GH : Et Tryd.prog 27 3 1 8 := Et.of Ir (by kernel_rfl) (by kernel_rfl) (by kernel_rfl) (by decide)
theorem OC : Et Tryd.prog 22 41 6 48 := Et.of Jt (by kernel_rfl) (by kernel_rfl) (by kernel_rfl) (by decide)
def QX (a : Int × Int × Int × Int × Int × Int) : List Value := [.int .i64 a.1, .int .i64 a.2.1, .int .i64 a.2.2.1, .int .i64 a.2.2.2.1, .int .i64 a.2.2.2.2.1, .int .i64 a.2.2.2.2.2]
theorem OL : Fl Bn QX := (Fl.pair Fl.int (Fl.pair Fl.int (Fl.pair Fl.int (Fl.pair Fl.int (Fl.pair Fl.int Fl.int)))))
theorem Og : Ty Tryd.prog 41 true 6 := ⟨by kernel_rfl, by kernel_rfl⟩
theorem PX : (Tryd.prog.info? 41).bind (·.zero) = some (.agg #[.int .i64 0, .int .i64 0, .int .i64 0, .int .i64 0, .int .i64 0, .int .i64 0]) := by kernel_rfl
theorem MO : Tryd.prog.follows .mixedOrders = true := by kernel_rfl
theorem Oa : Et Tryd.prog 23 43 2 16 := Et.of Jr (by kernel_rfl) (by kernel_rfl) (by kernel_rfl) (by decide)
def QB (a : Int × Int) : List Value := [.int .i64 a.1, .int .i64 a.2]
theorem Ow : Fl Br QB := (Fl.pair Fl.int Fl.int)
def EX (p0 : Int) : Bool := (decide ((-1125899906842624) ≤ p0) && decide (p0 ≤ 1125899906842624))
theorem KY (Y : Nat → Prop) (w0 : World)  (p0 : Int) (r : Bool) (H : EX p0 = r)  :
    Calls Tryd.prog 12 #[.int .i64 p0] w0 fun e w' => e = .returned (.bool r) ∧ Below w0.heap.size w0 w' := by
 refine enter Tryd.func12 Aa Tryd.ntmps12 Aa fun a F => ?_
 have W := Stw.start Y w0
 unfold EX at H
 refine Ak (Ac ?_)
 refine ls F W Aa (Ag F Aa).q fun a w F W => ?_
 refine Af (Ad ?_)
 refine AX (fun a w => Fr 9 [] [(2, .bool (decide ((-1125899906842624) ≤ p0) && decide (p0 ≤ 1125899906842624)))] a ∧ Stw ⟨Y, [], w0⟩ [] [] w) ?_ ?_
 ·
  refine Ac ?_
  refine ls F W Aa (Ae F Aa).q fun a w F W => ?_
  refine ls F W Aa (GQ F Aa Aa).q fun a w F W => ?_
  refine ls F W Aa (Ae F Aa).q fun a w F W => ?_
  rcases Bool.eq_false_or_eq_true (decide ((-1125899906842624) ≤ p0)) with hb0 | hb0
  ·
   rw [hb0] at F
   refine AB F W (Ah F Aa Aa Aa Aa) Aa (Ap Aa) (Ae F Aa).q fun a w F W => ?_
   refine AB F W (Ah F Aa Aa Aa Aa) Aa (Ap Aa) (EO F Aa Aa).q fun a w F W => ?_
   refine ls F W Aa (As F Aa Aa Aa).q fun a w F W => ?_
   refine ls F W Aa (Ag F Aa).q fun a w F W => ?_
   refine Af (Ad ?_)
   exact ⟨F.re ⟨(Jd (by try rw [hb0]; all_goals simp only [Jb])), trivial⟩, W⟩
  rw [hb0] at F
  iterate 2 refine B8 F Aa Aa Aa Aa Aa Aa Aa fun a F => ?_
  refine ls F W Aa (Al F Aa Aa Aa).q fun a w F W => ?_
  refine ls F W Aa (Ag F Aa).q fun a w F W => ?_
  refine Af (Ad ?_)
  exact ⟨F.re ⟨(Jd (by try rw [hb0]; all_goals simp only [Jb])), trivial⟩, W⟩
 rintro a w ⟨F, W⟩
 refine AP ?_
 subst H
 refine BM (.inl Aa) F W Aa (AG F Aa) ?_
 exact ⟨rfl, W.done⟩
theorem Hm : type_of% Tryd.underlying41 := Tryd.underlying41
theorem LX : type_of% Tryd.underlying43 := Tryd.underlying43
theorem QI : Has Tryd.prog 12 := ⟨fun args w => Am Tryd.func12 rfl (by decide) args w⟩
abbrev Pf  : List Value := [.int .i64 0, .int .i64 0, .int .i64 0, .int .i64 0, .int .i64 0, .int .i64 0]
abbrev NQ (a0 : Int × Int × Int × Int × Int × Int) : List Value := [.int .i64 a0.1, .int .i64 a0.2.1, .int .i64 a0.2.2.1, .int .i64 a0.2.2.2.1, .int .i64 a0.2.2.2.2.1, .int .i64 a0.2.2.2.2.2]
abbrev MX (a0 : Nat) (a1 : Int × Int × Int × Int × Int × Int) (a2 : Nat) (a3 : (Int × (List (Int × Int × Int × Int × Int × Int)) × (List (Int × Int))) × List (List Int) × List Int × Int × Int × Int × Int × Int × Int) (a4 : Value) (a5 : Value) (a6 : Value) (a7 : Value) : List (Nat × List Value) := [(a0, [.int .i64 a1.1, .int .i64 a1.2.1, .int .i64 a1.2.2.1, .int .i64 a1.2.2.2.1, .int .i64 a1.2.2.2.2.1, .int .i64 a1.2.2.2.2.2]), (a2, [.int .i64 a3.1.1, a4, a5, a6, a7, .int .i64 a3.2.2.2.1, .int .i64 a3.2.2.2.2.1, .int .i64 a3.2.2.2.2.2.1, .int .i64 a3.2.2.2.2.2.2.1, .int .i64 a3.2.2.2.2.2.2.2.1, .int .i64 a3.2.2.2.2.2.2.2.2])]
noncomputable def Ee (p0 : (Int × (List (Int × Int × Int × Int × Int × Int)) × (List (Int × Int))) × List (List Int) × List Int × Int × Int × Int × Int × Int × Int) : (List Int × Int) → Option ((List Int × Int) ⊕ (List Int))
  | (x3, x4) => (if x4 < (p0.1.2.1.length : Int) then (ix p0.1.2.1 x4).bind fun x5 => (DP x3 ([x5.1, x5.2.1, x5.2.2.1, x5.2.2.2.1, x5.2.2.2.2.1, x5.2.2.2.2.2] : List Int)).bind fun x6 => some (.inl (x6, CD (x4 + 1))) else some (.inr x3))
noncomputable def Ek (p0 : (Int × (List (Int × Int × Int × Int × Int × Int)) × (List (Int × Int))) × List (List Int) × List Int × Int × Int × Int × Int × Int × Int) : (List Int × Int) → Option ((List Int × Int) ⊕ (List Int))
  | (x8, x9) => (if x9 < (p0.1.2.2.length : Int) then (ix p0.1.2.2 x9).bind fun x10 => (ix p0.1.2.2 x9).bind fun x11 => (DP x8 ([x10.1, x11.2] : List Int)).bind fun x12 => some (.inl (x12, CD (x9 + 1))) else some (.inr x8))
noncomputable def Eb (x7 : List Int) : Int → Option (Int ⊕ (Unit ⊕ Bool))
  | x13 => (if x13 < (x7.length : Int) then (ix x7 x13).bind fun x14 => (if (!(EX x14)) = true then some (.inr (.inr false)) else some (.inl (CD (x13 + 1)))) else some (.inr (.inl ())))
noncomputable def FX (p0 : (Int × (List (Int × Int × Int × Int × Int × Int)) × (List (Int × Int))) × List (List Int) × List Int × Int × Int × Int × Int × Int × Int) : Option Bool := (DP ([p0.1.1, p0.2.2.2.1, p0.2.2.2.2.1, p0.2.2.2.2.2.1, p0.2.2.2.2.2.2.1, p0.2.2.2.2.2.2.2.1, p0.2.2.2.2.2.2.2.2] : List Int) p0.2.2.1).bind fun x1 => (Bf (Ee p0) (x1, 0)).bind fun x2 => (Bf (Ek p0) (x2, 0)).bind fun x7 => D6 (Bf (Eb x7) 0) fun _ => some true
theorem Kr (Y : Nat → Prop) (w0 : World) (v1 : Value) (v2 : Value) (v3 : Value) (v4 : Value) (p0 : (Int × (List (Int × Int × Int × Int × Int × Int)) × (List (Int × Int))) × List (List Int) × List Int × Int × Int × Int × Int × Int × Int) (r : Bool) (H : FX p0 = some r) (h_v1 : Sl w0 (NX []) Bn v1 p0.1.2.1) (h_v2 : Sl w0 (NX []) Br v2 p0.1.2.2) (h_v3 : Sl w0 (NX []) (Rp.slice (Rp.int .u64)) v3 p0.2.1) (s_v4 : Sl w0 Y (Rp.int .i64) v4 p0.2.2.1) :
    Calls Tryd.prog 6 #[.agg #[.int .i64 p0.1.1, v1, v2, v3, v4, .int .i64 p0.2.2.2.1, .int .i64 p0.2.2.2.2.1, .int .i64 p0.2.2.2.2.2.1, .int .i64 p0.2.2.2.2.2.2.1, .int .i64 p0.2.2.2.2.2.2.2.1, .int .i64 p0.2.2.2.2.2.2.2.2]] w0 fun e w' => e = .returned (.bool r) ∧ Below w0.heap.size w0 w' := by
 refine enter Tryd.func6 Aa Tryd.ntmps6 Aa fun a F => ?_
 have W := Stw.start Y w0
 obtain ⟨v5, h1, h_v3⟩ := h_v3.ex Eo
 have h_v4 := W.nx s_v4
 unfold FX at H
 refine Ak (Ac ?_)
 refine GU (cs := (B3 p0 v1 v2 v3 v4)) F W Aa Aa Aa fun b1 a w F W => ?_
 refine ls F W Aa (Ag F Aa).q fun a w F W => ?_
 refine Af (Ad (Ak (Ac ?_)))
 refine ls F W Aa (Ai Bw Aa Aa Aa GE F Aa 0 Aa).q fun a w F W => ?_
 refine ls F W Aa (Ai DE Aa Aa Aa T3 F Aa 0 Aa).q fun a w F W => ?_
 refine ls F W Aa (Az (v := Value.int .i64 p0.1.1) 0 F Aa Aa T3 Aa).q fun a w F W => ?_
 refine ls F W Aa (Ai Bw Aa Aa Aa T3 F Aa 5 Aa).q fun a w F W => ?_
 refine ls F W Aa (Az (v := Value.int .i64 p0.2.2.2.1) 0 F Aa Aa T3 Aa).q fun a w F W => ?_
 refine ls F W Aa (Ai Bw Aa Aa Aa T3 F Aa 6 Aa).q fun a w F W => ?_
 refine ls F W Aa (Az (v := Value.int .i64 p0.2.2.2.2.1) 0 F Aa Aa T3 Aa).q fun a w F W => ?_
 refine ls F W Aa (Ai Bw Aa Aa Aa T3 F Aa 7 Aa).q fun a w F W => ?_
 refine ls F W Aa (Az (v := Value.int .i64 p0.2.2.2.2.2.1) 0 F Aa Aa T3 Aa).q fun a w F W => ?_
 refine ls F W Aa (Ai Bw Aa Aa Aa T3 F Aa 8 Aa).q fun a w F W => ?_
 refine ls F W Aa (Az (v := Value.int .i64 p0.2.2.2.2.2.2.1) 0 F Aa Aa T3 Aa).q fun a w F W => ?_
 refine ls F W Aa (Ai Bw Aa Aa Aa T3 F Aa 9 Aa).q fun a w F W => ?_
 refine ls F W Aa (Az (v := Value.int .i64 p0.2.2.2.2.2.2.2.1) 0 F Aa Aa T3 Aa).q fun a w F W => ?_
 refine ls F W Aa (Ai Bw Aa Aa Aa T3 F Aa 10 Aa).q fun a w F W => ?_
 refine ls F W Aa (Az (v := Value.int .i64 p0.2.2.2.2.2.2.2.2) 0 F Aa Aa T3 Aa).q fun a w F W => ?_
 refine DS (z := Value.int .i64 0) (cs := [.int .i64 p0.1.1, .int .i64 p0.2.2.2.1, .int .i64 p0.2.2.2.2.1, .int .i64 p0.2.2.2.2.2.1, .int .i64 p0.2.2.2.2.2.2.1, .int .i64 p0.2.2.2.2.2.2.2.1, .int .i64 p0.2.2.2.2.2.2.2.2]) (Rp.int .i64) ([p0.1.1, p0.2.2.2.1, p0.2.2.2.2.1, p0.2.2.2.2.2.1, p0.2.2.2.2.2.2.1, p0.2.2.2.2.2.2.2.1, p0.2.2.2.2.2.2.2.2] : List Int) F W Aa GH Z3 Aa Aa Aa Aa Aa Aa (Fl.int.repL _ _ ([p0.1.1, p0.2.2.2.1, p0.2.2.2.2.1, p0.2.2.2.2.2.1, p0.2.2.2.2.2.2.1, p0.2.2.2.2.2.2.2.1, p0.2.2.2.2.2.2.2.2] : List Int)) fun v6 a w F W => ?_
 refine ls F W Aa (Ag F Aa).q fun a w F W => ?_
 refine Af (Ad (Ak (Ac ?_)))
 refine ls F W Aa (Ae F Aa).q fun a w F W => ?_
 refine ls F W Aa (Ai Bw Aa Aa Aa KN F Aa 4 Aa).q fun a w F W => ?_
 refine ls F W Aa (Az (v := v4) 0 F Aa Aa KN Aa).q fun a w F W => ?_
 obtain ⟨x1, h2, H⟩ := An H
 refine EU (r := (Rp.int .i64)) (i := 0) F W Aa GH Aa Aa Aa Aa (Of W s_v4) h2 Aa fun v7 a w F W => ?_
 have W : Stw ⟨Y, [], w0⟩ (Cp b1 p0 v1 v2 v3 v4) [row v7 3 (Rp.int .i64) x1] w := W
 refine ls F W Aa (Ag F Aa).q fun a w F W => ?_
 refine Af (Ad ?_)
 obtain ⟨o1, G1, K1⟩ := An H
 refine AX (fun a w => ∃ x2 : List Int, ∃ v8 : Value, some (x2) = some o1 ∧ Fr 94 [] [(1, .pointer (some ⟨b1, 0, none⟩)), (2, .bool false), (3, v8)] a ∧ Stw ⟨Y, [], w0⟩ (Cp b1 p0 v1 v2 v3 v4) [row v8 3 (Rp.int .i64) x2] w) ?_ ?_
 ·
  have H := G1
  clear G1 K1
  refine Ak (Ac ?_)
  refine ls F W Aa (Ag F Aa).q fun a w F W => ?_
  refine Af (Ad (AC ?_))
  refine B9 H (fun s a w => ∃ v9 : Value, Fr 94 [] [(1, .pointer (some ⟨b1, 0, none⟩)), (2, .bool false), (3, v9), (4, .int .i64 s.2)] a ∧ Stw ⟨Y, [], w0⟩ (Cp b1 p0 v1 v2 v3 v4) [row v9 3 (Rp.int .i64) s.1] w) ⟨(v7), F.re ⟨rfl, Aa, Aa, Aa, trivial⟩, W⟩ fun s o a w H L2 hR => ?_
  obtain ⟨x3, x4⟩ := s
  obtain ⟨v9, F, W⟩ := hR
  have F : Fr 94 [] [(1, .pointer (some ⟨b1, 0, none⟩)), (2, .bool false), (3, v9), (4, .int .i64 x4)] a := F
  have W : Stw ⟨Y, [], w0⟩ (Cp b1 p0 v1 v2 v3 v4) [row v9 3 (Rp.int .i64) x3] w := W
  rw [Ee] at H
  refine Ak (Ak (Ac ?_))
  refine ls F W Aa (Ae F Aa).q fun a w F W => ?_
  refine ls F W Aa (Ai Bw Aa Aa Aa GE F Aa 0 Aa).q fun a w F W => ?_
  refine ls F W Aa (Ai DE Aa Aa Aa HV F Aa 1 Aa).q fun a w F W => ?_
  refine ls F W Aa (Az (v := v1) 0 F Aa Aa HV Aa).q fun a w F W => ?_
  refine ls F W Aa (B4 (r := Bn) (l := p0.1.2.1) Jt Aa F Aa (Ao h_v1)).q fun a w F W => ?_
  refine ls F W Aa (Dk F Aa Aa).q fun a w F W => ?_
  refine Af (Ad ?_)
  refine AD F Aa (fun hb => ?_) fun hb => ?_
  ·
   have H := AW (BI hb) H
   rw [hb] at F
   clear hb
   refine Aw (Ad (Ak (AC (Ak (Ac ?_)))))
   refine ls F W Aa (Ai Bw Aa Aa Aa GE F Aa 0 Aa).q fun a w F W => ?_
   refine ls F W Aa (Ai DE Aa Aa Aa HV F Aa 1 Aa).q fun a w F W => ?_
   refine ls F W Aa (Az (v := v1) 0 F Aa Aa HV Aa).q fun a w F W => ?_
   refine ls F W Aa (Ae F Aa).q fun a w F W => ?_
   obtain ⟨x5, h3, H⟩ := An H
   refine ls F W Aa (Bz (r := Bn) OC F Aa Aa (Ao h_v1) h3).q fun a w F W => ?_
   refine ls F W Aa (AH (y := Value.agg #[.int .i64 x5.1, .int .i64 x5.2.1, .int .i64 x5.2.2.1, .int .i64 x5.2.2.2.1, .int .i64 x5.2.2.2.2.1, .int .i64 x5.2.2.2.2.2]) (j := 0) (i := x4) F Aa Aa (Ao h_v1) h3 OL.to Og Aa).q fun a w F W => ?_
   refine DX (cs := (Pf)) F W Aa PX Aa fun b2 a w F W => ?_
   refine Co (vs := (NQ x5)) (M' := (MX b2 x5 b1 p0 v1 v2 v3 v4)) 0 F W Aa Aa Aa Og Aa Aa Aa Aa Aa fun w W => ?_
   refine Af (Ad (Ac ?_))
   refine ls F W Aa (Ae F Aa).q fun a w F W => ?_
   refine ls F W Aa (Ai Hm Aa Aa Aa T3 F Aa 0 Aa).q fun a w F W => ?_
   refine ls F W Aa (Az (v := Value.int .i64 x5.1) 0 F Aa Aa T3 Aa).q fun a w F W => ?_
   refine ls F W Aa (Ai Hm Aa Aa Aa T3 F Aa 1 Aa).q fun a w F W => ?_
   refine ls F W Aa (Az (v := Value.int .i64 x5.2.1) 0 F Aa Aa T3 Aa).q fun a w F W => ?_
   refine ls F W Aa (Ai Hm Aa Aa Aa T3 F Aa 2 Aa).q fun a w F W => ?_
   refine ls F W Aa (Az (v := Value.int .i64 x5.2.2.1) 0 F Aa Aa T3 Aa).q fun a w F W => ?_
   refine ls F W Aa (Ai Hm Aa Aa Aa T3 F Aa 3 Aa).q fun a w F W => ?_
   refine ls F W Aa (Az (v := Value.int .i64 x5.2.2.2.1) 0 F Aa Aa T3 Aa).q fun a w F W => ?_
   refine ls F W Aa (Ai Hm Aa Aa Aa T3 F Aa 4 Aa).q fun a w F W => ?_
   refine ls F W Aa (Az (v := Value.int .i64 x5.2.2.2.2.1) 0 F Aa Aa T3 Aa).q fun a w F W => ?_
   refine ls F W Aa (Ai Hm Aa Aa Aa T3 F Aa 5 Aa).q fun a w F W => ?_
   refine ls F W Aa (Az (v := Value.int .i64 x5.2.2.2.2.2) 0 F Aa Aa T3 Aa).q fun a w F W => ?_
   refine DS (z := Value.int .i64 0) (cs := (NQ x5)) (Rp.int .i64) ([x5.1, x5.2.1, x5.2.2.1, x5.2.2.2.1, x5.2.2.2.2.1, x5.2.2.2.2.2] : List Int) F W Aa GH Z3 Aa Aa Aa Aa Aa Aa (Fl.int.repL _ _ ([x5.1, x5.2.1, x5.2.2.1, x5.2.2.2.1, x5.2.2.2.2.1, x5.2.2.2.2.2] : List Int)) fun v10 a w F W => ?_
   obtain ⟨x6, h4, H⟩ := An H
   refine EU (r := (Rp.int .i64)) (i := 1) F W Aa GH Aa Aa Aa Aa (Gd W 0 Aa) h4 Aa fun v11 a w F W => ?_
   have W : Stw ⟨Y, [], w0⟩ (MX b2 x5 b1 p0 v1 v2 v3 v4) [row v11 3 (Rp.int .i64) x6, row v10 3 (Rp.int .i64) ([x5.1, x5.2.1, x5.2.2.1, x5.2.2.2.1, x5.2.2.2.2.1, x5.2.2.2.2.2] : List Int)] w := W
   refine ls F W Aa (Ag F Aa).q fun a w F W => ?_
   refine Af (Bb (Ad (Ac ?_)))
   refine ls F W Aa (Ae F Aa).q fun a w F W => ?_
   refine ls F W Aa (Dj F Aa Aa Aa).q fun a w F W => ?_
   refine ls F W Aa (Ag F Aa).q fun a w F W => ?_
   refine Af (Ad ?_)
   have W := W.frontM (i := 1) Aa Aa
   have W := W.sub (M' := (Cp b1 p0 v1 v2 v3 v4)) (Z' := [row v11 3 (Rp.int .i64) x6]) (List.Sublist.cons_cons _ (List.nil_sublist _)) (List.Sublist.cons_cons _ (List.nil_sublist _))
   exact ⟨_, H, (v11), F.re ⟨rfl, Aa, Aa, Aa, trivial⟩, W⟩
  have H := AV (BG hb) H
  rw [hb] at F
  clear hb
  refine BR ?_
  iterate 2 refine Cr ?_
  refine BQ (Ad ?_)
  have H := L2 _ H
  exact ⟨_, (v9), H, F.re ⟨rfl, Aa, Aa, trivial⟩, W⟩
 rintro a w ⟨x2, v8, hj, F, W⟩
 have hj := Ba hj
 subst hj
 have H := K1
 clear G1 K1
 obtain ⟨o3, G3, K3⟩ := An H
 refine AX (fun a w => ∃ x7 : List Int, ∃ v12 : Value, some (x7) = some o3 ∧ Fr 94 [] [(2, .bool false), (3, v12)] a ∧ Stw ⟨Y, [], w0⟩ (Cp b1 p0 v1 v2 v3 v4) [row v12 3 (Rp.int .i64) x7] w) ?_ ?_
 ·
  have H := G3
  clear G3 K3
  refine Ak (Ac ?_)
  refine ls F W Aa (Ag F Aa).q fun a w F W => ?_
  refine Af (Ad (AC ?_))
  refine B9 H (fun s a w => ∃ v13 : Value, Fr 94 [] [(1, .pointer (some ⟨b1, 0, none⟩)), (2, .bool false), (3, v13), (6, .int .i64 s.2)] a ∧ Stw ⟨Y, [], w0⟩ (Cp b1 p0 v1 v2 v3 v4) [row v13 3 (Rp.int .i64) s.1] w) ⟨(v8), F.re ⟨rfl, Aa, Aa, Aa, trivial⟩, W⟩ fun s o a w H L4 hR => ?_
  obtain ⟨x8, x9⟩ := s
  obtain ⟨v13, F, W⟩ := hR
  have F : Fr 94 [] [(1, .pointer (some ⟨b1, 0, none⟩)), (2, .bool false), (3, v13), (6, .int .i64 x9)] a := F
  have W : Stw ⟨Y, [], w0⟩ (Cp b1 p0 v1 v2 v3 v4) [row v13 3 (Rp.int .i64) x8] w := W
  rw [Ek] at H
  refine Ak (Ak (Ac ?_))
  refine ls F W Aa (Ae F Aa).q fun a w F W => ?_
  refine ls F W Aa (Ai Bw Aa Aa Aa GE F Aa 0 Aa).q fun a w F W => ?_
  refine ls F W Aa (Ai DE Aa Aa Aa Hu F Aa 2 Aa).q fun a w F W => ?_
  refine ls F W Aa (Az (v := v2) 0 F Aa Aa Hu Aa).q fun a w F W => ?_
  refine ls F W Aa (B4 (r := Br) (l := p0.1.2.2) Jr Aa F Aa (Ao h_v2)).q fun a w F W => ?_
  refine ls F W Aa (Dk F Aa Aa).q fun a w F W => ?_
  refine Af (Ad ?_)
  refine AD F Aa (fun hb => ?_) fun hb => ?_
  ·
   have H := AW (BI hb) H
   rw [hb] at F
   clear hb
   refine Aw (Ad (Ak (AC ?_)))
   refine NR 15 [0] [1, 2, 3, 4, 5, 6, 7, 8, 9, 10, 11, 12, 13, 14] (fun ch a d v w h => by cases d <;> exact h) W MO (by kernel_rfl) ?_
   refine hm F Aa Aa Aa fun a F => ?_
   refine O2 ?_
   refine hs F Aa Aa Aa (Ai Bw Aa Aa Aa GE F Aa 0 Aa).q fun a F => ?_
   refine hs F Aa Aa Aa (Ai DE Aa Aa Aa Hu F Aa 2 Aa).q fun a F => ?_
   refine hs F Aa Aa Aa (Az (v := v2) 0 F Aa Aa Hu Aa).q fun a F => ?_
   refine hs F Aa Aa Aa (Ae F Aa).q fun a F => ?_
   obtain ⟨x10, h5, H⟩ := An H
   refine hs F Aa Aa Aa (Bz (r := Br) Oa F Aa Aa (Ao h_v2) h5).q fun a F => ?_
   refine hs F Aa Aa Aa (Ai LX Aa Aa Aa T3 F Aa (HE v2 + (x9).toNat * 2) Aa).q fun a F => ?_
   refine hs F Aa Aa Aa (AH (y := Value.int .i64 x10.1) (j := 0) (i := x9) F Aa Aa (Ao h_v2) h5 Ow.to T3 Aa).q fun a F => ?_
   refine hs F Aa Aa Aa (Ai Bw Aa Aa Aa GE F Aa 0 Aa).q fun a F => ?_
   refine hs F Aa Aa Aa (Ai DE Aa Aa Aa Hu F Aa 2 Aa).q fun a F => ?_
   refine hs F Aa Aa Aa (Az (v := v2) 0 F Aa Aa Hu Aa).q fun a F => ?_
   refine hs F Aa Aa Aa (Ae F Aa).q fun a F => ?_
   obtain ⟨x11, h6, H⟩ := An H
   refine hs F Aa Aa Aa (Bz (r := Br) Oa F Aa Aa (Ao h_v2) h6).q fun a F => ?_
   refine hs F Aa Aa Aa (Ai LX Aa Aa Aa T3 F Aa (HE v2 + (x9).toNat * 2 + 1) Aa).q fun a F => ?_
   refine hs F Aa Aa Aa (AH (y := Value.int .i64 x11.2) (j := 1) (i := x9) F Aa Aa (Ao h_v2) h6 Ow.to T3 Aa).q fun a F => ?_
   refine Pe fun w W => ?_
   have W : Stw ⟨Y, [], w0⟩ (Cp b1 p0 v1 v2 v3 v4) [row v13 3 (Rp.int .i64) x8] w := W
   refine DS (z := Value.int .i64 0) (cs := [.int .i64 x10.1, .int .i64 x11.2]) (Rp.int .i64) ([x10.1, x11.2] : List Int) F W Aa GH Z3 Aa Aa Aa Aa Aa Aa (Fl.int.repL _ _ ([x10.1, x11.2] : List Int)) fun v14 a w F W => ?_
   obtain ⟨x12, h7, H⟩ := An H
   refine EU (r := (Rp.int .i64)) (i := 1) F W Aa GH Aa Aa Aa Aa (Gd W 0 Aa) h7 Aa fun v15 a w F W => ?_
   have W : Stw ⟨Y, [], w0⟩ (Cp b1 p0 v1 v2 v3 v4) [row v15 3 (Rp.int .i64) x12, row v14 3 (Rp.int .i64) ([x10.1, x11.2] : List Int)] w := W
   refine ls F W Aa (Ag F Aa).q fun a w F W => ?_
   refine Af (Bb (Ad (Ac ?_)))
   refine ls F W Aa (Ae F Aa).q fun a w F W => ?_
   refine ls F W Aa (Dj F Aa Aa Aa).q fun a w F W => ?_
   refine ls F W Aa (Ag F Aa).q fun a w F W => ?_
   refine Af (Ad ?_)
   have W := W.sub (M' := (Cp b1 p0 v1 v2 v3 v4)) (Z' := [row v15 3 (Rp.int .i64) x12]) (List.Sublist.refl _) (List.Sublist.cons_cons _ (List.nil_sublist _))
   exact ⟨_, H, (v15), F.re ⟨rfl, Aa, Aa, Aa, trivial⟩, W⟩
  have H := AV (BG hb) H
  rw [hb] at F
  clear hb
  refine BR ?_
  iterate 2 refine Cr ?_
  refine BQ (Ad ?_)
  have H := L4 _ H
  exact ⟨_, (v13), H, F.re ⟨rfl, Aa, trivial⟩, W⟩
 rintro a w ⟨x7, v12, hj, F, W⟩
 have hj := Ba hj
 subst hj
 have H := K3
 clear G3 K3
 obtain ⟨o5, G5, K5, L5⟩ := Ib H
 refine AX (fun a w => some (Sum.inl ()) = some o5 ∧ Fr 94 [] [(2, .bool false)] a ∧ Stw ⟨Y, [], w0⟩ (Cp b1 p0 v1 v2 v3 v4) [] w) ?_ ?_
 ·
  have H := G5
  clear G5 K5
  refine Ak (Ac ?_)
  refine ls F W Aa (Ag F Aa).q fun a w F W => ?_
  refine Af (Ad (AC ?_))
  refine B9 H (fun s a w => Fr 94 [] [(2, .bool false), (3, v12), (7, .int .i64 s)] a ∧ Stw ⟨Y, [], w0⟩ (Cp b1 p0 v1 v2 v3 v4) [row v12 3 (Rp.int .i64) x7] w) ⟨F.re ⟨rfl, Aa, Aa, trivial⟩, W⟩ fun s o a w H L6 hR => ?_
  obtain ⟨x13, rfl⟩ : ∃ x, x = s := ⟨s, rfl⟩
  obtain ⟨F, W⟩ := hR
  have F : Fr 94 [] [(2, .bool false), (3, v12), (7, .int .i64 x13)] a := F
  have W : Stw ⟨Y, [], w0⟩ (Cp b1 p0 v1 v2 v3 v4) [row v12 3 (Rp.int .i64) x7] w := W
  rw [Eb] at H
  refine Ak (Ak (Ac ?_))
  iterate 2 refine ls F W Aa (Ae F Aa).q fun a w F W => ?_
  refine ls F W Aa (B4 (r := (Rp.int .i64)) (l := x7) Ir Aa F Aa (A3 0 Aa)).q fun a w F W => ?_
  refine ls F W Aa (Dk F Aa Aa).q fun a w F W => ?_
  refine Af (Ad ?_)
  refine AD F Aa (fun hb => ?_) fun hb => ?_
  ·
   have H := AW (BI hb) H
   rw [hb] at F
   clear hb
   refine Aw (Ad (Ak (AC (Ak (Ac ?_)))))
   iterate 2 refine ls F W Aa (Ae F Aa).q fun a w F W => ?_
   obtain ⟨x14, h8, H⟩ := An H
   refine ls F W Aa (Bz (r := (Rp.int .i64)) GH F Aa Aa (A3 0 Aa) h8).q fun a w F W => ?_
   refine ls F W Aa (AH (y := Value.int .i64 x14) (j := 0) (i := x13) F Aa Aa (A3 0 Aa) h8 Fl.int.to T3 Aa).q fun a w F W => ?_
   refine ls F W Aa (Bj (v := Value.bool (EX x14)) F QI Aa (fun w W => KY any w x14 _ Aa)) fun a w F W => ?_
   refine ls F W Aa (GS F Aa).q fun a w F W => ?_
   refine Af (Ad ?_)
   refine AD F Aa (fun hb => ?_) fun hb => ?_
   ·
    have H := AW hb H
    rw [hb] at F
    clear hb
    refine Ak (Ac ?_)
    refine ls F W Aa (Ag F Aa).q fun a w F W => ?_
    refine Af (Ad (AP (Bo ?_)))
    iterate 2 refine Be ?_
    refine Bo (Be ?_)
    have H := L6 _ H
    have H := L5 _ H
    have H := Ba H
    subst H
    refine BM (.inl Aa) F W Aa (AG F Aa) ?_
    exact ⟨rfl, W.done⟩
   have H := AV (by rw [hb]; decide) H
   rw [hb] at F
   clear hb
   refine Aw (Bb (Ad (Ac ?_)))
   refine ls F W Aa (Ae F Aa).q fun a w F W => ?_
   refine ls F W Aa (Dj F Aa Aa Aa).q fun a w F W => ?_
   refine ls F W Aa (Ag F Aa).q fun a w F W => ?_
   refine Af (Ad ?_)
   exact ⟨_, H, F.re ⟨rfl, Aa, Aa, trivial⟩, W⟩
  have H := AV (BG hb) H
  rw [hb] at F
  clear hb
  refine BR ?_
  iterate 2 refine Cr ?_
  refine BQ (Ad ?_)
  have W := W.sub (M' := (Cp b1 p0 v1 v2 v3 v4)) (Z' := []) (List.Sublist.refl _) (List.nil_sublist _)
  have H := L6 _ H
  exact ⟨H, F.re ⟨rfl, trivial⟩, W⟩
 rintro a w ⟨hj, F, W⟩
 have H := K5 _ hj
 clear hj G5 K5 L5
 refine Ak (Ac ?_)
 refine ls F W Aa (Ag F Aa).q fun a w F W => ?_
 refine Af (Ad (AP ?_))
 have H := Ba H
 subst H
 refine BM (.inl Aa) F W Aa (AG F Aa) ?_
 exact ⟨rfl, W.done⟩
theorem H6 : Has Tryd.prog 6 := ⟨fun args w => Am Tryd.func6 rfl (by decide) args w⟩
theorem Q2 : Bt Tryd.prog 25 [.int .i64 0, .slice none 0 0, .slice none 0 0] [(0, 1), (1, 1), (2, 1)] := ⟨⟨.agg #[.int .i64 0, .slice none 0 0, .slice none 0 0], by kernel_rfl, rfl⟩, ⟨_, DE, fun w => by kernel_rfl⟩⟩
theorem P4 : (Tryd.prog.info? 45).bind (·.zero) = some (.int .u64 0) := by kernel_rfl
theorem Oh : Et Tryd.prog 39 45 1 8 := Et.of JU (by kernel_rfl) (by kernel_rfl) (by kernel_rfl) (by decide)
theorem Qm : (Tryd.prog.info? 39).bind (·.zero) = some (.slice none 0 0) := by kernel_rfl
theorem P2 : Bt Tryd.prog 29 [.int .i64 0, .slice none 0 0, .slice none 0 0, .slice none 0 0, .slice none 0 0, .int .i64 0, .int .i64 0, .int .i64 0, .int .i64 0, .int .i64 0, .int .i64 0] [(0, 3), (3, 1), (4, 1), (5, 1), (6, 1), (7, 1), (8, 1), (9, 1), (10, 1)] := ⟨⟨.agg #[.int .i64 0, .slice none 0 0, .slice none 0 0, .slice none 0 0, .slice none 0 0, .int .i64 0, .int .i64 0, .int .i64 0, .int .i64 0, .int .i64 0, .int .i64 0], by kernel_rfl, rfl⟩, ⟨_, Bw, fun w => by kernel_rfl⟩⟩
theorem O5 : (Tryd.prog.info? 29).bind (·.zero) = some (.agg #[.int .i64 0, .slice none 0 0, .slice none 0 0, .slice none 0 0, .slice none 0 0, .int .i64 0, .int .i64 0, .int .i64 0, .int .i64 0, .int .i64 0, .int .i64 0]) := by kernel_rfl
theorem KM : Has Tryd.prog 13 := ⟨fun args w => Am Tryd.func13 rfl (by decide) args w⟩
theorem Qf : Has Tryd.prog 33 := ⟨fun args w => Am Tryd.func33 rfl (by decide) args w⟩
theorem P6 : Has Tryd.prog 16 := ⟨fun args w => Am Tryd.func16 rfl (by decide) args w⟩
noncomputable def Db (p1 : List Int) : (Int × List UInt8) → Option ((Int × List UInt8) ⊕ (List UInt8))
  | (x3, x4) => (if x3 < (p1.length : Int) then (ix p1 x3).bind fun x5 => (Jf x5).bind fun x6 => (DP ([32] : List UInt8) x6).bind fun x7 => (DP x4 x7).bind fun x8 => some (.inl (CD (x3 + 1), x8)) else some (.inr x4))
noncomputable def Bk (p0 : List UInt8) (p1 : List Int) : Option (List UInt8) := (DP ([] : List UInt8) p0).bind fun x1 => (Bf (Db p1) (0, x1)).bind fun x2 => (DP x2 ([10] : List UInt8)).bind fun x9 => (JY x9).bind fun x10 => some x10
theorem CH (Y : Nat → Prop) (w0 : World) (v1 : Value) (p0 : List UInt8) (p1 : List Int) (r : List UInt8) (H : Bk p0 p1 = some r) (h_v1 : Sl w0 (NX []) (Rp.int .i64) v1 p1) (hG : Gk [] w0) :
    Calls Tryd.prog 14 #[.string (bs p0), v1] w0 fun e w' => e = .returned (.string (bs r)) ∧ Below w0.heap.size w0 w' := by
 refine enter Tryd.func14 Aa Tryd.ntmps14 Aa fun a F => ?_
 have W := Stw.start Y w0
 unfold Bk at H
 refine Ak (Ac ?_)
 refine ls F W Aa (Ag (v := Value.string (bs ([] : List UInt8))) F Aa).q fun a w F W => ?_
 refine Af (Ad (Ak (Ac ?_)))
 refine KB F W Aa fun b1 a w F W => ?_
 have W : Stw ⟨Y, [], w0⟩ [] [BH 49 5 b1 (Value.slice none 0 0) ([] : List UInt8)] w := W
 refine Af (Ad (Ak (Ac ?_)))
 refine ls F W Aa (Ae F Aa).q fun a w F W => ?_
 obtain ⟨x1, h1, H⟩ := An H
 refine AO (Ml := []) (Zl := [BH 49 5 b1 (Value.slice none 0 0) ([] : List UInt8)]) (M := []) (Z := []) (β := Value) (rv := fun x => .tuple #[.int .i64 (p0.length : Int), .nilIface]) (MM := fun x => []) (ZZ := fun x => [BH 49 5 b1 x x1]) F W KM Aa Aa (fun hL => GO _ _ w b1 (Value.slice none 0 0) ([] : List UInt8) p0 _ h1 hL) fun v2 a w F W => ?_
 have W : Stw ⟨Y, [], w0⟩ [] [BH 49 5 b1 v2 x1] w := W
 refine Af (Ad ?_)
 obtain ⟨o1, G1, K1⟩ := An H
 refine AX (fun a w => ∃ x2 : List UInt8, ∃ v3 : Value, some (x2) = some o1 ∧ Fr 23 [] [(4, .string (bs ([] : List UInt8))), (5, .pointer (some ⟨b1, 0, none⟩))] a ∧ Stw ⟨Y, [], w0⟩ [] [BH 49 5 b1 v3 x2] w) ?_ ?_
 ·
  have H := G1
  clear G1 K1
  refine Ak (Ac ?_)
  refine ls F W Aa (Ae F Aa).q fun a w F W => ?_
  refine ls F W Aa (B4 (r := (Rp.int .i64)) (l := p1) Ir Aa F Aa (Ao h_v1)).q fun a w F W => ?_
  refine ls F W Aa (Ae F Aa).q fun a w F W => ?_
  refine Af (Ad (AC ?_))
  refine B9 H (fun s a w => ∃ v4 : Value, Fr 23 [] [(4, .string (bs ([] : List UInt8))), (5, .pointer (some ⟨b1, 0, none⟩)), (10, v1), (11, .int .i64 (p1.length : Int)), (12, .int .i64 s.1)] a ∧ Stw ⟨Y, [], w0⟩ [] [BH 49 5 b1 v4 s.2] w) ⟨v2, F.re ⟨rfl, Aa, Aa, Aa, Aa, trivial⟩, W⟩ fun s o a w H L2 hR => ?_
  obtain ⟨x3, x4⟩ := s
  obtain ⟨v4, F, W⟩ := hR
  have F : Fr 23 [] [(4, .string (bs ([] : List UInt8))), (5, .pointer (some ⟨b1, 0, none⟩)), (10, v1), (11, .int .i64 (p1.length : Int)), (12, .int .i64 x3)] a := F
  have W : Stw ⟨Y, [], w0⟩ [] [BH 49 5 b1 v4 x4] w := W
  rw [Db] at H
  refine Ak (Ac ?_)
  refine ls F W Aa (Dk F Aa Aa).q fun a w F W => ?_
  refine Af (Ad (Ak ?_))
  refine AD F Aa (fun hb => ?_) fun hb => ?_
  ·
   have H := AW (BI hb) H
   rw [hb] at F
   clear hb
   refine Aw (Ad (Ak (AC (Ak (Ac ?_)))))
   obtain ⟨x5, h2, H⟩ := An H
   refine ls F W Aa (Bz (r := (Rp.int .i64)) GH F Aa Aa (Ao h_v1) h2).q fun a w F W => ?_
   refine ls F W Aa (AH (y := Value.int .i64 x5) (j := 0) (i := x3) F Aa Aa (Ao h_v1) h2 Fl.int.to T3 Aa).q fun a w F W => ?_
   refine ls F W Aa (Ag F Aa).q fun a w F W => ?_
   refine Af (Ad (Ac ?_))
   refine ls F W Aa (Ae F Aa).q fun a w F W => ?_
   obtain ⟨x6, h3, H⟩ := An H
   refine ls F W Aa (Bj (v := Value.string (bs x6)) F Qf Aa (fun w W => MG any w x5 _ h3 (hG.go0 W))) fun a w F W => ?_
   obtain ⟨x7, h4, H⟩ := An H
   refine ls F W Aa (ID (l := ([32] : List UInt8)) (m := x6) F Aa Aa h4).q fun a w F W => ?_
   obtain ⟨x8, h5, H⟩ := An H
   refine AO (Ml := []) (Zl := [BH 49 5 b1 v4 x4]) (M := []) (Z := []) (β := Value) (rv := fun x => .tuple #[.int .i64 (x7.length : Int), .nilIface]) (MM := fun x => []) (ZZ := fun x => [BH 49 5 b1 x x8]) F W KM Aa Aa (fun hL => GO _ _ w b1 v4 x4 x7 _ h5 hL) fun v5 a w F W => ?_
   have W : Stw ⟨Y, [], w0⟩ [] [BH 49 5 b1 v5 x8] w := W
   refine Af (Bb (Ad (Ac ?_)))
   refine ls F W Aa (Dj F Aa Aa Aa).q fun a w F W => ?_
   refine ls F W Aa (Ae F Aa).q fun a w F W => ?_
   refine Af (Ad ?_)
   exact ⟨_, H, v5, F.re ⟨rfl, Aa, Aa, Aa, Aa, trivial⟩, W⟩
  have H := AV (BG hb) H
  rw [hb] at F
  clear hb
  refine BR ?_
  iterate 2 refine Cr ?_
  refine BQ (Ad ?_)
  have H := L2 _ H
  exact ⟨_, v4, H, F.re ⟨rfl, Aa, trivial⟩, W⟩
 rintro a w ⟨x2, v3, hj, F, W⟩
 have hj := Ba hj
 subst hj
 have H := K1
 clear G1 K1
 refine Ak (Ac ?_)
 obtain ⟨x9, h6, H⟩ := An H
 refine AO (Ml := []) (Zl := [BH 49 5 b1 v3 x2]) (M := []) (Z := []) (β := Value) (rv := fun x => .tuple #[.int .i64 (([10] : List UInt8).length : Int), .nilIface]) (MM := fun x => []) (ZZ := fun x => [BH 49 5 b1 x x9]) F W KM Aa Aa (fun hL => GO _ _ w b1 v3 x2 ([10] : List UInt8) _ h6 hL) fun v6 a w F W => ?_
 have W : Stw ⟨Y, [], w0⟩ [] [BH 49 5 b1 v6 x9] w := W
 refine Af (Ad (Ak (Ac ?_)))
 obtain ⟨x10, h7, H⟩ := An H
 refine AO (Ml := []) (Zl := [BH 49 5 b1 v6 x9]) (M := []) (Z := []) (β := Unit) (rv := fun x => .string (bs x10)) (MM := fun x => []) (ZZ := fun x => [BH 49 5 b1 v6 x9]) F W P6 Aa Aa (fun hL => Ph _ _ w b1 v6 x9 _ h7 hL) fun _ a w F W => ?_
 have W : Stw ⟨Y, [], w0⟩ [] [BH 49 5 b1 v6 x9] w := W
 refine ls F W Aa (Ag F Aa).q fun a w F W => ?_
 refine Af (Ad (AP ?_))
 have H := Ba H
 subst H
 refine BM (.inl Aa) F W Aa (AG F Aa) ?_
 exact ⟨rfl, W.done⟩
theorem NF : Has Tryd.prog 14 := ⟨fun args w => Am Tryd.func14 rfl (by decide) args w⟩
theorem O4 : Ty Tryd.prog 43 true 2 := ⟨by kernel_rfl, by kernel_rfl⟩
theorem Qh : (Tryd.prog.info? 43).bind (·.zero) = some (.agg #[.int .i64 0, .int .i64 0]) := by kernel_rfl
theorem O9 : Ty Tryd.prog 45 false 1 := ⟨by kernel_rfl, by kernel_rfl⟩
theorem I9 : (Tryd.prog.underlying 9).map (fun d => match d with | .interface _ => true | _ => false) = some false := by kernel_rfl
theorem PO : (Tryd.prog.info? 116).bind (·.zero) = some (.agg #[.int .u8 0, .int .u8 0, .int .u8 0, .int .u8 0, .int .u8 0, .int .u8 0, .int .u8 0, .int .u8 0, .int .u8 0, .int .u8 0, .int .u8 0, .int .u8 0, .int .u8 0, .int .u8 0, .int .u8 0, .int .u8 0, .int .u8 0, .int .u8 0, .int .u8 0, .int .u8 0, .int .u8 0, .int .u8 0, .int .u8 0, .int .u8 0, .int .u8 0, .int .u8 0, .int .u8 0, .int .u8 0, .int .u8 0, .int .u8 0, .int .u8 0, .int .u8 0, .int .u8 0, .int .u8 0, .int .u8 0, .int .u8 0, .int .u8 0, .int .u8 0, .int .u8 0, .int .u8 0, .int .u8 0, .int .u8 0, .int .u8 0, .int .u8 0, .int .u8 0, .int .u8 0, .int .u8 0, .int .u8 0, .int .u8 0, .int .u8 0, .int .u8 0, .int .u8 0, .int .u8 0, .int .u8 0, .int .u8 0, .int .u8 0, .int .u8 0, .int .u8 0, .int .u8 0, .int .u8 0, .int .u8 0, .int .u8 0, .int .u8 0, .int .u8 0, .int .u8 0]) := by kernel_rfl
def BP (p0 : Int) : Bool := decide ((KX .i64 p0 (CD (p0 - 1))) = 0)
theorem En (Y : Nat → Prop) (w0 : World)  (p0 : Int) (r : Bool) (H : BP p0 = r)  :
    Calls Tryd.prog 76 #[.int .i64 p0] w0 fun e w' => e = .returned (.bool r) ∧ Below w0.heap.size w0 w' := by
 refine enter Tryd.func76 Aa Tryd.ntmps76 Aa fun a F => ?_
 have W := Stw.start Y w0
 unfold BP at H
 refine Ak (Ac ?_)
 refine ls F W Aa (Ag F Aa).q fun a w F W => ?_
 refine Af (Ad (Ak (Ac ?_)))
 iterate 2 refine ls F W Aa (Ae F Aa).q fun a w F W => ?_
 refine ls F W Aa (FW F Aa Aa Aa).q fun a w F W => ?_
 refine ls F W Aa (Oy F Aa Aa).q fun a w F W => ?_
 refine ls F W Aa (CM F Aa Aa).q fun a w F W => ?_
 refine ls F W Aa (Ag F Aa).q fun a w F W => ?_
 refine Af (Ad (AP ?_))
 subst H
 refine BM (.inl Aa) F W Aa (AG F Aa) ?_
 exact ⟨rfl, W.done⟩
theorem Kk : type_of% Tryd.underlying3 := Tryd.underlying3
theorem PB : type_of% Tryd.underlying5 := Tryd.underlying5
theorem F4 : type_of% Tryd.underlying9 := Tryd.underlying9
theorem Mz : type_of% Tryd.underlying45 := Tryd.underlying45
theorem NN : type_of% Tryd.underlying47 := Tryd.underlying47
theorem NU : type_of% Tryd.underlying85 := Tryd.underlying85
theorem Px : type_of% Tryd.underlying116 := Tryd.underlying116
theorem QW : Has Tryd.prog 76 := ⟨fun args w => Am Tryd.func76 rfl (by decide) args w⟩
theorem Qx : Has Tryd.prog 77 := ⟨fun args w => Am Tryd.func77 rfl (by decide) args w⟩
theorem JK : Ar Tryd.prog 116 65 5 1 := ⟨Px, by kernel_rfl⟩
theorem T5 : Ty Tryd.prog 5 false 1 := ⟨by kernel_rfl, by kernel_rfl⟩
noncomputable def AN (p2 : Int) (x5 : Int) : (Int × Int × List Int) → Option ((Int × Int × List Int) ⊕ (Int × Int × List Int))
  | (x9, x10, x11) => (if (IntKind.u64.wrap p2) ≤ x9 then (ix ([48, 49, 50, 51, 52, 53, 54, 55, 56, 57, 97, 98, 99, 100, 101, 102, 103, 104, 105, 106, 107, 108, 109, 110, 111, 112, 113, 114, 115, 116, 117, 118, 119, 120, 121, 122] : List UInt8) (KX .u64 x9 (IntKind.u64.wrap ((IntKind.u64.wrap p2) - 1)))).bind fun x12 => (KO 65 x11 (CD (x10 - 1))).bind fun x13 => (OD (Md .u64 x9 (IntKind.u64.wrap x5)) (IntKind.u64.wrap x5)).bind fun x14 => some (.inl (x14, CD (x10 - 1), (Er x11 (CD (x10 - 1)) (x12.toNat : Int)))) else some (.inr (x9, x10, x11)))
noncomputable def Cf (p2 : Int) : (Int × Int × List Int) → Option ((Int × Int × List Int) ⊕ (Int × Int × List Int))
  | (x20, x21, x22) => (if (IntKind.u64.wrap p2) ≤ x20 then (O8 .u64 x20 (IntKind.u64.wrap p2)).bind fun x23 => (ix ([48, 49, 50, 51, 52, 53, 54, 55, 56, 57, 97, 98, 99, 100, 101, 102, 103, 104, 105, 106, 107, 108, 109, 110, 111, 112, 113, 114, 115, 116, 117, 118, 119, 120, 121, 122] : List UInt8) (IntKind.u64.wrap (x20 - (IntKind.u64.wrap (x23 * (IntKind.u64.wrap p2)))))).bind fun x24 => (KO 65 x22 (CD (x21 - 1))).bind fun x25 => some (.inl (x23, CD (x21 - 1), (Er x22 (CD (x21 - 1)) (x24.toNat : Int)))) else some (.inr (x20, x21, x22)))
noncomputable def BE (p0 : List Int) (p1 : Int) (p2 : Int) (p3 : Bool) (p4 : Bool) : Option (List Int × List UInt8) := (if (decide (p2 < 2) || (decide (p2 = 10) || decide (36 < p2))) = true then none else (if p3 = true then some (IntKind.u64.wrap (0 - p1), true) else some (p1, false)).bind fun (x1, x2) => (if (BP p2) = true then (Pj (IntKind.u64.wrap p2)).bind fun x5 => (Bf (AN p2 x5) (x1, 65, (List.replicate 65 (0 : Int)))).bind fun (x6, x7, x8) => (ix ([48, 49, 50, 51, 52, 53, 54, 55, 56, 57, 97, 98, 99, 100, 101, 102, 103, 104, 105, 106, 107, 108, 109, 110, 111, 112, 113, 114, 115, 116, 117, 118, 119, 120, 121, 122] : List UInt8) x6).bind fun x15 => (KO 65 x8 (CD (x7 - 1))).bind fun x16 => some (CD (x7 - 1), (Er x8 (CD (x7 - 1)) (x15.toNat : Int))) else (Bf (Cf p2) (x1, 65, (List.replicate 65 (0 : Int)))).bind fun (x17, x18, x19) => (ix ([48, 49, 50, 51, 52, 53, 54, 55, 56, 57, 97, 98, 99, 100, 101, 102, 103, 104, 105, 106, 107, 108, 109, 110, 111, 112, 113, 114, 115, 116, 117, 118, 119, 120, 121, 122] : List UInt8) x17).bind fun x26 => (KO 65 x19 (CD (x18 - 1))).bind fun x27 => some (CD (x18 - 1), (Er x19 (CD (x18 - 1)) (x26.toNat : Int)))).bind fun (x3, x4) => (if x2 = true then (KO 65 x4 (CD (x3 - 1))).bind fun x30 => some (CD (x3 - 1), (Er x4 (CD (x3 - 1)) 45)) else some (x3, x4)).bind fun (x28, x29) => (if p4 = true then none else (Mm 65 x29 x28).bind fun x31 => some (([] : List Int), GV x31)))
theorem EK (Y : Nat → Prop) (w0 : World) (v1 : Value) (p0 : List Int) (p1 : Int) (p2 : Int) (p3 : Bool) (p4 : Bool) (r : List Int × List UInt8) (H : BE p0 p1 p2 p3 p4 = some r) (h_v1 : Sl w0 (NX []) (Rp.int .u8) v1 p0) (hG : Gk [] w0) :
    Calls Tryd.prog 59 #[v1, .int .u64 p1, .int .i64 p2, .bool p3, .bool p4] w0 fun e w' => ∃ x : Value, e = .returned (.tuple #[x, .string (bs r.2)]) ∧ Stw ⟨Y, [], w0⟩ [] [row (x) 5 (Rp.int .u8) r.1] w' := by
 refine enter Tryd.func59 Aa Tryd.ntmps59 Aa fun a F => ?_
 have W := Stw.start Y w0
 unfold BE at H
 refine Ak (Ac ?_)
 refine ls F W Aa (Ag F Aa).q fun a w F W => ?_
 refine ls F W Aa (Ag (v := Value.string (bs ([] : List UInt8))) F Aa).q fun a w F W => ?_
 refine Af (Ad (Ak ?_))
 refine AX (fun a w => Fr 102 [] [(0, v1), (1, .int .u64 p1), (2, .int .i64 p2), (3, .bool p3), (4, .bool p4), (10, .slice none 0 0), (11, .string (bs ([] : List UInt8))), (28, .bool (decide (p2 < 2) || (decide (p2 = 10) || decide (36 < p2))))] a ∧ Stw ⟨Y, [], w0⟩ [] [] w) ?_ ?_
 ·
  refine Ac ?_
  refine ls F W Aa (Ae F Aa).q fun a w F W => ?_
  refine ls F W Aa (Dk F Aa Aa).q fun a w F W => ?_
  refine ls F W Aa (Ae F Aa).q fun a w F W => ?_
  rcases Bool.eq_false_or_eq_true (decide (p2 < 2)) with hb0 | hb0
  ·
   rw [hb0] at F
   iterate 2 refine B8 F Aa Aa Aa Aa Aa Aa Aa fun a F => ?_
   refine ls F W Aa (As F Aa Aa Aa).q fun a w F W => ?_
   refine ls F W Aa (Ae F Aa).q fun a w F W => ?_
   iterate 2 refine B8 F Aa Aa Aa Aa Aa Aa Aa fun a F => ?_
   refine ls F W Aa (As F Aa Aa Aa).q fun a w F W => ?_
   refine Af (Ad ?_)
   exact ⟨F.re ⟨rfl, Aa, Aa, Aa, Aa, Aa, Aa, (Jd (by try rw [hb0]; all_goals simp only [Jb])), trivial⟩, W⟩
  rw [hb0] at F
  refine AB F W (Ah F Aa Aa Aa Aa) Aa (Ap Aa) (Ae F Aa).q fun a w F W => ?_
  refine AB F W (Ah F Aa Aa Aa Aa) Aa (Ap Aa) (CM F Aa Aa).q fun a w F W => ?_
  refine ls F W Aa (Al F Aa Aa Aa).q fun a w F W => ?_
  refine ls F W Aa (Ae F Aa).q fun a w F W => ?_
  rcases Bool.eq_false_or_eq_true (decide (p2 = 10)) with hb1 | hb1
  ·
   rw [hb1] at F
   iterate 2 refine B8 F Aa Aa Aa Aa Aa Aa Aa fun a F => ?_
   refine ls F W Aa (As F Aa Aa Aa).q fun a w F W => ?_
   refine Af (Ad ?_)
   exact ⟨F.re ⟨rfl, Aa, Aa, Aa, Aa, Aa, Aa, (Jd (by try rw [hb1]; try rw [hb0]; all_goals simp only [Jb])), trivial⟩, W⟩
  rw [hb1] at F
  refine AB F W (Ah F Aa Aa Aa Aa) Aa (Ap Aa) (Ae F Aa).q fun a w F W => ?_
  refine AB F W (Ah F Aa Aa Aa Aa) Aa (Ap Aa) (JL F Aa Aa).q fun a w F W => ?_
  refine ls F W Aa (Al F Aa Aa Aa).q fun a w F W => ?_
  refine Af (Ad ?_)
  exact ⟨F.re ⟨rfl, Aa, Aa, Aa, Aa, Aa, Aa, (Jd (by try rw [hb1]; try rw [hb0]; all_goals simp only [Jb])), trivial⟩, W⟩
 rintro a w ⟨F, W⟩
 refine AD F Aa (fun hb => ?_) fun hb => ?_
 ·
  have H := AW hb H
  rw [hb] at F
  clear hb
  refine Ac ?_
  refine ls F W Aa (CX I9 F Aa).q fun a w F W => ?_
  exact nomatch H
 have H := AV (by rw [hb]; decide) H
 rw [hb] at F
 clear hb
 refine Aw (Ad (Ak (Ac ?_)))
 refine Nt (r := (Rp.int .u8)) (l := (List.replicate 65 (0 : Int))) (cs := List.replicate 65 (Value.int .u8 0)) F W Aa PO Aa (fun w A => Jx .u8 65) Aa fun b1 a w F W => ?_
 have W : Stw ⟨Y, [], w0⟩ [] [row (Value.slice (some ⟨b1, 0, none⟩) 65 65) 116 (Rp.int .u8) (List.replicate 65 (0 : Int))] w := W
 refine Af (Ad (Ak (Ac ?_)))
 refine ls F W Aa (Ag F Aa).q fun a w F W => ?_
 refine Af (Ad ?_)
 obtain ⟨o1, G1, K1⟩ := An H
 refine AX (fun a w => ∃ x1 : Int, ∃ x2 : Bool, some ((x1, x2)) = some o1 ∧ Fr 102 [] [(0, v1), (1, .int .u64 x1), (2, .int .i64 p2), (3, .bool x2), (4, .bool p4), (10, .slice none 0 0), (11, .string (bs ([] : List UInt8))), (12, .pointer (some ⟨b1, 0, none⟩)), (13, .int .i64 65)] a ∧ Stw ⟨Y, [], w0⟩ [] [row (Value.slice (some ⟨b1, 0, none⟩) 65 65) 116 (Rp.int .u8) (List.replicate 65 (0 : Int))] w) ?_ ?_
 ·
  have H := G1
  clear G1 K1
  refine Ak (Ac ?_)
  refine ls F W Aa (Ae F Aa).q fun a w F W => ?_
  refine Af (Ad ?_)
  refine AD F Aa (fun hb => ?_) fun hb => ?_
  ·
   have H := AW hb H
   rw [hb] at F
   clear hb
   refine Ac ?_
   refine ls F W Aa (Ae F Aa).q fun a w F W => ?_
   refine ls F W Aa (Pc F Aa Aa).q fun a w F W => ?_
   refine ls F W Aa (Ag F Aa).q fun a w F W => ?_
   refine Af (Ad ?_)
   exact ⟨_, _, H, F.re ⟨rfl, Aa, Aa, Aa, Aa, Aa, Aa, Aa, Aa, trivial⟩, W⟩
  have H := AV (by rw [hb]; decide) H
  rw [hb] at F
  clear hb
  refine Aw (Ad ?_)
  exact ⟨_, _, H, F.re ⟨rfl, Aa, Aa, Aa, Aa, Aa, Aa, Aa, Aa, trivial⟩, W⟩
 rintro a w ⟨x1, x2, hj, F, W⟩
 have hj := Ba hj
 subst hj
 have H := K1
 clear G1 K1
 obtain ⟨o2, G2, K2⟩ := An H
 refine AX (fun a w => ∃ x3 : Int, ∃ x4 : List Int, some ((x3, x4)) = some o2 ∧ Fr 102 [] [(0, v1), (3, .bool x2), (4, .bool p4), (10, .slice none 0 0), (11, .string (bs ([] : List UInt8))), (12, .pointer (some ⟨b1, 0, none⟩)), (13, .int .i64 x3)] a ∧ Stw ⟨Y, [], w0⟩ [] [row (Value.slice (some ⟨b1, 0, none⟩) 65 65) 116 (Rp.int .u8) x4] w) ?_ ?_
 ·
  have H := G2
  clear G2 K2
  refine Ak (Ac ?_)
  refine ls F W Aa (Ae F Aa).q fun a w F W => ?_
  refine ls F W Aa (Bj (v := Value.bool (BP p2)) F QW Aa (fun w W => En any w p2 _ Aa)) fun a w F W => ?_
  refine Af (Ad ?_)
  refine AD F Aa (fun hb => ?_) fun hb => ?_
  ·
   have H := AW hb H
   rw [hb] at F
   clear hb
   refine Ak (Ac ?_)
   refine ls F W Aa (Ae F Aa).q fun a w F W => ?_
   refine ls F W Aa (EF Kk NU F Aa).q fun a w F W => ?_
   obtain ⟨x5, h1, H⟩ := An H
   refine ls F W Aa (Bj (v := Value.int .i64 x5) F Qx Aa (fun w W => PH any w (IntKind.u64.wrap p2) _ h1 (hG.go0 W))) fun a w F W => ?_
   refine ls F W Aa (EF Kk NU F Aa).q fun a w F W => ?_
   refine ls F W Aa (Ag F Aa).q fun a w F W => ?_
   refine Af (Ad (Ak (Ac ?_)))
   refine ls F W Aa (Ae F Aa).q fun a w F W => ?_
   refine ls F W Aa (EF Kk Mz F Aa).q fun a w F W => ?_
   refine ls F W Aa (Ag F Aa).q fun a w F W => ?_
   refine Af (Ad (Ak (Ac ?_)))
   refine ls F W Aa (Ae F Aa).q fun a w F W => ?_
   refine ls F W Aa (EF Kk NU F Aa).q fun a w F W => ?_
   refine ls F W Aa (FW F Aa Aa Aa).q fun a w F W => ?_
   refine ls F W Aa (Ag F Aa).q fun a w F W => ?_
   refine Af (Ad ?_)
   obtain ⟨o3, G3, K3⟩ := An H
   refine AX (fun a w => ∃ x6 : Int, ∃ x7 : Int, ∃ x8 : List Int, some ((x6, x7, x8)) = some o3 ∧ Fr 102 [] [(0, v1), (1, .int .u64 x6), (3, .bool x2), (4, .bool p4), (10, .slice none 0 0), (11, .string (bs ([] : List UInt8))), (12, .pointer (some ⟨b1, 0, none⟩)), (13, .int .i64 x7)] a ∧ Stw ⟨Y, [], w0⟩ [] [row (Value.slice (some ⟨b1, 0, none⟩) 65 65) 116 (Rp.int .u8) x8] w) ?_ ?_
   ·
    have H := G3
    clear G3 K3
    refine AC ?_
    refine B9 H (fun s a w => Fr 102 [] [(0, v1), (1, .int .u64 s.1), (3, .bool x2), (4, .bool p4), (10, .slice none 0 0), (11, .string (bs ([] : List UInt8))), (12, .pointer (some ⟨b1, 0, none⟩)), (13, .int .i64 s.2.1), (14, .int .u64 (IntKind.u64.wrap x5)), (15, .int .u64 (IntKind.u64.wrap p2)), (16, .int .u64 (IntKind.u64.wrap ((IntKind.u64.wrap p2) - 1)))] a ∧ Stw ⟨Y, [], w0⟩ [] [row (Value.slice (some ⟨b1, 0, none⟩) 65 65) 116 (Rp.int .u8) s.2.2] w) ⟨F.re ⟨rfl, Aa, Aa, Aa, Aa, Aa, Aa, Aa, Aa, Aa, Aa, trivial⟩, W⟩ fun s o a w H L4 hR => ?_
    obtain ⟨x9, x10, x11⟩ := s
    obtain ⟨F, W⟩ := hR
    have F : Fr 102 [] [(0, v1), (1, .int .u64 x9), (3, .bool x2), (4, .bool p4), (10, .slice none 0 0), (11, .string (bs ([] : List UInt8))), (12, .pointer (some ⟨b1, 0, none⟩)), (13, .int .i64 x10), (14, .int .u64 (IntKind.u64.wrap x5)), (15, .int .u64 (IntKind.u64.wrap p2)), (16, .int .u64 (IntKind.u64.wrap ((IntKind.u64.wrap p2) - 1)))] a := F
    have W : Stw ⟨Y, [], w0⟩ [] [row (Value.slice (some ⟨b1, 0, none⟩) 65 65) 116 (Rp.int .u8) x11] w := W
    rw [AN] at H
    refine Ak (Ak (Ac ?_))
    iterate 2 refine ls F W Aa (Ae F Aa).q fun a w F W => ?_
    refine ls F W Aa (GQ F Aa Aa).q fun a w F W => ?_
    refine Af (Ad ?_)
    refine AD F Aa (fun hb => ?_) fun hb => ?_
    ·
     have H := AW (BI hb) H
     rw [hb] at F
     clear hb
     refine Aw (Ad (AC (Ak (Ac ?_))))
     refine ls F W Aa (Ae F Aa).q fun a w F W => ?_
     refine ls F W Aa (FW F Aa Aa Aa).q fun a w F W => ?_
     refine ls F W Aa (Ag F Aa).q fun a w F W => ?_
     refine Af (Ad (Ak (Ac ?_)))
     iterate 3 refine ls F W Aa (Ae F Aa).q fun a w F W => ?_
     refine ls F W Aa (Oy F Aa Aa).q fun a w F W => ?_
     obtain ⟨x12, h2, H⟩ := An H
     refine ls F W Aa (Ch (l := ([48, 49, 50, 51, 52, 53, 54, 55, 56, 57, 97, 98, 99, 100, 101, 102, 103, 104, 105, 106, 107, 108, 109, 110, 111, 112, 113, 114, 115, 116, 117, 118, 119, 120, 121, 122] : List UInt8)) F4 F Aa Aa h2).q fun a w F W => ?_
     obtain ⟨x13, h3, H⟩ := An H
     refine ls F W Aa (Gv (0 + (CD (x10 - 1)).toNat * 1) JK F Aa Aa (C0 h3).1 (C0 h3).2 Aa).q fun a w F W => ?_
     refine Fe (i := CD (x10 - 1)) (j := 0) (vs := [.int .u8 (x12.toNat : Int)]) (x' := (x12.toNat : Int)) F W Aa Aa Aa (k := 0) Aa Aa (C0 h3).2 T5 Aa Aa Aa Aa (fun A cs _ => Fl.int.sto (by rfl) _ _ _) fun w W => ?_
     refine Af (Ad (Ac ?_))
     iterate 2 refine ls F W Aa (Ae F Aa).q fun a w F W => ?_
     obtain ⟨x14, h4, H⟩ := An H
     refine ls F W Aa (Oz (Hq h4).2 (Pm F Aa Aa (Hq h4).1)).q fun a w F W => ?_
     refine ls F W Aa (Ag F Aa).q fun a w F W => ?_
     refine Af (Bb (Ad ?_))
     exact ⟨_, H, F.re ⟨rfl, Aa, Aa, Aa, Aa, Aa, Aa, Aa, Aa, Aa, Aa, trivial⟩, W⟩
    have H := AV (BG hb) H
    rw [hb] at F
    clear hb
    refine BR ?_
    iterate 2 refine Cr ?_
    refine BQ (Ad ?_)
    have H := L4 _ H
    exact ⟨_, _, _, H, F.re ⟨rfl, Aa, Aa, Aa, Aa, Aa, Aa, Aa, trivial⟩, W⟩
   rintro a w ⟨x6, x7, x8, hj, F, W⟩
   have hj := Ba hj
   subst hj
   have H := K3
   clear G3 K3
   refine Ak (Ac ?_)
   refine ls F W Aa (Ae F Aa).q fun a w F W => ?_
   refine ls F W Aa (FW F Aa Aa Aa).q fun a w F W => ?_
   refine ls F W Aa (Ag F Aa).q fun a w F W => ?_
   refine Af (Ad (Ac ?_))
   iterate 2 refine ls F W Aa (Ae F Aa).q fun a w F W => ?_
   obtain ⟨x15, h5, H⟩ := An H
   refine ls F W Aa (Ch (l := ([48, 49, 50, 51, 52, 53, 54, 55, 56, 57, 97, 98, 99, 100, 101, 102, 103, 104, 105, 106, 107, 108, 109, 110, 111, 112, 113, 114, 115, 116, 117, 118, 119, 120, 121, 122] : List UInt8)) F4 F Aa Aa h5).q fun a w F W => ?_
   obtain ⟨x16, h6, H⟩ := An H
   refine ls F W Aa (Gv (0 + (CD (x7 - 1)).toNat * 1) JK F Aa Aa (C0 h6).1 (C0 h6).2 Aa).q fun a w F W => ?_
   refine Fe (i := CD (x7 - 1)) (j := 0) (vs := [.int .u8 (x15.toNat : Int)]) (x' := (x15.toNat : Int)) F W Aa Aa Aa (k := 0) Aa Aa (C0 h6).2 T5 Aa Aa Aa Aa (fun A cs _ => Fl.int.sto (by rfl) _ _ _) fun w W => ?_
   refine Af (Ad ?_)
   exact ⟨_, _, H, F.re ⟨rfl, Aa, Aa, Aa, Aa, Aa, Aa, trivial⟩, W⟩
  have H := AV (by rw [hb]; decide) H
  rw [hb] at F
  clear hb
  refine Ak (Ac ?_)
  refine ls F W Aa (Ae F Aa).q fun a w F W => ?_
  refine ls F W Aa (EF Kk Mz F Aa).q fun a w F W => ?_
  refine ls F W Aa (Ag F Aa).q fun a w F W => ?_
  refine Af (Ad ?_)
  obtain ⟨o5, G5, K5⟩ := An H
  refine AX (fun a w => ∃ x17 : Int, ∃ x18 : Int, ∃ x19 : List Int, some ((x17, x18, x19)) = some o5 ∧ Fr 102 [] [(0, v1), (1, .int .u64 x17), (3, .bool x2), (4, .bool p4), (10, .slice none 0 0), (11, .string (bs ([] : List UInt8))), (12, .pointer (some ⟨b1, 0, none⟩)), (13, .int .i64 x18)] a ∧ Stw ⟨Y, [], w0⟩ [] [row (Value.slice (some ⟨b1, 0, none⟩) 65 65) 116 (Rp.int .u8) x19] w) ?_ ?_
  ·
   have H := G5
   clear G5 K5
   refine AC ?_
   refine B9 H (fun s a w => Fr 102 [] [(0, v1), (1, .int .u64 s.1), (3, .bool x2), (4, .bool p4), (10, .slice none 0 0), (11, .string (bs ([] : List UInt8))), (12, .pointer (some ⟨b1, 0, none⟩)), (13, .int .i64 s.2.1), (17, .int .u64 (IntKind.u64.wrap p2))] a ∧ Stw ⟨Y, [], w0⟩ [] [row (Value.slice (some ⟨b1, 0, none⟩) 65 65) 116 (Rp.int .u8) s.2.2] w) ⟨F.re ⟨rfl, Aa, Aa, Aa, Aa, Aa, Aa, Aa, Aa, trivial⟩, W⟩ fun s o a w H L6 hR => ?_
   obtain ⟨x20, x21, x22⟩ := s
   obtain ⟨F, W⟩ := hR
   have F : Fr 102 [] [(0, v1), (1, .int .u64 x20), (3, .bool x2), (4, .bool p4), (10, .slice none 0 0), (11, .string (bs ([] : List UInt8))), (12, .pointer (some ⟨b1, 0, none⟩)), (13, .int .i64 x21), (17, .int .u64 (IntKind.u64.wrap p2))] a := F
   have W : Stw ⟨Y, [], w0⟩ [] [row (Value.slice (some ⟨b1, 0, none⟩) 65 65) 116 (Rp.int .u8) x22] w := W
   rw [Cf] at H
   refine Ak (Ak (Ac ?_))
   iterate 2 refine ls F W Aa (Ae F Aa).q fun a w F W => ?_
   refine ls F W Aa (GQ F Aa Aa).q fun a w F W => ?_
   refine Af (Ad ?_)
   refine AD F Aa (fun hb => ?_) fun hb => ?_
   ·
    have H := AW (BI hb) H
    rw [hb] at F
    clear hb
    refine Aw (Ad (AC (Ak (Ac ?_))))
    refine ls F W Aa (Ae F Aa).q fun a w F W => ?_
    refine ls F W Aa (FW F Aa Aa Aa).q fun a w F W => ?_
    refine ls F W Aa (Ag F Aa).q fun a w F W => ?_
    refine Af (Ad (Ak (Ac ?_)))
    iterate 2 refine ls F W Aa (Ae F Aa).q fun a w F W => ?_
    obtain ⟨x23, h7, H⟩ := An H
    refine ls F W Aa (Ok F Aa Aa (Hr h7).1 (Hr h7).2).q fun a w F W => ?_
    refine ls F W Aa (Ag F Aa).q fun a w F W => ?_
    refine Af (Ad (Ak (Ac ?_)))
    iterate 4 refine ls F W Aa (Ae F Aa).q fun a w F W => ?_
    refine ls F W Aa (Oi F Aa Aa Aa).q fun a w F W => ?_
    refine ls F W Aa (FW F Aa Aa Aa).q fun a w F W => ?_
    obtain ⟨x24, h8, H⟩ := An H
    refine ls F W Aa (Ch (l := ([48, 49, 50, 51, 52, 53, 54, 55, 56, 57, 97, 98, 99, 100, 101, 102, 103, 104, 105, 106, 107, 108, 109, 110, 111, 112, 113, 114, 115, 116, 117, 118, 119, 120, 121, 122] : List UInt8)) F4 F Aa Aa h8).q fun a w F W => ?_
    obtain ⟨x25, h9, H⟩ := An H
    refine ls F W Aa (Gv (0 + (CD (x21 - 1)).toNat * 1) JK F Aa Aa (C0 h9).1 (C0 h9).2 Aa).q fun a w F W => ?_
    refine Fe (i := CD (x21 - 1)) (j := 0) (vs := [.int .u8 (x24.toNat : Int)]) (x' := (x24.toNat : Int)) F W Aa Aa Aa (k := 0) Aa Aa (C0 h9).2 T5 Aa Aa Aa Aa (fun A cs _ => Fl.int.sto (by rfl) _ _ _) fun w W => ?_
    refine Af (Ad (Ac ?_))
    refine ls F W Aa (Ae F Aa).q fun a w F W => ?_
    refine ls F W Aa (Ag F Aa).q fun a w F W => ?_
    refine Af (Bb (Ad ?_))
    exact ⟨_, H, F.re ⟨rfl, Aa, Aa, Aa, Aa, Aa, Aa, Aa, Aa, trivial⟩, W⟩
   have H := AV (BG hb) H
   rw [hb] at F
   clear hb
   refine BR ?_
   iterate 2 refine Cr ?_
   refine BQ (Ad ?_)
   have H := L6 _ H
   exact ⟨_, _, _, H, F.re ⟨rfl, Aa, Aa, Aa, Aa, Aa, Aa, Aa, trivial⟩, W⟩
  rintro a w ⟨x17, x18, x19, hj, F, W⟩
  have hj := Ba hj
  subst hj
  have H := K5
  clear G5 K5
  refine Ak (Ac ?_)
  refine ls F W Aa (Ae F Aa).q fun a w F W => ?_
  refine ls F W Aa (FW F Aa Aa Aa).q fun a w F W => ?_
  refine ls F W Aa (Ag F Aa).q fun a w F W => ?_
  refine Af (Ad (Ac ?_))
  iterate 2 refine ls F W Aa (Ae F Aa).q fun a w F W => ?_
  obtain ⟨x26, h10, H⟩ := An H
  refine ls F W Aa (Ch (l := ([48, 49, 50, 51, 52, 53, 54, 55, 56, 57, 97, 98, 99, 100, 101, 102, 103, 104, 105, 106, 107, 108, 109, 110, 111, 112, 113, 114, 115, 116, 117, 118, 119, 120, 121, 122] : List UInt8)) F4 F Aa Aa h10).q fun a w F W => ?_
  obtain ⟨x27, h11, H⟩ := An H
  refine ls F W Aa (Gv (0 + (CD (x18 - 1)).toNat * 1) JK F Aa Aa (C0 h11).1 (C0 h11).2 Aa).q fun a w F W => ?_
  refine Fe (i := CD (x18 - 1)) (j := 0) (vs := [.int .u8 (x26.toNat : Int)]) (x' := (x26.toNat : Int)) F W Aa Aa Aa (k := 0) Aa Aa (C0 h11).2 T5 Aa Aa Aa Aa (fun A cs _ => Fl.int.sto (by rfl) _ _ _) fun w W => ?_
  refine Af (Ad ?_)
  exact ⟨_, _, H, F.re ⟨rfl, Aa, Aa, Aa, Aa, Aa, Aa, trivial⟩, W⟩
 rintro a w ⟨x3, x4, hj, F, W⟩
 have hj := Ba hj
 subst hj
 have H := K2
 clear G2 K2
 obtain ⟨o7, G7, K7⟩ := An H
 refine AX (fun a w => ∃ x28 : Int, ∃ x29 : List Int, some ((x28, x29)) = some o7 ∧ Fr 102 [] [(0, v1), (4, .bool p4), (10, .slice none 0 0), (11, .string (bs ([] : List UInt8))), (12, .pointer (some ⟨b1, 0, none⟩)), (13, .int .i64 x28)] a ∧ Stw ⟨Y, [], w0⟩ [] [row (Value.slice (some ⟨b1, 0, none⟩) 65 65) 116 (Rp.int .u8) x29] w) ?_ ?_
 ·
  have H := G7
  clear G7 K7
  refine Ak (Ac ?_)
  refine ls F W Aa (Ae F Aa).q fun a w F W => ?_
  refine Af (Ad ?_)
  refine AD F Aa (fun hb => ?_) fun hb => ?_
  ·
   have H := AW hb H
   rw [hb] at F
   clear hb
   refine Ak (Ac ?_)
   refine ls F W Aa (Ae F Aa).q fun a w F W => ?_
   refine ls F W Aa (FW F Aa Aa Aa).q fun a w F W => ?_
   refine ls F W Aa (Ag F Aa).q fun a w F W => ?_
   refine Af (Ad (Ac ?_))
   refine ls F W Aa (Ae F Aa).q fun a w F W => ?_
   obtain ⟨x30, h12, H⟩ := An H
   refine ls F W Aa (Gv (0 + (CD (x3 - 1)).toNat * 1) JK F Aa Aa (C0 h12).1 (C0 h12).2 Aa).q fun a w F W => ?_
   refine Fe (i := CD (x3 - 1)) (j := 0) (vs := [.int .u8 45]) (x' := 45) F W Aa Aa Aa (k := 0) Aa Aa (C0 h12).2 T5 Aa Aa Aa Aa (fun A cs _ => Fl.int.sto (by rfl) _ _ _) fun w W => ?_
   refine Af (Ad ?_)
   exact ⟨_, _, H, F.re ⟨rfl, Aa, Aa, Aa, Aa, Aa, trivial⟩, W⟩
  have H := AV (by rw [hb]; decide) H
  rw [hb] at F
  clear hb
  refine Aw (Ad ?_)
  exact ⟨_, _, H, F.re ⟨rfl, Aa, Aa, Aa, Aa, Aa, trivial⟩, W⟩
 rintro a w ⟨x28, x29, hj, F, W⟩
 have hj := Ba hj
 subst hj
 have H := K7
 clear G7 K7
 refine Ak (Ak (Ac ?_))
 refine ls F W Aa (Ae F Aa).q fun a w F W => ?_
 refine Af (Ad ?_)
 refine AD F Aa (fun hb => ?_) fun hb => ?_
 ·
  have H := AW hb H
  rw [hb] at F
  clear hb
  exact nomatch H
 have H := AV (by rw [hb]; decide) H
 rw [hb] at F
 clear hb
 refine Aw (Ad (Ak (Ac ?_)))
 refine ls F W Aa (Ae F Aa).q fun a w F W => ?_
 obtain ⟨x31, h13, H⟩ := An H
 refine ls F W Aa (Mh JK F Aa Aa (EA (HC h13).2).1 (EA (HC h13).2).2.1).q fun a w F W => ?_
 refine ls F W Aa (NK (ns := x31) NN PB F4 F Aa (NS (A3 0 Aa) (HC h13).2)).q fun a w F W => ?_
 refine ls F W Aa (Ag F Aa).q fun a w F W => ?_
 refine Af (Ad (AP ?_))
 have H := Ba H
 subst H
 refine Gf (.inl Aa) F W Aa (AG F Aa) (AG F Aa) ?_
 have W := W.nilRow 5 (Rp.int .u8)
 have W := W.sub (M' := []) (Z' := [row (Value.slice none 0 0) 5 (Rp.int .u8) ([])]) (List.Sublist.refl _) (List.Sublist.cons_cons _ (List.nil_sublist _))
 exact ⟨(Value.slice none 0 0), Aa, W⟩
theorem QZ : Has Tryd.prog 59 := ⟨fun args w => Am Tryd.func59 rfl (by decide) args w⟩
noncomputable def BD (p0 : Int) (p1 : Int) : Option (List UInt8) := (if p1 = 10 then none else (BE ([] : List Int) p0 p1 false false).bind fun x1 => some x1.2)
theorem EI (Y : Nat → Prop) (w0 : World)  (p0 : Int) (p1 : Int) (r : List UInt8) (H : BD p0 p1 = some r) (hG : Gk [] w0) :
    Calls Tryd.prog 45 #[.int .u64 p0, .int .i64 p1] w0 fun e w' => e = .returned (.string (bs r)) ∧ Below w0.heap.size w0 w' := by
 refine enter Tryd.func45 Aa Tryd.ntmps45 Aa fun a F => ?_
 have W := Stw.start Y w0
 unfold BD at H
 refine Ak (Ac ?_)
 refine ls F W Aa (Ag (v := Value.string (bs ([] : List UInt8))) F Aa).q fun a w F W => ?_
 refine Af (Ad (Ak (Ak (Ac ?_))))
 refine ls F W Aa (Ae F Aa).q fun a w F W => ?_
 refine ls F W Aa (CM F Aa Aa).q fun a w F W => ?_
 refine Af (Ad ?_)
 refine AD F Aa (fun hb => ?_) fun hb => ?_
 ·
  have H := AW (BI hb) H
  rw [hb] at F
  clear hb
  exact nomatch H
 have H := AV (BG hb) H
 rw [hb] at F
 clear hb
 refine Aw (Ad (Ak (Ac ?_)))
 iterate 2 refine ls F W Aa (Ae F Aa).q fun a w F W => ?_
 obtain ⟨x1, h1, H⟩ := An H
 refine AO (Ml := []) (Zl := []) (M := []) (Z := []) (β := Value) (rv := fun x => .tuple #[x, .string (bs x1.2)]) (MM := fun x => []) (ZZ := fun x => [row x 5 (Rp.int .u8) x1.1]) F W QZ Aa Aa (fun hL => EK _ w (Value.slice none 0 0) ([] : List Int) p0 p1 false false _ h1 Sl.nil (hG.go0 W)) fun x a w F W => ?_
 obtain ⟨v1, rfl⟩ : ∃ y, y = x := ⟨x, rfl⟩
 have W : Stw ⟨Y, [], w0⟩ [] [row v1 5 (Rp.int .u8) x1.1] w := W
 refine ls F W Aa (Ae F Aa).q fun a w F W => ?_
 refine ls F W Aa (AU (v := v1) F Aa Aa).q fun a w F W => ?_
 refine ls F W Aa (AU (v := Value.string (bs x1.2)) F Aa Aa).q fun a w F W => ?_
 iterate 2 refine ls F W Aa (Ag F Aa).q fun a w F W => ?_
 refine Af (Ad (Ak (Ac ?_)))
 refine ls F W Aa (Ae F Aa).q fun a w F W => ?_
 refine ls F W Aa (Ag F Aa).q fun a w F W => ?_
 refine Af (Ad (AP ?_))
 have H := Ba H
 subst H
 refine BM (.inl Aa) F W Aa (AG F Aa) ?_
 exact ⟨rfl, W.done⟩
theorem QP : Has Tryd.prog 45 := ⟨fun args w => Am Tryd.func45 rfl (by decide) args w⟩
noncomputable def Cb (p0 : Int) (p1 : Int) : Option (List UInt8) := (BD p0 p1).bind fun x1 => some x1
theorem Gu (Y : Nat → Prop) (w0 : World)  (p0 : Int) (p1 : Int) (r : List UInt8) (H : Cb p0 p1 = some r) (hG : Gk [] w0) :
    Calls Tryd.prog 34 #[.int .u64 p0, .int .i64 p1] w0 fun e w' => e = .returned (.string (bs r)) ∧ Below w0.heap.size w0 w' := by
 refine enter Tryd.func34 Aa Tryd.ntmps34 Aa fun a F => ?_
 have W := Stw.start Y w0
 unfold Cb at H
 refine Ak (Ac ?_)
 refine ls F W Aa (Ag (v := Value.string (bs ([] : List UInt8))) F Aa).q fun a w F W => ?_
 refine Af (Ad (Ak (Ac ?_)))
 iterate 2 refine ls F W Aa (Ae F Aa).q fun a w F W => ?_
 obtain ⟨x1, h1, H⟩ := An H
 refine ls F W Aa (Bj (v := Value.string (bs x1)) F QP Aa (fun w W => EI any w p0 p1 _ h1 (hG.go0 W))) fun a w F W => ?_
 refine ls F W Aa (Ag F Aa).q fun a w F W => ?_
 refine Af (Ad (AP ?_))
 have H := Ba H
 subst H
 refine BM (.inl Aa) F W Aa (AG F Aa) ?_
 exact ⟨rfl, W.done⟩
theorem Q1 : Has Tryd.prog 34 := ⟨fun args w => Am Tryd.func34 rfl (by decide) args w⟩
theorem Q3 : Has Tryd.prog 35 := ⟨fun args w => Am Tryd.func35 rfl (by decide) args w⟩
noncomputable def D3 (p0 : Int) : Option (List UInt8) := (Cb p0 16).bind fun x1 => (GD ([48] : List UInt8) (CD (16 - (x1.length : Int)))).bind fun x2 => (DP x2 x1).bind fun x3 => some x3
theorem HN (Y : Nat → Prop) (w0 : World)  (p0 : Int) (r : List UInt8) (H : D3 p0 = some r) (hG : Gk [] w0) :
    Calls Tryd.prog 15 #[.int .u64 p0] w0 fun e w' => e = .returned (.string (bs r)) ∧ Below w0.heap.size w0 w' := by
 refine enter Tryd.func15 Aa Tryd.ntmps15 Aa fun a F => ?_
 have W := Stw.start Y w0
 unfold D3 at H
 refine Ak (Ac ?_)
 refine ls F W Aa (Ag (v := Value.string (bs ([] : List UInt8))) F Aa).q fun a w F W => ?_
 refine Af (Ad (Ak (Ac ?_)))
 refine ls F W Aa (Ae F Aa).q fun a w F W => ?_
 obtain ⟨x1, h1, H⟩ := An H
 refine ls F W Aa (Bj (v := Value.string (bs x1)) F Q1 Aa (fun w W => Gu any w p0 16 _ h1 (hG.go0 W))) fun a w F W => ?_
 refine ls F W Aa (Ag F Aa).q fun a w F W => ?_
 refine Af (Ad (Ak (Ac ?_)))
 refine ls F W Aa (Ae F Aa).q fun a w F W => ?_
 refine ls F W Aa (FJ (l := x1) F4 Aa F Aa).q fun a w F W => ?_
 refine ls F W Aa (FW F Aa Aa Aa).q fun a w F W => ?_
 obtain ⟨x2, h2, H⟩ := An H
 refine ls F W Aa (Bj (v := Value.string (bs x2)) F Q3 Aa (fun w W => Nj any w ([48] : List UInt8) (CD (16 - (x1.length : Int))) _ h2 (hG.go0 W))) fun a w F W => ?_
 refine ls F W Aa (Ae F Aa).q fun a w F W => ?_
 obtain ⟨x3, h3, H⟩ := An H
 refine ls F W Aa (ID (l := x2) (m := x1) F Aa Aa h3).q fun a w F W => ?_
 refine ls F W Aa (Ag F Aa).q fun a w F W => ?_
 refine Af (Ad (AP ?_))
 have H := Ba H
 subst H
 refine BM (.inl Aa) F W Aa (AG F Aa) ?_
 exact ⟨rfl, W.done⟩
end Go.Proofs.YthmkgdnnocemmaaDoor
