/- The functions of layer 19, Gn. Conditions: none. -/
import Derived.Test.YtbogijdfacoccaaRows
import Derived.Test.YtbogijdfacoccaaeOF
import Derived.Test.YtbogijdfacoccaaeOT
import Derived.Test.YtbogijdfacoccaaeQT
import Derived.Test.YtbogijdfacoccaaeOD
import Derived.Test.YtbogijdfacoccaaeRF
import Derived.Test.YtbogijdfacoccaaeDR
import Derived.Test.YtbogijdfacoccaaeOC
import Derived.Test.YtbogijdfacoccaaeOM
import Derived.Test.YtbogijdfacoccaaeRF
import Derived.Test.YtbogijdfacoccaaeDR
import Derived.Test.YtbogijdfacoccaaeOX
namespace Go.Proofs.Ytbogijdfacoccaa
open Go Go.RowKit
set_option linter.unusedVariables false
set_option linter.unusedSimpArgs false
set_option maxRecDepth 20000
theorem Jj : type_of% Try.underlying22 := Try.underlying22
theorem JU : type_of% Try.underlying23 := Try.underlying23
theorem Cw : type_of% Try.underlying25 := Try.underlying25
theorem IW : type_of% Try.underlying26 := Try.underlying26
abbrev Ff : Rp (Int × Int × Int × Int × Int × Int) := (Rp.pair (Rp.int .i64) (Rp.pair (Rp.int .i64) (Rp.pair (Rp.int .i64) (Rp.pair (Rp.int .i64) (Rp.pair (Rp.int .i64) (Rp.int .i64))))))
abbrev Fa : Rp (Int × Int) := (Rp.pair (Rp.int .i64) (Rp.int .i64))
theorem GC : Ty Try.prog 25 true 3 := ⟨by kernel_rfl, by kernel_rfl⟩
theorem IC : Ty Try.prog 22 false 1 := ⟨by kernel_rfl, by kernel_rfl⟩
theorem GF : Ty Try.prog 23 false 1 := ⟨by kernel_rfl, by kernel_rfl⟩
def Fv (p0 : Int × (List (Int × Int × Int × Int × Int × Int)) × (List (Int × Int))) (p1 : List Int) : Bool := (decide ((p0.2.1.length : Int) ≤ 30) && (decide ((p0.2.2.length : Int) ≤ 12) && decide ((p1.length : Int) ≤ 30)))
theorem Mg (Y : Nat → Prop) (w0 : World) (v1 : Value) (v2 : Value) (v3 : Value) (p0 : Int × (List (Int × Int × Int × Int × Int × Int)) × (List (Int × Int))) (p1 : List Int) (r : Bool) (H : Fv p0 p1 = r) (h_v1 : Sl w0 (NX []) Ff v1 p0.2.1) (h_v2 : Sl w0 (NX []) Fa v2 p0.2.2) (h_v3 : Sl w0 (NX []) (Rp.int .u64) v3 p1) :
    Calls Try.prog 7 #[.agg #[.int .i64 p0.1, v1, v2], v3] w0 fun e w' => e = .returned (.bool r) ∧ Below w0.heap.size w0 w' := by
 refine enter Try.func7 Aa Try.ntmps7 Aa fun a F => ?_
 have W := Stw.start Y w0
 unfold Fv at H
 refine Ah (Ab ?_)
 refine DO (cs := [.int .i64 p0.1, v1, v2]) F W Aa Aa Aa fun b1 a w F W => ?_
 refine ls F W Aa (Ad F Aa).q fun a w F W => ?_
 refine Ae (Ac ?_)
 refine AE (fun a w => Fr 20 [] [(4, .bool (decide ((p0.2.1.length : Int) ≤ 30) && (decide ((p0.2.2.length : Int) ≤ 12) && decide ((p1.length : Int) ≤ 30))))] a ∧ Stw ⟨Y, [], w0⟩ [(b1, [.int .i64 p0.1, v1, v2])] [] w) ?_ ?_
 ·
  refine Ab ?_
  refine ls F W Aa (Ai Cw Aa Aa Aa IC F Aa 1 Aa).q fun a w F W => ?_
  refine ls F W Aa (Ap (v := v1) 0 F Aa Aa IC Aa).q fun a w F W => ?_
  refine ls F W Aa (Bm (r := Ff) (l := p0.2.1) Jj Aa F Aa (Ak h_v1)).q fun a w F W => ?_
  refine ls F W Aa (J0 F Aa Aa).q fun a w F W => ?_
  refine ls F W Aa (Af F Aa).q fun a w F W => ?_
  rcases Bool.eq_false_or_eq_true (decide ((p0.2.1.length : Int) ≤ 30)) with hb0 | hb0
  ·
   rw [hb0] at F
   refine AG F W (Ag F Aa Aa Aa Aa) Aa (Am Aa) (Ai Cw Aa Aa Aa GF F Aa 2 Aa).q fun a w F W => ?_
   refine AG F W (Ag F Aa Aa Aa Aa) Aa (Am Aa) (Ap (v := v2) 0 F Aa Aa GF Aa).q fun a w F W => ?_
   refine AG F W (Ag F Aa Aa Aa Aa) Aa (Am Aa) (Bm (r := Fa) (l := p0.2.2) JU Aa F Aa (Ak h_v2)).q fun a w F W => ?_
   refine AG F W (Ag F Aa Aa Aa Aa) Aa (Am Aa) (J0 F Aa Aa).q fun a w F W => ?_
   refine ls F W Aa (Aw F Aa Aa Aa).q fun a w F W => ?_
   refine ls F W Aa (Af F Aa).q fun a w F W => ?_
   rcases Bool.eq_false_or_eq_true (decide ((p0.2.2.length : Int) ≤ 12)) with hb1 | hb1
   ·
    rw [hb1] at F
    refine AG F W (Ag F Aa Aa Aa Aa) Aa (Am Aa) (Af F Aa).q fun a w F W => ?_
    refine AG F W (Ag F Aa Aa Aa Aa) Aa (Am Aa) (Bm (r := (Rp.int .u64)) (l := p1) IW Aa F Aa (Ak h_v3)).q fun a w F W => ?_
    refine AG F W (Ag F Aa Aa Aa Aa) Aa (Am Aa) (J0 F Aa Aa).q fun a w F W => ?_
    refine ls F W Aa (Aw F Aa Aa Aa).q fun a w F W => ?_
    refine ls F W Aa (Ad F Aa).q fun a w F W => ?_
    refine Ae (Ac ?_)
    exact ⟨F.re ⟨(by show some (Value.bool (decide ((p1.length : Int) ≤ 30))) = some (Value.bool (decide ((p0.2.1.length : Int) ≤ 30) && (decide ((p0.2.2.length : Int) ≤ 12) && decide ((p1.length : Int) ≤ 30)))); try rw [hb0]; try rw [hb1]; all_goals simp only [Bool.not_true, Bool.not_false, Bool.true_and, Bool.false_and, Bool.true_or, Bool.false_or, Bool.and_true, Bool.or_false, cond_true, cond_false]), trivial⟩, W⟩
   rw [hb1] at F
   iterate 3 refine CL F Aa Aa Aa Aa Aa Aa Aa fun a F => ?_
   refine ls F W Aa (Ay F Aa Aa Aa).q fun a w F W => ?_
   refine ls F W Aa (Ad F Aa).q fun a w F W => ?_
   refine Ae (Ac ?_)
   exact ⟨F.re ⟨(by show some (Value.bool false) = some (Value.bool (decide ((p0.2.1.length : Int) ≤ 30) && (decide ((p0.2.2.length : Int) ≤ 12) && decide ((p1.length : Int) ≤ 30)))); try rw [hb0]; try rw [hb1]; all_goals simp only [Bool.not_true, Bool.not_false, Bool.true_and, Bool.false_and, Bool.true_or, Bool.false_or, Bool.and_true, Bool.or_false, cond_true, cond_false]), trivial⟩, W⟩
  rw [hb0] at F
  iterate 4 refine CL F Aa Aa Aa Aa Aa Aa Aa fun a F => ?_
  refine ls F W Aa (Ay F Aa Aa Aa).q fun a w F W => ?_
  refine ls F W Aa (Af F Aa).q fun a w F W => ?_
  iterate 3 refine CL F Aa Aa Aa Aa Aa Aa Aa fun a F => ?_
  refine ls F W Aa (Ay F Aa Aa Aa).q fun a w F W => ?_
  refine ls F W Aa (Ad F Aa).q fun a w F W => ?_
  refine Ae (Ac ?_)
  exact ⟨F.re ⟨(by show some (Value.bool false) = some (Value.bool (decide ((p0.2.1.length : Int) ≤ 30) && (decide ((p0.2.2.length : Int) ≤ 12) && decide ((p1.length : Int) ≤ 30)))); try rw [hb0]; all_goals simp only [Bool.not_true, Bool.not_false, Bool.true_and, Bool.false_and, Bool.true_or, Bool.false_or, Bool.and_true, Bool.or_false, cond_true, cond_false]), trivial⟩, W⟩
 rintro a w ⟨F, W⟩
 refine Ax ?_
 subst H
 refine AQ (.inl Aa) F W Aa (Au F Aa) ?_
 exact ⟨rfl, W.done⟩
theorem KX : type_of% Try.underlying29 := Try.underlying29
theorem JP : type_of% Try.underlying52 := Try.underlying52
theorem Dh : type_of% Try.underlying62 := Try.underlying62
theorem LZ : type_of% Try.underlying86 := Try.underlying86
theorem Qw : type_of% Try.underlying105 := Try.underlying105
theorem H7 : Has Try.prog 7 := ⟨fun args w => Aj Try.func7 rfl (by decide) args w⟩
theorem RO : Bt Try.prog 62 [.int .i64 0, .int .i64 0, .int .i64 0, .int .i64 0, .int .i64 0, .int .i64 0] [(0, 1), (1, 1), (2, 1), (3, 1), (4, 1), (5, 1)] := ⟨⟨.agg #[.int .i64 0, .int .i64 0, .int .i64 0, .int .i64 0, .int .i64 0, .int .i64 0], by kernel_rfl, rfl⟩, ⟨_, Dh, fun w => by kernel_rfl⟩⟩
theorem Rb : (Try.prog.info? 62).bind (·.zero) = some (.agg #[.int .i64 0, .int .i64 0, .int .i64 0, .int .i64 0, .int .i64 0, .int .i64 0]) := by kernel_rfl
def TC (a : Int × Int × Int × Int × Int × Int) : List Value := [.int .i64 a.1, .int .i64 a.2.1, .int .i64 a.2.2.1, .int .i64 a.2.2.2.1, .int .i64 a.2.2.2.2.1, .int .i64 a.2.2.2.2.2]
theorem QP : Fl Ff TC := (Fl.pair Fl.int (Fl.pair Fl.int (Fl.pair Fl.int (Fl.pair Fl.int (Fl.pair Fl.int Fl.int)))))
theorem QE : Et Try.prog 22 62 6 48 := Et.of Jj (by kernel_rfl) (by kernel_rfl) (by kernel_rfl) (by decide)
theorem Tz : Bt Try.prog 52 [.int .i64 0, .int .i64 0] [(0, 1), (1, 1)] := ⟨⟨.agg #[.int .i64 0, .int .i64 0], by kernel_rfl, rfl⟩, ⟨_, JP, fun w => by kernel_rfl⟩⟩
theorem SI : (Try.prog.info? 52).bind (·.zero) = some (.agg #[.int .i64 0, .int .i64 0]) := by kernel_rfl
def Tk (a : Int × Int) : List Value := [.int .i64 a.1, .int .i64 a.2]
theorem PW : Fl Fa Tk := (Fl.pair Fl.int Fl.int)
theorem PU : Et Try.prog 23 52 2 16 := Et.of JU (by kernel_rfl) (by kernel_rfl) (by kernel_rfl) (by decide)
theorem TE : Bt Try.prog 25 [.int .i64 0, .slice none 0 0, .slice none 0 0] [(0, 1), (1, 1), (2, 1)] := ⟨⟨.agg #[.int .i64 0, .slice none 0 0, .slice none 0 0], by kernel_rfl, rfl⟩, ⟨_, Cw, fun w => by kernel_rfl⟩⟩
theorem TF : (Try.prog.info? 25).bind (·.zero) = some (.agg #[.int .i64 0, .slice none 0 0, .slice none 0 0]) := by kernel_rfl
theorem Re : (Try.prog.info? 56).bind (·.zero) = some (.float .f64 0) := by kernel_rfl
theorem Jm : Et Try.prog 29 56 1 8 := Et.of KX (by kernel_rfl) (by kernel_rfl) (by kernel_rfl) (by decide)
theorem T3 : Ty Try.prog 3 false 1 := ⟨by kernel_rfl, by kernel_rfl⟩
abbrev Ic (x : Int × Int) : Value := .agg #[.int .i64 x.1, .int .i64 x.2]
abbrev F2 (x : Unit) : Value := .agg #[]
theorem PN : Ty Try.prog 62 true 6 := ⟨by kernel_rfl, by kernel_rfl⟩
theorem RP : Bt Try.prog 86 [.int .i64 0, .int .i64 0] [(0, 1), (1, 1)] := ⟨⟨.agg #[.int .i64 0, .int .i64 0], by kernel_rfl, rfl⟩, ⟨_, LZ, fun w => by kernel_rfl⟩⟩
theorem RY : (Try.prog.info? 86).bind (·.zero) = some (.agg #[.int .i64 0, .int .i64 0]) := by kernel_rfl
abbrev Ir : Rp (Int × Int) := (Rp.pair (Rp.int .i64) (Rp.int .i64))
def SZ (a : Int × Int) : List Value := [.int .i64 a.1, .int .i64 a.2]
theorem RL : Fl Ir SZ := (Fl.pair Fl.int Fl.int)
theorem Ps : Et Try.prog 105 86 2 16 := Et.of Qw (by kernel_rfl) (by kernel_rfl) (by kernel_rfl) (by decide)
theorem Ss : Ty Try.prog 52 true 2 := ⟨by kernel_rfl, by kernel_rfl⟩
noncomputable def Cm (p0 : Int × (List (Int × Int × Int × Int × Int × Int)) × (List (Int × Int))) : ((List (Int × Int)) × Int) → Option (((List (Int × Int)) × Int) ⊕ (List (Int × Int)))
  | (x2, x3) => (if x3 < (p0.2.1.length : Int) then (ix p0.2.1 x3).bind fun x4 => (Hz x2 ([(x4.1, x4.2.1), (x4.2.2.1, x4.2.2.2.1)] : List (Int × Int))).bind fun x5 => some (.inl (x5, BI (x3 + 1))) else some (.inr x2))
noncomputable def Ci (p0 : Int × (List (Int × Int × Int × Int × Int × Int)) × (List (Int × Int))) : ((List (Int × Int)) × Int) → Option (((List (Int × Int)) × Int) ⊕ (List (Int × Int)))
  | (x7, x8) => (if x8 < (p0.2.2.length : Int) then (ix p0.2.2 x8).bind fun x9 => (Hz x7 ([x9] : List (Int × Int))).bind fun x10 => some (.inl (x10, BI (x8 + 1))) else some (.inr x7))
noncomputable def DE (p0 : Int × (List (Int × Int × Int × Int × Int × Int)) × (List (Int × Int))) : Option (List (Int × Int)) := (AH (Cm p0) ([], 0)).bind fun x1 => (AH (Ci p0) (x1, 0)).bind fun x6 => some x6
theorem Kr (Y : Nat → Prop) (w0 : World) (v1 : Value) (v2 : Value) (p0 : Int × (List (Int × Int × Int × Int × Int × Int)) × (List (Int × Int))) (r : (List (Int × Int))) (H : DE p0 = some r) (h_v1 : Sl w0 (NX []) Ff v1 p0.2.1) (h_v2 : Sl w0 (NX []) Fa v2 p0.2.2) :
    Calls Try.prog 63 #[.agg #[.int .i64 p0.1, v1, v2]] w0 fun e w' => ∃ x : Value, e = .returned (x) ∧ Stw ⟨Y, [], w0⟩ [] [row (x) 86 Ir r] w' := by
 refine enter Try.func63 Aa Try.ntmps63 Aa fun a F => ?_
 have W := Stw.start Y w0
 unfold DE at H
 refine Ah (Ab ?_)
 refine DO (cs := [.int .i64 p0.1, v1, v2]) F W Aa Aa Aa fun b1 a w F W => ?_
 refine ls F W Aa (Ad F Aa).q fun a w F W => ?_
 refine Ae (Ac (Ah (Ab ?_)))
 refine ls F W Aa (Ad F Aa).q fun a w F W => ?_
 refine Ae (Ac ?_)
 obtain ⟨o1, G1, K1⟩ := Al H
 refine AE (fun a w => ∃ x1 : List (Int × Int), ∃ v3 : Value, some (x1) = some o1 ∧ Fr 46 [] [(1, .pointer (some ⟨b1, 0, none⟩)), (2, .slice none 0 0), (3, v3)] a ∧ Stw ⟨Y, [], w0⟩ [(b1, [.int .i64 p0.1, v1, v2])] [row v3 86 Ir x1] w) ?_ ?_
 ·
  have H := G1
  clear G1 K1
  refine Ah (Ab ?_)
  refine ls F W Aa (Ai Cw Aa Aa Aa IC F Aa 1 Aa).q fun a w F W => ?_
  refine ls F W Aa (Ap (v := v1) 0 F Aa Aa IC Aa).q fun a w F W => ?_
  refine ls F W Aa (Bm (r := Ff) (l := p0.2.1) Jj Aa F Aa (Ak h_v1)).q fun a w F W => ?_
  refine ls F W Aa (Af F Aa).q fun a w F W => ?_
  refine Ae (Ac (Aq ?_))
  have W := W.nilRow 86 Ir
  refine A4 H (fun s a w => ∃ v4 : Value, Fr 46 [] [(1, .pointer (some ⟨b1, 0, none⟩)), (2, .slice none 0 0), (3, v4), (9, v1), (10, .int .i64 (p0.2.1.length : Int)), (11, .int .i64 s.2)] a ∧ Stw ⟨Y, [], w0⟩ [(b1, [.int .i64 p0.1, v1, v2])] [row v4 86 Ir s.1] w) ⟨(Value.slice none 0 0), F.re ⟨rfl, Aa, Aa, Aa, Aa, Aa, trivial⟩, W⟩ fun s o a w H L2 hR => ?_
  obtain ⟨x2, x3⟩ := s
  obtain ⟨v4, F, W⟩ := hR
  have F : Fr 46 [] [(1, .pointer (some ⟨b1, 0, none⟩)), (2, .slice none 0 0), (3, v4), (9, v1), (10, .int .i64 (p0.2.1.length : Int)), (11, .int .i64 x3)] a := F
  have W : Stw ⟨Y, [], w0⟩ [(b1, [.int .i64 p0.1, v1, v2])] [row v4 86 Ir x2] w := W
  rw [Cm] at H
  refine Ah (Ab ?_)
  refine ls F W Aa (Bb F Aa Aa).q fun a w F W => ?_
  refine Ae (Ac (Ah ?_))
  refine Av F Aa (fun hb => ?_) fun hb => ?_
  ·
   have H := AN (Bd hb) H
   rw [hb] at F
   clear hb
   refine Ao (Ac (Ah (Aq (Ah (Ab ?_)))))
   obtain ⟨x4, h1, H⟩ := Al H
   refine ls F W Aa (AC (r := Ff) QE F Aa Aa (Ak h_v1) h1).q fun a w F W => ?_
   refine ls F W Aa (As (y := Value.agg #[.int .i64 x4.1, .int .i64 x4.2.1, .int .i64 x4.2.2.1, .int .i64 x4.2.2.2.1, .int .i64 x4.2.2.2.2.1, .int .i64 x4.2.2.2.2.2]) (j := 0) (i := x3) F Aa Aa (Ak h_v1) h1 QP.to PN Aa).q fun a w F W => ?_
   refine C6 (cs := [.int .i64 0, .int .i64 0, .int .i64 0, .int .i64 0, .int .i64 0, .int .i64 0]) F W Aa Rb Aa fun b2 a w F W => ?_
   refine D6 (vs := [.int .i64 x4.1, .int .i64 x4.2.1, .int .i64 x4.2.2.1, .int .i64 x4.2.2.2.1, .int .i64 x4.2.2.2.2.1, .int .i64 x4.2.2.2.2.2]) (M' := [(b2, [.int .i64 x4.1, .int .i64 x4.2.1, .int .i64 x4.2.2.1, .int .i64 x4.2.2.2.1, .int .i64 x4.2.2.2.2.1, .int .i64 x4.2.2.2.2.2]), (b1, [.int .i64 p0.1, v1, v2])]) 0 F W Aa Aa Aa PN Aa Aa Aa Aa Aa fun w W => ?_
   refine Ae (Ac (Ab ?_))
   refine ls F W Aa (Af F Aa).q fun a w F W => ?_
   refine ls F W Aa (Ai Dh Aa Aa Aa T3 F Aa 0 Aa).q fun a w F W => ?_
   refine ls F W Aa (Ap (v := Value.int .i64 x4.1) 0 F Aa Aa T3 Aa).q fun a w F W => ?_
   refine ls F W Aa (Ai Dh Aa Aa Aa T3 F Aa 1 Aa).q fun a w F W => ?_
   refine ls F W Aa (Ap (v := Value.int .i64 x4.2.1) 0 F Aa Aa T3 Aa).q fun a w F W => ?_
   refine ls F W Aa (Ei (v := Value.agg #[.int .i64 x4.1, .int .i64 x4.2.1]) RP F Aa Aa Aa).q fun a w F W => ?_
   refine ls F W Aa (Ai Dh Aa Aa Aa T3 F Aa 2 Aa).q fun a w F W => ?_
   refine ls F W Aa (Ap (v := Value.int .i64 x4.2.2.1) 0 F Aa Aa T3 Aa).q fun a w F W => ?_
   refine ls F W Aa (Ai Dh Aa Aa Aa T3 F Aa 3 Aa).q fun a w F W => ?_
   refine ls F W Aa (Ap (v := Value.int .i64 x4.2.2.2.1) 0 F Aa Aa T3 Aa).q fun a w F W => ?_
   refine ls F W Aa (Ei (v := Value.agg #[.int .i64 x4.2.2.1, .int .i64 x4.2.2.2.1]) RP F Aa Aa Aa).q fun a w F W => ?_
   refine Dq (z := Value.agg #[.int .i64 0, .int .i64 0]) (cs := [.int .i64 x4.1, .int .i64 x4.2.1, .int .i64 x4.2.2.1, .int .i64 x4.2.2.2.1]) Ir ([(x4.1, x4.2.1), (x4.2.2.1, x4.2.2.2.1)] : List (Int × Int)) F W Aa Ps RY Aa Aa Aa Aa Aa Aa (RL.repL _ _ ([(x4.1, x4.2.1), (x4.2.2.1, x4.2.2.2.1)] : List (Int × Int))) fun v5 a w F W => ?_
   obtain ⟨x5, h2, H⟩ := Al H
   refine Cj (r := Ir) (i := 1) F W Aa Ps Aa Aa Aa Aa (Cz W 0 Aa) h2 Aa fun v6 a w F W => ?_
   have W : Stw ⟨Y, [], w0⟩ [(b2, [.int .i64 x4.1, .int .i64 x4.2.1, .int .i64 x4.2.2.1, .int .i64 x4.2.2.2.1, .int .i64 x4.2.2.2.2.1, .int .i64 x4.2.2.2.2.2]), (b1, [.int .i64 p0.1, v1, v2])] [row v6 86 Ir x5, row v5 86 Ir ([(x4.1, x4.2.1), (x4.2.2.1, x4.2.2.2.1)] : List (Int × Int))] w := W
   refine ls F W Aa (Ad F Aa).q fun a w F W => ?_
   refine Ae (AK (Ac (Ab ?_)))
   refine ls F W Aa (Bw F Aa Aa Aa).q fun a w F W => ?_
   refine ls F W Aa (Af F Aa).q fun a w F W => ?_
   refine Ae (Ac ?_)
   have W := W.frontM (i := 1) Aa Aa
   have W := W.sub (M' := [(b1, [.int .i64 p0.1, v1, v2])]) (Z' := [row v6 86 Ir x5]) (List.Sublist.cons_cons _ (List.nil_sublist _)) (List.Sublist.cons_cons _ (List.nil_sublist _))
   exact ⟨_, H, (v6), F.re ⟨rfl, Aa, Aa, Aa, Aa, Aa, trivial⟩, W⟩
  have H := AO (Be hb) H
  rw [hb] at F
  clear hb
  refine A9 ?_
  iterate 2 refine Bl ?_
  refine A7 (Ac ?_)
  have H := L2 _ H
  exact ⟨_, (v4), H, F.re ⟨rfl, Aa, Aa, trivial⟩, W⟩
 rintro a w ⟨x1, v3, hj, F, W⟩
 have hj := AP hj
 subst hj
 have H := K1
 clear G1 K1
 obtain ⟨o3, G3, K3⟩ := Al H
 refine AE (fun a w => ∃ x6 : List (Int × Int), ∃ v7 : Value, some (x6) = some o3 ∧ Fr 46 [] [(2, .slice none 0 0), (3, v7)] a ∧ Stw ⟨Y, [], w0⟩ [(b1, [.int .i64 p0.1, v1, v2])] [row v7 86 Ir x6] w) ?_ ?_
 ·
  have H := G3
  clear G3 K3
  refine Ah (Ab ?_)
  refine ls F W Aa (Ai Cw Aa Aa Aa GF F Aa 2 Aa).q fun a w F W => ?_
  refine ls F W Aa (Ap (v := v2) 0 F Aa Aa GF Aa).q fun a w F W => ?_
  refine ls F W Aa (Bm (r := Fa) (l := p0.2.2) JU Aa F Aa (Ak h_v2)).q fun a w F W => ?_
  refine ls F W Aa (Af F Aa).q fun a w F W => ?_
  refine Ae (Ac (Aq ?_))
  refine A4 H (fun s a w => ∃ v8 : Value, Fr 46 [] [(2, .slice none 0 0), (3, v8), (30, v2), (31, .int .i64 (p0.2.2.length : Int)), (32, .int .i64 s.2)] a ∧ Stw ⟨Y, [], w0⟩ [(b1, [.int .i64 p0.1, v1, v2])] [row v8 86 Ir s.1] w) ⟨(v3), F.re ⟨rfl, Aa, Aa, Aa, Aa, trivial⟩, W⟩ fun s o a w H L4 hR => ?_
  obtain ⟨x7, x8⟩ := s
  obtain ⟨v8, F, W⟩ := hR
  have F : Fr 46 [] [(2, .slice none 0 0), (3, v8), (30, v2), (31, .int .i64 (p0.2.2.length : Int)), (32, .int .i64 x8)] a := F
  have W : Stw ⟨Y, [], w0⟩ [(b1, [.int .i64 p0.1, v1, v2])] [row v8 86 Ir x7] w := W
  rw [Ci] at H
  refine Ah (Ab ?_)
  refine ls F W Aa (Bb F Aa Aa).q fun a w F W => ?_
  refine Ae (Ac (Ah ?_))
  refine Av F Aa (fun hb => ?_) fun hb => ?_
  ·
   have H := AN (Bd hb) H
   rw [hb] at F
   clear hb
   refine Ao (Ac (Ah (Aq (Ah (Ab ?_)))))
   obtain ⟨x9, h3, H⟩ := Al H
   refine ls F W Aa (AC (r := Fa) PU F Aa Aa (Ak h_v2) h3).q fun a w F W => ?_
   refine ls F W Aa (As (y := Value.agg #[.int .i64 x9.1, .int .i64 x9.2]) (j := 0) (i := x8) F Aa Aa (Ak h_v2) h3 PW.to Ss Aa).q fun a w F W => ?_
   refine C6 (cs := [.int .i64 0, .int .i64 0]) F W Aa SI Aa fun b3 a w F W => ?_
   refine D6 (vs := [.int .i64 x9.1, .int .i64 x9.2]) (M' := [(b3, [.int .i64 x9.1, .int .i64 x9.2]), (b1, [.int .i64 p0.1, v1, v2])]) 0 F W Aa Aa Aa Ss Aa Aa Aa Aa Aa fun w W => ?_
   refine Ae (Ac (Ab ?_))
   refine ls F W Aa (Af F Aa).q fun a w F W => ?_
   refine ls F W Aa (Ai JP Aa Aa Aa T3 F Aa 0 Aa).q fun a w F W => ?_
   refine ls F W Aa (Ap (v := Value.int .i64 x9.1) 0 F Aa Aa T3 Aa).q fun a w F W => ?_
   refine ls F W Aa (Ai JP Aa Aa Aa T3 F Aa 1 Aa).q fun a w F W => ?_
   refine ls F W Aa (Ap (v := Value.int .i64 x9.2) 0 F Aa Aa T3 Aa).q fun a w F W => ?_
   refine ls F W Aa (Ei (v := Value.agg #[.int .i64 x9.1, .int .i64 x9.2]) RP F Aa Aa Aa).q fun a w F W => ?_
   refine Dq (z := Value.agg #[.int .i64 0, .int .i64 0]) (cs := [.int .i64 x9.1, .int .i64 x9.2]) Ir ([x9] : List (Int × Int)) F W Aa Ps RY Aa Aa Aa Aa Aa Aa (RL.repL _ _ ([x9] : List (Int × Int))) fun v9 a w F W => ?_
   obtain ⟨x10, h4, H⟩ := Al H
   refine Cj (r := Ir) (i := 1) F W Aa Ps Aa Aa Aa Aa (Cz W 0 Aa) h4 Aa fun v10 a w F W => ?_
   have W : Stw ⟨Y, [], w0⟩ [(b3, [.int .i64 x9.1, .int .i64 x9.2]), (b1, [.int .i64 p0.1, v1, v2])] [row v10 86 Ir x10, row v9 86 Ir ([x9] : List (Int × Int))] w := W
   refine ls F W Aa (Ad F Aa).q fun a w F W => ?_
   refine Ae (AK (Ac (Ab ?_)))
   refine ls F W Aa (Bw F Aa Aa Aa).q fun a w F W => ?_
   refine ls F W Aa (Af F Aa).q fun a w F W => ?_
   refine Ae (Ac ?_)
   have W := W.frontM (i := 1) Aa Aa
   have W := W.sub (M' := [(b1, [.int .i64 p0.1, v1, v2])]) (Z' := [row v10 86 Ir x10]) (List.Sublist.cons_cons _ (List.nil_sublist _)) (List.Sublist.cons_cons _ (List.nil_sublist _))
   exact ⟨_, H, (v10), F.re ⟨rfl, Aa, Aa, Aa, Aa, trivial⟩, W⟩
  have H := AO (Be hb) H
  rw [hb] at F
  clear hb
  refine A9 ?_
  iterate 2 refine Bl ?_
  refine A7 (Ac ?_)
  have H := L4 _ H
  exact ⟨_, (v8), H, F.re ⟨rfl, Aa, trivial⟩, W⟩
 rintro a w ⟨x6, v7, hj, F, W⟩
 have hj := AP hj
 subst hj
 have H := K3
 clear G3 K3
 refine Ah (Ab ?_)
 refine ls F W Aa (Af F Aa).q fun a w F W => ?_
 refine ls F W Aa (Ad F Aa).q fun a w F W => ?_
 refine Ae (Ac (Ax ?_))
 have H := AP H
 subst H
 refine AQ (.inl Aa) F W Aa (Au F Aa) ?_
 have W := W.sub (M' := []) (Z' := [row v7 86 Ir x6]) (List.nil_sublist _) (List.Sublist.refl _)
 exact ⟨(v7), Aa, W⟩
theorem Ol : type_of% Try.underlying3 := Try.underlying3
theorem Rk : type_of% Try.underlying107 := Try.underlying107
theorem SK : Has Try.prog 63 := ⟨fun args w => Aj Try.func63 rfl (by decide) args w⟩
theorem RE : Ty Try.prog 86 true 2 := ⟨by kernel_rfl, by kernel_rfl⟩
theorem RX (dd : Nat) (x0 : Int) (x1 : Int) (y0 : Int) (y1 : Int) (w : World) : (Op.equalIn (dd + 2) 86 (.agg #[.int .i64 x0, .int .i64 x1]) (.agg #[.int .i64 y0, .int .i64 y1])).run Try.prog w = .ok (decide (x0 = y0 ∧ x1 = y1)) w :=
  Od (d := dd + 1) (rs := [decide (x0 = y0), decide (x1 = y1)]) LZ (by kernel_rfl) ⟨rfl, NV (d := dd + 0) rfl rfl Ol T3 rfl rfl, rfl, NV (d := dd + 0) rfl rfl Ol T3 rfl rfl, trivial⟩ (by simp) w
theorem Ts (x0 : Int) (x1 : Int) (y0 : Int) (y1 : Int) (w : World) : (Op.equalIn 10000 86 (.agg #[.int .i64 x0, .int .i64 x1]) (.agg #[.int .i64 y0, .int .i64 y1])).run Try.prog w = .ok (decide (x0 = y0 ∧ x1 = y1)) w := RX 9998 x0 x1 y0 y1 w
theorem Rt : KeyEnc Try.prog 86 Ic := ⟨⟨_, LZ, .inl fun _ _ => rfl⟩, fun x y w => (Ts x.1 x.2 y.1 y.2 w).trans (by congr 1; exact decide_eq_decide.2 (by simp only [Prod.ext_iff])), fun b x w => Jq (m := 9999) (cs := List.toArray [.int .i64 x.1, .int .i64 x.2]) LZ ⟨⟨_, LR T3 rfl, Gl (m := 9998) Ol⟩, ⟨_, LR T3 rfl, Gl (m := 9998) Ol⟩, trivial⟩ b w, fun x => by simp [Instr.sameBits]⟩
theorem Rr : (Try.prog.info? 107).bind (·.zero) = some (.agg #[]) := by kernel_rfl
theorem RQ : Ty Try.prog 107 true 0 := ⟨by kernel_rfl, by kernel_rfl⟩
theorem RZ : Bt Try.prog 107 [] [] := ⟨⟨.agg #[], by kernel_rfl, rfl⟩, ⟨_, Rk, fun w => by kernel_rfl⟩⟩
def Bq (p0 : Int × Int × Int × Int × Int × Int) : Bool := (decide (p0.1 = p0.2.2.1) || (decide (p0.2.2.2.2.1 < 1) || (decide (p0.2.2.2.2.2 < p0.2.2.2.2.1) || decide (1000 < p0.2.2.2.2.2))))
theorem IU (Y : Nat → Prop) (w0 : World)  (p0 : Int × Int × Int × Int × Int × Int) (r : Bool) (H : Bq p0 = r)  :
    Calls Try.prog 65 #[.agg #[.int .i64 p0.1, .int .i64 p0.2.1, .int .i64 p0.2.2.1, .int .i64 p0.2.2.2.1, .int .i64 p0.2.2.2.2.1, .int .i64 p0.2.2.2.2.2]] w0 fun e w' => e = .returned (.bool r) ∧ Below w0.heap.size w0 w' := by
 refine enter Try.func65 Aa Try.ntmps65 Aa fun a F => ?_
 have W := Stw.start Y w0
 unfold Bq at H
 refine Ah (Ab ?_)
 refine DO (cs := [.int .i64 p0.1, .int .i64 p0.2.1, .int .i64 p0.2.2.1, .int .i64 p0.2.2.2.1, .int .i64 p0.2.2.2.2.1, .int .i64 p0.2.2.2.2.2]) F W Aa Aa Aa fun b1 a w F W => ?_
 refine ls F W Aa (Ad F Aa).q fun a w F W => ?_
 refine Ae (Ac ?_)
 refine AE (fun a w => Fr 25 [] [(2, .bool (decide (p0.1 = p0.2.2.1) || (decide (p0.2.2.2.2.1 < 1) || (decide (p0.2.2.2.2.2 < p0.2.2.2.2.1) || decide (1000 < p0.2.2.2.2.2)))))] a ∧ Stw ⟨Y, [], w0⟩ [(b1, [.int .i64 p0.1, .int .i64 p0.2.1, .int .i64 p0.2.2.1, .int .i64 p0.2.2.2.1, .int .i64 p0.2.2.2.2.1, .int .i64 p0.2.2.2.2.2])] [] w) ?_ ?_
 ·
  refine Ab ?_
  refine ls F W Aa (Ai Dh Aa Aa Aa T3 F Aa 0 Aa).q fun a w F W => ?_
  refine ls F W Aa (Ap (v := Value.int .i64 p0.1) 0 F Aa Aa T3 Aa).q fun a w F W => ?_
  refine ls F W Aa (Ai Dh Aa Aa Aa T3 F Aa 2 Aa).q fun a w F W => ?_
  refine ls F W Aa (Ap (v := Value.int .i64 p0.2.2.1) 0 F Aa Aa T3 Aa).q fun a w F W => ?_
  refine ls F W Aa (Cf F Aa Aa).q fun a w F W => ?_
  refine ls F W Aa (Af F Aa).q fun a w F W => ?_
  rcases Bool.eq_false_or_eq_true (decide (p0.1 = p0.2.2.1)) with hb0 | hb0
  ·
   rw [hb0] at F
   iterate 3 refine CL F Aa Aa Aa Aa Aa Aa Aa fun a F => ?_
   refine ls F W Aa (Aw F Aa Aa Aa).q fun a w F W => ?_
   refine ls F W Aa (Af F Aa).q fun a w F W => ?_
   iterate 5 refine CL F Aa Aa Aa Aa Aa Aa Aa fun a F => ?_
   refine ls F W Aa (Aw F Aa Aa Aa).q fun a w F W => ?_
   refine ls F W Aa (Af F Aa).q fun a w F W => ?_
   iterate 3 refine CL F Aa Aa Aa Aa Aa Aa Aa fun a F => ?_
   refine ls F W Aa (Aw F Aa Aa Aa).q fun a w F W => ?_
   refine ls F W Aa (Ad F Aa).q fun a w F W => ?_
   refine Ae (Ac ?_)
   exact ⟨F.re ⟨(by show some (Value.bool true) = some (Value.bool (decide (p0.1 = p0.2.2.1) || (decide (p0.2.2.2.2.1 < 1) || (decide (p0.2.2.2.2.2 < p0.2.2.2.2.1) || decide (1000 < p0.2.2.2.2.2))))); try rw [hb0]; all_goals simp only [Bool.not_true, Bool.not_false, Bool.true_and, Bool.false_and, Bool.true_or, Bool.false_or, Bool.and_true, Bool.or_false, cond_true, cond_false]), trivial⟩, W⟩
  rw [hb0] at F
  refine AG F W (Ag F Aa Aa Aa Aa) Aa (Am Aa) (Ai Dh Aa Aa Aa T3 F Aa 4 Aa).q fun a w F W => ?_
  refine AG F W (Ag F Aa Aa Aa Aa) Aa (Am Aa) (Ap (v := Value.int .i64 p0.2.2.2.2.1) 0 F Aa Aa T3 Aa).q fun a w F W => ?_
  refine AG F W (Ag F Aa Aa Aa Aa) Aa (Am Aa) (Bb F Aa Aa).q fun a w F W => ?_
  refine ls F W Aa (Ay F Aa Aa Aa).q fun a w F W => ?_
  refine ls F W Aa (Af F Aa).q fun a w F W => ?_
  rcases Bool.eq_false_or_eq_true (decide (p0.2.2.2.2.1 < 1)) with hb1 | hb1
  ·
   rw [hb1] at F
   iterate 5 refine CL F Aa Aa Aa Aa Aa Aa Aa fun a F => ?_
   refine ls F W Aa (Aw F Aa Aa Aa).q fun a w F W => ?_
   refine ls F W Aa (Af F Aa).q fun a w F W => ?_
   iterate 3 refine CL F Aa Aa Aa Aa Aa Aa Aa fun a F => ?_
   refine ls F W Aa (Aw F Aa Aa Aa).q fun a w F W => ?_
   refine ls F W Aa (Ad F Aa).q fun a w F W => ?_
   refine Ae (Ac ?_)
   exact ⟨F.re ⟨(by show some (Value.bool true) = some (Value.bool (decide (p0.1 = p0.2.2.1) || (decide (p0.2.2.2.2.1 < 1) || (decide (p0.2.2.2.2.2 < p0.2.2.2.2.1) || decide (1000 < p0.2.2.2.2.2))))); try rw [hb1]; try rw [hb0]; all_goals simp only [Bool.not_true, Bool.not_false, Bool.true_and, Bool.false_and, Bool.true_or, Bool.false_or, Bool.and_true, Bool.or_false, cond_true, cond_false]), trivial⟩, W⟩
  rw [hb1] at F
  refine AG F W (Ag F Aa Aa Aa Aa) Aa (Am Aa) (Ai Dh Aa Aa Aa T3 F Aa 5 Aa).q fun a w F W => ?_
  refine AG F W (Ag F Aa Aa Aa Aa) Aa (Am Aa) (Ap (v := Value.int .i64 p0.2.2.2.2.2) 0 F Aa Aa T3 Aa).q fun a w F W => ?_
  refine AG F W (Ag F Aa Aa Aa Aa) Aa (Am Aa) (Ai Dh Aa Aa Aa T3 F Aa 4 Aa).q fun a w F W => ?_
  refine AG F W (Ag F Aa Aa Aa Aa) Aa (Am Aa) (Ap (v := Value.int .i64 p0.2.2.2.2.1) 0 F Aa Aa T3 Aa).q fun a w F W => ?_
  refine AG F W (Ag F Aa Aa Aa Aa) Aa (Am Aa) (Bb F Aa Aa).q fun a w F W => ?_
  refine ls F W Aa (Ay F Aa Aa Aa).q fun a w F W => ?_
  refine ls F W Aa (Af F Aa).q fun a w F W => ?_
  rcases Bool.eq_false_or_eq_true (decide (p0.2.2.2.2.2 < p0.2.2.2.2.1)) with hb2 | hb2
  ·
   rw [hb2] at F
   iterate 3 refine CL F Aa Aa Aa Aa Aa Aa Aa fun a F => ?_
   refine ls F W Aa (Aw F Aa Aa Aa).q fun a w F W => ?_
   refine ls F W Aa (Ad F Aa).q fun a w F W => ?_
   refine Ae (Ac ?_)
   exact ⟨F.re ⟨(by show some (Value.bool true) = some (Value.bool (decide (p0.1 = p0.2.2.1) || (decide (p0.2.2.2.2.1 < 1) || (decide (p0.2.2.2.2.2 < p0.2.2.2.2.1) || decide (1000 < p0.2.2.2.2.2))))); try rw [hb2]; try rw [hb1]; try rw [hb0]; all_goals simp only [Bool.not_true, Bool.not_false, Bool.true_and, Bool.false_and, Bool.true_or, Bool.false_or, Bool.and_true, Bool.or_false, cond_true, cond_false]), trivial⟩, W⟩
  rw [hb2] at F
  refine AG F W (Ag F Aa Aa Aa Aa) Aa (Am Aa) (Ai Dh Aa Aa Aa T3 F Aa 5 Aa).q fun a w F W => ?_
  refine AG F W (Ag F Aa Aa Aa Aa) Aa (Am Aa) (Ap (v := Value.int .i64 p0.2.2.2.2.2) 0 F Aa Aa T3 Aa).q fun a w F W => ?_
  refine AG F W (Ag F Aa Aa Aa Aa) Aa (Am Aa) (DL F Aa Aa).q fun a w F W => ?_
  refine ls F W Aa (Ay F Aa Aa Aa).q fun a w F W => ?_
  refine ls F W Aa (Ad F Aa).q fun a w F W => ?_
  refine Ae (Ac ?_)
  exact ⟨F.re ⟨(by show some (Value.bool (decide (1000 < p0.2.2.2.2.2))) = some (Value.bool (decide (p0.1 = p0.2.2.1) || (decide (p0.2.2.2.2.1 < 1) || (decide (p0.2.2.2.2.2 < p0.2.2.2.2.1) || decide (1000 < p0.2.2.2.2.2))))); try rw [hb2]; try rw [hb1]; try rw [hb0]; all_goals simp only [Bool.not_true, Bool.not_false, Bool.true_and, Bool.false_and, Bool.true_or, Bool.false_or, Bool.and_true, Bool.or_false, cond_true, cond_false]), trivial⟩, W⟩
 rintro a w ⟨F, W⟩
 refine Ax ?_
 subst H
 refine AQ (.inl Aa) F W Aa (Au F Aa) ?_
 exact ⟨rfl, W.done⟩
theorem SW : Has Try.prog 65 := ⟨fun args w => Aj Try.func65 rfl (by decide) args w⟩
noncomputable def AJ (p0 : List (Int × Int × Int × Int × Int × Int)) : Int → Option (Int ⊕ (Unit ⊕ Int))
  | x1 => (if x1 < (p0.length : Int) then (ix p0 x1).bind fun x2 => (if (Bq x2) = true then some (.inr (.inr x1)) else some (.inl (BI (x1 + 1)))) else some (.inr (.inl ())))
noncomputable def Ba (p0 : List (Int × Int × Int × Int × Int × Int)) : Option Int := HK (AH (AJ p0) 0) fun _ => some (-1)
theorem D9 (Y : Nat → Prop) (w0 : World) (v1 : Value) (p0 : List (Int × Int × Int × Int × Int × Int)) (r : Int) (H : Ba p0 = some r) (h_v1 : Sl w0 (NX []) Ff v1 p0) :
    Calls Try.prog 83 #[v1, .func (.func 65) #[] #[]] w0 fun e w' => e = .returned (.int .i64 r) ∧ Below w0.heap.size w0 w' := by
 refine enter Try.func83 Aa Try.ntmps83 Aa fun a F => ?_
 have W := Stw.start Y w0
 unfold Ba at H
 refine Ah (Ab ?_)
 refine ls F W Aa (Ad F Aa).q fun a w F W => ?_
 refine Ae (Ac ?_)
 obtain ⟨o1, G1, K1, L1⟩ := MZ H
 refine AE (fun a w => some (Sum.inl ()) = some o1 ∧ Fr 19 [] [(4, .int .i64 0)] a ∧ Stw ⟨Y, [], w0⟩ [] [] w) ?_ ?_
 ·
  have H := G1
  clear G1 K1
  refine Ah (Ab ?_)
  refine ls F W Aa (Af F Aa).q fun a w F W => ?_
  refine ls F W Aa (Bm (r := Ff) (l := p0) Jj Aa F Aa (Ak h_v1)).q fun a w F W => ?_
  refine ls F W Aa (Af F Aa).q fun a w F W => ?_
  refine Ae (Ac (Aq ?_))
  refine A4 H (fun s a w => Fr 19 [] [(0, v1), (1, .func (.func 65) #[] #[]), (4, .int .i64 0), (7, .int .i64 (p0.length : Int)), (8, .int .i64 s)] a ∧ Stw ⟨Y, [], w0⟩ [] [] w) ⟨F.re ⟨rfl, Aa, Aa, Aa, Aa, trivial⟩, W⟩ fun s o a w H L2 hR => ?_
  obtain ⟨x1, rfl⟩ : ∃ x, x = s := ⟨s, rfl⟩
  obtain ⟨F, W⟩ := hR
  have F : Fr 19 [] [(0, v1), (1, .func (.func 65) #[] #[]), (4, .int .i64 0), (7, .int .i64 (p0.length : Int)), (8, .int .i64 x1)] a := F
  have W : Stw ⟨Y, [], w0⟩ [] [] w := W
  rw [AJ] at H
  refine Ah (Ab ?_)
  refine ls F W Aa (Bb F Aa Aa).q fun a w F W => ?_
  refine Ae (Ac (Ah ?_))
  refine Av F Aa (fun hb => ?_) fun hb => ?_
  ·
   have H := AN (Bd hb) H
   rw [hb] at F
   clear hb
   refine Ao (Ac (Ah (Aq (Ah (Ab ?_)))))
   refine ls F W Aa (Af F Aa).q fun a w F W => ?_
   refine ls F W Aa (Ad F Aa).q fun a w F W => ?_
   refine Ae (Ac (Ah (Ab ?_)))
   iterate 3 refine ls F W Aa (Af F Aa).q fun a w F W => ?_
   obtain ⟨x2, h1, H⟩ := Al H
   refine ls F W Aa (AC (r := Ff) QE F Aa Aa (Ak h_v1) h1).q fun a w F W => ?_
   refine ls F W Aa (As (y := Value.agg #[.int .i64 x2.1, .int .i64 x2.2.1, .int .i64 x2.2.2.1, .int .i64 x2.2.2.2.1, .int .i64 x2.2.2.2.2.1, .int .i64 x2.2.2.2.2.2]) (j := 0) (i := x1) F Aa Aa (Ak h_v1) h1 QP.to PN Aa).q fun a w F W => ?_
   refine ls F W Aa (Lj (ws := [.agg #[.int .i64 x2.1, .int .i64 x2.2.1, .int .i64 x2.2.2.1, .int .i64 x2.2.2.2.1, .int .i64 x2.2.2.2.2.1, .int .i64 x2.2.2.2.2.2]]) (v := Value.bool (Bq x2)) F SW Aa (fun w W => IU any w x2 _ Aa)) fun a w F W => ?_
   refine Ae (Ac ?_)
   refine Av F Aa (fun hb => ?_) fun hb => ?_
   ·
    have H := AN hb H
    rw [hb] at F
    clear hb
    refine Ah (Ab ?_)
    refine ls F W Aa (Af F Aa).q fun a w F W => ?_
    refine ls F W Aa (Ad F Aa).q fun a w F W => ?_
    refine Ae (Ac (Ax (A8 ?_)))
    iterate 2 refine AL ?_
    refine A8 (AL ?_)
    have H := L2 _ H
    have H := L1 _ H
    have H := AP H
    subst H
    refine AQ (.inl Aa) F W Aa (Au F Aa) ?_
    exact ⟨rfl, W.done⟩
   have H := AO (by rw [hb]; decide) H
   rw [hb] at F
   clear hb
   refine Ao (AK (Ac (Ab ?_)))
   refine ls F W Aa (Bw F Aa Aa Aa).q fun a w F W => ?_
   refine ls F W Aa (Af F Aa).q fun a w F W => ?_
   refine Ae (Ac ?_)
   exact ⟨_, H, F.re ⟨rfl, Aa, Aa, Aa, Aa, trivial⟩, W⟩
  have H := AO (Be hb) H
  rw [hb] at F
  clear hb
  refine A9 ?_
  iterate 2 refine Bl ?_
  refine A7 (Ac ?_)
  have H := L2 _ H
  exact ⟨H, F.re ⟨rfl, trivial⟩, W⟩
 rintro a w ⟨hj, F, W⟩
 have H := K1 _ hj
 clear hj G1 K1 L1
 refine Ah (Ab ?_)
 refine ls F W Aa (Ad F Aa).q fun a w F W => ?_
 refine Ae (Ac (Ax ?_))
 have H := AP H
 subst H
 refine AQ (.inl Aa) F W Aa (Au F Aa) ?_
 exact ⟨rfl, W.done⟩
theorem S6 : Has Try.prog 83 := ⟨fun args w => Aj Try.func83 rfl (by decide) args w⟩
noncomputable def AW (p0 : List (Int × Int × Int × Int × Int × Int)) : Option Bool := (Ba p0).bind fun x1 => some (decide (0 ≤ x1))
theorem DC (Y : Nat → Prop) (w0 : World) (v1 : Value) (p0 : List (Int × Int × Int × Int × Int × Int)) (r : Bool) (H : AW p0 = some r) (h_v1 : Sl w0 (NX []) Ff v1 p0) :
    Calls Try.prog 64 #[v1, .func (.func 65) #[] #[]] w0 fun e w' => e = .returned (.bool r) ∧ Below w0.heap.size w0 w' := by
 refine enter Try.func64 Aa Try.ntmps64 Aa fun a F => ?_
 have W := Stw.start Y w0
 unfold AW at H
 refine Ah (Ab ?_)
 refine ls F W Aa (Ad F Aa).q fun a w F W => ?_
 refine Ae (Ac (Ah (Ab ?_)))
 iterate 2 refine ls F W Aa (Af F Aa).q fun a w F W => ?_
 obtain ⟨x1, h1, H⟩ := Al H
 refine ls F W Aa (AX (v := Value.int .i64 x1) F S6 Aa (fun w W => D9 any w (v1) p0 _ h1 (((Ak h_v1) : Dw _ _ _ _ _ _) w W).nx)) fun a w F W => ?_
 refine ls F W Aa (Fk F Aa Aa).q fun a w F W => ?_
 refine ls F W Aa (Ad F Aa).q fun a w F W => ?_
 refine Ae (Ac (Ax ?_))
 have H := AP H
 subst H
 refine AQ (.inl Aa) F W Aa (Au F Aa) ?_
 exact ⟨rfl, W.done⟩
theorem QD : type_of% Try.underlying104 := Try.underlying104
theorem S5 : Has Try.prog 64 := ⟨fun args w => Aj Try.func64 rfl (by decide) args w⟩
noncomputable def BQ (p0 : Int × (List (Int × Int × Int × Int × Int × Int)) × (List (Int × Int))) (x2 : (List (Int × Int))) : (Int × (List ((Int × Int) × Unit))) → Option ((Int × (List ((Int × Int) × Unit))) ⊕ ((List ((Int × Int) × Unit)) ⊕ Bool))
  | (x3, x4) => (if x3 < (x2.length : Int) then (ix x2 x3).bind fun x5 => (if (decide (x5.1 < 0) || (decide (p0.1 ≤ x5.1) || (decide (x5.2 < 0) || decide (8 ≤ x5.2)))) = true then some (.inr (.inr false)) else (if ((IX x4 x5).isSome) = true then some (.inr (.inr false)) else some (.inl (BI (x3 + 1), IQ x4 x5 ())))) else some (.inr (.inl x4)))
noncomputable def Ej (p0 : Int × (List (Int × Int × Int × Int × Int × Int)) × (List (Int × Int))) : Option Bool := (if (decide (p0.1 < 1) || (decide (8 < p0.1) || (decide (24 < (p0.2.1.length : Int)) || decide (8 < (p0.2.2.length : Int))))) = true then some false else HK ((DE p0).bind fun x2 => AH (BQ p0 x2) (0, ([] : List ((Int × Int) × Unit)))) fun x1 => (AW p0.2.1).bind fun x6 => some (!x6))
theorem Lx (Y : Nat → Prop) (w0 : World) (v1 : Value) (v2 : Value) (p0 : Int × (List (Int × Int × Int × Int × Int × Int)) × (List (Int × Int))) (r : Bool) (H : Ej p0 = some r) (h_v1 : Sl w0 (NX []) Ff v1 p0.2.1) (h_v2 : Sl w0 (NX []) Fa v2 p0.2.2) :
    Calls Try.prog 49 #[.agg #[.int .i64 p0.1, v1, v2]] w0 fun e w' => e = .returned (.bool r) ∧ Below w0.heap.size w0 w' := by
 refine enter Try.func49 Aa Try.ntmps49 Aa fun a F => ?_
 have W := Stw.start Y w0
 unfold Ej at H
 refine Ah (Ab ?_)
 refine DO (cs := [.int .i64 p0.1, v1, v2]) F W Aa Aa Aa fun b1 a w F W => ?_
 refine ls F W Aa (Ad F Aa).q fun a w F W => ?_
 refine Ae (Ac (Ah ?_))
 refine AE (fun a w => Fr 71 [] [(1, .pointer (some ⟨b1, 0, none⟩)), (2, .bool false), (27, .bool (decide (p0.1 < 1) || (decide (8 < p0.1) || (decide (24 < (p0.2.1.length : Int)) || decide (8 < (p0.2.2.length : Int))))))] a ∧ Stw ⟨Y, [], w0⟩ [(b1, [.int .i64 p0.1, v1, v2])] [] w) ?_ ?_
 ·
  refine Ab ?_
  refine ls F W Aa (Ai Cw Aa Aa Aa T3 F Aa 0 Aa).q fun a w F W => ?_
  refine ls F W Aa (Ap (v := Value.int .i64 p0.1) 0 F Aa Aa T3 Aa).q fun a w F W => ?_
  refine ls F W Aa (Bb F Aa Aa).q fun a w F W => ?_
  refine ls F W Aa (Af F Aa).q fun a w F W => ?_
  rcases Bool.eq_false_or_eq_true (decide (p0.1 < 1)) with hb0 | hb0
  ·
   rw [hb0] at F
   iterate 3 refine CL F Aa Aa Aa Aa Aa Aa Aa fun a F => ?_
   refine ls F W Aa (Aw F Aa Aa Aa).q fun a w F W => ?_
   refine ls F W Aa (Af F Aa).q fun a w F W => ?_
   iterate 4 refine CL F Aa Aa Aa Aa Aa Aa Aa fun a F => ?_
   refine ls F W Aa (Aw F Aa Aa Aa).q fun a w F W => ?_
   refine ls F W Aa (Af F Aa).q fun a w F W => ?_
   iterate 4 refine CL F Aa Aa Aa Aa Aa Aa Aa fun a F => ?_
   refine ls F W Aa (Aw F Aa Aa Aa).q fun a w F W => ?_
   refine Ae (Ac ?_)
   exact ⟨F.re ⟨rfl, Aa, (by show some (Value.bool true) = some (Value.bool (decide (p0.1 < 1) || (decide (8 < p0.1) || (decide (24 < (p0.2.1.length : Int)) || decide (8 < (p0.2.2.length : Int)))))); try rw [hb0]; all_goals simp only [Bool.not_true, Bool.not_false, Bool.true_and, Bool.false_and, Bool.true_or, Bool.false_or, Bool.and_true, Bool.or_false, cond_true, cond_false]), trivial⟩, W⟩
  rw [hb0] at F
  refine AG F W (Ag F Aa Aa Aa Aa) Aa (Am Aa) (Ai Cw Aa Aa Aa T3 F Aa 0 Aa).q fun a w F W => ?_
  refine AG F W (Ag F Aa Aa Aa Aa) Aa (Am Aa) (Ap (v := Value.int .i64 p0.1) 0 F Aa Aa T3 Aa).q fun a w F W => ?_
  refine AG F W (Ag F Aa Aa Aa Aa) Aa (Am Aa) (DL F Aa Aa).q fun a w F W => ?_
  refine ls F W Aa (Ay F Aa Aa Aa).q fun a w F W => ?_
  refine ls F W Aa (Af F Aa).q fun a w F W => ?_
  rcases Bool.eq_false_or_eq_true (decide (8 < p0.1)) with hb1 | hb1
  ·
   rw [hb1] at F
   iterate 4 refine CL F Aa Aa Aa Aa Aa Aa Aa fun a F => ?_
   refine ls F W Aa (Aw F Aa Aa Aa).q fun a w F W => ?_
   refine ls F W Aa (Af F Aa).q fun a w F W => ?_
   iterate 4 refine CL F Aa Aa Aa Aa Aa Aa Aa fun a F => ?_
   refine ls F W Aa (Aw F Aa Aa Aa).q fun a w F W => ?_
   refine Ae (Ac ?_)
   exact ⟨F.re ⟨rfl, Aa, (by show some (Value.bool true) = some (Value.bool (decide (p0.1 < 1) || (decide (8 < p0.1) || (decide (24 < (p0.2.1.length : Int)) || decide (8 < (p0.2.2.length : Int)))))); try rw [hb0]; try rw [hb1]; all_goals simp only [Bool.not_true, Bool.not_false, Bool.true_and, Bool.false_and, Bool.true_or, Bool.false_or, Bool.and_true, Bool.or_false, cond_true, cond_false]), trivial⟩, W⟩
  rw [hb1] at F
  refine AG F W (Ag F Aa Aa Aa Aa) Aa (Am Aa) (Ai Cw Aa Aa Aa IC F Aa 1 Aa).q fun a w F W => ?_
  refine AG F W (Ag F Aa Aa Aa Aa) Aa (Am Aa) (Ap (v := v1) 0 F Aa Aa IC Aa).q fun a w F W => ?_
  refine AG F W (Ag F Aa Aa Aa Aa) Aa (Am Aa) (Bm (r := Ff) (l := p0.2.1) Jj Aa F Aa (Ak h_v1)).q fun a w F W => ?_
  refine AG F W (Ag F Aa Aa Aa Aa) Aa (Am Aa) (DL F Aa Aa).q fun a w F W => ?_
  refine ls F W Aa (Ay F Aa Aa Aa).q fun a w F W => ?_
  refine ls F W Aa (Af F Aa).q fun a w F W => ?_
  rcases Bool.eq_false_or_eq_true (decide (24 < (p0.2.1.length : Int))) with hb2 | hb2
  ·
   rw [hb2] at F
   iterate 4 refine CL F Aa Aa Aa Aa Aa Aa Aa fun a F => ?_
   refine ls F W Aa (Aw F Aa Aa Aa).q fun a w F W => ?_
   refine Ae (Ac ?_)
   exact ⟨F.re ⟨rfl, Aa, (by show some (Value.bool true) = some (Value.bool (decide (p0.1 < 1) || (decide (8 < p0.1) || (decide (24 < (p0.2.1.length : Int)) || decide (8 < (p0.2.2.length : Int)))))); try rw [hb2]; try rw [hb0]; try rw [hb1]; all_goals simp only [Bool.not_true, Bool.not_false, Bool.true_and, Bool.false_and, Bool.true_or, Bool.false_or, Bool.and_true, Bool.or_false, cond_true, cond_false]), trivial⟩, W⟩
  rw [hb2] at F
  refine AG F W (Ag F Aa Aa Aa Aa) Aa (Am Aa) (Ai Cw Aa Aa Aa GF F Aa 2 Aa).q fun a w F W => ?_
  refine AG F W (Ag F Aa Aa Aa Aa) Aa (Am Aa) (Ap (v := v2) 0 F Aa Aa GF Aa).q fun a w F W => ?_
  refine AG F W (Ag F Aa Aa Aa Aa) Aa (Am Aa) (Bm (r := Fa) (l := p0.2.2) JU Aa F Aa (Ak h_v2)).q fun a w F W => ?_
  refine AG F W (Ag F Aa Aa Aa Aa) Aa (Am Aa) (DL F Aa Aa).q fun a w F W => ?_
  refine ls F W Aa (Ay F Aa Aa Aa).q fun a w F W => ?_
  refine Ae (Ac ?_)
  exact ⟨F.re ⟨rfl, Aa, (by show some (Value.bool (decide (8 < (p0.2.2.length : Int)))) = some (Value.bool (decide (p0.1 < 1) || (decide (8 < p0.1) || (decide (24 < (p0.2.1.length : Int)) || decide (8 < (p0.2.2.length : Int)))))); try rw [hb2]; try rw [hb0]; try rw [hb1]; all_goals simp only [Bool.not_true, Bool.not_false, Bool.true_and, Bool.false_and, Bool.true_or, Bool.false_or, Bool.and_true, Bool.or_false, cond_true, cond_false]), trivial⟩, W⟩
 rintro a w ⟨F, W⟩
 refine Av F Aa (fun hb => ?_) fun hb => ?_
 ·
  have H := AN hb H
  rw [hb] at F
  clear hb
  refine Ah (Ab ?_)
  refine ls F W Aa (Ad F Aa).q fun a w F W => ?_
  refine Ae (Ac (Ax (AL ?_)))
  have H := AP H
  subst H
  refine AQ (.inl Aa) F W Aa (Au F Aa) ?_
  exact ⟨rfl, W.done⟩
 have H := AO (by rw [hb]; decide) H
 rw [hb] at F
 clear hb
 refine Ao (Ac (Ah (Ab ?_)))
 refine Oi Ic F2 F W Aa fun b2 a w F W => ?_
 have W : Stw ⟨Y, [], w0⟩ [(b1, [.int .i64 p0.1, v1, v2])] [mp b2 Ic F2 ([] : List ((Int × Int) × Unit))] w := W
 refine ls F W Aa (Ad F Aa).q fun a w F W => ?_
 refine Ae (Ac ?_)
 obtain ⟨o1, G1, K1, L1⟩ := MZ H
 refine AE (fun a w => ∃ x1 : List ((Int × Int) × Unit), some (Sum.inl x1) = some o1 ∧ Fr 71 [] [(1, .pointer (some ⟨b1, 0, none⟩)), (2, .bool false)] a ∧ Stw ⟨Y, [], w0⟩ [(b1, [.int .i64 p0.1, v1, v2])] [mp b2 Ic F2 x1] w) ?_ ?_
 ·
  have H := G1
  clear G1 K1
  refine Ah (Ab ?_)
  refine ls F W Aa (Ap (v := Value.agg #[.int .i64 p0.1, v1, v2]) 0 F Aa Aa GC Aa).q fun a w F W => ?_
  obtain ⟨x2, h1, H⟩ := Al H
  refine Bi (Ml := []) (Zl := []) (M := [(b1, [.int .i64 p0.1, v1, v2])]) (Z := [mp b2 Ic F2 ([] : List ((Int × Int) × Unit))]) (β := Value) (rv := fun x => x) (MM := fun x => []) (ZZ := fun x => [row x 86 Ir x2]) F W SK Aa Aa (fun hL => Kr _ w (v1) (v2) p0 _ h1 ((Ak h_v1) w W).nx ((Ak h_v2) w W).nx) fun x a w F W => ?_
  obtain ⟨v3, rfl⟩ : ∃ y, y = x := ⟨x, rfl⟩
  have W : Stw ⟨Y, [], w0⟩ [(b1, [.int .i64 p0.1, v1, v2])] [row v3 86 Ir x2, mp b2 Ic F2 ([] : List ((Int × Int) × Unit))] w := W
  refine ls F W Aa (Bm (r := Ir) (l := x2) Qw Aa F Aa (An 0 Aa)).q fun a w F W => ?_
  refine ls F W Aa (Af F Aa).q fun a w F W => ?_
  refine Ae (Ac (Aq ?_))
  have W := W.frontZ (i := 1) Aa Aa
  have W := W.frontZ (i := 1) Aa Aa
  refine A4 H (fun s a w => Fr 71 [] [(1, .pointer (some ⟨b1, 0, none⟩)), (2, .bool false), (3, .map (some b2)), (30, v3), (31, .int .i64 (x2.length : Int)), (32, .int .i64 s.1)] a ∧ Stw ⟨Y, [], w0⟩ [(b1, [.int .i64 p0.1, v1, v2])] [row v3 86 Ir x2, mp b2 Ic F2 s.2] w) ⟨F.re ⟨rfl, Aa, Aa, Aa, Aa, Aa, trivial⟩, W⟩ fun s o a w H L2 hR => ?_
  obtain ⟨x3, x4⟩ := s
  obtain ⟨F, W⟩ := hR
  have F : Fr 71 [] [(1, .pointer (some ⟨b1, 0, none⟩)), (2, .bool false), (3, .map (some b2)), (30, v3), (31, .int .i64 (x2.length : Int)), (32, .int .i64 x3)] a := F
  have W : Stw ⟨Y, [], w0⟩ [(b1, [.int .i64 p0.1, v1, v2])] [row v3 86 Ir x2, mp b2 Ic F2 x4] w := W
  rw [BQ] at H
  refine Ah (Ab ?_)
  refine ls F W Aa (Bb F Aa Aa).q fun a w F W => ?_
  refine Ae (Ac (Ah ?_))
  refine Av F Aa (fun hb => ?_) fun hb => ?_
  ·
   have H := AN (Bd hb) H
   rw [hb] at F
   clear hb
   refine Ao (Ac (Ah (Aq (Ah (Ab ?_)))))
   obtain ⟨x5, h2, H⟩ := Al H
   refine ls F W Aa (AC (r := Ir) Ps F Aa Aa (An 0 Aa) h2).q fun a w F W => ?_
   refine ls F W Aa (As (y := Value.agg #[.int .i64 x5.1, .int .i64 x5.2]) (j := 0) (i := x3) F Aa Aa (An 0 Aa) h2 RL.to RE Aa).q fun a w F W => ?_
   refine C6 (cs := [.int .i64 0, .int .i64 0]) F W Aa RY Aa fun b3 a w F W => ?_
   refine D6 (vs := [.int .i64 x5.1, .int .i64 x5.2]) (M' := [(b3, [.int .i64 x5.1, .int .i64 x5.2]), (b1, [.int .i64 p0.1, v1, v2])]) 0 F W Aa Aa Aa RE Aa Aa Aa Aa Aa fun w W => ?_
   refine Ae (Ac (Ah ?_))
   refine AE (fun a w => Fr 71 [] [(1, .pointer (some ⟨b1, 0, none⟩)), (2, .bool false), (3, .map (some b2)), (5, .pointer (some ⟨b3, 0, none⟩)), (30, v3), (31, .int .i64 (x2.length : Int)), (32, .int .i64 x3), (55, .bool (decide (x5.1 < 0) || (decide (p0.1 ≤ x5.1) || (decide (x5.2 < 0) || decide (8 ≤ x5.2)))))] a ∧ Stw ⟨Y, [], w0⟩ [(b3, [.int .i64 x5.1, .int .i64 x5.2]), (b1, [.int .i64 p0.1, v1, v2])] [row v3 86 Ir x2, mp b2 Ic F2 x4] w) ?_ ?_
   ·
    refine Ab ?_
    refine ls F W Aa (Ai LZ Aa Aa Aa T3 F Aa 0 Aa).q fun a w F W => ?_
    refine ls F W Aa (Ap (v := Value.int .i64 x5.1) 0 F Aa Aa T3 Aa).q fun a w F W => ?_
    refine ls F W Aa (Bb F Aa Aa).q fun a w F W => ?_
    refine ls F W Aa (Af F Aa).q fun a w F W => ?_
    rcases Bool.eq_false_or_eq_true (decide (x5.1 < 0)) with hb0 | hb0
    ·
     rw [hb0] at F
     iterate 5 refine CL F Aa Aa Aa Aa Aa Aa Aa fun a F => ?_
     refine ls F W Aa (Aw F Aa Aa Aa).q fun a w F W => ?_
     refine ls F W Aa (Af F Aa).q fun a w F W => ?_
     iterate 3 refine CL F Aa Aa Aa Aa Aa Aa Aa fun a F => ?_
     refine ls F W Aa (Aw F Aa Aa Aa).q fun a w F W => ?_
     refine ls F W Aa (Af F Aa).q fun a w F W => ?_
     iterate 3 refine CL F Aa Aa Aa Aa Aa Aa Aa fun a F => ?_
     refine ls F W Aa (Aw F Aa Aa Aa).q fun a w F W => ?_
     refine Ae (Ac ?_)
     exact ⟨F.re ⟨rfl, Aa, Aa, Aa, Aa, Aa, Aa, (by show some (Value.bool true) = some (Value.bool (decide (x5.1 < 0) || (decide (p0.1 ≤ x5.1) || (decide (x5.2 < 0) || decide (8 ≤ x5.2))))); try rw [hb0]; all_goals simp only [Bool.not_true, Bool.not_false, Bool.true_and, Bool.false_and, Bool.true_or, Bool.false_or, Bool.and_true, Bool.or_false, cond_true, cond_false]), trivial⟩, W⟩
    rw [hb0] at F
    refine AG F W (Ag F Aa Aa Aa Aa) Aa (Am Aa) (Ai LZ Aa Aa Aa T3 F Aa 0 Aa).q fun a w F W => ?_
    refine AG F W (Ag F Aa Aa Aa Aa) Aa (Am Aa) (Ap (v := Value.int .i64 x5.1) 0 F Aa Aa T3 Aa).q fun a w F W => ?_
    refine AG F W (Ag F Aa Aa Aa Aa) Aa (Am Aa) (Ai Cw Aa Aa Aa T3 F Aa 0 Aa).q fun a w F W => ?_
    refine AG F W (Ag F Aa Aa Aa Aa) Aa (Am Aa) (Ap (v := Value.int .i64 p0.1) 1 F Aa Aa T3 Aa).q fun a w F W => ?_
    refine AG F W (Ag F Aa Aa Aa Aa) Aa (Am Aa) (Fk F Aa Aa).q fun a w F W => ?_
    refine ls F W Aa (Ay F Aa Aa Aa).q fun a w F W => ?_
    refine ls F W Aa (Af F Aa).q fun a w F W => ?_
    rcases Bool.eq_false_or_eq_true (decide (p0.1 ≤ x5.1)) with hb1 | hb1
    ·
     rw [hb1] at F
     iterate 3 refine CL F Aa Aa Aa Aa Aa Aa Aa fun a F => ?_
     refine ls F W Aa (Aw F Aa Aa Aa).q fun a w F W => ?_
     refine ls F W Aa (Af F Aa).q fun a w F W => ?_
     iterate 3 refine CL F Aa Aa Aa Aa Aa Aa Aa fun a F => ?_
     refine ls F W Aa (Aw F Aa Aa Aa).q fun a w F W => ?_
     refine Ae (Ac ?_)
     exact ⟨F.re ⟨rfl, Aa, Aa, Aa, Aa, Aa, Aa, (by show some (Value.bool true) = some (Value.bool (decide (x5.1 < 0) || (decide (p0.1 ≤ x5.1) || (decide (x5.2 < 0) || decide (8 ≤ x5.2))))); try rw [hb1]; try rw [hb0]; all_goals simp only [Bool.not_true, Bool.not_false, Bool.true_and, Bool.false_and, Bool.true_or, Bool.false_or, Bool.and_true, Bool.or_false, cond_true, cond_false]), trivial⟩, W⟩
    rw [hb1] at F
    refine AG F W (Ag F Aa Aa Aa Aa) Aa (Am Aa) (Ai LZ Aa Aa Aa T3 F Aa 1 Aa).q fun a w F W => ?_
    refine AG F W (Ag F Aa Aa Aa Aa) Aa (Am Aa) (Ap (v := Value.int .i64 x5.2) 0 F Aa Aa T3 Aa).q fun a w F W => ?_
    refine AG F W (Ag F Aa Aa Aa Aa) Aa (Am Aa) (Bb F Aa Aa).q fun a w F W => ?_
    refine ls F W Aa (Ay F Aa Aa Aa).q fun a w F W => ?_
    refine ls F W Aa (Af F Aa).q fun a w F W => ?_
    rcases Bool.eq_false_or_eq_true (decide (x5.2 < 0)) with hb2 | hb2
    ·
     rw [hb2] at F
     iterate 3 refine CL F Aa Aa Aa Aa Aa Aa Aa fun a F => ?_
     refine ls F W Aa (Aw F Aa Aa Aa).q fun a w F W => ?_
     refine Ae (Ac ?_)
     exact ⟨F.re ⟨rfl, Aa, Aa, Aa, Aa, Aa, Aa, (by show some (Value.bool true) = some (Value.bool (decide (x5.1 < 0) || (decide (p0.1 ≤ x5.1) || (decide (x5.2 < 0) || decide (8 ≤ x5.2))))); try rw [hb1]; try rw [hb0]; try rw [hb2]; all_goals simp only [Bool.not_true, Bool.not_false, Bool.true_and, Bool.false_and, Bool.true_or, Bool.false_or, Bool.and_true, Bool.or_false, cond_true, cond_false]), trivial⟩, W⟩
    rw [hb2] at F
    refine AG F W (Ag F Aa Aa Aa Aa) Aa (Am Aa) (Ai LZ Aa Aa Aa T3 F Aa 1 Aa).q fun a w F W => ?_
    refine AG F W (Ag F Aa Aa Aa Aa) Aa (Am Aa) (Ap (v := Value.int .i64 x5.2) 0 F Aa Aa T3 Aa).q fun a w F W => ?_
    refine AG F W (Ag F Aa Aa Aa Aa) Aa (Am Aa) (Fk F Aa Aa).q fun a w F W => ?_
    refine ls F W Aa (Ay F Aa Aa Aa).q fun a w F W => ?_
    refine Ae (Ac ?_)
    exact ⟨F.re ⟨rfl, Aa, Aa, Aa, Aa, Aa, Aa, (by show some (Value.bool (decide (8 ≤ x5.2))) = some (Value.bool (decide (x5.1 < 0) || (decide (p0.1 ≤ x5.1) || (decide (x5.2 < 0) || decide (8 ≤ x5.2))))); try rw [hb1]; try rw [hb0]; try rw [hb2]; all_goals simp only [Bool.not_true, Bool.not_false, Bool.true_and, Bool.false_and, Bool.true_or, Bool.false_or, Bool.and_true, Bool.or_false, cond_true, cond_false]), trivial⟩, W⟩
   rintro a w ⟨F, W⟩
   refine Av F Aa (fun hb => ?_) fun hb => ?_
   ·
    have H := AN hb H
    rw [hb] at F
    clear hb
    refine Ah (Ab ?_)
    refine ls F W Aa (Ad F Aa).q fun a w F W => ?_
    refine Ae (Ac (Ax (AL (A8 ?_))))
    iterate 2 refine AL ?_
    refine A8 (AL ?_)
    have H := L2 _ H
    have H := L1 _ H
    have H := AP H
    subst H
    refine AQ (.inl Aa) F W Aa (Au F Aa) ?_
    exact ⟨rfl, W.done⟩
   have H := AO (by rw [hb]; decide) H
   rw [hb] at F
   clear hb
   refine Ao (Ac (Ah (Ah (Ab ?_))))
   refine ls F W Aa (Af F Aa).q fun a w F W => ?_
   refine ls F W Aa (Ap (v := Value.agg #[.int .i64 x5.1, .int .i64 x5.2]) 0 F Aa Aa RE Aa).q fun a w F W => ?_
   refine ls F W Aa (N6 (zv := (() : Unit)) (kx := (x5 : Int × Int)) (q := 1) (E := Ic) (V := F2) F Aa Aa Aa Rt QD Rr).q fun a w F W => ?_
   refine ls F W Aa (Af F Aa).q fun a w F W => ?_
   refine ls F W Aa (Bj (v := Value.agg #[]) F Aa Aa).q fun a w F W => ?_
   refine ls F W Aa (Bj (v := Value.bool ((IX x4 x5).isSome)) F Aa Aa).q fun a w F W => ?_
   refine C6 (cs := []) F W Aa Rr Aa fun b4 a w F W => ?_
   refine D6 (vs := []) (M' := [(b4, []), (b3, [.int .i64 x5.1, .int .i64 x5.2]), (b1, [.int .i64 p0.1, v1, v2])]) 0 F W Aa Aa Aa RQ Aa Aa Aa Aa Aa fun w W => ?_
   refine ls F W Aa (Ad F Aa).q fun a w F W => ?_
   refine Ae (Ac (Ah (Ab ?_)))
   refine ls F W Aa (Af F Aa).q fun a w F W => ?_
   refine Ae (Ac ?_)
   refine Av F Aa (fun hb => ?_) fun hb => ?_
   ·
    have H := AN hb H
    rw [hb] at F
    clear hb
    refine Ah (Ab ?_)
    refine ls F W Aa (Ad F Aa).q fun a w F W => ?_
    refine Ae (Ac (Ax (AL (A8 ?_))))
    iterate 2 refine AL ?_
    refine A8 (AL ?_)
    have H := L2 _ H
    have H := L1 _ H
    have H := AP H
    subst H
    refine AQ (.inl Aa) F W Aa (Au F Aa) ?_
    exact ⟨rfl, W.done⟩
   have H := AO (by rw [hb]; decide) H
   rw [hb] at F
   clear hb
   refine Ao (Ac (Ab ?_))
   refine ls F W Aa (Af F Aa).q fun a w F W => ?_
   refine ls F W Aa (Ap (v := Value.agg #[.int .i64 x5.1, .int .i64 x5.2]) 1 F Aa Aa RE Aa).q fun a w F W => ?_
   refine ls F W Aa (Ei (v := Value.agg #[]) RZ F Aa Aa Aa).q fun a w F W => ?_
   refine Pg (q := 1) (kx := (x5 : Int × Int)) (vx := (() : Unit)) (E := Ic) (V := F2) F W Aa Aa Aa Aa Aa Rt QD fun w W => ?_
   have W : Stw ⟨Y, [], w0⟩ [(b4, []), (b3, [.int .i64 x5.1, .int .i64 x5.2]), (b1, [.int .i64 p0.1, v1, v2])] [mp b2 Ic F2 (IQ x4 x5 ()), row v3 86 Ir x2] w := W
   refine Ae (AK (Ac (Ab ?_)))
   refine ls F W Aa (Bw F Aa Aa Aa).q fun a w F W => ?_
   refine ls F W Aa (Af F Aa).q fun a w F W => ?_
   refine Ae (Ac ?_)
   have W := W.frontZ (i := 1) Aa Aa
   have W := W.frontM (i := 2) Aa Aa
   have W := W.sub (M' := [(b1, [.int .i64 p0.1, v1, v2])]) (Z' := [row v3 86 Ir x2, mp b2 Ic F2 (IQ x4 x5 ())]) (List.Sublist.cons_cons _ (List.nil_sublist _)) (List.Sublist.refl _)
   exact ⟨_, H, F.re ⟨rfl, Aa, Aa, Aa, Aa, Aa, trivial⟩, W⟩
  have H := AO (Be hb) H
  rw [hb] at F
  clear hb
  refine A9 ?_
  iterate 2 refine Bl ?_
  refine A7 (Ac ?_)
  have W := W.frontZ (i := 1) Aa Aa
  have W := W.sub (M' := [(b1, [.int .i64 p0.1, v1, v2])]) (Z' := [mp b2 Ic F2 x4]) (List.Sublist.refl _) (List.Sublist.cons_cons _ (List.nil_sublist _))
  have H := L2 _ H
  exact ⟨_, H, F.re ⟨rfl, Aa, trivial⟩, W⟩
 rintro a w ⟨x1, hj, F, W⟩
 have H := K1 _ hj
 clear hj G1 K1 L1
 refine Ah (Ab ?_)
 refine ls F W Aa (Ai Cw Aa Aa Aa IC F Aa 1 Aa).q fun a w F W => ?_
 refine ls F W Aa (Ap (v := v1) 0 F Aa Aa IC Aa).q fun a w F W => ?_
 obtain ⟨x6, h3, H⟩ := Al H
 refine ls F W Aa (AX (v := Value.bool x6) F S5 Aa (fun w W => DC any w (v1) p0.2.1 _ h3 (((Ak h_v1) : Dw _ _ _ _ _ _) w W).nx)) fun a w F W => ?_
 refine ls F W Aa (E6 F Aa).q fun a w F W => ?_
 refine ls F W Aa (Ad F Aa).q fun a w F W => ?_
 refine Ae (Ac (Ax ?_))
 have H := AP H
 subst H
 refine AQ (.inl Aa) F W Aa (Au F Aa) ?_
 exact ⟨rfl, W.done⟩
theorem SL : Has Try.prog 49 := ⟨fun args w => Aj Try.func49 rfl (by decide) args w⟩
theorem NF : Ty Try.prog 56 false 1 := ⟨by kernel_rfl, by kernel_rfl⟩
def C2 (p0 : Nat) : Bool := (OC p0 0 || M5 p0 0)
theorem KZ (Y : Nat → Prop) (w0 : World)  (p0 : Nat) (r : Bool) (H : C2 p0 = r)  :
    Calls Try.prog 66 #[.float .f64 p0] w0 fun e w' => e = .returned (.bool r) ∧ Below w0.heap.size w0 w' := by
 refine enter Try.func66 Aa Try.ntmps66 Aa fun a F => ?_
 have W := Stw.start Y w0
 unfold C2 at H
 refine Ah (Ab ?_)
 refine ls F W Aa (Ad F Aa).q fun a w F W => ?_
 refine Ae (Ac (Ah (Ab ?_)))
 refine ls F W Aa (Af F Aa).q fun a w F W => ?_
 refine ls F W Aa (Q3 F Aa Aa).q fun a w F W => ?_
 refine ls F W Aa (Ad F Aa).q fun a w F W => ?_
 refine Ae (Ac (Ax ?_))
 subst H
 refine AQ (.inl Aa) F W Aa (Au F Aa) ?_
 exact ⟨rfl, W.done⟩
theorem SS : Has Try.prog 66 := ⟨fun args w => Aj Try.func66 rfl (by decide) args w⟩
noncomputable def CG (p0 : List Nat) : Int → Option (Int ⊕ (Unit ⊕ Bool))
  | x1 => (if x1 < (p0.length : Int) then (ix p0 x1).bind fun x2 => (if (!(C2 x2)) = true then some (.inr (.inr false)) else some (.inl (BI (x1 + 1)))) else some (.inr (.inl ())))
noncomputable def DI (p0 : List Nat) (p1 : Int) : Option Bool := (if (p0.length : Int) ≠ p1 then some false else HK (AH (CG p0) 0) fun _ => some true)
theorem Kq (Y : Nat → Prop) (w0 : World) (v1 : Value) (p0 : List Nat) (p1 : Int) (r : Bool) (H : DI p0 p1 = some r) (h_v1 : Sl w0 (NX []) (Rp.flt .f64) v1 p0) :
    Calls Try.prog 50 #[v1, .int .i64 p1] w0 fun e w' => e = .returned (.bool r) ∧ Below w0.heap.size w0 w' := by
 refine enter Try.func50 Aa Try.ntmps50 Aa fun a F => ?_
 have W := Stw.start Y w0
 unfold DI at H
 refine Ah (Ab ?_)
 refine ls F W Aa (Ad F Aa).q fun a w F W => ?_
 refine Ae (Ac (Ah (Ah (Ab ?_))))
 refine ls F W Aa (Af F Aa).q fun a w F W => ?_
 refine ls F W Aa (Bm (r := (Rp.flt .f64)) (l := p0) KX Aa F Aa (Ak h_v1)).q fun a w F W => ?_
 refine ls F W Aa (Af F Aa).q fun a w F W => ?_
 refine ls F W Aa (GK F Aa Aa).q fun a w F W => ?_
 refine Ae (Ac ?_)
 refine Av F Aa (fun hb => ?_) fun hb => ?_
 ·
  have H := AN (Bd hb) H
  rw [hb] at F
  clear hb
  refine Ah (Ab ?_)
  refine ls F W Aa (Ad F Aa).q fun a w F W => ?_
  refine Ae (Ac (Ax (AL ?_)))
  have H := AP H
  subst H
  refine AQ (.inl Aa) F W Aa (Au F Aa) ?_
  exact ⟨rfl, W.done⟩
 have H := AO (Be hb) H
 rw [hb] at F
 clear hb
 refine Ao (Ac ?_)
 obtain ⟨o1, G1, K1, L1⟩ := MZ H
 refine AE (fun a w => some (Sum.inl ()) = some o1 ∧ Fr 21 [] [(4, .bool false)] a ∧ Stw ⟨Y, [], w0⟩ [] [] w) ?_ ?_
 ·
  have H := G1
  clear G1 K1
  refine Ah (Ab ?_)
  refine ls F W Aa (Af F Aa).q fun a w F W => ?_
  refine ls F W Aa (Bm (r := (Rp.flt .f64)) (l := p0) KX Aa F Aa (Ak h_v1)).q fun a w F W => ?_
  refine ls F W Aa (Af F Aa).q fun a w F W => ?_
  refine Ae (Ac (Aq ?_))
  refine A4 H (fun s a w => Fr 21 [] [(4, .bool false), (11, v1), (12, .int .i64 (p0.length : Int)), (13, .int .i64 s)] a ∧ Stw ⟨Y, [], w0⟩ [] [] w) ⟨F.re ⟨rfl, Aa, Aa, Aa, trivial⟩, W⟩ fun s o a w H L2 hR => ?_
  obtain ⟨x1, rfl⟩ : ∃ x, x = s := ⟨s, rfl⟩
  obtain ⟨F, W⟩ := hR
  have F : Fr 21 [] [(4, .bool false), (11, v1), (12, .int .i64 (p0.length : Int)), (13, .int .i64 x1)] a := F
  have W : Stw ⟨Y, [], w0⟩ [] [] w := W
  rw [CG] at H
  refine Ah (Ab ?_)
  refine ls F W Aa (Bb F Aa Aa).q fun a w F W => ?_
  refine Ae (Ac (Ah ?_))
  refine Av F Aa (fun hb => ?_) fun hb => ?_
  ·
   have H := AN (Bd hb) H
   rw [hb] at F
   clear hb
   refine Ao (Ac (Ah (Aq (Ah (Ab ?_)))))
   obtain ⟨x2, h1, H⟩ := Al H
   refine ls F W Aa (AC (r := (Rp.flt .f64)) Jm F Aa Aa (Ak h_v1) h1).q fun a w F W => ?_
   refine ls F W Aa (As (y := Value.float .f64 x2) (j := 0) (i := x1) F Aa Aa (Ak h_v1) h1 Fl.flt.to NF Aa).q fun a w F W => ?_
   refine ls F W Aa (Ad F Aa).q fun a w F W => ?_
   refine Ae (Ac (Ah (Ab ?_)))
   refine ls F W Aa (Af F Aa).q fun a w F W => ?_
   refine ls F W Aa (AX (v := Value.bool (C2 x2)) F SS Aa (fun w W => KZ any w x2 _ Aa)) fun a w F W => ?_
   refine ls F W Aa (E6 F Aa).q fun a w F W => ?_
   refine Ae (Ac ?_)
   refine Av F Aa (fun hb => ?_) fun hb => ?_
   ·
    have H := AN hb H
    rw [hb] at F
    clear hb
    refine Ah (Ab ?_)
    refine ls F W Aa (Ad F Aa).q fun a w F W => ?_
    refine Ae (Ac (Ax (A8 ?_)))
    iterate 2 refine AL ?_
    refine A8 (AL ?_)
    have H := L2 _ H
    have H := L1 _ H
    have H := AP H
    subst H
    refine AQ (.inl Aa) F W Aa (Au F Aa) ?_
    exact ⟨rfl, W.done⟩
   have H := AO (by rw [hb]; decide) H
   rw [hb] at F
   clear hb
   refine Ao (AK (Ac (Ab ?_)))
   refine ls F W Aa (Bw F Aa Aa Aa).q fun a w F W => ?_
   refine ls F W Aa (Af F Aa).q fun a w F W => ?_
   refine Ae (Ac ?_)
   exact ⟨_, H, F.re ⟨rfl, Aa, Aa, Aa, trivial⟩, W⟩
  have H := AO (Be hb) H
  rw [hb] at F
  clear hb
  refine A9 ?_
  iterate 2 refine Bl ?_
  refine A7 (Ac ?_)
  have H := L2 _ H
  exact ⟨H, F.re ⟨rfl, trivial⟩, W⟩
 rintro a w ⟨hj, F, W⟩
 have H := K1 _ hj
 clear hj G1 K1 L1
 refine Ah (Ab ?_)
 refine ls F W Aa (Ad F Aa).q fun a w F W => ?_
 refine Ae (Ac (Ax ?_))
 have H := AP H
 subst H
 refine AQ (.inl Aa) F W Aa (Au F Aa) ?_
 exact ⟨rfl, W.done⟩
theorem Th : Has Try.prog 50 := ⟨fun args w => Aj Try.func50 rfl (by decide) args w⟩
noncomputable def CX (p0 : Int × (List (Int × Int × Int × Int × Int × Int)) × (List (Int × Int))) (p1 : List Nat) : Option Bool := ((Ej p0).bind fun x2 => (if x2 = true then (DI p1 (p0.2.1.length : Int)).bind fun x3 => some x3 else some false)).bind fun x1 => some x1
theorem FU (Y : Nat → Prop) (w0 : World) (v1 : Value) (v2 : Value) (v3 : Value) (p0 : Int × (List (Int × Int × Int × Int × Int × Int)) × (List (Int × Int))) (p1 : List Nat) (r : Bool) (H : CX p0 p1 = some r) (h_v1 : Sl w0 (NX []) Ff v1 p0.2.1) (h_v2 : Sl w0 (NX []) Fa v2 p0.2.2) (h_v3 : Sl w0 (NX []) (Rp.flt .f64) v3 p1) :
    Calls Try.prog 28 #[.agg #[.int .i64 p0.1, v1, v2], v3] w0 fun e w' => e = .returned (.bool r) ∧ Below w0.heap.size w0 w' := by
 refine enter Try.func28 Aa Try.ntmps28 Aa fun a F => ?_
 have W := Stw.start Y w0
 unfold CX at H
 refine Ah (Ab ?_)
 refine DO (cs := [.int .i64 p0.1, v1, v2]) F W Aa Aa Aa fun b1 a w F W => ?_
 refine ls F W Aa (Ad F Aa).q fun a w F W => ?_
 refine Ae (Ac ?_)
 obtain ⟨o1, G1, K1⟩ := Al H
 refine AE (fun a w => ∃ x1 : Bool, some (x1) = some o1 ∧ Fr 14 [] [(4, .bool x1)] a ∧ Stw ⟨Y, [], w0⟩ [(b1, [.int .i64 p0.1, v1, v2])] [] w) ?_ ?_
 ·
  have H := G1
  clear G1 K1
  refine Ab ?_
  refine ls F W Aa (Ap (v := Value.agg #[.int .i64 p0.1, v1, v2]) 0 F Aa Aa GC Aa).q fun a w F W => ?_
  obtain ⟨x2, h1, H⟩ := Al H
  refine ls F W Aa (AX (v := Value.bool x2) F SL Aa (fun w W => Lx any w (v1) (v2) p0 _ h1 (((Ak h_v1) : Dw _ _ _ _ _ _) w W).nx (((Ak h_v2) : Dw _ _ _ _ _ _) w W).nx)) fun a w F W => ?_
  refine ls F W Aa (Af F Aa).q fun a w F W => ?_
  rcases Bool.eq_false_or_eq_true x2 with hb | hb
  ·
   have H := AN hb H
   rw [hb] at F
   clear hb
   refine AG F W (Ag F Aa Aa Aa Aa) Aa (Am Aa) (Af F Aa).q fun a w F W => ?_
   refine AG F W (Ag F Aa Aa Aa Aa) Aa (Am Aa) (Ai Cw Aa Aa Aa IC F Aa 1 Aa).q fun a w F W => ?_
   refine AG F W (Ag F Aa Aa Aa Aa) Aa (Am Aa) (Ap (v := v1) 0 F Aa Aa IC Aa).q fun a w F W => ?_
   refine AG F W (Ag F Aa Aa Aa Aa) Aa (Am Aa) (Bm (r := Ff) (l := p0.2.1) Jj Aa F Aa (Ak h_v1)).q fun a w F W => ?_
   refine Lz (Ag F Aa Aa Aa Aa) ?_
   obtain ⟨x3, h2, H⟩ := Al H
   refine ls F W Aa (AX (v := Value.bool x3) F Th Aa (fun w W => Kq any w (v3) p1 (p0.2.1.length : Int) _ h2 (((Ak h_v3) : Dw _ _ _ _ _ _) w W).nx)) fun a w F W => ?_
   refine ls F W Aa (Aw F Aa Aa Aa).q fun a w F W => ?_
   refine ls F W Aa (Ad F Aa).q fun a w F W => ?_
   refine Ae (Ac ?_)
   exact ⟨_, H, F.re ⟨rfl, trivial⟩, W⟩
  have H := AO (by rw [hb]; decide) H
  rw [hb] at F
  clear hb
  iterate 5 refine CL F Aa Aa Aa Aa Aa Aa Aa fun a F => ?_
  refine ls F W Aa (Ay F Aa Aa Aa).q fun a w F W => ?_
  refine ls F W Aa (Ad F Aa).q fun a w F W => ?_
  refine Ae (Ac ?_)
  exact ⟨_, H, F.re ⟨rfl, trivial⟩, W⟩
 rintro a w ⟨x1, hj, F, W⟩
 have hj := AP hj
 subst hj
 have H := K1
 clear G1 K1
 refine Ax ?_
 have H := AP H
 subst H
 refine AQ (.inl Aa) F W Aa (Au F Aa) ?_
 exact ⟨rfl, W.done⟩
theorem PK : type_of% Try.underlying45 := Try.underlying45
theorem RW : Has Try.prog 28 := ⟨fun args w => Aj Try.func28 rfl (by decide) args w⟩
abbrev Ca : Dp (Value × Nat × List Int) := (Dp.sl 3 (Rp.int .i64))
abbrev D8 (p : Value × Nat × List Int) : Nat × List Int := p.2
theorem PV : Et Try.prog 45 36 1 24 := Et.of PK (by kernel_rfl) (by kernel_rfl) (by kernel_rfl) (by decide)
theorem Sr : (Try.prog.info? 36).bind (·.zero) = some (.slice none 0 0) := by kernel_rfl
theorem MO : Try.prog.follows .mixedOrders = true := by kernel_rfl
theorem Rc : R7 Try.prog 46 Extern.MathFloatBits.float64frombits := fun args w => run_callFunc_extern Try.func46 (by kernel_rfl) (by kernel_rfl) (by kernel_rfl) (by kernel_rfl) args w
noncomputable def DK (p0 : Int) : Option Nat := (if 0 ≤ p0 then some 9218868437227405312 else some 18442240474082181120).bind fun x1 => some (Int.toNat x1)
theorem Gf (Y : Nat → Prop) (w0 : World)  (p0 : Int) (r : Nat) (H : DK p0 = some r)  :
    Calls Try.prog 30 #[.int .i64 p0] w0 fun e w' => e = .returned (.float .f64 r) ∧ Below w0.heap.size w0 w' := by
 refine enter Try.func30 Aa Try.ntmps30 Aa fun a F => ?_
 have W := Stw.start Y w0
 unfold DK at H
 refine Ah (Ab ?_)
 refine ls F W Aa (Ad F Aa).q fun a w F W => ?_
 refine Ae (Ac (Ah (Ab ?_)))
 refine ls F W Aa (Ad F Aa).q fun a w F W => ?_
 refine Ae (Ac ?_)
 obtain ⟨o1, G1, K1⟩ := Al H
 refine AE (fun a w => ∃ x1 : Int, some (x1) = some o1 ∧ Fr 8 [] [(2, .float .f64 0), (3, .int .u64 x1)] a ∧ Stw ⟨Y, [], w0⟩ [] [] w) ?_ ?_
 ·
  have H := G1
  clear G1 K1
  refine Ah (Ab ?_)
  refine ls F W Aa (Af F Aa).q fun a w F W => ?_
  refine ls F W Aa (Fk F Aa Aa).q fun a w F W => ?_
  refine Ae (Ac ?_)
  refine Av F Aa (fun hb => ?_) fun hb => ?_
  ·
   have H := AN (Bd hb) H
   rw [hb] at F
   clear hb
   refine Ab ?_
   refine ls F W Aa (Ad F Aa).q fun a w F W => ?_
   refine Ae (Ac ?_)
   exact ⟨_, H, F.re ⟨rfl, Aa, trivial⟩, W⟩
  have H := AO (Be hb) H
  rw [hb] at F
  clear hb
  refine Ab ?_
  refine ls F W Aa (Ad F Aa).q fun a w F W => ?_
  refine Ae (Ac ?_)
  exact ⟨_, H, F.re ⟨rfl, Aa, trivial⟩, W⟩
 rintro a w ⟨x1, hj, F, W⟩
 have hj := AP hj
 subst hj
 have H := K1
 clear G1 K1
 refine Ah (Ab ?_)
 refine ls F W Aa (Af F Aa).q fun a w F W => ?_
 refine ls F W Aa (Hy (v := Value.float .f64 (Int.toNat x1)) F Rc Aa (fun w => rfl)).q fun a w F W => ?_
 refine ls F W Aa (Ad F Aa).q fun a w F W => ?_
 refine Ae (Ac (Ax ?_))
 have H := AP H
 subst H
 refine AQ (.inl Aa) F W Aa (Au F Aa) ?_
 exact ⟨rfl, W.done⟩
theorem RD : Has Try.prog 30 := ⟨fun args w => Aj Try.func30 rfl (by decide) args w⟩
theorem I9 : (Try.prog.underlying 9).map (fun d => match d with | .interface _ => true | _ => false) = some false := by kernel_rfl
def B6 (p0 : Int) (p1 : Int) : Int × Int := (IntKind.u64.wrap ((IntKind.u64.wrap ((IntKind.u64.wrap ((GZ .u64 p0 32) * (GZ .u64 p1 32))) + (GZ .u64 (IntKind.u64.wrap ((IntKind.u64.wrap ((GZ .u64 p0 32) * (Kj .u64 p1 4294967295))) + (GZ .u64 (IntKind.u64.wrap ((Kj .u64 p0 4294967295) * (Kj .u64 p1 4294967295))) 32))) 32))) + (GZ .u64 (IntKind.u64.wrap ((Kj .u64 (IntKind.u64.wrap ((IntKind.u64.wrap ((GZ .u64 p0 32) * (Kj .u64 p1 4294967295))) + (GZ .u64 (IntKind.u64.wrap ((Kj .u64 p0 4294967295) * (Kj .u64 p1 4294967295))) 32))) 4294967295) + (IntKind.u64.wrap ((Kj .u64 p0 4294967295) * (GZ .u64 p1 32))))) 32)), IntKind.u64.wrap (p0 * p1))
theorem H6 (Y : Nat → Prop) (w0 : World)  (p0 : Int) (p1 : Int) (r : Int × Int) (H : B6 p0 p1 = r)  :
    Calls Try.prog 68 #[.int .u64 p0, .int .u64 p1] w0 fun e w' => e = .returned (.tuple #[.int .u64 r.1, .int .u64 r.2]) ∧ Below w0.heap.size w0 w' := by
 refine enter Try.func68 Aa Try.ntmps68 Aa fun a F => ?_
 have W := Stw.start Y w0
 unfold B6 at H
 refine Ah (Ab ?_)
 iterate 2 refine ls F W Aa (Ad F Aa).q fun a w F W => ?_
 refine Ae (Ac (Ah (Ab ?_)))
 refine ls F W Aa (Af F Aa).q fun a w F W => ?_
 refine ls F W Aa (OQ F Aa Aa).q fun a w F W => ?_
 refine ls F W Aa (Ad F Aa).q fun a w F W => ?_
 refine Ae (Ac (Ah (Ab ?_)))
 refine ls F W Aa (Af F Aa).q fun a w F W => ?_
 refine ls F W Aa (Je F Aa Aa (by decide)).q fun a w F W => ?_
 refine ls F W Aa (Ad F Aa).q fun a w F W => ?_
 refine Ae (Ac (Ah (Ab ?_)))
 refine ls F W Aa (Af F Aa).q fun a w F W => ?_
 refine ls F W Aa (OQ F Aa Aa).q fun a w F W => ?_
 refine ls F W Aa (Ad F Aa).q fun a w F W => ?_
 refine Ae (Ac (Ah (Ab ?_)))
 refine ls F W Aa (Af F Aa).q fun a w F W => ?_
 refine ls F W Aa (Je F Aa Aa (by decide)).q fun a w F W => ?_
 refine ls F W Aa (Ad F Aa).q fun a w F W => ?_
 refine Ae (Ac (Ah (Ab ?_)))
 iterate 2 refine ls F W Aa (Af F Aa).q fun a w F W => ?_
 refine ls F W Aa (LG F Aa Aa Aa).q fun a w F W => ?_
 refine ls F W Aa (Ad F Aa).q fun a w F W => ?_
 refine Ae (Ac (Ah (Ab ?_)))
 iterate 2 refine ls F W Aa (Af F Aa).q fun a w F W => ?_
 refine ls F W Aa (LG F Aa Aa Aa).q fun a w F W => ?_
 refine ls F W Aa (Af F Aa).q fun a w F W => ?_
 refine ls F W Aa (Je F Aa Aa (by decide)).q fun a w F W => ?_
 refine ls F W Aa (Bw F Aa Aa Aa).q fun a w F W => ?_
 refine ls F W Aa (Ad F Aa).q fun a w F W => ?_
 refine Ae (Ac (Ah (Ab ?_)))
 refine ls F W Aa (Af F Aa).q fun a w F W => ?_
 refine ls F W Aa (OQ F Aa Aa).q fun a w F W => ?_
 refine ls F W Aa (Ad F Aa).q fun a w F W => ?_
 refine Ae (Ac (Ah (Ab ?_)))
 refine ls F W Aa (Af F Aa).q fun a w F W => ?_
 refine ls F W Aa (Je F Aa Aa (by decide)).q fun a w F W => ?_
 refine ls F W Aa (Ad F Aa).q fun a w F W => ?_
 refine Ae (Ac (Ah (Ab ?_)))
 iterate 3 refine ls F W Aa (Af F Aa).q fun a w F W => ?_
 refine ls F W Aa (LG F Aa Aa Aa).q fun a w F W => ?_
 refine ls F W Aa (Bw F Aa Aa Aa).q fun a w F W => ?_
 refine ls F W Aa (Ad F Aa).q fun a w F W => ?_
 refine Ae (Ac (Ah (Ab ?_)))
 iterate 2 refine ls F W Aa (Af F Aa).q fun a w F W => ?_
 refine ls F W Aa (LG F Aa Aa Aa).q fun a w F W => ?_
 refine ls F W Aa (Af F Aa).q fun a w F W => ?_
 refine ls F W Aa (Bw F Aa Aa Aa).q fun a w F W => ?_
 refine ls F W Aa (Af F Aa).q fun a w F W => ?_
 refine ls F W Aa (Je F Aa Aa (by decide)).q fun a w F W => ?_
 refine ls F W Aa (Bw F Aa Aa Aa).q fun a w F W => ?_
 refine ls F W Aa (Ad F Aa).q fun a w F W => ?_
 refine Ae (Ac (Ah (Ab ?_)))
 iterate 2 refine ls F W Aa (Af F Aa).q fun a w F W => ?_
 refine ls F W Aa (LG F Aa Aa Aa).q fun a w F W => ?_
 refine ls F W Aa (Ad F Aa).q fun a w F W => ?_
 refine Ae (Ac (Ax ?_))
 subst H
 refine FK (.inl Aa) F W Aa (Au F Aa) (Au F Aa) ?_
 exact ⟨rfl, W.done⟩
theorem Tt : Has Try.prog 68 := ⟨fun args w => Aj Try.func68 rfl (by decide) args w⟩
def Az (p0 : Int) (p1 : Int) : Int × Int := ((B6 p0 p1).1, (B6 p0 p1).2)
theorem GB (Y : Nat → Prop) (w0 : World)  (p0 : Int) (p1 : Int) (r : Int × Int) (H : Az p0 p1 = r)  :
    Calls Try.prog 51 #[.int .u64 p0, .int .u64 p1] w0 fun e w' => e = .returned (.tuple #[.int .u64 r.1, .int .u64 r.2]) ∧ Below w0.heap.size w0 w' := by
 refine enter Try.func51 Aa Try.ntmps51 Aa fun a F => ?_
 have W := Stw.start Y w0
 unfold Az at H
 refine Ah (Ab ?_)
 iterate 2 refine ls F W Aa (Ad F Aa).q fun a w F W => ?_
 refine Ae (Ac (Ah ?_))
 refine JN F Aa ?_
 refine Ao (Ac (Ah (Ab ?_)))
 iterate 2 refine ls F W Aa (Af F Aa).q fun a w F W => ?_
 refine ls F W Aa (AX (v := Value.tuple #[.int .u64 ((B6 p0 p1).1), .int .u64 ((B6 p0 p1).2)]) F Tt Aa (fun w W => H6 any w p0 p1 _ Aa)) fun a w F W => ?_
 refine ls F W Aa (Af F Aa).q fun a w F W => ?_
 refine ls F W Aa (Bj (v := Value.int .u64 ((B6 p0 p1).1)) F Aa Aa).q fun a w F W => ?_
 refine ls F W Aa (Bj (v := Value.int .u64 ((B6 p0 p1).2)) F Aa Aa).q fun a w F W => ?_
 iterate 2 refine ls F W Aa (Ad F Aa).q fun a w F W => ?_
 refine Ae (Ac (Ah (Ab ?_)))
 iterate 2 refine ls F W Aa (Af F Aa).q fun a w F W => ?_
 iterate 2 refine ls F W Aa (Ad F Aa).q fun a w F W => ?_
 refine Ae (Ac (Ax ?_))
 subst H
 refine FK (.inl Aa) F W Aa (Au F Aa) (Au F Aa) ?_
 exact ⟨rfl, W.done⟩
theorem LI : type_of% Try.underlying92 := Try.underlying92
theorem SF : Has Try.prog 51 := ⟨fun args w => Aj Try.func51 rfl (by decide) args w⟩
noncomputable def A3  : (List Nat × Int) → Option ((List Nat × Int) ⊕ (List Nat))
  | (x3, x4) => (if x4 < (x3.length : Int) then (Fo x3 x4 (x3.length : Int)).bind fun x5 => (Fo x3 0 x4).bind fun x6 => some (.inl (Kd x3 x4 (min x6.length x5.length) x6, BI (x4 + ((min x6.length x5.length : Nat) : Int)))) else some (.inr x3))
noncomputable def AY (p0 : List Nat) (p1 : Int) : Option (List Nat) := (if p1 < 0 then none else (if (decide (0 < ((Az (IntKind.u64.wrap (p0.length : Int)) (IntKind.u64.wrap p1)).1)) || decide (9223372036854775807 < ((Az (IntKind.u64.wrap (p0.length : Int)) (IntKind.u64.wrap p1)).2))) = true then none else (mk (BI ((Az (IntKind.u64.wrap (p0.length : Int)) (IntKind.u64.wrap p1)).2)) (0 : Nat)).bind fun x1 => (AH (A3) (Kd x1 0 (min p0.length x1.length) p0, ((min p0.length x1.length : Nat) : Int))).bind fun x2 => some x2))
theorem BG (Y : Nat → Prop) (w0 : World) (v1 : Value) (p0 : List Nat) (p1 : Int) (r : List Nat) (H : AY p0 p1 = some r) (s_v1 : Sl w0 Y (Rp.flt .f64) v1 p0) :
    Calls Try.prog 29 #[v1, .int .i64 p1] w0 fun e w' => ∃ x : Value, e = .returned (x) ∧ Stw ⟨Y, [], w0⟩ [] [row (x) 56 (Rp.flt .f64) r] w' := by
 refine enter Try.func29 Aa Try.ntmps29 Aa fun a F => ?_
 have W := Stw.start Y w0
 have h_v1 := W.nx s_v1
 unfold AY at H
 refine Ah (Ab ?_)
 refine ls F W Aa (Ad F Aa).q fun a w F W => ?_
 refine Ae (Ac (Ah (Ah (Ab ?_))))
 refine ls F W Aa (Af F Aa).q fun a w F W => ?_
 refine ls F W Aa (Bb F Aa Aa).q fun a w F W => ?_
 refine Ae (Ac ?_)
 refine Av F Aa (fun hb => ?_) fun hb => ?_
 ·
  have H := AN (Bd hb) H
  rw [hb] at F
  clear hb
  refine Ab ?_
  refine ls F W Aa (FL I9 F Aa).q fun a w F W => ?_
  exact nomatch H
 have H := AO (Be hb) H
 rw [hb] at F
 clear hb
 refine Ao (Ac (Ah (Ab ?_)))
 refine ls F W Aa (Af F Aa).q fun a w F W => ?_
 refine ls F W Aa (Bm (r := (Rp.flt .f64)) (l := p0) KX Aa F Aa (Ak h_v1)).q fun a w F W => ?_
 refine ls F W Aa (EG Ol LI F Aa).q fun a w F W => ?_
 refine ls F W Aa (Af F Aa).q fun a w F W => ?_
 refine ls F W Aa (EG Ol LI F Aa).q fun a w F W => ?_
 refine ls F W Aa (AX (v := Value.tuple #[.int .u64 ((Az (IntKind.u64.wrap (p0.length : Int)) (IntKind.u64.wrap p1)).1), .int .u64 ((Az (IntKind.u64.wrap (p0.length : Int)) (IntKind.u64.wrap p1)).2)]) F SF Aa (fun w W => GB any w (IntKind.u64.wrap (p0.length : Int)) (IntKind.u64.wrap p1) _ Aa)) fun a w F W => ?_
 refine ls F W Aa (Af F Aa).q fun a w F W => ?_
 refine ls F W Aa (Bj (v := Value.int .u64 ((Az (IntKind.u64.wrap (p0.length : Int)) (IntKind.u64.wrap p1)).1)) F Aa Aa).q fun a w F W => ?_
 refine ls F W Aa (Bj (v := Value.int .u64 ((Az (IntKind.u64.wrap (p0.length : Int)) (IntKind.u64.wrap p1)).2)) F Aa Aa).q fun a w F W => ?_
 iterate 2 refine ls F W Aa (Ad F Aa).q fun a w F W => ?_
 refine Ae (Ac (Ah ?_))
 refine AE (fun a w => Fr 48 [] [(0, v1), (4, .slice none 0 0), (6, .int .u64 ((Az (IntKind.u64.wrap (p0.length : Int)) (IntKind.u64.wrap p1)).2)), (26, .bool (decide (0 < ((Az (IntKind.u64.wrap (p0.length : Int)) (IntKind.u64.wrap p1)).1)) || decide (9223372036854775807 < ((Az (IntKind.u64.wrap (p0.length : Int)) (IntKind.u64.wrap p1)).2))))] a ∧ Stw ⟨Y, [], w0⟩ [] [] w) ?_ ?_
 ·
  refine Ab ?_
  refine ls F W Aa (Af F Aa).q fun a w F W => ?_
  refine ls F W Aa (DL F Aa Aa).q fun a w F W => ?_
  refine ls F W Aa (Af F Aa).q fun a w F W => ?_
  rcases Bool.eq_false_or_eq_true (decide (0 < ((Az (IntKind.u64.wrap (p0.length : Int)) (IntKind.u64.wrap p1)).1))) with hb0 | hb0
  ·
   rw [hb0] at F
   iterate 2 refine CL F Aa Aa Aa Aa Aa Aa Aa fun a F => ?_
   refine ls F W Aa (Aw F Aa Aa Aa).q fun a w F W => ?_
   refine Ae (Ac ?_)
   exact ⟨F.re ⟨rfl, Aa, Aa, (by show some (Value.bool true) = some (Value.bool (decide (0 < ((Az (IntKind.u64.wrap (p0.length : Int)) (IntKind.u64.wrap p1)).1)) || decide (9223372036854775807 < ((Az (IntKind.u64.wrap (p0.length : Int)) (IntKind.u64.wrap p1)).2)))); try rw [hb0]; all_goals simp only [Bool.not_true, Bool.not_false, Bool.true_and, Bool.false_and, Bool.true_or, Bool.false_or, Bool.and_true, Bool.or_false, cond_true, cond_false]), trivial⟩, W⟩
  rw [hb0] at F
  refine AG F W (Ag F Aa Aa Aa Aa) Aa (Am Aa) (Af F Aa).q fun a w F W => ?_
  refine AG F W (Ag F Aa Aa Aa Aa) Aa (Am Aa) (DL F Aa Aa).q fun a w F W => ?_
  refine ls F W Aa (Ay F Aa Aa Aa).q fun a w F W => ?_
  refine Ae (Ac ?_)
  exact ⟨F.re ⟨rfl, Aa, Aa, (by show some (Value.bool (decide (9223372036854775807 < ((Az (IntKind.u64.wrap (p0.length : Int)) (IntKind.u64.wrap p1)).2)))) = some (Value.bool (decide (0 < ((Az (IntKind.u64.wrap (p0.length : Int)) (IntKind.u64.wrap p1)).1)) || decide (9223372036854775807 < ((Az (IntKind.u64.wrap (p0.length : Int)) (IntKind.u64.wrap p1)).2)))); try rw [hb0]; all_goals simp only [Bool.not_true, Bool.not_false, Bool.true_and, Bool.false_and, Bool.true_or, Bool.false_or, Bool.and_true, Bool.or_false, cond_true, cond_false]), trivial⟩, W⟩
 rintro a w ⟨F, W⟩
 refine Av F Aa (fun hb => ?_) fun hb => ?_
 ·
  have H := AN hb H
  rw [hb] at F
  clear hb
  refine Ab ?_
  refine ls F W Aa (FL I9 F Aa).q fun a w F W => ?_
  exact nomatch H
 have H := AO (by rw [hb]; decide) H
 rw [hb] at F
 clear hb
 refine Ao (Ac (Ah (Ab ?_)))
 refine ls F W Aa (Af F Aa).q fun a w F W => ?_
 refine ls F W Aa (EG LI Ol F Aa).q fun a w F W => ?_
 obtain ⟨x1, h1, H⟩ := Al H
 refine MI (r := (Rp.flt .f64)) (0 : Nat) F W Aa Jm Re Aa Aa (fun w A => Fl.flt.mk' w A _) h1 Aa fun v2 a w F W => ?_
 refine ls F W Aa (Ad F Aa).q fun a w F W => ?_
 refine Ae (Ac (Ah (Ab ?_)))
 iterate 2 refine ls F W Aa (Af F Aa).q fun a w F W => ?_
 refine PO (r := (Rp.flt .f64)) (k := 0) F W Aa Jm Aa Aa Aa Aa (Nn W s_v1) fun a w F W => ?_
 have W : Stw ⟨Y, [], w0⟩ [] [row v2 56 (Rp.flt .f64) (Kd x1 0 (min p0.length x1.length) p0)] w := W
 refine ls F W Aa (Ad F Aa).q fun a w F W => ?_
 refine Ae (Ac ?_)
 obtain ⟨o1, G1, K1⟩ := Al H
 refine AE (fun a w => ∃ x2 : List Nat, some (x2) = some o1 ∧ Fr 48 [] [(4, .slice none 0 0), (7, v2)] a ∧ Stw ⟨Y, [], w0⟩ [] [row v2 56 (Rp.flt .f64) x2] w) ?_ ?_
 ·
  have H := G1
  clear G1 K1
  refine Aq ?_
  refine A4 H (fun s a w => Fr 48 [] [(4, .slice none 0 0), (7, v2), (8, .int .i64 s.2)] a ∧ Stw ⟨Y, [], w0⟩ [] [row v2 56 (Rp.flt .f64) s.1] w) ⟨F.re ⟨rfl, Aa, Aa, trivial⟩, W⟩ fun s o a w H L2 hR => ?_
  obtain ⟨x3, x4⟩ := s
  obtain ⟨F, W⟩ := hR
  have F : Fr 48 [] [(4, .slice none 0 0), (7, v2), (8, .int .i64 x4)] a := F
  have W : Stw ⟨Y, [], w0⟩ [] [row v2 56 (Rp.flt .f64) x3] w := W
  rw [A3] at H
  refine Ah (Ah (Ab ?_))
  iterate 2 refine ls F W Aa (Af F Aa).q fun a w F W => ?_
  refine ls F W Aa (Bm (r := (Rp.flt .f64)) (l := x3) KX Aa F Aa (An 0 Aa)).q fun a w F W => ?_
  refine ls F W Aa (Bb F Aa Aa).q fun a w F W => ?_
  refine Ae (Ac ?_)
  refine Av F Aa (fun hb => ?_) fun hb => ?_
  ·
   have H := AN (Bd hb) H
   rw [hb] at F
   clear hb
   refine Ao (Ac (Aq ?_))
   refine NU 7 [0] [1, 2, 3, 4, 5, 6] (fun ch a d v w h => by cases d <;> exact h) W MO (by kernel_rfl) ?_
   refine hm F Aa Aa Aa fun a F => ?_
   refine Py ?_
   iterate 2 refine hs F Aa Aa Aa (Af F Aa).q fun a F => ?_
   obtain ⟨x5, h2, H⟩ := Al H
   refine hs F Aa Aa Aa (Ho (r := (Rp.flt .f64)) Jm F Aa Aa Aa (An 0 Aa) h2).q fun a F => ?_
   iterate 2 refine hs F Aa Aa Aa (Af F Aa).q fun a F => ?_
   obtain ⟨x6, h3, H⟩ := Al H
   refine hs F Aa Aa Aa (Ho (r := (Rp.flt .f64)) Jm F Aa Aa Aa (An 0 Aa) h3).q fun a F => ?_
   refine QB fun w W => ?_
   have W : Stw ⟨Y, [], w0⟩ [] [row v2 56 (Rp.flt .f64) x3] w := W
   refine NA (r := (Rp.flt .f64)) (v := v2) (k := 0) F W Aa Jm Aa Aa Aa Aa h2 (Kf.sub (Cz W 0 Aa) h3) fun a w F W => ?_
   have W : Stw ⟨Y, [], w0⟩ [] [row v2 56 (Rp.flt .f64) (Kd x3 x4 (min x6.length x5.length) x6)] w := W
   refine ls F W Aa (Bw F Aa Aa Aa).q fun a w F W => ?_
   refine ls F W Aa (Ad F Aa).q fun a w F W => ?_
   refine Ae (AK (Ac ?_))
   exact ⟨_, H, F.re ⟨rfl, Aa, Aa, trivial⟩, W⟩
  have H := AO (Be hb) H
  rw [hb] at F
  clear hb
  refine A9 ?_
  iterate 2 refine Bl ?_
  refine A7 (Ac ?_)
  have H := L2 _ H
  exact ⟨_, H, F.re ⟨rfl, Aa, trivial⟩, W⟩
 rintro a w ⟨x2, hj, F, W⟩
 have hj := AP hj
 subst hj
 have H := K1
 clear G1 K1
 refine Ah (Ab ?_)
 refine ls F W Aa (Af F Aa).q fun a w F W => ?_
 refine ls F W Aa (Ad F Aa).q fun a w F W => ?_
 refine Ae (Ac (Ax ?_))
 have H := AP H
 subst H
 refine AQ (.inl Aa) F W Aa (Au F Aa) ?_
 exact ⟨(v2), Aa, W⟩
theorem SA : type_of% Try.underlying5 := Try.underlying5
theorem Te : type_of% Try.underlying9 := Try.underlying9
theorem Kw : type_of% Try.underlying36 := Try.underlying36
theorem Ry : type_of% Try.underlying59 := Try.underlying59
theorem RG : Has Try.prog 29 := ⟨fun args w => Aj Try.func29 rfl (by decide) args w⟩
theorem RF : (Try.prog.info? 29).bind (·.zero) = some (.slice none 0 0) := by kernel_rfl
theorem OD : Ty Try.prog 29 false 1 := ⟨by kernel_rfl, by kernel_rfl⟩
theorem Z3 : (Try.prog.info? 3).bind (·.zero) = some (.int .i64 0) := by kernel_rfl
theorem Fi : Et Try.prog 36 3 1 8 := Et.of Kw (by kernel_rfl) (by kernel_rfl) (by kernel_rfl) (by decide)
noncomputable def Ds (p0 : Int) : Option Int := (if 4294967296 ≤ p0 then some (GZ .u64 p0 32, 32) else some (p0, 0)).bind fun (x1, x2) => (if 65536 ≤ x1 then some (GZ .u64 x1 16, BI (x2 + 16)) else some (x1, x2)).bind fun (x3, x4) => (if 256 ≤ x3 then some (GZ .u64 x3 8, BI (x4 + 8)) else some (x3, x4)).bind fun (x5, x6) => (ix ([0, 1, 2, 2, 3, 3, 3, 3, 4, 4, 4, 4, 4, 4, 4, 4, 5, 5, 5, 5, 5, 5, 5, 5, 5, 5, 5, 5, 5, 5, 5, 5, 6, 6, 6, 6, 6, 6, 6, 6, 6, 6, 6, 6, 6, 6, 6, 6, 6, 6, 6, 6, 6, 6, 6, 6, 6, 6, 6, 6, 6, 6, 6, 6, 7, 7, 7, 7, 7, 7, 7, 7, 7, 7, 7, 7, 7, 7, 7, 7, 7, 7, 7, 7, 7, 7, 7, 7, 7, 7, 7, 7, 7, 7, 7, 7, 7, 7, 7, 7, 7, 7, 7, 7, 7, 7, 7, 7, 7, 7, 7, 7, 7, 7, 7, 7, 7, 7, 7, 7, 7, 7, 7, 7, 7, 7, 7, 7, 8, 8, 8, 8, 8, 8, 8, 8, 8, 8, 8, 8, 8, 8, 8, 8, 8, 8, 8, 8, 8, 8, 8, 8, 8, 8, 8, 8, 8, 8, 8, 8, 8, 8, 8, 8, 8, 8, 8, 8, 8, 8, 8, 8, 8, 8, 8, 8, 8, 8, 8, 8, 8, 8, 8, 8, 8, 8, 8, 8, 8, 8, 8, 8, 8, 8, 8, 8, 8, 8, 8, 8, 8, 8, 8, 8, 8, 8, 8, 8, 8, 8, 8, 8, 8, 8, 8, 8, 8, 8, 8, 8, 8, 8, 8, 8, 8, 8, 8, 8, 8, 8, 8, 8, 8, 8, 8, 8, 8, 8, 8, 8, 8, 8, 8, 8, 8, 8, 8, 8, 8, 8, 8, 8, 8, 8, 8, 8] : List UInt8) (IntKind.u8.wrap x5)).bind fun x7 => some (BI (x6 + (BI (x7.toNat : Int))))
theorem Iv (Y : Nat → Prop) (w0 : World)  (p0 : Int) (r : Int) (H : Ds p0 = some r)  :
    Calls Try.prog 78 #[.int .u64 p0] w0 fun e w' => e = .returned (.int .i64 r) ∧ Below w0.heap.size w0 w' := by
 refine enter Try.func78 Aa Try.ntmps78 Aa fun a F => ?_
 have W := Stw.start Y w0
 unfold Ds at H
 refine Ah (Ab ?_)
 refine ls F W Aa (Ad F Aa).q fun a w F W => ?_
 refine Ae (Ac ?_)
 obtain ⟨o1, G1, K1⟩ := Al H
 refine AE (fun a w => ∃ x1 : Int, ∃ x2 : Int, some ((x1, x2)) = some o1 ∧ Fr 25 [] [(0, .int .u64 x1), (2, .int .i64 x2)] a ∧ Stw ⟨Y, [], w0⟩ [] [] w) ?_ ?_
 ·
  have H := G1
  clear G1 K1
  refine Ah (Ab ?_)
  refine ls F W Aa (Af F Aa).q fun a w F W => ?_
  refine ls F W Aa (Fk F Aa Aa).q fun a w F W => ?_
  refine Ae (Ac ?_)
  refine Av F Aa (fun hb => ?_) fun hb => ?_
  ·
   have H := AN (Bd hb) H
   rw [hb] at F
   clear hb
   refine Ah (Ab ?_)
   refine ls F W Aa (Af F Aa).q fun a w F W => ?_
   refine ls F W Aa (Je F Aa Aa (by decide)).q fun a w F W => ?_
   refine ls F W Aa (Ad F Aa).q fun a w F W => ?_
   refine Ae (Ac (Ab ?_))
   refine ls F W Aa (Ad F Aa).q fun a w F W => ?_
   refine Ae (Ac ?_)
   exact ⟨_, _, H, F.re ⟨rfl, Aa, trivial⟩, W⟩
  have H := AO (Be hb) H
  rw [hb] at F
  clear hb
  refine Ao (Ac ?_)
  exact ⟨_, _, H, F.re ⟨rfl, Aa, trivial⟩, W⟩
 rintro a w ⟨x1, x2, hj, F, W⟩
 have hj := AP hj
 subst hj
 have H := K1
 clear G1 K1
 obtain ⟨o2, G2, K2⟩ := Al H
 refine AE (fun a w => ∃ x3 : Int, ∃ x4 : Int, some ((x3, x4)) = some o2 ∧ Fr 25 [] [(0, .int .u64 x3), (2, .int .i64 x4)] a ∧ Stw ⟨Y, [], w0⟩ [] [] w) ?_ ?_
 ·
  have H := G2
  clear G2 K2
  refine Ah (Ab ?_)
  refine ls F W Aa (Af F Aa).q fun a w F W => ?_
  refine ls F W Aa (Fk F Aa Aa).q fun a w F W => ?_
  refine Ae (Ac ?_)
  refine Av F Aa (fun hb => ?_) fun hb => ?_
  ·
   have H := AN (Bd hb) H
   rw [hb] at F
   clear hb
   refine Ah (Ab ?_)
   refine ls F W Aa (Af F Aa).q fun a w F W => ?_
   refine ls F W Aa (Je F Aa Aa (by decide)).q fun a w F W => ?_
   refine ls F W Aa (Ad F Aa).q fun a w F W => ?_
   refine Ae (Ac (Ab ?_))
   refine ls F W Aa (Af F Aa).q fun a w F W => ?_
   refine ls F W Aa (Bw F Aa Aa Aa).q fun a w F W => ?_
   refine ls F W Aa (Ad F Aa).q fun a w F W => ?_
   refine Ae (Ac ?_)
   exact ⟨_, _, H, F.re ⟨rfl, Aa, trivial⟩, W⟩
  have H := AO (Be hb) H
  rw [hb] at F
  clear hb
  refine Ao (Ac ?_)
  exact ⟨_, _, H, F.re ⟨rfl, Aa, trivial⟩, W⟩
 rintro a w ⟨x3, x4, hj, F, W⟩
 have hj := AP hj
 subst hj
 have H := K2
 clear G2 K2
 obtain ⟨o3, G3, K3⟩ := Al H
 refine AE (fun a w => ∃ x5 : Int, ∃ x6 : Int, some ((x5, x6)) = some o3 ∧ Fr 25 [] [(0, .int .u64 x5), (2, .int .i64 x6)] a ∧ Stw ⟨Y, [], w0⟩ [] [] w) ?_ ?_
 ·
  have H := G3
  clear G3 K3
  refine Ah (Ab ?_)
  refine ls F W Aa (Af F Aa).q fun a w F W => ?_
  refine ls F W Aa (Fk F Aa Aa).q fun a w F W => ?_
  refine Ae (Ac ?_)
  refine Av F Aa (fun hb => ?_) fun hb => ?_
  ·
   have H := AN (Bd hb) H
   rw [hb] at F
   clear hb
   refine Ah (Ab ?_)
   refine ls F W Aa (Af F Aa).q fun a w F W => ?_
   refine ls F W Aa (Je F Aa Aa (by decide)).q fun a w F W => ?_
   refine ls F W Aa (Ad F Aa).q fun a w F W => ?_
   refine Ae (Ac (Ab ?_))
   refine ls F W Aa (Af F Aa).q fun a w F W => ?_
   refine ls F W Aa (Bw F Aa Aa Aa).q fun a w F W => ?_
   refine ls F W Aa (Ad F Aa).q fun a w F W => ?_
   refine Ae (Ac ?_)
   exact ⟨_, _, H, F.re ⟨rfl, Aa, trivial⟩, W⟩
  have H := AO (Be hb) H
  rw [hb] at F
  clear hb
  refine Ao (Ac ?_)
  exact ⟨_, _, H, F.re ⟨rfl, Aa, trivial⟩, W⟩
 rintro a w ⟨x5, x6, hj, F, W⟩
 have hj := AP hj
 subst hj
 have H := K3
 clear G3 K3
 refine Ah (Ab ?_)
 iterate 2 refine ls F W Aa (Af F Aa).q fun a w F W => ?_
 refine ls F W Aa (EG Ry SA F Aa).q fun a w F W => ?_
 obtain ⟨x7, h1, H⟩ := Al H
 refine ls F W Aa (OI (l := ([0, 1, 2, 2, 3, 3, 3, 3, 4, 4, 4, 4, 4, 4, 4, 4, 5, 5, 5, 5, 5, 5, 5, 5, 5, 5, 5, 5, 5, 5, 5, 5, 6, 6, 6, 6, 6, 6, 6, 6, 6, 6, 6, 6, 6, 6, 6, 6, 6, 6, 6, 6, 6, 6, 6, 6, 6, 6, 6, 6, 6, 6, 6, 6, 7, 7, 7, 7, 7, 7, 7, 7, 7, 7, 7, 7, 7, 7, 7, 7, 7, 7, 7, 7, 7, 7, 7, 7, 7, 7, 7, 7, 7, 7, 7, 7, 7, 7, 7, 7, 7, 7, 7, 7, 7, 7, 7, 7, 7, 7, 7, 7, 7, 7, 7, 7, 7, 7, 7, 7, 7, 7, 7, 7, 7, 7, 7, 7, 8, 8, 8, 8, 8, 8, 8, 8, 8, 8, 8, 8, 8, 8, 8, 8, 8, 8, 8, 8, 8, 8, 8, 8, 8, 8, 8, 8, 8, 8, 8, 8, 8, 8, 8, 8, 8, 8, 8, 8, 8, 8, 8, 8, 8, 8, 8, 8, 8, 8, 8, 8, 8, 8, 8, 8, 8, 8, 8, 8, 8, 8, 8, 8, 8, 8, 8, 8, 8, 8, 8, 8, 8, 8, 8, 8, 8, 8, 8, 8, 8, 8, 8, 8, 8, 8, 8, 8, 8, 8, 8, 8, 8, 8, 8, 8, 8, 8, 8, 8, 8, 8, 8, 8, 8, 8, 8, 8, 8, 8, 8, 8, 8, 8, 8, 8, 8, 8, 8, 8, 8, 8, 8, 8, 8, 8, 8, 8] : List UInt8)) Te F Aa Aa h1).q fun a w F W => ?_
 refine ls F W Aa (EG SA Ol F Aa).q fun a w F W => ?_
 refine ls F W Aa (Bw F Aa Aa Aa).q fun a w F W => ?_
 refine ls F W Aa (Ad F Aa).q fun a w F W => ?_
 refine Ae (Ac (Ax ?_))
 have H := AP H
 subst H
 refine AQ (.inl Aa) F W Aa (Au F Aa) ?_
 exact ⟨rfl, W.done⟩
theorem Tu : Has Try.prog 78 := ⟨fun args w => Aj Try.func78 rfl (by decide) args w⟩
noncomputable def CE (p0 : Int) : Option Int := (Ds p0).bind fun x1 => some x1
theorem Gx (Y : Nat → Prop) (w0 : World)  (p0 : Int) (r : Int) (H : CE p0 = some r)  :
    Calls Try.prog 53 #[.int .u64 p0] w0 fun e w' => e = .returned (.int .i64 r) ∧ Below w0.heap.size w0 w' := by
 refine enter Try.func53 Aa Try.ntmps53 Aa fun a F => ?_
 have W := Stw.start Y w0
 unfold CE at H
 refine Ah (Ab ?_)
 refine ls F W Aa (Ad F Aa).q fun a w F W => ?_
 refine Ae (Ac (Ah ?_))
 refine JN F Aa ?_
 refine Ao (Ac (Ah (Ab ?_)))
 refine ls F W Aa (Af F Aa).q fun a w F W => ?_
 obtain ⟨x1, h1, H⟩ := Al H
 refine ls F W Aa (AX (v := Value.int .i64 x1) F Tu Aa (fun w W => Iv any w p0 _ h1)) fun a w F W => ?_
 refine ls F W Aa (Ad F Aa).q fun a w F W => ?_
 refine Ae (Ac (Ax ?_))
 have H := AP H
 subst H
 refine AQ (.inl Aa) F W Aa (Au F Aa) ?_
 exact ⟨rfl, W.done⟩
theorem SC : Has Try.prog 53 := ⟨fun args w => Aj Try.func53 rfl (by decide) args w⟩
def BW (p0 : Nat) : Bool := (!(M5 p0 p0))
theorem Gs (Y : Nat → Prop) (w0 : World)  (p0 : Nat) (r : Bool) (H : BW p0 = r)  :
    Calls Try.prog 47 #[.float .f64 p0] w0 fun e w' => e = .returned (.bool r) ∧ Below w0.heap.size w0 w' := by
 refine enter Try.func47 Aa Try.ntmps47 Aa fun a F => ?_
 have W := Stw.start Y w0
 unfold BW at H
 refine Ah (Ab ?_)
 refine ls F W Aa (Ad F Aa).q fun a w F W => ?_
 refine Ae (Ac (Ah (Ab ?_)))
 iterate 2 refine ls F W Aa (Af F Aa).q fun a w F W => ?_
 refine ls F W Aa (Q8 F Aa Aa).q fun a w F W => ?_
 refine ls F W Aa (Ad F Aa).q fun a w F W => ?_
 refine Ae (Ac (Ax ?_))
 subst H
 refine AQ (.inl Aa) F W Aa (Au F Aa) ?_
 exact ⟨rfl, W.done⟩
theorem R0 : Has Try.prog 47 := ⟨fun args w => Aj Try.func47 rfl (by decide) args w⟩
theorem RC : R7 Try.prog 48 Extern.MathFloatBits.float64bits := fun args w => run_callFunc_extern Try.func48 (by kernel_rfl) (by kernel_rfl) (by kernel_rfl) (by kernel_rfl) args w
def G0 (p0 : Nat) : Nat := (Int.toNat (Jv .u64 (p0 : Int) 9223372036854775808))
theorem MJ (Y : Nat → Prop) (w0 : World)  (p0 : Nat) (r : Nat) (H : G0 p0 = r)  :
    Calls Try.prog 100 #[.float .f64 p0] w0 fun e w' => e = .returned (.float .f64 r) ∧ Below w0.heap.size w0 w' := by
 refine enter Try.func100 Aa Try.ntmps100 Aa fun a F => ?_
 have W := Stw.start Y w0
 unfold G0 at H
 refine Ah (Ab ?_)
 refine ls F W Aa (Ad F Aa).q fun a w F W => ?_
 refine Ae (Ac (Ah (Ab ?_)))
 refine ls F W Aa (Af F Aa).q fun a w F W => ?_
 refine ls F W Aa (Hy (v := Value.int .u64 (p0 : Int)) F RC Aa (fun w => rfl)).q fun a w F W => ?_
 refine ls F W Aa (Px F Aa Aa).q fun a w F W => ?_
 refine ls F W Aa (Hy (v := Value.float .f64 (Int.toNat (Jv .u64 (p0 : Int) 9223372036854775808))) F Rc Aa (fun w => rfl)).q fun a w F W => ?_
 refine ls F W Aa (Ad F Aa).q fun a w F W => ?_
 refine Ae (Ac (Ax ?_))
 subst H
 refine AQ (.inl Aa) F W Aa (Au F Aa) ?_
 exact ⟨rfl, W.done⟩
theorem Sa : Has Try.prog 100 := ⟨fun args w => Aj Try.func100 rfl (by decide) args w⟩
noncomputable def C1 (p0 : Nat) (p1 : Int) : Option Bool := (if p1 = 0 then some (G0 p0) else (if p1 < 0 then some (Op.negFloat .f64 p0) else some p0)).bind fun x1 => some (OC x1 9218868437227405311)
theorem Is (Y : Nat → Prop) (w0 : World)  (p0 : Nat) (p1 : Int) (r : Bool) (H : C1 p0 p1 = some r)  :
    Calls Try.prog 89 #[.float .f64 p0, .int .i64 p1] w0 fun e w' => e = .returned (.bool r) ∧ Below w0.heap.size w0 w' := by
 refine enter Try.func89 Aa Try.ntmps89 Aa fun a F => ?_
 have W := Stw.start Y w0
 unfold C1 at H
 refine Ah (Ab ?_)
 refine ls F W Aa (Ad F Aa).q fun a w F W => ?_
 refine Ae (Ac ?_)
 obtain ⟨o1, G1, K1⟩ := Al H
 refine AE (fun a w => ∃ x1 : Nat, some (x1) = some o1 ∧ Fr 15 [] [(0, .float .f64 x1), (4, .bool false)] a ∧ Stw ⟨Y, [], w0⟩ [] [] w) ?_ ?_
 ·
  have H := G1
  clear G1 K1
  refine Ah (Ab ?_)
  refine ls F W Aa (Af F Aa).q fun a w F W => ?_
  refine ls F W Aa (Cf F Aa Aa).q fun a w F W => ?_
  refine Ae (Ac ?_)
  refine Av F Aa (fun hb => ?_) fun hb => ?_
  ·
   have H := AN (Bd hb) H
   rw [hb] at F
   clear hb
   refine Ab ?_
   refine ls F W Aa (Af F Aa).q fun a w F W => ?_
   refine ls F W Aa (AX (v := Value.float .f64 (G0 p0)) F Sa Aa (fun w W => MJ any w p0 _ Aa)) fun a w F W => ?_
   refine ls F W Aa (Ad F Aa).q fun a w F W => ?_
   refine Ae (Ac ?_)
   exact ⟨_, H, F.re ⟨rfl, Aa, trivial⟩, W⟩
  have H := AO (Be hb) H
  rw [hb] at F
  clear hb
  refine Ah (Ab ?_)
  refine ls F W Aa (Af F Aa).q fun a w F W => ?_
  refine ls F W Aa (Bb F Aa Aa).q fun a w F W => ?_
  refine Ae (Ac ?_)
  refine Av F Aa (fun hb => ?_) fun hb => ?_
  ·
   have H := AN (Bd hb) H
   rw [hb] at F
   clear hb
   refine Ab ?_
   refine ls F W Aa (Af F Aa).q fun a w F W => ?_
   refine ls F W Aa (Q1 F Aa).q fun a w F W => ?_
   refine ls F W Aa (Ad F Aa).q fun a w F W => ?_
   refine Ae (Ac ?_)
   exact ⟨_, H, F.re ⟨rfl, Aa, trivial⟩, W⟩
  have H := AO (Be hb) H
  rw [hb] at F
  clear hb
  refine Ao (Ac ?_)
  exact ⟨_, H, F.re ⟨rfl, Aa, trivial⟩, W⟩
 rintro a w ⟨x1, hj, F, W⟩
 have hj := AP hj
 subst hj
 have H := K1
 clear G1 K1
 refine Ah (Ab ?_)
 refine ls F W Aa (Af F Aa).q fun a w F W => ?_
 refine ls F W Aa (Na F Aa Aa).q fun a w F W => ?_
 refine ls F W Aa (Ad F Aa).q fun a w F W => ?_
 refine Ae (Ac (Ax ?_))
 have H := AP H
 subst H
 refine AQ (.inl Aa) F W Aa (Au F Aa) ?_
 exact ⟨rfl, W.done⟩
theorem S1 : type_of% Try.underlying2 := Try.underlying2
theorem SE : Has Try.prog 89 := ⟨fun args w => Aj Try.func89 rfl (by decide) args w⟩
def Dk (p0 : Nat) : Bool := decide ((BI (p0 : Int)) < 0)
theorem JI (Y : Nat → Prop) (w0 : World)  (p0 : Nat) (r : Bool) (H : Dk p0 = r)  :
    Calls Try.prog 90 #[.float .f64 p0] w0 fun e w' => e = .returned (.bool r) ∧ Below w0.heap.size w0 w' := by
 refine enter Try.func90 Aa Try.ntmps90 Aa fun a F => ?_
 have W := Stw.start Y w0
 unfold Dk at H
 refine Ah (Ab ?_)
 refine ls F W Aa (Ad F Aa).q fun a w F W => ?_
 refine Ae (Ac (Ah (Ab ?_)))
 refine ls F W Aa (Af F Aa).q fun a w F W => ?_
 refine ls F W Aa (Hy (v := Value.int .u64 (p0 : Int)) F RC Aa (fun w => rfl)).q fun a w F W => ?_
 refine ls F W Aa (EG Ry S1 F Aa).q fun a w F W => ?_
 refine ls F W Aa (Bb F Aa Aa).q fun a w F W => ?_
 refine ls F W Aa (Ad F Aa).q fun a w F W => ?_
 refine Ae (Ac (Ax ?_))
 subst H
 refine AQ (.inl Aa) F W Aa (Au F Aa) ?_
 exact ⟨rfl, W.done⟩
theorem Tw : Has Try.prog 90 := ⟨fun args w => Aj Try.func90 rfl (by decide) args w⟩
noncomputable def DR (p0 : Nat) : Option Int := (if (BW p0) = true then some 0 else (C1 p0 (-1)).bind fun x1 => (if x1 = true then some 1 else (if (NW p0 0) = true then some 2 else (C1 p0 1).bind fun x2 => (if x2 = true then some 6 else (if (OC p0 0) = true then some 5 else (if (Dk p0) = true then some 3 else some 4))))))
theorem Ks (Y : Nat → Prop) (w0 : World)  (p0 : Nat) (r : Int) (H : DR p0 = some r)  :
    Calls Try.prog 79 #[.float .f64 p0] w0 fun e w' => e = .returned (.int .i64 r) ∧ Below w0.heap.size w0 w' := by
 refine enter Try.func79 Aa Try.ntmps79 Aa fun a F => ?_
 have W := Stw.start Y w0
 unfold DR at H
 refine Ah (Ab ?_)
 refine ls F W Aa (Ad F Aa).q fun a w F W => ?_
 refine Ae (Ac (Ah (Aq (Ah (Ab ?_)))))
 refine ls F W Aa (Af F Aa).q fun a w F W => ?_
 refine ls F W Aa (AX (v := Value.bool (BW p0)) F R0 Aa (fun w W => Gs any w p0 _ Aa)) fun a w F W => ?_
 refine ls F W Aa (Ad F Aa).q fun a w F W => ?_
 refine Ae (Ac ?_)
 refine Av F Aa (fun hb => ?_) fun hb => ?_
 ·
  have H := AN hb H
  rw [hb] at F
  clear hb
  refine Ah (Ab ?_)
  refine ls F W Aa (Ad F Aa).q fun a w F W => ?_
  refine Ae (Ac (Ax (A8 (AL ?_))))
  have H := AP H
  subst H
  refine AQ (.inl Aa) F W Aa (Au F Aa) ?_
  exact ⟨rfl, W.done⟩
 have H := AO (by rw [hb]; decide) H
 rw [hb] at F
 clear hb
 refine Ah (Ab ?_)
 refine ls F W Aa (Af F Aa).q fun a w F W => ?_
 obtain ⟨x1, h1, H⟩ := Al H
 refine ls F W Aa (AX (v := Value.bool x1) F SE Aa (fun w W => Is any w p0 (-1) _ h1)) fun a w F W => ?_
 refine ls F W Aa (Ad F Aa).q fun a w F W => ?_
 refine Ae (Ac ?_)
 refine Av F Aa (fun hb => ?_) fun hb => ?_
 ·
  have H := AN hb H
  rw [hb] at F
  clear hb
  refine Ah (Ab ?_)
  refine ls F W Aa (Ad F Aa).q fun a w F W => ?_
  refine Ae (Ac (Ax (A8 (AL ?_))))
  have H := AP H
  subst H
  refine AQ (.inl Aa) F W Aa (Au F Aa) ?_
  exact ⟨rfl, W.done⟩
 have H := AO (by rw [hb]; decide) H
 rw [hb] at F
 clear hb
 refine Ah (Ab ?_)
 refine ls F W Aa (Af F Aa).q fun a w F W => ?_
 refine ls F W Aa (Lg F Aa Aa).q fun a w F W => ?_
 refine ls F W Aa (Ad F Aa).q fun a w F W => ?_
 refine Ae (Ac ?_)
 refine Av F Aa (fun hb => ?_) fun hb => ?_
 ·
  have H := AN hb H
  rw [hb] at F
  clear hb
  refine Ah (Ab ?_)
  refine ls F W Aa (Ad F Aa).q fun a w F W => ?_
  refine Ae (Ac (Ax (A8 (AL ?_))))
  have H := AP H
  subst H
  refine AQ (.inl Aa) F W Aa (Au F Aa) ?_
  exact ⟨rfl, W.done⟩
 have H := AO (by rw [hb]; decide) H
 rw [hb] at F
 clear hb
 refine Ah (Ab ?_)
 refine ls F W Aa (Af F Aa).q fun a w F W => ?_
 obtain ⟨x2, h2, H⟩ := Al H
 refine ls F W Aa (AX (v := Value.bool x2) F SE Aa (fun w W => Is any w p0 1 _ h2)) fun a w F W => ?_
 refine ls F W Aa (Ad F Aa).q fun a w F W => ?_
 refine Ae (Ac ?_)
 refine Av F Aa (fun hb => ?_) fun hb => ?_
 ·
  have H := AN hb H
  rw [hb] at F
  clear hb
  refine Ah (Ab ?_)
  refine ls F W Aa (Ad F Aa).q fun a w F W => ?_
  refine Ae (Ac (Ax (A8 (AL ?_))))
  have H := AP H
  subst H
  refine AQ (.inl Aa) F W Aa (Au F Aa) ?_
  exact ⟨rfl, W.done⟩
 have H := AO (by rw [hb]; decide) H
 rw [hb] at F
 clear hb
 refine Ah (Ab ?_)
 refine ls F W Aa (Af F Aa).q fun a w F W => ?_
 refine ls F W Aa (Na F Aa Aa).q fun a w F W => ?_
 refine ls F W Aa (Ad F Aa).q fun a w F W => ?_
 refine Ae (Ac ?_)
 refine Av F Aa (fun hb => ?_) fun hb => ?_
 ·
  have H := AN hb H
  rw [hb] at F
  clear hb
  refine Ah (Ab ?_)
  refine ls F W Aa (Ad F Aa).q fun a w F W => ?_
  refine Ae (Ac (Ax (A8 (AL ?_))))
  have H := AP H
  subst H
  refine AQ (.inl Aa) F W Aa (Au F Aa) ?_
  exact ⟨rfl, W.done⟩
 have H := AO (by rw [hb]; decide) H
 rw [hb] at F
 clear hb
 refine Ah (Ab ?_)
 refine ls F W Aa (Af F Aa).q fun a w F W => ?_
 refine ls F W Aa (AX (v := Value.bool (Dk p0)) F Tw Aa (fun w W => JI any w p0 _ Aa)) fun a w F W => ?_
 refine ls F W Aa (Ad F Aa).q fun a w F W => ?_
 refine Ae (Ac ?_)
 refine Av F Aa (fun hb => ?_) fun hb => ?_
 ·
  have H := AN hb H
  rw [hb] at F
  clear hb
  refine Ah (Ab ?_)
  refine ls F W Aa (Ad F Aa).q fun a w F W => ?_
  refine Ae (Ac (Ax (A8 (AL ?_))))
  have H := AP H
  subst H
  refine AQ (.inl Aa) F W Aa (Au F Aa) ?_
  exact ⟨rfl, W.done⟩
 have H := AO (by rw [hb]; decide) H
 rw [hb] at F
 clear hb
 refine Ao (AK (Ac (Ah (Ab ?_))))
 refine ls F W Aa (Ad F Aa).q fun a w F W => ?_
 refine Ae (Ac (Ax ?_))
 have H := AP H
 subst H
 refine AQ (.inl Aa) F W Aa (Au F Aa) ?_
 exact ⟨rfl, W.done⟩
theorem SV : Has Try.prog 79 := ⟨fun args w => Aj Try.func79 rfl (by decide) args w⟩
noncomputable def DQ (p0 : Nat) : Option Int := (DR p0).bind fun x1 => (if x1 ≠ 0 then some x1 else some 7)
theorem Ig (Y : Nat → Prop) (w0 : World)  (p0 : Nat) (r : Int) (H : DQ p0 = some r)  :
    Calls Try.prog 54 #[.float .f64 p0] w0 fun e w' => e = .returned (.int .i64 r) ∧ Below w0.heap.size w0 w' := by
 refine enter Try.func54 Aa Try.ntmps54 Aa fun a F => ?_
 have W := Stw.start Y w0
 unfold DQ at H
 refine Ah (Ab ?_)
 refine ls F W Aa (Ad F Aa).q fun a w F W => ?_
 refine Ae (Ac (Ah (Ah (Ab ?_))))
 refine ls F W Aa (Af F Aa).q fun a w F W => ?_
 obtain ⟨x1, h1, H⟩ := Al H
 refine ls F W Aa (AX (v := Value.int .i64 x1) F SV Aa (fun w W => Ks any w p0 _ h1)) fun a w F W => ?_
 refine ls F W Aa (Ad F Aa).q fun a w F W => ?_
 refine Ae (Ac (Ah (Ab ?_)))
 refine ls F W Aa (Af F Aa).q fun a w F W => ?_
 refine ls F W Aa (GK F Aa Aa).q fun a w F W => ?_
 refine Ae (Ac ?_)
 refine Av F Aa (fun hb => ?_) fun hb => ?_
 ·
  have H := AN (Bd hb) H
  rw [hb] at F
  clear hb
  refine Ah (Ab ?_)
  refine ls F W Aa (Af F Aa).q fun a w F W => ?_
  refine ls F W Aa (Ad F Aa).q fun a w F W => ?_
  refine Ae (Ac (Ax (AL ?_)))
  have H := AP H
  subst H
  refine AQ (.inl Aa) F W Aa (Au F Aa) ?_
  exact ⟨rfl, W.done⟩
 have H := AO (Be hb) H
 rw [hb] at F
 clear hb
 refine Ao (Ac (Ah (Ab ?_)))
 refine ls F W Aa (Ad F Aa).q fun a w F W => ?_
 refine Ae (Ac (Ax ?_))
 have H := AP H
 subst H
 refine AQ (.inl Aa) F W Aa (Au F Aa) ?_
 exact ⟨rfl, W.done⟩
end Go.Proofs.Ytbogijdfacoccaa
