/- The functions of layer 19, FV. Conditions: none. -/
import Derived.Test.YtbogijdfacoccaaRows
import Derived.Test.YtbogijdfacoccaabOF
import Derived.Test.YtbogijdfacoccaabOT
import Derived.Test.YtbogijdfacoccaabQT
import Derived.Test.YtbogijdfacoccaabOD
import Derived.Test.YtbogijdfacoccaabRF
import Derived.Test.YtbogijdfacoccaabDR
import Derived.Test.YtbogijdfacoccaabOC
import Derived.Test.YtbogijdfacoccaabOM
import Derived.Test.YtbogijdfacoccaabRF
import Derived.Test.YtbogijdfacoccaabDR
import Derived.Test.YtbogijdfacoccaabOX
namespace Go.Proofs.Ytbogijdfacoccaa
open Go Go.RowKit
set_option linter.unusedVariables false
set_option linter.unusedSimpArgs false
set_option maxRecDepth 20000
theorem Iq : type_of% Try.underlying22 := Try.underlying22
theorem Jp : type_of% Try.underlying23 := Try.underlying23
theorem Ck : type_of% Try.underlying25 := Try.underlying25
theorem NB : type_of% Try.underlying26 := Try.underlying26
abbrev Fg : Rp (Int × Int × Int × Int × Int × Int) := (Rp.pair (Rp.int .i64) (Rp.pair (Rp.int .i64) (Rp.pair (Rp.int .i64) (Rp.pair (Rp.int .i64) (Rp.pair (Rp.int .i64) (Rp.int .i64))))))
abbrev Fi : Rp (Int × Int) := (Rp.pair (Rp.int .i64) (Rp.int .i64))
theorem I4 : Ty Try.prog 25 true 3 := ⟨by kernel_rfl, by kernel_rfl⟩
theorem Ii : Ty Try.prog 22 false 1 := ⟨by kernel_rfl, by kernel_rfl⟩
theorem GI : Ty Try.prog 23 false 1 := ⟨by kernel_rfl, by kernel_rfl⟩
def Eo (p0 : Int × (List (Int × Int × Int × Int × Int × Int)) × (List (Int × Int))) (p1 : List Int) : Bool := (decide ((p0.2.1.length : Int) ≤ 30) && (decide ((p0.2.2.length : Int) ≤ 12) && decide ((p1.length : Int) ≤ 30)))
theorem Ll (Y : Nat → Prop) (w0 : World) (v1 : Value) (v2 : Value) (v3 : Value) (p0 : Int × (List (Int × Int × Int × Int × Int × Int)) × (List (Int × Int))) (p1 : List Int) (r : Bool) (H : Eo p0 p1 = r) (h_v1 : Sl w0 (NX []) Fg v1 p0.2.1) (h_v2 : Sl w0 (NX []) Fi v2 p0.2.2) (h_v3 : Sl w0 (NX []) (Rp.int .u64) v3 p1) :
    Calls Try.prog 7 #[.agg #[.int .i64 p0.1, v1, v2], v3] w0 fun e w' => e = .returned (.bool r) ∧ Below w0.heap.size w0 w' := by
 refine enter Try.func7 Aa Try.ntmps7 Aa fun a F => ?_
 have W := Stw.start Y w0
 unfold Eo at H
 refine Ah (Ab ?_)
 refine D6 (cs := [.int .i64 p0.1, v1, v2]) F W Aa Aa Aa fun b1 a w F W => ?_
 refine ls F W Aa (Af F Aa).q fun a w F W => ?_
 refine Ad (Ac ?_)
 refine AG (fun a w => Fr 20 [] [(4, .bool (decide ((p0.2.1.length : Int) ≤ 30) && (decide ((p0.2.2.length : Int) ≤ 12) && decide ((p1.length : Int) ≤ 30))))] a ∧ Stw ⟨Y, [], w0⟩ [(b1, [.int .i64 p0.1, v1, v2])] [] w) ?_ ?_
 ·
  refine Ab ?_
  refine ls F W Aa (Ai Ck Aa Aa Aa Ii F Aa 1 Aa).q fun a w F W => ?_
  refine ls F W Aa (An (v := v1) 0 F Aa Aa Ii Aa).q fun a w F W => ?_
  refine ls F W Aa (Bv (r := Fg) (l := p0.2.1) Iq Aa F Aa (Am h_v1)).q fun a w F W => ?_
  refine ls F W Aa (IE F Aa Aa).q fun a w F W => ?_
  refine ls F W Aa (Ae F Aa).q fun a w F W => ?_
  rcases Bool.eq_false_or_eq_true (decide ((p0.2.1.length : Int) ≤ 30)) with hb0 | hb0
  ·
   rw [hb0] at F
   refine AA F W (Ag F Aa Aa Aa Aa) Aa (Ak Aa) (Ai Ck Aa Aa Aa GI F Aa 2 Aa).q fun a w F W => ?_
   refine AA F W (Ag F Aa Aa Aa Aa) Aa (Ak Aa) (An (v := v2) 0 F Aa Aa GI Aa).q fun a w F W => ?_
   refine AA F W (Ag F Aa Aa Aa Aa) Aa (Ak Aa) (Bv (r := Fi) (l := p0.2.2) Jp Aa F Aa (Am h_v2)).q fun a w F W => ?_
   refine AA F W (Ag F Aa Aa Aa Aa) Aa (Ak Aa) (IE F Aa Aa).q fun a w F W => ?_
   refine ls F W Aa (Ao F Aa Aa Aa).q fun a w F W => ?_
   refine ls F W Aa (Ae F Aa).q fun a w F W => ?_
   rcases Bool.eq_false_or_eq_true (decide ((p0.2.2.length : Int) ≤ 12)) with hb1 | hb1
   ·
    rw [hb1] at F
    refine AA F W (Ag F Aa Aa Aa Aa) Aa (Ak Aa) (Ae F Aa).q fun a w F W => ?_
    refine AA F W (Ag F Aa Aa Aa Aa) Aa (Ak Aa) (Bv (r := (Rp.int .u64)) (l := p1) NB Aa F Aa (Am h_v3)).q fun a w F W => ?_
    refine AA F W (Ag F Aa Aa Aa Aa) Aa (Ak Aa) (IE F Aa Aa).q fun a w F W => ?_
    refine ls F W Aa (Ao F Aa Aa Aa).q fun a w F W => ?_
    refine ls F W Aa (Af F Aa).q fun a w F W => ?_
    refine Ad (Ac ?_)
    exact ⟨F.re ⟨(by show some (Value.bool (decide ((p1.length : Int) ≤ 30))) = some (Value.bool (decide ((p0.2.1.length : Int) ≤ 30) && (decide ((p0.2.2.length : Int) ≤ 12) && decide ((p1.length : Int) ≤ 30)))); try rw [hb0]; try rw [hb1]; all_goals simp only [Bool.not_true, Bool.not_false, Bool.true_and, Bool.false_and, Bool.true_or, Bool.false_or, Bool.and_true, Bool.or_false, cond_true, cond_false]), trivial⟩, W⟩
   rw [hb1] at F
   iterate 3 refine Ci F Aa Aa Aa Aa Aa Aa Aa fun a F => ?_
   refine ls F W Aa (Ap F Aa Aa Aa).q fun a w F W => ?_
   refine ls F W Aa (Af F Aa).q fun a w F W => ?_
   refine Ad (Ac ?_)
   exact ⟨F.re ⟨(by show some (Value.bool false) = some (Value.bool (decide ((p0.2.1.length : Int) ≤ 30) && (decide ((p0.2.2.length : Int) ≤ 12) && decide ((p1.length : Int) ≤ 30)))); try rw [hb0]; try rw [hb1]; all_goals simp only [Bool.not_true, Bool.not_false, Bool.true_and, Bool.false_and, Bool.true_or, Bool.false_or, Bool.and_true, Bool.or_false, cond_true, cond_false]), trivial⟩, W⟩
  rw [hb0] at F
  iterate 4 refine Ci F Aa Aa Aa Aa Aa Aa Aa fun a F => ?_
  refine ls F W Aa (Ap F Aa Aa Aa).q fun a w F W => ?_
  refine ls F W Aa (Ae F Aa).q fun a w F W => ?_
  iterate 3 refine Ci F Aa Aa Aa Aa Aa Aa Aa fun a F => ?_
  refine ls F W Aa (Ap F Aa Aa Aa).q fun a w F W => ?_
  refine ls F W Aa (Af F Aa).q fun a w F W => ?_
  refine Ad (Ac ?_)
  exact ⟨F.re ⟨(by show some (Value.bool false) = some (Value.bool (decide ((p0.2.1.length : Int) ≤ 30) && (decide ((p0.2.2.length : Int) ≤ 12) && decide ((p1.length : Int) ≤ 30)))); try rw [hb0]; all_goals simp only [Bool.not_true, Bool.not_false, Bool.true_and, Bool.false_and, Bool.true_or, Bool.false_or, Bool.and_true, Bool.or_false, cond_true, cond_false]), trivial⟩, W⟩
 rintro a w ⟨F, W⟩
 refine Ay ?_
 subst H
 refine AS (.inl Aa) F W Aa (Au F Aa) ?_
 exact ⟨rfl, W.done⟩
theorem Kp : type_of% Try.underlying29 := Try.underlying29
theorem ID : type_of% Try.underlying52 := Try.underlying52
theorem CS : type_of% Try.underlying62 := Try.underlying62
theorem KO : type_of% Try.underlying86 := Try.underlying86
theorem Ps : type_of% Try.underlying105 := Try.underlying105
theorem H7 : Has Try.prog 7 := ⟨fun args w => Aj Try.func7 rfl (by decide) args w⟩
theorem QU : Bt Try.prog 62 [.int .i64 0, .int .i64 0, .int .i64 0, .int .i64 0, .int .i64 0, .int .i64 0] [(0, 1), (1, 1), (2, 1), (3, 1), (4, 1), (5, 1)] := ⟨⟨.agg #[.int .i64 0, .int .i64 0, .int .i64 0, .int .i64 0, .int .i64 0, .int .i64 0], by kernel_rfl, rfl⟩, ⟨_, CS, fun w => by kernel_rfl⟩⟩
theorem P2 : (Try.prog.info? 62).bind (·.zero) = some (.agg #[.int .i64 0, .int .i64 0, .int .i64 0, .int .i64 0, .int .i64 0, .int .i64 0]) := by kernel_rfl
def RH (a : Int × Int × Int × Int × Int × Int) : List Value := [.int .i64 a.1, .int .i64 a.2.1, .int .i64 a.2.2.1, .int .i64 a.2.2.2.1, .int .i64 a.2.2.2.2.1, .int .i64 a.2.2.2.2.2]
theorem PY : Fl Fg RH := (Fl.pair Fl.int (Fl.pair Fl.int (Fl.pair Fl.int (Fl.pair Fl.int (Fl.pair Fl.int Fl.int)))))
theorem Pz : Et Try.prog 22 62 6 48 := Et.of Iq (by kernel_rfl) (by kernel_rfl) (by kernel_rfl) (by decide)
theorem Rq : Bt Try.prog 52 [.int .i64 0, .int .i64 0] [(0, 1), (1, 1)] := ⟨⟨.agg #[.int .i64 0, .int .i64 0], by kernel_rfl, rfl⟩, ⟨_, ID, fun w => by kernel_rfl⟩⟩
theorem Rc : (Try.prog.info? 52).bind (·.zero) = some (.agg #[.int .i64 0, .int .i64 0]) := by kernel_rfl
def RV (a : Int × Int) : List Value := [.int .i64 a.1, .int .i64 a.2]
theorem OH : Fl Fi RV := (Fl.pair Fl.int Fl.int)
theorem OJ : Et Try.prog 23 52 2 16 := Et.of Jp (by kernel_rfl) (by kernel_rfl) (by kernel_rfl) (by decide)
theorem Rn : Bt Try.prog 25 [.int .i64 0, .slice none 0 0, .slice none 0 0] [(0, 1), (1, 1), (2, 1)] := ⟨⟨.agg #[.int .i64 0, .slice none 0 0, .slice none 0 0], by kernel_rfl, rfl⟩, ⟨_, Ck, fun w => by kernel_rfl⟩⟩
theorem RR : (Try.prog.info? 25).bind (·.zero) = some (.agg #[.int .i64 0, .slice none 0 0, .slice none 0 0]) := by kernel_rfl
theorem Pp : (Try.prog.info? 56).bind (·.zero) = some (.float .f64 0) := by kernel_rfl
theorem Ia : Et Try.prog 29 56 1 8 := Et.of Kp (by kernel_rfl) (by kernel_rfl) (by kernel_rfl) (by decide)
theorem T3 : Ty Try.prog 3 false 1 := ⟨by kernel_rfl, by kernel_rfl⟩
abbrev Hi (x : Int × Int) : Value := .agg #[.int .i64 x.1, .int .i64 x.2]
abbrev FH (x : Unit) : Value := .agg #[]
theorem NH : Ty Try.prog 62 true 6 := ⟨by kernel_rfl, by kernel_rfl⟩
theorem P3 : Bt Try.prog 86 [.int .i64 0, .int .i64 0] [(0, 1), (1, 1)] := ⟨⟨.agg #[.int .i64 0, .int .i64 0], by kernel_rfl, rfl⟩, ⟨_, KO, fun w => by kernel_rfl⟩⟩
theorem Qx : (Try.prog.info? 86).bind (·.zero) = some (.agg #[.int .i64 0, .int .i64 0]) := by kernel_rfl
abbrev Hy : Rp (Int × Int) := (Rp.pair (Rp.int .i64) (Rp.int .i64))
def RX (a : Int × Int) : List Value := [.int .i64 a.1, .int .i64 a.2]
theorem QD : Fl Hy RX := (Fl.pair Fl.int Fl.int)
theorem OE : Et Try.prog 105 86 2 16 := Et.of Ps (by kernel_rfl) (by kernel_rfl) (by kernel_rfl) (by decide)
theorem Q8 : Ty Try.prog 52 true 2 := ⟨by kernel_rfl, by kernel_rfl⟩
noncomputable def Ed (p0 : Int × (List (Int × Int × Int × Int × Int × Int)) × (List (Int × Int))) : ((List (Int × Int)) × Int) → Option (((List (Int × Int)) × Int) ⊕ (List (Int × Int)))
  | (x2, x3) => (if x3 < (p0.2.1.length : Int) then (ix p0.2.1 x3).bind fun x4 => (HA x2 ([(x4.1, x4.2.1), (x4.2.2.1, x4.2.2.2.1)] : List (Int × Int))).bind fun x5 => some (.inl (x5, BJ (x3 + 1))) else some (.inr x2))
noncomputable def DW (p0 : Int × (List (Int × Int × Int × Int × Int × Int)) × (List (Int × Int))) : ((List (Int × Int)) × Int) → Option (((List (Int × Int)) × Int) ⊕ (List (Int × Int)))
  | (x7, x8) => (if x8 < (p0.2.2.length : Int) then (ix p0.2.2 x8).bind fun x9 => (HA x7 ([x9] : List (Int × Int))).bind fun x10 => some (.inl (x10, BJ (x8 + 1))) else some (.inr x7))
noncomputable def EA (p0 : Int × (List (Int × Int × Int × Int × Int × Int)) × (List (Int × Int))) : Option (List (Int × Int)) := (AF (Ed p0) ([], 0)).bind fun x1 => (AF (DW p0) (x1, 0)).bind fun x6 => some x6
theorem JE (Y : Nat → Prop) (w0 : World) (v1 : Value) (v2 : Value) (p0 : Int × (List (Int × Int × Int × Int × Int × Int)) × (List (Int × Int))) (r : (List (Int × Int))) (H : EA p0 = some r) (h_v1 : Sl w0 (NX []) Fg v1 p0.2.1) (h_v2 : Sl w0 (NX []) Fi v2 p0.2.2) :
    Calls Try.prog 63 #[.agg #[.int .i64 p0.1, v1, v2]] w0 fun e w' => ∃ x : Value, e = .returned (x) ∧ Stw ⟨Y, [], w0⟩ [] [row (x) 86 Hy r] w' := by
 refine enter Try.func63 Aa Try.ntmps63 Aa fun a F => ?_
 have W := Stw.start Y w0
 unfold EA at H
 refine Ah (Ab ?_)
 refine D6 (cs := [.int .i64 p0.1, v1, v2]) F W Aa Aa Aa fun b1 a w F W => ?_
 refine ls F W Aa (Af F Aa).q fun a w F W => ?_
 refine Ad (Ac (Ah (Ab ?_)))
 refine ls F W Aa (Af F Aa).q fun a w F W => ?_
 refine Ad (Ac ?_)
 obtain ⟨o1, G1, K1⟩ := Al H
 refine AG (fun a w => ∃ x1 : List (Int × Int), ∃ v3 : Value, some (x1) = some o1 ∧ Fr 46 [] [(1, .pointer (some ⟨b1, 0, none⟩)), (2, .slice none 0 0), (3, v3)] a ∧ Stw ⟨Y, [], w0⟩ [(b1, [.int .i64 p0.1, v1, v2])] [row v3 86 Hy x1] w) ?_ ?_
 ·
  have H := G1
  clear G1 K1
  refine Ah (Ab ?_)
  refine ls F W Aa (Ai Ck Aa Aa Aa Ii F Aa 1 Aa).q fun a w F W => ?_
  refine ls F W Aa (An (v := v1) 0 F Aa Aa Ii Aa).q fun a w F W => ?_
  refine ls F W Aa (Bv (r := Fg) (l := p0.2.1) Iq Aa F Aa (Am h_v1)).q fun a w F W => ?_
  refine ls F W Aa (Ae F Aa).q fun a w F W => ?_
  refine Ad (Ac (Ax ?_))
  have W := W.nilRow 86 Hy
  refine Bf H (fun s a w => ∃ v4 : Value, Fr 46 [] [(1, .pointer (some ⟨b1, 0, none⟩)), (2, .slice none 0 0), (3, v4), (9, v1), (10, .int .i64 (p0.2.1.length : Int)), (11, .int .i64 s.2)] a ∧ Stw ⟨Y, [], w0⟩ [(b1, [.int .i64 p0.1, v1, v2])] [row v4 86 Hy s.1] w) ⟨(Value.slice none 0 0), F.re ⟨rfl, Aa, Aa, Aa, Aa, Aa, trivial⟩, W⟩ fun s o a w H L2 hR => ?_
  obtain ⟨x2, x3⟩ := s
  obtain ⟨v4, F, W⟩ := hR
  have F : Fr 46 [] [(1, .pointer (some ⟨b1, 0, none⟩)), (2, .slice none 0 0), (3, v4), (9, v1), (10, .int .i64 (p0.2.1.length : Int)), (11, .int .i64 x3)] a := F
  have W : Stw ⟨Y, [], w0⟩ [(b1, [.int .i64 p0.1, v1, v2])] [row v4 86 Hy x2] w := W
  rw [Ed] at H
  refine Ah (Ab ?_)
  refine ls F W Aa (Bj F Aa Aa).q fun a w F W => ?_
  refine Ad (Ac (Ah ?_))
  refine AB F Aa (fun hb => ?_) fun hb => ?_
  ·
   have H := AM (Bq hb) H
   rw [hb] at F
   clear hb
   refine Aw (Ac (Ah (Ax (Ah (Ab ?_)))))
   obtain ⟨x4, h1, H⟩ := Al H
   refine ls F W Aa (AC (r := Fg) Pz F Aa Aa (Am h_v1) h1).q fun a w F W => ?_
   refine ls F W Aa (Av (y := Value.agg #[.int .i64 x4.1, .int .i64 x4.2.1, .int .i64 x4.2.2.1, .int .i64 x4.2.2.2.1, .int .i64 x4.2.2.2.2.1, .int .i64 x4.2.2.2.2.2]) (j := 0) (i := x3) F Aa Aa (Am h_v1) h1 PY.to NH Aa).q fun a w F W => ?_
   refine Cc (cs := [.int .i64 0, .int .i64 0, .int .i64 0, .int .i64 0, .int .i64 0, .int .i64 0]) F W Aa P2 Aa fun b2 a w F W => ?_
   refine Cn (vs := [.int .i64 x4.1, .int .i64 x4.2.1, .int .i64 x4.2.2.1, .int .i64 x4.2.2.2.1, .int .i64 x4.2.2.2.2.1, .int .i64 x4.2.2.2.2.2]) (M' := [(b2, [.int .i64 x4.1, .int .i64 x4.2.1, .int .i64 x4.2.2.1, .int .i64 x4.2.2.2.1, .int .i64 x4.2.2.2.2.1, .int .i64 x4.2.2.2.2.2]), (b1, [.int .i64 p0.1, v1, v2])]) 0 F W Aa Aa Aa NH Aa Aa Aa Aa Aa fun w W => ?_
   refine Ad (Ac (Ab ?_))
   refine ls F W Aa (Ae F Aa).q fun a w F W => ?_
   refine ls F W Aa (Ai CS Aa Aa Aa T3 F Aa 0 Aa).q fun a w F W => ?_
   refine ls F W Aa (An (v := Value.int .i64 x4.1) 0 F Aa Aa T3 Aa).q fun a w F W => ?_
   refine ls F W Aa (Ai CS Aa Aa Aa T3 F Aa 1 Aa).q fun a w F W => ?_
   refine ls F W Aa (An (v := Value.int .i64 x4.2.1) 0 F Aa Aa T3 Aa).q fun a w F W => ?_
   refine ls F W Aa (CZ (v := Value.agg #[.int .i64 x4.1, .int .i64 x4.2.1]) P3 F Aa Aa Aa).q fun a w F W => ?_
   refine ls F W Aa (Ai CS Aa Aa Aa T3 F Aa 2 Aa).q fun a w F W => ?_
   refine ls F W Aa (An (v := Value.int .i64 x4.2.2.1) 0 F Aa Aa T3 Aa).q fun a w F W => ?_
   refine ls F W Aa (Ai CS Aa Aa Aa T3 F Aa 3 Aa).q fun a w F W => ?_
   refine ls F W Aa (An (v := Value.int .i64 x4.2.2.2.1) 0 F Aa Aa T3 Aa).q fun a w F W => ?_
   refine ls F W Aa (CZ (v := Value.agg #[.int .i64 x4.2.2.1, .int .i64 x4.2.2.2.1]) P3 F Aa Aa Aa).q fun a w F W => ?_
   refine Eg (z := Value.agg #[.int .i64 0, .int .i64 0]) (cs := [.int .i64 x4.1, .int .i64 x4.2.1, .int .i64 x4.2.2.1, .int .i64 x4.2.2.2.1]) Hy ([(x4.1, x4.2.1), (x4.2.2.1, x4.2.2.2.1)] : List (Int × Int)) F W Aa OE Qx Aa Aa Aa Aa Aa Aa (QD.repL _ _ ([(x4.1, x4.2.1), (x4.2.2.1, x4.2.2.2.1)] : List (Int × Int))) fun v5 a w F W => ?_
   obtain ⟨x5, h2, H⟩ := Al H
   refine Dv (r := Hy) (i := 1) F W Aa OE Aa Aa Aa Aa (DG W 0 Aa) h2 Aa fun v6 a w F W => ?_
   have W : Stw ⟨Y, [], w0⟩ [(b2, [.int .i64 x4.1, .int .i64 x4.2.1, .int .i64 x4.2.2.1, .int .i64 x4.2.2.2.1, .int .i64 x4.2.2.2.2.1, .int .i64 x4.2.2.2.2.2]), (b1, [.int .i64 p0.1, v1, v2])] [row v6 86 Hy x5, row v5 86 Hy ([(x4.1, x4.2.1), (x4.2.2.1, x4.2.2.2.1)] : List (Int × Int))] w := W
   refine ls F W Aa (Af F Aa).q fun a w F W => ?_
   refine Ad (AL (Ac (Ab ?_)))
   refine ls F W Aa (BR F Aa Aa Aa).q fun a w F W => ?_
   refine ls F W Aa (Ae F Aa).q fun a w F W => ?_
   refine Ad (Ac ?_)
   have W := W.frontM (i := 1) Aa Aa
   have W := W.sub (M' := [(b1, [.int .i64 p0.1, v1, v2])]) (Z' := [row v6 86 Hy x5]) (List.Sublist.cons_cons _ (List.nil_sublist _)) (List.Sublist.cons_cons _ (List.nil_sublist _))
   exact ⟨_, H, (v6), F.re ⟨rfl, Aa, Aa, Aa, Aa, Aa, trivial⟩, W⟩
  have H := AN (Br hb) H
  rw [hb] at F
  clear hb
  refine Bh ?_
  iterate 2 refine BO ?_
  refine Bi (Ac ?_)
  have H := L2 _ H
  exact ⟨_, (v4), H, F.re ⟨rfl, Aa, Aa, trivial⟩, W⟩
 rintro a w ⟨x1, v3, hj, F, W⟩
 have hj := AR hj
 subst hj
 have H := K1
 clear G1 K1
 obtain ⟨o3, G3, K3⟩ := Al H
 refine AG (fun a w => ∃ x6 : List (Int × Int), ∃ v7 : Value, some (x6) = some o3 ∧ Fr 46 [] [(2, .slice none 0 0), (3, v7)] a ∧ Stw ⟨Y, [], w0⟩ [(b1, [.int .i64 p0.1, v1, v2])] [row v7 86 Hy x6] w) ?_ ?_
 ·
  have H := G3
  clear G3 K3
  refine Ah (Ab ?_)
  refine ls F W Aa (Ai Ck Aa Aa Aa GI F Aa 2 Aa).q fun a w F W => ?_
  refine ls F W Aa (An (v := v2) 0 F Aa Aa GI Aa).q fun a w F W => ?_
  refine ls F W Aa (Bv (r := Fi) (l := p0.2.2) Jp Aa F Aa (Am h_v2)).q fun a w F W => ?_
  refine ls F W Aa (Ae F Aa).q fun a w F W => ?_
  refine Ad (Ac (Ax ?_))
  refine Bf H (fun s a w => ∃ v8 : Value, Fr 46 [] [(2, .slice none 0 0), (3, v8), (30, v2), (31, .int .i64 (p0.2.2.length : Int)), (32, .int .i64 s.2)] a ∧ Stw ⟨Y, [], w0⟩ [(b1, [.int .i64 p0.1, v1, v2])] [row v8 86 Hy s.1] w) ⟨(v3), F.re ⟨rfl, Aa, Aa, Aa, Aa, trivial⟩, W⟩ fun s o a w H L4 hR => ?_
  obtain ⟨x7, x8⟩ := s
  obtain ⟨v8, F, W⟩ := hR
  have F : Fr 46 [] [(2, .slice none 0 0), (3, v8), (30, v2), (31, .int .i64 (p0.2.2.length : Int)), (32, .int .i64 x8)] a := F
  have W : Stw ⟨Y, [], w0⟩ [(b1, [.int .i64 p0.1, v1, v2])] [row v8 86 Hy x7] w := W
  rw [DW] at H
  refine Ah (Ab ?_)
  refine ls F W Aa (Bj F Aa Aa).q fun a w F W => ?_
  refine Ad (Ac (Ah ?_))
  refine AB F Aa (fun hb => ?_) fun hb => ?_
  ·
   have H := AM (Bq hb) H
   rw [hb] at F
   clear hb
   refine Aw (Ac (Ah (Ax (Ah (Ab ?_)))))
   obtain ⟨x9, h3, H⟩ := Al H
   refine ls F W Aa (AC (r := Fi) OJ F Aa Aa (Am h_v2) h3).q fun a w F W => ?_
   refine ls F W Aa (Av (y := Value.agg #[.int .i64 x9.1, .int .i64 x9.2]) (j := 0) (i := x8) F Aa Aa (Am h_v2) h3 OH.to Q8 Aa).q fun a w F W => ?_
   refine Cc (cs := [.int .i64 0, .int .i64 0]) F W Aa Rc Aa fun b3 a w F W => ?_
   refine Cn (vs := [.int .i64 x9.1, .int .i64 x9.2]) (M' := [(b3, [.int .i64 x9.1, .int .i64 x9.2]), (b1, [.int .i64 p0.1, v1, v2])]) 0 F W Aa Aa Aa Q8 Aa Aa Aa Aa Aa fun w W => ?_
   refine Ad (Ac (Ab ?_))
   refine ls F W Aa (Ae F Aa).q fun a w F W => ?_
   refine ls F W Aa (Ai ID Aa Aa Aa T3 F Aa 0 Aa).q fun a w F W => ?_
   refine ls F W Aa (An (v := Value.int .i64 x9.1) 0 F Aa Aa T3 Aa).q fun a w F W => ?_
   refine ls F W Aa (Ai ID Aa Aa Aa T3 F Aa 1 Aa).q fun a w F W => ?_
   refine ls F W Aa (An (v := Value.int .i64 x9.2) 0 F Aa Aa T3 Aa).q fun a w F W => ?_
   refine ls F W Aa (CZ (v := Value.agg #[.int .i64 x9.1, .int .i64 x9.2]) P3 F Aa Aa Aa).q fun a w F W => ?_
   refine Eg (z := Value.agg #[.int .i64 0, .int .i64 0]) (cs := [.int .i64 x9.1, .int .i64 x9.2]) Hy ([x9] : List (Int × Int)) F W Aa OE Qx Aa Aa Aa Aa Aa Aa (QD.repL _ _ ([x9] : List (Int × Int))) fun v9 a w F W => ?_
   obtain ⟨x10, h4, H⟩ := Al H
   refine Dv (r := Hy) (i := 1) F W Aa OE Aa Aa Aa Aa (DG W 0 Aa) h4 Aa fun v10 a w F W => ?_
   have W : Stw ⟨Y, [], w0⟩ [(b3, [.int .i64 x9.1, .int .i64 x9.2]), (b1, [.int .i64 p0.1, v1, v2])] [row v10 86 Hy x10, row v9 86 Hy ([x9] : List (Int × Int))] w := W
   refine ls F W Aa (Af F Aa).q fun a w F W => ?_
   refine Ad (AL (Ac (Ab ?_)))
   refine ls F W Aa (BR F Aa Aa Aa).q fun a w F W => ?_
   refine ls F W Aa (Ae F Aa).q fun a w F W => ?_
   refine Ad (Ac ?_)
   have W := W.frontM (i := 1) Aa Aa
   have W := W.sub (M' := [(b1, [.int .i64 p0.1, v1, v2])]) (Z' := [row v10 86 Hy x10]) (List.Sublist.cons_cons _ (List.nil_sublist _)) (List.Sublist.cons_cons _ (List.nil_sublist _))
   exact ⟨_, H, (v10), F.re ⟨rfl, Aa, Aa, Aa, Aa, trivial⟩, W⟩
  have H := AN (Br hb) H
  rw [hb] at F
  clear hb
  refine Bh ?_
  iterate 2 refine BO ?_
  refine Bi (Ac ?_)
  have H := L4 _ H
  exact ⟨_, (v8), H, F.re ⟨rfl, Aa, trivial⟩, W⟩
 rintro a w ⟨x6, v7, hj, F, W⟩
 have hj := AR hj
 subst hj
 have H := K3
 clear G3 K3
 refine Ah (Ab ?_)
 refine ls F W Aa (Ae F Aa).q fun a w F W => ?_
 refine ls F W Aa (Af F Aa).q fun a w F W => ?_
 refine Ad (Ac (Ay ?_))
 have H := AR H
 subst H
 refine AS (.inl Aa) F W Aa (Au F Aa) ?_
 have W := W.sub (M' := []) (Z' := [row v7 86 Hy x6]) (List.nil_sublist _) (List.Sublist.refl _)
 exact ⟨(v7), Aa, W⟩
theorem MN : type_of% Try.underlying3 := Try.underlying3
theorem Qc : type_of% Try.underlying107 := Try.underlying107
theorem RW : Has Try.prog 63 := ⟨fun args w => Aj Try.func63 rfl (by decide) args w⟩
theorem PI : Ty Try.prog 86 true 2 := ⟨by kernel_rfl, by kernel_rfl⟩
theorem QC (dd : Nat) (x0 : Int) (x1 : Int) (y0 : Int) (y1 : Int) (w : World) : (Op.equalIn (dd + 2) 86 (.agg #[.int .i64 x0, .int .i64 x1]) (.agg #[.int .i64 y0, .int .i64 y1])).run Try.prog w = .ok (decide (x0 = y0 ∧ x1 = y1)) w :=
  MI (d := dd + 1) (rs := [decide (x0 = y0), decide (x1 = y1)]) KO (by kernel_rfl) ⟨rfl, Ms (d := dd + 0) rfl rfl MN T3 rfl rfl, rfl, Ms (d := dd + 0) rfl rfl MN T3 rfl rfl, trivial⟩ (by simp) w
theorem Q2 : Try.prog.eqGuardType Try.prog.depth 86 = false := by kernel_rfl
theorem QF (x0 : Int) (x1 : Int) (y0 : Int) (y1 : Int) (w : World) : (Op.equalIn 10000 86 (.agg #[.int .i64 x0, .int .i64 x1]) (.agg #[.int .i64 y0, .int .i64 y1])).run Try.prog w = .ok (decide (x0 = y0 ∧ x1 = y1)) w := QC 9998 x0 x1 y0 y1 w
theorem Qf : KeyEnc Try.prog 86 Hi := ⟨⟨_, KO, .inl fun _ _ => rfl⟩, fun x y w => (QF x.1 x.2 y.1 y.2 w).trans (by congr 1; exact decide_eq_decide.2 (by simp only [Prod.ext_iff])), fun b x w => Iv (m := 9999) (cs := List.toArray [.int .i64 x.1, .int .i64 x.2]) KO ⟨⟨_, KY T3 rfl, FS (m := 9998) MN⟩, ⟨_, KY T3 rfl, FS (m := 9998) MN⟩, trivial⟩ b w, fun x => by simp [Instr.sameBits]⟩
theorem Qg : (Try.prog.info? 107).bind (·.zero) = some (.agg #[]) := by kernel_rfl
theorem QR : Ty Try.prog 107 true 0 := ⟨by kernel_rfl, by kernel_rfl⟩
theorem QP : Bt Try.prog 107 [] [] := ⟨⟨.agg #[], by kernel_rfl, rfl⟩, ⟨_, Qc, fun w => by kernel_rfl⟩⟩
def Df (p0 : Int × Int × Int × Int × Int × Int) : Bool := (decide (p0.1 = p0.2.2.1) || (decide (p0.2.2.2.2.1 < 1) || (decide (p0.2.2.2.2.2 < p0.2.2.2.2.1) || decide (1000 < p0.2.2.2.2.2))))
theorem HS (Y : Nat → Prop) (w0 : World)  (p0 : Int × Int × Int × Int × Int × Int) (r : Bool) (H : Df p0 = r)  :
    Calls Try.prog 65 #[.agg #[.int .i64 p0.1, .int .i64 p0.2.1, .int .i64 p0.2.2.1, .int .i64 p0.2.2.2.1, .int .i64 p0.2.2.2.2.1, .int .i64 p0.2.2.2.2.2]] w0 fun e w' => e = .returned (.bool r) ∧ Below w0.heap.size w0 w' := by
 refine enter Try.func65 Aa Try.ntmps65 Aa fun a F => ?_
 have W := Stw.start Y w0
 unfold Df at H
 refine Ah (Ab ?_)
 refine D6 (cs := [.int .i64 p0.1, .int .i64 p0.2.1, .int .i64 p0.2.2.1, .int .i64 p0.2.2.2.1, .int .i64 p0.2.2.2.2.1, .int .i64 p0.2.2.2.2.2]) F W Aa Aa Aa fun b1 a w F W => ?_
 refine ls F W Aa (Af F Aa).q fun a w F W => ?_
 refine Ad (Ac ?_)
 refine AG (fun a w => Fr 25 [] [(2, .bool (decide (p0.1 = p0.2.2.1) || (decide (p0.2.2.2.2.1 < 1) || (decide (p0.2.2.2.2.2 < p0.2.2.2.2.1) || decide (1000 < p0.2.2.2.2.2)))))] a ∧ Stw ⟨Y, [], w0⟩ [(b1, [.int .i64 p0.1, .int .i64 p0.2.1, .int .i64 p0.2.2.1, .int .i64 p0.2.2.2.1, .int .i64 p0.2.2.2.2.1, .int .i64 p0.2.2.2.2.2])] [] w) ?_ ?_
 ·
  refine Ab ?_
  refine ls F W Aa (Ai CS Aa Aa Aa T3 F Aa 0 Aa).q fun a w F W => ?_
  refine ls F W Aa (An (v := Value.int .i64 p0.1) 0 F Aa Aa T3 Aa).q fun a w F W => ?_
  refine ls F W Aa (Ai CS Aa Aa Aa T3 F Aa 2 Aa).q fun a w F W => ?_
  refine ls F W Aa (An (v := Value.int .i64 p0.2.2.1) 0 F Aa Aa T3 Aa).q fun a w F W => ?_
  refine ls F W Aa (C9 F Aa Aa).q fun a w F W => ?_
  refine ls F W Aa (Ae F Aa).q fun a w F W => ?_
  rcases Bool.eq_false_or_eq_true (decide (p0.1 = p0.2.2.1)) with hb0 | hb0
  ·
   rw [hb0] at F
   iterate 3 refine Ci F Aa Aa Aa Aa Aa Aa Aa fun a F => ?_
   refine ls F W Aa (Ao F Aa Aa Aa).q fun a w F W => ?_
   refine ls F W Aa (Ae F Aa).q fun a w F W => ?_
   iterate 5 refine Ci F Aa Aa Aa Aa Aa Aa Aa fun a F => ?_
   refine ls F W Aa (Ao F Aa Aa Aa).q fun a w F W => ?_
   refine ls F W Aa (Ae F Aa).q fun a w F W => ?_
   iterate 3 refine Ci F Aa Aa Aa Aa Aa Aa Aa fun a F => ?_
   refine ls F W Aa (Ao F Aa Aa Aa).q fun a w F W => ?_
   refine ls F W Aa (Af F Aa).q fun a w F W => ?_
   refine Ad (Ac ?_)
   exact ⟨F.re ⟨(by show some (Value.bool true) = some (Value.bool (decide (p0.1 = p0.2.2.1) || (decide (p0.2.2.2.2.1 < 1) || (decide (p0.2.2.2.2.2 < p0.2.2.2.2.1) || decide (1000 < p0.2.2.2.2.2))))); try rw [hb0]; all_goals simp only [Bool.not_true, Bool.not_false, Bool.true_and, Bool.false_and, Bool.true_or, Bool.false_or, Bool.and_true, Bool.or_false, cond_true, cond_false]), trivial⟩, W⟩
  rw [hb0] at F
  refine AA F W (Ag F Aa Aa Aa Aa) Aa (Ak Aa) (Ai CS Aa Aa Aa T3 F Aa 4 Aa).q fun a w F W => ?_
  refine AA F W (Ag F Aa Aa Aa Aa) Aa (Ak Aa) (An (v := Value.int .i64 p0.2.2.2.2.1) 0 F Aa Aa T3 Aa).q fun a w F W => ?_
  refine AA F W (Ag F Aa Aa Aa Aa) Aa (Ak Aa) (Bj F Aa Aa).q fun a w F W => ?_
  refine ls F W Aa (Ap F Aa Aa Aa).q fun a w F W => ?_
  refine ls F W Aa (Ae F Aa).q fun a w F W => ?_
  rcases Bool.eq_false_or_eq_true (decide (p0.2.2.2.2.1 < 1)) with hb1 | hb1
  ·
   rw [hb1] at F
   iterate 5 refine Ci F Aa Aa Aa Aa Aa Aa Aa fun a F => ?_
   refine ls F W Aa (Ao F Aa Aa Aa).q fun a w F W => ?_
   refine ls F W Aa (Ae F Aa).q fun a w F W => ?_
   iterate 3 refine Ci F Aa Aa Aa Aa Aa Aa Aa fun a F => ?_
   refine ls F W Aa (Ao F Aa Aa Aa).q fun a w F W => ?_
   refine ls F W Aa (Af F Aa).q fun a w F W => ?_
   refine Ad (Ac ?_)
   exact ⟨F.re ⟨(by show some (Value.bool true) = some (Value.bool (decide (p0.1 = p0.2.2.1) || (decide (p0.2.2.2.2.1 < 1) || (decide (p0.2.2.2.2.2 < p0.2.2.2.2.1) || decide (1000 < p0.2.2.2.2.2))))); try rw [hb1]; try rw [hb0]; all_goals simp only [Bool.not_true, Bool.not_false, Bool.true_and, Bool.false_and, Bool.true_or, Bool.false_or, Bool.and_true, Bool.or_false, cond_true, cond_false]), trivial⟩, W⟩
  rw [hb1] at F
  refine AA F W (Ag F Aa Aa Aa Aa) Aa (Ak Aa) (Ai CS Aa Aa Aa T3 F Aa 5 Aa).q fun a w F W => ?_
  refine AA F W (Ag F Aa Aa Aa Aa) Aa (Ak Aa) (An (v := Value.int .i64 p0.2.2.2.2.2) 0 F Aa Aa T3 Aa).q fun a w F W => ?_
  refine AA F W (Ag F Aa Aa Aa Aa) Aa (Ak Aa) (Ai CS Aa Aa Aa T3 F Aa 4 Aa).q fun a w F W => ?_
  refine AA F W (Ag F Aa Aa Aa Aa) Aa (Ak Aa) (An (v := Value.int .i64 p0.2.2.2.2.1) 0 F Aa Aa T3 Aa).q fun a w F W => ?_
  refine AA F W (Ag F Aa Aa Aa Aa) Aa (Ak Aa) (Bj F Aa Aa).q fun a w F W => ?_
  refine ls F W Aa (Ap F Aa Aa Aa).q fun a w F W => ?_
  refine ls F W Aa (Ae F Aa).q fun a w F W => ?_
  rcases Bool.eq_false_or_eq_true (decide (p0.2.2.2.2.2 < p0.2.2.2.2.1)) with hb2 | hb2
  ·
   rw [hb2] at F
   iterate 3 refine Ci F Aa Aa Aa Aa Aa Aa Aa fun a F => ?_
   refine ls F W Aa (Ao F Aa Aa Aa).q fun a w F W => ?_
   refine ls F W Aa (Af F Aa).q fun a w F W => ?_
   refine Ad (Ac ?_)
   exact ⟨F.re ⟨(by show some (Value.bool true) = some (Value.bool (decide (p0.1 = p0.2.2.1) || (decide (p0.2.2.2.2.1 < 1) || (decide (p0.2.2.2.2.2 < p0.2.2.2.2.1) || decide (1000 < p0.2.2.2.2.2))))); try rw [hb2]; try rw [hb1]; try rw [hb0]; all_goals simp only [Bool.not_true, Bool.not_false, Bool.true_and, Bool.false_and, Bool.true_or, Bool.false_or, Bool.and_true, Bool.or_false, cond_true, cond_false]), trivial⟩, W⟩
  rw [hb2] at F
  refine AA F W (Ag F Aa Aa Aa Aa) Aa (Ak Aa) (Ai CS Aa Aa Aa T3 F Aa 5 Aa).q fun a w F W => ?_
  refine AA F W (Ag F Aa Aa Aa Aa) Aa (Ak Aa) (An (v := Value.int .i64 p0.2.2.2.2.2) 0 F Aa Aa T3 Aa).q fun a w F W => ?_
  refine AA F W (Ag F Aa Aa Aa Aa) Aa (Ak Aa) (DV F Aa Aa).q fun a w F W => ?_
  refine ls F W Aa (Ap F Aa Aa Aa).q fun a w F W => ?_
  refine ls F W Aa (Af F Aa).q fun a w F W => ?_
  refine Ad (Ac ?_)
  exact ⟨F.re ⟨(by show some (Value.bool (decide (1000 < p0.2.2.2.2.2))) = some (Value.bool (decide (p0.1 = p0.2.2.1) || (decide (p0.2.2.2.2.1 < 1) || (decide (p0.2.2.2.2.2 < p0.2.2.2.2.1) || decide (1000 < p0.2.2.2.2.2))))); try rw [hb2]; try rw [hb1]; try rw [hb0]; all_goals simp only [Bool.not_true, Bool.not_false, Bool.true_and, Bool.false_and, Bool.true_or, Bool.false_or, Bool.and_true, Bool.or_false, cond_true, cond_false]), trivial⟩, W⟩
 rintro a w ⟨F, W⟩
 refine Ay ?_
 subst H
 refine AS (.inl Aa) F W Aa (Au F Aa) ?_
 exact ⟨rfl, W.done⟩
theorem Rr : Has Try.prog 65 := ⟨fun args w => Aj Try.func65 rfl (by decide) args w⟩
noncomputable def A8 (p0 : List (Int × Int × Int × Int × Int × Int)) : Int → Option (Int ⊕ (Unit ⊕ Int))
  | x1 => (if x1 < (p0.length : Int) then (ix p0 x1).bind fun x2 => (if (Df x2) = true then some (.inr (.inr x1)) else some (.inl (BJ (x1 + 1)))) else some (.inr (.inl ())))
noncomputable def A1 (p0 : List (Int × Int × Int × Int × Int × Int)) : Option Int := Jj (AF (A8 p0) 0) fun _ => some (-1)
theorem Du (Y : Nat → Prop) (w0 : World) (v1 : Value) (p0 : List (Int × Int × Int × Int × Int × Int)) (r : Int) (H : A1 p0 = some r) (h_v1 : Sl w0 (NX []) Fg v1 p0) :
    Calls Try.prog 83 #[v1, .func (.func 65) #[] #[]] w0 fun e w' => e = .returned (.int .i64 r) ∧ Below w0.heap.size w0 w' := by
 refine enter Try.func83 Aa Try.ntmps83 Aa fun a F => ?_
 have W := Stw.start Y w0
 unfold A1 at H
 refine Ah (Ab ?_)
 refine ls F W Aa (Af F Aa).q fun a w F W => ?_
 refine Ad (Ac ?_)
 obtain ⟨o1, G1, K1, L1⟩ := Oi H
 refine AG (fun a w => some (Sum.inl ()) = some o1 ∧ Fr 19 [] [(4, .int .i64 0)] a ∧ Stw ⟨Y, [], w0⟩ [] [] w) ?_ ?_
 ·
  have H := G1
  clear G1 K1
  refine Ah (Ab ?_)
  refine ls F W Aa (Ae F Aa).q fun a w F W => ?_
  refine ls F W Aa (Bv (r := Fg) (l := p0) Iq Aa F Aa (Am h_v1)).q fun a w F W => ?_
  refine ls F W Aa (Ae F Aa).q fun a w F W => ?_
  refine Ad (Ac (Ax ?_))
  refine Bf H (fun s a w => Fr 19 [] [(0, v1), (1, .func (.func 65) #[] #[]), (4, .int .i64 0), (7, .int .i64 (p0.length : Int)), (8, .int .i64 s)] a ∧ Stw ⟨Y, [], w0⟩ [] [] w) ⟨F.re ⟨rfl, Aa, Aa, Aa, Aa, trivial⟩, W⟩ fun s o a w H L2 hR => ?_
  obtain ⟨x1, rfl⟩ : ∃ x, x = s := ⟨s, rfl⟩
  obtain ⟨F, W⟩ := hR
  have F : Fr 19 [] [(0, v1), (1, .func (.func 65) #[] #[]), (4, .int .i64 0), (7, .int .i64 (p0.length : Int)), (8, .int .i64 x1)] a := F
  have W : Stw ⟨Y, [], w0⟩ [] [] w := W
  rw [A8] at H
  refine Ah (Ab ?_)
  refine ls F W Aa (Bj F Aa Aa).q fun a w F W => ?_
  refine Ad (Ac (Ah ?_))
  refine AB F Aa (fun hb => ?_) fun hb => ?_
  ·
   have H := AM (Bq hb) H
   rw [hb] at F
   clear hb
   refine Aw (Ac (Ah (Ax (Ah (Ab ?_)))))
   refine ls F W Aa (Ae F Aa).q fun a w F W => ?_
   refine ls F W Aa (Af F Aa).q fun a w F W => ?_
   refine Ad (Ac (Ah (Ab ?_)))
   iterate 3 refine ls F W Aa (Ae F Aa).q fun a w F W => ?_
   obtain ⟨x2, h1, H⟩ := Al H
   refine ls F W Aa (AC (r := Fg) Pz F Aa Aa (Am h_v1) h1).q fun a w F W => ?_
   refine ls F W Aa (Av (y := Value.agg #[.int .i64 x2.1, .int .i64 x2.2.1, .int .i64 x2.2.2.1, .int .i64 x2.2.2.2.1, .int .i64 x2.2.2.2.2.1, .int .i64 x2.2.2.2.2.2]) (j := 0) (i := x1) F Aa Aa (Am h_v1) h1 PY.to NH Aa).q fun a w F W => ?_
   refine ls F W Aa (Kd (ws := [.agg #[.int .i64 x2.1, .int .i64 x2.2.1, .int .i64 x2.2.2.1, .int .i64 x2.2.2.2.1, .int .i64 x2.2.2.2.2.1, .int .i64 x2.2.2.2.2.2]]) (v := Value.bool (Df x2)) F Rr Aa (fun w W => HS any w x2 _ Aa)) fun a w F W => ?_
   refine Ad (Ac ?_)
   refine AB F Aa (fun hb => ?_) fun hb => ?_
   ·
    have H := AM hb H
    rw [hb] at F
    clear hb
    refine Ah (Ab ?_)
    refine ls F W Aa (Ae F Aa).q fun a w F W => ?_
    refine ls F W Aa (Af F Aa).q fun a w F W => ?_
    refine Ad (Ac (Ay (AU ?_)))
    iterate 2 refine AH ?_
    refine AU (AH ?_)
    have H := L2 _ H
    have H := L1 _ H
    have H := AR H
    subst H
    refine AS (.inl Aa) F W Aa (Au F Aa) ?_
    exact ⟨rfl, W.done⟩
   have H := AN (by rw [hb]; decide) H
   rw [hb] at F
   clear hb
   refine Aw (AL (Ac (Ab ?_)))
   refine ls F W Aa (BR F Aa Aa Aa).q fun a w F W => ?_
   refine ls F W Aa (Ae F Aa).q fun a w F W => ?_
   refine Ad (Ac ?_)
   exact ⟨_, H, F.re ⟨rfl, Aa, Aa, Aa, Aa, trivial⟩, W⟩
  have H := AN (Br hb) H
  rw [hb] at F
  clear hb
  refine Bh ?_
  iterate 2 refine BO ?_
  refine Bi (Ac ?_)
  have H := L2 _ H
  exact ⟨H, F.re ⟨rfl, trivial⟩, W⟩
 rintro a w ⟨hj, F, W⟩
 have H := K1 _ hj
 clear hj G1 K1 L1
 refine Ah (Ab ?_)
 refine ls F W Aa (Af F Aa).q fun a w F W => ?_
 refine Ad (Ac (Ay ?_))
 have H := AR H
 subst H
 refine AS (.inl Aa) F W Aa (Au F Aa) ?_
 exact ⟨rfl, W.done⟩
theorem Ru : Has Try.prog 83 := ⟨fun args w => Aj Try.func83 rfl (by decide) args w⟩
noncomputable def AW (p0 : List (Int × Int × Int × Int × Int × Int)) : Option Bool := (A1 p0).bind fun x1 => some (decide (0 ≤ x1))
theorem C2 (Y : Nat → Prop) (w0 : World) (v1 : Value) (p0 : List (Int × Int × Int × Int × Int × Int)) (r : Bool) (H : AW p0 = some r) (h_v1 : Sl w0 (NX []) Fg v1 p0) :
    Calls Try.prog 64 #[v1, .func (.func 65) #[] #[]] w0 fun e w' => e = .returned (.bool r) ∧ Below w0.heap.size w0 w' := by
 refine enter Try.func64 Aa Try.ntmps64 Aa fun a F => ?_
 have W := Stw.start Y w0
 unfold AW at H
 refine Ah (Ab ?_)
 refine ls F W Aa (Af F Aa).q fun a w F W => ?_
 refine Ad (Ac (Ah (Ab ?_)))
 iterate 2 refine ls F W Aa (Ae F Aa).q fun a w F W => ?_
 obtain ⟨x1, h1, H⟩ := Al H
 refine ls F W Aa (AQ (v := Value.int .i64 x1) F Ru Aa (fun w W => Du any w (v1) p0 _ h1 (((Am h_v1) : DY _ _ _ _ _ _) w W).nx)) fun a w F W => ?_
 refine ls F W Aa (EQ F Aa Aa).q fun a w F W => ?_
 refine ls F W Aa (Af F Aa).q fun a w F W => ?_
 refine Ad (Ac (Ay ?_))
 have H := AR H
 subst H
 refine AS (.inl Aa) F W Aa (Au F Aa) ?_
 exact ⟨rfl, W.done⟩
theorem Pu : type_of% Try.underlying104 := Try.underlying104
theorem Rj : Has Try.prog 64 := ⟨fun args w => Aj Try.func64 rfl (by decide) args w⟩
noncomputable def Eu (p0 : Int × (List (Int × Int × Int × Int × Int × Int)) × (List (Int × Int))) (x2 : (List (Int × Int))) : (Int × (List ((Int × Int) × Unit))) → Option ((Int × (List ((Int × Int) × Unit))) ⊕ ((List ((Int × Int) × Unit)) ⊕ Bool))
  | (x3, x4) => (if x3 < (x2.length : Int) then (ix x2 x3).bind fun x5 => (if (decide (x5.1 < 0) || (decide (p0.1 ≤ x5.1) || (decide (x5.2 < 0) || decide (8 ≤ x5.2)))) = true then some (.inr (.inr false)) else (if ((Jz x4 x5).isSome) = true then some (.inr (.inr false)) else some (.inl (BJ (x3 + 1), II x4 x5 ())))) else some (.inr (.inl x4)))
noncomputable def E4 (p0 : Int × (List (Int × Int × Int × Int × Int × Int)) × (List (Int × Int))) : Option Bool := (if (decide (p0.1 < 1) || (decide (8 < p0.1) || (decide (24 < (p0.2.1.length : Int)) || decide (8 < (p0.2.2.length : Int))))) = true then some false else Jj ((EA p0).bind fun x2 => AF (Eu p0 x2) (0, ([] : List ((Int × Int) × Unit)))) fun x1 => (AW p0.2.1).bind fun x6 => some (!x6))
theorem Ks (Y : Nat → Prop) (w0 : World) (v1 : Value) (v2 : Value) (p0 : Int × (List (Int × Int × Int × Int × Int × Int)) × (List (Int × Int))) (r : Bool) (H : E4 p0 = some r) (h_v1 : Sl w0 (NX []) Fg v1 p0.2.1) (h_v2 : Sl w0 (NX []) Fi v2 p0.2.2) :
    Calls Try.prog 49 #[.agg #[.int .i64 p0.1, v1, v2]] w0 fun e w' => e = .returned (.bool r) ∧ Below w0.heap.size w0 w' := by
 refine enter Try.func49 Aa Try.ntmps49 Aa fun a F => ?_
 have W := Stw.start Y w0
 unfold E4 at H
 refine Ah (Ab ?_)
 refine D6 (cs := [.int .i64 p0.1, v1, v2]) F W Aa Aa Aa fun b1 a w F W => ?_
 refine ls F W Aa (Af F Aa).q fun a w F W => ?_
 refine Ad (Ac (Ah ?_))
 refine AG (fun a w => Fr 71 [] [(1, .pointer (some ⟨b1, 0, none⟩)), (2, .bool false), (27, .bool (decide (p0.1 < 1) || (decide (8 < p0.1) || (decide (24 < (p0.2.1.length : Int)) || decide (8 < (p0.2.2.length : Int))))))] a ∧ Stw ⟨Y, [], w0⟩ [(b1, [.int .i64 p0.1, v1, v2])] [] w) ?_ ?_
 ·
  refine Ab ?_
  refine ls F W Aa (Ai Ck Aa Aa Aa T3 F Aa 0 Aa).q fun a w F W => ?_
  refine ls F W Aa (An (v := Value.int .i64 p0.1) 0 F Aa Aa T3 Aa).q fun a w F W => ?_
  refine ls F W Aa (Bj F Aa Aa).q fun a w F W => ?_
  refine ls F W Aa (Ae F Aa).q fun a w F W => ?_
  rcases Bool.eq_false_or_eq_true (decide (p0.1 < 1)) with hb0 | hb0
  ·
   rw [hb0] at F
   iterate 3 refine Ci F Aa Aa Aa Aa Aa Aa Aa fun a F => ?_
   refine ls F W Aa (Ao F Aa Aa Aa).q fun a w F W => ?_
   refine ls F W Aa (Ae F Aa).q fun a w F W => ?_
   iterate 4 refine Ci F Aa Aa Aa Aa Aa Aa Aa fun a F => ?_
   refine ls F W Aa (Ao F Aa Aa Aa).q fun a w F W => ?_
   refine ls F W Aa (Ae F Aa).q fun a w F W => ?_
   iterate 4 refine Ci F Aa Aa Aa Aa Aa Aa Aa fun a F => ?_
   refine ls F W Aa (Ao F Aa Aa Aa).q fun a w F W => ?_
   refine Ad (Ac ?_)
   exact ⟨F.re ⟨rfl, Aa, (by show some (Value.bool true) = some (Value.bool (decide (p0.1 < 1) || (decide (8 < p0.1) || (decide (24 < (p0.2.1.length : Int)) || decide (8 < (p0.2.2.length : Int)))))); try rw [hb0]; all_goals simp only [Bool.not_true, Bool.not_false, Bool.true_and, Bool.false_and, Bool.true_or, Bool.false_or, Bool.and_true, Bool.or_false, cond_true, cond_false]), trivial⟩, W⟩
  rw [hb0] at F
  refine AA F W (Ag F Aa Aa Aa Aa) Aa (Ak Aa) (Ai Ck Aa Aa Aa T3 F Aa 0 Aa).q fun a w F W => ?_
  refine AA F W (Ag F Aa Aa Aa Aa) Aa (Ak Aa) (An (v := Value.int .i64 p0.1) 0 F Aa Aa T3 Aa).q fun a w F W => ?_
  refine AA F W (Ag F Aa Aa Aa Aa) Aa (Ak Aa) (DV F Aa Aa).q fun a w F W => ?_
  refine ls F W Aa (Ap F Aa Aa Aa).q fun a w F W => ?_
  refine ls F W Aa (Ae F Aa).q fun a w F W => ?_
  rcases Bool.eq_false_or_eq_true (decide (8 < p0.1)) with hb1 | hb1
  ·
   rw [hb1] at F
   iterate 4 refine Ci F Aa Aa Aa Aa Aa Aa Aa fun a F => ?_
   refine ls F W Aa (Ao F Aa Aa Aa).q fun a w F W => ?_
   refine ls F W Aa (Ae F Aa).q fun a w F W => ?_
   iterate 4 refine Ci F Aa Aa Aa Aa Aa Aa Aa fun a F => ?_
   refine ls F W Aa (Ao F Aa Aa Aa).q fun a w F W => ?_
   refine Ad (Ac ?_)
   exact ⟨F.re ⟨rfl, Aa, (by show some (Value.bool true) = some (Value.bool (decide (p0.1 < 1) || (decide (8 < p0.1) || (decide (24 < (p0.2.1.length : Int)) || decide (8 < (p0.2.2.length : Int)))))); try rw [hb0]; try rw [hb1]; all_goals simp only [Bool.not_true, Bool.not_false, Bool.true_and, Bool.false_and, Bool.true_or, Bool.false_or, Bool.and_true, Bool.or_false, cond_true, cond_false]), trivial⟩, W⟩
  rw [hb1] at F
  refine AA F W (Ag F Aa Aa Aa Aa) Aa (Ak Aa) (Ai Ck Aa Aa Aa Ii F Aa 1 Aa).q fun a w F W => ?_
  refine AA F W (Ag F Aa Aa Aa Aa) Aa (Ak Aa) (An (v := v1) 0 F Aa Aa Ii Aa).q fun a w F W => ?_
  refine AA F W (Ag F Aa Aa Aa Aa) Aa (Ak Aa) (Bv (r := Fg) (l := p0.2.1) Iq Aa F Aa (Am h_v1)).q fun a w F W => ?_
  refine AA F W (Ag F Aa Aa Aa Aa) Aa (Ak Aa) (DV F Aa Aa).q fun a w F W => ?_
  refine ls F W Aa (Ap F Aa Aa Aa).q fun a w F W => ?_
  refine ls F W Aa (Ae F Aa).q fun a w F W => ?_
  rcases Bool.eq_false_or_eq_true (decide (24 < (p0.2.1.length : Int))) with hb2 | hb2
  ·
   rw [hb2] at F
   iterate 4 refine Ci F Aa Aa Aa Aa Aa Aa Aa fun a F => ?_
   refine ls F W Aa (Ao F Aa Aa Aa).q fun a w F W => ?_
   refine Ad (Ac ?_)
   exact ⟨F.re ⟨rfl, Aa, (by show some (Value.bool true) = some (Value.bool (decide (p0.1 < 1) || (decide (8 < p0.1) || (decide (24 < (p0.2.1.length : Int)) || decide (8 < (p0.2.2.length : Int)))))); try rw [hb2]; try rw [hb0]; try rw [hb1]; all_goals simp only [Bool.not_true, Bool.not_false, Bool.true_and, Bool.false_and, Bool.true_or, Bool.false_or, Bool.and_true, Bool.or_false, cond_true, cond_false]), trivial⟩, W⟩
  rw [hb2] at F
  refine AA F W (Ag F Aa Aa Aa Aa) Aa (Ak Aa) (Ai Ck Aa Aa Aa GI F Aa 2 Aa).q fun a w F W => ?_
  refine AA F W (Ag F Aa Aa Aa Aa) Aa (Ak Aa) (An (v := v2) 0 F Aa Aa GI Aa).q fun a w F W => ?_
  refine AA F W (Ag F Aa Aa Aa Aa) Aa (Ak Aa) (Bv (r := Fi) (l := p0.2.2) Jp Aa F Aa (Am h_v2)).q fun a w F W => ?_
  refine AA F W (Ag F Aa Aa Aa Aa) Aa (Ak Aa) (DV F Aa Aa).q fun a w F W => ?_
  refine ls F W Aa (Ap F Aa Aa Aa).q fun a w F W => ?_
  refine Ad (Ac ?_)
  exact ⟨F.re ⟨rfl, Aa, (by show some (Value.bool (decide (8 < (p0.2.2.length : Int)))) = some (Value.bool (decide (p0.1 < 1) || (decide (8 < p0.1) || (decide (24 < (p0.2.1.length : Int)) || decide (8 < (p0.2.2.length : Int)))))); try rw [hb2]; try rw [hb0]; try rw [hb1]; all_goals simp only [Bool.not_true, Bool.not_false, Bool.true_and, Bool.false_and, Bool.true_or, Bool.false_or, Bool.and_true, Bool.or_false, cond_true, cond_false]), trivial⟩, W⟩
 rintro a w ⟨F, W⟩
 refine AB F Aa (fun hb => ?_) fun hb => ?_
 ·
  have H := AM hb H
  rw [hb] at F
  clear hb
  refine Ah (Ab ?_)
  refine ls F W Aa (Af F Aa).q fun a w F W => ?_
  refine Ad (Ac (Ay (AH ?_)))
  have H := AR H
  subst H
  refine AS (.inl Aa) F W Aa (Au F Aa) ?_
  exact ⟨rfl, W.done⟩
 have H := AN (by rw [hb]; decide) H
 rw [hb] at F
 clear hb
 refine Aw (Ac (Ah (Ab ?_)))
 refine Nm Hi FH F W Aa fun b2 a w F W => ?_
 have W : Stw ⟨Y, [], w0⟩ [(b1, [.int .i64 p0.1, v1, v2])] [mp b2 Hi FH ([] : List ((Int × Int) × Unit))] w := W
 refine ls F W Aa (Af F Aa).q fun a w F W => ?_
 refine Ad (Ac ?_)
 obtain ⟨o1, G1, K1, L1⟩ := Oi H
 refine AG (fun a w => ∃ x1 : List ((Int × Int) × Unit), some (Sum.inl x1) = some o1 ∧ Fr 71 [] [(1, .pointer (some ⟨b1, 0, none⟩)), (2, .bool false)] a ∧ Stw ⟨Y, [], w0⟩ [(b1, [.int .i64 p0.1, v1, v2])] [mp b2 Hi FH x1] w) ?_ ?_
 ·
  have H := G1
  clear G1 K1
  refine Ah (Ab ?_)
  refine ls F W Aa (An (v := Value.agg #[.int .i64 p0.1, v1, v2]) 0 F Aa Aa I4 Aa).q fun a w F W => ?_
  obtain ⟨x2, h1, H⟩ := Al H
  refine BL (Ml := []) (Zl := []) (M := [(b1, [.int .i64 p0.1, v1, v2])]) (Z := [mp b2 Hi FH ([] : List ((Int × Int) × Unit))]) (β := Value) (rv := fun x => x) (MM := fun x => []) (ZZ := fun x => [row x 86 Hy x2]) F W RW Aa Aa (fun hL => JE _ w (v1) (v2) p0 _ h1 ((Am h_v1) w W).nx ((Am h_v2) w W).nx) fun x a w F W => ?_
  obtain ⟨v3, rfl⟩ : ∃ y, y = x := ⟨x, rfl⟩
  have W : Stw ⟨Y, [], w0⟩ [(b1, [.int .i64 p0.1, v1, v2])] [row v3 86 Hy x2, mp b2 Hi FH ([] : List ((Int × Int) × Unit))] w := W
  refine ls F W Aa (Bv (r := Hy) (l := x2) Ps Aa F Aa (As 0 Aa)).q fun a w F W => ?_
  refine ls F W Aa (Ae F Aa).q fun a w F W => ?_
  refine Ad (Ac (Ax ?_))
  have W := W.frontZ (i := 1) Aa Aa
  have W := W.frontZ (i := 1) Aa Aa
  refine Bf H (fun s a w => Fr 71 [] [(1, .pointer (some ⟨b1, 0, none⟩)), (2, .bool false), (3, .map (some b2)), (30, v3), (31, .int .i64 (x2.length : Int)), (32, .int .i64 s.1)] a ∧ Stw ⟨Y, [], w0⟩ [(b1, [.int .i64 p0.1, v1, v2])] [row v3 86 Hy x2, mp b2 Hi FH s.2] w) ⟨F.re ⟨rfl, Aa, Aa, Aa, Aa, Aa, trivial⟩, W⟩ fun s o a w H L2 hR => ?_
  obtain ⟨x3, x4⟩ := s
  obtain ⟨F, W⟩ := hR
  have F : Fr 71 [] [(1, .pointer (some ⟨b1, 0, none⟩)), (2, .bool false), (3, .map (some b2)), (30, v3), (31, .int .i64 (x2.length : Int)), (32, .int .i64 x3)] a := F
  have W : Stw ⟨Y, [], w0⟩ [(b1, [.int .i64 p0.1, v1, v2])] [row v3 86 Hy x2, mp b2 Hi FH x4] w := W
  rw [Eu] at H
  refine Ah (Ab ?_)
  refine ls F W Aa (Bj F Aa Aa).q fun a w F W => ?_
  refine Ad (Ac (Ah ?_))
  refine AB F Aa (fun hb => ?_) fun hb => ?_
  ·
   have H := AM (Bq hb) H
   rw [hb] at F
   clear hb
   refine Aw (Ac (Ah (Ax (Ah (Ab ?_)))))
   obtain ⟨x5, h2, H⟩ := Al H
   refine ls F W Aa (AC (r := Hy) OE F Aa Aa (As 0 Aa) h2).q fun a w F W => ?_
   refine ls F W Aa (Av (y := Value.agg #[.int .i64 x5.1, .int .i64 x5.2]) (j := 0) (i := x3) F Aa Aa (As 0 Aa) h2 QD.to PI Aa).q fun a w F W => ?_
   refine Cc (cs := [.int .i64 0, .int .i64 0]) F W Aa Qx Aa fun b3 a w F W => ?_
   refine Cn (vs := [.int .i64 x5.1, .int .i64 x5.2]) (M' := [(b3, [.int .i64 x5.1, .int .i64 x5.2]), (b1, [.int .i64 p0.1, v1, v2])]) 0 F W Aa Aa Aa PI Aa Aa Aa Aa Aa fun w W => ?_
   refine Ad (Ac (Ah ?_))
   refine AG (fun a w => Fr 71 [] [(1, .pointer (some ⟨b1, 0, none⟩)), (2, .bool false), (3, .map (some b2)), (5, .pointer (some ⟨b3, 0, none⟩)), (30, v3), (31, .int .i64 (x2.length : Int)), (32, .int .i64 x3), (55, .bool (decide (x5.1 < 0) || (decide (p0.1 ≤ x5.1) || (decide (x5.2 < 0) || decide (8 ≤ x5.2)))))] a ∧ Stw ⟨Y, [], w0⟩ [(b3, [.int .i64 x5.1, .int .i64 x5.2]), (b1, [.int .i64 p0.1, v1, v2])] [row v3 86 Hy x2, mp b2 Hi FH x4] w) ?_ ?_
   ·
    refine Ab ?_
    refine ls F W Aa (Ai KO Aa Aa Aa T3 F Aa 0 Aa).q fun a w F W => ?_
    refine ls F W Aa (An (v := Value.int .i64 x5.1) 0 F Aa Aa T3 Aa).q fun a w F W => ?_
    refine ls F W Aa (Bj F Aa Aa).q fun a w F W => ?_
    refine ls F W Aa (Ae F Aa).q fun a w F W => ?_
    rcases Bool.eq_false_or_eq_true (decide (x5.1 < 0)) with hb0 | hb0
    ·
     rw [hb0] at F
     iterate 5 refine Ci F Aa Aa Aa Aa Aa Aa Aa fun a F => ?_
     refine ls F W Aa (Ao F Aa Aa Aa).q fun a w F W => ?_
     refine ls F W Aa (Ae F Aa).q fun a w F W => ?_
     iterate 3 refine Ci F Aa Aa Aa Aa Aa Aa Aa fun a F => ?_
     refine ls F W Aa (Ao F Aa Aa Aa).q fun a w F W => ?_
     refine ls F W Aa (Ae F Aa).q fun a w F W => ?_
     iterate 3 refine Ci F Aa Aa Aa Aa Aa Aa Aa fun a F => ?_
     refine ls F W Aa (Ao F Aa Aa Aa).q fun a w F W => ?_
     refine Ad (Ac ?_)
     exact ⟨F.re ⟨rfl, Aa, Aa, Aa, Aa, Aa, Aa, (by show some (Value.bool true) = some (Value.bool (decide (x5.1 < 0) || (decide (p0.1 ≤ x5.1) || (decide (x5.2 < 0) || decide (8 ≤ x5.2))))); try rw [hb0]; all_goals simp only [Bool.not_true, Bool.not_false, Bool.true_and, Bool.false_and, Bool.true_or, Bool.false_or, Bool.and_true, Bool.or_false, cond_true, cond_false]), trivial⟩, W⟩
    rw [hb0] at F
    refine AA F W (Ag F Aa Aa Aa Aa) Aa (Ak Aa) (Ai KO Aa Aa Aa T3 F Aa 0 Aa).q fun a w F W => ?_
    refine AA F W (Ag F Aa Aa Aa Aa) Aa (Ak Aa) (An (v := Value.int .i64 x5.1) 0 F Aa Aa T3 Aa).q fun a w F W => ?_
    refine AA F W (Ag F Aa Aa Aa Aa) Aa (Ak Aa) (Ai Ck Aa Aa Aa T3 F Aa 0 Aa).q fun a w F W => ?_
    refine AA F W (Ag F Aa Aa Aa Aa) Aa (Ak Aa) (An (v := Value.int .i64 p0.1) 1 F Aa Aa T3 Aa).q fun a w F W => ?_
    refine AA F W (Ag F Aa Aa Aa Aa) Aa (Ak Aa) (EQ F Aa Aa).q fun a w F W => ?_
    refine ls F W Aa (Ap F Aa Aa Aa).q fun a w F W => ?_
    refine ls F W Aa (Ae F Aa).q fun a w F W => ?_
    rcases Bool.eq_false_or_eq_true (decide (p0.1 ≤ x5.1)) with hb1 | hb1
    ·
     rw [hb1] at F
     iterate 3 refine Ci F Aa Aa Aa Aa Aa Aa Aa fun a F => ?_
     refine ls F W Aa (Ao F Aa Aa Aa).q fun a w F W => ?_
     refine ls F W Aa (Ae F Aa).q fun a w F W => ?_
     iterate 3 refine Ci F Aa Aa Aa Aa Aa Aa Aa fun a F => ?_
     refine ls F W Aa (Ao F Aa Aa Aa).q fun a w F W => ?_
     refine Ad (Ac ?_)
     exact ⟨F.re ⟨rfl, Aa, Aa, Aa, Aa, Aa, Aa, (by show some (Value.bool true) = some (Value.bool (decide (x5.1 < 0) || (decide (p0.1 ≤ x5.1) || (decide (x5.2 < 0) || decide (8 ≤ x5.2))))); try rw [hb1]; try rw [hb0]; all_goals simp only [Bool.not_true, Bool.not_false, Bool.true_and, Bool.false_and, Bool.true_or, Bool.false_or, Bool.and_true, Bool.or_false, cond_true, cond_false]), trivial⟩, W⟩
    rw [hb1] at F
    refine AA F W (Ag F Aa Aa Aa Aa) Aa (Ak Aa) (Ai KO Aa Aa Aa T3 F Aa 1 Aa).q fun a w F W => ?_
    refine AA F W (Ag F Aa Aa Aa Aa) Aa (Ak Aa) (An (v := Value.int .i64 x5.2) 0 F Aa Aa T3 Aa).q fun a w F W => ?_
    refine AA F W (Ag F Aa Aa Aa Aa) Aa (Ak Aa) (Bj F Aa Aa).q fun a w F W => ?_
    refine ls F W Aa (Ap F Aa Aa Aa).q fun a w F W => ?_
    refine ls F W Aa (Ae F Aa).q fun a w F W => ?_
    rcases Bool.eq_false_or_eq_true (decide (x5.2 < 0)) with hb2 | hb2
    ·
     rw [hb2] at F
     iterate 3 refine Ci F Aa Aa Aa Aa Aa Aa Aa fun a F => ?_
     refine ls F W Aa (Ao F Aa Aa Aa).q fun a w F W => ?_
     refine Ad (Ac ?_)
     exact ⟨F.re ⟨rfl, Aa, Aa, Aa, Aa, Aa, Aa, (by show some (Value.bool true) = some (Value.bool (decide (x5.1 < 0) || (decide (p0.1 ≤ x5.1) || (decide (x5.2 < 0) || decide (8 ≤ x5.2))))); try rw [hb1]; try rw [hb0]; try rw [hb2]; all_goals simp only [Bool.not_true, Bool.not_false, Bool.true_and, Bool.false_and, Bool.true_or, Bool.false_or, Bool.and_true, Bool.or_false, cond_true, cond_false]), trivial⟩, W⟩
    rw [hb2] at F
    refine AA F W (Ag F Aa Aa Aa Aa) Aa (Ak Aa) (Ai KO Aa Aa Aa T3 F Aa 1 Aa).q fun a w F W => ?_
    refine AA F W (Ag F Aa Aa Aa Aa) Aa (Ak Aa) (An (v := Value.int .i64 x5.2) 0 F Aa Aa T3 Aa).q fun a w F W => ?_
    refine AA F W (Ag F Aa Aa Aa Aa) Aa (Ak Aa) (EQ F Aa Aa).q fun a w F W => ?_
    refine ls F W Aa (Ap F Aa Aa Aa).q fun a w F W => ?_
    refine Ad (Ac ?_)
    exact ⟨F.re ⟨rfl, Aa, Aa, Aa, Aa, Aa, Aa, (by show some (Value.bool (decide (8 ≤ x5.2))) = some (Value.bool (decide (x5.1 < 0) || (decide (p0.1 ≤ x5.1) || (decide (x5.2 < 0) || decide (8 ≤ x5.2))))); try rw [hb1]; try rw [hb0]; try rw [hb2]; all_goals simp only [Bool.not_true, Bool.not_false, Bool.true_and, Bool.false_and, Bool.true_or, Bool.false_or, Bool.and_true, Bool.or_false, cond_true, cond_false]), trivial⟩, W⟩
   rintro a w ⟨F, W⟩
   refine AB F Aa (fun hb => ?_) fun hb => ?_
   ·
    have H := AM hb H
    rw [hb] at F
    clear hb
    refine Ah (Ab ?_)
    refine ls F W Aa (Af F Aa).q fun a w F W => ?_
    refine Ad (Ac (Ay (AH (AU ?_))))
    iterate 2 refine AH ?_
    refine AU (AH ?_)
    have H := L2 _ H
    have H := L1 _ H
    have H := AR H
    subst H
    refine AS (.inl Aa) F W Aa (Au F Aa) ?_
    exact ⟨rfl, W.done⟩
   have H := AN (by rw [hb]; decide) H
   rw [hb] at F
   clear hb
   refine Aw (Ac (Ah (Ah (Ab ?_))))
   refine ls F W Aa (Ae F Aa).q fun a w F W => ?_
   refine ls F W Aa (An (v := Value.agg #[.int .i64 x5.1, .int .i64 x5.2]) 0 F Aa Aa PI Aa).q fun a w F W => ?_
   refine ls F W Aa (MQ (zv := (() : Unit)) (kx := (x5 : Int × Int)) (q := 1) (E := Hi) (V := FH) F Aa Aa Aa Qf Pu Qg).q fun a w F W => ?_
   refine ls F W Aa (Ae F Aa).q fun a w F W => ?_
   refine ls F W Aa (BD (v := Value.agg #[]) F Aa Aa).q fun a w F W => ?_
   refine ls F W Aa (BD (v := Value.bool ((Jz x4 x5).isSome)) F Aa Aa).q fun a w F W => ?_
   refine Cc (cs := []) F W Aa Qg Aa fun b4 a w F W => ?_
   refine Cn (vs := []) (M' := [(b4, []), (b3, [.int .i64 x5.1, .int .i64 x5.2]), (b1, [.int .i64 p0.1, v1, v2])]) 0 F W Aa Aa Aa QR Aa Aa Aa Aa Aa fun w W => ?_
   refine ls F W Aa (Af F Aa).q fun a w F W => ?_
   refine Ad (Ac (Ah (Ab ?_)))
   refine ls F W Aa (Ae F Aa).q fun a w F W => ?_
   refine Ad (Ac ?_)
   refine AB F Aa (fun hb => ?_) fun hb => ?_
   ·
    have H := AM hb H
    rw [hb] at F
    clear hb
    refine Ah (Ab ?_)
    refine ls F W Aa (Af F Aa).q fun a w F W => ?_
    refine Ad (Ac (Ay (AH (AU ?_))))
    iterate 2 refine AH ?_
    refine AU (AH ?_)
    have H := L2 _ H
    have H := L1 _ H
    have H := AR H
    subst H
    refine AS (.inl Aa) F W Aa (Au F Aa) ?_
    exact ⟨rfl, W.done⟩
   have H := AN (by rw [hb]; decide) H
   rw [hb] at F
   clear hb
   refine Aw (Ac (Ab ?_))
   refine ls F W Aa (Ae F Aa).q fun a w F W => ?_
   refine ls F W Aa (An (v := Value.agg #[.int .i64 x5.1, .int .i64 x5.2]) 1 F Aa Aa PI Aa).q fun a w F W => ?_
   refine ls F W Aa (CZ (v := Value.agg #[]) QP F Aa Aa Aa).q fun a w F W => ?_
   refine NE (q := 1) (kx := (x5 : Int × Int)) (vx := (() : Unit)) (E := Hi) (V := FH) F W Aa Aa Aa Aa Aa Qf Pu fun w W => ?_
   have W : Stw ⟨Y, [], w0⟩ [(b4, []), (b3, [.int .i64 x5.1, .int .i64 x5.2]), (b1, [.int .i64 p0.1, v1, v2])] [mp b2 Hi FH (II x4 x5 ()), row v3 86 Hy x2] w := W
   refine Ad (AL (Ac (Ab ?_)))
   refine ls F W Aa (BR F Aa Aa Aa).q fun a w F W => ?_
   refine ls F W Aa (Ae F Aa).q fun a w F W => ?_
   refine Ad (Ac ?_)
   have W := W.frontZ (i := 1) Aa Aa
   have W := W.frontM (i := 2) Aa Aa
   have W := W.sub (M' := [(b1, [.int .i64 p0.1, v1, v2])]) (Z' := [row v3 86 Hy x2, mp b2 Hi FH (II x4 x5 ())]) (List.Sublist.cons_cons _ (List.nil_sublist _)) (List.Sublist.refl _)
   exact ⟨_, H, F.re ⟨rfl, Aa, Aa, Aa, Aa, Aa, trivial⟩, W⟩
  have H := AN (Br hb) H
  rw [hb] at F
  clear hb
  refine Bh ?_
  iterate 2 refine BO ?_
  refine Bi (Ac ?_)
  have W := W.frontZ (i := 1) Aa Aa
  have W := W.sub (M' := [(b1, [.int .i64 p0.1, v1, v2])]) (Z' := [mp b2 Hi FH x4]) (List.Sublist.refl _) (List.Sublist.cons_cons _ (List.nil_sublist _))
  have H := L2 _ H
  exact ⟨_, H, F.re ⟨rfl, Aa, trivial⟩, W⟩
 rintro a w ⟨x1, hj, F, W⟩
 have H := K1 _ hj
 clear hj G1 K1 L1
 refine Ah (Ab ?_)
 refine ls F W Aa (Ai Ck Aa Aa Aa Ii F Aa 1 Aa).q fun a w F W => ?_
 refine ls F W Aa (An (v := v1) 0 F Aa Aa Ii Aa).q fun a w F W => ?_
 obtain ⟨x6, h3, H⟩ := Al H
 refine ls F W Aa (AQ (v := Value.bool x6) F Rj Aa (fun w W => C2 any w (v1) p0.2.1 _ h3 (((Am h_v1) : DY _ _ _ _ _ _) w W).nx)) fun a w F W => ?_
 refine ls F W Aa (Fe F Aa).q fun a w F W => ?_
 refine ls F W Aa (Af F Aa).q fun a w F W => ?_
 refine Ad (Ac (Ay ?_))
 have H := AR H
 subst H
 refine AS (.inl Aa) F W Aa (Au F Aa) ?_
 exact ⟨rfl, W.done⟩
theorem RT : Has Try.prog 49 := ⟨fun args w => Aj Try.func49 rfl (by decide) args w⟩
theorem I1 : Ty Try.prog 56 false 1 := ⟨by kernel_rfl, by kernel_rfl⟩
def Cy (p0 : Nat) : Bool := (Ns p0 0 || KR p0 0)
theorem Kr (Y : Nat → Prop) (w0 : World)  (p0 : Nat) (r : Bool) (H : Cy p0 = r)  :
    Calls Try.prog 66 #[.float .f64 p0] w0 fun e w' => e = .returned (.bool r) ∧ Below w0.heap.size w0 w' := by
 refine enter Try.func66 Aa Try.ntmps66 Aa fun a F => ?_
 have W := Stw.start Y w0
 unfold Cy at H
 refine Ah (Ab ?_)
 refine ls F W Aa (Af F Aa).q fun a w F W => ?_
 refine Ad (Ac (Ah (Ab ?_)))
 refine ls F W Aa (Ae F Aa).q fun a w F W => ?_
 refine ls F W Aa (PP F Aa Aa).q fun a w F W => ?_
 refine ls F W Aa (Af F Aa).q fun a w F W => ?_
 refine Ad (Ac (Ay ?_))
 subst H
 refine AS (.inl Aa) F W Aa (Au F Aa) ?_
 exact ⟨rfl, W.done⟩
theorem RD : Has Try.prog 66 := ⟨fun args w => Aj Try.func66 rfl (by decide) args w⟩
noncomputable def Cm (p0 : List Nat) : Int → Option (Int ⊕ (Unit ⊕ Bool))
  | x1 => (if x1 < (p0.length : Int) then (ix p0 x1).bind fun x2 => (if (!(Cy x2)) = true then some (.inr (.inr false)) else some (.inl (BJ (x1 + 1)))) else some (.inr (.inl ())))
noncomputable def C7 (p0 : List Nat) (p1 : Int) : Option Bool := (if (p0.length : Int) ≠ p1 then some false else Jj (AF (Cm p0) 0) fun _ => some true)
theorem Jv (Y : Nat → Prop) (w0 : World) (v1 : Value) (p0 : List Nat) (p1 : Int) (r : Bool) (H : C7 p0 p1 = some r) (h_v1 : Sl w0 (NX []) (Rp.flt .f64) v1 p0) :
    Calls Try.prog 50 #[v1, .int .i64 p1] w0 fun e w' => e = .returned (.bool r) ∧ Below w0.heap.size w0 w' := by
 refine enter Try.func50 Aa Try.ntmps50 Aa fun a F => ?_
 have W := Stw.start Y w0
 unfold C7 at H
 refine Ah (Ab ?_)
 refine ls F W Aa (Af F Aa).q fun a w F W => ?_
 refine Ad (Ac (Ah (Ah (Ab ?_))))
 refine ls F W Aa (Ae F Aa).q fun a w F W => ?_
 refine ls F W Aa (Bv (r := (Rp.flt .f64)) (l := p0) Kp Aa F Aa (Am h_v1)).q fun a w F W => ?_
 refine ls F W Aa (Ae F Aa).q fun a w F W => ?_
 refine ls F W Aa (Jf F Aa Aa).q fun a w F W => ?_
 refine Ad (Ac ?_)
 refine AB F Aa (fun hb => ?_) fun hb => ?_
 ·
  have H := AM (Bq hb) H
  rw [hb] at F
  clear hb
  refine Ah (Ab ?_)
  refine ls F W Aa (Af F Aa).q fun a w F W => ?_
  refine Ad (Ac (Ay (AH ?_)))
  have H := AR H
  subst H
  refine AS (.inl Aa) F W Aa (Au F Aa) ?_
  exact ⟨rfl, W.done⟩
 have H := AN (Br hb) H
 rw [hb] at F
 clear hb
 refine Aw (Ac ?_)
 obtain ⟨o1, G1, K1, L1⟩ := Oi H
 refine AG (fun a w => some (Sum.inl ()) = some o1 ∧ Fr 21 [] [(4, .bool false)] a ∧ Stw ⟨Y, [], w0⟩ [] [] w) ?_ ?_
 ·
  have H := G1
  clear G1 K1
  refine Ah (Ab ?_)
  refine ls F W Aa (Ae F Aa).q fun a w F W => ?_
  refine ls F W Aa (Bv (r := (Rp.flt .f64)) (l := p0) Kp Aa F Aa (Am h_v1)).q fun a w F W => ?_
  refine ls F W Aa (Ae F Aa).q fun a w F W => ?_
  refine Ad (Ac (Ax ?_))
  refine Bf H (fun s a w => Fr 21 [] [(4, .bool false), (11, v1), (12, .int .i64 (p0.length : Int)), (13, .int .i64 s)] a ∧ Stw ⟨Y, [], w0⟩ [] [] w) ⟨F.re ⟨rfl, Aa, Aa, Aa, trivial⟩, W⟩ fun s o a w H L2 hR => ?_
  obtain ⟨x1, rfl⟩ : ∃ x, x = s := ⟨s, rfl⟩
  obtain ⟨F, W⟩ := hR
  have F : Fr 21 [] [(4, .bool false), (11, v1), (12, .int .i64 (p0.length : Int)), (13, .int .i64 x1)] a := F
  have W : Stw ⟨Y, [], w0⟩ [] [] w := W
  rw [Cm] at H
  refine Ah (Ab ?_)
  refine ls F W Aa (Bj F Aa Aa).q fun a w F W => ?_
  refine Ad (Ac (Ah ?_))
  refine AB F Aa (fun hb => ?_) fun hb => ?_
  ·
   have H := AM (Bq hb) H
   rw [hb] at F
   clear hb
   refine Aw (Ac (Ah (Ax (Ah (Ab ?_)))))
   obtain ⟨x2, h1, H⟩ := Al H
   refine ls F W Aa (AC (r := (Rp.flt .f64)) Ia F Aa Aa (Am h_v1) h1).q fun a w F W => ?_
   refine ls F W Aa (Av (y := Value.float .f64 x2) (j := 0) (i := x1) F Aa Aa (Am h_v1) h1 Fl.flt.to I1 Aa).q fun a w F W => ?_
   refine ls F W Aa (Af F Aa).q fun a w F W => ?_
   refine Ad (Ac (Ah (Ab ?_)))
   refine ls F W Aa (Ae F Aa).q fun a w F W => ?_
   refine ls F W Aa (AQ (v := Value.bool (Cy x2)) F RD Aa (fun w W => Kr any w x2 _ Aa)) fun a w F W => ?_
   refine ls F W Aa (Fe F Aa).q fun a w F W => ?_
   refine Ad (Ac ?_)
   refine AB F Aa (fun hb => ?_) fun hb => ?_
   ·
    have H := AM hb H
    rw [hb] at F
    clear hb
    refine Ah (Ab ?_)
    refine ls F W Aa (Af F Aa).q fun a w F W => ?_
    refine Ad (Ac (Ay (AU ?_)))
    iterate 2 refine AH ?_
    refine AU (AH ?_)
    have H := L2 _ H
    have H := L1 _ H
    have H := AR H
    subst H
    refine AS (.inl Aa) F W Aa (Au F Aa) ?_
    exact ⟨rfl, W.done⟩
   have H := AN (by rw [hb]; decide) H
   rw [hb] at F
   clear hb
   refine Aw (AL (Ac (Ab ?_)))
   refine ls F W Aa (BR F Aa Aa Aa).q fun a w F W => ?_
   refine ls F W Aa (Ae F Aa).q fun a w F W => ?_
   refine Ad (Ac ?_)
   exact ⟨_, H, F.re ⟨rfl, Aa, Aa, Aa, trivial⟩, W⟩
  have H := AN (Br hb) H
  rw [hb] at F
  clear hb
  refine Bh ?_
  iterate 2 refine BO ?_
  refine Bi (Ac ?_)
  have H := L2 _ H
  exact ⟨H, F.re ⟨rfl, trivial⟩, W⟩
 rintro a w ⟨hj, F, W⟩
 have H := K1 _ hj
 clear hj G1 K1 L1
 refine Ah (Ab ?_)
 refine ls F W Aa (Af F Aa).q fun a w F W => ?_
 refine Ad (Ac (Ay ?_))
 have H := AR H
 subst H
 refine AS (.inl Aa) F W Aa (Au F Aa) ?_
 exact ⟨rfl, W.done⟩
theorem R9 : Has Try.prog 50 := ⟨fun args w => Aj Try.func50 rfl (by decide) args w⟩
noncomputable def Ct (p0 : Int × (List (Int × Int × Int × Int × Int × Int)) × (List (Int × Int))) (p1 : List Nat) : Option Bool := ((E4 p0).bind fun x2 => (if x2 = true then (C7 p1 (p0.2.1.length : Int)).bind fun x3 => some x3 else some false)).bind fun x1 => some x1
theorem Fy (Y : Nat → Prop) (w0 : World) (v1 : Value) (v2 : Value) (v3 : Value) (p0 : Int × (List (Int × Int × Int × Int × Int × Int)) × (List (Int × Int))) (p1 : List Nat) (r : Bool) (H : Ct p0 p1 = some r) (h_v1 : Sl w0 (NX []) Fg v1 p0.2.1) (h_v2 : Sl w0 (NX []) Fi v2 p0.2.2) (h_v3 : Sl w0 (NX []) (Rp.flt .f64) v3 p1) :
    Calls Try.prog 28 #[.agg #[.int .i64 p0.1, v1, v2], v3] w0 fun e w' => e = .returned (.bool r) ∧ Below w0.heap.size w0 w' := by
 refine enter Try.func28 Aa Try.ntmps28 Aa fun a F => ?_
 have W := Stw.start Y w0
 unfold Ct at H
 refine Ah (Ab ?_)
 refine D6 (cs := [.int .i64 p0.1, v1, v2]) F W Aa Aa Aa fun b1 a w F W => ?_
 refine ls F W Aa (Af F Aa).q fun a w F W => ?_
 refine Ad (Ac ?_)
 obtain ⟨o1, G1, K1⟩ := Al H
 refine AG (fun a w => ∃ x1 : Bool, some (x1) = some o1 ∧ Fr 14 [] [(4, .bool x1)] a ∧ Stw ⟨Y, [], w0⟩ [(b1, [.int .i64 p0.1, v1, v2])] [] w) ?_ ?_
 ·
  have H := G1
  clear G1 K1
  refine Ab ?_
  refine ls F W Aa (An (v := Value.agg #[.int .i64 p0.1, v1, v2]) 0 F Aa Aa I4 Aa).q fun a w F W => ?_
  obtain ⟨x2, h1, H⟩ := Al H
  refine ls F W Aa (AQ (v := Value.bool x2) F RT Aa (fun w W => Ks any w (v1) (v2) p0 _ h1 (((Am h_v1) : DY _ _ _ _ _ _) w W).nx (((Am h_v2) : DY _ _ _ _ _ _) w W).nx)) fun a w F W => ?_
  refine ls F W Aa (Ae F Aa).q fun a w F W => ?_
  rcases Bool.eq_false_or_eq_true x2 with hb | hb
  ·
   have H := AM hb H
   rw [hb] at F
   clear hb
   refine AA F W (Ag F Aa Aa Aa Aa) Aa (Ak Aa) (Ae F Aa).q fun a w F W => ?_
   refine AA F W (Ag F Aa Aa Aa Aa) Aa (Ak Aa) (Ai Ck Aa Aa Aa Ii F Aa 1 Aa).q fun a w F W => ?_
   refine AA F W (Ag F Aa Aa Aa Aa) Aa (Ak Aa) (An (v := v1) 0 F Aa Aa Ii Aa).q fun a w F W => ?_
   refine AA F W (Ag F Aa Aa Aa Aa) Aa (Ak Aa) (Bv (r := Fg) (l := p0.2.1) Iq Aa F Aa (Am h_v1)).q fun a w F W => ?_
   refine Ls (Ag F Aa Aa Aa Aa) ?_
   obtain ⟨x3, h2, H⟩ := Al H
   refine ls F W Aa (AQ (v := Value.bool x3) F R9 Aa (fun w W => Jv any w (v3) p1 (p0.2.1.length : Int) _ h2 (((Am h_v3) : DY _ _ _ _ _ _) w W).nx)) fun a w F W => ?_
   refine ls F W Aa (Ao F Aa Aa Aa).q fun a w F W => ?_
   refine ls F W Aa (Af F Aa).q fun a w F W => ?_
   refine Ad (Ac ?_)
   exact ⟨_, H, F.re ⟨rfl, trivial⟩, W⟩
  have H := AN (by rw [hb]; decide) H
  rw [hb] at F
  clear hb
  iterate 5 refine Ci F Aa Aa Aa Aa Aa Aa Aa fun a F => ?_
  refine ls F W Aa (Ap F Aa Aa Aa).q fun a w F W => ?_
  refine ls F W Aa (Af F Aa).q fun a w F W => ?_
  refine Ad (Ac ?_)
  exact ⟨_, H, F.re ⟨rfl, trivial⟩, W⟩
 rintro a w ⟨x1, hj, F, W⟩
 have hj := AR hj
 subst hj
 have H := K1
 clear G1 K1
 refine Ay ?_
 have H := AR H
 subst H
 refine AS (.inl Aa) F W Aa (Au F Aa) ?_
 exact ⟨rfl, W.done⟩
theorem P7 : type_of% Try.underlying45 := Try.underlying45
theorem QN : Has Try.prog 28 := ⟨fun args w => Aj Try.func28 rfl (by decide) args w⟩
abbrev CB : Dp (Value × Nat × List Int) := (Dp.sl 3 (Rp.int .i64))
abbrev D9 (p : Value × Nat × List Int) : Nat × List Int := p.2
theorem P4 : Et Try.prog 45 36 1 24 := Et.of P7 (by kernel_rfl) (by kernel_rfl) (by kernel_rfl) (by decide)
theorem Ry : (Try.prog.info? 36).bind (·.zero) = some (.slice none 0 0) := by kernel_rfl
theorem MO : Try.prog.follows .mixedOrders = true := by kernel_rfl
theorem Qw : QA Try.prog 46 Extern.MathFloatBits.float64frombits := fun args w => run_callFunc_extern Try.func46 (by kernel_rfl) (by kernel_rfl) (by kernel_rfl) (by kernel_rfl) args w
noncomputable def CU (p0 : Int) : Option Nat := (if 0 ≤ p0 then some 9218868437227405312 else some 18442240474082181120).bind fun x1 => some (Int.toNat x1)
theorem Ff (Y : Nat → Prop) (w0 : World)  (p0 : Int) (r : Nat) (H : CU p0 = some r)  :
    Calls Try.prog 30 #[.int .i64 p0] w0 fun e w' => e = .returned (.float .f64 r) ∧ Below w0.heap.size w0 w' := by
 refine enter Try.func30 Aa Try.ntmps30 Aa fun a F => ?_
 have W := Stw.start Y w0
 unfold CU at H
 refine Ah (Ab ?_)
 refine ls F W Aa (Af F Aa).q fun a w F W => ?_
 refine Ad (Ac (Ah (Ab ?_)))
 refine ls F W Aa (Af F Aa).q fun a w F W => ?_
 refine Ad (Ac ?_)
 obtain ⟨o1, G1, K1⟩ := Al H
 refine AG (fun a w => ∃ x1 : Int, some (x1) = some o1 ∧ Fr 8 [] [(2, .float .f64 0), (3, .int .u64 x1)] a ∧ Stw ⟨Y, [], w0⟩ [] [] w) ?_ ?_
 ·
  have H := G1
  clear G1 K1
  refine Ah (Ab ?_)
  refine ls F W Aa (Ae F Aa).q fun a w F W => ?_
  refine ls F W Aa (EQ F Aa Aa).q fun a w F W => ?_
  refine Ad (Ac ?_)
  refine AB F Aa (fun hb => ?_) fun hb => ?_
  ·
   have H := AM (Bq hb) H
   rw [hb] at F
   clear hb
   refine Ab ?_
   refine ls F W Aa (Af F Aa).q fun a w F W => ?_
   refine Ad (Ac ?_)
   exact ⟨_, H, F.re ⟨rfl, Aa, trivial⟩, W⟩
  have H := AN (Br hb) H
  rw [hb] at F
  clear hb
  refine Ab ?_
  refine ls F W Aa (Af F Aa).q fun a w F W => ?_
  refine Ad (Ac ?_)
  exact ⟨_, H, F.re ⟨rfl, Aa, trivial⟩, W⟩
 rintro a w ⟨x1, hj, F, W⟩
 have hj := AR hj
 subst hj
 have H := K1
 clear G1 K1
 refine Ah (Ab ?_)
 refine ls F W Aa (Ae F Aa).q fun a w F W => ?_
 refine ls F W Aa (JZ (v := Value.float .f64 (Int.toNat x1)) F Qw Aa (fun w => rfl)).q fun a w F W => ?_
 refine ls F W Aa (Af F Aa).q fun a w F W => ?_
 refine Ad (Ac (Ay ?_))
 have H := AR H
 subst H
 refine AS (.inl Aa) F W Aa (Au F Aa) ?_
 exact ⟨rfl, W.done⟩
theorem Qb : Has Try.prog 30 := ⟨fun args w => Aj Try.func30 rfl (by decide) args w⟩
theorem I9 : (Try.prog.underlying 9).map (fun d => match d with | .interface _ => true | _ => false) = some false := by kernel_rfl
def BS (p0 : Int) (p1 : Int) : Int × Int := (IntKind.u64.wrap ((IntKind.u64.wrap ((IntKind.u64.wrap ((Ga .u64 p0 32) * (Ga .u64 p1 32))) + (Ga .u64 (IntKind.u64.wrap ((IntKind.u64.wrap ((Ga .u64 p0 32) * (Js .u64 p1 4294967295))) + (Ga .u64 (IntKind.u64.wrap ((Js .u64 p0 4294967295) * (Js .u64 p1 4294967295))) 32))) 32))) + (Ga .u64 (IntKind.u64.wrap ((Js .u64 (IntKind.u64.wrap ((IntKind.u64.wrap ((Ga .u64 p0 32) * (Js .u64 p1 4294967295))) + (Ga .u64 (IntKind.u64.wrap ((Js .u64 p0 4294967295) * (Js .u64 p1 4294967295))) 32))) 4294967295) + (IntKind.u64.wrap ((Js .u64 p0 4294967295) * (Ga .u64 p1 32))))) 32)), IntKind.u64.wrap (p0 * p1))
theorem Hs (Y : Nat → Prop) (w0 : World)  (p0 : Int) (p1 : Int) (r : Int × Int) (H : BS p0 p1 = r)  :
    Calls Try.prog 68 #[.int .u64 p0, .int .u64 p1] w0 fun e w' => e = .returned (.tuple #[.int .u64 r.1, .int .u64 r.2]) ∧ Below w0.heap.size w0 w' := by
 refine enter Try.func68 Aa Try.ntmps68 Aa fun a F => ?_
 have W := Stw.start Y w0
 unfold BS at H
 refine Ah (Ab ?_)
 iterate 2 refine ls F W Aa (Af F Aa).q fun a w F W => ?_
 refine Ad (Ac (Ah (Ab ?_)))
 refine ls F W Aa (Ae F Aa).q fun a w F W => ?_
 refine ls F W Aa (NK F Aa Aa).q fun a w F W => ?_
 refine ls F W Aa (Af F Aa).q fun a w F W => ?_
 refine Ad (Ac (Ah (Ab ?_)))
 refine ls F W Aa (Ae F Aa).q fun a w F W => ?_
 refine ls F W Aa (HY F Aa Aa (by decide)).q fun a w F W => ?_
 refine ls F W Aa (Af F Aa).q fun a w F W => ?_
 refine Ad (Ac (Ah (Ab ?_)))
 refine ls F W Aa (Ae F Aa).q fun a w F W => ?_
 refine ls F W Aa (NK F Aa Aa).q fun a w F W => ?_
 refine ls F W Aa (Af F Aa).q fun a w F W => ?_
 refine Ad (Ac (Ah (Ab ?_)))
 refine ls F W Aa (Ae F Aa).q fun a w F W => ?_
 refine ls F W Aa (HY F Aa Aa (by decide)).q fun a w F W => ?_
 refine ls F W Aa (Af F Aa).q fun a w F W => ?_
 refine Ad (Ac (Ah (Ab ?_)))
 iterate 2 refine ls F W Aa (Ae F Aa).q fun a w F W => ?_
 refine ls F W Aa (Lt F Aa Aa Aa).q fun a w F W => ?_
 refine ls F W Aa (Af F Aa).q fun a w F W => ?_
 refine Ad (Ac (Ah (Ab ?_)))
 iterate 2 refine ls F W Aa (Ae F Aa).q fun a w F W => ?_
 refine ls F W Aa (Lt F Aa Aa Aa).q fun a w F W => ?_
 refine ls F W Aa (Ae F Aa).q fun a w F W => ?_
 refine ls F W Aa (HY F Aa Aa (by decide)).q fun a w F W => ?_
 refine ls F W Aa (BR F Aa Aa Aa).q fun a w F W => ?_
 refine ls F W Aa (Af F Aa).q fun a w F W => ?_
 refine Ad (Ac (Ah (Ab ?_)))
 refine ls F W Aa (Ae F Aa).q fun a w F W => ?_
 refine ls F W Aa (NK F Aa Aa).q fun a w F W => ?_
 refine ls F W Aa (Af F Aa).q fun a w F W => ?_
 refine Ad (Ac (Ah (Ab ?_)))
 refine ls F W Aa (Ae F Aa).q fun a w F W => ?_
 refine ls F W Aa (HY F Aa Aa (by decide)).q fun a w F W => ?_
 refine ls F W Aa (Af F Aa).q fun a w F W => ?_
 refine Ad (Ac (Ah (Ab ?_)))
 iterate 3 refine ls F W Aa (Ae F Aa).q fun a w F W => ?_
 refine ls F W Aa (Lt F Aa Aa Aa).q fun a w F W => ?_
 refine ls F W Aa (BR F Aa Aa Aa).q fun a w F W => ?_
 refine ls F W Aa (Af F Aa).q fun a w F W => ?_
 refine Ad (Ac (Ah (Ab ?_)))
 iterate 2 refine ls F W Aa (Ae F Aa).q fun a w F W => ?_
 refine ls F W Aa (Lt F Aa Aa Aa).q fun a w F W => ?_
 refine ls F W Aa (Ae F Aa).q fun a w F W => ?_
 refine ls F W Aa (BR F Aa Aa Aa).q fun a w F W => ?_
 refine ls F W Aa (Ae F Aa).q fun a w F W => ?_
 refine ls F W Aa (HY F Aa Aa (by decide)).q fun a w F W => ?_
 refine ls F W Aa (BR F Aa Aa Aa).q fun a w F W => ?_
 refine ls F W Aa (Af F Aa).q fun a w F W => ?_
 refine Ad (Ac (Ah (Ab ?_)))
 iterate 2 refine ls F W Aa (Ae F Aa).q fun a w F W => ?_
 refine ls F W Aa (Lt F Aa Aa Aa).q fun a w F W => ?_
 refine ls F W Aa (Af F Aa).q fun a w F W => ?_
 refine Ad (Ac (Ay ?_))
 subst H
 refine H4 (.inl Aa) F W Aa (Au F Aa) (Au F Aa) ?_
 exact ⟨rfl, W.done⟩
theorem RK : Has Try.prog 68 := ⟨fun args w => Aj Try.func68 rfl (by decide) args w⟩
def Aq (p0 : Int) (p1 : Int) : Int × Int := ((BS p0 p1).1, (BS p0 p1).2)
theorem F5 (Y : Nat → Prop) (w0 : World)  (p0 : Int) (p1 : Int) (r : Int × Int) (H : Aq p0 p1 = r)  :
    Calls Try.prog 51 #[.int .u64 p0, .int .u64 p1] w0 fun e w' => e = .returned (.tuple #[.int .u64 r.1, .int .u64 r.2]) ∧ Below w0.heap.size w0 w' := by
 refine enter Try.func51 Aa Try.ntmps51 Aa fun a F => ?_
 have W := Stw.start Y w0
 unfold Aq at H
 refine Ah (Ab ?_)
 iterate 2 refine ls F W Aa (Af F Aa).q fun a w F W => ?_
 refine Ad (Ac (Ah ?_))
 refine Gb F Aa ?_
 refine Aw (Ac (Ah (Ab ?_)))
 iterate 2 refine ls F W Aa (Ae F Aa).q fun a w F W => ?_
 refine ls F W Aa (AQ (v := Value.tuple #[.int .u64 ((BS p0 p1).1), .int .u64 ((BS p0 p1).2)]) F RK Aa (fun w W => Hs any w p0 p1 _ Aa)) fun a w F W => ?_
 refine ls F W Aa (Ae F Aa).q fun a w F W => ?_
 refine ls F W Aa (BD (v := Value.int .u64 ((BS p0 p1).1)) F Aa Aa).q fun a w F W => ?_
 refine ls F W Aa (BD (v := Value.int .u64 ((BS p0 p1).2)) F Aa Aa).q fun a w F W => ?_
 iterate 2 refine ls F W Aa (Af F Aa).q fun a w F W => ?_
 refine Ad (Ac (Ah (Ab ?_)))
 iterate 2 refine ls F W Aa (Ae F Aa).q fun a w F W => ?_
 iterate 2 refine ls F W Aa (Af F Aa).q fun a w F W => ?_
 refine Ad (Ac (Ay ?_))
 subst H
 refine H4 (.inl Aa) F W Aa (Au F Aa) (Au F Aa) ?_
 exact ⟨rfl, W.done⟩
theorem K0 : type_of% Try.underlying92 := Try.underlying92
theorem Q3 : Has Try.prog 51 := ⟨fun args w => Aj Try.func51 rfl (by decide) args w⟩
noncomputable def AP  : (List Nat × Int) → Option ((List Nat × Int) ⊕ (List Nat))
  | (x3, x4) => (if x4 < (x3.length : Int) then (EX x3 x4 (x3.length : Int)).bind fun x5 => (EX x3 0 x4).bind fun x6 => some (.inl (Ji x3 x4 (min x6.length x5.length) x6, BJ (x4 + ((min x6.length x5.length : Nat) : Int)))) else some (.inr x3))
noncomputable def AJ (p0 : List Nat) (p1 : Int) : Option (List Nat) := (if p1 < 0 then none else (if (decide (0 < ((Aq (IntKind.u64.wrap (p0.length : Int)) (IntKind.u64.wrap p1)).1)) || decide (9223372036854775807 < ((Aq (IntKind.u64.wrap (p0.length : Int)) (IntKind.u64.wrap p1)).2))) = true then none else (mk (BJ ((Aq (IntKind.u64.wrap (p0.length : Int)) (IntKind.u64.wrap p1)).2)) (0 : Nat)).bind fun x1 => (AF (AP) (Ji x1 0 (min p0.length x1.length) p0, ((min p0.length x1.length : Nat) : Int))).bind fun x2 => some x2))
theorem Bo (Y : Nat → Prop) (w0 : World) (v1 : Value) (p0 : List Nat) (p1 : Int) (r : List Nat) (H : AJ p0 p1 = some r) (s_v1 : Sl w0 Y (Rp.flt .f64) v1 p0) :
    Calls Try.prog 29 #[v1, .int .i64 p1] w0 fun e w' => ∃ x : Value, e = .returned (x) ∧ Stw ⟨Y, [], w0⟩ [] [row (x) 56 (Rp.flt .f64) r] w' := by
 refine enter Try.func29 Aa Try.ntmps29 Aa fun a F => ?_
 have W := Stw.start Y w0
 have h_v1 := W.nx s_v1
 unfold AJ at H
 refine Ah (Ab ?_)
 refine ls F W Aa (Af F Aa).q fun a w F W => ?_
 refine Ad (Ac (Ah (Ah (Ab ?_))))
 refine ls F W Aa (Ae F Aa).q fun a w F W => ?_
 refine ls F W Aa (Bj F Aa Aa).q fun a w F W => ?_
 refine Ad (Ac ?_)
 refine AB F Aa (fun hb => ?_) fun hb => ?_
 ·
  have H := AM (Bq hb) H
  rw [hb] at F
  clear hb
  refine Ab ?_
  refine ls F W Aa (Fk I9 F Aa).q fun a w F W => ?_
  exact nomatch H
 have H := AN (Br hb) H
 rw [hb] at F
 clear hb
 refine Aw (Ac (Ah (Ab ?_)))
 refine ls F W Aa (Ae F Aa).q fun a w F W => ?_
 refine ls F W Aa (Bv (r := (Rp.flt .f64)) (l := p0) Kp Aa F Aa (Am h_v1)).q fun a w F W => ?_
 refine ls F W Aa (DX MN K0 F Aa).q fun a w F W => ?_
 refine ls F W Aa (Ae F Aa).q fun a w F W => ?_
 refine ls F W Aa (DX MN K0 F Aa).q fun a w F W => ?_
 refine ls F W Aa (AQ (v := Value.tuple #[.int .u64 ((Aq (IntKind.u64.wrap (p0.length : Int)) (IntKind.u64.wrap p1)).1), .int .u64 ((Aq (IntKind.u64.wrap (p0.length : Int)) (IntKind.u64.wrap p1)).2)]) F Q3 Aa (fun w W => F5 any w (IntKind.u64.wrap (p0.length : Int)) (IntKind.u64.wrap p1) _ Aa)) fun a w F W => ?_
 refine ls F W Aa (Ae F Aa).q fun a w F W => ?_
 refine ls F W Aa (BD (v := Value.int .u64 ((Aq (IntKind.u64.wrap (p0.length : Int)) (IntKind.u64.wrap p1)).1)) F Aa Aa).q fun a w F W => ?_
 refine ls F W Aa (BD (v := Value.int .u64 ((Aq (IntKind.u64.wrap (p0.length : Int)) (IntKind.u64.wrap p1)).2)) F Aa Aa).q fun a w F W => ?_
 iterate 2 refine ls F W Aa (Af F Aa).q fun a w F W => ?_
 refine Ad (Ac (Ah ?_))
 refine AG (fun a w => Fr 48 [] [(0, v1), (4, .slice none 0 0), (6, .int .u64 ((Aq (IntKind.u64.wrap (p0.length : Int)) (IntKind.u64.wrap p1)).2)), (26, .bool (decide (0 < ((Aq (IntKind.u64.wrap (p0.length : Int)) (IntKind.u64.wrap p1)).1)) || decide (9223372036854775807 < ((Aq (IntKind.u64.wrap (p0.length : Int)) (IntKind.u64.wrap p1)).2))))] a ∧ Stw ⟨Y, [], w0⟩ [] [] w) ?_ ?_
 ·
  refine Ab ?_
  refine ls F W Aa (Ae F Aa).q fun a w F W => ?_
  refine ls F W Aa (DV F Aa Aa).q fun a w F W => ?_
  refine ls F W Aa (Ae F Aa).q fun a w F W => ?_
  rcases Bool.eq_false_or_eq_true (decide (0 < ((Aq (IntKind.u64.wrap (p0.length : Int)) (IntKind.u64.wrap p1)).1))) with hb0 | hb0
  ·
   rw [hb0] at F
   iterate 2 refine Ci F Aa Aa Aa Aa Aa Aa Aa fun a F => ?_
   refine ls F W Aa (Ao F Aa Aa Aa).q fun a w F W => ?_
   refine Ad (Ac ?_)
   exact ⟨F.re ⟨rfl, Aa, Aa, (by show some (Value.bool true) = some (Value.bool (decide (0 < ((Aq (IntKind.u64.wrap (p0.length : Int)) (IntKind.u64.wrap p1)).1)) || decide (9223372036854775807 < ((Aq (IntKind.u64.wrap (p0.length : Int)) (IntKind.u64.wrap p1)).2)))); try rw [hb0]; all_goals simp only [Bool.not_true, Bool.not_false, Bool.true_and, Bool.false_and, Bool.true_or, Bool.false_or, Bool.and_true, Bool.or_false, cond_true, cond_false]), trivial⟩, W⟩
  rw [hb0] at F
  refine AA F W (Ag F Aa Aa Aa Aa) Aa (Ak Aa) (Ae F Aa).q fun a w F W => ?_
  refine AA F W (Ag F Aa Aa Aa Aa) Aa (Ak Aa) (DV F Aa Aa).q fun a w F W => ?_
  refine ls F W Aa (Ap F Aa Aa Aa).q fun a w F W => ?_
  refine Ad (Ac ?_)
  exact ⟨F.re ⟨rfl, Aa, Aa, (by show some (Value.bool (decide (9223372036854775807 < ((Aq (IntKind.u64.wrap (p0.length : Int)) (IntKind.u64.wrap p1)).2)))) = some (Value.bool (decide (0 < ((Aq (IntKind.u64.wrap (p0.length : Int)) (IntKind.u64.wrap p1)).1)) || decide (9223372036854775807 < ((Aq (IntKind.u64.wrap (p0.length : Int)) (IntKind.u64.wrap p1)).2)))); try rw [hb0]; all_goals simp only [Bool.not_true, Bool.not_false, Bool.true_and, Bool.false_and, Bool.true_or, Bool.false_or, Bool.and_true, Bool.or_false, cond_true, cond_false]), trivial⟩, W⟩
 rintro a w ⟨F, W⟩
 refine AB F Aa (fun hb => ?_) fun hb => ?_
 ·
  have H := AM hb H
  rw [hb] at F
  clear hb
  refine Ab ?_
  refine ls F W Aa (Fk I9 F Aa).q fun a w F W => ?_
  exact nomatch H
 have H := AN (by rw [hb]; decide) H
 rw [hb] at F
 clear hb
 refine Aw (Ac (Ah (Ab ?_)))
 refine ls F W Aa (Ae F Aa).q fun a w F W => ?_
 refine ls F W Aa (DX K0 MN F Aa).q fun a w F W => ?_
 obtain ⟨x1, h1, H⟩ := Al H
 refine LN (r := (Rp.flt .f64)) (0 : Nat) F W Aa Ia Pp Aa Aa (fun w A => Fl.flt.mk' w A _) h1 Aa fun v2 a w F W => ?_
 refine ls F W Aa (Af F Aa).q fun a w F W => ?_
 refine Ad (Ac (Ah (Ab ?_)))
 iterate 2 refine ls F W Aa (Ae F Aa).q fun a w F W => ?_
 refine Oj (r := (Rp.flt .f64)) (k := 0) F W Aa Ia Aa Aa Aa Aa (MG W s_v1) fun a w F W => ?_
 have W : Stw ⟨Y, [], w0⟩ [] [row v2 56 (Rp.flt .f64) (Ji x1 0 (min p0.length x1.length) p0)] w := W
 refine ls F W Aa (Af F Aa).q fun a w F W => ?_
 refine Ad (Ac ?_)
 obtain ⟨o1, G1, K1⟩ := Al H
 refine AG (fun a w => ∃ x2 : List Nat, some (x2) = some o1 ∧ Fr 48 [] [(4, .slice none 0 0), (7, v2)] a ∧ Stw ⟨Y, [], w0⟩ [] [row v2 56 (Rp.flt .f64) x2] w) ?_ ?_
 ·
  have H := G1
  clear G1 K1
  refine Ax ?_
  refine Bf H (fun s a w => Fr 48 [] [(4, .slice none 0 0), (7, v2), (8, .int .i64 s.2)] a ∧ Stw ⟨Y, [], w0⟩ [] [row v2 56 (Rp.flt .f64) s.1] w) ⟨F.re ⟨rfl, Aa, Aa, trivial⟩, W⟩ fun s o a w H L2 hR => ?_
  obtain ⟨x3, x4⟩ := s
  obtain ⟨F, W⟩ := hR
  have F : Fr 48 [] [(4, .slice none 0 0), (7, v2), (8, .int .i64 x4)] a := F
  have W : Stw ⟨Y, [], w0⟩ [] [row v2 56 (Rp.flt .f64) x3] w := W
  rw [AP] at H
  refine Ah (Ah (Ab ?_))
  iterate 2 refine ls F W Aa (Ae F Aa).q fun a w F W => ?_
  refine ls F W Aa (Bv (r := (Rp.flt .f64)) (l := x3) Kp Aa F Aa (As 0 Aa)).q fun a w F W => ?_
  refine ls F W Aa (Bj F Aa Aa).q fun a w F W => ?_
  refine Ad (Ac ?_)
  refine AB F Aa (fun hb => ?_) fun hb => ?_
  ·
   have H := AM (Bq hb) H
   rw [hb] at F
   clear hb
   refine Aw (Ac (Ax ?_))
   refine Mk 7 [0] [1, 2, 3, 4, 5, 6] (fun ch a d v w h => by cases d <;> exact h) W MO (by kernel_rfl) ?_
   refine hm F Aa Aa Aa fun a F => ?_
   refine NW ?_
   iterate 2 refine hs F Aa Aa Aa (Ae F Aa).q fun a F => ?_
   obtain ⟨x5, h2, H⟩ := Al H
   refine hs F Aa Aa Aa (GG (r := (Rp.flt .f64)) Ia F Aa Aa Aa (As 0 Aa) h2).q fun a F => ?_
   iterate 2 refine hs F Aa Aa Aa (Ae F Aa).q fun a F => ?_
   obtain ⟨x6, h3, H⟩ := Al H
   refine hs F Aa Aa Aa (GG (r := (Rp.flt .f64)) Ia F Aa Aa Aa (As 0 Aa) h3).q fun a F => ?_
   refine Pv fun w W => ?_
   have W : Stw ⟨Y, [], w0⟩ [] [row v2 56 (Rp.flt .f64) x3] w := W
   refine My (r := (Rp.flt .f64)) (v := v2) (k := 0) F W Aa Ia Aa Aa Aa Aa h2 (Jo.sub (DG W 0 Aa) h3) fun a w F W => ?_
   have W : Stw ⟨Y, [], w0⟩ [] [row v2 56 (Rp.flt .f64) (Ji x3 x4 (min x6.length x5.length) x6)] w := W
   refine ls F W Aa (BR F Aa Aa Aa).q fun a w F W => ?_
   refine ls F W Aa (Af F Aa).q fun a w F W => ?_
   refine Ad (AL (Ac ?_))
   exact ⟨_, H, F.re ⟨rfl, Aa, Aa, trivial⟩, W⟩
  have H := AN (Br hb) H
  rw [hb] at F
  clear hb
  refine Bh ?_
  iterate 2 refine BO ?_
  refine Bi (Ac ?_)
  have H := L2 _ H
  exact ⟨_, H, F.re ⟨rfl, Aa, trivial⟩, W⟩
 rintro a w ⟨x2, hj, F, W⟩
 have hj := AR hj
 subst hj
 have H := K1
 clear G1 K1
 refine Ah (Ab ?_)
 refine ls F W Aa (Ae F Aa).q fun a w F W => ?_
 refine ls F W Aa (Af F Aa).q fun a w F W => ?_
 refine Ad (Ac (Ay ?_))
 have H := AR H
 subst H
 refine AS (.inl Aa) F W Aa (Au F Aa) ?_
 exact ⟨(v2), Aa, W⟩
theorem QY : type_of% Try.underlying5 := Try.underlying5
theorem Rx : type_of% Try.underlying9 := Try.underlying9
theorem JD : type_of% Try.underlying36 := Try.underlying36
theorem P8 : type_of% Try.underlying59 := Try.underlying59
theorem Qv : Has Try.prog 29 := ⟨fun args w => Aj Try.func29 rfl (by decide) args w⟩
theorem Qy : (Try.prog.info? 29).bind (·.zero) = some (.slice none 0 0) := by kernel_rfl
theorem Mm : Ty Try.prog 29 false 1 := ⟨by kernel_rfl, by kernel_rfl⟩
theorem Z3 : (Try.prog.info? 3).bind (·.zero) = some (.int .i64 0) := by kernel_rfl
theorem FE : Et Try.prog 36 3 1 8 := Et.of JD (by kernel_rfl) (by kernel_rfl) (by kernel_rfl) (by decide)
noncomputable def CT (p0 : Int) : Option Int := (if 4294967296 ≤ p0 then some (Ga .u64 p0 32, 32) else some (p0, 0)).bind fun (x1, x2) => (if 65536 ≤ x1 then some (Ga .u64 x1 16, BJ (x2 + 16)) else some (x1, x2)).bind fun (x3, x4) => (if 256 ≤ x3 then some (Ga .u64 x3 8, BJ (x4 + 8)) else some (x3, x4)).bind fun (x5, x6) => (ix ([0, 1, 2, 2, 3, 3, 3, 3, 4, 4, 4, 4, 4, 4, 4, 4, 5, 5, 5, 5, 5, 5, 5, 5, 5, 5, 5, 5, 5, 5, 5, 5, 6, 6, 6, 6, 6, 6, 6, 6, 6, 6, 6, 6, 6, 6, 6, 6, 6, 6, 6, 6, 6, 6, 6, 6, 6, 6, 6, 6, 6, 6, 6, 6, 7, 7, 7, 7, 7, 7, 7, 7, 7, 7, 7, 7, 7, 7, 7, 7, 7, 7, 7, 7, 7, 7, 7, 7, 7, 7, 7, 7, 7, 7, 7, 7, 7, 7, 7, 7, 7, 7, 7, 7, 7, 7, 7, 7, 7, 7, 7, 7, 7, 7, 7, 7, 7, 7, 7, 7, 7, 7, 7, 7, 7, 7, 7, 7, 8, 8, 8, 8, 8, 8, 8, 8, 8, 8, 8, 8, 8, 8, 8, 8, 8, 8, 8, 8, 8, 8, 8, 8, 8, 8, 8, 8, 8, 8, 8, 8, 8, 8, 8, 8, 8, 8, 8, 8, 8, 8, 8, 8, 8, 8, 8, 8, 8, 8, 8, 8, 8, 8, 8, 8, 8, 8, 8, 8, 8, 8, 8, 8, 8, 8, 8, 8, 8, 8, 8, 8, 8, 8, 8, 8, 8, 8, 8, 8, 8, 8, 8, 8, 8, 8, 8, 8, 8, 8, 8, 8, 8, 8, 8, 8, 8, 8, 8, 8, 8, 8, 8, 8, 8, 8, 8, 8, 8, 8, 8, 8, 8, 8, 8, 8, 8, 8, 8, 8, 8, 8, 8, 8, 8, 8, 8, 8] : List UInt8) (IntKind.u8.wrap x5)).bind fun x7 => some (BJ (x6 + (BJ (x7.toNat : Int))))
theorem HB (Y : Nat → Prop) (w0 : World)  (p0 : Int) (r : Int) (H : CT p0 = some r)  :
    Calls Try.prog 78 #[.int .u64 p0] w0 fun e w' => e = .returned (.int .i64 r) ∧ Below w0.heap.size w0 w' := by
 refine enter Try.func78 Aa Try.ntmps78 Aa fun a F => ?_
 have W := Stw.start Y w0
 unfold CT at H
 refine Ah (Ab ?_)
 refine ls F W Aa (Af F Aa).q fun a w F W => ?_
 refine Ad (Ac ?_)
 obtain ⟨o1, G1, K1⟩ := Al H
 refine AG (fun a w => ∃ x1 : Int, ∃ x2 : Int, some ((x1, x2)) = some o1 ∧ Fr 25 [] [(0, .int .u64 x1), (2, .int .i64 x2)] a ∧ Stw ⟨Y, [], w0⟩ [] [] w) ?_ ?_
 ·
  have H := G1
  clear G1 K1
  refine Ah (Ab ?_)
  refine ls F W Aa (Ae F Aa).q fun a w F W => ?_
  refine ls F W Aa (EQ F Aa Aa).q fun a w F W => ?_
  refine Ad (Ac ?_)
  refine AB F Aa (fun hb => ?_) fun hb => ?_
  ·
   have H := AM (Bq hb) H
   rw [hb] at F
   clear hb
   refine Ah (Ab ?_)
   refine ls F W Aa (Ae F Aa).q fun a w F W => ?_
   refine ls F W Aa (HY F Aa Aa (by decide)).q fun a w F W => ?_
   refine ls F W Aa (Af F Aa).q fun a w F W => ?_
   refine Ad (Ac (Ab ?_))
   refine ls F W Aa (Af F Aa).q fun a w F W => ?_
   refine Ad (Ac ?_)
   exact ⟨_, _, H, F.re ⟨rfl, Aa, trivial⟩, W⟩
  have H := AN (Br hb) H
  rw [hb] at F
  clear hb
  refine Aw (Ac ?_)
  exact ⟨_, _, H, F.re ⟨rfl, Aa, trivial⟩, W⟩
 rintro a w ⟨x1, x2, hj, F, W⟩
 have hj := AR hj
 subst hj
 have H := K1
 clear G1 K1
 obtain ⟨o2, G2, K2⟩ := Al H
 refine AG (fun a w => ∃ x3 : Int, ∃ x4 : Int, some ((x3, x4)) = some o2 ∧ Fr 25 [] [(0, .int .u64 x3), (2, .int .i64 x4)] a ∧ Stw ⟨Y, [], w0⟩ [] [] w) ?_ ?_
 ·
  have H := G2
  clear G2 K2
  refine Ah (Ab ?_)
  refine ls F W Aa (Ae F Aa).q fun a w F W => ?_
  refine ls F W Aa (EQ F Aa Aa).q fun a w F W => ?_
  refine Ad (Ac ?_)
  refine AB F Aa (fun hb => ?_) fun hb => ?_
  ·
   have H := AM (Bq hb) H
   rw [hb] at F
   clear hb
   refine Ah (Ab ?_)
   refine ls F W Aa (Ae F Aa).q fun a w F W => ?_
   refine ls F W Aa (HY F Aa Aa (by decide)).q fun a w F W => ?_
   refine ls F W Aa (Af F Aa).q fun a w F W => ?_
   refine Ad (Ac (Ab ?_))
   refine ls F W Aa (Ae F Aa).q fun a w F W => ?_
   refine ls F W Aa (BR F Aa Aa Aa).q fun a w F W => ?_
   refine ls F W Aa (Af F Aa).q fun a w F W => ?_
   refine Ad (Ac ?_)
   exact ⟨_, _, H, F.re ⟨rfl, Aa, trivial⟩, W⟩
  have H := AN (Br hb) H
  rw [hb] at F
  clear hb
  refine Aw (Ac ?_)
  exact ⟨_, _, H, F.re ⟨rfl, Aa, trivial⟩, W⟩
 rintro a w ⟨x3, x4, hj, F, W⟩
 have hj := AR hj
 subst hj
 have H := K2
 clear G2 K2
 obtain ⟨o3, G3, K3⟩ := Al H
 refine AG (fun a w => ∃ x5 : Int, ∃ x6 : Int, some ((x5, x6)) = some o3 ∧ Fr 25 [] [(0, .int .u64 x5), (2, .int .i64 x6)] a ∧ Stw ⟨Y, [], w0⟩ [] [] w) ?_ ?_
 ·
  have H := G3
  clear G3 K3
  refine Ah (Ab ?_)
  refine ls F W Aa (Ae F Aa).q fun a w F W => ?_
  refine ls F W Aa (EQ F Aa Aa).q fun a w F W => ?_
  refine Ad (Ac ?_)
  refine AB F Aa (fun hb => ?_) fun hb => ?_
  ·
   have H := AM (Bq hb) H
   rw [hb] at F
   clear hb
   refine Ah (Ab ?_)
   refine ls F W Aa (Ae F Aa).q fun a w F W => ?_
   refine ls F W Aa (HY F Aa Aa (by decide)).q fun a w F W => ?_
   refine ls F W Aa (Af F Aa).q fun a w F W => ?_
   refine Ad (Ac (Ab ?_))
   refine ls F W Aa (Ae F Aa).q fun a w F W => ?_
   refine ls F W Aa (BR F Aa Aa Aa).q fun a w F W => ?_
   refine ls F W Aa (Af F Aa).q fun a w F W => ?_
   refine Ad (Ac ?_)
   exact ⟨_, _, H, F.re ⟨rfl, Aa, trivial⟩, W⟩
  have H := AN (Br hb) H
  rw [hb] at F
  clear hb
  refine Aw (Ac ?_)
  exact ⟨_, _, H, F.re ⟨rfl, Aa, trivial⟩, W⟩
 rintro a w ⟨x5, x6, hj, F, W⟩
 have hj := AR hj
 subst hj
 have H := K3
 clear G3 K3
 refine Ah (Ab ?_)
 iterate 2 refine ls F W Aa (Ae F Aa).q fun a w F W => ?_
 refine ls F W Aa (DX P8 QY F Aa).q fun a w F W => ?_
 obtain ⟨x7, h1, H⟩ := Al H
 refine ls F W Aa (NA (l := ([0, 1, 2, 2, 3, 3, 3, 3, 4, 4, 4, 4, 4, 4, 4, 4, 5, 5, 5, 5, 5, 5, 5, 5, 5, 5, 5, 5, 5, 5, 5, 5, 6, 6, 6, 6, 6, 6, 6, 6, 6, 6, 6, 6, 6, 6, 6, 6, 6, 6, 6, 6, 6, 6, 6, 6, 6, 6, 6, 6, 6, 6, 6, 6, 7, 7, 7, 7, 7, 7, 7, 7, 7, 7, 7, 7, 7, 7, 7, 7, 7, 7, 7, 7, 7, 7, 7, 7, 7, 7, 7, 7, 7, 7, 7, 7, 7, 7, 7, 7, 7, 7, 7, 7, 7, 7, 7, 7, 7, 7, 7, 7, 7, 7, 7, 7, 7, 7, 7, 7, 7, 7, 7, 7, 7, 7, 7, 7, 8, 8, 8, 8, 8, 8, 8, 8, 8, 8, 8, 8, 8, 8, 8, 8, 8, 8, 8, 8, 8, 8, 8, 8, 8, 8, 8, 8, 8, 8, 8, 8, 8, 8, 8, 8, 8, 8, 8, 8, 8, 8, 8, 8, 8, 8, 8, 8, 8, 8, 8, 8, 8, 8, 8, 8, 8, 8, 8, 8, 8, 8, 8, 8, 8, 8, 8, 8, 8, 8, 8, 8, 8, 8, 8, 8, 8, 8, 8, 8, 8, 8, 8, 8, 8, 8, 8, 8, 8, 8, 8, 8, 8, 8, 8, 8, 8, 8, 8, 8, 8, 8, 8, 8, 8, 8, 8, 8, 8, 8, 8, 8, 8, 8, 8, 8, 8, 8, 8, 8, 8, 8, 8, 8, 8, 8, 8, 8] : List UInt8)) Rx F Aa Aa h1).q fun a w F W => ?_
 refine ls F W Aa (DX QY MN F Aa).q fun a w F W => ?_
 refine ls F W Aa (BR F Aa Aa Aa).q fun a w F W => ?_
 refine ls F W Aa (Af F Aa).q fun a w F W => ?_
 refine Ad (Ac (Ay ?_))
 have H := AR H
 subst H
 refine AS (.inl Aa) F W Aa (Au F Aa) ?_
 exact ⟨rfl, W.done⟩
theorem RI : Has Try.prog 78 := ⟨fun args w => Aj Try.func78 rfl (by decide) args w⟩
noncomputable def Cv (p0 : Int) : Option Int := (CT p0).bind fun x1 => some x1
theorem F1 (Y : Nat → Prop) (w0 : World)  (p0 : Int) (r : Int) (H : Cv p0 = some r)  :
    Calls Try.prog 53 #[.int .u64 p0] w0 fun e w' => e = .returned (.int .i64 r) ∧ Below w0.heap.size w0 w' := by
 refine enter Try.func53 Aa Try.ntmps53 Aa fun a F => ?_
 have W := Stw.start Y w0
 unfold Cv at H
 refine Ah (Ab ?_)
 refine ls F W Aa (Af F Aa).q fun a w F W => ?_
 refine Ad (Ac (Ah ?_))
 refine Gb F Aa ?_
 refine Aw (Ac (Ah (Ab ?_)))
 refine ls F W Aa (Ae F Aa).q fun a w F W => ?_
 obtain ⟨x1, h1, H⟩ := Al H
 refine ls F W Aa (AQ (v := Value.int .i64 x1) F RI Aa (fun w W => HB any w p0 _ h1)) fun a w F W => ?_
 refine ls F W Aa (Af F Aa).q fun a w F W => ?_
 refine Ad (Ac (Ay ?_))
 have H := AR H
 subst H
 refine AS (.inl Aa) F W Aa (Au F Aa) ?_
 exact ⟨rfl, W.done⟩
theorem Q7 : Has Try.prog 53 := ⟨fun args w => Aj Try.func53 rfl (by decide) args w⟩
def BW (p0 : Nat) : Bool := (!(KR p0 p0))
theorem Hq (Y : Nat → Prop) (w0 : World)  (p0 : Nat) (r : Bool) (H : BW p0 = r)  :
    Calls Try.prog 47 #[.float .f64 p0] w0 fun e w' => e = .returned (.bool r) ∧ Below w0.heap.size w0 w' := by
 refine enter Try.func47 Aa Try.ntmps47 Aa fun a F => ?_
 have W := Stw.start Y w0
 unfold BW at H
 refine Ah (Ab ?_)
 refine ls F W Aa (Af F Aa).q fun a w F W => ?_
 refine Ad (Ac (Ah (Ab ?_)))
 iterate 2 refine ls F W Aa (Ae F Aa).q fun a w F W => ?_
 refine ls F W Aa (PV F Aa Aa).q fun a w F W => ?_
 refine ls F W Aa (Af F Aa).q fun a w F W => ?_
 refine Ad (Ac (Ay ?_))
 subst H
 refine AS (.inl Aa) F W Aa (Au F Aa) ?_
 exact ⟨rfl, W.done⟩
theorem Q0 : Has Try.prog 47 := ⟨fun args w => Aj Try.func47 rfl (by decide) args w⟩
theorem Rf : QA Try.prog 48 Extern.MathFloatBits.float64bits := fun args w => run_callFunc_extern Try.func48 (by kernel_rfl) (by kernel_rfl) (by kernel_rfl) (by kernel_rfl) args w
def Gx (p0 : Nat) : Nat := (Int.toNat (IC .u64 (p0 : Int) 9223372036854775808))
theorem LM (Y : Nat → Prop) (w0 : World)  (p0 : Nat) (r : Nat) (H : Gx p0 = r)  :
    Calls Try.prog 100 #[.float .f64 p0] w0 fun e w' => e = .returned (.float .f64 r) ∧ Below w0.heap.size w0 w' := by
 refine enter Try.func100 Aa Try.ntmps100 Aa fun a F => ?_
 have W := Stw.start Y w0
 unfold Gx at H
 refine Ah (Ab ?_)
 refine ls F W Aa (Af F Aa).q fun a w F W => ?_
 refine Ad (Ac (Ah (Ab ?_)))
 refine ls F W Aa (Ae F Aa).q fun a w F W => ?_
 refine ls F W Aa (JZ (v := Value.int .u64 (p0 : Int)) F Rf Aa (fun w => rfl)).q fun a w F W => ?_
 refine ls F W Aa (Of F Aa Aa).q fun a w F W => ?_
 refine ls F W Aa (JZ (v := Value.float .f64 (Int.toNat (IC .u64 (p0 : Int) 9223372036854775808))) F Qw Aa (fun w => rfl)).q fun a w F W => ?_
 refine ls F W Aa (Af F Aa).q fun a w F W => ?_
 refine Ad (Ac (Ay ?_))
 subst H
 refine AS (.inl Aa) F W Aa (Au F Aa) ?_
 exact ⟨rfl, W.done⟩
theorem QT : Has Try.prog 100 := ⟨fun args w => Aj Try.func100 rfl (by decide) args w⟩
noncomputable def Cz (p0 : Nat) (p1 : Int) : Option Bool := (if p1 = 0 then some (Gx p0) else (if p1 < 0 then some (Op.negFloat .f64 p0) else some p0)).bind fun x1 => some (Ns x1 9218868437227405311)
theorem Hv (Y : Nat → Prop) (w0 : World)  (p0 : Nat) (p1 : Int) (r : Bool) (H : Cz p0 p1 = some r)  :
    Calls Try.prog 89 #[.float .f64 p0, .int .i64 p1] w0 fun e w' => e = .returned (.bool r) ∧ Below w0.heap.size w0 w' := by
 refine enter Try.func89 Aa Try.ntmps89 Aa fun a F => ?_
 have W := Stw.start Y w0
 unfold Cz at H
 refine Ah (Ab ?_)
 refine ls F W Aa (Af F Aa).q fun a w F W => ?_
 refine Ad (Ac ?_)
 obtain ⟨o1, G1, K1⟩ := Al H
 refine AG (fun a w => ∃ x1 : Nat, some (x1) = some o1 ∧ Fr 15 [] [(0, .float .f64 x1), (4, .bool false)] a ∧ Stw ⟨Y, [], w0⟩ [] [] w) ?_ ?_
 ·
  have H := G1
  clear G1 K1
  refine Ah (Ab ?_)
  refine ls F W Aa (Ae F Aa).q fun a w F W => ?_
  refine ls F W Aa (C9 F Aa Aa).q fun a w F W => ?_
  refine Ad (Ac ?_)
  refine AB F Aa (fun hb => ?_) fun hb => ?_
  ·
   have H := AM (Bq hb) H
   rw [hb] at F
   clear hb
   refine Ab ?_
   refine ls F W Aa (Ae F Aa).q fun a w F W => ?_
   refine ls F W Aa (AQ (v := Value.float .f64 (Gx p0)) F QT Aa (fun w W => LM any w p0 _ Aa)) fun a w F W => ?_
   refine ls F W Aa (Af F Aa).q fun a w F W => ?_
   refine Ad (Ac ?_)
   exact ⟨_, H, F.re ⟨rfl, Aa, trivial⟩, W⟩
  have H := AN (Br hb) H
  rw [hb] at F
  clear hb
  refine Ah (Ab ?_)
  refine ls F W Aa (Ae F Aa).q fun a w F W => ?_
  refine ls F W Aa (Bj F Aa Aa).q fun a w F W => ?_
  refine Ad (Ac ?_)
  refine AB F Aa (fun hb => ?_) fun hb => ?_
  ·
   have H := AM (Bq hb) H
   rw [hb] at F
   clear hb
   refine Ab ?_
   refine ls F W Aa (Ae F Aa).q fun a w F W => ?_
   refine ls F W Aa (PD F Aa).q fun a w F W => ?_
   refine ls F W Aa (Af F Aa).q fun a w F W => ?_
   refine Ad (Ac ?_)
   exact ⟨_, H, F.re ⟨rfl, Aa, trivial⟩, W⟩
  have H := AN (Br hb) H
  rw [hb] at F
  clear hb
  refine Aw (Ac ?_)
  exact ⟨_, H, F.re ⟨rfl, Aa, trivial⟩, W⟩
 rintro a w ⟨x1, hj, F, W⟩
 have hj := AR hj
 subst hj
 have H := K1
 clear G1 K1
 refine Ah (Ab ?_)
 refine ls F W Aa (Ae F Aa).q fun a w F W => ?_
 refine ls F W Aa (LH F Aa Aa).q fun a w F W => ?_
 refine ls F W Aa (Af F Aa).q fun a w F W => ?_
 refine Ad (Ac (Ay ?_))
 have H := AR H
 subst H
 refine AS (.inl Aa) F W Aa (Au F Aa) ?_
 exact ⟨rfl, W.done⟩
theorem RP : type_of% Try.underlying2 := Try.underlying2
theorem QZ : Has Try.prog 89 := ⟨fun args w => Aj Try.func89 rfl (by decide) args w⟩
def CQ (p0 : Nat) : Bool := decide ((BJ (p0 : Int)) < 0)
theorem I5 (Y : Nat → Prop) (w0 : World)  (p0 : Nat) (r : Bool) (H : CQ p0 = r)  :
    Calls Try.prog 90 #[.float .f64 p0] w0 fun e w' => e = .returned (.bool r) ∧ Below w0.heap.size w0 w' := by
 refine enter Try.func90 Aa Try.ntmps90 Aa fun a F => ?_
 have W := Stw.start Y w0
 unfold CQ at H
 refine Ah (Ab ?_)
 refine ls F W Aa (Af F Aa).q fun a w F W => ?_
 refine Ad (Ac (Ah (Ab ?_)))
 refine ls F W Aa (Ae F Aa).q fun a w F W => ?_
 refine ls F W Aa (JZ (v := Value.int .u64 (p0 : Int)) F Rf Aa (fun w => rfl)).q fun a w F W => ?_
 refine ls F W Aa (DX P8 RP F Aa).q fun a w F W => ?_
 refine ls F W Aa (Bj F Aa Aa).q fun a w F W => ?_
 refine ls F W Aa (Af F Aa).q fun a w F W => ?_
 refine Ad (Ac (Ay ?_))
 subst H
 refine AS (.inl Aa) F W Aa (Au F Aa) ?_
 exact ⟨rfl, W.done⟩
theorem R3 : Has Try.prog 90 := ⟨fun args w => Aj Try.func90 rfl (by decide) args w⟩
noncomputable def C6 (p0 : Nat) : Option Int := (if (BW p0) = true then some 0 else (Cz p0 (-1)).bind fun x1 => (if x1 = true then some 1 else (if (Mv p0 0) = true then some 2 else (Cz p0 1).bind fun x2 => (if x2 = true then some 6 else (if (Ns p0 0) = true then some 5 else (if (CQ p0) = true then some 3 else some 4))))))
theorem Jw (Y : Nat → Prop) (w0 : World)  (p0 : Nat) (r : Int) (H : C6 p0 = some r)  :
    Calls Try.prog 79 #[.float .f64 p0] w0 fun e w' => e = .returned (.int .i64 r) ∧ Below w0.heap.size w0 w' := by
 refine enter Try.func79 Aa Try.ntmps79 Aa fun a F => ?_
 have W := Stw.start Y w0
 unfold C6 at H
 refine Ah (Ab ?_)
 refine ls F W Aa (Af F Aa).q fun a w F W => ?_
 refine Ad (Ac (Ah (Ax (Ah (Ab ?_)))))
 refine ls F W Aa (Ae F Aa).q fun a w F W => ?_
 refine ls F W Aa (AQ (v := Value.bool (BW p0)) F Q0 Aa (fun w W => Hq any w p0 _ Aa)) fun a w F W => ?_
 refine ls F W Aa (Af F Aa).q fun a w F W => ?_
 refine Ad (Ac ?_)
 refine AB F Aa (fun hb => ?_) fun hb => ?_
 ·
  have H := AM hb H
  rw [hb] at F
  clear hb
  refine Ah (Ab ?_)
  refine ls F W Aa (Af F Aa).q fun a w F W => ?_
  refine Ad (Ac (Ay (AU (AH ?_))))
  have H := AR H
  subst H
  refine AS (.inl Aa) F W Aa (Au F Aa) ?_
  exact ⟨rfl, W.done⟩
 have H := AN (by rw [hb]; decide) H
 rw [hb] at F
 clear hb
 refine Ah (Ab ?_)
 refine ls F W Aa (Ae F Aa).q fun a w F W => ?_
 obtain ⟨x1, h1, H⟩ := Al H
 refine ls F W Aa (AQ (v := Value.bool x1) F QZ Aa (fun w W => Hv any w p0 (-1) _ h1)) fun a w F W => ?_
 refine ls F W Aa (Af F Aa).q fun a w F W => ?_
 refine Ad (Ac ?_)
 refine AB F Aa (fun hb => ?_) fun hb => ?_
 ·
  have H := AM hb H
  rw [hb] at F
  clear hb
  refine Ah (Ab ?_)
  refine ls F W Aa (Af F Aa).q fun a w F W => ?_
  refine Ad (Ac (Ay (AU (AH ?_))))
  have H := AR H
  subst H
  refine AS (.inl Aa) F W Aa (Au F Aa) ?_
  exact ⟨rfl, W.done⟩
 have H := AN (by rw [hb]; decide) H
 rw [hb] at F
 clear hb
 refine Ah (Ab ?_)
 refine ls F W Aa (Ae F Aa).q fun a w F W => ?_
 refine ls F W Aa (Kk F Aa Aa).q fun a w F W => ?_
 refine ls F W Aa (Af F Aa).q fun a w F W => ?_
 refine Ad (Ac ?_)
 refine AB F Aa (fun hb => ?_) fun hb => ?_
 ·
  have H := AM hb H
  rw [hb] at F
  clear hb
  refine Ah (Ab ?_)
  refine ls F W Aa (Af F Aa).q fun a w F W => ?_
  refine Ad (Ac (Ay (AU (AH ?_))))
  have H := AR H
  subst H
  refine AS (.inl Aa) F W Aa (Au F Aa) ?_
  exact ⟨rfl, W.done⟩
 have H := AN (by rw [hb]; decide) H
 rw [hb] at F
 clear hb
 refine Ah (Ab ?_)
 refine ls F W Aa (Ae F Aa).q fun a w F W => ?_
 obtain ⟨x2, h2, H⟩ := Al H
 refine ls F W Aa (AQ (v := Value.bool x2) F QZ Aa (fun w W => Hv any w p0 1 _ h2)) fun a w F W => ?_
 refine ls F W Aa (Af F Aa).q fun a w F W => ?_
 refine Ad (Ac ?_)
 refine AB F Aa (fun hb => ?_) fun hb => ?_
 ·
  have H := AM hb H
  rw [hb] at F
  clear hb
  refine Ah (Ab ?_)
  refine ls F W Aa (Af F Aa).q fun a w F W => ?_
  refine Ad (Ac (Ay (AU (AH ?_))))
  have H := AR H
  subst H
  refine AS (.inl Aa) F W Aa (Au F Aa) ?_
  exact ⟨rfl, W.done⟩
 have H := AN (by rw [hb]; decide) H
 rw [hb] at F
 clear hb
 refine Ah (Ab ?_)
 refine ls F W Aa (Ae F Aa).q fun a w F W => ?_
 refine ls F W Aa (LH F Aa Aa).q fun a w F W => ?_
 refine ls F W Aa (Af F Aa).q fun a w F W => ?_
 refine Ad (Ac ?_)
 refine AB F Aa (fun hb => ?_) fun hb => ?_
 ·
  have H := AM hb H
  rw [hb] at F
  clear hb
  refine Ah (Ab ?_)
  refine ls F W Aa (Af F Aa).q fun a w F W => ?_
  refine Ad (Ac (Ay (AU (AH ?_))))
  have H := AR H
  subst H
  refine AS (.inl Aa) F W Aa (Au F Aa) ?_
  exact ⟨rfl, W.done⟩
 have H := AN (by rw [hb]; decide) H
 rw [hb] at F
 clear hb
 refine Ah (Ab ?_)
 refine ls F W Aa (Ae F Aa).q fun a w F W => ?_
 refine ls F W Aa (AQ (v := Value.bool (CQ p0)) F R3 Aa (fun w W => I5 any w p0 _ Aa)) fun a w F W => ?_
 refine ls F W Aa (Af F Aa).q fun a w F W => ?_
 refine Ad (Ac ?_)
 refine AB F Aa (fun hb => ?_) fun hb => ?_
 ·
  have H := AM hb H
  rw [hb] at F
  clear hb
  refine Ah (Ab ?_)
  refine ls F W Aa (Af F Aa).q fun a w F W => ?_
  refine Ad (Ac (Ay (AU (AH ?_))))
  have H := AR H
  subst H
  refine AS (.inl Aa) F W Aa (Au F Aa) ?_
  exact ⟨rfl, W.done⟩
 have H := AN (by rw [hb]; decide) H
 rw [hb] at F
 clear hb
 refine Aw (AL (Ac (Ah (Ab ?_))))
 refine ls F W Aa (Af F Aa).q fun a w F W => ?_
 refine Ad (Ac (Ay ?_))
 have H := AR H
 subst H
 refine AS (.inl Aa) F W Aa (Au F Aa) ?_
 exact ⟨rfl, W.done⟩
theorem R0 : Has Try.prog 79 := ⟨fun args w => Aj Try.func79 rfl (by decide) args w⟩
noncomputable def Dc (p0 : Nat) : Option Int := (C6 p0).bind fun x1 => (if x1 ≠ 0 then some x1 else some 7)
theorem HK (Y : Nat → Prop) (w0 : World)  (p0 : Nat) (r : Int) (H : Dc p0 = some r)  :
    Calls Try.prog 54 #[.float .f64 p0] w0 fun e w' => e = .returned (.int .i64 r) ∧ Below w0.heap.size w0 w' := by
 refine enter Try.func54 Aa Try.ntmps54 Aa fun a F => ?_
 have W := Stw.start Y w0
 unfold Dc at H
 refine Ah (Ab ?_)
 refine ls F W Aa (Af F Aa).q fun a w F W => ?_
 refine Ad (Ac (Ah (Ah (Ab ?_))))
 refine ls F W Aa (Ae F Aa).q fun a w F W => ?_
 obtain ⟨x1, h1, H⟩ := Al H
 refine ls F W Aa (AQ (v := Value.int .i64 x1) F R0 Aa (fun w W => Jw any w p0 _ h1)) fun a w F W => ?_
 refine ls F W Aa (Af F Aa).q fun a w F W => ?_
 refine Ad (Ac (Ah (Ab ?_)))
 refine ls F W Aa (Ae F Aa).q fun a w F W => ?_
 refine ls F W Aa (Jf F Aa Aa).q fun a w F W => ?_
 refine Ad (Ac ?_)
 refine AB F Aa (fun hb => ?_) fun hb => ?_
 ·
  have H := AM (Bq hb) H
  rw [hb] at F
  clear hb
  refine Ah (Ab ?_)
  refine ls F W Aa (Ae F Aa).q fun a w F W => ?_
  refine ls F W Aa (Af F Aa).q fun a w F W => ?_
  refine Ad (Ac (Ay (AH ?_)))
  have H := AR H
  subst H
  refine AS (.inl Aa) F W Aa (Au F Aa) ?_
  exact ⟨rfl, W.done⟩
 have H := AN (Br hb) H
 rw [hb] at F
 clear hb
 refine Aw (Ac (Ah (Ab ?_)))
 refine ls F W Aa (Af F Aa).q fun a w F W => ?_
 refine Ad (Ac (Ay ?_))
 have H := AR H
 subst H
 refine AS (.inl Aa) F W Aa (Au F Aa) ?_
 exact ⟨rfl, W.done⟩
end Go.Proofs.Ytbogijdfacoccaa
