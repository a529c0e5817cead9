/- The functions of layer 19, F7. Conditions: none. -/
import Derived.Test.YtbogijdfacoccaaRows
import Derived.Test.YtbogijdfacoccaabOF
import Derived.Test.YtbogijdfacoccaabOT
import Derived.Test.YtbogijdfacoccaabQT
import Derived.Test.YtbogijdfacoccaabOD
import Derived.Test.YtbogijdfacoccaabRF
import Derived.Test.YtbogijdfacoccaabDR
import Derived.Test.YtbogijdfacoccaabOC
import Derived.Test.YtbogijdfacoccaabOM
import Derived.Test.YtbogijdfacoccaabRF
import Derived.Test.YtbogijdfacoccaabDR
import Derived.Test.YtbogijdfacoccaabOX
namespace Go.Proofs.Ytbogijdfacoccaa
open Go Go.RowKit
set_option linter.unusedVariables false
set_option linter.unusedSimpArgs false
set_option maxRecDepth 20000
theorem IR : type_of% Try.underlying22 := Try.underlying22
theorem JQ : type_of% Try.underlying23 := Try.underlying23
theorem Ct : type_of% Try.underlying25 := Try.underlying25
theorem Pk : type_of% Try.underlying26 := Try.underlying26
abbrev Fm : Rp (Int × Int × Int × Int × Int × Int) := (Rp.pair (Rp.int .i64) (Rp.pair (Rp.int .i64) (Rp.pair (Rp.int .i64) (Rp.pair (Rp.int .i64) (Rp.pair (Rp.int .i64) (Rp.int .i64))))))
abbrev Fo : Rp (Int × Int) := (Rp.pair (Rp.int .i64) (Rp.int .i64))
theorem Jj : Ty Try.prog 25 true 3 := ⟨by kernel_rfl, by kernel_rfl⟩
theorem IC : Ty Try.prog 22 false 1 := ⟨by kernel_rfl, by kernel_rfl⟩
theorem GS : Ty Try.prog 23 false 1 := ⟨by kernel_rfl, by kernel_rfl⟩
def EG (p0 : Int × (List (Int × Int × Int × Int × Int × Int)) × (List (Int × Int))) (p1 : List Int) : Bool := (decide ((p0.2.1.length : Int) ≤ 30) && (decide ((p0.2.2.length : Int) ≤ 12) && decide ((p1.length : Int) ≤ 30)))
theorem Lb (Y : Nat → Prop) (w0 : World) (v1 : Value) (v2 : Value) (v3 : Value) (p0 : Int × (List (Int × Int × Int × Int × Int × Int)) × (List (Int × Int))) (p1 : List Int) (r : Bool) (H : EG p0 p1 = r) (h_v1 : Sl w0 (NX []) Fm v1 p0.2.1) (h_v2 : Sl w0 (NX []) Fo v2 p0.2.2) (h_v3 : Sl w0 (NX []) (Rp.int .u64) v3 p1) :
    Calls Try.prog 7 #[.agg #[.int .i64 p0.1, v1, v2], v3] w0 fun e w' => e = .returned (.bool r) ∧ Below w0.heap.size w0 w' := by
 refine enter Try.func7 Aa Try.ntmps7 Aa fun a F => ?_
 have W := Stw.start Y w0
 unfold EG at H
 refine Ah (Ab ?_)
 refine Eo (cs := [.int .i64 p0.1, v1, v2]) F W Aa Aa Aa fun b1 a w F W => ?_
 refine ls F W Aa (Af F Aa).q fun a w F W => ?_
 refine Ad (Ac ?_)
 refine AN (fun a w => Fr 20 [] [(4, .bool (decide ((p0.2.1.length : Int) ≤ 30) && (decide ((p0.2.2.length : Int) ≤ 12) && decide ((p1.length : Int) ≤ 30))))] a ∧ Stw ⟨Y, [], w0⟩ [(b1, [.int .i64 p0.1, v1, v2])] [] w) ?_ ?_
 ·
  refine Ab ?_
  refine ls F W Aa (Ai Ct Aa Aa Aa IC F Aa 1 Aa).q fun a w F W => ?_
  refine ls F W Aa (An (v := v1) 0 F Aa Aa IC Aa).q fun a w F W => ?_
  refine ls F W Aa (BB (r := Fm) (l := p0.2.1) IR Aa F Aa (Am h_v1)).q fun a w F W => ?_
  refine ls F W Aa (Ju F Aa Aa).q fun a w F W => ?_
  refine ls F W Aa (Ae F Aa).q fun a w F W => ?_
  rcases Bool.eq_false_or_eq_true (decide ((p0.2.1.length : Int) ≤ 30)) with hb0 | hb0
  ·
   rw [hb0] at F
   refine AD F W (Ag F Aa Aa Aa Aa) Aa (Ak Aa) (Ai Ct Aa Aa Aa GS F Aa 2 Aa).q fun a w F W => ?_
   refine AD F W (Ag F Aa Aa Aa Aa) Aa (Ak Aa) (An (v := v2) 0 F Aa Aa GS Aa).q fun a w F W => ?_
   refine AD F W (Ag F Aa Aa Aa Aa) Aa (Ak Aa) (BB (r := Fo) (l := p0.2.2) JQ Aa F Aa (Am h_v2)).q fun a w F W => ?_
   refine AD F W (Ag F Aa Aa Aa Aa) Aa (Ak Aa) (Ju F Aa Aa).q fun a w F W => ?_
   refine ls F W Aa (Ao F Aa Aa Aa).q fun a w F W => ?_
   refine ls F W Aa (Ae F Aa).q fun a w F W => ?_
   rcases Bool.eq_false_or_eq_true (decide ((p0.2.2.length : Int) ≤ 12)) with hb1 | hb1
   ·
    rw [hb1] at F
    refine AD F W (Ag F Aa Aa Aa Aa) Aa (Ak Aa) (Ae F Aa).q fun a w F W => ?_
    refine AD F W (Ag F Aa Aa Aa Aa) Aa (Ak Aa) (BB (r := (Rp.int .u64)) (l := p1) Pk Aa F Aa (Am h_v3)).q fun a w F W => ?_
    refine AD F W (Ag F Aa Aa Aa Aa) Aa (Ak Aa) (Ju F Aa Aa).q fun a w F W => ?_
    refine ls F W Aa (Ao F Aa Aa Aa).q fun a w F W => ?_
    refine ls F W Aa (Af F Aa).q fun a w F W => ?_
    refine Ad (Ac ?_)
    exact ⟨F.re ⟨(by show some (Value.bool (decide ((p1.length : Int) ≤ 30))) = some (Value.bool (decide ((p0.2.1.length : Int) ≤ 30) && (decide ((p0.2.2.length : Int) ≤ 12) && decide ((p1.length : Int) ≤ 30)))); try rw [hb0]; try rw [hb1]; all_goals simp only [Bool.not_true, Bool.not_false, Bool.true_and, Bool.false_and, Bool.true_or, Bool.false_or, Bool.and_true, Bool.or_false, cond_true, cond_false]), trivial⟩, W⟩
   rw [hb1] at F
   iterate 3 refine Cs F Aa Aa Aa Aa Aa Aa Aa fun a F => ?_
   refine ls F W Aa (Ap F Aa Aa Aa).q fun a w F W => ?_
   refine ls F W Aa (Af F Aa).q fun a w F W => ?_
   refine Ad (Ac ?_)
   exact ⟨F.re ⟨(by show some (Value.bool false) = some (Value.bool (decide ((p0.2.1.length : Int) ≤ 30) && (decide ((p0.2.2.length : Int) ≤ 12) && decide ((p1.length : Int) ≤ 30)))); try rw [hb0]; try rw [hb1]; all_goals simp only [Bool.not_true, Bool.not_false, Bool.true_and, Bool.false_and, Bool.true_or, Bool.false_or, Bool.and_true, Bool.or_false, cond_true, cond_false]), trivial⟩, W⟩
  rw [hb0] at F
  iterate 4 refine Cs F Aa Aa Aa Aa Aa Aa Aa fun a F => ?_
  refine ls F W Aa (Ap F Aa Aa Aa).q fun a w F W => ?_
  refine ls F W Aa (Ae F Aa).q fun a w F W => ?_
  iterate 3 refine Cs F Aa Aa Aa Aa Aa Aa Aa fun a F => ?_
  refine ls F W Aa (Ap F Aa Aa Aa).q fun a w F W => ?_
  refine ls F W Aa (Af F Aa).q fun a w F W => ?_
  refine Ad (Ac ?_)
  exact ⟨F.re ⟨(by show some (Value.bool false) = some (Value.bool (decide ((p0.2.1.length : Int) ≤ 30) && (decide ((p0.2.2.length : Int) ≤ 12) && decide ((p1.length : Int) ≤ 30)))); try rw [hb0]; all_goals simp only [Bool.not_true, Bool.not_false, Bool.true_and, Bool.false_and, Bool.true_or, Bool.false_or, Bool.and_true, Bool.or_false, cond_true, cond_false]), trivial⟩, W⟩
 rintro a w ⟨F, W⟩
 refine AC ?_
 subst H
 refine A2 (.inl Aa) F W Aa (Aw F Aa) ?_
 exact ⟨rfl, W.done⟩
theorem KJ : type_of% Try.underlying29 := Try.underlying29
theorem Jn : type_of% Try.underlying52 := Try.underlying52
theorem C2 : type_of% Try.underlying62 := Try.underlying62
theorem Lr : type_of% Try.underlying86 := Try.underlying86
theorem Qa : type_of% Try.underlying105 := Try.underlying105
theorem H7 : Has Try.prog 7 := ⟨fun args w => Aj Try.func7 rfl (by decide) args w⟩
theorem RO : Bt Try.prog 62 [.int .i64 0, .int .i64 0, .int .i64 0, .int .i64 0, .int .i64 0, .int .i64 0] [(0, 1), (1, 1), (2, 1), (3, 1), (4, 1), (5, 1)] := ⟨⟨.agg #[.int .i64 0, .int .i64 0, .int .i64 0, .int .i64 0, .int .i64 0, .int .i64 0], by kernel_rfl, rfl⟩, ⟨_, C2, fun w => by kernel_rfl⟩⟩
theorem QO : (Try.prog.info? 62).bind (·.zero) = some (.agg #[.int .i64 0, .int .i64 0, .int .i64 0, .int .i64 0, .int .i64 0, .int .i64 0]) := by kernel_rfl
def ST (a : Int × Int × Int × Int × Int × Int) : List Value := [.int .i64 a.1, .int .i64 a.2.1, .int .i64 a.2.2.1, .int .i64 a.2.2.2.1, .int .i64 a.2.2.2.2.1, .int .i64 a.2.2.2.2.2]
theorem QC : Fl Fm ST := (Fl.pair Fl.int (Fl.pair Fl.int (Fl.pair Fl.int (Fl.pair Fl.int (Fl.pair Fl.int Fl.int)))))
theorem Qm : Et Try.prog 22 62 6 48 := Et.of IR (by kernel_rfl) (by kernel_rfl) (by kernel_rfl) (by decide)
theorem Sj : Bt Try.prog 52 [.int .i64 0, .int .i64 0] [(0, 1), (1, 1)] := ⟨⟨.agg #[.int .i64 0, .int .i64 0], by kernel_rfl, rfl⟩, ⟨_, Jn, fun w => by kernel_rfl⟩⟩
theorem RU : (Try.prog.info? 52).bind (·.zero) = some (.agg #[.int .i64 0, .int .i64 0]) := by kernel_rfl
def SM (a : Int × Int) : List Value := [.int .i64 a.1, .int .i64 a.2]
theorem Pn : Fl Fo SM := (Fl.pair Fl.int Fl.int)
theorem Pp : Et Try.prog 23 52 2 16 := Et.of JQ (by kernel_rfl) (by kernel_rfl) (by kernel_rfl) (by decide)
theorem SY : Bt Try.prog 25 [.int .i64 0, .slice none 0 0, .slice none 0 0] [(0, 1), (1, 1), (2, 1)] := ⟨⟨.agg #[.int .i64 0, .slice none 0 0, .slice none 0 0], by kernel_rfl, rfl⟩, ⟨_, Ct, fun w => by kernel_rfl⟩⟩
theorem SQ : (Try.prog.info? 25).bind (·.zero) = some (.agg #[.int .i64 0, .slice none 0 0, .slice none 0 0]) := by kernel_rfl
theorem Qe : (Try.prog.info? 56).bind (·.zero) = some (.float .f64 0) := by kernel_rfl
theorem Iy : Et Try.prog 29 56 1 8 := Et.of KJ (by kernel_rfl) (by kernel_rfl) (by kernel_rfl) (by decide)
theorem T3 : Ty Try.prog 3 false 1 := ⟨by kernel_rfl, by kernel_rfl⟩
abbrev HJ (x : Int × Int) : Value := .agg #[.int .i64 x.1, .int .i64 x.2]
abbrev FU (x : Unit) : Value := .agg #[]
theorem ON : Ty Try.prog 62 true 6 := ⟨by kernel_rfl, by kernel_rfl⟩
theorem QP : Bt Try.prog 86 [.int .i64 0, .int .i64 0] [(0, 1), (1, 1)] := ⟨⟨.agg #[.int .i64 0, .int .i64 0], by kernel_rfl, rfl⟩, ⟨_, Lr, fun w => by kernel_rfl⟩⟩
theorem Rm : (Try.prog.info? 86).bind (·.zero) = some (.agg #[.int .i64 0, .int .i64 0]) := by kernel_rfl
abbrev Hr : Rp (Int × Int) := (Rp.pair (Rp.int .i64) (Rp.int .i64))
def S1 (a : Int × Int) : List Value := [.int .i64 a.1, .int .i64 a.2]
theorem RG : Fl Hr S1 := (Fl.pair Fl.int Fl.int)
theorem OG : Et Try.prog 105 86 2 16 := Et.of Qa (by kernel_rfl) (by kernel_rfl) (by kernel_rfl) (by decide)
theorem R0 : Ty Try.prog 52 true 2 := ⟨by kernel_rfl, by kernel_rfl⟩
noncomputable def B9 (p0 : Int × (List (Int × Int × Int × Int × Int × Int)) × (List (Int × Int))) : ((List (Int × Int)) × Int) → Option (((List (Int × Int)) × Int) ⊕ (List (Int × Int)))
  | (x2, x3) => (if x3 < (p0.2.1.length : Int) then (ix p0.2.1 x3).bind fun x4 => (HV x2 ([(x4.1, x4.2.1), (x4.2.2.1, x4.2.2.2.1)] : List (Int × Int))).bind fun x5 => some (.inl (x5, BH (x3 + 1))) else some (.inr x2))
noncomputable def Cb (p0 : Int × (List (Int × Int × Int × Int × Int × Int)) × (List (Int × Int))) : ((List (Int × Int)) × Int) → Option (((List (Int × Int)) × Int) ⊕ (List (Int × Int)))
  | (x7, x8) => (if x8 < (p0.2.2.length : Int) then (ix p0.2.2 x8).bind fun x9 => (HV x7 ([x9] : List (Int × Int))).bind fun x10 => some (.inl (x10, BH (x8 + 1))) else some (.inr x7))
noncomputable def Ds (p0 : Int × (List (Int × Int × Int × Int × Int × Int)) × (List (Int × Int))) : Option (List (Int × Int)) := (AF (B9 p0) ([], 0)).bind fun x1 => (AF (Cb p0) (x1, 0)).bind fun x6 => some x6
theorem JP (Y : Nat → Prop) (w0 : World) (v1 : Value) (v2 : Value) (p0 : Int × (List (Int × Int × Int × Int × Int × Int)) × (List (Int × Int))) (r : (List (Int × Int))) (H : Ds p0 = some r) (h_v1 : Sl w0 (NX []) Fm v1 p0.2.1) (h_v2 : Sl w0 (NX []) Fo v2 p0.2.2) :
    Calls Try.prog 63 #[.agg #[.int .i64 p0.1, v1, v2]] w0 fun e w' => ∃ x : Value, e = .returned (x) ∧ Stw ⟨Y, [], w0⟩ [] [row (x) 86 Hr r] w' := by
 refine enter Try.func63 Aa Try.ntmps63 Aa fun a F => ?_
 have W := Stw.start Y w0
 unfold Ds at H
 refine Ah (Ab ?_)
 refine Eo (cs := [.int .i64 p0.1, v1, v2]) F W Aa Aa Aa fun b1 a w F W => ?_
 refine ls F W Aa (Af F Aa).q fun a w F W => ?_
 refine Ad (Ac (Ah (Ab ?_)))
 refine ls F W Aa (Af F Aa).q fun a w F W => ?_
 refine Ad (Ac ?_)
 obtain ⟨o1, G1, K1⟩ := Al H
 refine AN (fun a w => ∃ x1 : List (Int × Int), ∃ v3 : Value, some (x1) = some o1 ∧ Fr 46 [] [(1, .pointer (some ⟨b1, 0, none⟩)), (2, .slice none 0 0), (3, v3)] a ∧ Stw ⟨Y, [], w0⟩ [(b1, [.int .i64 p0.1, v1, v2])] [row v3 86 Hr x1] w) ?_ ?_
 ·
  have H := G1
  clear G1 K1
  refine Ah (Ab ?_)
  refine ls F W Aa (Ai Ct Aa Aa Aa IC F Aa 1 Aa).q fun a w F W => ?_
  refine ls F W Aa (An (v := v1) 0 F Aa Aa IC Aa).q fun a w F W => ?_
  refine ls F W Aa (BB (r := Fm) (l := p0.2.1) IR Aa F Aa (Am h_v1)).q fun a w F W => ?_
  refine ls F W Aa (Ae F Aa).q fun a w F W => ?_
  refine Ad (Ac (Ay ?_))
  have W := W.nilRow 86 Hr
  refine Bi H (fun s a w => ∃ v4 : Value, Fr 46 [] [(1, .pointer (some ⟨b1, 0, none⟩)), (2, .slice none 0 0), (3, v4), (9, v1), (10, .int .i64 (p0.2.1.length : Int)), (11, .int .i64 s.2)] a ∧ Stw ⟨Y, [], w0⟩ [(b1, [.int .i64 p0.1, v1, v2])] [row v4 86 Hr s.1] w) ⟨(Value.slice none 0 0), F.re ⟨rfl, Aa, Aa, Aa, Aa, Aa, trivial⟩, W⟩ fun s o a w H L2 hR => ?_
  obtain ⟨x2, x3⟩ := s
  obtain ⟨v4, F, W⟩ := hR
  have F : Fr 46 [] [(1, .pointer (some ⟨b1, 0, none⟩)), (2, .slice none 0 0), (3, v4), (9, v1), (10, .int .i64 (p0.2.1.length : Int)), (11, .int .i64 x3)] a := F
  have W : Stw ⟨Y, [], w0⟩ [(b1, [.int .i64 p0.1, v1, v2])] [row v4 86 Hr x2] w := W
  rw [B9] at H
  refine Ah (Ab ?_)
  refine ls F W Aa (Bo F Aa Aa).q fun a w F W => ?_
  refine Ad (Ac (Ah ?_))
  refine AE F Aa (fun hb => ?_) fun hb => ?_
  ·
   have H := AU (Bz hb) H
   rw [hb] at F
   clear hb
   refine Az (Ac (Ah (Ay (Ah (Ab ?_)))))
   obtain ⟨x4, h1, H⟩ := Al H
   refine ls F W Aa (AH (r := Fm) Qm F Aa Aa (Am h_v1) h1).q fun a w F W => ?_
   refine ls F W Aa (Ax (y := Value.agg #[.int .i64 x4.1, .int .i64 x4.2.1, .int .i64 x4.2.2.1, .int .i64 x4.2.2.2.1, .int .i64 x4.2.2.2.2.1, .int .i64 x4.2.2.2.2.2]) (j := 0) (i := x3) F Aa Aa (Am h_v1) h1 QC.to ON Aa).q fun a w F W => ?_
   refine Ck (cs := [.int .i64 0, .int .i64 0, .int .i64 0, .int .i64 0, .int .i64 0, .int .i64 0]) F W Aa QO Aa fun b2 a w F W => ?_
   refine Cw (vs := [.int .i64 x4.1, .int .i64 x4.2.1, .int .i64 x4.2.2.1, .int .i64 x4.2.2.2.1, .int .i64 x4.2.2.2.2.1, .int .i64 x4.2.2.2.2.2]) (M' := [(b2, [.int .i64 x4.1, .int .i64 x4.2.1, .int .i64 x4.2.2.1, .int .i64 x4.2.2.2.1, .int .i64 x4.2.2.2.2.1, .int .i64 x4.2.2.2.2.2]), (b1, [.int .i64 p0.1, v1, v2])]) 0 F W Aa Aa Aa ON Aa Aa Aa Aa Aa fun w W => ?_
   refine Ad (Ac (Ab ?_))
   refine ls F W Aa (Ae F Aa).q fun a w F W => ?_
   refine ls F W Aa (Ai C2 Aa Aa Aa T3 F Aa 0 Aa).q fun a w F W => ?_
   refine ls F W Aa (An (v := Value.int .i64 x4.1) 0 F Aa Aa T3 Aa).q fun a w F W => ?_
   refine ls F W Aa (Ai C2 Aa Aa Aa T3 F Aa 1 Aa).q fun a w F W => ?_
   refine ls F W Aa (An (v := Value.int .i64 x4.2.1) 0 F Aa Aa T3 Aa).q fun a w F W => ?_
   refine ls F W Aa (Dd (v := Value.agg #[.int .i64 x4.1, .int .i64 x4.2.1]) QP F Aa Aa Aa).q fun a w F W => ?_
   refine ls F W Aa (Ai C2 Aa Aa Aa T3 F Aa 2 Aa).q fun a w F W => ?_
   refine ls F W Aa (An (v := Value.int .i64 x4.2.2.1) 0 F Aa Aa T3 Aa).q fun a w F W => ?_
   refine ls F W Aa (Ai C2 Aa Aa Aa T3 F Aa 3 Aa).q fun a w F W => ?_
   refine ls F W Aa (An (v := Value.int .i64 x4.2.2.2.1) 0 F Aa Aa T3 Aa).q fun a w F W => ?_
   refine ls F W Aa (Dd (v := Value.agg #[.int .i64 x4.2.2.1, .int .i64 x4.2.2.2.1]) QP F Aa Aa Aa).q fun a w F W => ?_
   refine Ey (z := Value.agg #[.int .i64 0, .int .i64 0]) (cs := [.int .i64 x4.1, .int .i64 x4.2.1, .int .i64 x4.2.2.1, .int .i64 x4.2.2.2.1]) Hr ([(x4.1, x4.2.1), (x4.2.2.1, x4.2.2.2.1)] : List (Int × Int)) F W Aa OG Rm Aa Aa Aa Aa Aa Aa (RG.repL _ _ ([(x4.1, x4.2.1), (x4.2.2.1, x4.2.2.2.1)] : List (Int × Int))) fun v5 a w F W => ?_
   obtain ⟨x5, h2, H⟩ := Al H
   refine DM (r := Hr) (i := 1) F W Aa OG Aa Aa Aa Aa (DT W 0 Aa) h2 Aa fun v6 a w F W => ?_
   have W : Stw ⟨Y, [], w0⟩ [(b2, [.int .i64 x4.1, .int .i64 x4.2.1, .int .i64 x4.2.2.1, .int .i64 x4.2.2.2.1, .int .i64 x4.2.2.2.2.1, .int .i64 x4.2.2.2.2.2]), (b1, [.int .i64 p0.1, v1, v2])] [row v6 86 Hr x5, row v5 86 Hr ([(x4.1, x4.2.1), (x4.2.2.1, x4.2.2.2.1)] : List (Int × Int))] w := W
   refine ls F W Aa (Af F Aa).q fun a w F W => ?_
   refine Ad (AS (Ac (Ab ?_)))
   refine ls F W Aa (BZ F Aa Aa Aa).q fun a w F W => ?_
   refine ls F W Aa (Ae F Aa).q fun a w F W => ?_
   refine Ad (Ac ?_)
   have W := W.frontM (i := 1) Aa Aa
   have W := W.sub (M' := [(b1, [.int .i64 p0.1, v1, v2])]) (Z' := [row v6 86 Hr x5]) (List.Sublist.cons_cons _ (List.nil_sublist _)) (List.Sublist.cons_cons _ (List.nil_sublist _))
   exact ⟨_, H, (v6), F.re ⟨rfl, Aa, Aa, Aa, Aa, Aa, trivial⟩, W⟩
  have H := AV (Bw hb) H
  rw [hb] at F
  clear hb
  refine Bm ?_
  iterate 2 refine BT ?_
  refine Bn (Ac ?_)
  have H := L2 _ H
  exact ⟨_, (v4), H, F.re ⟨rfl, Aa, Aa, trivial⟩, W⟩
 rintro a w ⟨x1, v3, hj, F, W⟩
 have hj := A1 hj
 subst hj
 have H := K1
 clear G1 K1
 obtain ⟨o3, G3, K3⟩ := Al H
 refine AN (fun a w => ∃ x6 : List (Int × Int), ∃ v7 : Value, some (x6) = some o3 ∧ Fr 46 [] [(2, .slice none 0 0), (3, v7)] a ∧ Stw ⟨Y, [], w0⟩ [(b1, [.int .i64 p0.1, v1, v2])] [row v7 86 Hr x6] w) ?_ ?_
 ·
  have H := G3
  clear G3 K3
  refine Ah (Ab ?_)
  refine ls F W Aa (Ai Ct Aa Aa Aa GS F Aa 2 Aa).q fun a w F W => ?_
  refine ls F W Aa (An (v := v2) 0 F Aa Aa GS Aa).q fun a w F W => ?_
  refine ls F W Aa (BB (r := Fo) (l := p0.2.2) JQ Aa F Aa (Am h_v2)).q fun a w F W => ?_
  refine ls F W Aa (Ae F Aa).q fun a w F W => ?_
  refine Ad (Ac (Ay ?_))
  refine Bi H (fun s a w => ∃ v8 : Value, Fr 46 [] [(2, .slice none 0 0), (3, v8), (30, v2), (31, .int .i64 (p0.2.2.length : Int)), (32, .int .i64 s.2)] a ∧ Stw ⟨Y, [], w0⟩ [(b1, [.int .i64 p0.1, v1, v2])] [row v8 86 Hr s.1] w) ⟨(v3), F.re ⟨rfl, Aa, Aa, Aa, Aa, trivial⟩, W⟩ fun s o a w H L4 hR => ?_
  obtain ⟨x7, x8⟩ := s
  obtain ⟨v8, F, W⟩ := hR
  have F : Fr 46 [] [(2, .slice none 0 0), (3, v8), (30, v2), (31, .int .i64 (p0.2.2.length : Int)), (32, .int .i64 x8)] a := F
  have W : Stw ⟨Y, [], w0⟩ [(b1, [.int .i64 p0.1, v1, v2])] [row v8 86 Hr x7] w := W
  rw [Cb] at H
  refine Ah (Ab ?_)
  refine ls F W Aa (Bo F Aa Aa).q fun a w F W => ?_
  refine Ad (Ac (Ah ?_))
  refine AE F Aa (fun hb => ?_) fun hb => ?_
  ·
   have H := AU (Bz hb) H
   rw [hb] at F
   clear hb
   refine Az (Ac (Ah (Ay (Ah (Ab ?_)))))
   obtain ⟨x9, h3, H⟩ := Al H
   refine ls F W Aa (AH (r := Fo) Pp F Aa Aa (Am h_v2) h3).q fun a w F W => ?_
   refine ls F W Aa (Ax (y := Value.agg #[.int .i64 x9.1, .int .i64 x9.2]) (j := 0) (i := x8) F Aa Aa (Am h_v2) h3 Pn.to R0 Aa).q fun a w F W => ?_
   refine Ck (cs := [.int .i64 0, .int .i64 0]) F W Aa RU Aa fun b3 a w F W => ?_
   refine Cw (vs := [.int .i64 x9.1, .int .i64 x9.2]) (M' := [(b3, [.int .i64 x9.1, .int .i64 x9.2]), (b1, [.int .i64 p0.1, v1, v2])]) 0 F W Aa Aa Aa R0 Aa Aa Aa Aa Aa fun w W => ?_
   refine Ad (Ac (Ab ?_))
   refine ls F W Aa (Ae F Aa).q fun a w F W => ?_
   refine ls F W Aa (Ai Jn Aa Aa Aa T3 F Aa 0 Aa).q fun a w F W => ?_
   refine ls F W Aa (An (v := Value.int .i64 x9.1) 0 F Aa Aa T3 Aa).q fun a w F W => ?_
   refine ls F W Aa (Ai Jn Aa Aa Aa T3 F Aa 1 Aa).q fun a w F W => ?_
   refine ls F W Aa (An (v := Value.int .i64 x9.2) 0 F Aa Aa T3 Aa).q fun a w F W => ?_
   refine ls F W Aa (Dd (v := Value.agg #[.int .i64 x9.1, .int .i64 x9.2]) QP F Aa Aa Aa).q fun a w F W => ?_
   refine Ey (z := Value.agg #[.int .i64 0, .int .i64 0]) (cs := [.int .i64 x9.1, .int .i64 x9.2]) Hr ([x9] : List (Int × Int)) F W Aa OG Rm Aa Aa Aa Aa Aa Aa (RG.repL _ _ ([x9] : List (Int × Int))) fun v9 a w F W => ?_
   obtain ⟨x10, h4, H⟩ := Al H
   refine DM (r := Hr) (i := 1) F W Aa OG Aa Aa Aa Aa (DT W 0 Aa) h4 Aa fun v10 a w F W => ?_
   have W : Stw ⟨Y, [], w0⟩ [(b3, [.int .i64 x9.1, .int .i64 x9.2]), (b1, [.int .i64 p0.1, v1, v2])] [row v10 86 Hr x10, row v9 86 Hr ([x9] : List (Int × Int))] w := W
   refine ls F W Aa (Af F Aa).q fun a w F W => ?_
   refine Ad (AS (Ac (Ab ?_)))
   refine ls F W Aa (BZ F Aa Aa Aa).q fun a w F W => ?_
   refine ls F W Aa (Ae F Aa).q fun a w F W => ?_
   refine Ad (Ac ?_)
   have W := W.frontM (i := 1) Aa Aa
   have W := W.sub (M' := [(b1, [.int .i64 p0.1, v1, v2])]) (Z' := [row v10 86 Hr x10]) (List.Sublist.cons_cons _ (List.nil_sublist _)) (List.Sublist.cons_cons _ (List.nil_sublist _))
   exact ⟨_, H, (v10), F.re ⟨rfl, Aa, Aa, Aa, Aa, trivial⟩, W⟩
  have H := AV (Bw hb) H
  rw [hb] at F
  clear hb
  refine Bm ?_
  iterate 2 refine BT ?_
  refine Bn (Ac ?_)
  have H := L4 _ H
  exact ⟨_, (v8), H, F.re ⟨rfl, Aa, trivial⟩, W⟩
 rintro a w ⟨x6, v7, hj, F, W⟩
 have hj := A1 hj
 subst hj
 have H := K3
 clear G3 K3
 refine Ah (Ab ?_)
 refine ls F W Aa (Ae F Aa).q fun a w F W => ?_
 refine ls F W Aa (Af F Aa).q fun a w F W => ?_
 refine Ad (Ac (AC ?_))
 have H := A1 H
 subst H
 refine A2 (.inl Aa) F W Aa (Aw F Aa) ?_
 have W := W.sub (M' := []) (Z' := [row v7 86 Hr x6]) (List.nil_sublist _) (List.Sublist.refl _)
 exact ⟨(v7), Aa, W⟩
theorem NY : type_of% Try.underlying3 := Try.underlying3
theorem QU : type_of% Try.underlying107 := Try.underlying107
theorem S0 : Has Try.prog 63 := ⟨fun args w => Aj Try.func63 rfl (by decide) args w⟩
theorem QJ : Ty Try.prog 86 true 2 := ⟨by kernel_rfl, by kernel_rfl⟩
theorem RL (dd : Nat) (x0 : Int) (x1 : Int) (y0 : Int) (y1 : Int) (w : World) : (Op.equalIn (dd + 2) 86 (.agg #[.int .i64 x0, .int .i64 x1]) (.agg #[.int .i64 y0, .int .i64 y1])).run Try.prog w = .ok (decide (x0 = y0 ∧ x1 = y1)) w :=
  Nv (d := dd + 1) (rs := [decide (x0 = y0), decide (x1 = y1)]) Lr (by kernel_rfl) ⟨rfl, MK (d := dd + 0) rfl rfl NY T3 rfl rfl, rfl, MK (d := dd + 0) rfl rfl NY T3 rfl rfl, trivial⟩ (by simp) w
theorem RZ : Try.prog.eqGuardType Try.prog.depth 86 = false := by kernel_rfl
theorem RH (x0 : Int) (x1 : Int) (y0 : Int) (y1 : Int) (w : World) : (Op.equalIn 10000 86 (.agg #[.int .i64 x0, .int .i64 x1]) (.agg #[.int .i64 y0, .int .i64 y1])).run Try.prog w = .ok (decide (x0 = y0 ∧ x1 = y1)) w := RL 9998 x0 x1 y0 y1 w
theorem Q8 : KeyEnc Try.prog 86 HJ := ⟨⟨_, Lr, .inl fun _ _ => rfl⟩, fun x y w => (RH x.1 x.2 y.1 y.2 w).trans (by congr 1; exact decide_eq_decide.2 (by simp only [Prod.ext_iff])), fun b x w => IJ (m := 9999) (cs := List.toArray [.int .i64 x.1, .int .i64 x.2]) Lr ⟨⟨_, Lg T3 rfl, FY (m := 9998) NY⟩, ⟨_, Lg T3 rfl, FY (m := 9998) NY⟩, trivial⟩ b w, fun x => by simp [Instr.sameBits]⟩
theorem Q0 : (Try.prog.info? 107).bind (·.zero) = some (.agg #[]) := by kernel_rfl
theorem RE : Ty Try.prog 107 true 0 := ⟨by kernel_rfl, by kernel_rfl⟩
theorem RS : Bt Try.prog 107 [] [] := ⟨⟨.agg #[], by kernel_rfl, rfl⟩, ⟨_, QU, fun w => by kernel_rfl⟩⟩
def Bc (p0 : Int × Int × Int × Int × Int × Int) : Bool := (decide (p0.1 = p0.2.2.1) || (decide (p0.2.2.2.2.1 < 1) || (decide (p0.2.2.2.2.2 < p0.2.2.2.2.1) || decide (1000 < p0.2.2.2.2.2))))
theorem Ib (Y : Nat → Prop) (w0 : World)  (p0 : Int × Int × Int × Int × Int × Int) (r : Bool) (H : Bc p0 = r)  :
    Calls Try.prog 65 #[.agg #[.int .i64 p0.1, .int .i64 p0.2.1, .int .i64 p0.2.2.1, .int .i64 p0.2.2.2.1, .int .i64 p0.2.2.2.2.1, .int .i64 p0.2.2.2.2.2]] w0 fun e w' => e = .returned (.bool r) ∧ Below w0.heap.size w0 w' := by
 refine enter Try.func65 Aa Try.ntmps65 Aa fun a F => ?_
 have W := Stw.start Y w0
 unfold Bc at H
 refine Ah (Ab ?_)
 refine Eo (cs := [.int .i64 p0.1, .int .i64 p0.2.1, .int .i64 p0.2.2.1, .int .i64 p0.2.2.2.1, .int .i64 p0.2.2.2.2.1, .int .i64 p0.2.2.2.2.2]) F W Aa Aa Aa fun b1 a w F W => ?_
 refine ls F W Aa (Af F Aa).q fun a w F W => ?_
 refine Ad (Ac ?_)
 refine AN (fun a w => Fr 25 [] [(2, .bool (decide (p0.1 = p0.2.2.1) || (decide (p0.2.2.2.2.1 < 1) || (decide (p0.2.2.2.2.2 < p0.2.2.2.2.1) || decide (1000 < p0.2.2.2.2.2)))))] a ∧ Stw ⟨Y, [], w0⟩ [(b1, [.int .i64 p0.1, .int .i64 p0.2.1, .int .i64 p0.2.2.1, .int .i64 p0.2.2.2.1, .int .i64 p0.2.2.2.2.1, .int .i64 p0.2.2.2.2.2])] [] w) ?_ ?_
 ·
  refine Ab ?_
  refine ls F W Aa (Ai C2 Aa Aa Aa T3 F Aa 0 Aa).q fun a w F W => ?_
  refine ls F W Aa (An (v := Value.int .i64 p0.1) 0 F Aa Aa T3 Aa).q fun a w F W => ?_
  refine ls F W Aa (Ai C2 Aa Aa Aa T3 F Aa 2 Aa).q fun a w F W => ?_
  refine ls F W Aa (An (v := Value.int .i64 p0.2.2.1) 0 F Aa Aa T3 Aa).q fun a w F W => ?_
  refine ls F W Aa (Du F Aa Aa).q fun a w F W => ?_
  refine ls F W Aa (Ae F Aa).q fun a w F W => ?_
  rcases Bool.eq_false_or_eq_true (decide (p0.1 = p0.2.2.1)) with hb0 | hb0
  ·
   rw [hb0] at F
   iterate 3 refine Cs F Aa Aa Aa Aa Aa Aa Aa fun a F => ?_
   refine ls F W Aa (Ao F Aa Aa Aa).q fun a w F W => ?_
   refine ls F W Aa (Ae F Aa).q fun a w F W => ?_
   iterate 5 refine Cs F Aa Aa Aa Aa Aa Aa Aa fun a F => ?_
   refine ls F W Aa (Ao F Aa Aa Aa).q fun a w F W => ?_
   refine ls F W Aa (Ae F Aa).q fun a w F W => ?_
   iterate 3 refine Cs F Aa Aa Aa Aa Aa Aa Aa fun a F => ?_
   refine ls F W Aa (Ao F Aa Aa Aa).q fun a w F W => ?_
   refine ls F W Aa (Af F Aa).q fun a w F W => ?_
   refine Ad (Ac ?_)
   exact ⟨F.re ⟨(by show some (Value.bool true) = some (Value.bool (decide (p0.1 = p0.2.2.1) || (decide (p0.2.2.2.2.1 < 1) || (decide (p0.2.2.2.2.2 < p0.2.2.2.2.1) || decide (1000 < p0.2.2.2.2.2))))); try rw [hb0]; all_goals simp only [Bool.not_true, Bool.not_false, Bool.true_and, Bool.false_and, Bool.true_or, Bool.false_or, Bool.and_true, Bool.or_false, cond_true, cond_false]), trivial⟩, W⟩
  rw [hb0] at F
  refine AD F W (Ag F Aa Aa Aa Aa) Aa (Ak Aa) (Ai C2 Aa Aa Aa T3 F Aa 4 Aa).q fun a w F W => ?_
  refine AD F W (Ag F Aa Aa Aa Aa) Aa (Ak Aa) (An (v := Value.int .i64 p0.2.2.2.2.1) 0 F Aa Aa T3 Aa).q fun a w F W => ?_
  refine AD F W (Ag F Aa Aa Aa Aa) Aa (Ak Aa) (Bo F Aa Aa).q fun a w F W => ?_
  refine ls F W Aa (Ap F Aa Aa Aa).q fun a w F W => ?_
  refine ls F W Aa (Ae F Aa).q fun a w F W => ?_
  rcases Bool.eq_false_or_eq_true (decide (p0.2.2.2.2.1 < 1)) with hb1 | hb1
  ·
   rw [hb1] at F
   iterate 5 refine Cs F Aa Aa Aa Aa Aa Aa Aa fun a F => ?_
   refine ls F W Aa (Ao F Aa Aa Aa).q fun a w F W => ?_
   refine ls F W Aa (Ae F Aa).q fun a w F W => ?_
   iterate 3 refine Cs F Aa Aa Aa Aa Aa Aa Aa fun a F => ?_
   refine ls F W Aa (Ao F Aa Aa Aa).q fun a w F W => ?_
   refine ls F W Aa (Af F Aa).q fun a w F W => ?_
   refine Ad (Ac ?_)
   exact ⟨F.re ⟨(by show some (Value.bool true) = some (Value.bool (decide (p0.1 = p0.2.2.1) || (decide (p0.2.2.2.2.1 < 1) || (decide (p0.2.2.2.2.2 < p0.2.2.2.2.1) || decide (1000 < p0.2.2.2.2.2))))); try rw [hb1]; try rw [hb0]; all_goals simp only [Bool.not_true, Bool.not_false, Bool.true_and, Bool.false_and, Bool.true_or, Bool.false_or, Bool.and_true, Bool.or_false, cond_true, cond_false]), trivial⟩, W⟩
  rw [hb1] at F
  refine AD F W (Ag F Aa Aa Aa Aa) Aa (Ak Aa) (Ai C2 Aa Aa Aa T3 F Aa 5 Aa).q fun a w F W => ?_
  refine AD F W (Ag F Aa Aa Aa Aa) Aa (Ak Aa) (An (v := Value.int .i64 p0.2.2.2.2.2) 0 F Aa Aa T3 Aa).q fun a w F W => ?_
  refine AD F W (Ag F Aa Aa Aa Aa) Aa (Ak Aa) (Ai C2 Aa Aa Aa T3 F Aa 4 Aa).q fun a w F W => ?_
  refine AD F W (Ag F Aa Aa Aa Aa) Aa (Ak Aa) (An (v := Value.int .i64 p0.2.2.2.2.1) 0 F Aa Aa T3 Aa).q fun a w F W => ?_
  refine AD F W (Ag F Aa Aa Aa Aa) Aa (Ak Aa) (Bo F Aa Aa).q fun a w F W => ?_
  refine ls F W Aa (Ap F Aa Aa Aa).q fun a w F W => ?_
  refine ls F W Aa (Ae F Aa).q fun a w F W => ?_
  rcases Bool.eq_false_or_eq_true (decide (p0.2.2.2.2.2 < p0.2.2.2.2.1)) with hb2 | hb2
  ·
   rw [hb2] at F
   iterate 3 refine Cs F Aa Aa Aa Aa Aa Aa Aa fun a F => ?_
   refine ls F W Aa (Ao F Aa Aa Aa).q fun a w F W => ?_
   refine ls F W Aa (Af F Aa).q fun a w F W => ?_
   refine Ad (Ac ?_)
   exact ⟨F.re ⟨(by show some (Value.bool true) = some (Value.bool (decide (p0.1 = p0.2.2.1) || (decide (p0.2.2.2.2.1 < 1) || (decide (p0.2.2.2.2.2 < p0.2.2.2.2.1) || decide (1000 < p0.2.2.2.2.2))))); try rw [hb2]; try rw [hb1]; try rw [hb0]; all_goals simp only [Bool.not_true, Bool.not_false, Bool.true_and, Bool.false_and, Bool.true_or, Bool.false_or, Bool.and_true, Bool.or_false, cond_true, cond_false]), trivial⟩, W⟩
  rw [hb2] at F
  refine AD F W (Ag F Aa Aa Aa Aa) Aa (Ak Aa) (Ai C2 Aa Aa Aa T3 F Aa 5 Aa).q fun a w F W => ?_
  refine AD F W (Ag F Aa Aa Aa Aa) Aa (Ak Aa) (An (v := Value.int .i64 p0.2.2.2.2.2) 0 F Aa Aa T3 Aa).q fun a w F W => ?_
  refine AD F W (Ag F Aa Aa Aa Aa) Aa (Ak Aa) (En F Aa Aa).q fun a w F W => ?_
  refine ls F W Aa (Ap F Aa Aa Aa).q fun a w F W => ?_
  refine ls F W Aa (Af F Aa).q fun a w F W => ?_
  refine Ad (Ac ?_)
  exact ⟨F.re ⟨(by show some (Value.bool (decide (1000 < p0.2.2.2.2.2))) = some (Value.bool (decide (p0.1 = p0.2.2.1) || (decide (p0.2.2.2.2.1 < 1) || (decide (p0.2.2.2.2.2 < p0.2.2.2.2.1) || decide (1000 < p0.2.2.2.2.2))))); try rw [hb2]; try rw [hb1]; try rw [hb0]; all_goals simp only [Bool.not_true, Bool.not_false, Bool.true_and, Bool.false_and, Bool.true_or, Bool.false_or, Bool.and_true, Bool.or_false, cond_true, cond_false]), trivial⟩, W⟩
 rintro a w ⟨F, W⟩
 refine AC ?_
 subst H
 refine A2 (.inl Aa) F W Aa (Aw F Aa) ?_
 exact ⟨rfl, W.done⟩
theorem SE : Has Try.prog 65 := ⟨fun args w => Aj Try.func65 rfl (by decide) args w⟩
noncomputable def AB (p0 : List (Int × Int × Int × Int × Int × Int)) : Int → Option (Int ⊕ (Unit ⊕ Int))
  | x1 => (if x1 < (p0.length : Int) then (ix p0 x1).bind fun x2 => (if (Bc x2) = true then some (.inr (.inr x1)) else some (.inl (BH (x1 + 1)))) else some (.inr (.inl ())))
noncomputable def A4 (p0 : List (Int × Int × Int × Int × Int × Int)) : Option Int := IW (AF (AB p0) 0) fun _ => some (-1)
theorem DG (Y : Nat → Prop) (w0 : World) (v1 : Value) (p0 : List (Int × Int × Int × Int × Int × Int)) (r : Int) (H : A4 p0 = some r) (h_v1 : Sl w0 (NX []) Fm v1 p0) :
    Calls Try.prog 83 #[v1, .func (.func 65) #[] #[]] w0 fun e w' => e = .returned (.int .i64 r) ∧ Below w0.heap.size w0 w' := by
 refine enter Try.func83 Aa Try.ntmps83 Aa fun a F => ?_
 have W := Stw.start Y w0
 unfold A4 at H
 refine Ah (Ab ?_)
 refine ls F W Aa (Af F Aa).q fun a w F W => ?_
 refine Ad (Ac ?_)
 obtain ⟨o1, G1, K1, L1⟩ := Pi H
 refine AN (fun a w => some (Sum.inl ()) = some o1 ∧ Fr 19 [] [(4, .int .i64 0)] a ∧ Stw ⟨Y, [], w0⟩ [] [] w) ?_ ?_
 ·
  have H := G1
  clear G1 K1
  refine Ah (Ab ?_)
  refine ls F W Aa (Ae F Aa).q fun a w F W => ?_
  refine ls F W Aa (BB (r := Fm) (l := p0) IR Aa F Aa (Am h_v1)).q fun a w F W => ?_
  refine ls F W Aa (Ae F Aa).q fun a w F W => ?_
  refine Ad (Ac (Ay ?_))
  refine Bi H (fun s a w => Fr 19 [] [(0, v1), (1, .func (.func 65) #[] #[]), (4, .int .i64 0), (7, .int .i64 (p0.length : Int)), (8, .int .i64 s)] a ∧ Stw ⟨Y, [], w0⟩ [] [] w) ⟨F.re ⟨rfl, Aa, Aa, Aa, Aa, trivial⟩, W⟩ fun s o a w H L2 hR => ?_
  obtain ⟨x1, rfl⟩ : ∃ x, x = s := ⟨s, rfl⟩
  obtain ⟨F, W⟩ := hR
  have F : Fr 19 [] [(0, v1), (1, .func (.func 65) #[] #[]), (4, .int .i64 0), (7, .int .i64 (p0.length : Int)), (8, .int .i64 x1)] a := F
  have W : Stw ⟨Y, [], w0⟩ [] [] w := W
  rw [AB] at H
  refine Ah (Ab ?_)
  refine ls F W Aa (Bo F Aa Aa).q fun a w F W => ?_
  refine Ad (Ac (Ah ?_))
  refine AE F Aa (fun hb => ?_) fun hb => ?_
  ·
   have H := AU (Bz hb) H
   rw [hb] at F
   clear hb
   refine Az (Ac (Ah (Ay (Ah (Ab ?_)))))
   refine ls F W Aa (Ae F Aa).q fun a w F W => ?_
   refine ls F W Aa (Af F Aa).q fun a w F W => ?_
   refine Ad (Ac (Ah (Ab ?_)))
   iterate 3 refine ls F W Aa (Ae F Aa).q fun a w F W => ?_
   obtain ⟨x2, h1, H⟩ := Al H
   refine ls F W Aa (AH (r := Fm) Qm F Aa Aa (Am h_v1) h1).q fun a w F W => ?_
   refine ls F W Aa (Ax (y := Value.agg #[.int .i64 x2.1, .int .i64 x2.2.1, .int .i64 x2.2.2.1, .int .i64 x2.2.2.2.1, .int .i64 x2.2.2.2.2.1, .int .i64 x2.2.2.2.2.2]) (j := 0) (i := x1) F Aa Aa (Am h_v1) h1 QC.to ON Aa).q fun a w F W => ?_
   refine ls F W Aa (Ku (ws := [.agg #[.int .i64 x2.1, .int .i64 x2.2.1, .int .i64 x2.2.2.1, .int .i64 x2.2.2.2.1, .int .i64 x2.2.2.2.2.1, .int .i64 x2.2.2.2.2.2]]) (v := Value.bool (Bc x2)) F SE Aa (fun w W => Ib any w x2 _ Aa)) fun a w F W => ?_
   refine Ad (Ac ?_)
   refine AE F Aa (fun hb => ?_) fun hb => ?_
   ·
    have H := AU hb H
    rw [hb] at F
    clear hb
    refine Ah (Ab ?_)
    refine ls F W Aa (Ae F Aa).q fun a w F W => ?_
    refine ls F W Aa (Af F Aa).q fun a w F W => ?_
    refine Ad (Ac (AC (A5 ?_)))
    iterate 2 refine AO ?_
    refine A5 (AO ?_)
    have H := L2 _ H
    have H := L1 _ H
    have H := A1 H
    subst H
    refine A2 (.inl Aa) F W Aa (Aw F Aa) ?_
    exact ⟨rfl, W.done⟩
   have H := AV (by rw [hb]; decide) H
   rw [hb] at F
   clear hb
   refine Az (AS (Ac (Ab ?_)))
   refine ls F W Aa (BZ F Aa Aa Aa).q fun a w F W => ?_
   refine ls F W Aa (Ae F Aa).q fun a w F W => ?_
   refine Ad (Ac ?_)
   exact ⟨_, H, F.re ⟨rfl, Aa, Aa, Aa, Aa, trivial⟩, W⟩
  have H := AV (Bw hb) H
  rw [hb] at F
  clear hb
  refine Bm ?_
  iterate 2 refine BT ?_
  refine Bn (Ac ?_)
  have H := L2 _ H
  exact ⟨H, F.re ⟨rfl, trivial⟩, W⟩
 rintro a w ⟨hj, F, W⟩
 have H := K1 _ hj
 clear hj G1 K1 L1
 refine Ah (Ab ?_)
 refine ls F W Aa (Af F Aa).q fun a w F W => ?_
 refine Ad (Ac (AC ?_))
 have H := A1 H
 subst H
 refine A2 (.inl Aa) F W Aa (Aw F Aa) ?_
 exact ⟨rfl, W.done⟩
theorem S2 : Has Try.prog 83 := ⟨fun args w => Aj Try.func83 rfl (by decide) args w⟩
noncomputable def AM (p0 : List (Int × Int × Int × Int × Int × Int)) : Option Bool := (A4 p0).bind fun x1 => some (decide (0 ≤ x1))
theorem Df (Y : Nat → Prop) (w0 : World) (v1 : Value) (p0 : List (Int × Int × Int × Int × Int × Int)) (r : Bool) (H : AM p0 = some r) (h_v1 : Sl w0 (NX []) Fm v1 p0) :
    Calls Try.prog 64 #[v1, .func (.func 65) #[] #[]] w0 fun e w' => e = .returned (.bool r) ∧ Below w0.heap.size w0 w' := by
 refine enter Try.func64 Aa Try.ntmps64 Aa fun a F => ?_
 have W := Stw.start Y w0
 unfold AM at H
 refine Ah (Ab ?_)
 refine ls F W Aa (Af F Aa).q fun a w F W => ?_
 refine Ad (Ac (Ah (Ab ?_)))
 iterate 2 refine ls F W Aa (Ae F Aa).q fun a w F W => ?_
 obtain ⟨x1, h1, H⟩ := Al H
 refine ls F W Aa (AZ (v := Value.int .i64 x1) F S2 Aa (fun w W => DG any w (v1) p0 _ h1 (((Am h_v1) : Ee _ _ _ _ _ _) w W).nx)) fun a w F W => ?_
 refine ls F W Aa (E0 F Aa Aa).q fun a w F W => ?_
 refine ls F W Aa (Af F Aa).q fun a w F W => ?_
 refine Ad (Ac (AC ?_))
 have H := A1 H
 subst H
 refine A2 (.inl Aa) F W Aa (Aw F Aa) ?_
 exact ⟨rfl, W.done⟩
theorem P6 : type_of% Try.underlying104 := Try.underlying104
theorem SK : Has Try.prog 64 := ⟨fun args w => Aj Try.func64 rfl (by decide) args w⟩
noncomputable def BM (p0 : Int × (List (Int × Int × Int × Int × Int × Int)) × (List (Int × Int))) (x2 : (List (Int × Int))) : (Int × (List ((Int × Int) × Unit))) → Option ((Int × (List ((Int × Int) × Unit))) ⊕ ((List ((Int × Int) × Unit)) ⊕ Bool))
  | (x3, x4) => (if x3 < (x2.length : Int) then (ix x2 x3).bind fun x5 => (if (decide (x5.1 < 0) || (decide (p0.1 ≤ x5.1) || (decide (x5.2 < 0) || decide (8 ≤ x5.2)))) = true then some (.inr (.inr false)) else (if ((Ie x4 x5).isSome) = true then some (.inr (.inr false)) else some (.inl (BH (x3 + 1), Ia x4 x5 ())))) else some (.inr (.inl x4)))
noncomputable def DY (p0 : Int × (List (Int × Int × Int × Int × Int × Int)) × (List (Int × Int))) : Option Bool := (if (decide (p0.1 < 1) || (decide (8 < p0.1) || (decide (24 < (p0.2.1.length : Int)) || decide (8 < (p0.2.2.length : Int))))) = true then some false else IW ((Ds p0).bind fun x2 => AF (BM p0 x2) (0, ([] : List ((Int × Int) × Unit)))) fun x1 => (AM p0.2.1).bind fun x6 => some (!x6))
theorem KO (Y : Nat → Prop) (w0 : World) (v1 : Value) (v2 : Value) (p0 : Int × (List (Int × Int × Int × Int × Int × Int)) × (List (Int × Int))) (r : Bool) (H : DY p0 = some r) (h_v1 : Sl w0 (NX []) Fm v1 p0.2.1) (h_v2 : Sl w0 (NX []) Fo v2 p0.2.2) :
    Calls Try.prog 49 #[.agg #[.int .i64 p0.1, v1, v2]] w0 fun e w' => e = .returned (.bool r) ∧ Below w0.heap.size w0 w' := by
 refine enter Try.func49 Aa Try.ntmps49 Aa fun a F => ?_
 have W := Stw.start Y w0
 unfold DY at H
 refine Ah (Ab ?_)
 refine Eo (cs := [.int .i64 p0.1, v1, v2]) F W Aa Aa Aa fun b1 a w F W => ?_
 refine ls F W Aa (Af F Aa).q fun a w F W => ?_
 refine Ad (Ac (Ah ?_))
 refine AN (fun a w => Fr 71 [] [(1, .pointer (some ⟨b1, 0, none⟩)), (2, .bool false), (27, .bool (decide (p0.1 < 1) || (decide (8 < p0.1) || (decide (24 < (p0.2.1.length : Int)) || decide (8 < (p0.2.2.length : Int))))))] a ∧ Stw ⟨Y, [], w0⟩ [(b1, [.int .i64 p0.1, v1, v2])] [] w) ?_ ?_
 ·
  refine Ab ?_
  refine ls F W Aa (Ai Ct Aa Aa Aa T3 F Aa 0 Aa).q fun a w F W => ?_
  refine ls F W Aa (An (v := Value.int .i64 p0.1) 0 F Aa Aa T3 Aa).q fun a w F W => ?_
  refine ls F W Aa (Bo F Aa Aa).q fun a w F W => ?_
  refine ls F W Aa (Ae F Aa).q fun a w F W => ?_
  rcases Bool.eq_false_or_eq_true (decide (p0.1 < 1)) with hb0 | hb0
  ·
   rw [hb0] at F
   iterate 3 refine Cs F Aa Aa Aa Aa Aa Aa Aa fun a F => ?_
   refine ls F W Aa (Ao F Aa Aa Aa).q fun a w F W => ?_
   refine ls F W Aa (Ae F Aa).q fun a w F W => ?_
   iterate 4 refine Cs F Aa Aa Aa Aa Aa Aa Aa fun a F => ?_
   refine ls F W Aa (Ao F Aa Aa Aa).q fun a w F W => ?_
   refine ls F W Aa (Ae F Aa).q fun a w F W => ?_
   iterate 4 refine Cs F Aa Aa Aa Aa Aa Aa Aa fun a F => ?_
   refine ls F W Aa (Ao F Aa Aa Aa).q fun a w F W => ?_
   refine Ad (Ac ?_)
   exact ⟨F.re ⟨rfl, Aa, (by show some (Value.bool true) = some (Value.bool (decide (p0.1 < 1) || (decide (8 < p0.1) || (decide (24 < (p0.2.1.length : Int)) || decide (8 < (p0.2.2.length : Int)))))); try rw [hb0]; all_goals simp only [Bool.not_true, Bool.not_false, Bool.true_and, Bool.false_and, Bool.true_or, Bool.false_or, Bool.and_true, Bool.or_false, cond_true, cond_false]), trivial⟩, W⟩
  rw [hb0] at F
  refine AD F W (Ag F Aa Aa Aa Aa) Aa (Ak Aa) (Ai Ct Aa Aa Aa T3 F Aa 0 Aa).q fun a w F W => ?_
  refine AD F W (Ag F Aa Aa Aa Aa) Aa (Ak Aa) (An (v := Value.int .i64 p0.1) 0 F Aa Aa T3 Aa).q fun a w F W => ?_
  refine AD F W (Ag F Aa Aa Aa Aa) Aa (Ak Aa) (En F Aa Aa).q fun a w F W => ?_
  refine ls F W Aa (Ap F Aa Aa Aa).q fun a w F W => ?_
  refine ls F W Aa (Ae F Aa).q fun a w F W => ?_
  rcases Bool.eq_false_or_eq_true (decide (8 < p0.1)) with hb1 | hb1
  ·
   rw [hb1] at F
   iterate 4 refine Cs F Aa Aa Aa Aa Aa Aa Aa fun a F => ?_
   refine ls F W Aa (Ao F Aa Aa Aa).q fun a w F W => ?_
   refine ls F W Aa (Ae F Aa).q fun a w F W => ?_
   iterate 4 refine Cs F Aa Aa Aa Aa Aa Aa Aa fun a F => ?_
   refine ls F W Aa (Ao F Aa Aa Aa).q fun a w F W => ?_
   refine Ad (Ac ?_)
   exact ⟨F.re ⟨rfl, Aa, (by show some (Value.bool true) = some (Value.bool (decide (p0.1 < 1) || (decide (8 < p0.1) || (decide (24 < (p0.2.1.length : Int)) || decide (8 < (p0.2.2.length : Int)))))); try rw [hb0]; try rw [hb1]; all_goals simp only [Bool.not_true, Bool.not_false, Bool.true_and, Bool.false_and, Bool.true_or, Bool.false_or, Bool.and_true, Bool.or_false, cond_true, cond_false]), trivial⟩, W⟩
  rw [hb1] at F
  refine AD F W (Ag F Aa Aa Aa Aa) Aa (Ak Aa) (Ai Ct Aa Aa Aa IC F Aa 1 Aa).q fun a w F W => ?_
  refine AD F W (Ag F Aa Aa Aa Aa) Aa (Ak Aa) (An (v := v1) 0 F Aa Aa IC Aa).q fun a w F W => ?_
  refine AD F W (Ag F Aa Aa Aa Aa) Aa (Ak Aa) (BB (r := Fm) (l := p0.2.1) IR Aa F Aa (Am h_v1)).q fun a w F W => ?_
  refine AD F W (Ag F Aa Aa Aa Aa) Aa (Ak Aa) (En F Aa Aa).q fun a w F W => ?_
  refine ls F W Aa (Ap F Aa Aa Aa).q fun a w F W => ?_
  refine ls F W Aa (Ae F Aa).q fun a w F W => ?_
  rcases Bool.eq_false_or_eq_true (decide (24 < (p0.2.1.length : Int))) with hb2 | hb2
  ·
   rw [hb2] at F
   iterate 4 refine Cs F Aa Aa Aa Aa Aa Aa Aa fun a F => ?_
   refine ls F W Aa (Ao F Aa Aa Aa).q fun a w F W => ?_
   refine Ad (Ac ?_)
   exact ⟨F.re ⟨rfl, Aa, (by show some (Value.bool true) = some (Value.bool (decide (p0.1 < 1) || (decide (8 < p0.1) || (decide (24 < (p0.2.1.length : Int)) || decide (8 < (p0.2.2.length : Int)))))); try rw [hb2]; try rw [hb0]; try rw [hb1]; all_goals simp only [Bool.not_true, Bool.not_false, Bool.true_and, Bool.false_and, Bool.true_or, Bool.false_or, Bool.and_true, Bool.or_false, cond_true, cond_false]), trivial⟩, W⟩
  rw [hb2] at F
  refine AD F W (Ag F Aa Aa Aa Aa) Aa (Ak Aa) (Ai Ct Aa Aa Aa GS F Aa 2 Aa).q fun a w F W => ?_
  refine AD F W (Ag F Aa Aa Aa Aa) Aa (Ak Aa) (An (v := v2) 0 F Aa Aa GS Aa).q fun a w F W => ?_
  refine AD F W (Ag F Aa Aa Aa Aa) Aa (Ak Aa) (BB (r := Fo) (l := p0.2.2) JQ Aa F Aa (Am h_v2)).q fun a w F W => ?_
  refine AD F W (Ag F Aa Aa Aa Aa) Aa (Ak Aa) (En F Aa Aa).q fun a w F W => ?_
  refine ls F W Aa (Ap F Aa Aa Aa).q fun a w F W => ?_
  refine Ad (Ac ?_)
  exact ⟨F.re ⟨rfl, Aa, (by show some (Value.bool (decide (8 < (p0.2.2.length : Int)))) = some (Value.bool (decide (p0.1 < 1) || (decide (8 < p0.1) || (decide (24 < (p0.2.1.length : Int)) || decide (8 < (p0.2.2.length : Int)))))); try rw [hb2]; try rw [hb0]; try rw [hb1]; all_goals simp only [Bool.not_true, Bool.not_false, Bool.true_and, Bool.false_and, Bool.true_or, Bool.false_or, Bool.and_true, Bool.or_false, cond_true, cond_false]), trivial⟩, W⟩
 rintro a w ⟨F, W⟩
 refine AE F Aa (fun hb => ?_) fun hb => ?_
 ·
  have H := AU hb H
  rw [hb] at F
  clear hb
  refine Ah (Ab ?_)
  refine ls F W Aa (Af F Aa).q fun a w F W => ?_
  refine Ad (Ac (AC (AO ?_)))
  have H := A1 H
  subst H
  refine A2 (.inl Aa) F W Aa (Aw F Aa) ?_
  exact ⟨rfl, W.done⟩
 have H := AV (by rw [hb]; decide) H
 rw [hb] at F
 clear hb
 refine Az (Ac (Ah (Ab ?_)))
 refine ND HJ FU F W Aa fun b2 a w F W => ?_
 have W : Stw ⟨Y, [], w0⟩ [(b1, [.int .i64 p0.1, v1, v2])] [mp b2 HJ FU ([] : List ((Int × Int) × Unit))] w := W
 refine ls F W Aa (Af F Aa).q fun a w F W => ?_
 refine Ad (Ac ?_)
 obtain ⟨o1, G1, K1, L1⟩ := Pi H
 refine AN (fun a w => ∃ x1 : List ((Int × Int) × Unit), some (Sum.inl x1) = some o1 ∧ Fr 71 [] [(1, .pointer (some ⟨b1, 0, none⟩)), (2, .bool false)] a ∧ Stw ⟨Y, [], w0⟩ [(b1, [.int .i64 p0.1, v1, v2])] [mp b2 HJ FU x1] w) ?_ ?_
 ·
  have H := G1
  clear G1 K1
  refine Ah (Ab ?_)
  refine ls F W Aa (An (v := Value.agg #[.int .i64 p0.1, v1, v2]) 0 F Aa Aa Jj Aa).q fun a w F W => ?_
  obtain ⟨x2, h1, H⟩ := Al H
  refine BS (Ml := []) (Zl := []) (M := [(b1, [.int .i64 p0.1, v1, v2])]) (Z := [mp b2 HJ FU ([] : List ((Int × Int) × Unit))]) (β := Value) (rv := fun x => x) (MM := fun x => []) (ZZ := fun x => [row x 86 Hr x2]) F W S0 Aa Aa (fun hL => JP _ w (v1) (v2) p0 _ h1 ((Am h_v1) w W).nx ((Am h_v2) w W).nx) fun x a w F W => ?_
  obtain ⟨v3, rfl⟩ : ∃ y, y = x := ⟨x, rfl⟩
  have W : Stw ⟨Y, [], w0⟩ [(b1, [.int .i64 p0.1, v1, v2])] [row v3 86 Hr x2, mp b2 HJ FU ([] : List ((Int × Int) × Unit))] w := W
  refine ls F W Aa (BB (r := Hr) (l := x2) Qa Aa F Aa (Au 0 Aa)).q fun a w F W => ?_
  refine ls F W Aa (Ae F Aa).q fun a w F W => ?_
  refine Ad (Ac (Ay ?_))
  have W := W.frontZ (i := 1) Aa Aa
  have W := W.frontZ (i := 1) Aa Aa
  refine Bi H (fun s a w => Fr 71 [] [(1, .pointer (some ⟨b1, 0, none⟩)), (2, .bool false), (3, .map (some b2)), (30, v3), (31, .int .i64 (x2.length : Int)), (32, .int .i64 s.1)] a ∧ Stw ⟨Y, [], w0⟩ [(b1, [.int .i64 p0.1, v1, v2])] [row v3 86 Hr x2, mp b2 HJ FU s.2] w) ⟨F.re ⟨rfl, Aa, Aa, Aa, Aa, Aa, trivial⟩, W⟩ fun s o a w H L2 hR => ?_
  obtain ⟨x3, x4⟩ := s
  obtain ⟨F, W⟩ := hR
  have F : Fr 71 [] [(1, .pointer (some ⟨b1, 0, none⟩)), (2, .bool false), (3, .map (some b2)), (30, v3), (31, .int .i64 (x2.length : Int)), (32, .int .i64 x3)] a := F
  have W : Stw ⟨Y, [], w0⟩ [(b1, [.int .i64 p0.1, v1, v2])] [row v3 86 Hr x2, mp b2 HJ FU x4] w := W
  rw [BM] at H
  refine Ah (Ab ?_)
  refine ls F W Aa (Bo F Aa Aa).q fun a w F W => ?_
  refine Ad (Ac (Ah ?_))
  refine AE F Aa (fun hb => ?_) fun hb => ?_
  ·
   have H := AU (Bz hb) H
   rw [hb] at F
   clear hb
   refine Az (Ac (Ah (Ay (Ah (Ab ?_)))))
   obtain ⟨x5, h2, H⟩ := Al H
   refine ls F W Aa (AH (r := Hr) OG F Aa Aa (Au 0 Aa) h2).q fun a w F W => ?_
   refine ls F W Aa (Ax (y := Value.agg #[.int .i64 x5.1, .int .i64 x5.2]) (j := 0) (i := x3) F Aa Aa (Au 0 Aa) h2 RG.to QJ Aa).q fun a w F W => ?_
   refine Ck (cs := [.int .i64 0, .int .i64 0]) F W Aa Rm Aa fun b3 a w F W => ?_
   refine Cw (vs := [.int .i64 x5.1, .int .i64 x5.2]) (M' := [(b3, [.int .i64 x5.1, .int .i64 x5.2]), (b1, [.int .i64 p0.1, v1, v2])]) 0 F W Aa Aa Aa QJ Aa Aa Aa Aa Aa fun w W => ?_
   refine Ad (Ac (Ah ?_))
   refine AN (fun a w => Fr 71 [] [(1, .pointer (some ⟨b1, 0, none⟩)), (2, .bool false), (3, .map (some b2)), (5, .pointer (some ⟨b3, 0, none⟩)), (30, v3), (31, .int .i64 (x2.length : Int)), (32, .int .i64 x3), (55, .bool (decide (x5.1 < 0) || (decide (p0.1 ≤ x5.1) || (decide (x5.2 < 0) || decide (8 ≤ x5.2)))))] a ∧ Stw ⟨Y, [], w0⟩ [(b3, [.int .i64 x5.1, .int .i64 x5.2]), (b1, [.int .i64 p0.1, v1, v2])] [row v3 86 Hr x2, mp b2 HJ FU x4] w) ?_ ?_
   ·
    refine Ab ?_
    refine ls F W Aa (Ai Lr Aa Aa Aa T3 F Aa 0 Aa).q fun a w F W => ?_
    refine ls F W Aa (An (v := Value.int .i64 x5.1) 0 F Aa Aa T3 Aa).q fun a w F W => ?_
    refine ls F W Aa (Bo F Aa Aa).q fun a w F W => ?_
    refine ls F W Aa (Ae F Aa).q fun a w F W => ?_
    rcases Bool.eq_false_or_eq_true (decide (x5.1 < 0)) with hb0 | hb0
    ·
     rw [hb0] at F
     iterate 5 refine Cs F Aa Aa Aa Aa Aa Aa Aa fun a F => ?_
     refine ls F W Aa (Ao F Aa Aa Aa).q fun a w F W => ?_
     refine ls F W Aa (Ae F Aa).q fun a w F W => ?_
     iterate 3 refine Cs F Aa Aa Aa Aa Aa Aa Aa fun a F => ?_
     refine ls F W Aa (Ao F Aa Aa Aa).q fun a w F W => ?_
     refine ls F W Aa (Ae F Aa).q fun a w F W => ?_
     iterate 3 refine Cs F Aa Aa Aa Aa Aa Aa Aa fun a F => ?_
     refine ls F W Aa (Ao F Aa Aa Aa).q fun a w F W => ?_
     refine Ad (Ac ?_)
     exact ⟨F.re ⟨rfl, Aa, Aa, Aa, Aa, Aa, Aa, (by show some (Value.bool true) = some (Value.bool (decide (x5.1 < 0) || (decide (p0.1 ≤ x5.1) || (decide (x5.2 < 0) || decide (8 ≤ x5.2))))); try rw [hb0]; all_goals simp only [Bool.not_true, Bool.not_false, Bool.true_and, Bool.false_and, Bool.true_or, Bool.false_or, Bool.and_true, Bool.or_false, cond_true, cond_false]), trivial⟩, W⟩
    rw [hb0] at F
    refine AD F W (Ag F Aa Aa Aa Aa) Aa (Ak Aa) (Ai Lr Aa Aa Aa T3 F Aa 0 Aa).q fun a w F W => ?_
    refine AD F W (Ag F Aa Aa Aa Aa) Aa (Ak Aa) (An (v := Value.int .i64 x5.1) 0 F Aa Aa T3 Aa).q fun a w F W => ?_
    refine AD F W (Ag F Aa Aa Aa Aa) Aa (Ak Aa) (Ai Ct Aa Aa Aa T3 F Aa 0 Aa).q fun a w F W => ?_
    refine AD F W (Ag F Aa Aa Aa Aa) Aa (Ak Aa) (An (v := Value.int .i64 p0.1) 1 F Aa Aa T3 Aa).q fun a w F W => ?_
    refine AD F W (Ag F Aa Aa Aa Aa) Aa (Ak Aa) (E0 F Aa Aa).q fun a w F W => ?_
    refine ls F W Aa (Ap F Aa Aa Aa).q fun a w F W => ?_
    refine ls F W Aa (Ae F Aa).q fun a w F W => ?_
    rcases Bool.eq_false_or_eq_true (decide (p0.1 ≤ x5.1)) with hb1 | hb1
    ·
     rw [hb1] at F
     iterate 3 refine Cs F Aa Aa Aa Aa Aa Aa Aa fun a F => ?_
     refine ls F W Aa (Ao F Aa Aa Aa).q fun a w F W => ?_
     refine ls F W Aa (Ae F Aa).q fun a w F W => ?_
     iterate 3 refine Cs F Aa Aa Aa Aa Aa Aa Aa fun a F => ?_
     refine ls F W Aa (Ao F Aa Aa Aa).q fun a w F W => ?_
     refine Ad (Ac ?_)
     exact ⟨F.re ⟨rfl, Aa, Aa, Aa, Aa, Aa, Aa, (by show some (Value.bool true) = some (Value.bool (decide (x5.1 < 0) || (decide (p0.1 ≤ x5.1) || (decide (x5.2 < 0) || decide (8 ≤ x5.2))))); try rw [hb1]; try rw [hb0]; all_goals simp only [Bool.not_true, Bool.not_false, Bool.true_and, Bool.false_and, Bool.true_or, Bool.false_or, Bool.and_true, Bool.or_false, cond_true, cond_false]), trivial⟩, W⟩
    rw [hb1] at F
    refine AD F W (Ag F Aa Aa Aa Aa) Aa (Ak Aa) (Ai Lr Aa Aa Aa T3 F Aa 1 Aa).q fun a w F W => ?_
    refine AD F W (Ag F Aa Aa Aa Aa) Aa (Ak Aa) (An (v := Value.int .i64 x5.2) 0 F Aa Aa T3 Aa).q fun a w F W => ?_
    refine AD F W (Ag F Aa Aa Aa Aa) Aa (Ak Aa) (Bo F Aa Aa).q fun a w F W => ?_
    refine ls F W Aa (Ap F Aa Aa Aa).q fun a w F W => ?_
    refine ls F W Aa (Ae F Aa).q fun a w F W => ?_
    rcases Bool.eq_false_or_eq_true (decide (x5.2 < 0)) with hb2 | hb2
    ·
     rw [hb2] at F
     iterate 3 refine Cs F Aa Aa Aa Aa Aa Aa Aa fun a F => ?_
     refine ls F W Aa (Ao F Aa Aa Aa).q fun a w F W => ?_
     refine Ad (Ac ?_)
     exact ⟨F.re ⟨rfl, Aa, Aa, Aa, Aa, Aa, Aa, (by show some (Value.bool true) = some (Value.bool (decide (x5.1 < 0) || (decide (p0.1 ≤ x5.1) || (decide (x5.2 < 0) || decide (8 ≤ x5.2))))); try rw [hb1]; try rw [hb0]; try rw [hb2]; all_goals simp only [Bool.not_true, Bool.not_false, Bool.true_and, Bool.false_and, Bool.true_or, Bool.false_or, Bool.and_true, Bool.or_false, cond_true, cond_false]), trivial⟩, W⟩
    rw [hb2] at F
    refine AD F W (Ag F Aa Aa Aa Aa) Aa (Ak Aa) (Ai Lr Aa Aa Aa T3 F Aa 1 Aa).q fun a w F W => ?_
    refine AD F W (Ag F Aa Aa Aa Aa) Aa (Ak Aa) (An (v := Value.int .i64 x5.2) 0 F Aa Aa T3 Aa).q fun a w F W => ?_
    refine AD F W (Ag F Aa Aa Aa Aa) Aa (Ak Aa) (E0 F Aa Aa).q fun a w F W => ?_
    refine ls F W Aa (Ap F Aa Aa Aa).q fun a w F W => ?_
    refine Ad (Ac ?_)
    exact ⟨F.re ⟨rfl, Aa, Aa, Aa, Aa, Aa, Aa, (by show some (Value.bool (decide (8 ≤ x5.2))) = some (Value.bool (decide (x5.1 < 0) || (decide (p0.1 ≤ x5.1) || (decide (x5.2 < 0) || decide (8 ≤ x5.2))))); try rw [hb1]; try rw [hb0]; try rw [hb2]; all_goals simp only [Bool.not_true, Bool.not_false, Bool.true_and, Bool.false_and, Bool.true_or, Bool.false_or, Bool.and_true, Bool.or_false, cond_true, cond_false]), trivial⟩, W⟩
   rintro a w ⟨F, W⟩
   refine AE F Aa (fun hb => ?_) fun hb => ?_
   ·
    have H := AU hb H
    rw [hb] at F
    clear hb
    refine Ah (Ab ?_)
    refine ls F W Aa (Af F Aa).q fun a w F W => ?_
    refine Ad (Ac (AC (AO (A5 ?_))))
    iterate 2 refine AO ?_
    refine A5 (AO ?_)
    have H := L2 _ H
    have H := L1 _ H
    have H := A1 H
    subst H
    refine A2 (.inl Aa) F W Aa (Aw F Aa) ?_
    exact ⟨rfl, W.done⟩
   have H := AV (by rw [hb]; decide) H
   rw [hb] at F
   clear hb
   refine Az (Ac (Ah (Ah (Ab ?_))))
   refine ls F W Aa (Ae F Aa).q fun a w F W => ?_
   refine ls F W Aa (An (v := Value.agg #[.int .i64 x5.1, .int .i64 x5.2]) 0 F Aa Aa QJ Aa).q fun a w F W => ?_
   refine ls F W Aa (NI (zv := (() : Unit)) (kx := (x5 : Int × Int)) (q := 1) (E := HJ) (V := FU) F Aa Aa Aa Q8 P6 Q0).q fun a w F W => ?_
   refine ls F W Aa (Ae F Aa).q fun a w F W => ?_
   refine ls F W Aa (BJ (v := Value.agg #[]) F Aa Aa).q fun a w F W => ?_
   refine ls F W Aa (BJ (v := Value.bool ((Ie x4 x5).isSome)) F Aa Aa).q fun a w F W => ?_
   refine Ck (cs := []) F W Aa Q0 Aa fun b4 a w F W => ?_
   refine Cw (vs := []) (M' := [(b4, []), (b3, [.int .i64 x5.1, .int .i64 x5.2]), (b1, [.int .i64 p0.1, v1, v2])]) 0 F W Aa Aa Aa RE Aa Aa Aa Aa Aa fun w W => ?_
   refine ls F W Aa (Af F Aa).q fun a w F W => ?_
   refine Ad (Ac (Ah (Ab ?_)))
   refine ls F W Aa (Ae F Aa).q fun a w F W => ?_
   refine Ad (Ac ?_)
   refine AE F Aa (fun hb => ?_) fun hb => ?_
   ·
    have H := AU hb H
    rw [hb] at F
    clear hb
    refine Ah (Ab ?_)
    refine ls F W Aa (Af F Aa).q fun a w F W => ?_
    refine Ad (Ac (AC (AO (A5 ?_))))
    iterate 2 refine AO ?_
    refine A5 (AO ?_)
    have H := L2 _ H
    have H := L1 _ H
    have H := A1 H
    subst H
    refine A2 (.inl Aa) F W Aa (Aw F Aa) ?_
    exact ⟨rfl, W.done⟩
   have H := AV (by rw [hb]; decide) H
   rw [hb] at F
   clear hb
   refine Az (Ac (Ab ?_))
   refine ls F W Aa (Ae F Aa).q fun a w F W => ?_
   refine ls F W Aa (An (v := Value.agg #[.int .i64 x5.1, .int .i64 x5.2]) 1 F Aa Aa QJ Aa).q fun a w F W => ?_
   refine ls F W Aa (Dd (v := Value.agg #[]) RS F Aa Aa Aa).q fun a w F W => ?_
   refine Pj (q := 1) (kx := (x5 : Int × Int)) (vx := (() : Unit)) (E := HJ) (V := FU) F W Aa Aa Aa Aa Aa Q8 P6 fun w W => ?_
   have W : Stw ⟨Y, [], w0⟩ [(b4, []), (b3, [.int .i64 x5.1, .int .i64 x5.2]), (b1, [.int .i64 p0.1, v1, v2])] [mp b2 HJ FU (Ia x4 x5 ()), row v3 86 Hr x2] w := W
   refine Ad (AS (Ac (Ab ?_)))
   refine ls F W Aa (BZ F Aa Aa Aa).q fun a w F W => ?_
   refine ls F W Aa (Ae F Aa).q fun a w F W => ?_
   refine Ad (Ac ?_)
   have W := W.frontZ (i := 1) Aa Aa
   have W := W.frontM (i := 2) Aa Aa
   have W := W.sub (M' := [(b1, [.int .i64 p0.1, v1, v2])]) (Z' := [row v3 86 Hr x2, mp b2 HJ FU (Ia x4 x5 ())]) (List.Sublist.cons_cons _ (List.nil_sublist _)) (List.Sublist.refl _)
   exact ⟨_, H, F.re ⟨rfl, Aa, Aa, Aa, Aa, Aa, trivial⟩, W⟩
  have H := AV (Bw hb) H
  rw [hb] at F
  clear hb
  refine Bm ?_
  iterate 2 refine BT ?_
  refine Bn (Ac ?_)
  have W := W.frontZ (i := 1) Aa Aa
  have W := W.sub (M' := [(b1, [.int .i64 p0.1, v1, v2])]) (Z' := [mp b2 HJ FU x4]) (List.Sublist.refl _) (List.Sublist.cons_cons _ (List.nil_sublist _))
  have H := L2 _ H
  exact ⟨_, H, F.re ⟨rfl, Aa, trivial⟩, W⟩
 rintro a w ⟨x1, hj, F, W⟩
 have H := K1 _ hj
 clear hj G1 K1 L1
 refine Ah (Ab ?_)
 refine ls F W Aa (Ai Ct Aa Aa Aa IC F Aa 1 Aa).q fun a w F W => ?_
 refine ls F W Aa (An (v := v1) 0 F Aa Aa IC Aa).q fun a w F W => ?_
 obtain ⟨x6, h3, H⟩ := Al H
 refine ls F W Aa (AZ (v := Value.bool x6) F SK Aa (fun w W => Df any w (v1) p0.2.1 _ h3 (((Am h_v1) : Ee _ _ _ _ _ _) w W).nx)) fun a w F W => ?_
 refine ls F W Aa (Fa F Aa).q fun a w F W => ?_
 refine ls F W Aa (Af F Aa).q fun a w F W => ?_
 refine Ad (Ac (AC ?_))
 have H := A1 H
 subst H
 refine A2 (.inl Aa) F W Aa (Aw F Aa) ?_
 exact ⟨rfl, W.done⟩
theorem St : Has Try.prog 49 := ⟨fun args w => Aj Try.func49 rfl (by decide) args w⟩
theorem JB : Ty Try.prog 56 false 1 := ⟨by kernel_rfl, by kernel_rfl⟩
def CG (p0 : Nat) : Bool := (N8 p0 0 || LM p0 0)
theorem Ky (Y : Nat → Prop) (w0 : World)  (p0 : Nat) (r : Bool) (H : CG p0 = r)  :
    Calls Try.prog 66 #[.float .f64 p0] w0 fun e w' => e = .returned (.bool r) ∧ Below w0.heap.size w0 w' := by
 refine enter Try.func66 Aa Try.ntmps66 Aa fun a F => ?_
 have W := Stw.start Y w0
 unfold CG at H
 refine Ah (Ab ?_)
 refine ls F W Aa (Af F Aa).q fun a w F W => ?_
 refine Ad (Ac (Ah (Ab ?_)))
 refine ls F W Aa (Ae F Aa).q fun a w F W => ?_
 refine ls F W Aa (QA F Aa Aa).q fun a w F W => ?_
 refine ls F W Aa (Af F Aa).q fun a w F W => ?_
 refine Ad (Ac (AC ?_))
 subst H
 refine A2 (.inl Aa) F W Aa (Aw F Aa) ?_
 exact ⟨rfl, W.done⟩
theorem SH : Has Try.prog 66 := ⟨fun args w => Aj Try.func66 rfl (by decide) args w⟩
noncomputable def Cv (p0 : List Nat) : Int → Option (Int ⊕ (Unit ⊕ Bool))
  | x1 => (if x1 < (p0.length : Int) then (ix p0 x1).bind fun x2 => (if (!(CG x2)) = true then some (.inr (.inr false)) else some (.inl (BH (x1 + 1)))) else some (.inr (.inl ())))
noncomputable def Do (p0 : List Nat) (p1 : Int) : Option Bool := (if (p0.length : Int) ≠ p1 then some false else IW (AF (Cv p0) 0) fun _ => some true)
theorem JI (Y : Nat → Prop) (w0 : World) (v1 : Value) (p0 : List Nat) (p1 : Int) (r : Bool) (H : Do p0 p1 = some r) (h_v1 : Sl w0 (NX []) (Rp.flt .f64) v1 p0) :
    Calls Try.prog 50 #[v1, .int .i64 p1] w0 fun e w' => e = .returned (.bool r) ∧ Below w0.heap.size w0 w' := by
 refine enter Try.func50 Aa Try.ntmps50 Aa fun a F => ?_
 have W := Stw.start Y w0
 unfold Do at H
 refine Ah (Ab ?_)
 refine ls F W Aa (Af F Aa).q fun a w F W => ?_
 refine Ad (Ac (Ah (Ah (Ab ?_))))
 refine ls F W Aa (Ae F Aa).q fun a w F W => ?_
 refine ls F W Aa (BB (r := (Rp.flt .f64)) (l := p0) KJ Aa F Aa (Am h_v1)).q fun a w F W => ?_
 refine ls F W Aa (Ae F Aa).q fun a w F W => ?_
 refine ls F W Aa (Ja F Aa Aa).q fun a w F W => ?_
 refine Ad (Ac ?_)
 refine AE F Aa (fun hb => ?_) fun hb => ?_
 ·
  have H := AU (Bz hb) H
  rw [hb] at F
  clear hb
  refine Ah (Ab ?_)
  refine ls F W Aa (Af F Aa).q fun a w F W => ?_
  refine Ad (Ac (AC (AO ?_)))
  have H := A1 H
  subst H
  refine A2 (.inl Aa) F W Aa (Aw F Aa) ?_
  exact ⟨rfl, W.done⟩
 have H := AV (Bw hb) H
 rw [hb] at F
 clear hb
 refine Az (Ac ?_)
 obtain ⟨o1, G1, K1, L1⟩ := Pi H
 refine AN (fun a w => some (Sum.inl ()) = some o1 ∧ Fr 21 [] [(4, .bool false)] a ∧ Stw ⟨Y, [], w0⟩ [] [] w) ?_ ?_
 ·
  have H := G1
  clear G1 K1
  refine Ah (Ab ?_)
  refine ls F W Aa (Ae F Aa).q fun a w F W => ?_
  refine ls F W Aa (BB (r := (Rp.flt .f64)) (l := p0) KJ Aa F Aa (Am h_v1)).q fun a w F W => ?_
  refine ls F W Aa (Ae F Aa).q fun a w F W => ?_
  refine Ad (Ac (Ay ?_))
  refine Bi H (fun s a w => Fr 21 [] [(4, .bool false), (11, v1), (12, .int .i64 (p0.length : Int)), (13, .int .i64 s)] a ∧ Stw ⟨Y, [], w0⟩ [] [] w) ⟨F.re ⟨rfl, Aa, Aa, Aa, trivial⟩, W⟩ fun s o a w H L2 hR => ?_
  obtain ⟨x1, rfl⟩ : ∃ x, x = s := ⟨s, rfl⟩
  obtain ⟨F, W⟩ := hR
  have F : Fr 21 [] [(4, .bool false), (11, v1), (12, .int .i64 (p0.length : Int)), (13, .int .i64 x1)] a := F
  have W : Stw ⟨Y, [], w0⟩ [] [] w := W
  rw [Cv] at H
  refine Ah (Ab ?_)
  refine ls F W Aa (Bo F Aa Aa).q fun a w F W => ?_
  refine Ad (Ac (Ah ?_))
  refine AE F Aa (fun hb => ?_) fun hb => ?_
  ·
   have H := AU (Bz hb) H
   rw [hb] at F
   clear hb
   refine Az (Ac (Ah (Ay (Ah (Ab ?_)))))
   obtain ⟨x2, h1, H⟩ := Al H
   refine ls F W Aa (AH (r := (Rp.flt .f64)) Iy F Aa Aa (Am h_v1) h1).q fun a w F W => ?_
   refine ls F W Aa (Ax (y := Value.float .f64 x2) (j := 0) (i := x1) F Aa Aa (Am h_v1) h1 Fl.flt.to JB Aa).q fun a w F W => ?_
   refine ls F W Aa (Af F Aa).q fun a w F W => ?_
   refine Ad (Ac (Ah (Ab ?_)))
   refine ls F W Aa (Ae F Aa).q fun a w F W => ?_
   refine ls F W Aa (AZ (v := Value.bool (CG x2)) F SH Aa (fun w W => Ky any w x2 _ Aa)) fun a w F W => ?_
   refine ls F W Aa (Fa F Aa).q fun a w F W => ?_
   refine Ad (Ac ?_)
   refine AE F Aa (fun hb => ?_) fun hb => ?_
   ·
    have H := AU hb H
    rw [hb] at F
    clear hb
    refine Ah (Ab ?_)
    refine ls F W Aa (Af F Aa).q fun a w F W => ?_
    refine Ad (Ac (AC (A5 ?_)))
    iterate 2 refine AO ?_
    refine A5 (AO ?_)
    have H := L2 _ H
    have H := L1 _ H
    have H := A1 H
    subst H
    refine A2 (.inl Aa) F W Aa (Aw F Aa) ?_
    exact ⟨rfl, W.done⟩
   have H := AV (by rw [hb]; decide) H
   rw [hb] at F
   clear hb
   refine Az (AS (Ac (Ab ?_)))
   refine ls F W Aa (BZ F Aa Aa Aa).q fun a w F W => ?_
   refine ls F W Aa (Ae F Aa).q fun a w F W => ?_
   refine Ad (Ac ?_)
   exact ⟨_, H, F.re ⟨rfl, Aa, Aa, Aa, trivial⟩, W⟩
  have H := AV (Bw hb) H
  rw [hb] at F
  clear hb
  refine Bm ?_
  iterate 2 refine BT ?_
  refine Bn (Ac ?_)
  have H := L2 _ H
  exact ⟨H, F.re ⟨rfl, trivial⟩, W⟩
 rintro a w ⟨hj, F, W⟩
 have H := K1 _ hj
 clear hj G1 K1 L1
 refine Ah (Ab ?_)
 refine ls F W Aa (Af F Aa).q fun a w F W => ?_
 refine Ad (Ac (AC ?_))
 have H := A1 H
 subst H
 refine A2 (.inl Aa) F W Aa (Aw F Aa) ?_
 exact ⟨rfl, W.done⟩
theorem S5 : Has Try.prog 50 := ⟨fun args w => Aj Try.func50 rfl (by decide) args w⟩
noncomputable def CE (p0 : Int × (List (Int × Int × Int × Int × Int × Int)) × (List (Int × Int))) (p1 : List Nat) : Option Bool := ((DY p0).bind fun x2 => (if x2 = true then (Do p1 (p0.2.1.length : Int)).bind fun x3 => some x3 else some false)).bind fun x1 => some x1
theorem FF (Y : Nat → Prop) (w0 : World) (v1 : Value) (v2 : Value) (v3 : Value) (p0 : Int × (List (Int × Int × Int × Int × Int × Int)) × (List (Int × Int))) (p1 : List Nat) (r : Bool) (H : CE p0 p1 = some r) (h_v1 : Sl w0 (NX []) Fm v1 p0.2.1) (h_v2 : Sl w0 (NX []) Fo v2 p0.2.2) (h_v3 : Sl w0 (NX []) (Rp.flt .f64) v3 p1) :
    Calls Try.prog 28 #[.agg #[.int .i64 p0.1, v1, v2], v3] w0 fun e w' => e = .returned (.bool r) ∧ Below w0.heap.size w0 w' := by
 refine enter Try.func28 Aa Try.ntmps28 Aa fun a F => ?_
 have W := Stw.start Y w0
 unfold CE at H
 refine Ah (Ab ?_)
 refine Eo (cs := [.int .i64 p0.1, v1, v2]) F W Aa Aa Aa fun b1 a w F W => ?_
 refine ls F W Aa (Af F Aa).q fun a w F W => ?_
 refine Ad (Ac ?_)
 obtain ⟨o1, G1, K1⟩ := Al H
 refine AN (fun a w => ∃ x1 : Bool, some (x1) = some o1 ∧ Fr 14 [] [(4, .bool x1)] a ∧ Stw ⟨Y, [], w0⟩ [(b1, [.int .i64 p0.1, v1, v2])] [] w) ?_ ?_
 ·
  have H := G1
  clear G1 K1
  refine Ab ?_
  refine ls F W Aa (An (v := Value.agg #[.int .i64 p0.1, v1, v2]) 0 F Aa Aa Jj Aa).q fun a w F W => ?_
  obtain ⟨x2, h1, H⟩ := Al H
  refine ls F W Aa (AZ (v := Value.bool x2) F St Aa (fun w W => KO any w (v1) (v2) p0 _ h1 (((Am h_v1) : Ee _ _ _ _ _ _) w W).nx (((Am h_v2) : Ee _ _ _ _ _ _) w W).nx)) fun a w F W => ?_
  refine ls F W Aa (Ae F Aa).q fun a w F W => ?_
  rcases Bool.eq_false_or_eq_true x2 with hb | hb
  ·
   have H := AU hb H
   rw [hb] at F
   clear hb
   refine AD F W (Ag F Aa Aa Aa Aa) Aa (Ak Aa) (Ae F Aa).q fun a w F W => ?_
   refine AD F W (Ag F Aa Aa Aa Aa) Aa (Ak Aa) (Ai Ct Aa Aa Aa IC F Aa 1 Aa).q fun a w F W => ?_
   refine AD F W (Ag F Aa Aa Aa Aa) Aa (Ak Aa) (An (v := v1) 0 F Aa Aa IC Aa).q fun a w F W => ?_
   refine AD F W (Ag F Aa Aa Aa Aa) Aa (Ak Aa) (BB (r := Fm) (l := p0.2.1) IR Aa F Aa (Am h_v1)).q fun a w F W => ?_
   refine Lw (Ag F Aa Aa Aa Aa) ?_
   obtain ⟨x3, h2, H⟩ := Al H
   refine ls F W Aa (AZ (v := Value.bool x3) F S5 Aa (fun w W => JI any w (v3) p1 (p0.2.1.length : Int) _ h2 (((Am h_v3) : Ee _ _ _ _ _ _) w W).nx)) fun a w F W => ?_
   refine ls F W Aa (Ao F Aa Aa Aa).q fun a w F W => ?_
   refine ls F W Aa (Af F Aa).q fun a w F W => ?_
   refine Ad (Ac ?_)
   exact ⟨_, H, F.re ⟨rfl, trivial⟩, W⟩
  have H := AV (by rw [hb]; decide) H
  rw [hb] at F
  clear hb
  iterate 5 refine Cs F Aa Aa Aa Aa Aa Aa Aa fun a F => ?_
  refine ls F W Aa (Ap F Aa Aa Aa).q fun a w F W => ?_
  refine ls F W Aa (Af F Aa).q fun a w F W => ?_
  refine Ad (Ac ?_)
  exact ⟨_, H, F.re ⟨rfl, trivial⟩, W⟩
 rintro a w ⟨x1, hj, F, W⟩
 have hj := A1 hj
 subst hj
 have H := K1
 clear G1 K1
 refine AC ?_
 have H := A1 H
 subst H
 refine A2 (.inl Aa) F W Aa (Aw F Aa) ?_
 exact ⟨rfl, W.done⟩
theorem QZ : type_of% Try.underlying45 := Try.underlying45
theorem Rr : Has Try.prog 28 := ⟨fun args w => Aj Try.func28 rfl (by decide) args w⟩
abbrev CK : Dp (Value × Nat × List Int) := (Dp.sl 3 (Rp.int .i64))
abbrev Ep (p : Value × Nat × List Int) : Nat × List Int := p.2
theorem QS : Et Try.prog 45 36 1 24 := Et.of QZ (by kernel_rfl) (by kernel_rfl) (by kernel_rfl) (by decide)
theorem SL : (Try.prog.info? 36).bind (·.zero) = some (.slice none 0 0) := by kernel_rfl
theorem MO : Try.prog.follows .mixedOrders = true := by kernel_rfl
theorem Rj : RP Try.prog 46 Extern.MathFloatBits.float64frombits := fun args w => run_callFunc_extern Try.func46 (by kernel_rfl) (by kernel_rfl) (by kernel_rfl) (by kernel_rfl) args w
noncomputable def C6 (p0 : Int) : Option Nat := (if 0 ≤ p0 then some 9218868437227405312 else some 18442240474082181120).bind fun x1 => some (Int.toNat x1)
theorem Fj (Y : Nat → Prop) (w0 : World)  (p0 : Int) (r : Nat) (H : C6 p0 = some r)  :
    Calls Try.prog 30 #[.int .i64 p0] w0 fun e w' => e = .returned (.float .f64 r) ∧ Below w0.heap.size w0 w' := by
 refine enter Try.func30 Aa Try.ntmps30 Aa fun a F => ?_
 have W := Stw.start Y w0
 unfold C6 at H
 refine Ah (Ab ?_)
 refine ls F W Aa (Af F Aa).q fun a w F W => ?_
 refine Ad (Ac (Ah (Ab ?_)))
 refine ls F W Aa (Af F Aa).q fun a w F W => ?_
 refine Ad (Ac ?_)
 obtain ⟨o1, G1, K1⟩ := Al H
 refine AN (fun a w => ∃ x1 : Int, some (x1) = some o1 ∧ Fr 8 [] [(2, .float .f64 0), (3, .int .u64 x1)] a ∧ Stw ⟨Y, [], w0⟩ [] [] w) ?_ ?_
 ·
  have H := G1
  clear G1 K1
  refine Ah (Ab ?_)
  refine ls F W Aa (Ae F Aa).q fun a w F W => ?_
  refine ls F W Aa (E0 F Aa Aa).q fun a w F W => ?_
  refine Ad (Ac ?_)
  refine AE F Aa (fun hb => ?_) fun hb => ?_
  ·
   have H := AU (Bz hb) H
   rw [hb] at F
   clear hb
   refine Ab ?_
   refine ls F W Aa (Af F Aa).q fun a w F W => ?_
   refine Ad (Ac ?_)
   exact ⟨_, H, F.re ⟨rfl, Aa, trivial⟩, W⟩
  have H := AV (Bw hb) H
  rw [hb] at F
  clear hb
  refine Ab ?_
  refine ls F W Aa (Af F Aa).q fun a w F W => ?_
  refine Ad (Ac ?_)
  exact ⟨_, H, F.re ⟨rfl, Aa, trivial⟩, W⟩
 rintro a w ⟨x1, hj, F, W⟩
 have hj := A1 hj
 subst hj
 have H := K1
 clear G1 K1
 refine Ah (Ab ?_)
 refine ls F W Aa (Ae F Aa).q fun a w F W => ?_
 refine ls F W Aa (J0 (v := Value.float .f64 (Int.toNat x1)) F Rj Aa (fun w => rfl)).q fun a w F W => ?_
 refine ls F W Aa (Af F Aa).q fun a w F W => ?_
 refine Ad (Ac (AC ?_))
 have H := A1 H
 subst H
 refine A2 (.inl Aa) F W Aa (Aw F Aa) ?_
 exact ⟨rfl, W.done⟩
theorem QW : Has Try.prog 30 := ⟨fun args w => Aj Try.func30 rfl (by decide) args w⟩
theorem I9 : (Try.prog.underlying 9).map (fun d => match d with | .interface _ => true | _ => false) = some false := by kernel_rfl
def B0 (p0 : Int) (p1 : Int) : Int × Int := (IntKind.u64.wrap ((IntKind.u64.wrap ((IntKind.u64.wrap ((Gk .u64 p0 32) * (Gk .u64 p1 32))) + (Gk .u64 (IntKind.u64.wrap ((IntKind.u64.wrap ((Gk .u64 p0 32) * (JX .u64 p1 4294967295))) + (Gk .u64 (IntKind.u64.wrap ((JX .u64 p0 4294967295) * (JX .u64 p1 4294967295))) 32))) 32))) + (Gk .u64 (IntKind.u64.wrap ((JX .u64 (IntKind.u64.wrap ((IntKind.u64.wrap ((Gk .u64 p0 32) * (JX .u64 p1 4294967295))) + (Gk .u64 (IntKind.u64.wrap ((JX .u64 p0 4294967295) * (JX .u64 p1 4294967295))) 32))) 4294967295) + (IntKind.u64.wrap ((JX .u64 p0 4294967295) * (Gk .u64 p1 32))))) 32)), IntKind.u64.wrap (p0 * p1))
theorem HM (Y : Nat → Prop) (w0 : World)  (p0 : Int) (p1 : Int) (r : Int × Int) (H : B0 p0 p1 = r)  :
    Calls Try.prog 68 #[.int .u64 p0, .int .u64 p1] w0 fun e w' => e = .returned (.tuple #[.int .u64 r.1, .int .u64 r.2]) ∧ Below w0.heap.size w0 w' := by
 refine enter Try.func68 Aa Try.ntmps68 Aa fun a F => ?_
 have W := Stw.start Y w0
 unfold B0 at H
 refine Ah (Ab ?_)
 iterate 2 refine ls F W Aa (Af F Aa).q fun a w F W => ?_
 refine Ad (Ac (Ah (Ab ?_)))
 refine ls F W Aa (Ae F Aa).q fun a w F W => ?_
 refine ls F W Aa (O2 F Aa Aa).q fun a w F W => ?_
 refine ls F W Aa (Af F Aa).q fun a w F W => ?_
 refine Ad (Ac (Ah (Ab ?_)))
 refine ls F W Aa (Ae F Aa).q fun a w F W => ?_
 refine ls F W Aa (Iz F Aa Aa (by decide)).q fun a w F W => ?_
 refine ls F W Aa (Af F Aa).q fun a w F W => ?_
 refine Ad (Ac (Ah (Ab ?_)))
 refine ls F W Aa (Ae F Aa).q fun a w F W => ?_
 refine ls F W Aa (O2 F Aa Aa).q fun a w F W => ?_
 refine ls F W Aa (Af F Aa).q fun a w F W => ?_
 refine Ad (Ac (Ah (Ab ?_)))
 refine ls F W Aa (Ae F Aa).q fun a w F W => ?_
 refine ls F W Aa (Iz F Aa Aa (by decide)).q fun a w F W => ?_
 refine ls F W Aa (Af F Aa).q fun a w F W => ?_
 refine Ad (Ac (Ah (Ab ?_)))
 iterate 2 refine ls F W Aa (Ae F Aa).q fun a w F W => ?_
 refine ls F W Aa (LQ F Aa Aa Aa).q fun a w F W => ?_
 refine ls F W Aa (Af F Aa).q fun a w F W => ?_
 refine Ad (Ac (Ah (Ab ?_)))
 iterate 2 refine ls F W Aa (Ae F Aa).q fun a w F W => ?_
 refine ls F W Aa (LQ F Aa Aa Aa).q fun a w F W => ?_
 refine ls F W Aa (Ae F Aa).q fun a w F W => ?_
 refine ls F W Aa (Iz F Aa Aa (by decide)).q fun a w F W => ?_
 refine ls F W Aa (BZ F Aa Aa Aa).q fun a w F W => ?_
 refine ls F W Aa (Af F Aa).q fun a w F W => ?_
 refine Ad (Ac (Ah (Ab ?_)))
 refine ls F W Aa (Ae F Aa).q fun a w F W => ?_
 refine ls F W Aa (O2 F Aa Aa).q fun a w F W => ?_
 refine ls F W Aa (Af F Aa).q fun a w F W => ?_
 refine Ad (Ac (Ah (Ab ?_)))
 refine ls F W Aa (Ae F Aa).q fun a w F W => ?_
 refine ls F W Aa (Iz F Aa Aa (by decide)).q fun a w F W => ?_
 refine ls F W Aa (Af F Aa).q fun a w F W => ?_
 refine Ad (Ac (Ah (Ab ?_)))
 iterate 3 refine ls F W Aa (Ae F Aa).q fun a w F W => ?_
 refine ls F W Aa (LQ F Aa Aa Aa).q fun a w F W => ?_
 refine ls F W Aa (BZ F Aa Aa Aa).q fun a w F W => ?_
 refine ls F W Aa (Af F Aa).q fun a w F W => ?_
 refine Ad (Ac (Ah (Ab ?_)))
 iterate 2 refine ls F W Aa (Ae F Aa).q fun a w F W => ?_
 refine ls F W Aa (LQ F Aa Aa Aa).q fun a w F W => ?_
 refine ls F W Aa (Ae F Aa).q fun a w F W => ?_
 refine ls F W Aa (BZ F Aa Aa Aa).q fun a w F W => ?_
 refine ls F W Aa (Ae F Aa).q fun a w F W => ?_
 refine ls F W Aa (Iz F Aa Aa (by decide)).q fun a w F W => ?_
 refine ls F W Aa (BZ F Aa Aa Aa).q fun a w F W => ?_
 refine ls F W Aa (Af F Aa).q fun a w F W => ?_
 refine Ad (Ac (Ah (Ab ?_)))
 iterate 2 refine ls F W Aa (Ae F Aa).q fun a w F W => ?_
 refine ls F W Aa (LQ F Aa Aa Aa).q fun a w F W => ?_
 refine ls F W Aa (Af F Aa).q fun a w F W => ?_
 refine Ad (Ac (AC ?_))
 subst H
 refine ID (.inl Aa) F W Aa (Aw F Aa) (Aw F Aa) ?_
 exact ⟨rfl, W.done⟩
theorem Sy : Has Try.prog 68 := ⟨fun args w => Aj Try.func68 rfl (by decide) args w⟩
def As (p0 : Int) (p1 : Int) : Int × Int := ((B0 p0 p1).1, (B0 p0 p1).2)
theorem Gf (Y : Nat → Prop) (w0 : World)  (p0 : Int) (p1 : Int) (r : Int × Int) (H : As p0 p1 = r)  :
    Calls Try.prog 51 #[.int .u64 p0, .int .u64 p1] w0 fun e w' => e = .returned (.tuple #[.int .u64 r.1, .int .u64 r.2]) ∧ Below w0.heap.size w0 w' := by
 refine enter Try.func51 Aa Try.ntmps51 Aa fun a F => ?_
 have W := Stw.start Y w0
 unfold As at H
 refine Ah (Ab ?_)
 iterate 2 refine ls F W Aa (Af F Aa).q fun a w F W => ?_
 refine Ad (Ac (Ah ?_))
 refine GE F Aa ?_
 refine Az (Ac (Ah (Ab ?_)))
 iterate 2 refine ls F W Aa (Ae F Aa).q fun a w F W => ?_
 refine ls F W Aa (AZ (v := Value.tuple #[.int .u64 ((B0 p0 p1).1), .int .u64 ((B0 p0 p1).2)]) F Sy Aa (fun w W => HM any w p0 p1 _ Aa)) fun a w F W => ?_
 refine ls F W Aa (Ae F Aa).q fun a w F W => ?_
 refine ls F W Aa (BJ (v := Value.int .u64 ((B0 p0 p1).1)) F Aa Aa).q fun a w F W => ?_
 refine ls F W Aa (BJ (v := Value.int .u64 ((B0 p0 p1).2)) F Aa Aa).q fun a w F W => ?_
 iterate 2 refine ls F W Aa (Af F Aa).q fun a w F W => ?_
 refine Ad (Ac (Ah (Ab ?_)))
 iterate 2 refine ls F W Aa (Ae F Aa).q fun a w F W => ?_
 iterate 2 refine ls F W Aa (Af F Aa).q fun a w F W => ?_
 refine Ad (Ac (AC ?_))
 subst H
 refine ID (.inl Aa) F W Aa (Aw F Aa) (Aw F Aa) ?_
 exact ⟨rfl, W.done⟩
theorem KX : type_of% Try.underlying92 := Try.underlying92
theorem R3 : Has Try.prog 51 := ⟨fun args w => Aj Try.func51 rfl (by decide) args w⟩
noncomputable def A0  : (List Nat × Int) → Option ((List Nat × Int) ⊕ (List Nat))
  | (x3, x4) => (if x4 < (x3.length : Int) then (E6 x3 x4 (x3.length : Int)).bind fun x5 => (E6 x3 0 x4).bind fun x6 => some (.inl (JE x3 x4 (min x6.length x5.length) x6, BH (x4 + ((min x6.length x5.length : Nat) : Int)))) else some (.inr x3))
noncomputable def AP (p0 : List Nat) (p1 : Int) : Option (List Nat) := (if p1 < 0 then none else (if (decide (0 < ((As (IntKind.u64.wrap (p0.length : Int)) (IntKind.u64.wrap p1)).1)) || decide (9223372036854775807 < ((As (IntKind.u64.wrap (p0.length : Int)) (IntKind.u64.wrap p1)).2))) = true then none else (mk (BH ((As (IntKind.u64.wrap (p0.length : Int)) (IntKind.u64.wrap p1)).2)) (0 : Nat)).bind fun x1 => (AF (A0) (JE x1 0 (min p0.length x1.length) p0, ((min p0.length x1.length : Nat) : Int))).bind fun x2 => some x2))
theorem Bv (Y : Nat → Prop) (w0 : World) (v1 : Value) (p0 : List Nat) (p1 : Int) (r : List Nat) (H : AP p0 p1 = some r) (s_v1 : Sl w0 Y (Rp.flt .f64) v1 p0) :
    Calls Try.prog 29 #[v1, .int .i64 p1] w0 fun e w' => ∃ x : Value, e = .returned (x) ∧ Stw ⟨Y, [], w0⟩ [] [row (x) 56 (Rp.flt .f64) r] w' := by
 refine enter Try.func29 Aa Try.ntmps29 Aa fun a F => ?_
 have W := Stw.start Y w0
 have h_v1 := W.nx s_v1
 unfold AP at H
 refine Ah (Ab ?_)
 refine ls F W Aa (Af F Aa).q fun a w F W => ?_
 refine Ad (Ac (Ah (Ah (Ab ?_))))
 refine ls F W Aa (Ae F Aa).q fun a w F W => ?_
 refine ls F W Aa (Bo F Aa Aa).q fun a w F W => ?_
 refine Ad (Ac ?_)
 refine AE F Aa (fun hb => ?_) fun hb => ?_
 ·
  have H := AU (Bz hb) H
  rw [hb] at F
  clear hb
  refine Ab ?_
  refine ls F W Aa (Ft I9 F Aa).q fun a w F W => ?_
  exact nomatch H
 have H := AV (Bw hb) H
 rw [hb] at F
 clear hb
 refine Az (Ac (Ah (Ab ?_)))
 refine ls F W Aa (Ae F Aa).q fun a w F W => ?_
 refine ls F W Aa (BB (r := (Rp.flt .f64)) (l := p0) KJ Aa F Aa (Am h_v1)).q fun a w F W => ?_
 refine ls F W Aa (Ej NY KX F Aa).q fun a w F W => ?_
 refine ls F W Aa (Ae F Aa).q fun a w F W => ?_
 refine ls F W Aa (Ej NY KX F Aa).q fun a w F W => ?_
 refine ls F W Aa (AZ (v := Value.tuple #[.int .u64 ((As (IntKind.u64.wrap (p0.length : Int)) (IntKind.u64.wrap p1)).1), .int .u64 ((As (IntKind.u64.wrap (p0.length : Int)) (IntKind.u64.wrap p1)).2)]) F R3 Aa (fun w W => Gf any w (IntKind.u64.wrap (p0.length : Int)) (IntKind.u64.wrap p1) _ Aa)) fun a w F W => ?_
 refine ls F W Aa (Ae F Aa).q fun a w F W => ?_
 refine ls F W Aa (BJ (v := Value.int .u64 ((As (IntKind.u64.wrap (p0.length : Int)) (IntKind.u64.wrap p1)).1)) F Aa Aa).q fun a w F W => ?_
 refine ls F W Aa (BJ (v := Value.int .u64 ((As (IntKind.u64.wrap (p0.length : Int)) (IntKind.u64.wrap p1)).2)) F Aa Aa).q fun a w F W => ?_
 iterate 2 refine ls F W Aa (Af F Aa).q fun a w F W => ?_
 refine Ad (Ac (Ah ?_))
 refine AN (fun a w => Fr 48 [] [(0, v1), (4, .slice none 0 0), (6, .int .u64 ((As (IntKind.u64.wrap (p0.length : Int)) (IntKind.u64.wrap p1)).2)), (26, .bool (decide (0 < ((As (IntKind.u64.wrap (p0.length : Int)) (IntKind.u64.wrap p1)).1)) || decide (9223372036854775807 < ((As (IntKind.u64.wrap (p0.length : Int)) (IntKind.u64.wrap p1)).2))))] a ∧ Stw ⟨Y, [], w0⟩ [] [] w) ?_ ?_
 ·
  refine Ab ?_
  refine ls F W Aa (Ae F Aa).q fun a w F W => ?_
  refine ls F W Aa (En F Aa Aa).q fun a w F W => ?_
  refine ls F W Aa (Ae F Aa).q fun a w F W => ?_
  rcases Bool.eq_false_or_eq_true (decide (0 < ((As (IntKind.u64.wrap (p0.length : Int)) (IntKind.u64.wrap p1)).1))) with hb0 | hb0
  ·
   rw [hb0] at F
   iterate 2 refine Cs F Aa Aa Aa Aa Aa Aa Aa fun a F => ?_
   refine ls F W Aa (Ao F Aa Aa Aa).q fun a w F W => ?_
   refine Ad (Ac ?_)
   exact ⟨F.re ⟨rfl, Aa, Aa, (by show some (Value.bool true) = some (Value.bool (decide (0 < ((As (IntKind.u64.wrap (p0.length : Int)) (IntKind.u64.wrap p1)).1)) || decide (9223372036854775807 < ((As (IntKind.u64.wrap (p0.length : Int)) (IntKind.u64.wrap p1)).2)))); try rw [hb0]; all_goals simp only [Bool.not_true, Bool.not_false, Bool.true_and, Bool.false_and, Bool.true_or, Bool.false_or, Bool.and_true, Bool.or_false, cond_true, cond_false]), trivial⟩, W⟩
  rw [hb0] at F
  refine AD F W (Ag F Aa Aa Aa Aa) Aa (Ak Aa) (Ae F Aa).q fun a w F W => ?_
  refine AD F W (Ag F Aa Aa Aa Aa) Aa (Ak Aa) (En F Aa Aa).q fun a w F W => ?_
  refine ls F W Aa (Ap F Aa Aa Aa).q fun a w F W => ?_
  refine Ad (Ac ?_)
  exact ⟨F.re ⟨rfl, Aa, Aa, (by show some (Value.bool (decide (9223372036854775807 < ((As (IntKind.u64.wrap (p0.length : Int)) (IntKind.u64.wrap p1)).2)))) = some (Value.bool (decide (0 < ((As (IntKind.u64.wrap (p0.length : Int)) (IntKind.u64.wrap p1)).1)) || decide (9223372036854775807 < ((As (IntKind.u64.wrap (p0.length : Int)) (IntKind.u64.wrap p1)).2)))); try rw [hb0]; all_goals simp only [Bool.not_true, Bool.not_false, Bool.true_and, Bool.false_and, Bool.true_or, Bool.false_or, Bool.and_true, Bool.or_false, cond_true, cond_false]), trivial⟩, W⟩
 rintro a w ⟨F, W⟩
 refine AE F Aa (fun hb => ?_) fun hb => ?_
 ·
  have H := AU hb H
  rw [hb] at F
  clear hb
  refine Ab ?_
  refine ls F W Aa (Ft I9 F Aa).q fun a w F W => ?_
  exact nomatch H
 have H := AV (by rw [hb]; decide) H
 rw [hb] at F
 clear hb
 refine Az (Ac (Ah (Ab ?_)))
 refine ls F W Aa (Ae F Aa).q fun a w F W => ?_
 refine ls F W Aa (Ej KX NY F Aa).q fun a w F W => ?_
 obtain ⟨x1, h1, H⟩ := Al H
 refine L8 (r := (Rp.flt .f64)) (0 : Nat) F W Aa Iy Qe Aa Aa (fun w A => Fl.flt.mk' w A _) h1 Aa fun v2 a w F W => ?_
 refine ls F W Aa (Af F Aa).q fun a w F W => ?_
 refine Ad (Ac (Ah (Ab ?_)))
 iterate 2 refine ls F W Aa (Ae F Aa).q fun a w F W => ?_
 refine Oc (r := (Rp.flt .f64)) (k := 0) F W Aa Iy Aa Aa Aa Aa (Nc W s_v1) fun a w F W => ?_
 have W : Stw ⟨Y, [], w0⟩ [] [row v2 56 (Rp.flt .f64) (JE x1 0 (min p0.length x1.length) p0)] w := W
 refine ls F W Aa (Af F Aa).q fun a w F W => ?_
 refine Ad (Ac ?_)
 obtain ⟨o1, G1, K1⟩ := Al H
 refine AN (fun a w => ∃ x2 : List Nat, some (x2) = some o1 ∧ Fr 48 [] [(4, .slice none 0 0), (7, v2)] a ∧ Stw ⟨Y, [], w0⟩ [] [row v2 56 (Rp.flt .f64) x2] w) ?_ ?_
 ·
  have H := G1
  clear G1 K1
  refine Ay ?_
  refine Bi H (fun s a w => Fr 48 [] [(4, .slice none 0 0), (7, v2), (8, .int .i64 s.2)] a ∧ Stw ⟨Y, [], w0⟩ [] [row v2 56 (Rp.flt .f64) s.1] w) ⟨F.re ⟨rfl, Aa, Aa, trivial⟩, W⟩ fun s o a w H L2 hR => ?_
  obtain ⟨x3, x4⟩ := s
  obtain ⟨F, W⟩ := hR
  have F : Fr 48 [] [(4, .slice none 0 0), (7, v2), (8, .int .i64 x4)] a := F
  have W : Stw ⟨Y, [], w0⟩ [] [row v2 56 (Rp.flt .f64) x3] w := W
  rw [A0] at H
  refine Ah (Ah (Ab ?_))
  iterate 2 refine ls F W Aa (Ae F Aa).q fun a w F W => ?_
  refine ls F W Aa (BB (r := (Rp.flt .f64)) (l := x3) KJ Aa F Aa (Au 0 Aa)).q fun a w F W => ?_
  refine ls F W Aa (Bo F Aa Aa).q fun a w F W => ?_
  refine Ad (Ac ?_)
  refine AE F Aa (fun hb => ?_) fun hb => ?_
  ·
   have H := AU (Bz hb) H
   rw [hb] at F
   clear hb
   refine Az (Ac (Ay ?_))
   refine MS 7 [0] [1, 2, 3, 4, 5, 6] (fun ch a d v w h => by cases d <;> exact h) W MO (by kernel_rfl) ?_
   refine hm F Aa Aa Aa fun a F => ?_
   refine O7 ?_
   iterate 2 refine hs F Aa Aa Aa (Ae F Aa).q fun a F => ?_
   obtain ⟨x5, h2, H⟩ := Al H
   refine hs F Aa Aa Aa (GW (r := (Rp.flt .f64)) Iy F Aa Aa Aa (Au 0 Aa) h2).q fun a F => ?_
   iterate 2 refine hs F Aa Aa Aa (Ae F Aa).q fun a F => ?_
   obtain ⟨x6, h3, H⟩ := Al H
   refine hs F Aa Aa Aa (GW (r := (Rp.flt .f64)) Iy F Aa Aa Aa (Au 0 Aa) h3).q fun a F => ?_
   refine P9 fun w W => ?_
   have W : Stw ⟨Y, [], w0⟩ [] [row v2 56 (Rp.flt .f64) x3] w := W
   refine Nk (r := (Rp.flt .f64)) (v := v2) (k := 0) F W Aa Iy Aa Aa Aa Aa h2 (JM.sub (DT W 0 Aa) h3) fun a w F W => ?_
   have W : Stw ⟨Y, [], w0⟩ [] [row v2 56 (Rp.flt .f64) (JE x3 x4 (min x6.length x5.length) x6)] w := W
   refine ls F W Aa (BZ F Aa Aa Aa).q fun a w F W => ?_
   refine ls F W Aa (Af F Aa).q fun a w F W => ?_
   refine Ad (AS (Ac ?_))
   exact ⟨_, H, F.re ⟨rfl, Aa, Aa, trivial⟩, W⟩
  have H := AV (Bw hb) H
  rw [hb] at F
  clear hb
  refine Bm ?_
  iterate 2 refine BT ?_
  refine Bn (Ac ?_)
  have H := L2 _ H
  exact ⟨_, H, F.re ⟨rfl, Aa, trivial⟩, W⟩
 rintro a w ⟨x2, hj, F, W⟩
 have hj := A1 hj
 subst hj
 have H := K1
 clear G1 K1
 refine Ah (Ab ?_)
 refine ls F W Aa (Ae F Aa).q fun a w F W => ?_
 refine ls F W Aa (Af F Aa).q fun a w F W => ?_
 refine Ad (Ac (AC ?_))
 have H := A1 H
 subst H
 refine A2 (.inl Aa) F W Aa (Aw F Aa) ?_
 exact ⟨(v2), Aa, W⟩
theorem RX : type_of% Try.underlying5 := Try.underlying5
theorem SB : type_of% Try.underlying9 := Try.underlying9
theorem JN : type_of% Try.underlying36 := Try.underlying36
theorem Q7 : type_of% Try.underlying59 := Try.underlying59
theorem Rh : Has Try.prog 29 := ⟨fun args w => Aj Try.func29 rfl (by decide) args w⟩
theorem Rl : (Try.prog.info? 29).bind (·.zero) = some (.slice none 0 0) := by kernel_rfl
theorem MI : Ty Try.prog 29 false 1 := ⟨by kernel_rfl, by kernel_rfl⟩
theorem Z3 : (Try.prog.info? 3).bind (·.zero) = some (.int .i64 0) := by kernel_rfl
theorem FI : Et Try.prog 36 3 1 8 := Et.of JN (by kernel_rfl) (by kernel_rfl) (by kernel_rfl) (by decide)
noncomputable def C8 (p0 : Int) : Option Int := (if 4294967296 ≤ p0 then some (Gk .u64 p0 32, 32) else some (p0, 0)).bind fun (x1, x2) => (if 65536 ≤ x1 then some (Gk .u64 x1 16, BH (x2 + 16)) else some (x1, x2)).bind fun (x3, x4) => (if 256 ≤ x3 then some (Gk .u64 x3 8, BH (x4 + 8)) else some (x3, x4)).bind fun (x5, x6) => (ix ([0, 1, 2, 2, 3, 3, 3, 3, 4, 4, 4, 4, 4, 4, 4, 4, 5, 5, 5, 5, 5, 5, 5, 5, 5, 5, 5, 5, 5, 5, 5, 5, 6, 6, 6, 6, 6, 6, 6, 6, 6, 6, 6, 6, 6, 6, 6, 6, 6, 6, 6, 6, 6, 6, 6, 6, 6, 6, 6, 6, 6, 6, 6, 6, 7, 7, 7, 7, 7, 7, 7, 7, 7, 7, 7, 7, 7, 7, 7, 7, 7, 7, 7, 7, 7, 7, 7, 7, 7, 7, 7, 7, 7, 7, 7, 7, 7, 7, 7, 7, 7, 7, 7, 7, 7, 7, 7, 7, 7, 7, 7, 7, 7, 7, 7, 7, 7, 7, 7, 7, 7, 7, 7, 7, 7, 7, 7, 7, 8, 8, 8, 8, 8, 8, 8, 8, 8, 8, 8, 8, 8, 8, 8, 8, 8, 8, 8, 8, 8, 8, 8, 8, 8, 8, 8, 8, 8, 8, 8, 8, 8, 8, 8, 8, 8, 8, 8, 8, 8, 8, 8, 8, 8, 8, 8, 8, 8, 8, 8, 8, 8, 8, 8, 8, 8, 8, 8, 8, 8, 8, 8, 8, 8, 8, 8, 8, 8, 8, 8, 8, 8, 8, 8, 8, 8, 8, 8, 8, 8, 8, 8, 8, 8, 8, 8, 8, 8, 8, 8, 8, 8, 8, 8, 8, 8, 8, 8, 8, 8, 8, 8, 8, 8, 8, 8, 8, 8, 8, 8, 8, 8, 8, 8, 8, 8, 8, 8, 8, 8, 8, 8, 8, 8, 8, 8, 8] : List UInt8) (IntKind.u8.wrap x5)).bind fun x7 => some (BH (x6 + (BH (x7.toNat : Int))))
theorem Hx (Y : Nat → Prop) (w0 : World)  (p0 : Int) (r : Int) (H : C8 p0 = some r)  :
    Calls Try.prog 78 #[.int .u64 p0] w0 fun e w' => e = .returned (.int .i64 r) ∧ Below w0.heap.size w0 w' := by
 refine enter Try.func78 Aa Try.ntmps78 Aa fun a F => ?_
 have W := Stw.start Y w0
 unfold C8 at H
 refine Ah (Ab ?_)
 refine ls F W Aa (Af F Aa).q fun a w F W => ?_
 refine Ad (Ac ?_)
 obtain ⟨o1, G1, K1⟩ := Al H
 refine AN (fun a w => ∃ x1 : Int, ∃ x2 : Int, some ((x1, x2)) = some o1 ∧ Fr 25 [] [(0, .int .u64 x1), (2, .int .i64 x2)] a ∧ Stw ⟨Y, [], w0⟩ [] [] w) ?_ ?_
 ·
  have H := G1
  clear G1 K1
  refine Ah (Ab ?_)
  refine ls F W Aa (Ae F Aa).q fun a w F W => ?_
  refine ls F W Aa (E0 F Aa Aa).q fun a w F W => ?_
  refine Ad (Ac ?_)
  refine AE F Aa (fun hb => ?_) fun hb => ?_
  ·
   have H := AU (Bz hb) H
   rw [hb] at F
   clear hb
   refine Ah (Ab ?_)
   refine ls F W Aa (Ae F Aa).q fun a w F W => ?_
   refine ls F W Aa (Iz F Aa Aa (by decide)).q fun a w F W => ?_
   refine ls F W Aa (Af F Aa).q fun a w F W => ?_
   refine Ad (Ac (Ab ?_))
   refine ls F W Aa (Af F Aa).q fun a w F W => ?_
   refine Ad (Ac ?_)
   exact ⟨_, _, H, F.re ⟨rfl, Aa, trivial⟩, W⟩
  have H := AV (Bw hb) H
  rw [hb] at F
  clear hb
  refine Az (Ac ?_)
  exact ⟨_, _, H, F.re ⟨rfl, Aa, trivial⟩, W⟩
 rintro a w ⟨x1, x2, hj, F, W⟩
 have hj := A1 hj
 subst hj
 have H := K1
 clear G1 K1
 obtain ⟨o2, G2, K2⟩ := Al H
 refine AN (fun a w => ∃ x3 : Int, ∃ x4 : Int, some ((x3, x4)) = some o2 ∧ Fr 25 [] [(0, .int .u64 x3), (2, .int .i64 x4)] a ∧ Stw ⟨Y, [], w0⟩ [] [] w) ?_ ?_
 ·
  have H := G2
  clear G2 K2
  refine Ah (Ab ?_)
  refine ls F W Aa (Ae F Aa).q fun a w F W => ?_
  refine ls F W Aa (E0 F Aa Aa).q fun a w F W => ?_
  refine Ad (Ac ?_)
  refine AE F Aa (fun hb => ?_) fun hb => ?_
  ·
   have H := AU (Bz hb) H
   rw [hb] at F
   clear hb
   refine Ah (Ab ?_)
   refine ls F W Aa (Ae F Aa).q fun a w F W => ?_
   refine ls F W Aa (Iz F Aa Aa (by decide)).q fun a w F W => ?_
   refine ls F W Aa (Af F Aa).q fun a w F W => ?_
   refine Ad (Ac (Ab ?_))
   refine ls F W Aa (Ae F Aa).q fun a w F W => ?_
   refine ls F W Aa (BZ F Aa Aa Aa).q fun a w F W => ?_
   refine ls F W Aa (Af F Aa).q fun a w F W => ?_
   refine Ad (Ac ?_)
   exact ⟨_, _, H, F.re ⟨rfl, Aa, trivial⟩, W⟩
  have H := AV (Bw hb) H
  rw [hb] at F
  clear hb
  refine Az (Ac ?_)
  exact ⟨_, _, H, F.re ⟨rfl, Aa, trivial⟩, W⟩
 rintro a w ⟨x3, x4, hj, F, W⟩
 have hj := A1 hj
 subst hj
 have H := K2
 clear G2 K2
 obtain ⟨o3, G3, K3⟩ := Al H
 refine AN (fun a w => ∃ x5 : Int, ∃ x6 : Int, some ((x5, x6)) = some o3 ∧ Fr 25 [] [(0, .int .u64 x5), (2, .int .i64 x6)] a ∧ Stw ⟨Y, [], w0⟩ [] [] w) ?_ ?_
 ·
  have H := G3
  clear G3 K3
  refine Ah (Ab ?_)
  refine ls F W Aa (Ae F Aa).q fun a w F W => ?_
  refine ls F W Aa (E0 F Aa Aa).q fun a w F W => ?_
  refine Ad (Ac ?_)
  refine AE F Aa (fun hb => ?_) fun hb => ?_
  ·
   have H := AU (Bz hb) H
   rw [hb] at F
   clear hb
   refine Ah (Ab ?_)
   refine ls F W Aa (Ae F Aa).q fun a w F W => ?_
   refine ls F W Aa (Iz F Aa Aa (by decide)).q fun a w F W => ?_
   refine ls F W Aa (Af F Aa).q fun a w F W => ?_
   refine Ad (Ac (Ab ?_))
   refine ls F W Aa (Ae F Aa).q fun a w F W => ?_
   refine ls F W Aa (BZ F Aa Aa Aa).q fun a w F W => ?_
   refine ls F W Aa (Af F Aa).q fun a w F W => ?_
   refine Ad (Ac ?_)
   exact ⟨_, _, H, F.re ⟨rfl, Aa, trivial⟩, W⟩
  have H := AV (Bw hb) H
  rw [hb] at F
  clear hb
  refine Az (Ac ?_)
  exact ⟨_, _, H, F.re ⟨rfl, Aa, trivial⟩, W⟩
 rintro a w ⟨x5, x6, hj, F, W⟩
 have hj := A1 hj
 subst hj
 have H := K3
 clear G3 K3
 refine Ah (Ab ?_)
 iterate 2 refine ls F W Aa (Ae F Aa).q fun a w F W => ?_
 refine ls F W Aa (Ej Q7 RX F Aa).q fun a w F W => ?_
 obtain ⟨x7, h1, H⟩ := Al H
 refine ls F W Aa (O5 (l := ([0, 1, 2, 2, 3, 3, 3, 3, 4, 4, 4, 4, 4, 4, 4, 4, 5, 5, 5, 5, 5, 5, 5, 5, 5, 5, 5, 5, 5, 5, 5, 5, 6, 6, 6, 6, 6, 6, 6, 6, 6, 6, 6, 6, 6, 6, 6, 6, 6, 6, 6, 6, 6, 6, 6, 6, 6, 6, 6, 6, 6, 6, 6, 6, 7, 7, 7, 7, 7, 7, 7, 7, 7, 7, 7, 7, 7, 7, 7, 7, 7, 7, 7, 7, 7, 7, 7, 7, 7, 7, 7, 7, 7, 7, 7, 7, 7, 7, 7, 7, 7, 7, 7, 7, 7, 7, 7, 7, 7, 7, 7, 7, 7, 7, 7, 7, 7, 7, 7, 7, 7, 7, 7, 7, 7, 7, 7, 7, 8, 8, 8, 8, 8, 8, 8, 8, 8, 8, 8, 8, 8, 8, 8, 8, 8, 8, 8, 8, 8, 8, 8, 8, 8, 8, 8, 8, 8, 8, 8, 8, 8, 8, 8, 8, 8, 8, 8, 8, 8, 8, 8, 8, 8, 8, 8, 8, 8, 8, 8, 8, 8, 8, 8, 8, 8, 8, 8, 8, 8, 8, 8, 8, 8, 8, 8, 8, 8, 8, 8, 8, 8, 8, 8, 8, 8, 8, 8, 8, 8, 8, 8, 8, 8, 8, 8, 8, 8, 8, 8, 8, 8, 8, 8, 8, 8, 8, 8, 8, 8, 8, 8, 8, 8, 8, 8, 8, 8, 8, 8, 8, 8, 8, 8, 8, 8, 8, 8, 8, 8, 8, 8, 8, 8, 8, 8, 8] : List UInt8)) SB F Aa Aa h1).q fun a w F W => ?_
 refine ls F W Aa (Ej RX NY F Aa).q fun a w F W => ?_
 refine ls F W Aa (BZ F Aa Aa Aa).q fun a w F W => ?_
 refine ls F W Aa (Af F Aa).q fun a w F W => ?_
 refine Ad (Ac (AC ?_))
 have H := A1 H
 subst H
 refine A2 (.inl Aa) F W Aa (Aw F Aa) ?_
 exact ⟨rfl, W.done⟩
theorem SG : Has Try.prog 78 := ⟨fun args w => Aj Try.func78 rfl (by decide) args w⟩
noncomputable def Cn (p0 : Int) : Option Int := (C8 p0).bind fun x1 => some x1
theorem Gc (Y : Nat → Prop) (w0 : World)  (p0 : Int) (r : Int) (H : Cn p0 = some r)  :
    Calls Try.prog 53 #[.int .u64 p0] w0 fun e w' => e = .returned (.int .i64 r) ∧ Below w0.heap.size w0 w' := by
 refine enter Try.func53 Aa Try.ntmps53 Aa fun a F => ?_
 have W := Stw.start Y w0
 unfold Cn at H
 refine Ah (Ab ?_)
 refine ls F W Aa (Af F Aa).q fun a w F W => ?_
 refine Ad (Ac (Ah ?_))
 refine GE F Aa ?_
 refine Az (Ac (Ah (Ab ?_)))
 refine ls F W Aa (Ae F Aa).q fun a w F W => ?_
 obtain ⟨x1, h1, H⟩ := Al H
 refine ls F W Aa (AZ (v := Value.int .i64 x1) F SG Aa (fun w W => Hx any w p0 _ h1)) fun a w F W => ?_
 refine ls F W Aa (Af F Aa).q fun a w F W => ?_
 refine Ad (Ac (AC ?_))
 have H := A1 H
 subst H
 refine A2 (.inl Aa) F W Aa (Aw F Aa) ?_
 exact ⟨rfl, W.done⟩
theorem RT : Has Try.prog 53 := ⟨fun args w => Aj Try.func53 rfl (by decide) args w⟩
def B4 (p0 : Nat) : Bool := (!(LM p0 p0))
theorem HX (Y : Nat → Prop) (w0 : World)  (p0 : Nat) (r : Bool) (H : B4 p0 = r)  :
    Calls Try.prog 47 #[.float .f64 p0] w0 fun e w' => e = .returned (.bool r) ∧ Below w0.heap.size w0 w' := by
 refine enter Try.func47 Aa Try.ntmps47 Aa fun a F => ?_
 have W := Stw.start Y w0
 unfold B4 at H
 refine Ah (Ab ?_)
 refine ls F W Aa (Af F Aa).q fun a w F W => ?_
 refine Ad (Ac (Ah (Ab ?_)))
 iterate 2 refine ls F W Aa (Ae F Aa).q fun a w F W => ?_
 refine ls F W Aa (Qt F Aa Aa).q fun a w F W => ?_
 refine ls F W Aa (Af F Aa).q fun a w F W => ?_
 refine Ad (Ac (AC ?_))
 subst H
 refine A2 (.inl Aa) F W Aa (Aw F Aa) ?_
 exact ⟨rfl, W.done⟩
theorem Se : Has Try.prog 47 := ⟨fun args w => Aj Try.func47 rfl (by decide) args w⟩
theorem Sb : RP Try.prog 48 Extern.MathFloatBits.float64bits := fun args w => run_callFunc_extern Try.func48 (by kernel_rfl) (by kernel_rfl) (by kernel_rfl) (by kernel_rfl) args w
def Gy (p0 : Nat) : Nat := (Int.toNat (IX .u64 (p0 : Int) 9223372036854775808))
theorem Mv (Y : Nat → Prop) (w0 : World)  (p0 : Nat) (r : Nat) (H : Gy p0 = r)  :
    Calls Try.prog 100 #[.float .f64 p0] w0 fun e w' => e = .returned (.float .f64 r) ∧ Below w0.heap.size w0 w' := by
 refine enter Try.func100 Aa Try.ntmps100 Aa fun a F => ?_
 have W := Stw.start Y w0
 unfold Gy at H
 refine Ah (Ab ?_)
 refine ls F W Aa (Af F Aa).q fun a w F W => ?_
 refine Ad (Ac (Ah (Ab ?_)))
 refine ls F W Aa (Ae F Aa).q fun a w F W => ?_
 refine ls F W Aa (J0 (v := Value.int .u64 (p0 : Int)) F Sb Aa (fun w => rfl)).q fun a w F W => ?_
 refine ls F W Aa (OK F Aa Aa).q fun a w F W => ?_
 refine ls F W Aa (J0 (v := Value.float .f64 (Int.toNat (IX .u64 (p0 : Int) 9223372036854775808))) F Rj Aa (fun w => rfl)).q fun a w F W => ?_
 refine ls F W Aa (Af F Aa).q fun a w F W => ?_
 refine Ad (Ac (AC ?_))
 subst H
 refine A2 (.inl Aa) F W Aa (Aw F Aa) ?_
 exact ⟨rfl, W.done⟩
theorem RR : Has Try.prog 100 := ⟨fun args w => Aj Try.func100 rfl (by decide) args w⟩
noncomputable def CI (p0 : Nat) (p1 : Int) : Option Bool := (if p1 = 0 then some (Gy p0) else (if p1 < 0 then some (Op.negFloat .f64 p0) else some p0)).bind fun x1 => some (N8 x1 9218868437227405311)
theorem HT (Y : Nat → Prop) (w0 : World)  (p0 : Nat) (p1 : Int) (r : Bool) (H : CI p0 p1 = some r)  :
    Calls Try.prog 89 #[.float .f64 p0, .int .i64 p1] w0 fun e w' => e = .returned (.bool r) ∧ Below w0.heap.size w0 w' := by
 refine enter Try.func89 Aa Try.ntmps89 Aa fun a F => ?_
 have W := Stw.start Y w0
 unfold CI at H
 refine Ah (Ab ?_)
 refine ls F W Aa (Af F Aa).q fun a w F W => ?_
 refine Ad (Ac ?_)
 obtain ⟨o1, G1, K1⟩ := Al H
 refine AN (fun a w => ∃ x1 : Nat, some (x1) = some o1 ∧ Fr 15 [] [(0, .float .f64 x1), (4, .bool false)] a ∧ Stw ⟨Y, [], w0⟩ [] [] w) ?_ ?_
 ·
  have H := G1
  clear G1 K1
  refine Ah (Ab ?_)
  refine ls F W Aa (Ae F Aa).q fun a w F W => ?_
  refine ls F W Aa (Du F Aa Aa).q fun a w F W => ?_
  refine Ad (Ac ?_)
  refine AE F Aa (fun hb => ?_) fun hb => ?_
  ·
   have H := AU (Bz hb) H
   rw [hb] at F
   clear hb
   refine Ab ?_
   refine ls F W Aa (Ae F Aa).q fun a w F W => ?_
   refine ls F W Aa (AZ (v := Value.float .f64 (Gy p0)) F RR Aa (fun w W => Mv any w p0 _ Aa)) fun a w F W => ?_
   refine ls F W Aa (Af F Aa).q fun a w F W => ?_
   refine Ad (Ac ?_)
   exact ⟨_, H, F.re ⟨rfl, Aa, trivial⟩, W⟩
  have H := AV (Bw hb) H
  rw [hb] at F
  clear hb
  refine Ah (Ab ?_)
  refine ls F W Aa (Ae F Aa).q fun a w F W => ?_
  refine ls F W Aa (Bo F Aa Aa).q fun a w F W => ?_
  refine Ad (Ac ?_)
  refine AE F Aa (fun hb => ?_) fun hb => ?_
  ·
   have H := AU (Bz hb) H
   rw [hb] at F
   clear hb
   refine Ab ?_
   refine ls F W Aa (Ae F Aa).q fun a w F W => ?_
   refine ls F W Aa (Qr F Aa).q fun a w F W => ?_
   refine ls F W Aa (Af F Aa).q fun a w F W => ?_
   refine Ad (Ac ?_)
   exact ⟨_, H, F.re ⟨rfl, Aa, trivial⟩, W⟩
  have H := AV (Bw hb) H
  rw [hb] at F
  clear hb
  refine Az (Ac ?_)
  exact ⟨_, H, F.re ⟨rfl, Aa, trivial⟩, W⟩
 rintro a w ⟨x1, hj, F, W⟩
 have hj := A1 hj
 subst hj
 have H := K1
 clear G1 K1
 refine Ah (Ab ?_)
 refine ls F W Aa (Ae F Aa).q fun a w F W => ?_
 refine ls F W Aa (MD F Aa Aa).q fun a w F W => ?_
 refine ls F W Aa (Af F Aa).q fun a w F W => ?_
 refine Ad (Ac (AC ?_))
 have H := A1 H
 subst H
 refine A2 (.inl Aa) F W Aa (Aw F Aa) ?_
 exact ⟨rfl, W.done⟩
theorem SN : type_of% Try.underlying2 := Try.underlying2
theorem R5 : Has Try.prog 89 := ⟨fun args w => Aj Try.func89 rfl (by decide) args w⟩
def C3 (p0 : Nat) : Bool := decide ((BH (p0 : Int)) < 0)
theorem I4 (Y : Nat → Prop) (w0 : World)  (p0 : Nat) (r : Bool) (H : C3 p0 = r)  :
    Calls Try.prog 90 #[.float .f64 p0] w0 fun e w' => e = .returned (.bool r) ∧ Below w0.heap.size w0 w' := by
 refine enter Try.func90 Aa Try.ntmps90 Aa fun a F => ?_
 have W := Stw.start Y w0
 unfold C3 at H
 refine Ah (Ab ?_)
 refine ls F W Aa (Af F Aa).q fun a w F W => ?_
 refine Ad (Ac (Ah (Ab ?_)))
 refine ls F W Aa (Ae F Aa).q fun a w F W => ?_
 refine ls F W Aa (J0 (v := Value.int .u64 (p0 : Int)) F Sb Aa (fun w => rfl)).q fun a w F W => ?_
 refine ls F W Aa (Ej Q7 SN F Aa).q fun a w F W => ?_
 refine ls F W Aa (Bo F Aa Aa).q fun a w F W => ?_
 refine ls F W Aa (Af F Aa).q fun a w F W => ?_
 refine Ad (Ac (AC ?_))
 subst H
 refine A2 (.inl Aa) F W Aa (Aw F Aa) ?_
 exact ⟨rfl, W.done⟩
theorem S7 : Has Try.prog 90 := ⟨fun args w => Aj Try.func90 rfl (by decide) args w⟩
noncomputable def Dr (p0 : Nat) : Option Int := (if (B4 p0) = true then some 0 else (CI p0 (-1)).bind fun x1 => (if x1 = true then some 1 else (if (Ng p0 0) = true then some 2 else (CI p0 1).bind fun x2 => (if x2 = true then some 6 else (if (N8 p0 0) = true then some 5 else (if (C3 p0) = true then some 3 else some 4))))))
theorem JU (Y : Nat → Prop) (w0 : World)  (p0 : Nat) (r : Int) (H : Dr p0 = some r)  :
    Calls Try.prog 79 #[.float .f64 p0] w0 fun e w' => e = .returned (.int .i64 r) ∧ Below w0.heap.size w0 w' := by
 refine enter Try.func79 Aa Try.ntmps79 Aa fun a F => ?_
 have W := Stw.start Y w0
 unfold Dr at H
 refine Ah (Ab ?_)
 refine ls F W Aa (Af F Aa).q fun a w F W => ?_
 refine Ad (Ac (Ah (Ay (Ah (Ab ?_)))))
 refine ls F W Aa (Ae F Aa).q fun a w F W => ?_
 refine ls F W Aa (AZ (v := Value.bool (B4 p0)) F Se Aa (fun w W => HX any w p0 _ Aa)) fun a w F W => ?_
 refine ls F W Aa (Af F Aa).q fun a w F W => ?_
 refine Ad (Ac ?_)
 refine AE F Aa (fun hb => ?_) fun hb => ?_
 ·
  have H := AU hb H
  rw [hb] at F
  clear hb
  refine Ah (Ab ?_)
  refine ls F W Aa (Af F Aa).q fun a w F W => ?_
  refine Ad (Ac (AC (A5 (AO ?_))))
  have H := A1 H
  subst H
  refine A2 (.inl Aa) F W Aa (Aw F Aa) ?_
  exact ⟨rfl, W.done⟩
 have H := AV (by rw [hb]; decide) H
 rw [hb] at F
 clear hb
 refine Ah (Ab ?_)
 refine ls F W Aa (Ae F Aa).q fun a w F W => ?_
 obtain ⟨x1, h1, H⟩ := Al H
 refine ls F W Aa (AZ (v := Value.bool x1) F R5 Aa (fun w W => HT any w p0 (-1) _ h1)) fun a w F W => ?_
 refine ls F W Aa (Af F Aa).q fun a w F W => ?_
 refine Ad (Ac ?_)
 refine AE F Aa (fun hb => ?_) fun hb => ?_
 ·
  have H := AU hb H
  rw [hb] at F
  clear hb
  refine Ah (Ab ?_)
  refine ls F W Aa (Af F Aa).q fun a w F W => ?_
  refine Ad (Ac (AC (A5 (AO ?_))))
  have H := A1 H
  subst H
  refine A2 (.inl Aa) F W Aa (Aw F Aa) ?_
  exact ⟨rfl, W.done⟩
 have H := AV (by rw [hb]; decide) H
 rw [hb] at F
 clear hb
 refine Ah (Ab ?_)
 refine ls F W Aa (Ae F Aa).q fun a w F W => ?_
 refine ls F W Aa (KR F Aa Aa).q fun a w F W => ?_
 refine ls F W Aa (Af F Aa).q fun a w F W => ?_
 refine Ad (Ac ?_)
 refine AE F Aa (fun hb => ?_) fun hb => ?_
 ·
  have H := AU hb H
  rw [hb] at F
  clear hb
  refine Ah (Ab ?_)
  refine ls F W Aa (Af F Aa).q fun a w F W => ?_
  refine Ad (Ac (AC (A5 (AO ?_))))
  have H := A1 H
  subst H
  refine A2 (.inl Aa) F W Aa (Aw F Aa) ?_
  exact ⟨rfl, W.done⟩
 have H := AV (by rw [hb]; decide) H
 rw [hb] at F
 clear hb
 refine Ah (Ab ?_)
 refine ls F W Aa (Ae F Aa).q fun a w F W => ?_
 obtain ⟨x2, h2, H⟩ := Al H
 refine ls F W Aa (AZ (v := Value.bool x2) F R5 Aa (fun w W => HT any w p0 1 _ h2)) fun a w F W => ?_
 refine ls F W Aa (Af F Aa).q fun a w F W => ?_
 refine Ad (Ac ?_)
 refine AE F Aa (fun hb => ?_) fun hb => ?_
 ·
  have H := AU hb H
  rw [hb] at F
  clear hb
  refine Ah (Ab ?_)
  refine ls F W Aa (Af F Aa).q fun a w F W => ?_
  refine Ad (Ac (AC (A5 (AO ?_))))
  have H := A1 H
  subst H
  refine A2 (.inl Aa) F W Aa (Aw F Aa) ?_
  exact ⟨rfl, W.done⟩
 have H := AV (by rw [hb]; decide) H
 rw [hb] at F
 clear hb
 refine Ah (Ab ?_)
 refine ls F W Aa (Ae F Aa).q fun a w F W => ?_
 refine ls F W Aa (MD F Aa Aa).q fun a w F W => ?_
 refine ls F W Aa (Af F Aa).q fun a w F W => ?_
 refine Ad (Ac ?_)
 refine AE F Aa (fun hb => ?_) fun hb => ?_
 ·
  have H := AU hb H
  rw [hb] at F
  clear hb
  refine Ah (Ab ?_)
  refine ls F W Aa (Af F Aa).q fun a w F W => ?_
  refine Ad (Ac (AC (A5 (AO ?_))))
  have H := A1 H
  subst H
  refine A2 (.inl Aa) F W Aa (Aw F Aa) ?_
  exact ⟨rfl, W.done⟩
 have H := AV (by rw [hb]; decide) H
 rw [hb] at F
 clear hb
 refine Ah (Ab ?_)
 refine ls F W Aa (Ae F Aa).q fun a w F W => ?_
 refine ls F W Aa (AZ (v := Value.bool (C3 p0)) F S7 Aa (fun w W => I4 any w p0 _ Aa)) fun a w F W => ?_
 refine ls F W Aa (Af F Aa).q fun a w F W => ?_
 refine Ad (Ac ?_)
 refine AE F Aa (fun hb => ?_) fun hb => ?_
 ·
  have H := AU hb H
  rw [hb] at F
  clear hb
  refine Ah (Ab ?_)
  refine ls F W Aa (Af F Aa).q fun a w F W => ?_
  refine Ad (Ac (AC (A5 (AO ?_))))
  have H := A1 H
  subst H
  refine A2 (.inl Aa) F W Aa (Aw F Aa) ?_
  exact ⟨rfl, W.done⟩
 have H := AV (by rw [hb]; decide) H
 rw [hb] at F
 clear hb
 refine Az (AS (Ac (Ah (Ab ?_))))
 refine ls F W Aa (Af F Aa).q fun a w F W => ?_
 refine Ad (Ac (AC ?_))
 have H := A1 H
 subst H
 refine A2 (.inl Aa) F W Aa (Aw F Aa) ?_
 exact ⟨rfl, W.done⟩
theorem SD : Has Try.prog 79 := ⟨fun args w => Aj Try.func79 rfl (by decide) args w⟩
noncomputable def Dm (p0 : Nat) : Option Int := (Dr p0).bind fun x1 => (if x1 ≠ 0 then some x1 else some 7)
theorem HL (Y : Nat → Prop) (w0 : World)  (p0 : Nat) (r : Int) (H : Dm p0 = some r)  :
    Calls Try.prog 54 #[.float .f64 p0] w0 fun e w' => e = .returned (.int .i64 r) ∧ Below w0.heap.size w0 w' := by
 refine enter Try.func54 Aa Try.ntmps54 Aa fun a F => ?_
 have W := Stw.start Y w0
 unfold Dm at H
 refine Ah (Ab ?_)
 refine ls F W Aa (Af F Aa).q fun a w F W => ?_
 refine Ad (Ac (Ah (Ah (Ab ?_))))
 refine ls F W Aa (Ae F Aa).q fun a w F W => ?_
 obtain ⟨x1, h1, H⟩ := Al H
 refine ls F W Aa (AZ (v := Value.int .i64 x1) F SD Aa (fun w W => JU any w p0 _ h1)) fun a w F W => ?_
 refine ls F W Aa (Af F Aa).q fun a w F W => ?_
 refine Ad (Ac (Ah (Ab ?_)))
 refine ls F W Aa (Ae F Aa).q fun a w F W => ?_
 refine ls F W Aa (Ja F Aa Aa).q fun a w F W => ?_
 refine Ad (Ac ?_)
 refine AE F Aa (fun hb => ?_) fun hb => ?_
 ·
  have H := AU (Bz hb) H
  rw [hb] at F
  clear hb
  refine Ah (Ab ?_)
  refine ls F W Aa (Ae F Aa).q fun a w F W => ?_
  refine ls F W Aa (Af F Aa).q fun a w F W => ?_
  refine Ad (Ac (AC (AO ?_)))
  have H := A1 H
  subst H
  refine A2 (.inl Aa) F W Aa (Aw F Aa) ?_
  exact ⟨rfl, W.done⟩
 have H := AV (Bw hb) H
 rw [hb] at F
 clear hb
 refine Az (Ac (Ah (Ab ?_)))
 refine ls F W Aa (Af F Aa).q fun a w F W => ?_
 refine Ad (Ac (AC ?_))
 have H := A1 H
 subst H
 refine A2 (.inl Aa) F W Aa (Aw F Aa) ?_
 exact ⟨rfl, W.done⟩
end Go.Proofs.Ytbogijdfacoccaa
