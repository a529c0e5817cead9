/- The functions of layer 19, FD. Conditions: none. -/
import Derived.Test.YtbogijdfacoccaaRows
import Derived.Test.YtbogijdfacoccaacOF
import Derived.Test.YtbogijdfacoccaacOT
import Derived.Test.YtbogijdfacoccaacQT
import Derived.Test.YtbogijdfacoccaacOD
import Derived.Test.YtbogijdfacoccaacRF
import Derived.Test.YtbogijdfacoccaacDR
import Derived.Test.YtbogijdfacoccaacOC
import Derived.Test.YtbogijdfacoccaacOM
import Derived.Test.YtbogijdfacoccaacRF
import Derived.Test.YtbogijdfacoccaacDR
import Derived.Test.YtbogijdfacoccaacOX
namespace Go.Proofs.Ytbogijdfacoccaa
open Go Go.RowKit
set_option linter.unusedVariables false
set_option linter.unusedSimpArgs false
set_option maxRecDepth 20000
theorem Ic : type_of% Try.underlying22 := Try.underlying22
theorem Kg : type_of% Try.underlying23 := Try.underlying23
theorem CA : type_of% Try.underlying25 := Try.underlying25
theorem Ol : type_of% Try.underlying26 := Try.underlying26
abbrev E5 : Rp (Int × Int × Int × Int × Int × Int) := (Rp.pair (Rp.int .i64) (Rp.pair (Rp.int .i64) (Rp.pair (Rp.int .i64) (Rp.pair (Rp.int .i64) (Rp.pair (Rp.int .i64) (Rp.int .i64))))))
abbrev Fk : Rp (Int × Int) := (Rp.pair (Rp.int .i64) (Rp.int .i64))
theorem I2 : Ty Try.prog 25 true 3 := ⟨by kernel_rfl, by kernel_rfl⟩
theorem Hu : Ty Try.prog 22 false 1 := ⟨by kernel_rfl, by kernel_rfl⟩
theorem Ht : Ty Try.prog 23 false 1 := ⟨by kernel_rfl, by kernel_rfl⟩
def Ed (p0 : Int × (List (Int × Int × Int × Int × Int × Int)) × (List (Int × Int))) (p1 : List Int) : Bool := (decide ((p0.2.1.length : Int) ≤ 30) && (decide ((p0.2.2.length : Int) ≤ 12) && decide ((p1.length : Int) ≤ 30)))
theorem KJ (Y : Nat → Prop) (w0 : World) (v1 : Value) (v2 : Value) (v3 : Value) (p0 : Int × (List (Int × Int × Int × Int × Int × Int)) × (List (Int × Int))) (p1 : List Int) (r : Bool) (H : Ed p0 p1 = r) (h_v1 : Sl w0 (NX []) E5 v1 p0.2.1) (h_v2 : Sl w0 (NX []) Fk v2 p0.2.2) (h_v3 : Sl w0 (NX []) (Rp.int .u64) v3 p1) :
    Calls Try.prog 7 #[.agg #[.int .i64 p0.1, v1, v2], v3] w0 fun e w' => e = .returned (.bool r) ∧ Below w0.heap.size w0 w' := by
 refine enter Try.func7 Aa Try.ntmps7 Aa fun a F => ?_
 have W := Stw.start Y w0
 unfold Ed at H
 refine Ah (Ab ?_)
 refine DX (cs := [.int .i64 p0.1, v1, v2]) F W Aa Aa Aa fun b1 a w F W => ?_
 refine ls F W Aa (Ae F Aa).q fun a w F W => ?_
 refine Ad (Ac ?_)
 refine AJ (fun a w => Fr 20 [] [(4, .bool (decide ((p0.2.1.length : Int) ≤ 30) && (decide ((p0.2.2.length : Int) ≤ 12) && decide ((p1.length : Int) ≤ 30))))] a ∧ Stw ⟨Y, [], w0⟩ [(b1, [.int .i64 p0.1, v1, v2])] [] w) ?_ ?_
 ·
  refine Ab ?_
  refine ls F W Aa (Ai CA Aa Aa Aa Hu F Aa 1 Aa).q fun a w F W => ?_
  refine ls F W Aa (An (v := v1) 0 F Aa Aa Hu Aa).q fun a w F W => ?_
  refine ls F W Aa (Br (r := E5) (l := p0.2.1) Ic Aa F Aa (Am h_v1)).q fun a w F W => ?_
  refine ls F W Aa (IV F Aa Aa).q fun a w F W => ?_
  refine ls F W Aa (Af F Aa).q fun a w F W => ?_
  rcases Bool.eq_false_or_eq_true (decide ((p0.2.1.length : Int) ≤ 30)) with hb0 | hb0
  ·
   rw [hb0] at F
   refine AB F W (Ag F Aa Aa Aa Aa) Aa (Ak Aa) (Ai CA Aa Aa Aa Ht F Aa 2 Aa).q fun a w F W => ?_
   refine AB F W (Ag F Aa Aa Aa Aa) Aa (Ak Aa) (An (v := v2) 0 F Aa Aa Ht Aa).q fun a w F W => ?_
   refine AB F W (Ag F Aa Aa Aa Aa) Aa (Ak Aa) (Br (r := Fk) (l := p0.2.2) Kg Aa F Aa (Am h_v2)).q fun a w F W => ?_
   refine AB F W (Ag F Aa Aa Aa Aa) Aa (Ak Aa) (IV F Aa Aa).q fun a w F W => ?_
   refine ls F W Aa (Ao F Aa Aa Aa).q fun a w F W => ?_
   refine ls F W Aa (Af F Aa).q fun a w F W => ?_
   rcases Bool.eq_false_or_eq_true (decide ((p0.2.2.length : Int) ≤ 12)) with hb1 | hb1
   ·
    rw [hb1] at F
    refine AB F W (Ag F Aa Aa Aa Aa) Aa (Ak Aa) (Af F Aa).q fun a w F W => ?_
    refine AB F W (Ag F Aa Aa Aa Aa) Aa (Ak Aa) (Br (r := (Rp.int .u64)) (l := p1) Ol Aa F Aa (Am h_v3)).q fun a w F W => ?_
    refine AB F W (Ag F Aa Aa Aa Aa) Aa (Ak Aa) (IV F Aa Aa).q fun a w F W => ?_
    refine ls F W Aa (Ao F Aa Aa Aa).q fun a w F W => ?_
    refine ls F W Aa (Ae F Aa).q fun a w F W => ?_
    refine Ad (Ac ?_)
    exact ⟨F.re ⟨(by show some (Value.bool (decide ((p1.length : Int) ≤ 30))) = some (Value.bool (decide ((p0.2.1.length : Int) ≤ 30) && (decide ((p0.2.2.length : Int) ≤ 12) && decide ((p1.length : Int) ≤ 30)))); try rw [hb0]; try rw [hb1]; all_goals simp only [Bool.not_true, Bool.not_false, Bool.true_and, Bool.false_and, Bool.true_or, Bool.false_or, Bool.and_true, Bool.or_false, cond_true, cond_false]), trivial⟩, W⟩
   rw [hb1] at F
   iterate 3 refine Ct F Aa Aa Aa Aa Aa Aa Aa fun a F => ?_
   refine ls F W Aa (Aq F Aa Aa Aa).q fun a w F W => ?_
   refine ls F W Aa (Ae F Aa).q fun a w F W => ?_
   refine Ad (Ac ?_)
   exact ⟨F.re ⟨(by show some (Value.bool false) = some (Value.bool (decide ((p0.2.1.length : Int) ≤ 30) && (decide ((p0.2.2.length : Int) ≤ 12) && decide ((p1.length : Int) ≤ 30)))); try rw [hb0]; try rw [hb1]; all_goals simp only [Bool.not_true, Bool.not_false, Bool.true_and, Bool.false_and, Bool.true_or, Bool.false_or, Bool.and_true, Bool.or_false, cond_true, cond_false]), trivial⟩, W⟩
  rw [hb0] at F
  iterate 4 refine Ct F Aa Aa Aa Aa Aa Aa Aa fun a F => ?_
  refine ls F W Aa (Aq F Aa Aa Aa).q fun a w F W => ?_
  refine ls F W Aa (Af F Aa).q fun a w F W => ?_
  iterate 3 refine Ct F Aa Aa Aa Aa Aa Aa Aa fun a F => ?_
  refine ls F W Aa (Aq F Aa Aa Aa).q fun a w F W => ?_
  refine ls F W Aa (Ae F Aa).q fun a w F W => ?_
  refine Ad (Ac ?_)
  exact ⟨F.re ⟨(by show some (Value.bool false) = some (Value.bool (decide ((p0.2.1.length : Int) ≤ 30) && (decide ((p0.2.2.length : Int) ≤ 12) && decide ((p1.length : Int) ≤ 30)))); try rw [hb0]; all_goals simp only [Bool.not_true, Bool.not_false, Bool.true_and, Bool.false_and, Bool.true_or, Bool.false_or, Bool.and_true, Bool.or_false, cond_true, cond_false]), trivial⟩, W⟩
 rintro a w ⟨F, W⟩
 refine Az ?_
 subst H
 refine A0 (.inl Aa) F W Aa (Au F Aa) ?_
 exact ⟨rfl, W.done⟩
theorem JQ : type_of% Try.underlying29 := Try.underlying29
theorem JO : type_of% Try.underlying52 := Try.underlying52
theorem CR : type_of% Try.underlying62 := Try.underlying62
theorem KT : type_of% Try.underlying86 := Try.underlying86
theorem Pk : type_of% Try.underlying105 := Try.underlying105
theorem H7 : Has Try.prog 7 := ⟨fun args w => Aj Try.func7 rfl (by decide) args w⟩
theorem QE : Bt Try.prog 62 [.int .i64 0, .int .i64 0, .int .i64 0, .int .i64 0, .int .i64 0, .int .i64 0] [(0, 1), (1, 1), (2, 1), (3, 1), (4, 1), (5, 1)] := ⟨⟨.agg #[.int .i64 0, .int .i64 0, .int .i64 0, .int .i64 0, .int .i64 0, .int .i64 0], by kernel_rfl, rfl⟩, ⟨_, CR, fun w => by kernel_rfl⟩⟩
theorem PZ : (Try.prog.info? 62).bind (·.zero) = some (.agg #[.int .i64 0, .int .i64 0, .int .i64 0, .int .i64 0, .int .i64 0, .int .i64 0]) := by kernel_rfl
def RE (a : Int × Int × Int × Int × Int × Int) : List Value := [.int .i64 a.1, .int .i64 a.2.1, .int .i64 a.2.2.1, .int .i64 a.2.2.2.1, .int .i64 a.2.2.2.2.1, .int .i64 a.2.2.2.2.2]
theorem PG : Fl E5 RE := (Fl.pair Fl.int (Fl.pair Fl.int (Fl.pair Fl.int (Fl.pair Fl.int (Fl.pair Fl.int Fl.int)))))
theorem Pp : Et Try.prog 22 62 6 48 := Et.of Ic (by kernel_rfl) (by kernel_rfl) (by kernel_rfl) (by decide)
theorem RL : Bt Try.prog 52 [.int .i64 0, .int .i64 0] [(0, 1), (1, 1)] := ⟨⟨.agg #[.int .i64 0, .int .i64 0], by kernel_rfl, rfl⟩, ⟨_, JO, fun w => by kernel_rfl⟩⟩
theorem Q3 : (Try.prog.info? 52).bind (·.zero) = some (.agg #[.int .i64 0, .int .i64 0]) := by kernel_rfl
def RV (a : Int × Int) : List Value := [.int .i64 a.1, .int .i64 a.2]
theorem Pn : Fl Fk RV := (Fl.pair Fl.int Fl.int)
theorem Pl : Et Try.prog 23 52 2 16 := Et.of Kg (by kernel_rfl) (by kernel_rfl) (by kernel_rfl) (by decide)
theorem R1 : Bt Try.prog 25 [.int .i64 0, .slice none 0 0, .slice none 0 0] [(0, 1), (1, 1), (2, 1)] := ⟨⟨.agg #[.int .i64 0, .slice none 0 0, .slice none 0 0], by kernel_rfl, rfl⟩, ⟨_, CA, fun w => by kernel_rfl⟩⟩
theorem Ri : (Try.prog.info? 25).bind (·.zero) = some (.agg #[.int .i64 0, .slice none 0 0, .slice none 0 0]) := by kernel_rfl
theorem Pj : (Try.prog.info? 56).bind (·.zero) = some (.float .f64 0) := by kernel_rfl
theorem Hy : Et Try.prog 29 56 1 8 := Et.of JQ (by kernel_rfl) (by kernel_rfl) (by kernel_rfl) (by decide)
theorem T3 : Ty Try.prog 3 false 1 := ⟨by kernel_rfl, by kernel_rfl⟩
abbrev GW (x : Int × Int) : Value := .agg #[.int .i64 x.1, .int .i64 x.2]
abbrev Fw (x : Unit) : Value := .agg #[]
theorem NR : Ty Try.prog 62 true 6 := ⟨by kernel_rfl, by kernel_rfl⟩
theorem QR : Bt Try.prog 86 [.int .i64 0, .int .i64 0] [(0, 1), (1, 1)] := ⟨⟨.agg #[.int .i64 0, .int .i64 0], by kernel_rfl, rfl⟩, ⟨_, KT, fun w => by kernel_rfl⟩⟩
theorem QM : (Try.prog.info? 86).bind (·.zero) = some (.agg #[.int .i64 0, .int .i64 0]) := by kernel_rfl
abbrev Hd : Rp (Int × Int) := (Rp.pair (Rp.int .i64) (Rp.int .i64))
def RU (a : Int × Int) : List Value := [.int .i64 a.1, .int .i64 a.2]
theorem QB : Fl Hd RU := (Fl.pair Fl.int Fl.int)
theorem Nt : Et Try.prog 105 86 2 16 := Et.of Pk (by kernel_rfl) (by kernel_rfl) (by kernel_rfl) (by decide)
theorem QU : Ty Try.prog 52 true 2 := ⟨by kernel_rfl, by kernel_rfl⟩
noncomputable def B7 (p0 : Int × (List (Int × Int × Int × Int × Int × Int)) × (List (Int × Int))) : ((List (Int × Int)) × Int) → Option (((List (Int × Int)) × Int) ⊕ (List (Int × Int)))
  | (x2, x3) => (if x3 < (p0.2.1.length : Int) then (ix p0.2.1 x3).bind fun x4 => (Hs x2 ([(x4.1, x4.2.1), (x4.2.2.1, x4.2.2.2.1)] : List (Int × Int))).bind fun x5 => some (.inl (x5, BN (x3 + 1))) else some (.inr x2))
noncomputable def B8 (p0 : Int × (List (Int × Int × Int × Int × Int × Int)) × (List (Int × Int))) : ((List (Int × Int)) × Int) → Option (((List (Int × Int)) × Int) ⊕ (List (Int × Int)))
  | (x7, x8) => (if x8 < (p0.2.2.length : Int) then (ix p0.2.2 x8).bind fun x9 => (Hs x7 ([x9] : List (Int × Int))).bind fun x10 => some (.inl (x10, BN (x8 + 1))) else some (.inr x7))
noncomputable def Db (p0 : Int × (List (Int × Int × Int × Int × Int × Int)) × (List (Int × Int))) : Option (List (Int × Int)) := (AM (B7 p0) ([], 0)).bind fun x1 => (AM (B8 p0) (x1, 0)).bind fun x6 => some x6
theorem I6 (Y : Nat → Prop) (w0 : World) (v1 : Value) (v2 : Value) (p0 : Int × (List (Int × Int × Int × Int × Int × Int)) × (List (Int × Int))) (r : (List (Int × Int))) (H : Db p0 = some r) (h_v1 : Sl w0 (NX []) E5 v1 p0.2.1) (h_v2 : Sl w0 (NX []) Fk v2 p0.2.2) :
    Calls Try.prog 63 #[.agg #[.int .i64 p0.1, v1, v2]] w0 fun e w' => ∃ x : Value, e = .returned (x) ∧ Stw ⟨Y, [], w0⟩ [] [row (x) 86 Hd r] w' := by
 refine enter Try.func63 Aa Try.ntmps63 Aa fun a F => ?_
 have W := Stw.start Y w0
 unfold Db at H
 refine Ah (Ab ?_)
 refine DX (cs := [.int .i64 p0.1, v1, v2]) F W Aa Aa Aa fun b1 a w F W => ?_
 refine ls F W Aa (Ae F Aa).q fun a w F W => ?_
 refine Ad (Ac (Ah (Ab ?_)))
 refine ls F W Aa (Ae F Aa).q fun a w F W => ?_
 refine Ad (Ac ?_)
 obtain ⟨o1, G1, K1⟩ := Al H
 refine AJ (fun a w => ∃ x1 : List (Int × Int), ∃ v3 : Value, some (x1) = some o1 ∧ Fr 46 [] [(1, .pointer (some ⟨b1, 0, none⟩)), (2, .slice none 0 0), (3, v3)] a ∧ Stw ⟨Y, [], w0⟩ [(b1, [.int .i64 p0.1, v1, v2])] [row v3 86 Hd x1] w) ?_ ?_
 ·
  have H := G1
  clear G1 K1
  refine Ah (Ab ?_)
  refine ls F W Aa (Ai CA Aa Aa Aa Hu F Aa 1 Aa).q fun a w F W => ?_
  refine ls F W Aa (An (v := v1) 0 F Aa Aa Hu Aa).q fun a w F W => ?_
  refine ls F W Aa (Br (r := E5) (l := p0.2.1) Ic Aa F Aa (Am h_v1)).q fun a w F W => ?_
  refine ls F W Aa (Af F Aa).q fun a w F W => ?_
  refine Ad (Ac (As ?_))
  have W := W.nilRow 86 Hd
  refine Be H (fun s a w => ∃ v4 : Value, Fr 46 [] [(1, .pointer (some ⟨b1, 0, none⟩)), (2, .slice none 0 0), (3, v4), (9, v1), (10, .int .i64 (p0.2.1.length : Int)), (11, .int .i64 s.2)] a ∧ Stw ⟨Y, [], w0⟩ [(b1, [.int .i64 p0.1, v1, v2])] [row v4 86 Hd s.1] w) ⟨(Value.slice none 0 0), F.re ⟨rfl, Aa, Aa, Aa, Aa, Aa, trivial⟩, W⟩ fun s o a w H L2 hR => ?_
  obtain ⟨x2, x3⟩ := s
  obtain ⟨v4, F, W⟩ := hR
  have F : Fr 46 [] [(1, .pointer (some ⟨b1, 0, none⟩)), (2, .slice none 0 0), (3, v4), (9, v1), (10, .int .i64 (p0.2.1.length : Int)), (11, .int .i64 x3)] a := F
  have W : Stw ⟨Y, [], w0⟩ [(b1, [.int .i64 p0.1, v1, v2])] [row v4 86 Hd x2] w := W
  rw [B7] at H
  refine Ah (Ab ?_)
  refine ls F W Aa (Bl F Aa Aa).q fun a w F W => ?_
  refine Ad (Ac (Ah ?_))
  refine AC F Aa (fun hb => ?_) fun hb => ?_
  ·
   have H := AW (BB hb) H
   rw [hb] at F
   clear hb
   refine Ax (Ac (Ah (As (Ah (Ab ?_)))))
   obtain ⟨x4, h1, H⟩ := Al H
   refine ls F W Aa (AF (r := E5) Pp F Aa Aa (Am h_v1) h1).q fun a w F W => ?_
   refine ls F W Aa (Aw (y := Value.agg #[.int .i64 x4.1, .int .i64 x4.2.1, .int .i64 x4.2.2.1, .int .i64 x4.2.2.2.1, .int .i64 x4.2.2.2.2.1, .int .i64 x4.2.2.2.2.2]) (j := 0) (i := x3) F Aa Aa (Am h_v1) h1 PG.to NR Aa).q fun a w F W => ?_
   refine Ck (cs := [.int .i64 0, .int .i64 0, .int .i64 0, .int .i64 0, .int .i64 0, .int .i64 0]) F W Aa PZ Aa fun b2 a w F W => ?_
   refine Cs (vs := [.int .i64 x4.1, .int .i64 x4.2.1, .int .i64 x4.2.2.1, .int .i64 x4.2.2.2.1, .int .i64 x4.2.2.2.2.1, .int .i64 x4.2.2.2.2.2]) (M' := [(b2, [.int .i64 x4.1, .int .i64 x4.2.1, .int .i64 x4.2.2.1, .int .i64 x4.2.2.2.1, .int .i64 x4.2.2.2.2.1, .int .i64 x4.2.2.2.2.2]), (b1, [.int .i64 p0.1, v1, v2])]) 0 F W Aa Aa Aa NR Aa Aa Aa Aa Aa fun w W => ?_
   refine Ad (Ac (Ab ?_))
   refine ls F W Aa (Af F Aa).q fun a w F W => ?_
   refine ls F W Aa (Ai CR Aa Aa Aa T3 F Aa 0 Aa).q fun a w F W => ?_
   refine ls F W Aa (An (v := Value.int .i64 x4.1) 0 F Aa Aa T3 Aa).q fun a w F W => ?_
   refine ls F W Aa (Ai CR Aa Aa Aa T3 F Aa 1 Aa).q fun a w F W => ?_
   refine ls F W Aa (An (v := Value.int .i64 x4.2.1) 0 F Aa Aa T3 Aa).q fun a w F W => ?_
   refine ls F W Aa (DU (v := Value.agg #[.int .i64 x4.1, .int .i64 x4.2.1]) QR F Aa Aa Aa).q fun a w F W => ?_
   refine ls F W Aa (Ai CR Aa Aa Aa T3 F Aa 2 Aa).q fun a w F W => ?_
   refine ls F W Aa (An (v := Value.int .i64 x4.2.2.1) 0 F Aa Aa T3 Aa).q fun a w F W => ?_
   refine ls F W Aa (Ai CR Aa Aa Aa T3 F Aa 3 Aa).q fun a w F W => ?_
   refine ls F W Aa (An (v := Value.int .i64 x4.2.2.2.1) 0 F Aa Aa T3 Aa).q fun a w F W => ?_
   refine ls F W Aa (DU (v := Value.agg #[.int .i64 x4.2.2.1, .int .i64 x4.2.2.2.1]) QR F Aa Aa Aa).q fun a w F W => ?_
   refine D9 (z := Value.agg #[.int .i64 0, .int .i64 0]) (cs := [.int .i64 x4.1, .int .i64 x4.2.1, .int .i64 x4.2.2.1, .int .i64 x4.2.2.2.1]) Hd ([(x4.1, x4.2.1), (x4.2.2.1, x4.2.2.2.1)] : List (Int × Int)) F W Aa Nt QM Aa Aa Aa Aa Aa Aa (QB.repL _ _ ([(x4.1, x4.2.1), (x4.2.2.1, x4.2.2.2.1)] : List (Int × Int))) fun v5 a w F W => ?_
   obtain ⟨x5, h2, H⟩ := Al H
   refine Dr (r := Hd) (i := 1) F W Aa Nt Aa Aa Aa Aa (DA W 0 Aa) h2 Aa fun v6 a w F W => ?_
   have W : Stw ⟨Y, [], w0⟩ [(b2, [.int .i64 x4.1, .int .i64 x4.2.1, .int .i64 x4.2.2.1, .int .i64 x4.2.2.2.1, .int .i64 x4.2.2.2.2.1, .int .i64 x4.2.2.2.2.2]), (b1, [.int .i64 p0.1, v1, v2])] [row v6 86 Hd x5, row v5 86 Hd ([(x4.1, x4.2.1), (x4.2.2.1, x4.2.2.2.1)] : List (Int × Int))] w := W
   refine ls F W Aa (Ae F Aa).q fun a w F W => ?_
   refine Ad (AO (Ac (Ab ?_)))
   refine ls F W Aa (BQ F Aa Aa Aa).q fun a w F W => ?_
   refine ls F W Aa (Af F Aa).q fun a w F W => ?_
   refine Ad (Ac ?_)
   have W := W.frontM (i := 1) Aa Aa
   have W := W.sub (M' := [(b1, [.int .i64 p0.1, v1, v2])]) (Z' := [row v6 86 Hd x5]) (List.Sublist.cons_cons _ (List.nil_sublist _)) (List.Sublist.cons_cons _ (List.nil_sublist _))
   exact ⟨_, H, (v6), F.re ⟨rfl, Aa, Aa, Aa, Aa, Aa, trivial⟩, W⟩
  have H := AV (BD hb) H
  rw [hb] at F
  clear hb
  refine Bg ?_
  iterate 2 refine BJ ?_
  refine Bh (Ac ?_)
  have H := L2 _ H
  exact ⟨_, (v4), H, F.re ⟨rfl, Aa, Aa, trivial⟩, W⟩
 rintro a w ⟨x1, v3, hj, F, W⟩
 have hj := AX hj
 subst hj
 have H := K1
 clear G1 K1
 obtain ⟨o3, G3, K3⟩ := Al H
 refine AJ (fun a w => ∃ x6 : List (Int × Int), ∃ v7 : Value, some (x6) = some o3 ∧ Fr 46 [] [(2, .slice none 0 0), (3, v7)] a ∧ Stw ⟨Y, [], w0⟩ [(b1, [.int .i64 p0.1, v1, v2])] [row v7 86 Hd x6] w) ?_ ?_
 ·
  have H := G3
  clear G3 K3
  refine Ah (Ab ?_)
  refine ls F W Aa (Ai CA Aa Aa Aa Ht F Aa 2 Aa).q fun a w F W => ?_
  refine ls F W Aa (An (v := v2) 0 F Aa Aa Ht Aa).q fun a w F W => ?_
  refine ls F W Aa (Br (r := Fk) (l := p0.2.2) Kg Aa F Aa (Am h_v2)).q fun a w F W => ?_
  refine ls F W Aa (Af F Aa).q fun a w F W => ?_
  refine Ad (Ac (As ?_))
  refine Be H (fun s a w => ∃ v8 : Value, Fr 46 [] [(2, .slice none 0 0), (3, v8), (30, v2), (31, .int .i64 (p0.2.2.length : Int)), (32, .int .i64 s.2)] a ∧ Stw ⟨Y, [], w0⟩ [(b1, [.int .i64 p0.1, v1, v2])] [row v8 86 Hd s.1] w) ⟨(v3), F.re ⟨rfl, Aa, Aa, Aa, Aa, trivial⟩, W⟩ fun s o a w H L4 hR => ?_
  obtain ⟨x7, x8⟩ := s
  obtain ⟨v8, F, W⟩ := hR
  have F : Fr 46 [] [(2, .slice none 0 0), (3, v8), (30, v2), (31, .int .i64 (p0.2.2.length : Int)), (32, .int .i64 x8)] a := F
  have W : Stw ⟨Y, [], w0⟩ [(b1, [.int .i64 p0.1, v1, v2])] [row v8 86 Hd x7] w := W
  rw [B8] at H
  refine Ah (Ab ?_)
  refine ls F W Aa (Bl F Aa Aa).q fun a w F W => ?_
  refine Ad (Ac (Ah ?_))
  refine AC F Aa (fun hb => ?_) fun hb => ?_
  ·
   have H := AW (BB hb) H
   rw [hb] at F
   clear hb
   refine Ax (Ac (Ah (As (Ah (Ab ?_)))))
   obtain ⟨x9, h3, H⟩ := Al H
   refine ls F W Aa (AF (r := Fk) Pl F Aa Aa (Am h_v2) h3).q fun a w F W => ?_
   refine ls F W Aa (Aw (y := Value.agg #[.int .i64 x9.1, .int .i64 x9.2]) (j := 0) (i := x8) F Aa Aa (Am h_v2) h3 Pn.to QU Aa).q fun a w F W => ?_
   refine Ck (cs := [.int .i64 0, .int .i64 0]) F W Aa Q3 Aa fun b3 a w F W => ?_
   refine Cs (vs := [.int .i64 x9.1, .int .i64 x9.2]) (M' := [(b3, [.int .i64 x9.1, .int .i64 x9.2]), (b1, [.int .i64 p0.1, v1, v2])]) 0 F W Aa Aa Aa QU Aa Aa Aa Aa Aa fun w W => ?_
   refine Ad (Ac (Ab ?_))
   refine ls F W Aa (Af F Aa).q fun a w F W => ?_
   refine ls F W Aa (Ai JO Aa Aa Aa T3 F Aa 0 Aa).q fun a w F W => ?_
   refine ls F W Aa (An (v := Value.int .i64 x9.1) 0 F Aa Aa T3 Aa).q fun a w F W => ?_
   refine ls F W Aa (Ai JO Aa Aa Aa T3 F Aa 1 Aa).q fun a w F W => ?_
   refine ls F W Aa (An (v := Value.int .i64 x9.2) 0 F Aa Aa T3 Aa).q fun a w F W => ?_
   refine ls F W Aa (DU (v := Value.agg #[.int .i64 x9.1, .int .i64 x9.2]) QR F Aa Aa Aa).q fun a w F W => ?_
   refine D9 (z := Value.agg #[.int .i64 0, .int .i64 0]) (cs := [.int .i64 x9.1, .int .i64 x9.2]) Hd ([x9] : List (Int × Int)) F W Aa Nt QM Aa Aa Aa Aa Aa Aa (QB.repL _ _ ([x9] : List (Int × Int))) fun v9 a w F W => ?_
   obtain ⟨x10, h4, H⟩ := Al H
   refine Dr (r := Hd) (i := 1) F W Aa Nt Aa Aa Aa Aa (DA W 0 Aa) h4 Aa fun v10 a w F W => ?_
   have W : Stw ⟨Y, [], w0⟩ [(b3, [.int .i64 x9.1, .int .i64 x9.2]), (b1, [.int .i64 p0.1, v1, v2])] [row v10 86 Hd x10, row v9 86 Hd ([x9] : List (Int × Int))] w := W
   refine ls F W Aa (Ae F Aa).q fun a w F W => ?_
   refine Ad (AO (Ac (Ab ?_)))
   refine ls F W Aa (BQ F Aa Aa Aa).q fun a w F W => ?_
   refine ls F W Aa (Af F Aa).q fun a w F W => ?_
   refine Ad (Ac ?_)
   have W := W.frontM (i := 1) Aa Aa
   have W := W.sub (M' := [(b1, [.int .i64 p0.1, v1, v2])]) (Z' := [row v10 86 Hd x10]) (List.Sublist.cons_cons _ (List.nil_sublist _)) (List.Sublist.cons_cons _ (List.nil_sublist _))
   exact ⟨_, H, (v10), F.re ⟨rfl, Aa, Aa, Aa, Aa, trivial⟩, W⟩
  have H := AV (BD hb) H
  rw [hb] at F
  clear hb
  refine Bg ?_
  iterate 2 refine BJ ?_
  refine Bh (Ac ?_)
  have H := L4 _ H
  exact ⟨_, (v8), H, F.re ⟨rfl, Aa, trivial⟩, W⟩
 rintro a w ⟨x6, v7, hj, F, W⟩
 have hj := AX hj
 subst hj
 have H := K3
 clear G3 K3
 refine Ah (Ab ?_)
 refine ls F W Aa (Af F Aa).q fun a w F W => ?_
 refine ls F W Aa (Ae F Aa).q fun a w F W => ?_
 refine Ad (Ac (Az ?_))
 have H := AX H
 subst H
 refine A0 (.inl Aa) F W Aa (Au F Aa) ?_
 have W := W.sub (M' := []) (Z' := [row v7 86 Hd x6]) (List.nil_sublist _) (List.Sublist.refl _)
 exact ⟨(v7), Aa, W⟩
theorem MU : type_of% Try.underlying3 := Try.underlying3
theorem Qh : type_of% Try.underlying107 := Try.underlying107
theorem R5 : Has Try.prog 63 := ⟨fun args w => Aj Try.func63 rfl (by decide) args w⟩
theorem Qr : Ty Try.prog 86 true 2 := ⟨by kernel_rfl, by kernel_rfl⟩
theorem QS (dd : Nat) (x0 : Int) (x1 : Int) (y0 : Int) (y1 : Int) (w : World) : (Op.equalIn (dd + 2) 86 (.agg #[.int .i64 x0, .int .i64 x1]) (.agg #[.int .i64 y0, .int .i64 y1])).run Try.prog w = .ok (decide (x0 = y0 ∧ x1 = y1)) w :=
  MQ (d := dd + 1) (rs := [decide (x0 = y0), decide (x1 = y1)]) KT (by kernel_rfl) ⟨rfl, L8 (d := dd + 0) rfl rfl MU T3 rfl rfl, rfl, L8 (d := dd + 0) rfl rfl MU T3 rfl rfl, trivial⟩ (by simp) w
theorem Rh (x0 : Int) (x1 : Int) (y0 : Int) (y1 : Int) (w : World) : (Op.equalIn 10000 86 (.agg #[.int .i64 x0, .int .i64 x1]) (.agg #[.int .i64 y0, .int .i64 y1])).run Try.prog w = .ok (decide (x0 = y0 ∧ x1 = y1)) w := QS 9998 x0 x1 y0 y1 w
theorem P4 : KeyEnc Try.prog 86 GW := ⟨⟨_, KT, .inl fun _ _ => rfl⟩, fun x y w => (Rh x.1 x.2 y.1 y.2 w).trans (by congr 1; exact decide_eq_decide.2 (by simp only [Prod.ext_iff])), fun b x w => H3 (m := 9999) (cs := List.toArray [.int .i64 x.1, .int .i64 x.2]) KT ⟨⟨_, KM T3 rfl, FO (m := 9998) MU⟩, ⟨_, KM T3 rfl, FO (m := 9998) MU⟩, trivial⟩ b w, fun x => by simp [Instr.sameBits]⟩
theorem P5 : (Try.prog.info? 107).bind (·.zero) = some (.agg #[]) := by kernel_rfl
theorem QI : Ty Try.prog 107 true 0 := ⟨by kernel_rfl, by kernel_rfl⟩
theorem QK : Bt Try.prog 107 [] [] := ⟨⟨.agg #[], by kernel_rfl, rfl⟩, ⟨_, Qh, fun w => by kernel_rfl⟩⟩
def A8 (p0 : Int × Int × Int × Int × Int × Int) : Bool := (decide (p0.1 = p0.2.2.1) || (decide (p0.2.2.2.2.1 < 1) || (decide (p0.2.2.2.2.2 < p0.2.2.2.2.1) || decide (1000 < p0.2.2.2.2.2))))
theorem HK (Y : Nat → Prop) (w0 : World)  (p0 : Int × Int × Int × Int × Int × Int) (r : Bool) (H : A8 p0 = r)  :
    Calls Try.prog 65 #[.agg #[.int .i64 p0.1, .int .i64 p0.2.1, .int .i64 p0.2.2.1, .int .i64 p0.2.2.2.1, .int .i64 p0.2.2.2.2.1, .int .i64 p0.2.2.2.2.2]] w0 fun e w' => e = .returned (.bool r) ∧ Below w0.heap.size w0 w' := by
 refine enter Try.func65 Aa Try.ntmps65 Aa fun a F => ?_
 have W := Stw.start Y w0
 unfold A8 at H
 refine Ah (Ab ?_)
 refine DX (cs := [.int .i64 p0.1, .int .i64 p0.2.1, .int .i64 p0.2.2.1, .int .i64 p0.2.2.2.1, .int .i64 p0.2.2.2.2.1, .int .i64 p0.2.2.2.2.2]) F W Aa Aa Aa fun b1 a w F W => ?_
 refine ls F W Aa (Ae F Aa).q fun a w F W => ?_
 refine Ad (Ac ?_)
 refine AJ (fun a w => Fr 25 [] [(2, .bool (decide (p0.1 = p0.2.2.1) || (decide (p0.2.2.2.2.1 < 1) || (decide (p0.2.2.2.2.2 < p0.2.2.2.2.1) || decide (1000 < p0.2.2.2.2.2)))))] a ∧ Stw ⟨Y, [], w0⟩ [(b1, [.int .i64 p0.1, .int .i64 p0.2.1, .int .i64 p0.2.2.1, .int .i64 p0.2.2.2.1, .int .i64 p0.2.2.2.2.1, .int .i64 p0.2.2.2.2.2])] [] w) ?_ ?_
 ·
  refine Ab ?_
  refine ls F W Aa (Ai CR Aa Aa Aa T3 F Aa 0 Aa).q fun a w F W => ?_
  refine ls F W Aa (An (v := Value.int .i64 p0.1) 0 F Aa Aa T3 Aa).q fun a w F W => ?_
  refine ls F W Aa (Ai CR Aa Aa Aa T3 F Aa 2 Aa).q fun a w F W => ?_
  refine ls F W Aa (An (v := Value.int .i64 p0.2.2.1) 0 F Aa Aa T3 Aa).q fun a w F W => ?_
  refine ls F W Aa (CM F Aa Aa).q fun a w F W => ?_
  refine ls F W Aa (Af F Aa).q fun a w F W => ?_
  rcases Bool.eq_false_or_eq_true (decide (p0.1 = p0.2.2.1)) with hb0 | hb0
  ·
   rw [hb0] at F
   iterate 3 refine Ct F Aa Aa Aa Aa Aa Aa Aa fun a F => ?_
   refine ls F W Aa (Ao F Aa Aa Aa).q fun a w F W => ?_
   refine ls F W Aa (Af F Aa).q fun a w F W => ?_
   iterate 5 refine Ct F Aa Aa Aa Aa Aa Aa Aa fun a F => ?_
   refine ls F W Aa (Ao F Aa Aa Aa).q fun a w F W => ?_
   refine ls F W Aa (Af F Aa).q fun a w F W => ?_
   iterate 3 refine Ct F Aa Aa Aa Aa Aa Aa Aa fun a F => ?_
   refine ls F W Aa (Ao F Aa Aa Aa).q fun a w F W => ?_
   refine ls F W Aa (Ae F Aa).q fun a w F W => ?_
   refine Ad (Ac ?_)
   exact ⟨F.re ⟨(by show some (Value.bool true) = some (Value.bool (decide (p0.1 = p0.2.2.1) || (decide (p0.2.2.2.2.1 < 1) || (decide (p0.2.2.2.2.2 < p0.2.2.2.2.1) || decide (1000 < p0.2.2.2.2.2))))); try rw [hb0]; all_goals simp only [Bool.not_true, Bool.not_false, Bool.true_and, Bool.false_and, Bool.true_or, Bool.false_or, Bool.and_true, Bool.or_false, cond_true, cond_false]), trivial⟩, W⟩
  rw [hb0] at F
  refine AB F W (Ag F Aa Aa Aa Aa) Aa (Ak Aa) (Ai CR Aa Aa Aa T3 F Aa 4 Aa).q fun a w F W => ?_
  refine AB F W (Ag F Aa Aa Aa Aa) Aa (Ak Aa) (An (v := Value.int .i64 p0.2.2.2.2.1) 0 F Aa Aa T3 Aa).q fun a w F W => ?_
  refine AB F W (Ag F Aa Aa Aa Aa) Aa (Ak Aa) (Bl F Aa Aa).q fun a w F W => ?_
  refine ls F W Aa (Aq F Aa Aa Aa).q fun a w F W => ?_
  refine ls F W Aa (Af F Aa).q fun a w F W => ?_
  rcases Bool.eq_false_or_eq_true (decide (p0.2.2.2.2.1 < 1)) with hb1 | hb1
  ·
   rw [hb1] at F
   iterate 5 refine Ct F Aa Aa Aa Aa Aa Aa Aa fun a F => ?_
   refine ls F W Aa (Ao F Aa Aa Aa).q fun a w F W => ?_
   refine ls F W Aa (Af F Aa).q fun a w F W => ?_
   iterate 3 refine Ct F Aa Aa Aa Aa Aa Aa Aa fun a F => ?_
   refine ls F W Aa (Ao F Aa Aa Aa).q fun a w F W => ?_
   refine ls F W Aa (Ae F Aa).q fun a w F W => ?_
   refine Ad (Ac ?_)
   exact ⟨F.re ⟨(by show some (Value.bool true) = some (Value.bool (decide (p0.1 = p0.2.2.1) || (decide (p0.2.2.2.2.1 < 1) || (decide (p0.2.2.2.2.2 < p0.2.2.2.2.1) || decide (1000 < p0.2.2.2.2.2))))); try rw [hb1]; try rw [hb0]; all_goals simp only [Bool.not_true, Bool.not_false, Bool.true_and, Bool.false_and, Bool.true_or, Bool.false_or, Bool.and_true, Bool.or_false, cond_true, cond_false]), trivial⟩, W⟩
  rw [hb1] at F
  refine AB F W (Ag F Aa Aa Aa Aa) Aa (Ak Aa) (Ai CR Aa Aa Aa T3 F Aa 5 Aa).q fun a w F W => ?_
  refine AB F W (Ag F Aa Aa Aa Aa) Aa (Ak Aa) (An (v := Value.int .i64 p0.2.2.2.2.2) 0 F Aa Aa T3 Aa).q fun a w F W => ?_
  refine AB F W (Ag F Aa Aa Aa Aa) Aa (Ak Aa) (Ai CR Aa Aa Aa T3 F Aa 4 Aa).q fun a w F W => ?_
  refine AB F W (Ag F Aa Aa Aa Aa) Aa (Ak Aa) (An (v := Value.int .i64 p0.2.2.2.2.1) 0 F Aa Aa T3 Aa).q fun a w F W => ?_
  refine AB F W (Ag F Aa Aa Aa Aa) Aa (Ak Aa) (Bl F Aa Aa).q fun a w F W => ?_
  refine ls F W Aa (Aq F Aa Aa Aa).q fun a w F W => ?_
  refine ls F W Aa (Af F Aa).q fun a w F W => ?_
  rcases Bool.eq_false_or_eq_true (decide (p0.2.2.2.2.2 < p0.2.2.2.2.1)) with hb2 | hb2
  ·
   rw [hb2] at F
   iterate 3 refine Ct F Aa Aa Aa Aa Aa Aa Aa fun a F => ?_
   refine ls F W Aa (Ao F Aa Aa Aa).q fun a w F W => ?_
   refine ls F W Aa (Ae F Aa).q fun a w F W => ?_
   refine Ad (Ac ?_)
   exact ⟨F.re ⟨(by show some (Value.bool true) = some (Value.bool (decide (p0.1 = p0.2.2.1) || (decide (p0.2.2.2.2.1 < 1) || (decide (p0.2.2.2.2.2 < p0.2.2.2.2.1) || decide (1000 < p0.2.2.2.2.2))))); try rw [hb2]; try rw [hb1]; try rw [hb0]; all_goals simp only [Bool.not_true, Bool.not_false, Bool.true_and, Bool.false_and, Bool.true_or, Bool.false_or, Bool.and_true, Bool.or_false, cond_true, cond_false]), trivial⟩, W⟩
  rw [hb2] at F
  refine AB F W (Ag F Aa Aa Aa Aa) Aa (Ak Aa) (Ai CR Aa Aa Aa T3 F Aa 5 Aa).q fun a w F W => ?_
  refine AB F W (Ag F Aa Aa Aa Aa) Aa (Ak Aa) (An (v := Value.int .i64 p0.2.2.2.2.2) 0 F Aa Aa T3 Aa).q fun a w F W => ?_
  refine AB F W (Ag F Aa Aa Aa Aa) Aa (Ak Aa) (DM F Aa Aa).q fun a w F W => ?_
  refine ls F W Aa (Aq F Aa Aa Aa).q fun a w F W => ?_
  refine ls F W Aa (Ae F Aa).q fun a w F W => ?_
  refine Ad (Ac ?_)
  exact ⟨F.re ⟨(by show some (Value.bool (decide (1000 < p0.2.2.2.2.2))) = some (Value.bool (decide (p0.1 = p0.2.2.1) || (decide (p0.2.2.2.2.1 < 1) || (decide (p0.2.2.2.2.2 < p0.2.2.2.2.1) || decide (1000 < p0.2.2.2.2.2))))); try rw [hb2]; try rw [hb1]; try rw [hb0]; all_goals simp only [Bool.not_true, Bool.not_false, Bool.true_and, Bool.false_and, Bool.true_or, Bool.false_or, Bool.and_true, Bool.or_false, cond_true, cond_false]), trivial⟩, W⟩
 rintro a w ⟨F, W⟩
 refine Az ?_
 subst H
 refine A0 (.inl Aa) F W Aa (Au F Aa) ?_
 exact ⟨rfl, W.done⟩
theorem RW : Has Try.prog 65 := ⟨fun args w => Aj Try.func65 rfl (by decide) args w⟩
noncomputable def Ay (p0 : List (Int × Int × Int × Int × Int × Int)) : Int → Option (Int ⊕ (Unit ⊕ Int))
  | x1 => (if x1 < (p0.length : Int) then (ix p0 x1).bind fun x2 => (if (A8 x2) = true then some (.inr (.inr x1)) else some (.inl (BN (x1 + 1)))) else some (.inr (.inl ())))
noncomputable def A1 (p0 : List (Int × Int × Int × Int × Int × Int)) : Option Int := Ii (AM (Ay p0) 0) fun _ => some (-1)
theorem Dl (Y : Nat → Prop) (w0 : World) (v1 : Value) (p0 : List (Int × Int × Int × Int × Int × Int)) (r : Int) (H : A1 p0 = some r) (h_v1 : Sl w0 (NX []) E5 v1 p0) :
    Calls Try.prog 83 #[v1, .func (.func 65) #[] #[]] w0 fun e w' => e = .returned (.int .i64 r) ∧ Below w0.heap.size w0 w' := by
 refine enter Try.func83 Aa Try.ntmps83 Aa fun a F => ?_
 have W := Stw.start Y w0
 unfold A1 at H
 refine Ah (Ab ?_)
 refine ls F W Aa (Ae F Aa).q fun a w F W => ?_
 refine Ad (Ac ?_)
 obtain ⟨o1, G1, K1, L1⟩ := Oz H
 refine AJ (fun a w => some (Sum.inl ()) = some o1 ∧ Fr 19 [] [(4, .int .i64 0)] a ∧ Stw ⟨Y, [], w0⟩ [] [] w) ?_ ?_
 ·
  have H := G1
  clear G1 K1
  refine Ah (Ab ?_)
  refine ls F W Aa (Af F Aa).q fun a w F W => ?_
  refine ls F W Aa (Br (r := E5) (l := p0) Ic Aa F Aa (Am h_v1)).q fun a w F W => ?_
  refine ls F W Aa (Af F Aa).q fun a w F W => ?_
  refine Ad (Ac (As ?_))
  refine Be H (fun s a w => Fr 19 [] [(0, v1), (1, .func (.func 65) #[] #[]), (4, .int .i64 0), (7, .int .i64 (p0.length : Int)), (8, .int .i64 s)] a ∧ Stw ⟨Y, [], w0⟩ [] [] w) ⟨F.re ⟨rfl, Aa, Aa, Aa, Aa, trivial⟩, W⟩ fun s o a w H L2 hR => ?_
  obtain ⟨x1, rfl⟩ : ∃ x, x = s := ⟨s, rfl⟩
  obtain ⟨F, W⟩ := hR
  have F : Fr 19 [] [(0, v1), (1, .func (.func 65) #[] #[]), (4, .int .i64 0), (7, .int .i64 (p0.length : Int)), (8, .int .i64 x1)] a := F
  have W : Stw ⟨Y, [], w0⟩ [] [] w := W
  rw [Ay] at H
  refine Ah (Ab ?_)
  refine ls F W Aa (Bl F Aa Aa).q fun a w F W => ?_
  refine Ad (Ac (Ah ?_))
  refine AC F Aa (fun hb => ?_) fun hb => ?_
  ·
   have H := AW (BB hb) H
   rw [hb] at F
   clear hb
   refine Ax (Ac (Ah (As (Ah (Ab ?_)))))
   refine ls F W Aa (Af F Aa).q fun a w F W => ?_
   refine ls F W Aa (Ae F Aa).q fun a w F W => ?_
   refine Ad (Ac (Ah (Ab ?_)))
   iterate 3 refine ls F W Aa (Af F Aa).q fun a w F W => ?_
   obtain ⟨x2, h1, H⟩ := Al H
   refine ls F W Aa (AF (r := E5) Pp F Aa Aa (Am h_v1) h1).q fun a w F W => ?_
   refine ls F W Aa (Aw (y := Value.agg #[.int .i64 x2.1, .int .i64 x2.2.1, .int .i64 x2.2.2.1, .int .i64 x2.2.2.2.1, .int .i64 x2.2.2.2.2.1, .int .i64 x2.2.2.2.2.2]) (j := 0) (i := x1) F Aa Aa (Am h_v1) h1 PG.to NR Aa).q fun a w F W => ?_
   refine ls F W Aa (Km (ws := [.agg #[.int .i64 x2.1, .int .i64 x2.2.1, .int .i64 x2.2.2.1, .int .i64 x2.2.2.2.1, .int .i64 x2.2.2.2.2.1, .int .i64 x2.2.2.2.2.2]]) (v := Value.bool (A8 x2)) F RW Aa (fun w W => HK any w x2 _ Aa)) fun a w F W => ?_
   refine Ad (Ac ?_)
   refine AC F Aa (fun hb => ?_) fun hb => ?_
   ·
    have H := AW hb H
    rw [hb] at F
    clear hb
    refine Ah (Ab ?_)
    refine ls F W Aa (Af F Aa).q fun a w F W => ?_
    refine ls F W Aa (Ae F Aa).q fun a w F W => ?_
    refine Ad (Ac (Az (A3 ?_)))
    iterate 2 refine AU ?_
    refine A3 (AU ?_)
    have H := L2 _ H
    have H := L1 _ H
    have H := AX H
    subst H
    refine A0 (.inl Aa) F W Aa (Au F Aa) ?_
    exact ⟨rfl, W.done⟩
   have H := AV (by rw [hb]; decide) H
   rw [hb] at F
   clear hb
   refine Ax (AO (Ac (Ab ?_)))
   refine ls F W Aa (BQ F Aa Aa Aa).q fun a w F W => ?_
   refine ls F W Aa (Af F Aa).q fun a w F W => ?_
   refine Ad (Ac ?_)
   exact ⟨_, H, F.re ⟨rfl, Aa, Aa, Aa, Aa, trivial⟩, W⟩
  have H := AV (BD hb) H
  rw [hb] at F
  clear hb
  refine Bg ?_
  iterate 2 refine BJ ?_
  refine Bh (Ac ?_)
  have H := L2 _ H
  exact ⟨H, F.re ⟨rfl, trivial⟩, W⟩
 rintro a w ⟨hj, F, W⟩
 have H := K1 _ hj
 clear hj G1 K1 L1
 refine Ah (Ab ?_)
 refine ls F W Aa (Ae F Aa).q fun a w F W => ?_
 refine Ad (Ac (Az ?_))
 have H := AX H
 subst H
 refine A0 (.inl Aa) F W Aa (Au F Aa) ?_
 exact ⟨rfl, W.done⟩
theorem RG : Has Try.prog 83 := ⟨fun args w => Aj Try.func83 rfl (by decide) args w⟩
noncomputable def AK (p0 : List (Int × Int × Int × Int × Int × Int)) : Option Bool := (A1 p0).bind fun x1 => some (decide (0 ≤ x1))
theorem C2 (Y : Nat → Prop) (w0 : World) (v1 : Value) (p0 : List (Int × Int × Int × Int × Int × Int)) (r : Bool) (H : AK p0 = some r) (h_v1 : Sl w0 (NX []) E5 v1 p0) :
    Calls Try.prog 64 #[v1, .func (.func 65) #[] #[]] w0 fun e w' => e = .returned (.bool r) ∧ Below w0.heap.size w0 w' := by
 refine enter Try.func64 Aa Try.ntmps64 Aa fun a F => ?_
 have W := Stw.start Y w0
 unfold AK at H
 refine Ah (Ab ?_)
 refine ls F W Aa (Ae F Aa).q fun a w F W => ?_
 refine Ad (Ac (Ah (Ab ?_)))
 iterate 2 refine ls F W Aa (Af F Aa).q fun a w F W => ?_
 obtain ⟨x1, h1, H⟩ := Al H
 refine ls F W Aa (AZ (v := Value.int .i64 x1) F RG Aa (fun w W => Dl any w (v1) p0 _ h1 (((Am h_v1) : D6 _ _ _ _ _ _) w W).nx)) fun a w F W => ?_
 refine ls F W Aa (Fa F Aa Aa).q fun a w F W => ?_
 refine ls F W Aa (Ae F Aa).q fun a w F W => ?_
 refine Ad (Ac (Az ?_))
 have H := AX H
 subst H
 refine A0 (.inl Aa) F W Aa (Au F Aa) ?_
 exact ⟨rfl, W.done⟩
theorem Pi : type_of% Try.underlying104 := Try.underlying104
theorem RP : Has Try.prog 64 := ⟨fun args w => Aj Try.func64 rfl (by decide) args w⟩
noncomputable def BG (p0 : Int × (List (Int × Int × Int × Int × Int × Int)) × (List (Int × Int))) (x2 : (List (Int × Int))) : (Int × (List ((Int × Int) × Unit))) → Option ((Int × (List ((Int × Int) × Unit))) ⊕ ((List ((Int × Int) × Unit)) ⊕ Bool))
  | (x3, x4) => (if x3 < (x2.length : Int) then (ix x2 x3).bind fun x5 => (if (decide (x5.1 < 0) || (decide (p0.1 ≤ x5.1) || (decide (x5.2 < 0) || decide (8 ≤ x5.2)))) = true then some (.inr (.inr false)) else (if ((Hv x4 x5).isSome) = true then some (.inr (.inr false)) else some (.inl (BN (x3 + 1), HB x4 x5 ())))) else some (.inr (.inl x4)))
noncomputable def DE (p0 : Int × (List (Int × Int × Int × Int × Int × Int)) × (List (Int × Int))) : Option Bool := (if (decide (p0.1 < 1) || (decide (8 < p0.1) || (decide (24 < (p0.2.1.length : Int)) || decide (8 < (p0.2.2.length : Int))))) = true then some false else Ii ((Db p0).bind fun x2 => AM (BG p0 x2) (0, ([] : List ((Int × Int) × Unit)))) fun x1 => (AK p0.2.1).bind fun x6 => some (!x6))
theorem JY (Y : Nat → Prop) (w0 : World) (v1 : Value) (v2 : Value) (p0 : Int × (List (Int × Int × Int × Int × Int × Int)) × (List (Int × Int))) (r : Bool) (H : DE p0 = some r) (h_v1 : Sl w0 (NX []) E5 v1 p0.2.1) (h_v2 : Sl w0 (NX []) Fk v2 p0.2.2) :
    Calls Try.prog 49 #[.agg #[.int .i64 p0.1, v1, v2]] w0 fun e w' => e = .returned (.bool r) ∧ Below w0.heap.size w0 w' := by
 refine enter Try.func49 Aa Try.ntmps49 Aa fun a F => ?_
 have W := Stw.start Y w0
 unfold DE at H
 refine Ah (Ab ?_)
 refine DX (cs := [.int .i64 p0.1, v1, v2]) F W Aa Aa Aa fun b1 a w F W => ?_
 refine ls F W Aa (Ae F Aa).q fun a w F W => ?_
 refine Ad (Ac (Ah ?_))
 refine AJ (fun a w => Fr 71 [] [(1, .pointer (some ⟨b1, 0, none⟩)), (2, .bool false), (27, .bool (decide (p0.1 < 1) || (decide (8 < p0.1) || (decide (24 < (p0.2.1.length : Int)) || decide (8 < (p0.2.2.length : Int))))))] a ∧ Stw ⟨Y, [], w0⟩ [(b1, [.int .i64 p0.1, v1, v2])] [] w) ?_ ?_
 ·
  refine Ab ?_
  refine ls F W Aa (Ai CA Aa Aa Aa T3 F Aa 0 Aa).q fun a w F W => ?_
  refine ls F W Aa (An (v := Value.int .i64 p0.1) 0 F Aa Aa T3 Aa).q fun a w F W => ?_
  refine ls F W Aa (Bl F Aa Aa).q fun a w F W => ?_
  refine ls F W Aa (Af F Aa).q fun a w F W => ?_
  rcases Bool.eq_false_or_eq_true (decide (p0.1 < 1)) with hb0 | hb0
  ·
   rw [hb0] at F
   iterate 3 refine Ct F Aa Aa Aa Aa Aa Aa Aa fun a F => ?_
   refine ls F W Aa (Ao F Aa Aa Aa).q fun a w F W => ?_
   refine ls F W Aa (Af F Aa).q fun a w F W => ?_
   iterate 4 refine Ct F Aa Aa Aa Aa Aa Aa Aa fun a F => ?_
   refine ls F W Aa (Ao F Aa Aa Aa).q fun a w F W => ?_
   refine ls F W Aa (Af F Aa).q fun a w F W => ?_
   iterate 4 refine Ct F Aa Aa Aa Aa Aa Aa Aa fun a F => ?_
   refine ls F W Aa (Ao F Aa Aa Aa).q fun a w F W => ?_
   refine Ad (Ac ?_)
   exact ⟨F.re ⟨rfl, Aa, (by show some (Value.bool true) = some (Value.bool (decide (p0.1 < 1) || (decide (8 < p0.1) || (decide (24 < (p0.2.1.length : Int)) || decide (8 < (p0.2.2.length : Int)))))); try rw [hb0]; all_goals simp only [Bool.not_true, Bool.not_false, Bool.true_and, Bool.false_and, Bool.true_or, Bool.false_or, Bool.and_true, Bool.or_false, cond_true, cond_false]), trivial⟩, W⟩
  rw [hb0] at F
  refine AB F W (Ag F Aa Aa Aa Aa) Aa (Ak Aa) (Ai CA Aa Aa Aa T3 F Aa 0 Aa).q fun a w F W => ?_
  refine AB F W (Ag F Aa Aa Aa Aa) Aa (Ak Aa) (An (v := Value.int .i64 p0.1) 0 F Aa Aa T3 Aa).q fun a w F W => ?_
  refine AB F W (Ag F Aa Aa Aa Aa) Aa (Ak Aa) (DM F Aa Aa).q fun a w F W => ?_
  refine ls F W Aa (Aq F Aa Aa Aa).q fun a w F W => ?_
  refine ls F W Aa (Af F Aa).q fun a w F W => ?_
  rcases Bool.eq_false_or_eq_true (decide (8 < p0.1)) with hb1 | hb1
  ·
   rw [hb1] at F
   iterate 4 refine Ct F Aa Aa Aa Aa Aa Aa Aa fun a F => ?_
   refine ls F W Aa (Ao F Aa Aa Aa).q fun a w F W => ?_
   refine ls F W Aa (Af F Aa).q fun a w F W => ?_
   iterate 4 refine Ct F Aa Aa Aa Aa Aa Aa Aa fun a F => ?_
   refine ls F W Aa (Ao F Aa Aa Aa).q fun a w F W => ?_
   refine Ad (Ac ?_)
   exact ⟨F.re ⟨rfl, Aa, (by show some (Value.bool true) = some (Value.bool (decide (p0.1 < 1) || (decide (8 < p0.1) || (decide (24 < (p0.2.1.length : Int)) || decide (8 < (p0.2.2.length : Int)))))); try rw [hb0]; try rw [hb1]; all_goals simp only [Bool.not_true, Bool.not_false, Bool.true_and, Bool.false_and, Bool.true_or, Bool.false_or, Bool.and_true, Bool.or_false, cond_true, cond_false]), trivial⟩, W⟩
  rw [hb1] at F
  refine AB F W (Ag F Aa Aa Aa Aa) Aa (Ak Aa) (Ai CA Aa Aa Aa Hu F Aa 1 Aa).q fun a w F W => ?_
  refine AB F W (Ag F Aa Aa Aa Aa) Aa (Ak Aa) (An (v := v1) 0 F Aa Aa Hu Aa).q fun a w F W => ?_
  refine AB F W (Ag F Aa Aa Aa Aa) Aa (Ak Aa) (Br (r := E5) (l := p0.2.1) Ic Aa F Aa (Am h_v1)).q fun a w F W => ?_
  refine AB F W (Ag F Aa Aa Aa Aa) Aa (Ak Aa) (DM F Aa Aa).q fun a w F W => ?_
  refine ls F W Aa (Aq F Aa Aa Aa).q fun a w F W => ?_
  refine ls F W Aa (Af F Aa).q fun a w F W => ?_
  rcases Bool.eq_false_or_eq_true (decide (24 < (p0.2.1.length : Int))) with hb2 | hb2
  ·
   rw [hb2] at F
   iterate 4 refine Ct F Aa Aa Aa Aa Aa Aa Aa fun a F => ?_
   refine ls F W Aa (Ao F Aa Aa Aa).q fun a w F W => ?_
   refine Ad (Ac ?_)
   exact ⟨F.re ⟨rfl, Aa, (by show some (Value.bool true) = some (Value.bool (decide (p0.1 < 1) || (decide (8 < p0.1) || (decide (24 < (p0.2.1.length : Int)) || decide (8 < (p0.2.2.length : Int)))))); try rw [hb2]; try rw [hb0]; try rw [hb1]; all_goals simp only [Bool.not_true, Bool.not_false, Bool.true_and, Bool.false_and, Bool.true_or, Bool.false_or, Bool.and_true, Bool.or_false, cond_true, cond_false]), trivial⟩, W⟩
  rw [hb2] at F
  refine AB F W (Ag F Aa Aa Aa Aa) Aa (Ak Aa) (Ai CA Aa Aa Aa Ht F Aa 2 Aa).q fun a w F W => ?_
  refine AB F W (Ag F Aa Aa Aa Aa) Aa (Ak Aa) (An (v := v2) 0 F Aa Aa Ht Aa).q fun a w F W => ?_
  refine AB F W (Ag F Aa Aa Aa Aa) Aa (Ak Aa) (Br (r := Fk) (l := p0.2.2) Kg Aa F Aa (Am h_v2)).q fun a w F W => ?_
  refine AB F W (Ag F Aa Aa Aa Aa) Aa (Ak Aa) (DM F Aa Aa).q fun a w F W => ?_
  refine ls F W Aa (Aq F Aa Aa Aa).q fun a w F W => ?_
  refine Ad (Ac ?_)
  exact ⟨F.re ⟨rfl, Aa, (by show some (Value.bool (decide (8 < (p0.2.2.length : Int)))) = some (Value.bool (decide (p0.1 < 1) || (decide (8 < p0.1) || (decide (24 < (p0.2.1.length : Int)) || decide (8 < (p0.2.2.length : Int)))))); try rw [hb2]; try rw [hb0]; try rw [hb1]; all_goals simp only [Bool.not_true, Bool.not_false, Bool.true_and, Bool.false_and, Bool.true_or, Bool.false_or, Bool.and_true, Bool.or_false, cond_true, cond_false]), trivial⟩, W⟩
 rintro a w ⟨F, W⟩
 refine AC F Aa (fun hb => ?_) fun hb => ?_
 ·
  have H := AW hb H
  rw [hb] at F
  clear hb
  refine Ah (Ab ?_)
  refine ls F W Aa (Ae F Aa).q fun a w F W => ?_
  refine Ad (Ac (Az (AU ?_)))
  have H := AX H
  subst H
  refine A0 (.inl Aa) F W Aa (Au F Aa) ?_
  exact ⟨rfl, W.done⟩
 have H := AV (by rw [hb]; decide) H
 rw [hb] at F
 clear hb
 refine Ax (Ac (Ah (Ab ?_)))
 refine Mt GW Fw F W Aa fun b2 a w F W => ?_
 have W : Stw ⟨Y, [], w0⟩ [(b1, [.int .i64 p0.1, v1, v2])] [mp b2 GW Fw ([] : List ((Int × Int) × Unit))] w := W
 refine ls F W Aa (Ae F Aa).q fun a w F W => ?_
 refine Ad (Ac ?_)
 obtain ⟨o1, G1, K1, L1⟩ := Oz H
 refine AJ (fun a w => ∃ x1 : List ((Int × Int) × Unit), some (Sum.inl x1) = some o1 ∧ Fr 71 [] [(1, .pointer (some ⟨b1, 0, none⟩)), (2, .bool false)] a ∧ Stw ⟨Y, [], w0⟩ [(b1, [.int .i64 p0.1, v1, v2])] [mp b2 GW Fw x1] w) ?_ ?_
 ·
  have H := G1
  clear G1 K1
  refine Ah (Ab ?_)
  refine ls F W Aa (An (v := Value.agg #[.int .i64 p0.1, v1, v2]) 0 F Aa Aa I2 Aa).q fun a w F W => ?_
  obtain ⟨x2, h1, H⟩ := Al H
  refine BO (Ml := []) (Zl := []) (M := [(b1, [.int .i64 p0.1, v1, v2])]) (Z := [mp b2 GW Fw ([] : List ((Int × Int) × Unit))]) (β := Value) (rv := fun x => x) (MM := fun x => []) (ZZ := fun x => [row x 86 Hd x2]) F W R5 Aa Aa (fun hL => I6 _ w (v1) (v2) p0 _ h1 ((Am h_v1) w W).nx ((Am h_v2) w W).nx) fun x a w F W => ?_
  obtain ⟨v3, rfl⟩ : ∃ y, y = x := ⟨x, rfl⟩
  have W : Stw ⟨Y, [], w0⟩ [(b1, [.int .i64 p0.1, v1, v2])] [row v3 86 Hd x2, mp b2 GW Fw ([] : List ((Int × Int) × Unit))] w := W
  refine ls F W Aa (Br (r := Hd) (l := x2) Pk Aa F Aa (Av 0 Aa)).q fun a w F W => ?_
  refine ls F W Aa (Af F Aa).q fun a w F W => ?_
  refine Ad (Ac (As ?_))
  have W := W.frontZ (i := 1) Aa Aa
  have W := W.frontZ (i := 1) Aa Aa
  refine Be H (fun s a w => Fr 71 [] [(1, .pointer (some ⟨b1, 0, none⟩)), (2, .bool false), (3, .map (some b2)), (30, v3), (31, .int .i64 (x2.length : Int)), (32, .int .i64 s.1)] a ∧ Stw ⟨Y, [], w0⟩ [(b1, [.int .i64 p0.1, v1, v2])] [row v3 86 Hd x2, mp b2 GW Fw s.2] w) ⟨F.re ⟨rfl, Aa, Aa, Aa, Aa, Aa, trivial⟩, W⟩ fun s o a w H L2 hR => ?_
  obtain ⟨x3, x4⟩ := s
  obtain ⟨F, W⟩ := hR
  have F : Fr 71 [] [(1, .pointer (some ⟨b1, 0, none⟩)), (2, .bool false), (3, .map (some b2)), (30, v3), (31, .int .i64 (x2.length : Int)), (32, .int .i64 x3)] a := F
  have W : Stw ⟨Y, [], w0⟩ [(b1, [.int .i64 p0.1, v1, v2])] [row v3 86 Hd x2, mp b2 GW Fw x4] w := W
  rw [BG] at H
  refine Ah (Ab ?_)
  refine ls F W Aa (Bl F Aa Aa).q fun a w F W => ?_
  refine Ad (Ac (Ah ?_))
  refine AC F Aa (fun hb => ?_) fun hb => ?_
  ·
   have H := AW (BB hb) H
   rw [hb] at F
   clear hb
   refine Ax (Ac (Ah (As (Ah (Ab ?_)))))
   obtain ⟨x5, h2, H⟩ := Al H
   refine ls F W Aa (AF (r := Hd) Nt F Aa Aa (Av 0 Aa) h2).q fun a w F W => ?_
   refine ls F W Aa (Aw (y := Value.agg #[.int .i64 x5.1, .int .i64 x5.2]) (j := 0) (i := x3) F Aa Aa (Av 0 Aa) h2 QB.to Qr Aa).q fun a w F W => ?_
   refine Ck (cs := [.int .i64 0, .int .i64 0]) F W Aa QM Aa fun b3 a w F W => ?_
   refine Cs (vs := [.int .i64 x5.1, .int .i64 x5.2]) (M' := [(b3, [.int .i64 x5.1, .int .i64 x5.2]), (b1, [.int .i64 p0.1, v1, v2])]) 0 F W Aa Aa Aa Qr Aa Aa Aa Aa Aa fun w W => ?_
   refine Ad (Ac (Ah ?_))
   refine AJ (fun a w => Fr 71 [] [(1, .pointer (some ⟨b1, 0, none⟩)), (2, .bool false), (3, .map (some b2)), (5, .pointer (some ⟨b3, 0, none⟩)), (30, v3), (31, .int .i64 (x2.length : Int)), (32, .int .i64 x3), (55, .bool (decide (x5.1 < 0) || (decide (p0.1 ≤ x5.1) || (decide (x5.2 < 0) || decide (8 ≤ x5.2)))))] a ∧ Stw ⟨Y, [], w0⟩ [(b3, [.int .i64 x5.1, .int .i64 x5.2]), (b1, [.int .i64 p0.1, v1, v2])] [row v3 86 Hd x2, mp b2 GW Fw x4] w) ?_ ?_
   ·
    refine Ab ?_
    refine ls F W Aa (Ai KT Aa Aa Aa T3 F Aa 0 Aa).q fun a w F W => ?_
    refine ls F W Aa (An (v := Value.int .i64 x5.1) 0 F Aa Aa T3 Aa).q fun a w F W => ?_
    refine ls F W Aa (Bl F Aa Aa).q fun a w F W => ?_
    refine ls F W Aa (Af F Aa).q fun a w F W => ?_
    rcases Bool.eq_false_or_eq_true (decide (x5.1 < 0)) with hb0 | hb0
    ·
     rw [hb0] at F
     iterate 5 refine Ct F Aa Aa Aa Aa Aa Aa Aa fun a F => ?_
     refine ls F W Aa (Ao F Aa Aa Aa).q fun a w F W => ?_
     refine ls F W Aa (Af F Aa).q fun a w F W => ?_
     iterate 3 refine Ct F Aa Aa Aa Aa Aa Aa Aa fun a F => ?_
     refine ls F W Aa (Ao F Aa Aa Aa).q fun a w F W => ?_
     refine ls F W Aa (Af F Aa).q fun a w F W => ?_
     iterate 3 refine Ct F Aa Aa Aa Aa Aa Aa Aa fun a F => ?_
     refine ls F W Aa (Ao F Aa Aa Aa).q fun a w F W => ?_
     refine Ad (Ac ?_)
     exact ⟨F.re ⟨rfl, Aa, Aa, Aa, Aa, Aa, Aa, (by show some (Value.bool true) = some (Value.bool (decide (x5.1 < 0) || (decide (p0.1 ≤ x5.1) || (decide (x5.2 < 0) || decide (8 ≤ x5.2))))); try rw [hb0]; all_goals simp only [Bool.not_true, Bool.not_false, Bool.true_and, Bool.false_and, Bool.true_or, Bool.false_or, Bool.and_true, Bool.or_false, cond_true, cond_false]), trivial⟩, W⟩
    rw [hb0] at F
    refine AB F W (Ag F Aa Aa Aa Aa) Aa (Ak Aa) (Ai KT Aa Aa Aa T3 F Aa 0 Aa).q fun a w F W => ?_
    refine AB F W (Ag F Aa Aa Aa Aa) Aa (Ak Aa) (An (v := Value.int .i64 x5.1) 0 F Aa Aa T3 Aa).q fun a w F W => ?_
    refine AB F W (Ag F Aa Aa Aa Aa) Aa (Ak Aa) (Ai CA Aa Aa Aa T3 F Aa 0 Aa).q fun a w F W => ?_
    refine AB F W (Ag F Aa Aa Aa Aa) Aa (Ak Aa) (An (v := Value.int .i64 p0.1) 1 F Aa Aa T3 Aa).q fun a w F W => ?_
    refine AB F W (Ag F Aa Aa Aa Aa) Aa (Ak Aa) (Fa F Aa Aa).q fun a w F W => ?_
    refine ls F W Aa (Aq F Aa Aa Aa).q fun a w F W => ?_
    refine ls F W Aa (Af F Aa).q fun a w F W => ?_
    rcases Bool.eq_false_or_eq_true (decide (p0.1 ≤ x5.1)) with hb1 | hb1
    ·
     rw [hb1] at F
     iterate 3 refine Ct F Aa Aa Aa Aa Aa Aa Aa fun a F => ?_
     refine ls F W Aa (Ao F Aa Aa Aa).q fun a w F W => ?_
     refine ls F W Aa (Af F Aa).q fun a w F W => ?_
     iterate 3 refine Ct F Aa Aa Aa Aa Aa Aa Aa fun a F => ?_
     refine ls F W Aa (Ao F Aa Aa Aa).q fun a w F W => ?_
     refine Ad (Ac ?_)
     exact ⟨F.re ⟨rfl, Aa, Aa, Aa, Aa, Aa, Aa, (by show some (Value.bool true) = some (Value.bool (decide (x5.1 < 0) || (decide (p0.1 ≤ x5.1) || (decide (x5.2 < 0) || decide (8 ≤ x5.2))))); try rw [hb1]; try rw [hb0]; all_goals simp only [Bool.not_true, Bool.not_false, Bool.true_and, Bool.false_and, Bool.true_or, Bool.false_or, Bool.and_true, Bool.or_false, cond_true, cond_false]), trivial⟩, W⟩
    rw [hb1] at F
    refine AB F W (Ag F Aa Aa Aa Aa) Aa (Ak Aa) (Ai KT Aa Aa Aa T3 F Aa 1 Aa).q fun a w F W => ?_
    refine AB F W (Ag F Aa Aa Aa Aa) Aa (Ak Aa) (An (v := Value.int .i64 x5.2) 0 F Aa Aa T3 Aa).q fun a w F W => ?_
    refine AB F W (Ag F Aa Aa Aa Aa) Aa (Ak Aa) (Bl F Aa Aa).q fun a w F W => ?_
    refine ls F W Aa (Aq F Aa Aa Aa).q fun a w F W => ?_
    refine ls F W Aa (Af F Aa).q fun a w F W => ?_
    rcases Bool.eq_false_or_eq_true (decide (x5.2 < 0)) with hb2 | hb2
    ·
     rw [hb2] at F
     iterate 3 refine Ct F Aa Aa Aa Aa Aa Aa Aa fun a F => ?_
     refine ls F W Aa (Ao F Aa Aa Aa).q fun a w F W => ?_
     refine Ad (Ac ?_)
     exact ⟨F.re ⟨rfl, Aa, Aa, Aa, Aa, Aa, Aa, (by show some (Value.bool true) = some (Value.bool (decide (x5.1 < 0) || (decide (p0.1 ≤ x5.1) || (decide (x5.2 < 0) || decide (8 ≤ x5.2))))); try rw [hb1]; try rw [hb0]; try rw [hb2]; all_goals simp only [Bool.not_true, Bool.not_false, Bool.true_and, Bool.false_and, Bool.true_or, Bool.false_or, Bool.and_true, Bool.or_false, cond_true, cond_false]), trivial⟩, W⟩
    rw [hb2] at F
    refine AB F W (Ag F Aa Aa Aa Aa) Aa (Ak Aa) (Ai KT Aa Aa Aa T3 F Aa 1 Aa).q fun a w F W => ?_
    refine AB F W (Ag F Aa Aa Aa Aa) Aa (Ak Aa) (An (v := Value.int .i64 x5.2) 0 F Aa Aa T3 Aa).q fun a w F W => ?_
    refine AB F W (Ag F Aa Aa Aa Aa) Aa (Ak Aa) (Fa F Aa Aa).q fun a w F W => ?_
    refine ls F W Aa (Aq F Aa Aa Aa).q fun a w F W => ?_
    refine Ad (Ac ?_)
    exact ⟨F.re ⟨rfl, Aa, Aa, Aa, Aa, Aa, Aa, (by show some (Value.bool (decide (8 ≤ x5.2))) = some (Value.bool (decide (x5.1 < 0) || (decide (p0.1 ≤ x5.1) || (decide (x5.2 < 0) || decide (8 ≤ x5.2))))); try rw [hb1]; try rw [hb0]; try rw [hb2]; all_goals simp only [Bool.not_true, Bool.not_false, Bool.true_and, Bool.false_and, Bool.true_or, Bool.false_or, Bool.and_true, Bool.or_false, cond_true, cond_false]), trivial⟩, W⟩
   rintro a w ⟨F, W⟩
   refine AC F Aa (fun hb => ?_) fun hb => ?_
   ·
    have H := AW hb H
    rw [hb] at F
    clear hb
    refine Ah (Ab ?_)
    refine ls F W Aa (Ae F Aa).q fun a w F W => ?_
    refine Ad (Ac (Az (AU (A3 ?_))))
    iterate 2 refine AU ?_
    refine A3 (AU ?_)
    have H := L2 _ H
    have H := L1 _ H
    have H := AX H
    subst H
    refine A0 (.inl Aa) F W Aa (Au F Aa) ?_
    exact ⟨rfl, W.done⟩
   have H := AV (by rw [hb]; decide) H
   rw [hb] at F
   clear hb
   refine Ax (Ac (Ah (Ah (Ab ?_))))
   refine ls F W Aa (Af F Aa).q fun a w F W => ?_
   refine ls F W Aa (An (v := Value.agg #[.int .i64 x5.1, .int .i64 x5.2]) 0 F Aa Aa Qr Aa).q fun a w F W => ?_
   refine ls F W Aa (MT (zv := (() : Unit)) (kx := (x5 : Int × Int)) (q := 1) (E := GW) (V := Fw) F Aa Aa Aa P4 Pi P5).q fun a w F W => ?_
   refine ls F W Aa (Af F Aa).q fun a w F W => ?_
   refine ls F W Aa (BP (v := Value.agg #[]) F Aa Aa).q fun a w F W => ?_
   refine ls F W Aa (BP (v := Value.bool ((Hv x4 x5).isSome)) F Aa Aa).q fun a w F W => ?_
   refine Ck (cs := []) F W Aa P5 Aa fun b4 a w F W => ?_
   refine Cs (vs := []) (M' := [(b4, []), (b3, [.int .i64 x5.1, .int .i64 x5.2]), (b1, [.int .i64 p0.1, v1, v2])]) 0 F W Aa Aa Aa QI Aa Aa Aa Aa Aa fun w W => ?_
   refine ls F W Aa (Ae F Aa).q fun a w F W => ?_
   refine Ad (Ac (Ah (Ab ?_)))
   refine ls F W Aa (Af F Aa).q fun a w F W => ?_
   refine Ad (Ac ?_)
   refine AC F Aa (fun hb => ?_) fun hb => ?_
   ·
    have H := AW hb H
    rw [hb] at F
    clear hb
    refine Ah (Ab ?_)
    refine ls F W Aa (Ae F Aa).q fun a w F W => ?_
    refine Ad (Ac (Az (AU (A3 ?_))))
    iterate 2 refine AU ?_
    refine A3 (AU ?_)
    have H := L2 _ H
    have H := L1 _ H
    have H := AX H
    subst H
    refine A0 (.inl Aa) F W Aa (Au F Aa) ?_
    exact ⟨rfl, W.done⟩
   have H := AV (by rw [hb]; decide) H
   rw [hb] at F
   clear hb
   refine Ax (Ac (Ab ?_))
   refine ls F W Aa (Af F Aa).q fun a w F W => ?_
   refine ls F W Aa (An (v := Value.agg #[.int .i64 x5.1, .int .i64 x5.2]) 1 F Aa Aa Qr Aa).q fun a w F W => ?_
   refine ls F W Aa (DU (v := Value.agg #[]) QK F Aa Aa Aa).q fun a w F W => ?_
   refine Ng (q := 1) (kx := (x5 : Int × Int)) (vx := (() : Unit)) (E := GW) (V := Fw) F W Aa Aa Aa Aa Aa P4 Pi fun w W => ?_
   have W : Stw ⟨Y, [], w0⟩ [(b4, []), (b3, [.int .i64 x5.1, .int .i64 x5.2]), (b1, [.int .i64 p0.1, v1, v2])] [mp b2 GW Fw (HB x4 x5 ()), row v3 86 Hd x2] w := W
   refine Ad (AO (Ac (Ab ?_)))
   refine ls F W Aa (BQ F Aa Aa Aa).q fun a w F W => ?_
   refine ls F W Aa (Af F Aa).q fun a w F W => ?_
   refine Ad (Ac ?_)
   have W := W.frontZ (i := 1) Aa Aa
   have W := W.frontM (i := 2) Aa Aa
   have W := W.sub (M' := [(b1, [.int .i64 p0.1, v1, v2])]) (Z' := [row v3 86 Hd x2, mp b2 GW Fw (HB x4 x5 ())]) (List.Sublist.cons_cons _ (List.nil_sublist _)) (List.Sublist.refl _)
   exact ⟨_, H, F.re ⟨rfl, Aa, Aa, Aa, Aa, Aa, trivial⟩, W⟩
  have H := AV (BD hb) H
  rw [hb] at F
  clear hb
  refine Bg ?_
  iterate 2 refine BJ ?_
  refine Bh (Ac ?_)
  have W := W.frontZ (i := 1) Aa Aa
  have W := W.sub (M' := [(b1, [.int .i64 p0.1, v1, v2])]) (Z' := [mp b2 GW Fw x4]) (List.Sublist.refl _) (List.Sublist.cons_cons _ (List.nil_sublist _))
  have H := L2 _ H
  exact ⟨_, H, F.re ⟨rfl, Aa, trivial⟩, W⟩
 rintro a w ⟨x1, hj, F, W⟩
 have H := K1 _ hj
 clear hj G1 K1 L1
 refine Ah (Ab ?_)
 refine ls F W Aa (Ai CA Aa Aa Aa Hu F Aa 1 Aa).q fun a w F W => ?_
 refine ls F W Aa (An (v := v1) 0 F Aa Aa Hu Aa).q fun a w F W => ?_
 obtain ⟨x6, h3, H⟩ := Al H
 refine ls F W Aa (AZ (v := Value.bool x6) F RP Aa (fun w W => C2 any w (v1) p0.2.1 _ h3 (((Am h_v1) : D6 _ _ _ _ _ _) w W).nx)) fun a w F W => ?_
 refine ls F W Aa (FP F Aa).q fun a w F W => ?_
 refine ls F W Aa (Ae F Aa).q fun a w F W => ?_
 refine Ad (Ac (Az ?_))
 have H := AX H
 subst H
 refine A0 (.inl Aa) F W Aa (Au F Aa) ?_
 exact ⟨rfl, W.done⟩
theorem Rl : Has Try.prog 49 := ⟨fun args w => Aj Try.func49 rfl (by decide) args w⟩
theorem Ih : Ty Try.prog 56 false 1 := ⟨by kernel_rfl, by kernel_rfl⟩
def Cy (p0 : Nat) : Bool := (Nb p0 0 || JP p0 0)
theorem Ko (Y : Nat → Prop) (w0 : World)  (p0 : Nat) (r : Bool) (H : Cy p0 = r)  :
    Calls Try.prog 66 #[.float .f64 p0] w0 fun e w' => e = .returned (.bool r) ∧ Below w0.heap.size w0 w' := by
 refine enter Try.func66 Aa Try.ntmps66 Aa fun a F => ?_
 have W := Stw.start Y w0
 unfold Cy at H
 refine Ah (Ab ?_)
 refine ls F W Aa (Ae F Aa).q fun a w F W => ?_
 refine Ad (Ac (Ah (Ab ?_)))
 refine ls F W Aa (Af F Aa).q fun a w F W => ?_
 refine ls F W Aa (PP F Aa Aa).q fun a w F W => ?_
 refine ls F W Aa (Ae F Aa).q fun a w F W => ?_
 refine Ad (Ac (Az ?_))
 subst H
 refine A0 (.inl Aa) F W Aa (Au F Aa) ?_
 exact ⟨rfl, W.done⟩
theorem Ru : Has Try.prog 66 := ⟨fun args w => Aj Try.func66 rfl (by decide) args w⟩
noncomputable def Cj (p0 : List Nat) : Int → Option (Int ⊕ (Unit ⊕ Bool))
  | x1 => (if x1 < (p0.length : Int) then (ix p0 x1).bind fun x2 => (if (!(Cy x2)) = true then some (.inr (.inr false)) else some (.inl (BN (x1 + 1)))) else some (.inr (.inl ())))
noncomputable def C6 (p0 : List Nat) (p1 : Int) : Option Bool := (if (p0.length : Int) ≠ p1 then some false else Ii (AM (Cj p0) 0) fun _ => some true)
theorem Jc (Y : Nat → Prop) (w0 : World) (v1 : Value) (p0 : List Nat) (p1 : Int) (r : Bool) (H : C6 p0 p1 = some r) (h_v1 : Sl w0 (NX []) (Rp.flt .f64) v1 p0) :
    Calls Try.prog 50 #[v1, .int .i64 p1] w0 fun e w' => e = .returned (.bool r) ∧ Below w0.heap.size w0 w' := by
 refine enter Try.func50 Aa Try.ntmps50 Aa fun a F => ?_
 have W := Stw.start Y w0
 unfold C6 at H
 refine Ah (Ab ?_)
 refine ls F W Aa (Ae F Aa).q fun a w F W => ?_
 refine Ad (Ac (Ah (Ah (Ab ?_))))
 refine ls F W Aa (Af F Aa).q fun a w F W => ?_
 refine ls F W Aa (Br (r := (Rp.flt .f64)) (l := p0) JQ Aa F Aa (Am h_v1)).q fun a w F W => ?_
 refine ls F W Aa (Af F Aa).q fun a w F W => ?_
 refine ls F W Aa (Nz F Aa Aa).q fun a w F W => ?_
 refine Ad (Ac ?_)
 refine AC F Aa (fun hb => ?_) fun hb => ?_
 ·
  have H := AW (BB hb) H
  rw [hb] at F
  clear hb
  refine Ah (Ab ?_)
  refine ls F W Aa (Ae F Aa).q fun a w F W => ?_
  refine Ad (Ac (Az (AU ?_)))
  have H := AX H
  subst H
  refine A0 (.inl Aa) F W Aa (Au F Aa) ?_
  exact ⟨rfl, W.done⟩
 have H := AV (BD hb) H
 rw [hb] at F
 clear hb
 refine Ax (Ac ?_)
 obtain ⟨o1, G1, K1, L1⟩ := Oz H
 refine AJ (fun a w => some (Sum.inl ()) = some o1 ∧ Fr 21 [] [(4, .bool false)] a ∧ Stw ⟨Y, [], w0⟩ [] [] w) ?_ ?_
 ·
  have H := G1
  clear G1 K1
  refine Ah (Ab ?_)
  refine ls F W Aa (Af F Aa).q fun a w F W => ?_
  refine ls F W Aa (Br (r := (Rp.flt .f64)) (l := p0) JQ Aa F Aa (Am h_v1)).q fun a w F W => ?_
  refine ls F W Aa (Af F Aa).q fun a w F W => ?_
  refine Ad (Ac (As ?_))
  refine Be H (fun s a w => Fr 21 [] [(4, .bool false), (11, v1), (12, .int .i64 (p0.length : Int)), (13, .int .i64 s)] a ∧ Stw ⟨Y, [], w0⟩ [] [] w) ⟨F.re ⟨rfl, Aa, Aa, Aa, trivial⟩, W⟩ fun s o a w H L2 hR => ?_
  obtain ⟨x1, rfl⟩ : ∃ x, x = s := ⟨s, rfl⟩
  obtain ⟨F, W⟩ := hR
  have F : Fr 21 [] [(4, .bool false), (11, v1), (12, .int .i64 (p0.length : Int)), (13, .int .i64 x1)] a := F
  have W : Stw ⟨Y, [], w0⟩ [] [] w := W
  rw [Cj] at H
  refine Ah (Ab ?_)
  refine ls F W Aa (Bl F Aa Aa).q fun a w F W => ?_
  refine Ad (Ac (Ah ?_))
  refine AC F Aa (fun hb => ?_) fun hb => ?_
  ·
   have H := AW (BB hb) H
   rw [hb] at F
   clear hb
   refine Ax (Ac (Ah (As (Ah (Ab ?_)))))
   obtain ⟨x2, h1, H⟩ := Al H
   refine ls F W Aa (AF (r := (Rp.flt .f64)) Hy F Aa Aa (Am h_v1) h1).q fun a w F W => ?_
   refine ls F W Aa (Aw (y := Value.float .f64 x2) (j := 0) (i := x1) F Aa Aa (Am h_v1) h1 Fl.flt.to Ih Aa).q fun a w F W => ?_
   refine ls F W Aa (Ae F Aa).q fun a w F W => ?_
   refine Ad (Ac (Ah (Ab ?_)))
   refine ls F W Aa (Af F Aa).q fun a w F W => ?_
   refine ls F W Aa (AZ (v := Value.bool (Cy x2)) F Ru Aa (fun w W => Ko any w x2 _ Aa)) fun a w F W => ?_
   refine ls F W Aa (FP F Aa).q fun a w F W => ?_
   refine Ad (Ac ?_)
   refine AC F Aa (fun hb => ?_) fun hb => ?_
   ·
    have H := AW hb H
    rw [hb] at F
    clear hb
    refine Ah (Ab ?_)
    refine ls F W Aa (Ae F Aa).q fun a w F W => ?_
    refine Ad (Ac (Az (A3 ?_)))
    iterate 2 refine AU ?_
    refine A3 (AU ?_)
    have H := L2 _ H
    have H := L1 _ H
    have H := AX H
    subst H
    refine A0 (.inl Aa) F W Aa (Au F Aa) ?_
    exact ⟨rfl, W.done⟩
   have H := AV (by rw [hb]; decide) H
   rw [hb] at F
   clear hb
   refine Ax (AO (Ac (Ab ?_)))
   refine ls F W Aa (BQ F Aa Aa Aa).q fun a w F W => ?_
   refine ls F W Aa (Af F Aa).q fun a w F W => ?_
   refine Ad (Ac ?_)
   exact ⟨_, H, F.re ⟨rfl, Aa, Aa, Aa, trivial⟩, W⟩
  have H := AV (BD hb) H
  rw [hb] at F
  clear hb
  refine Bg ?_
  iterate 2 refine BJ ?_
  refine Bh (Ac ?_)
  have H := L2 _ H
  exact ⟨H, F.re ⟨rfl, trivial⟩, W⟩
 rintro a w ⟨hj, F, W⟩
 have H := K1 _ hj
 clear hj G1 K1 L1
 refine Ah (Ab ?_)
 refine ls F W Aa (Ae F Aa).q fun a w F W => ?_
 refine Ad (Ac (Az ?_))
 have H := AX H
 subst H
 refine A0 (.inl Aa) F W Aa (Au F Aa) ?_
 exact ⟨rfl, W.done⟩
theorem RR : Has Try.prog 50 := ⟨fun args w => Aj Try.func50 rfl (by decide) args w⟩
noncomputable def Cr (p0 : Int × (List (Int × Int × Int × Int × Int × Int)) × (List (Int × Int))) (p1 : List Nat) : Option Bool := ((DE p0).bind fun x2 => (if x2 = true then (C6 p1 (p0.2.1.length : Int)).bind fun x3 => some x3 else some false)).bind fun x1 => some x1
theorem Fi (Y : Nat → Prop) (w0 : World) (v1 : Value) (v2 : Value) (v3 : Value) (p0 : Int × (List (Int × Int × Int × Int × Int × Int)) × (List (Int × Int))) (p1 : List Nat) (r : Bool) (H : Cr p0 p1 = some r) (h_v1 : Sl w0 (NX []) E5 v1 p0.2.1) (h_v2 : Sl w0 (NX []) Fk v2 p0.2.2) (h_v3 : Sl w0 (NX []) (Rp.flt .f64) v3 p1) :
    Calls Try.prog 28 #[.agg #[.int .i64 p0.1, v1, v2], v3] w0 fun e w' => e = .returned (.bool r) ∧ Below w0.heap.size w0 w' := by
 refine enter Try.func28 Aa Try.ntmps28 Aa fun a F => ?_
 have W := Stw.start Y w0
 unfold Cr at H
 refine Ah (Ab ?_)
 refine DX (cs := [.int .i64 p0.1, v1, v2]) F W Aa Aa Aa fun b1 a w F W => ?_
 refine ls F W Aa (Ae F Aa).q fun a w F W => ?_
 refine Ad (Ac ?_)
 obtain ⟨o1, G1, K1⟩ := Al H
 refine AJ (fun a w => ∃ x1 : Bool, some (x1) = some o1 ∧ Fr 14 [] [(4, .bool x1)] a ∧ Stw ⟨Y, [], w0⟩ [(b1, [.int .i64 p0.1, v1, v2])] [] w) ?_ ?_
 ·
  have H := G1
  clear G1 K1
  refine Ab ?_
  refine ls F W Aa (An (v := Value.agg #[.int .i64 p0.1, v1, v2]) 0 F Aa Aa I2 Aa).q fun a w F W => ?_
  obtain ⟨x2, h1, H⟩ := Al H
  refine ls F W Aa (AZ (v := Value.bool x2) F Rl Aa (fun w W => JY any w (v1) (v2) p0 _ h1 (((Am h_v1) : D6 _ _ _ _ _ _) w W).nx (((Am h_v2) : D6 _ _ _ _ _ _) w W).nx)) fun a w F W => ?_
  refine ls F W Aa (Af F Aa).q fun a w F W => ?_
  rcases Bool.eq_false_or_eq_true x2 with hb | hb
  ·
   have H := AW hb H
   rw [hb] at F
   clear hb
   refine AB F W (Ag F Aa Aa Aa Aa) Aa (Ak Aa) (Af F Aa).q fun a w F W => ?_
   refine AB F W (Ag F Aa Aa Aa Aa) Aa (Ak Aa) (Ai CA Aa Aa Aa Hu F Aa 1 Aa).q fun a w F W => ?_
   refine AB F W (Ag F Aa Aa Aa Aa) Aa (Ak Aa) (An (v := v1) 0 F Aa Aa Hu Aa).q fun a w F W => ?_
   refine AB F W (Ag F Aa Aa Aa Aa) Aa (Ak Aa) (Br (r := E5) (l := p0.2.1) Ic Aa F Aa (Am h_v1)).q fun a w F W => ?_
   refine Lv (Ag F Aa Aa Aa Aa) ?_
   obtain ⟨x3, h2, H⟩ := Al H
   refine ls F W Aa (AZ (v := Value.bool x3) F RR Aa (fun w W => Jc any w (v3) p1 (p0.2.1.length : Int) _ h2 (((Am h_v3) : D6 _ _ _ _ _ _) w W).nx)) fun a w F W => ?_
   refine ls F W Aa (Ao F Aa Aa Aa).q fun a w F W => ?_
   refine ls F W Aa (Ae F Aa).q fun a w F W => ?_
   refine Ad (Ac ?_)
   exact ⟨_, H, F.re ⟨rfl, trivial⟩, W⟩
  have H := AV (by rw [hb]; decide) H
  rw [hb] at F
  clear hb
  iterate 5 refine Ct F Aa Aa Aa Aa Aa Aa Aa fun a F => ?_
  refine ls F W Aa (Aq F Aa Aa Aa).q fun a w F W => ?_
  refine ls F W Aa (Ae F Aa).q fun a w F W => ?_
  refine Ad (Ac ?_)
  exact ⟨_, H, F.re ⟨rfl, trivial⟩, W⟩
 rintro a w ⟨x1, hj, F, W⟩
 have hj := AX hj
 subst hj
 have H := K1
 clear G1 K1
 refine Az ?_
 have H := AX H
 subst H
 refine A0 (.inl Aa) F W Aa (Au F Aa) ?_
 exact ⟨rfl, W.done⟩
theorem Qb : type_of% Try.underlying45 := Try.underlying45
theorem Qw : Has Try.prog 28 := ⟨fun args w => Aj Try.func28 rfl (by decide) args w⟩
abbrev Cz : Dp (Value × Nat × List Int) := (Dp.sl 3 (Rp.int .i64))
abbrev DR (p : Value × Nat × List Int) : Nat × List Int := p.2
theorem P0 : Et Try.prog 45 36 1 24 := Et.of Qb (by kernel_rfl) (by kernel_rfl) (by kernel_rfl) (by decide)
theorem RD : (Try.prog.info? 36).bind (·.zero) = some (.slice none 0 0) := by kernel_rfl
theorem MO : Try.prog.follows .mixedOrders = true := by kernel_rfl
theorem Qs : QN Try.prog 46 Extern.MathFloatBits.float64frombits := fun args w => run_callFunc_extern Try.func46 (by kernel_rfl) (by kernel_rfl) (by kernel_rfl) (by kernel_rfl) args w
noncomputable def CV (p0 : Int) : Option Nat := (if 0 ≤ p0 then some 9218868437227405312 else some 18442240474082181120).bind fun x1 => some (Int.toNat x1)
theorem EV (Y : Nat → Prop) (w0 : World)  (p0 : Int) (r : Nat) (H : CV p0 = some r)  :
    Calls Try.prog 30 #[.int .i64 p0] w0 fun e w' => e = .returned (.float .f64 r) ∧ Below w0.heap.size w0 w' := by
 refine enter Try.func30 Aa Try.ntmps30 Aa fun a F => ?_
 have W := Stw.start Y w0
 unfold CV at H
 refine Ah (Ab ?_)
 refine ls F W Aa (Ae F Aa).q fun a w F W => ?_
 refine Ad (Ac (Ah (Ab ?_)))
 refine ls F W Aa (Ae F Aa).q fun a w F W => ?_
 refine Ad (Ac ?_)
 obtain ⟨o1, G1, K1⟩ := Al H
 refine AJ (fun a w => ∃ x1 : Int, some (x1) = some o1 ∧ Fr 8 [] [(2, .float .f64 0), (3, .int .u64 x1)] a ∧ Stw ⟨Y, [], w0⟩ [] [] w) ?_ ?_
 ·
  have H := G1
  clear G1 K1
  refine Ah (Ab ?_)
  refine ls F W Aa (Af F Aa).q fun a w F W => ?_
  refine ls F W Aa (Fa F Aa Aa).q fun a w F W => ?_
  refine Ad (Ac ?_)
  refine AC F Aa (fun hb => ?_) fun hb => ?_
  ·
   have H := AW (BB hb) H
   rw [hb] at F
   clear hb
   refine Ab ?_
   refine ls F W Aa (Ae F Aa).q fun a w F W => ?_
   refine Ad (Ac ?_)
   exact ⟨_, H, F.re ⟨rfl, Aa, trivial⟩, W⟩
  have H := AV (BD hb) H
  rw [hb] at F
  clear hb
  refine Ab ?_
  refine ls F W Aa (Ae F Aa).q fun a w F W => ?_
  refine Ad (Ac ?_)
  exact ⟨_, H, F.re ⟨rfl, Aa, trivial⟩, W⟩
 rintro a w ⟨x1, hj, F, W⟩
 have hj := AX hj
 subst hj
 have H := K1
 clear G1 K1
 refine Ah (Ab ?_)
 refine ls F W Aa (Af F Aa).q fun a w F W => ?_
 refine ls F W Aa (Jq (v := Value.float .f64 (Int.toNat x1)) F Qs Aa (fun w => rfl)).q fun a w F W => ?_
 refine ls F W Aa (Ae F Aa).q fun a w F W => ?_
 refine Ad (Ac (Az ?_))
 have H := AX H
 subst H
 refine A0 (.inl Aa) F W Aa (Au F Aa) ?_
 exact ⟨rfl, W.done⟩
theorem P9 : Has Try.prog 30 := ⟨fun args w => Aj Try.func30 rfl (by decide) args w⟩
theorem I9 : (Try.prog.underlying 9).map (fun d => match d with | .interface _ => true | _ => false) = some false := by kernel_rfl
def BR (p0 : Int) (p1 : Int) : Int × Int := (IntKind.u64.wrap ((IntKind.u64.wrap ((IntKind.u64.wrap ((Ga .u64 p0 32) * (Ga .u64 p1 32))) + (Ga .u64 (IntKind.u64.wrap ((IntKind.u64.wrap ((Ga .u64 p0 32) * (Je .u64 p1 4294967295))) + (Ga .u64 (IntKind.u64.wrap ((Je .u64 p0 4294967295) * (Je .u64 p1 4294967295))) 32))) 32))) + (Ga .u64 (IntKind.u64.wrap ((Je .u64 (IntKind.u64.wrap ((IntKind.u64.wrap ((Ga .u64 p0 32) * (Je .u64 p1 4294967295))) + (Ga .u64 (IntKind.u64.wrap ((Je .u64 p0 4294967295) * (Je .u64 p1 4294967295))) 32))) 4294967295) + (IntKind.u64.wrap ((Je .u64 p0 4294967295) * (Ga .u64 p1 32))))) 32)), IntKind.u64.wrap (p0 * p1))
theorem GQ (Y : Nat → Prop) (w0 : World)  (p0 : Int) (p1 : Int) (r : Int × Int) (H : BR p0 p1 = r)  :
    Calls Try.prog 68 #[.int .u64 p0, .int .u64 p1] w0 fun e w' => e = .returned (.tuple #[.int .u64 r.1, .int .u64 r.2]) ∧ Below w0.heap.size w0 w' := by
 refine enter Try.func68 Aa Try.ntmps68 Aa fun a F => ?_
 have W := Stw.start Y w0
 unfold BR at H
 refine Ah (Ab ?_)
 iterate 2 refine ls F W Aa (Ae F Aa).q fun a w F W => ?_
 refine Ad (Ac (Ah (Ab ?_)))
 refine ls F W Aa (Af F Aa).q fun a w F W => ?_
 refine ls F W Aa (N8 F Aa Aa).q fun a w F W => ?_
 refine ls F W Aa (Ae F Aa).q fun a w F W => ?_
 refine Ad (Ac (Ah (Ab ?_)))
 refine ls F W Aa (Af F Aa).q fun a w F W => ?_
 refine ls F W Aa (HY F Aa Aa (by decide)).q fun a w F W => ?_
 refine ls F W Aa (Ae F Aa).q fun a w F W => ?_
 refine Ad (Ac (Ah (Ab ?_)))
 refine ls F W Aa (Af F Aa).q fun a w F W => ?_
 refine ls F W Aa (N8 F Aa Aa).q fun a w F W => ?_
 refine ls F W Aa (Ae F Aa).q fun a w F W => ?_
 refine Ad (Ac (Ah (Ab ?_)))
 refine ls F W Aa (Af F Aa).q fun a w F W => ?_
 refine ls F W Aa (HY F Aa Aa (by decide)).q fun a w F W => ?_
 refine ls F W Aa (Ae F Aa).q fun a w F W => ?_
 refine Ad (Ac (Ah (Ab ?_)))
 iterate 2 refine ls F W Aa (Af F Aa).q fun a w F W => ?_
 refine ls F W Aa (Ld F Aa Aa Aa).q fun a w F W => ?_
 refine ls F W Aa (Ae F Aa).q fun a w F W => ?_
 refine Ad (Ac (Ah (Ab ?_)))
 iterate 2 refine ls F W Aa (Af F Aa).q fun a w F W => ?_
 refine ls F W Aa (Ld F Aa Aa Aa).q fun a w F W => ?_
 refine ls F W Aa (Af F Aa).q fun a w F W => ?_
 refine ls F W Aa (HY F Aa Aa (by decide)).q fun a w F W => ?_
 refine ls F W Aa (BQ F Aa Aa Aa).q fun a w F W => ?_
 refine ls F W Aa (Ae F Aa).q fun a w F W => ?_
 refine Ad (Ac (Ah (Ab ?_)))
 refine ls F W Aa (Af F Aa).q fun a w F W => ?_
 refine ls F W Aa (N8 F Aa Aa).q fun a w F W => ?_
 refine ls F W Aa (Ae F Aa).q fun a w F W => ?_
 refine Ad (Ac (Ah (Ab ?_)))
 refine ls F W Aa (Af F Aa).q fun a w F W => ?_
 refine ls F W Aa (HY F Aa Aa (by decide)).q fun a w F W => ?_
 refine ls F W Aa (Ae F Aa).q fun a w F W => ?_
 refine Ad (Ac (Ah (Ab ?_)))
 iterate 3 refine ls F W Aa (Af F Aa).q fun a w F W => ?_
 refine ls F W Aa (Ld F Aa Aa Aa).q fun a w F W => ?_
 refine ls F W Aa (BQ F Aa Aa Aa).q fun a w F W => ?_
 refine ls F W Aa (Ae F Aa).q fun a w F W => ?_
 refine Ad (Ac (Ah (Ab ?_)))
 iterate 2 refine ls F W Aa (Af F Aa).q fun a w F W => ?_
 refine ls F W Aa (Ld F Aa Aa Aa).q fun a w F W => ?_
 refine ls F W Aa (Af F Aa).q fun a w F W => ?_
 refine ls F W Aa (BQ F Aa Aa Aa).q fun a w F W => ?_
 refine ls F W Aa (Af F Aa).q fun a w F W => ?_
 refine ls F W Aa (HY F Aa Aa (by decide)).q fun a w F W => ?_
 refine ls F W Aa (BQ F Aa Aa Aa).q fun a w F W => ?_
 refine ls F W Aa (Ae F Aa).q fun a w F W => ?_
 refine Ad (Ac (Ah (Ab ?_)))
 iterate 2 refine ls F W Aa (Af F Aa).q fun a w F W => ?_
 refine ls F W Aa (Ld F Aa Aa Aa).q fun a w F W => ?_
 refine ls F W Aa (Ae F Aa).q fun a w F W => ?_
 refine Ad (Ac (Az ?_))
 subst H
 refine HM (.inl Aa) F W Aa (Au F Aa) (Au F Aa) ?_
 exact ⟨rfl, W.done⟩
theorem Sb : Has Try.prog 68 := ⟨fun args w => Aj Try.func68 rfl (by decide) args w⟩
def Ap (p0 : Int) (p1 : Int) : Int × Int := ((BR p0 p1).1, (BR p0 p1).2)
theorem FV (Y : Nat → Prop) (w0 : World)  (p0 : Int) (p1 : Int) (r : Int × Int) (H : Ap p0 p1 = r)  :
    Calls Try.prog 51 #[.int .u64 p0, .int .u64 p1] w0 fun e w' => e = .returned (.tuple #[.int .u64 r.1, .int .u64 r.2]) ∧ Below w0.heap.size w0 w' := by
 refine enter Try.func51 Aa Try.ntmps51 Aa fun a F => ?_
 have W := Stw.start Y w0
 unfold Ap at H
 refine Ah (Ab ?_)
 iterate 2 refine ls F W Aa (Ae F Aa).q fun a w F W => ?_
 refine Ad (Ac (Ah ?_))
 refine F9 F Aa ?_
 refine Ax (Ac (Ah (Ab ?_)))
 iterate 2 refine ls F W Aa (Af F Aa).q fun a w F W => ?_
 refine ls F W Aa (AZ (v := Value.tuple #[.int .u64 ((BR p0 p1).1), .int .u64 ((BR p0 p1).2)]) F Sb Aa (fun w W => GQ any w p0 p1 _ Aa)) fun a w F W => ?_
 refine ls F W Aa (Af F Aa).q fun a w F W => ?_
 refine ls F W Aa (BP (v := Value.int .u64 ((BR p0 p1).1)) F Aa Aa).q fun a w F W => ?_
 refine ls F W Aa (BP (v := Value.int .u64 ((BR p0 p1).2)) F Aa Aa).q fun a w F W => ?_
 iterate 2 refine ls F W Aa (Ae F Aa).q fun a w F W => ?_
 refine Ad (Ac (Ah (Ab ?_)))
 iterate 2 refine ls F W Aa (Af F Aa).q fun a w F W => ?_
 iterate 2 refine ls F W Aa (Ae F Aa).q fun a w F W => ?_
 refine Ad (Ac (Az ?_))
 subst H
 refine HM (.inl Aa) F W Aa (Au F Aa) (Au F Aa) ?_
 exact ⟨rfl, W.done⟩
theorem Kt : type_of% Try.underlying92 := Try.underlying92
theorem QY : Has Try.prog 51 := ⟨fun args w => Aj Try.func51 rfl (by decide) args w⟩
noncomputable def AS  : (List Nat × Int) → Option ((List Nat × Int) ⊕ (List Nat))
  | (x3, x4) => (if x4 < (x3.length : Int) then (EM x3 x4 (x3.length : Int)).bind fun x5 => (EM x3 0 x4).bind fun x6 => some (.inl (I3 x3 x4 (min x6.length x5.length) x6, BN (x4 + ((min x6.length x5.length : Nat) : Int)))) else some (.inr x3))
noncomputable def AL (p0 : List Nat) (p1 : Int) : Option (List Nat) := (if p1 < 0 then none else (if (decide (0 < ((Ap (IntKind.u64.wrap (p0.length : Int)) (IntKind.u64.wrap p1)).1)) || decide (9223372036854775807 < ((Ap (IntKind.u64.wrap (p0.length : Int)) (IntKind.u64.wrap p1)).2))) = true then none else (mk (BN ((Ap (IntKind.u64.wrap (p0.length : Int)) (IntKind.u64.wrap p1)).2)) (0 : Nat)).bind fun x1 => (AM (AS) (I3 x1 0 (min p0.length x1.length) p0, ((min p0.length x1.length : Nat) : Int))).bind fun x2 => some x2))
theorem Bm (Y : Nat → Prop) (w0 : World) (v1 : Value) (p0 : List Nat) (p1 : Int) (r : List Nat) (H : AL p0 p1 = some r) (s_v1 : Sl w0 Y (Rp.flt .f64) v1 p0) :
    Calls Try.prog 29 #[v1, .int .i64 p1] w0 fun e w' => ∃ x : Value, e = .returned (x) ∧ Stw ⟨Y, [], w0⟩ [] [row (x) 56 (Rp.flt .f64) r] w' := by
 refine enter Try.func29 Aa Try.ntmps29 Aa fun a F => ?_
 have W := Stw.start Y w0
 have h_v1 := W.nx s_v1
 unfold AL at H
 refine Ah (Ab ?_)
 refine ls F W Aa (Ae F Aa).q fun a w F W => ?_
 refine Ad (Ac (Ah (Ah (Ab ?_))))
 refine ls F W Aa (Af F Aa).q fun a w F W => ?_
 refine ls F W Aa (Bl F Aa Aa).q fun a w F W => ?_
 refine Ad (Ac ?_)
 refine AC F Aa (fun hb => ?_) fun hb => ?_
 ·
  have H := AW (BB hb) H
  rw [hb] at F
  clear hb
  refine Ab ?_
  refine ls F W Aa (E9 I9 F Aa).q fun a w F W => ?_
  exact nomatch H
 have H := AV (BD hb) H
 rw [hb] at F
 clear hb
 refine Ax (Ac (Ah (Ab ?_)))
 refine ls F W Aa (Af F Aa).q fun a w F W => ?_
 refine ls F W Aa (Br (r := (Rp.flt .f64)) (l := p0) JQ Aa F Aa (Am h_v1)).q fun a w F W => ?_
 refine ls F W Aa (DQ MU Kt F Aa).q fun a w F W => ?_
 refine ls F W Aa (Af F Aa).q fun a w F W => ?_
 refine ls F W Aa (DQ MU Kt F Aa).q fun a w F W => ?_
 refine ls F W Aa (AZ (v := Value.tuple #[.int .u64 ((Ap (IntKind.u64.wrap (p0.length : Int)) (IntKind.u64.wrap p1)).1), .int .u64 ((Ap (IntKind.u64.wrap (p0.length : Int)) (IntKind.u64.wrap p1)).2)]) F QY Aa (fun w W => FV any w (IntKind.u64.wrap (p0.length : Int)) (IntKind.u64.wrap p1) _ Aa)) fun a w F W => ?_
 refine ls F W Aa (Af F Aa).q fun a w F W => ?_
 refine ls F W Aa (BP (v := Value.int .u64 ((Ap (IntKind.u64.wrap (p0.length : Int)) (IntKind.u64.wrap p1)).1)) F Aa Aa).q fun a w F W => ?_
 refine ls F W Aa (BP (v := Value.int .u64 ((Ap (IntKind.u64.wrap (p0.length : Int)) (IntKind.u64.wrap p1)).2)) F Aa Aa).q fun a w F W => ?_
 iterate 2 refine ls F W Aa (Ae F Aa).q fun a w F W => ?_
 refine Ad (Ac (Ah ?_))
 refine AJ (fun a w => Fr 48 [] [(0, v1), (4, .slice none 0 0), (6, .int .u64 ((Ap (IntKind.u64.wrap (p0.length : Int)) (IntKind.u64.wrap p1)).2)), (26, .bool (decide (0 < ((Ap (IntKind.u64.wrap (p0.length : Int)) (IntKind.u64.wrap p1)).1)) || decide (9223372036854775807 < ((Ap (IntKind.u64.wrap (p0.length : Int)) (IntKind.u64.wrap p1)).2))))] a ∧ Stw ⟨Y, [], w0⟩ [] [] w) ?_ ?_
 ·
  refine Ab ?_
  refine ls F W Aa (Af F Aa).q fun a w F W => ?_
  refine ls F W Aa (DM F Aa Aa).q fun a w F W => ?_
  refine ls F W Aa (Af F Aa).q fun a w F W => ?_
  rcases Bool.eq_false_or_eq_true (decide (0 < ((Ap (IntKind.u64.wrap (p0.length : Int)) (IntKind.u64.wrap p1)).1))) with hb0 | hb0
  ·
   rw [hb0] at F
   iterate 2 refine Ct F Aa Aa Aa Aa Aa Aa Aa fun a F => ?_
   refine ls F W Aa (Ao F Aa Aa Aa).q fun a w F W => ?_
   refine Ad (Ac ?_)
   exact ⟨F.re ⟨rfl, Aa, Aa, (by show some (Value.bool true) = some (Value.bool (decide (0 < ((Ap (IntKind.u64.wrap (p0.length : Int)) (IntKind.u64.wrap p1)).1)) || decide (9223372036854775807 < ((Ap (IntKind.u64.wrap (p0.length : Int)) (IntKind.u64.wrap p1)).2)))); try rw [hb0]; all_goals simp only [Bool.not_true, Bool.not_false, Bool.true_and, Bool.false_and, Bool.true_or, Bool.false_or, Bool.and_true, Bool.or_false, cond_true, cond_false]), trivial⟩, W⟩
  rw [hb0] at F
  refine AB F W (Ag F Aa Aa Aa Aa) Aa (Ak Aa) (Af F Aa).q fun a w F W => ?_
  refine AB F W (Ag F Aa Aa Aa Aa) Aa (Ak Aa) (DM F Aa Aa).q fun a w F W => ?_
  refine ls F W Aa (Aq F Aa Aa Aa).q fun a w F W => ?_
  refine Ad (Ac ?_)
  exact ⟨F.re ⟨rfl, Aa, Aa, (by show some (Value.bool (decide (9223372036854775807 < ((Ap (IntKind.u64.wrap (p0.length : Int)) (IntKind.u64.wrap p1)).2)))) = some (Value.bool (decide (0 < ((Ap (IntKind.u64.wrap (p0.length : Int)) (IntKind.u64.wrap p1)).1)) || decide (9223372036854775807 < ((Ap (IntKind.u64.wrap (p0.length : Int)) (IntKind.u64.wrap p1)).2)))); try rw [hb0]; all_goals simp only [Bool.not_true, Bool.not_false, Bool.true_and, Bool.false_and, Bool.true_or, Bool.false_or, Bool.and_true, Bool.or_false, cond_true, cond_false]), trivial⟩, W⟩
 rintro a w ⟨F, W⟩
 refine AC F Aa (fun hb => ?_) fun hb => ?_
 ·
  have H := AW hb H
  rw [hb] at F
  clear hb
  refine Ab ?_
  refine ls F W Aa (E9 I9 F Aa).q fun a w F W => ?_
  exact nomatch H
 have H := AV (by rw [hb]; decide) H
 rw [hb] at F
 clear hb
 refine Ax (Ac (Ah (Ab ?_)))
 refine ls F W Aa (Af F Aa).q fun a w F W => ?_
 refine ls F W Aa (DQ Kt MU F Aa).q fun a w F W => ?_
 obtain ⟨x1, h1, H⟩ := Al H
 refine Lx (r := (Rp.flt .f64)) (0 : Nat) F W Aa Hy Pj Aa Aa (fun w A => Fl.flt.mk' w A _) h1 Aa fun v2 a w F W => ?_
 refine ls F W Aa (Ae F Aa).q fun a w F W => ?_
 refine Ad (Ac (Ah (Ab ?_)))
 iterate 2 refine ls F W Aa (Af F Aa).q fun a w F W => ?_
 refine ND (r := (Rp.flt .f64)) (k := 0) F W Aa Hy Aa Aa Aa Aa (LU W s_v1) fun a w F W => ?_
 have W : Stw ⟨Y, [], w0⟩ [] [row v2 56 (Rp.flt .f64) (I3 x1 0 (min p0.length x1.length) p0)] w := W
 refine ls F W Aa (Ae F Aa).q fun a w F W => ?_
 refine Ad (Ac ?_)
 obtain ⟨o1, G1, K1⟩ := Al H
 refine AJ (fun a w => ∃ x2 : List Nat, some (x2) = some o1 ∧ Fr 48 [] [(4, .slice none 0 0), (7, v2)] a ∧ Stw ⟨Y, [], w0⟩ [] [row v2 56 (Rp.flt .f64) x2] w) ?_ ?_
 ·
  have H := G1
  clear G1 K1
  refine As ?_
  refine Be H (fun s a w => Fr 48 [] [(4, .slice none 0 0), (7, v2), (8, .int .i64 s.2)] a ∧ Stw ⟨Y, [], w0⟩ [] [row v2 56 (Rp.flt .f64) s.1] w) ⟨F.re ⟨rfl, Aa, Aa, trivial⟩, W⟩ fun s o a w H L2 hR => ?_
  obtain ⟨x3, x4⟩ := s
  obtain ⟨F, W⟩ := hR
  have F : Fr 48 [] [(4, .slice none 0 0), (7, v2), (8, .int .i64 x4)] a := F
  have W : Stw ⟨Y, [], w0⟩ [] [row v2 56 (Rp.flt .f64) x3] w := W
  rw [AS] at H
  refine Ah (Ah (Ab ?_))
  iterate 2 refine ls F W Aa (Af F Aa).q fun a w F W => ?_
  refine ls F W Aa (Br (r := (Rp.flt .f64)) (l := x3) JQ Aa F Aa (Av 0 Aa)).q fun a w F W => ?_
  refine ls F W Aa (Bl F Aa Aa).q fun a w F W => ?_
  refine Ad (Ac ?_)
  refine AC F Aa (fun hb => ?_) fun hb => ?_
  ·
   have H := AW (BB hb) H
   rw [hb] at F
   clear hb
   refine Ax (Ac (As ?_))
   refine Mn 7 [0] [1, 2, 3, 4, 5, 6] (fun ch a d v w h => by cases d <;> exact h) W MO (by kernel_rfl) ?_
   refine hm F Aa Aa Aa fun a F => ?_
   refine NH ?_
   iterate 2 refine hs F Aa Aa Aa (Af F Aa).q fun a F => ?_
   obtain ⟨x5, h2, H⟩ := Al H
   refine hs F Aa Aa Aa (Gu (r := (Rp.flt .f64)) Hy F Aa Aa Aa (Av 0 Aa) h2).q fun a F => ?_
   iterate 2 refine hs F Aa Aa Aa (Af F Aa).q fun a F => ?_
   obtain ⟨x6, h3, H⟩ := Al H
   refine hs F Aa Aa Aa (Gu (r := (Rp.flt .f64)) Hy F Aa Aa Aa (Av 0 Aa) h3).q fun a F => ?_
   refine Pf fun w W => ?_
   have W : Stw ⟨Y, [], w0⟩ [] [row v2 56 (Rp.flt .f64) x3] w := W
   refine L7 (r := (Rp.flt .f64)) (v := v2) (k := 0) F W Aa Hy Aa Aa Aa Aa h2 (Jf.sub (DA W 0 Aa) h3) fun a w F W => ?_
   have W : Stw ⟨Y, [], w0⟩ [] [row v2 56 (Rp.flt .f64) (I3 x3 x4 (min x6.length x5.length) x6)] w := W
   refine ls F W Aa (BQ F Aa Aa Aa).q fun a w F W => ?_
   refine ls F W Aa (Ae F Aa).q fun a w F W => ?_
   refine Ad (AO (Ac ?_))
   exact ⟨_, H, F.re ⟨rfl, Aa, Aa, trivial⟩, W⟩
  have H := AV (BD hb) H
  rw [hb] at F
  clear hb
  refine Bg ?_
  iterate 2 refine BJ ?_
  refine Bh (Ac ?_)
  have H := L2 _ H
  exact ⟨_, H, F.re ⟨rfl, Aa, trivial⟩, W⟩
 rintro a w ⟨x2, hj, F, W⟩
 have hj := AX hj
 subst hj
 have H := K1
 clear G1 K1
 refine Ah (Ab ?_)
 refine ls F W Aa (Af F Aa).q fun a w F W => ?_
 refine ls F W Aa (Ae F Aa).q fun a w F W => ?_
 refine Ad (Ac (Az ?_))
 have H := AX H
 subst H
 refine A0 (.inl Aa) F W Aa (Au F Aa) ?_
 exact ⟨(v2), Aa, W⟩
theorem Q2 : type_of% Try.underlying5 := Try.underlying5
theorem R0 : type_of% Try.underlying9 := Try.underlying9
theorem Jd : type_of% Try.underlying36 := Try.underlying36
theorem Qi : type_of% Try.underlying59 := Try.underlying59
theorem Qq : Has Try.prog 29 := ⟨fun args w => Aj Try.func29 rfl (by decide) args w⟩
theorem Qp : (Try.prog.info? 29).bind (·.zero) = some (.slice none 0 0) := by kernel_rfl
theorem Mc : Ty Try.prog 29 false 1 := ⟨by kernel_rfl, by kernel_rfl⟩
theorem Z3 : (Try.prog.info? 3).bind (·.zero) = some (.int .i64 0) := by kernel_rfl
theorem FM : Et Try.prog 36 3 1 8 := Et.of Jd (by kernel_rfl) (by kernel_rfl) (by kernel_rfl) (by decide)
noncomputable def CT (p0 : Int) : Option Int := (if 4294967296 ≤ p0 then some (Ga .u64 p0 32, 32) else some (p0, 0)).bind fun (x1, x2) => (if 65536 ≤ x1 then some (Ga .u64 x1 16, BN (x2 + 16)) else some (x1, x2)).bind fun (x3, x4) => (if 256 ≤ x3 then some (Ga .u64 x3 8, BN (x4 + 8)) else some (x3, x4)).bind fun (x5, x6) => (ix ([0, 1, 2, 2, 3, 3, 3, 3, 4, 4, 4, 4, 4, 4, 4, 4, 5, 5, 5, 5, 5, 5, 5, 5, 5, 5, 5, 5, 5, 5, 5, 5, 6, 6, 6, 6, 6, 6, 6, 6, 6, 6, 6, 6, 6, 6, 6, 6, 6, 6, 6, 6, 6, 6, 6, 6, 6, 6, 6, 6, 6, 6, 6, 6, 7, 7, 7, 7, 7, 7, 7, 7, 7, 7, 7, 7, 7, 7, 7, 7, 7, 7, 7, 7, 7, 7, 7, 7, 7, 7, 7, 7, 7, 7, 7, 7, 7, 7, 7, 7, 7, 7, 7, 7, 7, 7, 7, 7, 7, 7, 7, 7, 7, 7, 7, 7, 7, 7, 7, 7, 7, 7, 7, 7, 7, 7, 7, 7, 8, 8, 8, 8, 8, 8, 8, 8, 8, 8, 8, 8, 8, 8, 8, 8, 8, 8, 8, 8, 8, 8, 8, 8, 8, 8, 8, 8, 8, 8, 8, 8, 8, 8, 8, 8, 8, 8, 8, 8, 8, 8, 8, 8, 8, 8, 8, 8, 8, 8, 8, 8, 8, 8, 8, 8, 8, 8, 8, 8, 8, 8, 8, 8, 8, 8, 8, 8, 8, 8, 8, 8, 8, 8, 8, 8, 8, 8, 8, 8, 8, 8, 8, 8, 8, 8, 8, 8, 8, 8, 8, 8, 8, 8, 8, 8, 8, 8, 8, 8, 8, 8, 8, 8, 8, 8, 8, 8, 8, 8, 8, 8, 8, 8, 8, 8, 8, 8, 8, 8, 8, 8, 8, 8, 8, 8, 8, 8] : List UInt8) (IntKind.u8.wrap x5)).bind fun x7 => some (BN (x6 + (BN (x7.toNat : Int))))
theorem Hh (Y : Nat → Prop) (w0 : World)  (p0 : Int) (r : Int) (H : CT p0 = some r)  :
    Calls Try.prog 78 #[.int .u64 p0] w0 fun e w' => e = .returned (.int .i64 r) ∧ Below w0.heap.size w0 w' := by
 refine enter Try.func78 Aa Try.ntmps78 Aa fun a F => ?_
 have W := Stw.start Y w0
 unfold CT at H
 refine Ah (Ab ?_)
 refine ls F W Aa (Ae F Aa).q fun a w F W => ?_
 refine Ad (Ac ?_)
 obtain ⟨o1, G1, K1⟩ := Al H
 refine AJ (fun a w => ∃ x1 : Int, ∃ x2 : Int, some ((x1, x2)) = some o1 ∧ Fr 25 [] [(0, .int .u64 x1), (2, .int .i64 x2)] a ∧ Stw ⟨Y, [], w0⟩ [] [] w) ?_ ?_
 ·
  have H := G1
  clear G1 K1
  refine Ah (Ab ?_)
  refine ls F W Aa (Af F Aa).q fun a w F W => ?_
  refine ls F W Aa (Fa F Aa Aa).q fun a w F W => ?_
  refine Ad (Ac ?_)
  refine AC F Aa (fun hb => ?_) fun hb => ?_
  ·
   have H := AW (BB hb) H
   rw [hb] at F
   clear hb
   refine Ah (Ab ?_)
   refine ls F W Aa (Af F Aa).q fun a w F W => ?_
   refine ls F W Aa (HY F Aa Aa (by decide)).q fun a w F W => ?_
   refine ls F W Aa (Ae F Aa).q fun a w F W => ?_
   refine Ad (Ac (Ab ?_))
   refine ls F W Aa (Ae F Aa).q fun a w F W => ?_
   refine Ad (Ac ?_)
   exact ⟨_, _, H, F.re ⟨rfl, Aa, trivial⟩, W⟩
  have H := AV (BD hb) H
  rw [hb] at F
  clear hb
  refine Ax (Ac ?_)
  exact ⟨_, _, H, F.re ⟨rfl, Aa, trivial⟩, W⟩
 rintro a w ⟨x1, x2, hj, F, W⟩
 have hj := AX hj
 subst hj
 have H := K1
 clear G1 K1
 obtain ⟨o2, G2, K2⟩ := Al H
 refine AJ (fun a w => ∃ x3 : Int, ∃ x4 : Int, some ((x3, x4)) = some o2 ∧ Fr 25 [] [(0, .int .u64 x3), (2, .int .i64 x4)] a ∧ Stw ⟨Y, [], w0⟩ [] [] w) ?_ ?_
 ·
  have H := G2
  clear G2 K2
  refine Ah (Ab ?_)
  refine ls F W Aa (Af F Aa).q fun a w F W => ?_
  refine ls F W Aa (Fa F Aa Aa).q fun a w F W => ?_
  refine Ad (Ac ?_)
  refine AC F Aa (fun hb => ?_) fun hb => ?_
  ·
   have H := AW (BB hb) H
   rw [hb] at F
   clear hb
   refine Ah (Ab ?_)
   refine ls F W Aa (Af F Aa).q fun a w F W => ?_
   refine ls F W Aa (HY F Aa Aa (by decide)).q fun a w F W => ?_
   refine ls F W Aa (Ae F Aa).q fun a w F W => ?_
   refine Ad (Ac (Ab ?_))
   refine ls F W Aa (Af F Aa).q fun a w F W => ?_
   refine ls F W Aa (BQ F Aa Aa Aa).q fun a w F W => ?_
   refine ls F W Aa (Ae F Aa).q fun a w F W => ?_
   refine Ad (Ac ?_)
   exact ⟨_, _, H, F.re ⟨rfl, Aa, trivial⟩, W⟩
  have H := AV (BD hb) H
  rw [hb] at F
  clear hb
  refine Ax (Ac ?_)
  exact ⟨_, _, H, F.re ⟨rfl, Aa, trivial⟩, W⟩
 rintro a w ⟨x3, x4, hj, F, W⟩
 have hj := AX hj
 subst hj
 have H := K2
 clear G2 K2
 obtain ⟨o3, G3, K3⟩ := Al H
 refine AJ (fun a w => ∃ x5 : Int, ∃ x6 : Int, some ((x5, x6)) = some o3 ∧ Fr 25 [] [(0, .int .u64 x5), (2, .int .i64 x6)] a ∧ Stw ⟨Y, [], w0⟩ [] [] w) ?_ ?_
 ·
  have H := G3
  clear G3 K3
  refine Ah (Ab ?_)
  refine ls F W Aa (Af F Aa).q fun a w F W => ?_
  refine ls F W Aa (Fa F Aa Aa).q fun a w F W => ?_
  refine Ad (Ac ?_)
  refine AC F Aa (fun hb => ?_) fun hb => ?_
  ·
   have H := AW (BB hb) H
   rw [hb] at F
   clear hb
   refine Ah (Ab ?_)
   refine ls F W Aa (Af F Aa).q fun a w F W => ?_
   refine ls F W Aa (HY F Aa Aa (by decide)).q fun a w F W => ?_
   refine ls F W Aa (Ae F Aa).q fun a w F W => ?_
   refine Ad (Ac (Ab ?_))
   refine ls F W Aa (Af F Aa).q fun a w F W => ?_
   refine ls F W Aa (BQ F Aa Aa Aa).q fun a w F W => ?_
   refine ls F W Aa (Ae F Aa).q fun a w F W => ?_
   refine Ad (Ac ?_)
   exact ⟨_, _, H, F.re ⟨rfl, Aa, trivial⟩, W⟩
  have H := AV (BD hb) H
  rw [hb] at F
  clear hb
  refine Ax (Ac ?_)
  exact ⟨_, _, H, F.re ⟨rfl, Aa, trivial⟩, W⟩
 rintro a w ⟨x5, x6, hj, F, W⟩
 have hj := AX hj
 subst hj
 have H := K3
 clear G3 K3
 refine Ah (Ab ?_)
 iterate 2 refine ls F W Aa (Af F Aa).q fun a w F W => ?_
 refine ls F W Aa (DQ Qi Q2 F Aa).q fun a w F W => ?_
 obtain ⟨x7, h1, H⟩ := Al H
 refine ls F W Aa (Og (l := ([0, 1, 2, 2, 3, 3, 3, 3, 4, 4, 4, 4, 4, 4, 4, 4, 5, 5, 5, 5, 5, 5, 5, 5, 5, 5, 5, 5, 5, 5, 5, 5, 6, 6, 6, 6, 6, 6, 6, 6, 6, 6, 6, 6, 6, 6, 6, 6, 6, 6, 6, 6, 6, 6, 6, 6, 6, 6, 6, 6, 6, 6, 6, 6, 7, 7, 7, 7, 7, 7, 7, 7, 7, 7, 7, 7, 7, 7, 7, 7, 7, 7, 7, 7, 7, 7, 7, 7, 7, 7, 7, 7, 7, 7, 7, 7, 7, 7, 7, 7, 7, 7, 7, 7, 7, 7, 7, 7, 7, 7, 7, 7, 7, 7, 7, 7, 7, 7, 7, 7, 7, 7, 7, 7, 7, 7, 7, 7, 8, 8, 8, 8, 8, 8, 8, 8, 8, 8, 8, 8, 8, 8, 8, 8, 8, 8, 8, 8, 8, 8, 8, 8, 8, 8, 8, 8, 8, 8, 8, 8, 8, 8, 8, 8, 8, 8, 8, 8, 8, 8, 8, 8, 8, 8, 8, 8, 8, 8, 8, 8, 8, 8, 8, 8, 8, 8, 8, 8, 8, 8, 8, 8, 8, 8, 8, 8, 8, 8, 8, 8, 8, 8, 8, 8, 8, 8, 8, 8, 8, 8, 8, 8, 8, 8, 8, 8, 8, 8, 8, 8, 8, 8, 8, 8, 8, 8, 8, 8, 8, 8, 8, 8, 8, 8, 8, 8, 8, 8, 8, 8, 8, 8, 8, 8, 8, 8, 8, 8, 8, 8, 8, 8, 8, 8, 8, 8] : List UInt8)) R0 F Aa Aa h1).q fun a w F W => ?_
 refine ls F W Aa (DQ Q2 MU F Aa).q fun a w F W => ?_
 refine ls F W Aa (BQ F Aa Aa Aa).q fun a w F W => ?_
 refine ls F W Aa (Ae F Aa).q fun a w F W => ?_
 refine Ad (Ac (Az ?_))
 have H := AX H
 subst H
 refine A0 (.inl Aa) F W Aa (Au F Aa) ?_
 exact ⟨rfl, W.done⟩
theorem RO : Has Try.prog 78 := ⟨fun args w => Aj Try.func78 rfl (by decide) args w⟩
noncomputable def Cg (p0 : Int) : Option Int := (CT p0).bind fun x1 => some x1
theorem FQ (Y : Nat → Prop) (w0 : World)  (p0 : Int) (r : Int) (H : Cg p0 = some r)  :
    Calls Try.prog 53 #[.int .u64 p0] w0 fun e w' => e = .returned (.int .i64 r) ∧ Below w0.heap.size w0 w' := by
 refine enter Try.func53 Aa Try.ntmps53 Aa fun a F => ?_
 have W := Stw.start Y w0
 unfold Cg at H
 refine Ah (Ab ?_)
 refine ls F W Aa (Ae F Aa).q fun a w F W => ?_
 refine Ad (Ac (Ah ?_))
 refine F9 F Aa ?_
 refine Ax (Ac (Ah (Ab ?_)))
 refine ls F W Aa (Af F Aa).q fun a w F W => ?_
 obtain ⟨x1, h1, H⟩ := Al H
 refine ls F W Aa (AZ (v := Value.int .i64 x1) F RO Aa (fun w W => Hh any w p0 _ h1)) fun a w F W => ?_
 refine ls F W Aa (Ae F Aa).q fun a w F W => ?_
 refine Ad (Ac (Az ?_))
 have H := AX H
 subst H
 refine A0 (.inl Aa) F W Aa (Au F Aa) ?_
 exact ⟨rfl, W.done⟩
theorem Ra : Has Try.prog 53 := ⟨fun args w => Aj Try.func53 rfl (by decide) args w⟩
def BZ (p0 : Nat) : Bool := (!(JP p0 p0))
theorem Ha (Y : Nat → Prop) (w0 : World)  (p0 : Nat) (r : Bool) (H : BZ p0 = r)  :
    Calls Try.prog 47 #[.float .f64 p0] w0 fun e w' => e = .returned (.bool r) ∧ Below w0.heap.size w0 w' := by
 refine enter Try.func47 Aa Try.ntmps47 Aa fun a F => ?_
 have W := Stw.start Y w0
 unfold BZ at H
 refine Ah (Ab ?_)
 refine ls F W Aa (Ae F Aa).q fun a w F W => ?_
 refine Ad (Ac (Ah (Ab ?_)))
 iterate 2 refine ls F W Aa (Af F Aa).q fun a w F W => ?_
 refine ls F W Aa (PD F Aa Aa).q fun a w F W => ?_
 refine ls F W Aa (Ae F Aa).q fun a w F W => ?_
 refine Ad (Ac (Az ?_))
 subst H
 refine A0 (.inl Aa) F W Aa (Au F Aa) ?_
 exact ⟨rfl, W.done⟩
theorem Rc : Has Try.prog 47 := ⟨fun args w => Aj Try.func47 rfl (by decide) args w⟩
theorem QZ : QN Try.prog 48 Extern.MathFloatBits.float64bits := fun args w => run_callFunc_extern Try.func48 (by kernel_rfl) (by kernel_rfl) (by kernel_rfl) (by kernel_rfl) args w
def Gf (p0 : Nat) : Nat := (Int.toNat (Il .u64 (p0 : Int) 9223372036854775808))
theorem Lm (Y : Nat → Prop) (w0 : World)  (p0 : Nat) (r : Nat) (H : Gf p0 = r)  :
    Calls Try.prog 100 #[.float .f64 p0] w0 fun e w' => e = .returned (.float .f64 r) ∧ Below w0.heap.size w0 w' := by
 refine enter Try.func100 Aa Try.ntmps100 Aa fun a F => ?_
 have W := Stw.start Y w0
 unfold Gf at H
 refine Ah (Ab ?_)
 refine ls F W Aa (Ae F Aa).q fun a w F W => ?_
 refine Ad (Ac (Ah (Ab ?_)))
 refine ls F W Aa (Af F Aa).q fun a w F W => ?_
 refine ls F W Aa (Jq (v := Value.int .u64 (p0 : Int)) F QZ Aa (fun w => rfl)).q fun a w F W => ?_
 refine ls F W Aa (On F Aa Aa).q fun a w F W => ?_
 refine ls F W Aa (Jq (v := Value.float .f64 (Int.toNat (Il .u64 (p0 : Int) 9223372036854775808))) F Qs Aa (fun w => rfl)).q fun a w F W => ?_
 refine ls F W Aa (Ae F Aa).q fun a w F W => ?_
 refine Ad (Ac (Az ?_))
 subst H
 refine A0 (.inl Aa) F W Aa (Au F Aa) ?_
 exact ⟨rfl, W.done⟩
theorem QA : Has Try.prog 100 := ⟨fun args w => Aj Try.func100 rfl (by decide) args w⟩
noncomputable def Cv (p0 : Nat) (p1 : Int) : Option Bool := (if p1 = 0 then some (Gf p0) else (if p1 < 0 then some (Op.negFloat .f64 p0) else some p0)).bind fun x1 => some (Nb x1 9218868437227405311)
theorem G0 (Y : Nat → Prop) (w0 : World)  (p0 : Nat) (p1 : Int) (r : Bool) (H : Cv p0 p1 = some r)  :
    Calls Try.prog 89 #[.float .f64 p0, .int .i64 p1] w0 fun e w' => e = .returned (.bool r) ∧ Below w0.heap.size w0 w' := by
 refine enter Try.func89 Aa Try.ntmps89 Aa fun a F => ?_
 have W := Stw.start Y w0
 unfold Cv at H
 refine Ah (Ab ?_)
 refine ls F W Aa (Ae F Aa).q fun a w F W => ?_
 refine Ad (Ac ?_)
 obtain ⟨o1, G1, K1⟩ := Al H
 refine AJ (fun a w => ∃ x1 : Nat, some (x1) = some o1 ∧ Fr 15 [] [(0, .float .f64 x1), (4, .bool false)] a ∧ Stw ⟨Y, [], w0⟩ [] [] w) ?_ ?_
 ·
  have H := G1
  clear G1 K1
  refine Ah (Ab ?_)
  refine ls F W Aa (Af F Aa).q fun a w F W => ?_
  refine ls F W Aa (CM F Aa Aa).q fun a w F W => ?_
  refine Ad (Ac ?_)
  refine AC F Aa (fun hb => ?_) fun hb => ?_
  ·
   have H := AW (BB hb) H
   rw [hb] at F
   clear hb
   refine Ab ?_
   refine ls F W Aa (Af F Aa).q fun a w F W => ?_
   refine ls F W Aa (AZ (v := Value.float .f64 (Gf p0)) F QA Aa (fun w W => Lm any w p0 _ Aa)) fun a w F W => ?_
   refine ls F W Aa (Ae F Aa).q fun a w F W => ?_
   refine Ad (Ac ?_)
   exact ⟨_, H, F.re ⟨rfl, Aa, trivial⟩, W⟩
  have H := AV (BD hb) H
  rw [hb] at F
  clear hb
  refine Ah (Ab ?_)
  refine ls F W Aa (Af F Aa).q fun a w F W => ?_
  refine ls F W Aa (Bl F Aa Aa).q fun a w F W => ?_
  refine Ad (Ac ?_)
  refine AC F Aa (fun hb => ?_) fun hb => ?_
  ·
   have H := AW (BB hb) H
   rw [hb] at F
   clear hb
   refine Ab ?_
   refine ls F W Aa (Af F Aa).q fun a w F W => ?_
   refine ls F W Aa (Pu F Aa).q fun a w F W => ?_
   refine ls F W Aa (Ae F Aa).q fun a w F W => ?_
   refine Ad (Ac ?_)
   exact ⟨_, H, F.re ⟨rfl, Aa, trivial⟩, W⟩
  have H := AV (BD hb) H
  rw [hb] at F
  clear hb
  refine Ax (Ac ?_)
  exact ⟨_, H, F.re ⟨rfl, Aa, trivial⟩, W⟩
 rintro a w ⟨x1, hj, F, W⟩
 have hj := AX hj
 subst hj
 have H := K1
 clear G1 K1
 refine Ah (Ab ?_)
 refine ls F W Aa (Af F Aa).q fun a w F W => ?_
 refine ls F W Aa (Lp F Aa Aa).q fun a w F W => ?_
 refine ls F W Aa (Ae F Aa).q fun a w F W => ?_
 refine Ad (Ac (Az ?_))
 have H := AX H
 subst H
 refine A0 (.inl Aa) F W Aa (Au F Aa) ?_
 exact ⟨rfl, W.done⟩
theorem RI : type_of% Try.underlying2 := Try.underlying2
theorem Q5 : Has Try.prog 89 := ⟨fun args w => Aj Try.func89 rfl (by decide) args w⟩
def CS (p0 : Nat) : Bool := decide ((BN (p0 : Int)) < 0)
theorem ID (Y : Nat → Prop) (w0 : World)  (p0 : Nat) (r : Bool) (H : CS p0 = r)  :
    Calls Try.prog 90 #[.float .f64 p0] w0 fun e w' => e = .returned (.bool r) ∧ Below w0.heap.size w0 w' := by
 refine enter Try.func90 Aa Try.ntmps90 Aa fun a F => ?_
 have W := Stw.start Y w0
 unfold CS at H
 refine Ah (Ab ?_)
 refine ls F W Aa (Ae F Aa).q fun a w F W => ?_
 refine Ad (Ac (Ah (Ab ?_)))
 refine ls F W Aa (Af F Aa).q fun a w F W => ?_
 refine ls F W Aa (Jq (v := Value.int .u64 (p0 : Int)) F QZ Aa (fun w => rfl)).q fun a w F W => ?_
 refine ls F W Aa (DQ Qi RI F Aa).q fun a w F W => ?_
 refine ls F W Aa (Bl F Aa Aa).q fun a w F W => ?_
 refine ls F W Aa (Ae F Aa).q fun a w F W => ?_
 refine Ad (Ac (Az ?_))
 subst H
 refine A0 (.inl Aa) F W Aa (Au F Aa) ?_
 exact ⟨rfl, W.done⟩
theorem R8 : Has Try.prog 90 := ⟨fun args w => Aj Try.func90 rfl (by decide) args w⟩
noncomputable def C9 (p0 : Nat) : Option Int := (if (BZ p0) = true then some 0 else (Cv p0 (-1)).bind fun x1 => (if x1 = true then some 1 else (if (Kr p0 0) = true then some 2 else (Cv p0 1).bind fun x2 => (if x2 = true then some 6 else (if (Nb p0 0) = true then some 5 else (if (CS p0) = true then some 3 else some 4))))))
theorem Ja (Y : Nat → Prop) (w0 : World)  (p0 : Nat) (r : Int) (H : C9 p0 = some r)  :
    Calls Try.prog 79 #[.float .f64 p0] w0 fun e w' => e = .returned (.int .i64 r) ∧ Below w0.heap.size w0 w' := by
 refine enter Try.func79 Aa Try.ntmps79 Aa fun a F => ?_
 have W := Stw.start Y w0
 unfold C9 at H
 refine Ah (Ab ?_)
 refine ls F W Aa (Ae F Aa).q fun a w F W => ?_
 refine Ad (Ac (Ah (As (Ah (Ab ?_)))))
 refine ls F W Aa (Af F Aa).q fun a w F W => ?_
 refine ls F W Aa (AZ (v := Value.bool (BZ p0)) F Rc Aa (fun w W => Ha any w p0 _ Aa)) fun a w F W => ?_
 refine ls F W Aa (Ae F Aa).q fun a w F W => ?_
 refine Ad (Ac ?_)
 refine AC F Aa (fun hb => ?_) fun hb => ?_
 ·
  have H := AW hb H
  rw [hb] at F
  clear hb
  refine Ah (Ab ?_)
  refine ls F W Aa (Ae F Aa).q fun a w F W => ?_
  refine Ad (Ac (Az (A3 (AU ?_))))
  have H := AX H
  subst H
  refine A0 (.inl Aa) F W Aa (Au F Aa) ?_
  exact ⟨rfl, W.done⟩
 have H := AV (by rw [hb]; decide) H
 rw [hb] at F
 clear hb
 refine Ah (Ab ?_)
 refine ls F W Aa (Af F Aa).q fun a w F W => ?_
 obtain ⟨x1, h1, H⟩ := Al H
 refine ls F W Aa (AZ (v := Value.bool x1) F Q5 Aa (fun w W => G0 any w p0 (-1) _ h1)) fun a w F W => ?_
 refine ls F W Aa (Ae F Aa).q fun a w F W => ?_
 refine Ad (Ac ?_)
 refine AC F Aa (fun hb => ?_) fun hb => ?_
 ·
  have H := AW hb H
  rw [hb] at F
  clear hb
  refine Ah (Ab ?_)
  refine ls F W Aa (Ae F Aa).q fun a w F W => ?_
  refine Ad (Ac (Az (A3 (AU ?_))))
  have H := AX H
  subst H
  refine A0 (.inl Aa) F W Aa (Au F Aa) ?_
  exact ⟨rfl, W.done⟩
 have H := AV (by rw [hb]; decide) H
 rw [hb] at F
 clear hb
 refine Ah (Ab ?_)
 refine ls F W Aa (Af F Aa).q fun a w F W => ?_
 refine ls F W Aa (JZ F Aa Aa).q fun a w F W => ?_
 refine ls F W Aa (Ae F Aa).q fun a w F W => ?_
 refine Ad (Ac ?_)
 refine AC F Aa (fun hb => ?_) fun hb => ?_
 ·
  have H := AW hb H
  rw [hb] at F
  clear hb
  refine Ah (Ab ?_)
  refine ls F W Aa (Ae F Aa).q fun a w F W => ?_
  refine Ad (Ac (Az (A3 (AU ?_))))
  have H := AX H
  subst H
  refine A0 (.inl Aa) F W Aa (Au F Aa) ?_
  exact ⟨rfl, W.done⟩
 have H := AV (by rw [hb]; decide) H
 rw [hb] at F
 clear hb
 refine Ah (Ab ?_)
 refine ls F W Aa (Af F Aa).q fun a w F W => ?_
 obtain ⟨x2, h2, H⟩ := Al H
 refine ls F W Aa (AZ (v := Value.bool x2) F Q5 Aa (fun w W => G0 any w p0 1 _ h2)) fun a w F W => ?_
 refine ls F W Aa (Ae F Aa).q fun a w F W => ?_
 refine Ad (Ac ?_)
 refine AC F Aa (fun hb => ?_) fun hb => ?_
 ·
  have H := AW hb H
  rw [hb] at F
  clear hb
  refine Ah (Ab ?_)
  refine ls F W Aa (Ae F Aa).q fun a w F W => ?_
  refine Ad (Ac (Az (A3 (AU ?_))))
  have H := AX H
  subst H
  refine A0 (.inl Aa) F W Aa (Au F Aa) ?_
  exact ⟨rfl, W.done⟩
 have H := AV (by rw [hb]; decide) H
 rw [hb] at F
 clear hb
 refine Ah (Ab ?_)
 refine ls F W Aa (Af F Aa).q fun a w F W => ?_
 refine ls F W Aa (Lp F Aa Aa).q fun a w F W => ?_
 refine ls F W Aa (Ae F Aa).q fun a w F W => ?_
 refine Ad (Ac ?_)
 refine AC F Aa (fun hb => ?_) fun hb => ?_
 ·
  have H := AW hb H
  rw [hb] at F
  clear hb
  refine Ah (Ab ?_)
  refine ls F W Aa (Ae F Aa).q fun a w F W => ?_
  refine Ad (Ac (Az (A3 (AU ?_))))
  have H := AX H
  subst H
  refine A0 (.inl Aa) F W Aa (Au F Aa) ?_
  exact ⟨rfl, W.done⟩
 have H := AV (by rw [hb]; decide) H
 rw [hb] at F
 clear hb
 refine Ah (Ab ?_)
 refine ls F W Aa (Af F Aa).q fun a w F W => ?_
 refine ls F W Aa (AZ (v := Value.bool (CS p0)) F R8 Aa (fun w W => ID any w p0 _ Aa)) fun a w F W => ?_
 refine ls F W Aa (Ae F Aa).q fun a w F W => ?_
 refine Ad (Ac ?_)
 refine AC F Aa (fun hb => ?_) fun hb => ?_
 ·
  have H := AW hb H
  rw [hb] at F
  clear hb
  refine Ah (Ab ?_)
  refine ls F W Aa (Ae F Aa).q fun a w F W => ?_
  refine Ad (Ac (Az (A3 (AU ?_))))
  have H := AX H
  subst H
  refine A0 (.inl Aa) F W Aa (Au F Aa) ?_
  exact ⟨rfl, W.done⟩
 have H := AV (by rw [hb]; decide) H
 rw [hb] at F
 clear hb
 refine Ax (AO (Ac (Ah (Ab ?_))))
 refine ls F W Aa (Ae F Aa).q fun a w F W => ?_
 refine Ad (Ac (Az ?_))
 have H := AX H
 subst H
 refine A0 (.inl Aa) F W Aa (Au F Aa) ?_
 exact ⟨rfl, W.done⟩
theorem Rs : Has Try.prog 79 := ⟨fun args w => Aj Try.func79 rfl (by decide) args w⟩
noncomputable def C7 (p0 : Nat) : Option Int := (C9 p0).bind fun x1 => (if x1 ≠ 0 then some x1 else some 7)
theorem GR (Y : Nat → Prop) (w0 : World)  (p0 : Nat) (r : Int) (H : C7 p0 = some r)  :
    Calls Try.prog 54 #[.float .f64 p0] w0 fun e w' => e = .returned (.int .i64 r) ∧ Below w0.heap.size w0 w' := by
 refine enter Try.func54 Aa Try.ntmps54 Aa fun a F => ?_
 have W := Stw.start Y w0
 unfold C7 at H
 refine Ah (Ab ?_)
 refine ls F W Aa (Ae F Aa).q fun a w F W => ?_
 refine Ad (Ac (Ah (Ah (Ab ?_))))
 refine ls F W Aa (Af F Aa).q fun a w F W => ?_
 obtain ⟨x1, h1, H⟩ := Al H
 refine ls F W Aa (AZ (v := Value.int .i64 x1) F Rs Aa (fun w W => Ja any w p0 _ h1)) fun a w F W => ?_
 refine ls F W Aa (Ae F Aa).q fun a w F W => ?_
 refine Ad (Ac (Ah (Ab ?_)))
 refine ls F W Aa (Af F Aa).q fun a w F W => ?_
 refine ls F W Aa (Nz F Aa Aa).q fun a w F W => ?_
 refine Ad (Ac ?_)
 refine AC F Aa (fun hb => ?_) fun hb => ?_
 ·
  have H := AW (BB hb) H
  rw [hb] at F
  clear hb
  refine Ah (Ab ?_)
  refine ls F W Aa (Af F Aa).q fun a w F W => ?_
  refine ls F W Aa (Ae F Aa).q fun a w F W => ?_
  refine Ad (Ac (Az (AU ?_)))
  have H := AX H
  subst H
  refine A0 (.inl Aa) F W Aa (Au F Aa) ?_
  exact ⟨rfl, W.done⟩
 have H := AV (BD hb) H
 rw [hb] at F
 clear hb
 refine Ax (Ac (Ah (Ab ?_)))
 refine ls F W Aa (Ae F Aa).q fun a w F W => ?_
 refine Ad (Ac (Az ?_))
 have H := AX H
 subst H
 refine A0 (.inl Aa) F W Aa (Au F Aa) ?_
 exact ⟨rfl, W.done⟩
end Go.Proofs.Ytbogijdfacoccaa
