/- The functions of layer 41, ER. Conditions: none. -/
import Derived.Test.YtpmhmemmniiomaaDoorRows
import Derived.Test.YtpmhmemmniiomaaDoorbOB
import Derived.Test.YtpmhmemmniiomaaDoorbOG
import Derived.Test.YtpmhmemmniiomaaDoorbOT
import Derived.Test.YtpmhmemmniiomaaDoorbQT
import Derived.Test.YtpmhmemmniiomaaDoorbOD
import Derived.Test.YtpmhmemmniiomaaDoorbOC
import Derived.Test.YtpmhmemmniiomaaDoorbOM
import Derived.Test.YtpmhmemmniiomaaDoorbDR
import Derived.Test.YtpmhmemmniiomaaDoorbOX
namespace Go.Proofs.YtpmhmemmniiomaaDoor
open Go Go.RowKit
set_option linter.unusedVariables false
set_option linter.unusedSimpArgs false
set_option maxRecDepth 20000
theorem Jr : type_of% Tryd.underlying3 := Tryd.underlying3
theorem HL : type_of% Tryd.underlying22 := Tryd.underlying22
theorem BM : type_of% Tryd.underlying41 := Tryd.underlying41
theorem Ik : type_of% Tryd.underlying43 := Tryd.underlying43
theorem Ea : type_of% Tryd.underlying45 := Tryd.underlying45
abbrev Gn : Rp (Int × Int × Int × Int × Int × Int) := (Rp.pair (Rp.int .i64) (Rp.pair (Rp.int .i64) (Rp.pair (Rp.int .i64) (Rp.pair (Rp.int .i64) (Rp.pair (Rp.int .i64) (Rp.int .i64))))))
theorem IM : Bt Tryd.prog 41 [.int .i64 0, .int .i64 0, .int .i64 0, .int .i64 0, .int .i64 0, .int .i64 0] [(0, 1), (1, 1), (2, 1), (3, 1), (4, 1), (5, 1)] := ⟨⟨.agg #[.int .i64 0, .int .i64 0, .int .i64 0, .int .i64 0, .int .i64 0, .int .i64 0], by kernel_rfl, rfl⟩, ⟨_, BM, fun w => by kernel_rfl⟩⟩
theorem IY : (Tryd.prog.info? 41).bind (·.zero) = some (.agg #[.int .i64 0, .int .i64 0, .int .i64 0, .int .i64 0, .int .i64 0, .int .i64 0]) := by kernel_rfl
def Jv (a : Int × Int × Int × Int × Int × Int) : List Value := [.int .i64 a.1, .int .i64 a.2.1, .int .i64 a.2.2.1, .int .i64 a.2.2.2.1, .int .i64 a.2.2.2.2.1, .int .i64 a.2.2.2.2.2]
theorem IU : Fl Gn Jv := (Fl.pair Fl.int (Fl.pair Fl.int (Fl.pair Fl.int (Fl.pair Fl.int (Fl.pair Fl.int Fl.int)))))
theorem I1 : Et Tryd.prog 22 41 6 48 := Et.of HL (by kernel_rfl) (by kernel_rfl) (by kernel_rfl) (by decide)
abbrev AV (x : Int) : Value := .int .i64 x
theorem Jt : Bt Tryd.prog 45 [.slice none 0 0, .map none, .slice none 0 0] [(0, 1), (1, 1), (2, 1)] := ⟨⟨.agg #[.slice none 0 0, .map none, .slice none 0 0], by kernel_rfl, rfl⟩, ⟨_, Ea, fun w => by kernel_rfl⟩⟩
theorem Jl : (Tryd.prog.info? 45).bind (·.zero) = some (.agg #[.slice none 0 0, .map none, .slice none 0 0]) := by kernel_rfl
theorem Ju : Ty Tryd.prog 45 true 3 := ⟨by kernel_rfl, by kernel_rfl⟩
theorem Ie : Ty Tryd.prog 41 true 6 := ⟨by kernel_rfl, by kernel_rfl⟩
abbrev Ed : Rp (Int × Int × Int × Int × List Int × Int × Int × Int) := (Rp.pair (Rp.int .i64) (Rp.pair (Rp.int .i64) (Rp.pair (Rp.int .i64) (Rp.pair (Rp.int .i64) (Rp.pair (Rp.slice (Rp.int .i64)) (Rp.pair (Rp.int .i64) (Rp.pair (Rp.int .i64) (Rp.int .i64))))))))
abbrev AG : Dp (Int × Int × Int × Int × (Value × Nat × List Int) × Int × Int × Int) := (Dp.pair (Dp.fl 1 (fun a => [.int .i64 a]) (fun _ => rfl)) (Dp.pair (Dp.fl 1 (fun a => [.int .i64 a]) (fun _ => rfl)) (Dp.pair (Dp.fl 1 (fun a => [.int .i64 a]) (fun _ => rfl)) (Dp.pair (Dp.fl 1 (fun a => [.int .i64 a]) (fun _ => rfl)) (Dp.pair (Dp.sl 3 (Rp.int .i64)) (Dp.pair (Dp.fl 1 (fun a => [.int .i64 a]) (fun _ => rfl)) (Dp.pair (Dp.fl 1 (fun a => [.int .i64 a]) (fun _ => rfl)) (Dp.fl 1 (fun a => [.int .i64 a]) (fun _ => rfl)))))))))
abbrev A8 (p : Int × Int × Int × Int × (Value × Nat × List Int) × Int × Int × Int) : Int × Int × Int × Int × (Nat × List Int) × Int × Int × Int := (p.1, p.2.1, p.2.2.1, p.2.2.2.1, p.2.2.2.2.1.2, p.2.2.2.2.2.1, p.2.2.2.2.2.2.1, p.2.2.2.2.2.2.2)
abbrev HA : (Int × Int × Int × Int × (Nat × List Int) × Int × Int × Int) → Option (Int × Int × Int × Int × List Int × Int × Int × Int) := (fun (p : Int × Int × Int × Int × (Nat × List Int) × Int × Int × Int) => (some p.1).bind fun a => ((fun (p : Int × Int × Int × (Nat × List Int) × Int × Int × Int) => (some p.1).bind fun a => ((fun (p : Int × Int × (Nat × List Int) × Int × Int × Int) => (some p.1).bind fun a => ((fun (p : Int × (Nat × List Int) × Int × Int × Int) => (some p.1).bind fun a => ((fun (p : (Nat × List Int) × Int × Int × Int) => (IL p.1).bind fun a => ((fun (p : Int × Int × Int) => (some p.1).bind fun a => ((fun (p : Int × Int) => (some p.1).bind fun a => (some p.2).bind fun b => some (a, b)) p.2).bind fun b => some (a, b)) p.2).bind fun b => some (a, b)) p.2).bind fun b => some (a, b)) p.2).bind fun b => some (a, b)) p.2).bind fun b => some (a, b)) p.2).bind fun b => some (a, b))
theorem IR : Rst AG Ed A8 HA := (Rst.pair (Rst.flat Fl.int (fun _ => rfl) rfl) (Rst.pair (Rst.flat Fl.int (fun _ => rfl) rfl) (Rst.pair (Rst.flat Fl.int (fun _ => rfl) rfl) (Rst.pair (Rst.flat Fl.int (fun _ => rfl) rfl) (Rst.pair Rst.sl (Rst.pair (Rst.flat Fl.int (fun _ => rfl) rfl) (Rst.pair (Rst.flat Fl.int (fun _ => rfl) rfl) (Rst.flat Fl.int (fun _ => rfl) rfl))))))))
theorem IK : KeyEnc Tryd.prog 3 AV := KeyEnc.int Jr
theorem T3 : Ty Tryd.prog 3 false 1 := ⟨by kernel_rfl, by kernel_rfl⟩
theorem MO : Tryd.prog.follows .mixedOrders = true := by kernel_rfl
theorem C4 : Ty Tryd.prog 30 false 1 := ⟨by kernel_rfl, by kernel_rfl⟩
theorem Iy : Ty Tryd.prog 43 false 1 := ⟨by kernel_rfl, by kernel_rfl⟩
theorem Z3 : (Tryd.prog.info? 3).bind (·.zero) = some (.int .i64 0) := by kernel_rfl
def Ao (p0 : (List (Int × Int × Int × Int × (Nat × List Int) × Int × Int × Int)) × (List (Int × Int)) × List Int) (p1 : Int) : Int := (if (!((Cm p0.2.1 p1).isSome)) = true then (-1) else (Cm p0.2.1 p1).getD 0)
theorem B2 (Y : Nat → Prop) (X : List Nat) (w0 : World) (q_p0 : Nat) (v1 : Value) (m_v2 : Nat) (v3 : Value) (p0 : (List (Int × Int × Int × Int × (Nat × List Int) × Int × Int × Int)) × (List (Int × Int)) × List Int) (p1 : Int) (d_v1 : {x : List (Int × Int × Int × Int × (Value × Nat × List Int) × Int × Int × Int) // x.map A8 = p0.1}) (r : Int) (H : Ao p0 p1 = r) (hL : Stw ⟨Y, X, w0⟩ [(q_p0, [v1, .map (some m_v2), v3])] [Au v1 34 AG d_v1.1, row v3 3 (Rp.int .i64) p0.2.2, mp m_v2 AV AV p0.2.1] w0) :
    Calls Tryd.prog 23 #[.pointer (some ⟨q_p0, 0, none⟩), .int .i64 p1] w0 fun e w' => ∃ x : Unit, e = .returned (.int .i64 r) ∧ Stw ⟨Y, X, w0⟩ [(q_p0, [v1, .map (some m_v2), v3])] [Au v1 34 AG d_v1.1, row v3 3 (Rp.int .i64) p0.2.2, mp m_v2 AV AV p0.2.1] w' := by
 refine enter Tryd.func23 Aa Tryd.ntmps23 Aa fun a F => ?_
 have W := hL
 unfold Ao at H
 refine Aj (Ad ?_)
 refine ls F W Aa (Ag F Aa).q fun a w F W => ?_
 refine Ae (Ac (Aj (Ad ?_)))
 refine ls F W Aa (Af F Aa).q fun a w F W => ?_
 refine ls F W Aa (AL F Aa).q fun a w F W => ?_
 refine ls F W Aa (Ab Ea Aa Aa Aa Iy F Aa 1 Aa).q fun a w F W => ?_
 refine ls F W Aa (An (v := Value.map (some m_v2)) 0 F Aa Aa Iy Aa).q fun a w F W => ?_
 refine ls F W Aa (Af F Aa).q fun a w F W => ?_
 refine ls F W Aa (GC (zv := (0 : Int)) (kx := (p1 : Int)) (q := 2) (E := AV) (V := AV) F Aa Aa Aa IK Ik Z3).q fun a w F W => ?_
 refine ls F W Aa (Af F Aa).q fun a w F W => ?_
 refine ls F W Aa (E0 (v := Value.int .i64 ((Cm p0.2.1 p1).getD 0)) F Aa Aa).q fun a w F W => ?_
 refine ls F W Aa (E0 (v := Value.bool ((Cm p0.2.1 p1).isSome)) F Aa Aa).q fun a w F W => ?_
 iterate 2 refine ls F W Aa (Ag F Aa).q fun a w F W => ?_
 refine Ae (Ac (Aj (Aj (Ad ?_))))
 refine ls F W Aa (Af F Aa).q fun a w F W => ?_
 refine ls F W Aa (Gl F Aa).q fun a w F W => ?_
 refine Ae (Ac ?_)
 refine AB F Aa (fun hb => ?_) fun hb => ?_
 ·
  have H := A0 hb H
  rw [hb] at F
  clear hb
  refine Aj (Ad ?_)
  refine ls F W Aa (Ag F Aa).q fun a w F W => ?_
  refine Ae (Ac (AJ (Bc ?_)))
  subst H
  refine A9 (.inl Aa) F W Aa (AM F Aa) ?_
  have W := W.frontZ (i := 2) Aa Aa
  have W := W.frontZ (i := 2) Aa Aa
  have W := W.frontZ (i := 2) Aa Aa
  exact ⟨(), Aa, W⟩
 have H := AY (by rw [hb]; decide) H
 rw [hb] at F
 clear hb
 refine Ay (Ac (Aj (Ad ?_)))
 refine ls F W Aa (Af F Aa).q fun a w F W => ?_
 refine ls F W Aa (Ag F Aa).q fun a w F W => ?_
 refine Ae (Ac (AJ ?_))
 subst H
 refine A9 (.inl Aa) F W Aa (AM F Aa) ?_
 have W := W.frontZ (i := 2) Aa Aa
 have W := W.frontZ (i := 2) Aa Aa
 have W := W.frontZ (i := 2) Aa Aa
 exact ⟨(), Aa, W⟩
theorem HU : type_of% Tryd.underlying24 := Tryd.underlying24
theorem Eu : type_of% Tryd.underlying30 := Tryd.underlying30
theorem Ck : type_of% Tryd.underlying34 := Tryd.underlying34
theorem I7 : Has Tryd.prog 23 := ⟨fun args w => Ap Tryd.func23 rfl (by decide) args w⟩
theorem Gg : Et Tryd.prog 30 3 1 8 := Et.of Eu (by kernel_rfl) (by kernel_rfl) (by kernel_rfl) (by decide)
theorem HD : Ty Tryd.prog 24 false 1 := ⟨by kernel_rfl, by kernel_rfl⟩
theorem Jo : Bt Tryd.prog 34 [.int .i64 0, .int .i64 0, .int .i64 0, .int .i64 0, .slice none 0 0, .int .i64 0, .int .i64 0, .int .i64 0] [(0, 1), (1, 1), (2, 1), (3, 1), (4, 1), (5, 1), (6, 1), (7, 1)] := ⟨⟨.agg #[.int .i64 0, .int .i64 0, .int .i64 0, .int .i64 0, .slice none 0 0, .int .i64 0, .int .i64 0, .int .i64 0], by kernel_rfl, rfl⟩, ⟨_, Ck, fun w => by kernel_rfl⟩⟩
theorem I9 : (Tryd.prog.info? 34).bind (·.zero) = some (.agg #[.int .i64 0, .int .i64 0, .int .i64 0, .int .i64 0, .slice none 0 0, .int .i64 0, .int .i64 0, .int .i64 0]) := by kernel_rfl
theorem HE : Et Tryd.prog 24 34 8 80 := Et.of HU (by kernel_rfl) (by kernel_rfl) (by kernel_rfl) (by decide)
noncomputable def BO (p0 : (List (Int × Int × Int × Int × (Nat × List Int) × Int × Int × Int)) × (List (Int × Int)) × List Int) (p1 : Int × Int × Int × Int × Int × Int) : Option ((List (Int × Int × Int × Int × (Nat × List Int) × Int × Int × Int)) × (List (Int × Int)) × List Int) := (BV p0.2.2 ([(Ao p0 p1.2.2.1)] : List Int)).bind fun x1 => (BV p0.1 ([(p1.2.2.1, p1.2.2.2.2.1, p1.2.2.2.2.2, p1.2.1, (2, []), 0, 0, p1.2.1)] : List (Int × Int × Int × Int × (Nat × List Int) × Int × Int × Int))).bind fun x2 => some (x2, Cp p0.2.1 p1.2.2.1 (p0.1.length : Int), x1)
theorem DT (Y : Nat → Prop) (X : List Nat) (w0 : World) (q_p0 : Nat) (v1 : Value) (m_v2 : Nat) (v3 : Value) (p0 : (List (Int × Int × Int × Int × (Nat × List Int) × Int × Int × Int)) × (List (Int × Int)) × List Int) (p1 : Int × Int × Int × Int × Int × Int) (d_v1 : {x : List (Int × Int × Int × Int × (Value × Nat × List Int) × Int × Int × Int) // x.map A8 = p0.1}) (r : ((List (Int × Int × Int × Int × (Nat × List Int) × Int × Int × Int)) × (List (Int × Int)) × List Int)) (H : BO p0 p1 = some r) (hL : Stw ⟨Y, X, w0⟩ [(q_p0, [v1, .map (some m_v2), v3])] [Au v1 34 AG d_v1.1, row v3 3 (Rp.int .i64) p0.2.2, mp m_v2 AV AV p0.2.1] w0) :
    Calls Tryd.prog 22 #[.pointer (some ⟨q_p0, 0, none⟩), .agg #[.int .i64 p1.1, .int .i64 p1.2.1, .int .i64 p1.2.2.1, .int .i64 p1.2.2.2.1, .int .i64 p1.2.2.2.2.1, .int .i64 p1.2.2.2.2.2]] w0 fun e w' => ∃ x : Value × ({x : List (Int × Int × Int × Int × (Value × Nat × List Int) × Int × Int × Int) // x.map A8 = r.1}) × Value, e = .returned (.tuple #[]) ∧ Stw ⟨Y, X, w0⟩ [(q_p0, [x.1, .map (some m_v2), x.2.2])] [Au (x.1) 34 AG (x.2.1.1), row (x.2.2) 3 (Rp.int .i64) r.2.2, mp m_v2 AV AV r.2.1] w' := by
 refine enter Tryd.func22 Aa Tryd.ntmps22 Aa fun a F => ?_
 have W := hL
 unfold BO at H
 refine Aj (Ad ?_)
 refine D9 (cs := [.int .i64 p1.1, .int .i64 p1.2.1, .int .i64 p1.2.2.1, .int .i64 p1.2.2.2.1, .int .i64 p1.2.2.2.2.1, .int .i64 p1.2.2.2.2.2]) F W Aa Aa Aa fun b1 a w F W => ?_
 refine Ae (Ac (Aj ?_))
 refine DG [(true, 0), (true, 1), (true, 2), (true, 3), (true, 4), (true, 5), (true, 6), (true, 7), (false, 8), (false, 9), (false, 10), (true, 11), (true, 12), (false, 13)] (CN ⟨Y, X, w0⟩ [(some 10, q_p0, [v1, .map (some m_v2), v3]), (some 8, b1, [.int .i64 p1.1, .int .i64 p1.2.1, .int .i64 p1.2.2.1, .int .i64 p1.2.2.2.1, .int .i64 p1.2.2.2.2.1, .int .i64 p1.2.2.2.2.2])] []) (fun ch a d v w h => by cases d <;> exact h) MO (by kernel_rfl) W (fun w W => ⟨_, _, W, (all_cons (fun _ => (.tail _ (.head _))) (all_cons (fun _ => (.head _)) As)), As⟩) fun w W => ?_
 iterate 2 refine Bm (R := []) F Aa Aa (yC fun M Z hN hZ => Af F Aa) Aa Aa fun a F => ?_
 refine Bm (R := []) F Aa Aa (yC fun M Z hN hZ => AL F Aa) Aa Aa fun a F => ?_
 refine Bm (R := []) F Aa Aa (yC fun M Z hN hZ => Ab Ea Aa Aa Aa C4 F Aa 2 Aa) Aa Aa fun a F => ?_
 refine Bm (R := [10]) F Aa Aa (yC fun M Z hN hZ => BJ (cs := [v1, .map (some m_v2), v3]) (v := v3) F Aa (hN ((some 10), q_p0, [v1, .map (some m_v2), v3]) (.head _) Aa) C4 Aa) (by kernel_rfl) Aa fun a F => ?_
 refine Bm (R := []) F Aa Aa (yC fun M Z hN hZ => Af F Aa) Aa Aa fun a F => ?_
 refine Bm (R := []) F Aa Aa (yC fun M Z hN hZ => Ab BM Aa Aa Aa T3 F Aa 2 Aa) Aa Aa fun a F => ?_
 refine Bm (R := [8]) F Aa Aa (yC fun M Z hN hZ => BJ (cs := [.int .i64 p1.1, .int .i64 p1.2.1, .int .i64 p1.2.2.1, .int .i64 p1.2.2.2.1, .int .i64 p1.2.2.2.2.1, .int .i64 p1.2.2.2.2.2]) (v := Value.int .i64 p1.2.2.1) F Aa (hN ((some 8), b1, [.int .i64 p1.1, .int .i64 p1.2.1, .int .i64 p1.2.2.1, .int .i64 p1.2.2.2.1, .int .i64 p1.2.2.2.2.1, .int .i64 p1.2.2.2.2.2]) (.tail _ (.head _)) Aa) T3 Aa) (by kernel_rfl) Aa fun a F => ?_
 refine DZ Aa ?_
 have W := W.frontZ (i := 2) Aa Aa
 have W := W.frontZ (i := 2) Aa Aa
 have W := W.frontZ (i := 2) Aa Aa
 have W := W.frontM (i := 1) Aa Aa
 refine BE (Ml := [(q_p0, [v1, .map (some m_v2), v3])]) (Zl := [Au v1 34 AG d_v1.1, row v3 3 (Rp.int .i64) p0.2.2, mp m_v2 AV AV p0.2.1]) (M := [(b1, [.int .i64 p1.1, .int .i64 p1.2.1, .int .i64 p1.2.2.1, .int .i64 p1.2.2.2.1, .int .i64 p1.2.2.2.2.1, .int .i64 p1.2.2.2.2.2])]) (Z := []) (β := Unit) (rv := fun x => .int .i64 (Ao p0 p1.2.2.1)) (MM := fun x => [(q_p0, [v1, .map (some m_v2), v3])]) (ZZ := fun x => [Au v1 34 AG d_v1.1, row v3 3 (Rp.int .i64) p0.2.2, mp m_v2 AV AV p0.2.1]) F W I7 Aa Aa (fun hL => B2 _ _ w q_p0 (v1) m_v2 (v3) p0 p1.2.2.1 ⟨d_v1.1, d_v1.2⟩ _ Aa hL) fun x a w F W => ?_
 have W : Stw ⟨Y, X, w0⟩ [(q_p0, [v1, .map (some m_v2), v3]), (b1, [.int .i64 p1.1, .int .i64 p1.2.1, .int .i64 p1.2.2.1, .int .i64 p1.2.2.2.1, .int .i64 p1.2.2.2.2.1, .int .i64 p1.2.2.2.2.2])] [Au v1 34 AG d_v1.1, row v3 3 (Rp.int .i64) p0.2.2, mp m_v2 AV AV p0.2.1] w := W
 refine BD (N2 := []) (NZ2 := []) (N3 := [(some 10, q_p0, [v1, .map (some m_v2), v3]), (some 8, b1, [.int .i64 p1.1, .int .i64 p1.2.1, .int .i64 p1.2.2.1, .int .i64 p1.2.2.2.1, .int .i64 p1.2.2.2.2.1, .int .i64 p1.2.2.2.2.2])]) (NZ3 := []) W Aa Aa (all_cons (fun _ => (.head _)) (all_cons (fun h => AH (by kernel_rfl) h) As)) As ?_
 refine DZ Aa ?_
 refine Ey (z := Value.int .i64 0) (cs := [.int .i64 (Ao p0 p1.2.2.1)]) (Rp.int .i64) ([(Ao p0 p1.2.2.1)] : List Int) F W Aa Gg Z3 Aa Aa Aa Aa Aa Aa (Fl.int.repL _ _ ([(Ao p0 p1.2.2.1)] : List Int)) fun v4 a w F W => ?_
 refine BD (N2 := []) (NZ2 := []) (N3 := [(some 10, q_p0, [v1, .map (some m_v2), v3]), (some 8, b1, [.int .i64 p1.1, .int .i64 p1.2.1, .int .i64 p1.2.2.1, .int .i64 p1.2.2.2.1, .int .i64 p1.2.2.2.2.1, .int .i64 p1.2.2.2.2.2])]) (NZ3 := []) W Aa Aa (all_cons (fun _ => (.head _)) (all_cons (fun h => AH (by kernel_rfl) h) As)) As ?_
 refine DZ Aa ?_
 obtain ⟨x1, h1, H⟩ := Ak H
 refine Dl (r := (Rp.int .i64)) (i := 2) F W Aa Gg Aa Aa Aa Aa (DO W 0 Aa) h1 Aa fun v5 a w F W => ?_
 have W : Stw ⟨Y, X, w0⟩ [(q_p0, [v1, .map (some m_v2), v3]), (b1, [.int .i64 p1.1, .int .i64 p1.2.1, .int .i64 p1.2.2.1, .int .i64 p1.2.2.2.1, .int .i64 p1.2.2.2.2.1, .int .i64 p1.2.2.2.2.2])] [row v5 3 (Rp.int .i64) x1, row v4 3 (Rp.int .i64) ([(Ao p0 p1.2.2.1)] : List Int), Au v1 34 AG d_v1.1, mp m_v2 AV AV p0.2.1] w := W
 refine BD (N2 := []) (NZ2 := []) (N3 := [(some 10, q_p0, [v1, .map (some m_v2), v3]), (some 8, b1, [.int .i64 p1.1, .int .i64 p1.2.1, .int .i64 p1.2.2.1, .int .i64 p1.2.2.2.1, .int .i64 p1.2.2.2.2.1, .int .i64 p1.2.2.2.2.2])]) (NZ3 := []) W Aa Aa (all_cons (fun h => AH (by kernel_rfl) h) (all_cons (fun h => AH (by kernel_rfl) h) As)) As ?_
 refine Bm (R := []) F Aa Aa (yC fun M Z hN hZ => AL F Aa) Aa Aa fun a F => ?_
 refine Bm (R := []) F Aa Aa (yC fun M Z hN hZ => Ab Ea Aa Aa Aa C4 F Aa 2 Aa) Aa Aa fun a F => ?_
 refine DZ Aa ?_
 refine FH (M' := [(q_p0, [v1, .map (some m_v2), v5]), (b1, [.int .i64 p1.1, .int .i64 p1.2.1, .int .i64 p1.2.2.1, .int .i64 p1.2.2.2.1, .int .i64 p1.2.2.2.2.1, .int .i64 p1.2.2.2.2.2])]) 0 F W Aa Aa Aa C4 (W.one (k := 0) Aa) Aa Aa fun w W => ?_
 refine BD (N2 := []) (NZ2 := []) (N3 := [(some 10, q_p0, [v1, .map (some m_v2), v3]), (some 8, b1, [.int .i64 p1.1, .int .i64 p1.2.1, .int .i64 p1.2.2.1, .int .i64 p1.2.2.2.1, .int .i64 p1.2.2.2.2.1, .int .i64 p1.2.2.2.2.2])]) (NZ3 := []) W Aa Aa (all_cons (fun h => AH (by kernel_rfl) h) (all_cons (fun h => AH (by kernel_rfl) h) As)) As ?_
 refine Fi (Ac (Aj ?_))
 refine Eo 11 W MO (by kernel_rfl) ?_
 refine qs F Aa (Af F Aa).q fun a F => ?_
 refine qs F Aa (AL F Aa).q fun a F => ?_
 refine qs F Aa (Ab Ea Aa Aa Aa Iy F Aa 1 Aa).q fun a F => ?_
 refine qs F Aa (An (v := Value.map (some m_v2)) 0 F Aa Aa Iy Aa).q fun a F => ?_
 refine qs F Aa (Ab BM Aa Aa Aa T3 F Aa 2 Aa).q fun a F => ?_
 refine qs F Aa (An (v := Value.int .i64 p1.2.2.1) 1 F Aa Aa T3 Aa).q fun a F => ?_
 refine qs F Aa (Af F Aa).q fun a F => ?_
 refine qs F Aa (AL F Aa).q fun a F => ?_
 refine qs F Aa (Ab Ea Aa Aa Aa HD F Aa 0 Aa).q fun a F => ?_
 refine qs F Aa (An (v := v1) 0 F Aa Aa HD Aa).q fun a F => ?_
 refine qs F Aa (Gh (er := A8) d_v1.2 HU Aa F Aa (Ek.hd (BF 2 Aa))).q fun a F => ?_
 refine A2 fun w W => ?_
 refine EP (q := 3) (kx := (p1.2.2.1 : Int)) (vx := ((p0.1.length : Int) : Int)) (E := AV) (V := AV) F W Aa Aa Aa Aa Aa IK Ik fun w W => ?_
 have W : Stw ⟨Y, X, w0⟩ [(q_p0, [v1, .map (some m_v2), v5]), (b1, [.int .i64 p1.1, .int .i64 p1.2.1, .int .i64 p1.2.2.1, .int .i64 p1.2.2.2.1, .int .i64 p1.2.2.2.2.1, .int .i64 p1.2.2.2.2.2])] [mp m_v2 AV AV (Cp p0.2.1 p1.2.2.1 (p0.1.length : Int)), row v5 3 (Rp.int .i64) x1, row v4 3 (Rp.int .i64) ([(Ao p0 p1.2.2.1)] : List Int), Au v1 34 AG d_v1.1] w := W
 refine Ae (Ac ?_)
 refine DG [(true, 0), (true, 1), (true, 2), (true, 3), (true, 4), (true, 5), (true, 6), (true, 7), (true, 8), (true, 9), (true, 10), (true, 11), (true, 12), (true, 13), (true, 14), (true, 15), (false, 16), (false, 17), (true, 18), (true, 19), (false, 20)] (CN ⟨Y, X, w0⟩ [(some 17, q_p0, [v1, .map (some m_v2), v5]), (some 16, b1, [.int .i64 p1.1, .int .i64 p1.2.1, .int .i64 p1.2.2.1, .int .i64 p1.2.2.2.1, .int .i64 p1.2.2.2.2.1, .int .i64 p1.2.2.2.2.2])] []) (fun ch a d v w h => by cases d <;> exact h) MO (by kernel_rfl) W (fun w W => ⟨_, _, W, (all_cons (fun _ => (.head _)) (all_cons (fun _ => (.tail _ (.head _))) As)), As⟩) fun w W => ?_
 iterate 2 refine Bm (R := []) F Aa Aa (yC fun M Z hN hZ => Af F Aa) Aa Aa fun a F => ?_
 refine Bm (R := []) F Aa Aa (yC fun M Z hN hZ => AL F Aa) Aa Aa fun a F => ?_
 refine Bm (R := []) F Aa Aa (yC fun M Z hN hZ => Ab Ea Aa Aa Aa HD F Aa 0 Aa) Aa Aa fun a F => ?_
 refine Bm (R := [17]) F Aa Aa (yC fun M Z hN hZ => BJ (cs := [v1, .map (some m_v2), v5]) (v := v1) F Aa (hN ((some 17), q_p0, [v1, .map (some m_v2), v5]) (.head _) Aa) HD Aa) (by kernel_rfl) Aa fun a F => ?_
 refine Bm (R := []) F Aa Aa (yC fun M Z hN hZ => Ab BM Aa Aa Aa T3 F Aa 2 Aa) Aa Aa fun a F => ?_
 refine Bm (R := [16, 15]) F Aa Aa (yC fun M Z hN hZ => BJ (cs := [.int .i64 p1.1, .int .i64 p1.2.1, .int .i64 p1.2.2.1, .int .i64 p1.2.2.2.1, .int .i64 p1.2.2.2.2.1, .int .i64 p1.2.2.2.2.2]) (v := Value.int .i64 p1.2.2.1) F Aa (hN ((some 16), b1, [.int .i64 p1.1, .int .i64 p1.2.1, .int .i64 p1.2.2.1, .int .i64 p1.2.2.2.1, .int .i64 p1.2.2.2.2.1, .int .i64 p1.2.2.2.2.2]) (.tail _ (.head _)) Aa) T3 Aa) (by kernel_rfl) Aa fun a F => ?_
 refine Bm (R := []) F Aa Aa (yC fun M Z hN hZ => Ab BM Aa Aa Aa T3 F Aa 4 Aa) Aa Aa fun a F => ?_
 refine Bm (R := [16, 15]) F Aa Aa (yC fun M Z hN hZ => BJ (cs := [.int .i64 p1.1, .int .i64 p1.2.1, .int .i64 p1.2.2.1, .int .i64 p1.2.2.2.1, .int .i64 p1.2.2.2.2.1, .int .i64 p1.2.2.2.2.2]) (v := Value.int .i64 p1.2.2.2.2.1) F Aa (hN ((some 16), b1, [.int .i64 p1.1, .int .i64 p1.2.1, .int .i64 p1.2.2.1, .int .i64 p1.2.2.2.1, .int .i64 p1.2.2.2.2.1, .int .i64 p1.2.2.2.2.2]) (.tail _ (.head _)) Aa) T3 Aa) (by kernel_rfl) Aa fun a F => ?_
 refine Bm (R := []) F Aa Aa (yC fun M Z hN hZ => Ab BM Aa Aa Aa T3 F Aa 5 Aa) Aa Aa fun a F => ?_
 refine Bm (R := [16, 15]) F Aa Aa (yC fun M Z hN hZ => BJ (cs := [.int .i64 p1.1, .int .i64 p1.2.1, .int .i64 p1.2.2.1, .int .i64 p1.2.2.2.1, .int .i64 p1.2.2.2.2.1, .int .i64 p1.2.2.2.2.2]) (v := Value.int .i64 p1.2.2.2.2.2) F Aa (hN ((some 16), b1, [.int .i64 p1.1, .int .i64 p1.2.1, .int .i64 p1.2.2.1, .int .i64 p1.2.2.2.1, .int .i64 p1.2.2.2.2.1, .int .i64 p1.2.2.2.2.2]) (.tail _ (.head _)) Aa) T3 Aa) (by kernel_rfl) Aa fun a F => ?_
 refine Bm (R := []) F Aa Aa (yC fun M Z hN hZ => Ab BM Aa Aa Aa T3 F Aa 1 Aa) Aa Aa fun a F => ?_
 refine Bm (R := [16, 15]) F Aa Aa (yC fun M Z hN hZ => BJ (cs := [.int .i64 p1.1, .int .i64 p1.2.1, .int .i64 p1.2.2.1, .int .i64 p1.2.2.2.1, .int .i64 p1.2.2.2.2.1, .int .i64 p1.2.2.2.2.2]) (v := Value.int .i64 p1.2.1) F Aa (hN ((some 16), b1, [.int .i64 p1.1, .int .i64 p1.2.1, .int .i64 p1.2.2.1, .int .i64 p1.2.2.2.1, .int .i64 p1.2.2.2.2.1, .int .i64 p1.2.2.2.2.2]) (.tail _ (.head _)) Aa) T3 Aa) (by kernel_rfl) Aa fun a F => ?_
 refine Bm (R := []) F Aa Aa (yC fun M Z hN hZ => Ab BM Aa Aa Aa T3 F Aa 1 Aa) Aa Aa fun a F => ?_
 refine Bm (R := [16, 15]) F Aa Aa (yC fun M Z hN hZ => BJ (cs := [.int .i64 p1.1, .int .i64 p1.2.1, .int .i64 p1.2.2.1, .int .i64 p1.2.2.2.1, .int .i64 p1.2.2.2.2.1, .int .i64 p1.2.2.2.2.2]) (v := Value.int .i64 p1.2.1) F Aa (hN ((some 16), b1, [.int .i64 p1.1, .int .i64 p1.2.1, .int .i64 p1.2.2.1, .int .i64 p1.2.2.2.1, .int .i64 p1.2.2.2.2.1, .int .i64 p1.2.2.2.2.2]) (.tail _ (.head _)) Aa) T3 Aa) (by kernel_rfl) Aa fun a F => ?_
 refine Bm (R := []) F Aa Aa (yC fun M Z hN hZ => Cw (v := Value.agg #[.int .i64 p1.2.2.1, .int .i64 p1.2.2.2.2.1, .int .i64 p1.2.2.2.2.2, .int .i64 p1.2.1, .slice none 0 0, .int .i64 0, .int .i64 0, .int .i64 p1.2.1]) Jo F Aa Aa Aa) Aa Aa fun a F => ?_
 refine DZ Aa ?_
 have W := W.addEmp
 have W := W.addEmp
 have W := W.pairZ (D := (Dp.fl 1 (fun a => [.int .i64 a]) (fun _ => rfl))) (E := (Dp.fl 1 (fun a => [.int .i64 a]) (fun _ => rfl))) (p := 0) (q := p1.2.1)
 have W := W.addEmp
 have W := W.pairZ (D := (Dp.fl 1 (fun a => [.int .i64 a]) (fun _ => rfl))) (E := (Dp.pair (Dp.fl 1 (fun a => [.int .i64 a]) (fun _ => rfl)) (Dp.fl 1 (fun a => [.int .i64 a]) (fun _ => rfl)))) (p := 0) (q := (0, p1.2.1))
 have W := W.nlZ (Nl.sl (e' := 3) (r := (Rp.int .i64)))
 have W := W.pairZ (D := (Dp.sl 3 (Rp.int .i64))) (E := (Dp.pair (Dp.fl 1 (fun a => [.int .i64 a]) (fun _ => rfl)) (Dp.pair (Dp.fl 1 (fun a => [.int .i64 a]) (fun _ => rfl)) (Dp.fl 1 (fun a => [.int .i64 a]) (fun _ => rfl))))) (p := (Value.slice none 0 0, 2, [])) (q := (0, 0, p1.2.1))
 have W := W.addEmp
 have W := W.pairZ (D := (Dp.fl 1 (fun a => [.int .i64 a]) (fun _ => rfl))) (E := (Dp.pair (Dp.sl 3 (Rp.int .i64)) (Dp.pair (Dp.fl 1 (fun a => [.int .i64 a]) (fun _ => rfl)) (Dp.pair (Dp.fl 1 (fun a => [.int .i64 a]) (fun _ => rfl)) (Dp.fl 1 (fun a => [.int .i64 a]) (fun _ => rfl)))))) (p := p1.2.1) (q := ((Value.slice none 0 0, 2, []), 0, 0, p1.2.1))
 have W := W.addEmp
 have W := W.pairZ (D := (Dp.fl 1 (fun a => [.int .i64 a]) (fun _ => rfl))) (E := (Dp.pair (Dp.fl 1 (fun a => [.int .i64 a]) (fun _ => rfl)) (Dp.pair (Dp.sl 3 (Rp.int .i64)) (Dp.pair (Dp.fl 1 (fun a => [.int .i64 a]) (fun _ => rfl)) (Dp.pair (Dp.fl 1 (fun a => [.int .i64 a]) (fun _ => rfl)) (Dp.fl 1 (fun a => [.int .i64 a]) (fun _ => rfl))))))) (p := p1.2.2.2.2.2) (q := (p1.2.1, (Value.slice none 0 0, 2, []), 0, 0, p1.2.1))
 have W := W.addEmp
 have W := W.pairZ (D := (Dp.fl 1 (fun a => [.int .i64 a]) (fun _ => rfl))) (E := (Dp.pair (Dp.fl 1 (fun a => [.int .i64 a]) (fun _ => rfl)) (Dp.pair (Dp.fl 1 (fun a => [.int .i64 a]) (fun _ => rfl)) (Dp.pair (Dp.sl 3 (Rp.int .i64)) (Dp.pair (Dp.fl 1 (fun a => [.int .i64 a]) (fun _ => rfl)) (Dp.pair (Dp.fl 1 (fun a => [.int .i64 a]) (fun _ => rfl)) (Dp.fl 1 (fun a => [.int .i64 a]) (fun _ => rfl)))))))) (p := p1.2.2.2.2.1) (q := (p1.2.2.2.2.2, p1.2.1, (Value.slice none 0 0, 2, []), 0, 0, p1.2.1))
 have W := W.addEmp
 have W := W.pairZ (D := (Dp.fl 1 (fun a => [.int .i64 a]) (fun _ => rfl))) (E := (Dp.pair (Dp.fl 1 (fun a => [.int .i64 a]) (fun _ => rfl)) (Dp.pair (Dp.fl 1 (fun a => [.int .i64 a]) (fun _ => rfl)) (Dp.pair (Dp.fl 1 (fun a => [.int .i64 a]) (fun _ => rfl)) (Dp.pair (Dp.sl 3 (Rp.int .i64)) (Dp.pair (Dp.fl 1 (fun a => [.int .i64 a]) (fun _ => rfl)) (Dp.pair (Dp.fl 1 (fun a => [.int .i64 a]) (fun _ => rfl)) (Dp.fl 1 (fun a => [.int .i64 a]) (fun _ => rfl))))))))) (p := p1.2.2.1) (q := (p1.2.2.2.2.1, p1.2.2.2.2.2, p1.2.1, (Value.slice none 0 0, 2, []), 0, 0, p1.2.1))
 refine Ey (z := Value.agg #[.int .i64 0, .int .i64 0, .int .i64 0, .int .i64 0, .slice none 0 0, .int .i64 0, .int .i64 0, .int .i64 0]) (cs := [.int .i64 p1.2.2.1, .int .i64 p1.2.2.2.2.1, .int .i64 p1.2.2.2.2.2, .int .i64 p1.2.1, .slice none 0 0, .int .i64 0, .int .i64 0, .int .i64 p1.2.1]) AG.hr ([(p1.2.2.1, p1.2.2.2.2.1, p1.2.2.2.2.2, p1.2.1, (Value.slice none 0 0, 2, []), 0, 0, p1.2.1)] : List (Int × Int × Int × Int × (Value × Nat × List Int) × Int × Int × Int)) F W Aa HE I9 Aa Aa Aa (Bn Aa Aa Aa DR) Aa Aa ⟨[Value.int .i64 p1.2.2.1, Value.int .i64 p1.2.2.2.2.1, Value.int .i64 p1.2.2.2.2.2, Value.int .i64 p1.2.1, Value.slice none 0 0, Value.int .i64 0, Value.int .i64 0, Value.int .i64 p1.2.1], _, Aa, ⟨rfl, (Am Aa (Am Aa (Am Aa (Am Aa (Am Aa (Am Aa (Am Aa (Am Aa C0))))))))⟩, Aa⟩ fun v6 a w F W => ?_
 have W := Stw.dShutL (D := AG) (lx := ([(p1.2.2.1, p1.2.2.2.2.1, p1.2.2.2.2.2, p1.2.1, (Value.slice none 0 0, 2, []), 0, 0, p1.2.1)] : List (Int × Int × Int × Int × (Value × Nat × List Int) × Int × Int × Int))) W
 have h2 : List.map A8 ([(p1.2.2.1, p1.2.2.2.2.1, p1.2.2.2.2.2, p1.2.1, (Value.slice none 0 0, 2, []), 0, 0, p1.2.1)] : List (Int × Int × Int × Int × (Value × Nat × List Int) × Int × Int × Int)) = ([(p1.2.2.1, p1.2.2.2.2.1, p1.2.2.2.2.2, p1.2.1, (2, []), 0, 0, p1.2.1)] : List (Int × Int × Int × Int × (Nat × List Int) × Int × Int × Int)) := Aa
 have W : Stw ⟨Y, X, w0⟩ [(q_p0, [v1, .map (some m_v2), v5]), (b1, [.int .i64 p1.1, .int .i64 p1.2.1, .int .i64 p1.2.2.1, .int .i64 p1.2.2.2.1, .int .i64 p1.2.2.2.2.1, .int .i64 p1.2.2.2.2.2])] [Au v6 34 AG ([(p1.2.2.1, p1.2.2.2.2.1, p1.2.2.2.2.2, p1.2.1, (Value.slice none 0 0, 2, []), 0, 0, p1.2.1)] : List (Int × Int × Int × Int × (Value × Nat × List Int) × Int × Int × Int)), mp m_v2 AV AV (Cp p0.2.1 p1.2.2.1 (p0.1.length : Int)), row v5 3 (Rp.int .i64) x1, row v4 3 (Rp.int .i64) ([(Ao p0 p1.2.2.1)] : List Int), Au v1 34 AG d_v1.1] w := W
 refine BD (N2 := []) (NZ2 := []) (N3 := [(some 17, q_p0, [v1, .map (some m_v2), v5]), (some 16, b1, [.int .i64 p1.1, .int .i64 p1.2.1, .int .i64 p1.2.2.1, .int .i64 p1.2.2.2.1, .int .i64 p1.2.2.2.2.1, .int .i64 p1.2.2.2.2.2])]) (NZ3 := []) W Aa Aa (all_cons (fun _ => (.head _)) (all_cons (fun h => AH (by kernel_rfl) h) As)) As ?_
 refine DZ Aa ?_
 have W := W.frontZ (i := 4) Aa Aa
 obtain ⟨x2, h3, H⟩ := Ak H
 refine Ez (D := AG) F W Aa HE Aa Aa (Fn (er := A8) d_v1.2 h2 h3).1 Aa fun v7 a w F W => ?_
 have h4 : List.map A8 (d_v1.1 ++ ([(p1.2.2.1, p1.2.2.2.2.1, p1.2.2.2.2.2, p1.2.1, (Value.slice none 0 0, 2, []), 0, 0, p1.2.1)] : List (Int × Int × Int × Int × (Value × Nat × List Int) × Int × Int × Int))) = x2 := (Fn (er := A8) d_v1.2 h2 h3).2
 have W : Stw ⟨Y, X, w0⟩ [(q_p0, [v1, .map (some m_v2), v5]), (b1, [.int .i64 p1.1, .int .i64 p1.2.1, .int .i64 p1.2.2.1, .int .i64 p1.2.2.2.1, .int .i64 p1.2.2.2.2.1, .int .i64 p1.2.2.2.2.2])] [Au v7 34 AG (d_v1.1 ++ ([(p1.2.2.1, p1.2.2.2.2.1, p1.2.2.2.2.2, p1.2.1, (Value.slice none 0 0, 2, []), 0, 0, p1.2.1)] : List (Int × Int × Int × Int × (Value × Nat × List Int) × Int × Int × Int))), mp m_v2 AV AV (Cp p0.2.1 p1.2.2.1 (p0.1.length : Int)), row v5 3 (Rp.int .i64) x1, row v4 3 (Rp.int .i64) ([(Ao p0 p1.2.2.1)] : List Int)] w := W
 refine BD (N2 := []) (NZ2 := []) (N3 := [(some 17, q_p0, [v1, .map (some m_v2), v5]), (some 16, b1, [.int .i64 p1.1, .int .i64 p1.2.1, .int .i64 p1.2.2.1, .int .i64 p1.2.2.2.1, .int .i64 p1.2.2.2.2.1, .int .i64 p1.2.2.2.2.2])]) (NZ3 := []) W Aa Aa (all_cons (fun h => AH (by kernel_rfl) h) (all_cons (fun h => AH (by kernel_rfl) h) As)) As ?_
 refine Bm (R := []) F Aa Aa (yC fun M Z hN hZ => AL F Aa) Aa Aa fun a F => ?_
 refine Bm (R := []) F Aa Aa (yC fun M Z hN hZ => Ab Ea Aa Aa Aa HD F Aa 0 Aa) Aa Aa fun a F => ?_
 refine DZ Aa ?_
 refine FH (M' := [(q_p0, [v7, .map (some m_v2), v5]), (b1, [.int .i64 p1.1, .int .i64 p1.2.1, .int .i64 p1.2.2.1, .int .i64 p1.2.2.2.1, .int .i64 p1.2.2.2.2.1, .int .i64 p1.2.2.2.2.2])]) 0 F W Aa Aa Aa HD (W.oneD 0 Aa) Aa Aa fun w W => ?_
 refine BD (N2 := []) (NZ2 := []) (N3 := [(some 17, q_p0, [v1, .map (some m_v2), v5]), (some 16, b1, [.int .i64 p1.1, .int .i64 p1.2.1, .int .i64 p1.2.2.1, .int .i64 p1.2.2.2.1, .int .i64 p1.2.2.2.2.1, .int .i64 p1.2.2.2.2.2])]) (NZ3 := []) W Aa Aa (all_cons (fun h => AH (by kernel_rfl) h) (all_cons (fun h => AH (by kernel_rfl) h) As)) As ?_
 refine Fi ?_
 have H := A1 H
 subst H
 refine ED (.inr Aa) F Aa ?_
 have W := W.frontZ (i := 1) Aa Aa
 have W := W.frontZ (i := 2) Aa Aa
 have W := W.frontZ (i := 2) Aa Aa
 have W := W.sub (M' := [(q_p0, [v7, .map (some m_v2), v5])]) (Z' := [Au v7 34 AG (d_v1.1 ++ ([(p1.2.2.1, p1.2.2.2.2.1, p1.2.2.2.2.2, p1.2.1, (Value.slice none 0 0, 2, []), 0, 0, p1.2.1)] : List (Int × Int × Int × Int × (Value × Nat × List Int) × Int × Int × Int))), row v5 3 (Rp.int .i64) x1, mp m_v2 AV AV (Cp p0.2.1 p1.2.2.1 (p0.1.length : Int))]) (List.Sublist.cons_cons _ (List.nil_sublist _)) (List.Sublist.cons_cons _ (List.Sublist.cons_cons _ (List.Sublist.cons_cons _ (List.nil_sublist _))))
 exact ⟨((v7), ⟨(d_v1.1 ++ ([(p1.2.2.1, p1.2.2.2.2.1, p1.2.2.2.2.2, p1.2.1, (Value.slice none 0 0, 2, []), 0, 0, p1.2.1)] : List (Int × Int × Int × Int × (Value × Nat × List Int) × Int × Int × Int))), h4⟩, (v5)), Aa, W⟩
theorem Jn : Has Tryd.prog 22 := ⟨fun args w => Ap Tryd.func22 rfl (by decide) args w⟩
noncomputable def Be (p0 : (List (Int × Int × Int × Int × (Nat × List Int) × Int × Int × Int)) × (List (Int × Int)) × List Int) (p1 : Int) (p2 : Int × Int × Int × Int × Int × Int) : Option ((List (Int × Int × Int × Int × (Nat × List Int) × Int × Int × Int)) × (List (Int × Int)) × List Int) := (ix p0.1 p1).bind fun x1 => (ix p0.1 p1).bind fun x2 => (if p2.1 = 2 then (ix (Ai p0.1 p1 (x2.1, x2.2.1, x2.2.2.1, x2.2.2.2.1, x2.2.2.2.2.1, x2.2.2.2.2.2.1, x2.2.2.2.2.2.2.1, p2.2.1)) p1).bind fun x3 => (GQ x3.2.2.2.2.1.1).bind fun x4 => (BV x3.2.2.2.2.1.2 ([p2.2.2.2.1] : List Int)).bind fun x5 => (ix (Ai (Ai p0.1 p1 (x2.1, x2.2.1, x2.2.2.1, x2.2.2.2.1, x2.2.2.2.2.1, x2.2.2.2.2.2.1, x2.2.2.2.2.2.2.1, p2.2.1)) p1 (x3.1, x3.2.1, x3.2.2.1, x3.2.2.2.1, (0, []), x3.2.2.2.2.2.1, x3.2.2.2.2.2.2.1, x3.2.2.2.2.2.2.2)) p1).bind fun x6 => some ((Ai (Ai (Ai p0.1 p1 (x2.1, x2.2.1, x2.2.2.1, x2.2.2.2.1, x2.2.2.2.2.1, x2.2.2.2.2.2.1, x2.2.2.2.2.2.2.1, p2.2.1)) p1 (x3.1, x3.2.1, x3.2.2.1, x3.2.2.2.1, (0, []), x3.2.2.2.2.2.1, x3.2.2.2.2.2.2.1, x3.2.2.2.2.2.2.2)) p1 (x6.1, x6.2.1, x6.2.2.1, x6.2.2.2.1, (2, x5), x6.2.2.2.2.2.1, x6.2.2.2.2.2.2.1, x6.2.2.2.2.2.2.2)), p0.2.1, p0.2.2) else (ix (Ai p0.1 p1 (x2.1, x2.2.1, x2.2.2.1, x2.2.2.2.1, x2.2.2.2.2.1, x2.2.2.2.2.2.1, x2.2.2.2.2.2.2.1, p2.2.1)) p1).bind fun x7 => (if p2.1 = 3 then (ix (Ai (Ai p0.1 p1 (x2.1, x2.2.1, x2.2.2.1, x2.2.2.2.1, x2.2.2.2.2.1, x2.2.2.2.2.2.1, x2.2.2.2.2.2.2.1, p2.2.1)) p1 (x7.1, x7.2.1, x7.2.2.1, x7.2.2.2.1, x7.2.2.2.2.1, p2.1, x7.2.2.2.2.2.2.1, x7.2.2.2.2.2.2.2)) p1).bind fun x9 => some (Ai (Ai (Ai p0.1 p1 (x2.1, x2.2.1, x2.2.2.1, x2.2.2.2.1, x2.2.2.2.2.1, x2.2.2.2.2.2.1, x2.2.2.2.2.2.2.1, p2.2.1)) p1 (x7.1, x7.2.1, x7.2.2.1, x7.2.2.2.1, x7.2.2.2.2.1, p2.1, x7.2.2.2.2.2.2.1, x7.2.2.2.2.2.2.2)) p1 (x9.1, x9.2.1, x9.2.2.1, x9.2.2.2.1, x9.2.2.2.2.1, x9.2.2.2.2.2.1, p2.2.2.2.2.1, x9.2.2.2.2.2.2.2)) else some (Ai (Ai p0.1 p1 (x2.1, x2.2.1, x2.2.2.1, x2.2.2.2.1, x2.2.2.2.2.1, x2.2.2.2.2.2.1, x2.2.2.2.2.2.2.1, p2.2.1)) p1 (x7.1, x7.2.1, x7.2.2.1, x7.2.2.2.1, x7.2.2.2.2.1, p2.1, x7.2.2.2.2.2.2.1, x7.2.2.2.2.2.2.2))).bind fun x8 => (ix p0.2.2 p1).bind fun x10 => some (x8, Cp p0.2.1 p2.2.2.1 x10, p0.2.2))
theorem Dw (Y : Nat → Prop) (X : List Nat) (w0 : World) (q_p0 : Nat) (v1 : Value) (m_v2 : Nat) (v3 : Value) (p0 : (List (Int × Int × Int × Int × (Nat × List Int) × Int × Int × Int)) × (List (Int × Int)) × List Int) (p1 : Int) (p2 : Int × Int × Int × Int × Int × Int) (d_v1 : {x : List (Int × Int × Int × Int × (Value × Nat × List Int) × Int × Int × Int) // x.map A8 = p0.1}) (r : ((List (Int × Int × Int × Int × (Nat × List Int) × Int × Int × Int)) × (List (Int × Int)) × List Int)) (H : Be p0 p1 p2 = some r) (hL : Stw ⟨Y, X, w0⟩ [(q_p0, [v1, .map (some m_v2), v3])] [Au v1 34 AG d_v1.1, row v3 3 (Rp.int .i64) p0.2.2, mp m_v2 AV AV p0.2.1] w0) :
    Calls Tryd.prog 24 #[.pointer (some ⟨q_p0, 0, none⟩), .int .i64 p1, .agg #[.int .i64 p2.1, .int .i64 p2.2.1, .int .i64 p2.2.2.1, .int .i64 p2.2.2.2.1, .int .i64 p2.2.2.2.2.1, .int .i64 p2.2.2.2.2.2]] w0 fun e w' => ∃ x : Value × ({x : List (Int × Int × Int × Int × (Value × Nat × List Int) × Int × Int × Int) // x.map A8 = r.1}) × Value, e = .returned (.tuple #[]) ∧ Stw ⟨Y, X, w0⟩ [(q_p0, [x.1, .map (some m_v2), x.2.2])] [Au (x.1) 34 AG (x.2.1.1), row (x.2.2) 3 (Rp.int .i64) r.2.2, mp m_v2 AV AV r.2.1] w' := by
 refine enter Tryd.func24 Aa Tryd.ntmps24 Aa fun a F => ?_
 have W := hL
 unfold Be at H
 refine Aj (Ad ?_)
 refine D9 (cs := [.int .i64 p2.1, .int .i64 p2.2.1, .int .i64 p2.2.2.1, .int .i64 p2.2.2.2.1, .int .i64 p2.2.2.2.2.1, .int .i64 p2.2.2.2.2.2]) F W Aa Aa Aa fun b1 a w F W => ?_
 refine Ae (Ac (Aj (Ad ?_)))
 refine ls F W Aa (Af F Aa).q fun a w F W => ?_
 refine ls F W Aa (AL F Aa).q fun a w F W => ?_
 refine ls F W Aa (Ab Ea Aa Aa Aa HD F Aa 0 Aa).q fun a w F W => ?_
 refine ls F W Aa (An (v := v1) 1 F Aa Aa HD Aa).q fun a w F W => ?_
 refine ls F W Aa (Af F Aa).q fun a w F W => ?_
 obtain ⟨x1, h1, H⟩ := Ak H
 obtain ⟨v4, h2, h3⟩ := Bh (er := A8) d_v1.2 h1
 refine ls F W Aa (AE (r := AG.hr) HE F Aa Aa (Ek.hd (BF 0 Aa)) h2).q fun a w F W => ?_
 refine ls F W Aa (Ag F Aa).q fun a w F W => ?_
 refine Ae (Ac (Aj (Ad ?_)))
 refine ls F W Aa (Af F Aa).q fun a w F W => ?_
 refine ls F W Aa (Ab BM Aa Aa Aa T3 F Aa 1 Aa).q fun a w F W => ?_
 refine ls F W Aa (An (v := Value.int .i64 p2.2.1) 0 F Aa Aa T3 Aa).q fun a w F W => ?_
 refine ls F W Aa (AL F Aa).q fun a w F W => ?_
 refine ls F W Aa (Ab Ck Aa Aa Aa T3 F Aa (BW v1 + (p1).toNat * 8 + 7) Aa).q fun a w F W => ?_
 obtain ⟨x2, h4, H⟩ := Ak H
 obtain ⟨v5, h5, h6⟩ := Bh (er := A8) d_v1.2 h4
 refine B6 (D := AG) (i := p1) (j := 7) (vs := [.int .i64 p2.2.1]) (x' := (v5.1, v5.2.1, v5.2.2.1, v5.2.2.2.1, v5.2.2.2.2.1, v5.2.2.2.2.2.1, v5.2.2.2.2.2.2.1, p2.2.1)) F W Aa Aa Aa h5 T3 Aa Aa Aa Aa Aa Aa fun w W => ?_
 have h7 : List.map A8 (Ai d_v1.1 p1 (v5.1, v5.2.1, v5.2.2.1, v5.2.2.2.1, v5.2.2.2.2.1, v5.2.2.2.2.2.1, v5.2.2.2.2.2.2.1, p2.2.1)) = (Ai p0.1 p1 (x2.1, x2.2.1, x2.2.2.1, x2.2.2.2.1, x2.2.2.2.2.1, x2.2.2.2.2.2.1, x2.2.2.2.2.2.2.1, p2.2.1)) := (CQ d_v1.2 (congrArg (fun q : Int × Int × Int × Int × (Nat × List Int) × Int × Int × Int => (q.1, q.2.1, q.2.2.1, q.2.2.2.1, q.2.2.2.2.1, q.2.2.2.2.2.1, q.2.2.2.2.2.2.1, p2.2.1)) h6))
 have W : Stw ⟨Y, X, w0⟩ [(b1, [.int .i64 p2.1, .int .i64 p2.2.1, .int .i64 p2.2.2.1, .int .i64 p2.2.2.2.1, .int .i64 p2.2.2.2.2.1, .int .i64 p2.2.2.2.2.2]), (q_p0, [v1, .map (some m_v2), v3])] [Au v1 34 AG (Ai d_v1.1 p1 (v5.1, v5.2.1, v5.2.2.1, v5.2.2.2.1, v5.2.2.2.2.1, v5.2.2.2.2.2.1, v5.2.2.2.2.2.2.1, p2.2.1)), row v3 3 (Rp.int .i64) p0.2.2, mp m_v2 AV AV p0.2.1] w := W
 refine Ae (Ac (Aj (Aj (Ad ?_))))
 refine ls F W Aa (Ab BM Aa Aa Aa T3 F Aa 0 Aa).q fun a w F W => ?_
 refine ls F W Aa (An (v := Value.int .i64 p2.1) 0 F Aa Aa T3 Aa).q fun a w F W => ?_
 refine ls F W Aa (B3 F Aa Aa).q fun a w F W => ?_
 refine Ae (Ac ?_)
 refine AB F Aa (fun hb => ?_) fun hb => ?_
 ·
  have H := A0 (Ba hb) H
  rw [hb] at F
  clear hb
  refine Aj ?_
  refine DG [(true, 0), (true, 1), (true, 2), (true, 3), (true, 4), (true, 5), (true, 6), (false, 7), (false, 8), (true, 9), (true, 10), (false, 11)] (CN ⟨Y, X, w0⟩ [(some 7, b1, [.int .i64 p2.1, .int .i64 p2.2.1, .int .i64 p2.2.2.1, .int .i64 p2.2.2.2.1, .int .i64 p2.2.2.2.2.1, .int .i64 p2.2.2.2.2.2])] [(some 8, Au v1 34 AG (Ai d_v1.1 p1 (v5.1, v5.2.1, v5.2.2.1, v5.2.2.2.1, v5.2.2.2.2.1, v5.2.2.2.2.2.1, v5.2.2.2.2.2.2.1, p2.2.1)))]) (fun ch a d v w h => by cases d <;> exact h) MO (by kernel_rfl) W (fun w W => ⟨_, _, W, (all_cons (fun _ => (.head _)) As), (all_cons (fun _ => (.head _)) As)⟩) fun w W => ?_
  iterate 2 refine Bm (R := []) F Aa Aa (yC fun M Z hN hZ => Af F Aa) Aa Aa fun a F => ?_
  refine Bm (R := []) F Aa Aa (yC fun M Z hN hZ => AL F Aa) Aa Aa fun a F => ?_
  refine Bm (R := []) F Aa Aa (yC fun M Z hN hZ => Ab Ck Aa Aa Aa C4 F Aa (BW v1 + (p1).toNat * 8 + 4) Aa) Aa Aa fun a F => ?_
  obtain ⟨x3, h8, H⟩ := Ak H
  obtain ⟨v6, h9, h10⟩ := Bh (er := A8) h7 h8
  have h11 : AG.cells v6 = [.int .i64 x3.1, .int .i64 x3.2.1, .int .i64 x3.2.2.1, .int .i64 x3.2.2.2.1, (v6.2.2.2.2.1.1), .int .i64 x3.2.2.2.2.2.1, .int .i64 x3.2.2.2.2.2.2.1, .int .i64 x3.2.2.2.2.2.2.2] := congrArg (fun q : Int × Int × Int × Int × (Nat × List Int) × Int × Int × Int => ([.int .i64 q.1, .int .i64 q.2.1, .int .i64 q.2.2.1, .int .i64 q.2.2.2.1, (v6.2.2.2.2.1.1), .int .i64 q.2.2.2.2.2.1, .int .i64 q.2.2.2.2.2.2.1, .int .i64 q.2.2.2.2.2.2.2] : List Value)) h10
  refine Bm (R := [8]) F Aa Aa (yC fun M Z hN hZ => Az (y := (v6.2.2.2.2.1.1)) (j := 4) (i := p1) (enc := AG.cells) F Aa Aa (Ek.hd (Ib (hZ ((some 8), Au v1 34 AG (Ai d_v1.1 p1 (v5.1, v5.2.1, v5.2.2.1, v5.2.2.2.1, v5.2.2.2.2.1, v5.2.2.2.2.2.1, v5.2.2.2.2.2.2.1, p2.2.1))) (.head _) Aa))) h9 AG.flat C4 (by rw [h11]; rfl)) (by kernel_rfl) Aa fun a F => ?_
  refine Bm (R := []) F Aa Aa (yC fun M Z hN hZ => Ab BM Aa Aa Aa T3 F Aa 3 Aa) Aa Aa fun a F => ?_
  refine Bm (R := [7]) F Aa Aa (yC fun M Z hN hZ => BJ (cs := [.int .i64 p2.1, .int .i64 p2.2.1, .int .i64 p2.2.2.1, .int .i64 p2.2.2.2.1, .int .i64 p2.2.2.2.2.1, .int .i64 p2.2.2.2.2.2]) (v := Value.int .i64 p2.2.2.2.1) F Aa (hN ((some 7), b1, [.int .i64 p2.1, .int .i64 p2.2.1, .int .i64 p2.2.2.1, .int .i64 p2.2.2.2.1, .int .i64 p2.2.2.2.2.1, .int .i64 p2.2.2.2.2.2]) (.head _) Aa) T3 Aa) (by kernel_rfl) Aa fun a F => ?_
  refine DZ Aa ?_
  refine Ey (z := Value.int .i64 0) (cs := [.int .i64 p2.2.2.2.1]) (Rp.int .i64) ([p2.2.2.2.1] : List Int) F W Aa Gg Z3 Aa Aa Aa Aa Aa Aa (Fl.int.repL _ _ ([p2.2.2.2.1] : List Int)) fun v7 a w F W => ?_
  refine BD (N2 := []) (NZ2 := []) (N3 := [(some 7, b1, [.int .i64 p2.1, .int .i64 p2.2.1, .int .i64 p2.2.2.1, .int .i64 p2.2.2.2.1, .int .i64 p2.2.2.2.2.1, .int .i64 p2.2.2.2.2.2])]) (NZ3 := [(some 8, Au v1 34 AG (Ai d_v1.1 p1 (v5.1, v5.2.1, v5.2.2.1, v5.2.2.2.1, v5.2.2.2.2.1, v5.2.2.2.2.2.1, v5.2.2.2.2.2.2.1, p2.2.1)))]) W Aa Aa (all_cons (fun h => AH (by kernel_rfl) h) As) (all_cons (fun _ => (.tail _ (.head _))) As) ?_
  refine DZ Aa ?_
  obtain ⟨x4, h12, H⟩ := Ak H
  have W := W.frontZ (i := 1) Aa Aa
  have W := W.dTakeR h9 (Foc.snd (Foc.snd (Foc.snd (Foc.snd (Foc.fst Foc.here))))) ((congrArg (fun q : Int × Int × Int × Int × (Nat × List Int) × Int × Int × Int => q.2.2.2.2.1) h10).trans (Prod.ext (Gm h12) Aa))
  have h13 : List.map A8 (Ai (Ai d_v1.1 p1 (v5.1, v5.2.1, v5.2.2.1, v5.2.2.2.1, v5.2.2.2.2.1, v5.2.2.2.2.2.1, v5.2.2.2.2.2.2.1, p2.2.1)) p1 (v6.1, v6.2.1, v6.2.2.1, v6.2.2.2.1, ((v6.2.2.2.2.1.1), 0, []), v6.2.2.2.2.2.1, v6.2.2.2.2.2.2.1, v6.2.2.2.2.2.2.2)) = (Ai (Ai p0.1 p1 (x2.1, x2.2.1, x2.2.2.1, x2.2.2.2.1, x2.2.2.2.2.1, x2.2.2.2.2.2.1, x2.2.2.2.2.2.2.1, p2.2.1)) p1 (x3.1, x3.2.1, x3.2.2.1, x3.2.2.2.1, (0, []), x3.2.2.2.2.2.1, x3.2.2.2.2.2.2.1, x3.2.2.2.2.2.2.2)) := (CQ h7 (congrArg (fun q : Int × Int × Int × Int × (Nat × List Int) × Int × Int × Int => (q.1, q.2.1, q.2.2.1, q.2.2.2.1, (0, []), q.2.2.2.2.2.1, q.2.2.2.2.2.2.1, q.2.2.2.2.2.2.2)) h10))
  have W : Stw ⟨Y, X, w0⟩ [(b1, [.int .i64 p2.1, .int .i64 p2.2.1, .int .i64 p2.2.2.1, .int .i64 p2.2.2.2.1, .int .i64 p2.2.2.2.2.1, .int .i64 p2.2.2.2.2.2]), (q_p0, [v1, .map (some m_v2), v3])] [row (v6.2.2.2.2.1.1) 3 (Rp.int .i64) x3.2.2.2.2.1.2, Au v1 34 AG (Ai (Ai d_v1.1 p1 (v5.1, v5.2.1, v5.2.2.1, v5.2.2.2.1, v5.2.2.2.2.1, v5.2.2.2.2.2.1, v5.2.2.2.2.2.2.1, p2.2.1)) p1 (v6.1, v6.2.1, v6.2.2.1, v6.2.2.2.1, ((v6.2.2.2.2.1.1), 0, []), v6.2.2.2.2.2.1, v6.2.2.2.2.2.2.1, v6.2.2.2.2.2.2.2)), row v7 3 (Rp.int .i64) ([p2.2.2.2.1] : List Int), row v3 3 (Rp.int .i64) p0.2.2, mp m_v2 AV AV p0.2.1] w := W
  obtain ⟨x5, h14, H⟩ := Ak H
  refine Dl (r := (Rp.int .i64)) (i := 0) F W Aa Gg Aa Aa Aa Aa (DO W 2 Aa) h14 Aa fun v8 a w F W => ?_
  have W : Stw ⟨Y, X, w0⟩ [(b1, [.int .i64 p2.1, .int .i64 p2.2.1, .int .i64 p2.2.2.1, .int .i64 p2.2.2.2.1, .int .i64 p2.2.2.2.2.1, .int .i64 p2.2.2.2.2.2]), (q_p0, [v1, .map (some m_v2), v3])] [row v8 3 (Rp.int .i64) x5, Au v1 34 AG (Ai (Ai d_v1.1 p1 (v5.1, v5.2.1, v5.2.2.1, v5.2.2.2.1, v5.2.2.2.2.1, v5.2.2.2.2.2.1, v5.2.2.2.2.2.2.1, p2.2.1)) p1 (v6.1, v6.2.1, v6.2.2.1, v6.2.2.2.1, ((v6.2.2.2.2.1.1), 0, []), v6.2.2.2.2.2.1, v6.2.2.2.2.2.2.1, v6.2.2.2.2.2.2.2)), row v7 3 (Rp.int .i64) ([p2.2.2.2.1] : List Int), row v3 3 (Rp.int .i64) p0.2.2, mp m_v2 AV AV p0.2.1] w := W
  refine BD (N2 := []) (NZ2 := []) (N3 := [(some 7, b1, [.int .i64 p2.1, .int .i64 p2.2.1, .int .i64 p2.2.2.1, .int .i64 p2.2.2.2.1, .int .i64 p2.2.2.2.2.1, .int .i64 p2.2.2.2.2.2])]) (NZ3 := [(some 8, Au v1 34 AG (Ai d_v1.1 p1 (v5.1, v5.2.1, v5.2.2.1, v5.2.2.2.1, v5.2.2.2.2.1, v5.2.2.2.2.2.1, v5.2.2.2.2.2.2.1, p2.2.1)))]) W Aa Aa (all_cons (fun h => AH (by kernel_rfl) h) As) (all_cons (fun h => AH (by kernel_rfl) h) As) ?_
  refine Bm (R := []) F Aa Aa (yC fun M Z hN hZ => AL F Aa) Aa Aa fun a F => ?_
  refine Bm (R := []) F Aa Aa (yC fun M Z hN hZ => Ab Ck Aa Aa Aa C4 F Aa (BW v1 + (p1).toNat * 8 + 4) Aa) Aa Aa fun a F => ?_
  refine DZ Aa ?_
  obtain ⟨x6, h15, H⟩ := Ak H
  obtain ⟨v9, h16, h17⟩ := Bh (er := A8) h13 h15
  have h18 : Value.oneCell' v8 = true := (W.one (k := 0) Aa)
  have W := W.frontZ (i := 1) Aa Aa
  have W := W.frontZ (i := 1) Aa Aa
  have W := W.toR
  refine EL (D := AG) (S := (Dp.sl 3 (Rp.int .i64))) (b := (v8, 2, x5)) (i := p1) (j := 4) (Foc.snd (Foc.snd (Foc.snd (Foc.snd (Foc.fst Foc.here))))) F W Aa Aa Aa h16 C4 (Dq h18) Aa h18 Aa fun w W => ?_
  have h19 : List.map A8 (Ai (Ai (Ai d_v1.1 p1 (v5.1, v5.2.1, v5.2.2.1, v5.2.2.2.1, v5.2.2.2.2.1, v5.2.2.2.2.2.1, v5.2.2.2.2.2.2.1, p2.2.1)) p1 (v6.1, v6.2.1, v6.2.2.1, v6.2.2.2.1, ((v6.2.2.2.2.1.1), 0, []), v6.2.2.2.2.2.1, v6.2.2.2.2.2.2.1, v6.2.2.2.2.2.2.2)) p1 (v9.1, v9.2.1, v9.2.2.1, v9.2.2.2.1, (v8, 2, x5), v9.2.2.2.2.2.1, v9.2.2.2.2.2.2.1, v9.2.2.2.2.2.2.2)) = (Ai (Ai (Ai p0.1 p1 (x2.1, x2.2.1, x2.2.2.1, x2.2.2.2.1, x2.2.2.2.2.1, x2.2.2.2.2.2.1, x2.2.2.2.2.2.2.1, p2.2.1)) p1 (x3.1, x3.2.1, x3.2.2.1, x3.2.2.2.1, (0, []), x3.2.2.2.2.2.1, x3.2.2.2.2.2.2.1, x3.2.2.2.2.2.2.2)) p1 (x6.1, x6.2.1, x6.2.2.1, x6.2.2.2.1, (2, x5), x6.2.2.2.2.2.1, x6.2.2.2.2.2.2.1, x6.2.2.2.2.2.2.2)) := (CQ h13 (congrArg (fun q : Int × Int × Int × Int × (Nat × List Int) × Int × Int × Int => (q.1, q.2.1, q.2.2.1, q.2.2.2.1, (2, x5), q.2.2.2.2.2.1, q.2.2.2.2.2.2.1, q.2.2.2.2.2.2.2)) h17))
  have W : Stw ⟨Y, X, w0⟩ [(b1, [.int .i64 p2.1, .int .i64 p2.2.1, .int .i64 p2.2.2.1, .int .i64 p2.2.2.2.1, .int .i64 p2.2.2.2.2.1, .int .i64 p2.2.2.2.2.2]), (q_p0, [v1, .map (some m_v2), v3])] [Au v1 34 AG (Ai (Ai (Ai d_v1.1 p1 (v5.1, v5.2.1, v5.2.2.1, v5.2.2.2.1, v5.2.2.2.2.1, v5.2.2.2.2.2.1, v5.2.2.2.2.2.2.1, p2.2.1)) p1 (v6.1, v6.2.1, v6.2.2.1, v6.2.2.2.1, ((v6.2.2.2.2.1.1), 0, []), v6.2.2.2.2.2.1, v6.2.2.2.2.2.2.1, v6.2.2.2.2.2.2.2)) p1 (v9.1, v9.2.1, v9.2.2.1, v9.2.2.2.1, (v8, 2, x5), v9.2.2.2.2.2.1, v9.2.2.2.2.2.2.1, v9.2.2.2.2.2.2.2)), row v7 3 (Rp.int .i64) ([p2.2.2.2.1] : List Int), row v3 3 (Rp.int .i64) p0.2.2, mp m_v2 AV AV p0.2.1] w := W
  refine BD (N2 := []) (NZ2 := []) (N3 := [(some 7, b1, [.int .i64 p2.1, .int .i64 p2.2.1, .int .i64 p2.2.2.1, .int .i64 p2.2.2.2.1, .int .i64 p2.2.2.2.2.1, .int .i64 p2.2.2.2.2.2])]) (NZ3 := [(some 8, Au v1 34 AG (Ai d_v1.1 p1 (v5.1, v5.2.1, v5.2.2.1, v5.2.2.2.1, v5.2.2.2.2.1, v5.2.2.2.2.2.1, v5.2.2.2.2.2.2.1, p2.2.1)))]) W Aa Aa (all_cons (fun h => AH (by kernel_rfl) h) As) (all_cons (fun h => AH (by kernel_rfl) h) As) ?_
  refine Fi (Ac (AJ (Bc ?_)))
  have H := A1 H
  subst H
  refine ED (.inl Aa) F Aa ?_
  have W := W.frontZ (i := 3) Aa Aa
  have W := W.frontZ (i := 3) Aa Aa
  have W := W.frontZ (i := 2) Aa Aa
  have W := W.frontM (i := 1) Aa Aa
  have W := W.sub (M' := [(q_p0, [v1, .map (some m_v2), v3])]) (Z' := [Au v1 34 AG (Ai (Ai (Ai d_v1.1 p1 (v5.1, v5.2.1, v5.2.2.1, v5.2.2.2.1, v5.2.2.2.2.1, v5.2.2.2.2.2.1, v5.2.2.2.2.2.2.1, p2.2.1)) p1 (v6.1, v6.2.1, v6.2.2.1, v6.2.2.2.1, ((v6.2.2.2.2.1.1), 0, []), v6.2.2.2.2.2.1, v6.2.2.2.2.2.2.1, v6.2.2.2.2.2.2.2)) p1 (v9.1, v9.2.1, v9.2.2.1, v9.2.2.2.1, (v8, 2, x5), v9.2.2.2.2.2.1, v9.2.2.2.2.2.2.1, v9.2.2.2.2.2.2.2)), row v3 3 (Rp.int .i64) p0.2.2, mp m_v2 AV AV p0.2.1]) (List.Sublist.cons_cons _ (List.nil_sublist _)) (List.Sublist.cons_cons _ (List.Sublist.cons_cons _ (List.Sublist.cons_cons _ (List.nil_sublist _))))
  exact ⟨((v1), ⟨(Ai (Ai (Ai d_v1.1 p1 (v5.1, v5.2.1, v5.2.2.1, v5.2.2.2.1, v5.2.2.2.2.1, v5.2.2.2.2.2.1, v5.2.2.2.2.2.2.1, p2.2.1)) p1 (v6.1, v6.2.1, v6.2.2.1, v6.2.2.2.1, ((v6.2.2.2.2.1.1), 0, []), v6.2.2.2.2.2.1, v6.2.2.2.2.2.2.1, v6.2.2.2.2.2.2.2)) p1 (v9.1, v9.2.1, v9.2.2.1, v9.2.2.2.1, (v8, 2, x5), v9.2.2.2.2.2.1, v9.2.2.2.2.2.2.1, v9.2.2.2.2.2.2.2)), h19⟩, (v3)), Aa, W⟩
 have H := AY (A7 hb) H
 rw [hb] at F
 clear hb
 refine Ay (Ac (Aj (Ad ?_)))
 refine ls F W Aa (Af F Aa).q fun a w F W => ?_
 refine ls F W Aa (Ab BM Aa Aa Aa T3 F Aa 0 Aa).q fun a w F W => ?_
 refine ls F W Aa (An (v := Value.int .i64 p2.1) 0 F Aa Aa T3 Aa).q fun a w F W => ?_
 refine ls F W Aa (AL F Aa).q fun a w F W => ?_
 refine ls F W Aa (Ab Ck Aa Aa Aa T3 F Aa (BW v1 + (p1).toNat * 8 + 5) Aa).q fun a w F W => ?_
 obtain ⟨x7, h20, H⟩ := Ak H
 obtain ⟨v10, h21, h22⟩ := Bh (er := A8) h7 h20
 refine B6 (D := AG) (i := p1) (j := 5) (vs := [.int .i64 p2.1]) (x' := (v10.1, v10.2.1, v10.2.2.1, v10.2.2.2.1, v10.2.2.2.2.1, p2.1, v10.2.2.2.2.2.2.1, v10.2.2.2.2.2.2.2)) F W Aa Aa Aa h21 T3 Aa Aa Aa Aa Aa Aa fun w W => ?_
 have h23 : List.map A8 (Ai (Ai d_v1.1 p1 (v5.1, v5.2.1, v5.2.2.1, v5.2.2.2.1, v5.2.2.2.2.1, v5.2.2.2.2.2.1, v5.2.2.2.2.2.2.1, p2.2.1)) p1 (v10.1, v10.2.1, v10.2.2.1, v10.2.2.2.1, v10.2.2.2.2.1, p2.1, v10.2.2.2.2.2.2.1, v10.2.2.2.2.2.2.2)) = (Ai (Ai p0.1 p1 (x2.1, x2.2.1, x2.2.2.1, x2.2.2.2.1, x2.2.2.2.2.1, x2.2.2.2.2.2.1, x2.2.2.2.2.2.2.1, p2.2.1)) p1 (x7.1, x7.2.1, x7.2.2.1, x7.2.2.2.1, x7.2.2.2.2.1, p2.1, x7.2.2.2.2.2.2.1, x7.2.2.2.2.2.2.2)) := (CQ h7 (congrArg (fun q : Int × Int × Int × Int × (Nat × List Int) × Int × Int × Int => (q.1, q.2.1, q.2.2.1, q.2.2.2.1, q.2.2.2.2.1, p2.1, q.2.2.2.2.2.2.1, q.2.2.2.2.2.2.2)) h22))
 have W : Stw ⟨Y, X, w0⟩ [(b1, [.int .i64 p2.1, .int .i64 p2.2.1, .int .i64 p2.2.2.1, .int .i64 p2.2.2.2.1, .int .i64 p2.2.2.2.2.1, .int .i64 p2.2.2.2.2.2]), (q_p0, [v1, .map (some m_v2), v3])] [Au v1 34 AG (Ai (Ai d_v1.1 p1 (v5.1, v5.2.1, v5.2.2.1, v5.2.2.2.1, v5.2.2.2.2.1, v5.2.2.2.2.2.1, v5.2.2.2.2.2.2.1, p2.2.1)) p1 (v10.1, v10.2.1, v10.2.2.1, v10.2.2.2.1, v10.2.2.2.2.1, p2.1, v10.2.2.2.2.2.2.1, v10.2.2.2.2.2.2.2)), row v3 3 (Rp.int .i64) p0.2.2, mp m_v2 AV AV p0.2.1] w := W
 refine Ae (Ac ?_)
 obtain ⟨o1, G1, K1⟩ := Ak H
 refine A3 (fun a w => ∃ x8 : List (Int × Int × Int × Int × (Nat × List Int) × Int × Int × Int), ∃ g_x8 : {x : List (Int × Int × Int × Int × (Value × Nat × List Int) × Int × Int × Int) // x.map A8 = x8}, some (x8) = some o1 ∧ Fr 58 [] [(0, .pointer (some ⟨q_p0, 0, none⟩)), (1, .int .i64 p1), (5, .pointer (some ⟨b1, 0, none⟩))] a ∧ Stw ⟨Y, X, w0⟩ [(b1, [.int .i64 p2.1, .int .i64 p2.2.1, .int .i64 p2.2.2.1, .int .i64 p2.2.2.2.1, .int .i64 p2.2.2.2.2.1, .int .i64 p2.2.2.2.2.2]), (q_p0, [v1, .map (some m_v2), v3])] [Au v1 34 AG g_x8.1, row v3 3 (Rp.int .i64) p0.2.2, mp m_v2 AV AV p0.2.1] w) ?_ ?_
 ·
  have H := G1
  clear G1 K1
  refine Aj (Ad ?_)
  refine ls F W Aa (Ab BM Aa Aa Aa T3 F Aa 0 Aa).q fun a w F W => ?_
  refine ls F W Aa (An (v := Value.int .i64 p2.1) 0 F Aa Aa T3 Aa).q fun a w F W => ?_
  refine ls F W Aa (B3 F Aa Aa).q fun a w F W => ?_
  refine Ae (Ac ?_)
  refine AB F Aa (fun hb => ?_) fun hb => ?_
  ·
   have H := A0 (Ba hb) H
   rw [hb] at F
   clear hb
   refine Ad ?_
   refine ls F W Aa (Af F Aa).q fun a w F W => ?_
   refine ls F W Aa (Ab BM Aa Aa Aa T3 F Aa 4 Aa).q fun a w F W => ?_
   refine ls F W Aa (An (v := Value.int .i64 p2.2.2.2.2.1) 0 F Aa Aa T3 Aa).q fun a w F W => ?_
   refine ls F W Aa (AL F Aa).q fun a w F W => ?_
   refine ls F W Aa (Ab Ck Aa Aa Aa T3 F Aa (BW v1 + (p1).toNat * 8 + 6) Aa).q fun a w F W => ?_
   obtain ⟨x9, h24, H⟩ := Ak H
   obtain ⟨v11, h25, h26⟩ := Bh (er := A8) h23 h24
   refine B6 (D := AG) (i := p1) (j := 6) (vs := [.int .i64 p2.2.2.2.2.1]) (x' := (v11.1, v11.2.1, v11.2.2.1, v11.2.2.2.1, v11.2.2.2.2.1, v11.2.2.2.2.2.1, p2.2.2.2.2.1, v11.2.2.2.2.2.2.2)) F W Aa Aa Aa h25 T3 Aa Aa Aa Aa Aa Aa fun w W => ?_
   have h27 : List.map A8 (Ai (Ai (Ai d_v1.1 p1 (v5.1, v5.2.1, v5.2.2.1, v5.2.2.2.1, v5.2.2.2.2.1, v5.2.2.2.2.2.1, v5.2.2.2.2.2.2.1, p2.2.1)) p1 (v10.1, v10.2.1, v10.2.2.1, v10.2.2.2.1, v10.2.2.2.2.1, p2.1, v10.2.2.2.2.2.2.1, v10.2.2.2.2.2.2.2)) p1 (v11.1, v11.2.1, v11.2.2.1, v11.2.2.2.1, v11.2.2.2.2.1, v11.2.2.2.2.2.1, p2.2.2.2.2.1, v11.2.2.2.2.2.2.2)) = (Ai (Ai (Ai p0.1 p1 (x2.1, x2.2.1, x2.2.2.1, x2.2.2.2.1, x2.2.2.2.2.1, x2.2.2.2.2.2.1, x2.2.2.2.2.2.2.1, p2.2.1)) p1 (x7.1, x7.2.1, x7.2.2.1, x7.2.2.2.1, x7.2.2.2.2.1, p2.1, x7.2.2.2.2.2.2.1, x7.2.2.2.2.2.2.2)) p1 (x9.1, x9.2.1, x9.2.2.1, x9.2.2.2.1, x9.2.2.2.2.1, x9.2.2.2.2.2.1, p2.2.2.2.2.1, x9.2.2.2.2.2.2.2)) := (CQ h23 (congrArg (fun q : Int × Int × Int × Int × (Nat × List Int) × Int × Int × Int => (q.1, q.2.1, q.2.2.1, q.2.2.2.1, q.2.2.2.2.1, q.2.2.2.2.2.1, p2.2.2.2.2.1, q.2.2.2.2.2.2.2)) h26))
   have W : Stw ⟨Y, X, w0⟩ [(b1, [.int .i64 p2.1, .int .i64 p2.2.1, .int .i64 p2.2.2.1, .int .i64 p2.2.2.2.1, .int .i64 p2.2.2.2.2.1, .int .i64 p2.2.2.2.2.2]), (q_p0, [v1, .map (some m_v2), v3])] [Au v1 34 AG (Ai (Ai (Ai d_v1.1 p1 (v5.1, v5.2.1, v5.2.2.1, v5.2.2.2.1, v5.2.2.2.2.1, v5.2.2.2.2.2.1, v5.2.2.2.2.2.2.1, p2.2.1)) p1 (v10.1, v10.2.1, v10.2.2.1, v10.2.2.2.1, v10.2.2.2.2.1, p2.1, v10.2.2.2.2.2.2.1, v10.2.2.2.2.2.2.2)) p1 (v11.1, v11.2.1, v11.2.2.1, v11.2.2.2.1, v11.2.2.2.2.1, v11.2.2.2.2.2.1, p2.2.2.2.2.1, v11.2.2.2.2.2.2.2)), row v3 3 (Rp.int .i64) p0.2.2, mp m_v2 AV AV p0.2.1] w := W
   refine Ae (Ac ?_)
   have W := W.frontZ (i := 2) Aa Aa
   have W := W.frontZ (i := 2) Aa Aa
   have W := W.frontZ (i := 2) Aa Aa
   have W := W.frontM (i := 1) Aa Aa
   have W := W.frontM (i := 1) Aa Aa
   exact ⟨_, ⟨(Ai (Ai (Ai d_v1.1 p1 (v5.1, v5.2.1, v5.2.2.1, v5.2.2.2.1, v5.2.2.2.2.1, v5.2.2.2.2.2.1, v5.2.2.2.2.2.2.1, p2.2.1)) p1 (v10.1, v10.2.1, v10.2.2.1, v10.2.2.2.1, v10.2.2.2.2.1, p2.1, v10.2.2.2.2.2.2.1, v10.2.2.2.2.2.2.2)) p1 (v11.1, v11.2.1, v11.2.2.1, v11.2.2.2.1, v11.2.2.2.2.1, v11.2.2.2.2.2.1, p2.2.2.2.2.1, v11.2.2.2.2.2.2.2)), h27⟩, H, F.re ⟨rfl, Aa, Aa, trivial⟩, W⟩
  have H := AY (A7 hb) H
  rw [hb] at F
  clear hb
  refine Ay (Ac ?_)
  have W := W.frontZ (i := 2) Aa Aa
  have W := W.frontZ (i := 2) Aa Aa
  have W := W.frontZ (i := 2) Aa Aa
  have W := W.frontM (i := 1) Aa Aa
  have W := W.frontM (i := 1) Aa Aa
  exact ⟨_, ⟨(Ai (Ai d_v1.1 p1 (v5.1, v5.2.1, v5.2.2.1, v5.2.2.2.1, v5.2.2.2.2.1, v5.2.2.2.2.2.1, v5.2.2.2.2.2.2.1, p2.2.1)) p1 (v10.1, v10.2.1, v10.2.2.1, v10.2.2.2.1, v10.2.2.2.2.1, p2.1, v10.2.2.2.2.2.2.1, v10.2.2.2.2.2.2.2)), h23⟩, H, F.re ⟨rfl, Aa, Aa, trivial⟩, W⟩
 rintro a w ⟨x8, g_x8, hj, F, W⟩
 have hj := A1 hj
 subst hj
 have H := K1
 clear G1 K1
 refine Eo 13 W MO (by kernel_rfl) ?_
 refine qs F Aa (Af F Aa).q fun a F => ?_
 refine qs F Aa (AL F Aa).q fun a F => ?_
 refine qs F Aa (Ab Ea Aa Aa Aa Iy F Aa 1 Aa).q fun a F => ?_
 refine qs F Aa (An (v := Value.map (some m_v2)) 1 F Aa Aa Iy Aa).q fun a F => ?_
 refine qs F Aa (Ab BM Aa Aa Aa T3 F Aa 2 Aa).q fun a F => ?_
 refine qs F Aa (An (v := Value.int .i64 p2.2.2.1) 0 F Aa Aa T3 Aa).q fun a F => ?_
 refine qs F Aa (Af F Aa).q fun a F => ?_
 refine qs F Aa (AL F Aa).q fun a F => ?_
 refine qs F Aa (Ab Ea Aa Aa Aa C4 F Aa 2 Aa).q fun a F => ?_
 refine qs F Aa (An (v := v3) 1 F Aa Aa C4 Aa).q fun a F => ?_
 refine qs F Aa (Af F Aa).q fun a F => ?_
 obtain ⟨x10, h28, H⟩ := Ak H
 refine qs F Aa (AE (r := (Rp.int .i64)) Gg F Aa Aa (AN 1 Aa) h28).q fun a F => ?_
 refine qs F Aa (Az (y := Value.int .i64 x10) (j := 0) (i := p1) F Aa Aa (AN 1 Aa) h28 Fl.int.to T3 Aa).q fun a F => ?_
 refine A2 fun w W => ?_
 refine EP (q := 2) (kx := (p2.2.2.1 : Int)) (vx := (x10 : Int)) (E := AV) (V := AV) F W Aa Aa Aa Aa Aa IK Ik fun w W => ?_
 have W : Stw ⟨Y, X, w0⟩ [(b1, [.int .i64 p2.1, .int .i64 p2.2.1, .int .i64 p2.2.2.1, .int .i64 p2.2.2.2.1, .int .i64 p2.2.2.2.2.1, .int .i64 p2.2.2.2.2.2]), (q_p0, [v1, .map (some m_v2), v3])] [mp m_v2 AV AV (Cp p0.2.1 p2.2.2.1 x10), Au v1 34 AG g_x8.1, row v3 3 (Rp.int .i64) p0.2.2] w := W
 refine Ae ?_
 have H := A1 H
 subst H
 refine ED (.inr Aa) F Aa ?_
 have W := W.frontZ (i := 2) Aa Aa
 have W := W.frontZ (i := 2) Aa Aa
 have W := W.frontM (i := 1) Aa Aa
 have W := W.sub (M' := [(q_p0, [v1, .map (some m_v2), v3])]) (Z' := [Au v1 34 AG g_x8.1, row v3 3 (Rp.int .i64) p0.2.2, mp m_v2 AV AV (Cp p0.2.1 p2.2.2.1 x10)]) (List.Sublist.cons_cons _ (List.nil_sublist _)) (List.Sublist.refl _)
 exact ⟨((v1), ⟨g_x8.1, g_x8.2⟩, (v3)), Aa, W⟩
theorem Jq : Has Tryd.prog 24 := ⟨fun args w => Ap Tryd.func24 rfl (by decide) args w⟩
noncomputable def Bq (p0 : (List (Int × Int × Int × Int × (Nat × List Int) × Int × Int × Int)) × (List (Int × Int)) × List Int) (p1 : Int × Int × Int × Int × Int × Int) : Option ((List (Int × Int × Int × Int × (Nat × List Int) × Int × Int × Int)) × (List (Int × Int)) × List Int) := (if p1.1 = 1 then (BO p0 p1).bind fun x1 => some x1 else (if p1.1 = 2 then some true else (if p1.1 = 3 then some true else some (decide (p1.1 = 4)))).bind fun x2 => (if x2 = true then (if (Ao p0 p1.2.2.1) ≠ (-1) then (Be p0 (Ao p0 p1.2.2.1) p1).bind fun x3 => some x3 else some p0) else some p0))
theorem DI (Y : Nat → Prop) (X : List Nat) (w0 : World) (q_p0 : Nat) (v1 : Value) (m_v2 : Nat) (v3 : Value) (p0 : (List (Int × Int × Int × Int × (Nat × List Int) × Int × Int × Int)) × (List (Int × Int)) × List Int) (p1 : Int × Int × Int × Int × Int × Int) (d_v1 : {x : List (Int × Int × Int × Int × (Value × Nat × List Int) × Int × Int × Int) // x.map A8 = p0.1}) (r : ((List (Int × Int × Int × Int × (Nat × List Int) × Int × Int × Int)) × (List (Int × Int)) × List Int)) (H : Bq p0 p1 = some r) (hL : Stw ⟨Y, X, w0⟩ [(q_p0, [v1, .map (some m_v2), v3])] [Au v1 34 AG d_v1.1, row v3 3 (Rp.int .i64) p0.2.2, mp m_v2 AV AV p0.2.1] w0) :
    Calls Tryd.prog 15 #[.pointer (some ⟨q_p0, 0, none⟩), .agg #[.int .i64 p1.1, .int .i64 p1.2.1, .int .i64 p1.2.2.1, .int .i64 p1.2.2.2.1, .int .i64 p1.2.2.2.2.1, .int .i64 p1.2.2.2.2.2]] w0 fun e w' => ∃ x : Value × ({x : List (Int × Int × Int × Int × (Value × Nat × List Int) × Int × Int × Int) // x.map A8 = r.1}) × Value, e = .returned (.tuple #[]) ∧ Stw ⟨Y, X, w0⟩ [(q_p0, [x.1, .map (some m_v2), x.2.2])] [Au (x.1) 34 AG (x.2.1.1), row (x.2.2) 3 (Rp.int .i64) r.2.2, mp m_v2 AV AV r.2.1] w' := by
 refine enter Tryd.func15 Aa Tryd.ntmps15 Aa fun a F => ?_
 have W := hL
 unfold Bq at H
 refine Aj (Ad ?_)
 refine D9 (cs := [.int .i64 p1.1, .int .i64 p1.2.1, .int .i64 p1.2.2.1, .int .i64 p1.2.2.2.1, .int .i64 p1.2.2.2.2.1, .int .i64 p1.2.2.2.2.2]) F W Aa Aa Aa fun b1 a w F W => ?_
 refine Ae (Ac (Aj (Ad ?_)))
 refine ls F W Aa (Ab BM Aa Aa Aa T3 F Aa 0 Aa).q fun a w F W => ?_
 refine ls F W Aa (An (v := Value.int .i64 p1.1) 0 F Aa Aa T3 Aa).q fun a w F W => ?_
 refine Ae (Ac (AD (Aj (Ad ?_))))
 refine ls F W Aa (B3 F Aa Aa).q fun a w F W => ?_
 refine ls F W Aa (Ag F Aa).q fun a w F W => ?_
 refine Ae (Ac ?_)
 refine AB F Aa (fun hb => ?_) fun hb => ?_
 ·
  have H := A0 (Ba hb) H
  rw [hb] at F
  clear hb
  refine Ad ?_
  refine ls F W Aa (Af F Aa).q fun a w F W => ?_
  refine ls F W Aa (An (v := Value.agg #[.int .i64 p1.1, .int .i64 p1.2.1, .int .i64 p1.2.2.1, .int .i64 p1.2.2.2.1, .int .i64 p1.2.2.2.2.1, .int .i64 p1.2.2.2.2.2]) 0 F Aa Aa Ie Aa).q fun a w F W => ?_
  obtain ⟨x1, h1, H⟩ := Ak H
  have W := W.frontZ (i := 2) Aa Aa
  have W := W.frontZ (i := 2) Aa Aa
  have W := W.frontZ (i := 2) Aa Aa
  have W := W.frontM (i := 1) Aa Aa
  refine BE (Ml := [(q_p0, [v1, .map (some m_v2), v3])]) (Zl := [Au v1 34 AG d_v1.1, row v3 3 (Rp.int .i64) p0.2.2, mp m_v2 AV AV p0.2.1]) (M := [(b1, [.int .i64 p1.1, .int .i64 p1.2.1, .int .i64 p1.2.2.1, .int .i64 p1.2.2.2.1, .int .i64 p1.2.2.2.2.1, .int .i64 p1.2.2.2.2.2])]) (Z := []) (β := Value × ({x : List (Int × Int × Int × Int × (Value × Nat × List Int) × Int × Int × Int) // x.map A8 = x1.1}) × Value) (rv := fun x => .tuple #[]) (MM := fun x => [(q_p0, [x.1, .map (some m_v2), x.2.2])]) (ZZ := fun x => [Au x.1 34 AG x.2.1.1, row x.2.2 3 (Rp.int .i64) x1.2.2, mp m_v2 AV AV x1.2.1]) F W Jn Aa Aa (fun hL => DT _ _ w q_p0 (v1) m_v2 (v3) p0 p1 ⟨d_v1.1, d_v1.2⟩ _ h1 hL) fun x a w F W => ?_
  obtain ⟨v4, v5, v6⟩ := x
  have W : Stw ⟨Y, X, w0⟩ [(q_p0, [v4, .map (some m_v2), v6]), (b1, [.int .i64 p1.1, .int .i64 p1.2.1, .int .i64 p1.2.2.1, .int .i64 p1.2.2.2.1, .int .i64 p1.2.2.2.2.1, .int .i64 p1.2.2.2.2.2])] [Au v4 34 AG v5.1, row v6 3 (Rp.int .i64) x1.2.2, mp m_v2 AV AV x1.2.1] w := W
  refine Ae (AO ?_)
  have H := A1 H
  subst H
  refine ED (.inr Aa) F Aa ?_
  have W := W.frontZ (i := 2) Aa Aa
  have W := W.frontZ (i := 2) Aa Aa
  have W := W.frontZ (i := 2) Aa Aa
  have W := W.sub (M' := [(q_p0, [v4, .map (some m_v2), v6])]) (Z' := [Au v4 34 AG v5.1, row v6 3 (Rp.int .i64) x1.2.2, mp m_v2 AV AV x1.2.1]) (List.Sublist.cons_cons _ (List.nil_sublist _)) (List.Sublist.refl _)
  exact ⟨((v4), ⟨v5.1, v5.2⟩, (v6)), Aa, W⟩
 have H := AY (A7 hb) H
 rw [hb] at F
 clear hb
 obtain ⟨o1, G1, K1⟩ := Ak H
 refine A3 (fun a w => ∃ x2 : Bool, some (x2) = some o1 ∧ Fr 26 [] [(0, .pointer (some ⟨q_p0, 0, none⟩)), (3, .pointer (some ⟨b1, 0, none⟩)), (12, .bool x2)] a ∧ Stw ⟨Y, X, w0⟩ [(b1, [.int .i64 p1.1, .int .i64 p1.2.1, .int .i64 p1.2.2.1, .int .i64 p1.2.2.2.1, .int .i64 p1.2.2.2.2.1, .int .i64 p1.2.2.2.2.2]), (q_p0, [v1, .map (some m_v2), v3])] [Au v1 34 AG d_v1.1, row v3 3 (Rp.int .i64) p0.2.2, mp m_v2 AV AV p0.2.1] w) ?_ ?_
 ·
  have H := G1
  clear G1 K1
  refine Aj (Ad ?_)
  refine ls F W Aa (B3 F Aa Aa).q fun a w F W => ?_
  refine ls F W Aa (Ag F Aa).q fun a w F W => ?_
  refine Ae (Ac ?_)
  refine AB F Aa (fun hb => ?_) fun hb => ?_
  ·
   have H := A0 (Ba hb) H
   rw [hb] at F
   clear hb
   refine Ay (Ac ?_)
   have W := W.frontZ (i := 2) Aa Aa
   have W := W.frontZ (i := 2) Aa Aa
   have W := W.frontZ (i := 2) Aa Aa
   have W := W.frontM (i := 1) Aa Aa
   have W := W.frontM (i := 1) Aa Aa
   exact ⟨_, H, F.re ⟨rfl, Aa, Aa, trivial⟩, W⟩
  have H := AY (A7 hb) H
  rw [hb] at F
  clear hb
  refine Aj (Ad ?_)
  refine ls F W Aa (B3 F Aa Aa).q fun a w F W => ?_
  refine ls F W Aa (Ag F Aa).q fun a w F W => ?_
  refine Ae (Ac ?_)
  refine AB F Aa (fun hb => ?_) fun hb => ?_
  ·
   have H := A0 (Ba hb) H
   rw [hb] at F
   clear hb
   refine Ay (Ac ?_)
   have W := W.frontZ (i := 2) Aa Aa
   have W := W.frontZ (i := 2) Aa Aa
   have W := W.frontZ (i := 2) Aa Aa
   have W := W.frontM (i := 1) Aa Aa
   have W := W.frontM (i := 1) Aa Aa
   exact ⟨_, H, F.re ⟨rfl, Aa, Aa, trivial⟩, W⟩
  have H := AY (A7 hb) H
  rw [hb] at F
  clear hb
  refine Ad ?_
  refine ls F W Aa (B3 F Aa Aa).q fun a w F W => ?_
  refine ls F W Aa (Ag F Aa).q fun a w F W => ?_
  refine Ae (Ac ?_)
  have W := W.frontZ (i := 2) Aa Aa
  have W := W.frontZ (i := 2) Aa Aa
  have W := W.frontZ (i := 2) Aa Aa
  have W := W.frontM (i := 1) Aa Aa
  have W := W.frontM (i := 1) Aa Aa
  exact ⟨_, H, F.re ⟨rfl, Aa, Aa, trivial⟩, W⟩
 rintro a w ⟨x2, hj, F, W⟩
 have hj := A1 hj
 subst hj
 have H := K1
 clear G1 K1
 refine AB F Aa (fun hb => ?_) fun hb => ?_
 ·
  have H := A0 hb H
  rw [hb] at F
  clear hb
  refine Aj (Ad ?_)
  refine ls F W Aa (Af F Aa).q fun a w F W => ?_
  refine ls F W Aa (Ab BM Aa Aa Aa T3 F Aa 2 Aa).q fun a w F W => ?_
  refine ls F W Aa (An (v := Value.int .i64 p1.2.2.1) 0 F Aa Aa T3 Aa).q fun a w F W => ?_
  have W := W.frontZ (i := 2) Aa Aa
  have W := W.frontZ (i := 2) Aa Aa
  have W := W.frontZ (i := 2) Aa Aa
  have W := W.frontM (i := 1) Aa Aa
  refine BE (Ml := [(q_p0, [v1, .map (some m_v2), v3])]) (Zl := [Au v1 34 AG d_v1.1, row v3 3 (Rp.int .i64) p0.2.2, mp m_v2 AV AV p0.2.1]) (M := [(b1, [.int .i64 p1.1, .int .i64 p1.2.1, .int .i64 p1.2.2.1, .int .i64 p1.2.2.2.1, .int .i64 p1.2.2.2.2.1, .int .i64 p1.2.2.2.2.2])]) (Z := []) (β := Unit) (rv := fun x => .int .i64 (Ao p0 p1.2.2.1)) (MM := fun x => [(q_p0, [v1, .map (some m_v2), v3])]) (ZZ := fun x => [Au v1 34 AG d_v1.1, row v3 3 (Rp.int .i64) p0.2.2, mp m_v2 AV AV p0.2.1]) F W I7 Aa Aa (fun hL => B2 _ _ w q_p0 (v1) m_v2 (v3) p0 p1.2.2.1 ⟨d_v1.1, d_v1.2⟩ _ Aa hL) fun x a w F W => ?_
  have W : Stw ⟨Y, X, w0⟩ [(q_p0, [v1, .map (some m_v2), v3]), (b1, [.int .i64 p1.1, .int .i64 p1.2.1, .int .i64 p1.2.2.1, .int .i64 p1.2.2.2.1, .int .i64 p1.2.2.2.2.1, .int .i64 p1.2.2.2.2.2])] [Au v1 34 AG d_v1.1, row v3 3 (Rp.int .i64) p0.2.2, mp m_v2 AV AV p0.2.1] w := W
  refine ls F W Aa (Ag F Aa).q fun a w F W => ?_
  refine Ae (Ac (Aj (Ad ?_)))
  refine ls F W Aa (Af F Aa).q fun a w F W => ?_
  refine ls F W Aa (C2 F Aa Aa).q fun a w F W => ?_
  refine Ae (Ac ?_)
  refine AB F Aa (fun hb => ?_) fun hb => ?_
  ·
   have H := A0 (Ba hb) H
   rw [hb] at F
   clear hb
   refine Ad ?_
   iterate 2 refine ls F W Aa (Af F Aa).q fun a w F W => ?_
   refine ls F W Aa (An (v := Value.agg #[.int .i64 p1.1, .int .i64 p1.2.1, .int .i64 p1.2.2.1, .int .i64 p1.2.2.2.1, .int .i64 p1.2.2.2.2.1, .int .i64 p1.2.2.2.2.2]) 1 F Aa Aa Ie Aa).q fun a w F W => ?_
   obtain ⟨x3, h2, H⟩ := Ak H
   have W := W.frontZ (i := 2) Aa Aa
   have W := W.frontZ (i := 2) Aa Aa
   have W := W.frontZ (i := 2) Aa Aa
   refine BE (Ml := [(q_p0, [v1, .map (some m_v2), v3])]) (Zl := [Au v1 34 AG d_v1.1, row v3 3 (Rp.int .i64) p0.2.2, mp m_v2 AV AV p0.2.1]) (M := [(b1, [.int .i64 p1.1, .int .i64 p1.2.1, .int .i64 p1.2.2.1, .int .i64 p1.2.2.2.1, .int .i64 p1.2.2.2.2.1, .int .i64 p1.2.2.2.2.2])]) (Z := []) (β := Value × ({x : List (Int × Int × Int × Int × (Value × Nat × List Int) × Int × Int × Int) // x.map A8 = x3.1}) × Value) (rv := fun x => .tuple #[]) (MM := fun x => [(q_p0, [x.1, .map (some m_v2), x.2.2])]) (ZZ := fun x => [Au x.1 34 AG x.2.1.1, row x.2.2 3 (Rp.int .i64) x3.2.2, mp m_v2 AV AV x3.2.1]) F W Jq Aa Aa (fun hL => Dw _ _ w q_p0 (v1) m_v2 (v3) p0 (Ao p0 p1.2.2.1) p1 ⟨d_v1.1, d_v1.2⟩ _ h2 hL) fun x a w F W => ?_
   obtain ⟨v7, v8, v9⟩ := x
   have W : Stw ⟨Y, X, w0⟩ [(q_p0, [v7, .map (some m_v2), v9]), (b1, [.int .i64 p1.1, .int .i64 p1.2.1, .int .i64 p1.2.2.1, .int .i64 p1.2.2.2.1, .int .i64 p1.2.2.2.2.1, .int .i64 p1.2.2.2.2.2])] [Au v7 34 AG v8.1, row v9 3 (Rp.int .i64) x3.2.2, mp m_v2 AV AV x3.2.1] w := W
   refine Ae (AO ?_)
   have H := A1 H
   subst H
   refine ED (.inr Aa) F Aa ?_
   have W := W.frontZ (i := 2) Aa Aa
   have W := W.frontZ (i := 2) Aa Aa
   have W := W.frontZ (i := 2) Aa Aa
   have W := W.sub (M' := [(q_p0, [v7, .map (some m_v2), v9])]) (Z' := [Au v7 34 AG v8.1, row v9 3 (Rp.int .i64) x3.2.2, mp m_v2 AV AV x3.2.1]) (List.Sublist.cons_cons _ (List.nil_sublist _)) (List.Sublist.refl _)
   exact ⟨((v7), ⟨v8.1, v8.2⟩, (v9)), Aa, W⟩
  have H := AY (A7 hb) H
  rw [hb] at F
  clear hb
  refine Ay (AO ?_)
  have H := A1 H
  subst H
  refine ED (.inr Aa) F Aa ?_
  have W := W.frontZ (i := 2) Aa Aa
  have W := W.frontZ (i := 2) Aa Aa
  have W := W.frontZ (i := 2) Aa Aa
  have W := W.sub (M' := [(q_p0, [v1, .map (some m_v2), v3])]) (Z' := [Au v1 34 AG d_v1.1, row v3 3 (Rp.int .i64) p0.2.2, mp m_v2 AV AV p0.2.1]) (List.Sublist.cons_cons _ (List.nil_sublist _)) (List.Sublist.refl _)
  exact ⟨((v1), ⟨d_v1.1, d_v1.2⟩, (v3)), Aa, W⟩
 have H := AY (by rw [hb]; decide) H
 rw [hb] at F
 clear hb
 refine Ay (AO ?_)
 have H := A1 H
 subst H
 refine ED (.inr Aa) F Aa ?_
 have W := W.frontZ (i := 2) Aa Aa
 have W := W.frontZ (i := 2) Aa Aa
 have W := W.frontZ (i := 2) Aa Aa
 have W := W.frontM (i := 1) Aa Aa
 have W := W.sub (M' := [(q_p0, [v1, .map (some m_v2), v3])]) (Z' := [Au v1 34 AG d_v1.1, row v3 3 (Rp.int .i64) p0.2.2, mp m_v2 AV AV p0.2.1]) (List.Sublist.cons_cons _ (List.nil_sublist _)) (List.Sublist.refl _)
 exact ⟨((v1), ⟨d_v1.1, d_v1.2⟩, (v3)), Aa, W⟩
theorem Jf : Has Tryd.prog 15 := ⟨fun args w => Ap Tryd.func15 rfl (by decide) args w⟩
noncomputable def BP (p0 : List (Int × Int × Int × Int × Int × Int)) : (Int × (List (Int × Int × Int × Int × (Nat × List Int) × Int × Int × Int)) × List Int × (List (Int × Int))) → Option ((Int × (List (Int × Int × Int × Int × (Nat × List Int) × Int × Int × Int)) × List Int × (List (Int × Int))) ⊕ ((List (Int × Int × Int × Int × (Nat × List Int) × Int × Int × Int)) × List Int × (List (Int × Int))))
  | (x4, x5, x6, x7) => (if x4 < (p0.length : Int) then (ix p0 x4).bind fun x8 => (Bq (x5, x7, x6) x8).bind fun x9 => some (.inl (CV (x4 + 1), x9.1, x9.2.2, x9.2.1)) else some (.inr (x5, x6, x7)))
noncomputable def CW (p0 : List (Int × Int × Int × Int × Int × Int)) : Option (List (Int × Int × Int × Int × List Int × Int × Int × Int)) := (AP (BP p0) (0, [], [], ([] : List (Int × Int)))).bind fun (x1, x2, x3) => (CT HA x1).bind fun x10 => some x10
theorem EM (Y : Nat → Prop) (w0 : World) (v1 : Value) (p0 : List (Int × Int × Int × Int × Int × Int)) (r : (List (Int × Int × Int × Int × List Int × Int × Int × Int))) (H : CW p0 = some r) (h_v1 : Sl w0 (NX []) Gn v1 p0) :
    Calls Tryd.prog 6 #[v1] w0 fun e w' => ∃ x : Value, e = .returned (x) ∧ Stw ⟨Y, [], w0⟩ [] [row (x) 34 Ed r] w' := by
 refine enter Tryd.func6 Aa Tryd.ntmps6 Aa fun a F => ?_
 have W := Stw.start Y w0
 unfold CW at H
 refine Aj (Ad ?_)
 refine ls F W Aa (Ag F Aa).q fun a w F W => ?_
 refine Ae (Ac (Aj (Ad ?_)))
 refine E7 AV AV F W Aa fun b1 a w F W => ?_
 have W : Stw ⟨Y, [], w0⟩ [] [mp b1 AV AV ([] : List (Int × Int))] w := W
 refine ls F W Aa (Cw (v := Value.agg #[.slice none 0 0, .map (some b1), .slice none 0 0]) Jt F Aa Aa Aa).q fun a w F W => ?_
 refine CJ (cs := [.slice none 0 0, .map none, .slice none 0 0]) F W Aa Jl Aa fun b2 a w F W => ?_
 refine Cy (vs := [.slice none 0 0, .map (some b1), .slice none 0 0]) (M' := [(b2, [.slice none 0 0, .map (some b1), .slice none 0 0])]) 0 F W Aa Aa Aa Ju Aa Aa Aa Aa Aa fun w W => ?_
 refine Ae (Ac ?_)
 obtain ⟨o1, G1, K1⟩ := Ak H
 refine A3 (fun a w => ∃ x1 : List (Int × Int × Int × Int × (Nat × List Int) × Int × Int × Int), ∃ x2 : List Int, ∃ x3 : List (Int × Int), ∃ v2 : Value, ∃ g_x1 : {x : List (Int × Int × Int × Int × (Value × Nat × List Int) × Int × Int × Int) // x.map A8 = x1}, ∃ v3 : Value, some ((x1, x2, x3)) = some o1 ∧ Fr 19 [] [(2, .slice none 0 0), (3, .pointer (some ⟨b2, 0, none⟩))] a ∧ Stw ⟨Y, [], w0⟩ [(b2, [v2, .map (some b1), v3])] [Au v2 34 AG g_x1.1, row v3 3 (Rp.int .i64) x2, mp b1 AV AV x3] w) ?_ ?_
 ·
  have H := G1
  clear G1 K1
  refine Aj (Ad ?_)
  refine ls F W Aa (Af F Aa).q fun a w F W => ?_
  refine ls F W Aa (BT (r := Gn) (l := p0) HL Aa F Aa (Ax h_v1)).q fun a w F W => ?_
  refine ls F W Aa (Af F Aa).q fun a w F W => ?_
  refine Ae (Ac (AD ?_))
  have W := W.dNil 34 AG
  have h1 : List.map A8 ([] : List (Int × Int × Int × Int × (Value × Nat × List Int) × Int × Int × Int)) = ([] : List (Int × Int × Int × Int × (Nat × List Int) × Int × Int × Int)) := Aa
  have W := W.nilRow 3 (Rp.int .i64)
  have W := W.frontZ (i := 2) Aa Aa
  have W := W.frontZ (i := 1) Aa Aa
  have W := W.frontZ (i := 2) Aa Aa
  refine BN H (fun s a w => ∃ v4 : Value, ∃ g_x5 : {x : List (Int × Int × Int × Int × (Value × Nat × List Int) × Int × Int × Int) // x.map A8 = s.2.1}, ∃ v5 : Value, Fr 19 [] [(2, .slice none 0 0), (3, .pointer (some ⟨b2, 0, none⟩)), (8, v1), (9, .int .i64 (p0.length : Int)), (10, .int .i64 s.1)] a ∧ Stw ⟨Y, [], w0⟩ [(b2, [v4, .map (some b1), v5])] [Au v4 34 AG g_x5.1, row v5 3 (Rp.int .i64) s.2.2.1, mp b1 AV AV s.2.2.2] w) ⟨(Value.slice none 0 0), ⟨([] : List (Int × Int × Int × Int × (Value × Nat × List Int) × Int × Int × Int)), h1⟩, (Value.slice none 0 0), F.re ⟨rfl, Aa, Aa, Aa, Aa, trivial⟩, W⟩ fun s o a w H L2 hR => ?_
  obtain ⟨x4, x5, x6, x7⟩ := s
  obtain ⟨v4, g_x5, v5, F, W⟩ := hR
  have F : Fr 19 [] [(2, .slice none 0 0), (3, .pointer (some ⟨b2, 0, none⟩)), (8, v1), (9, .int .i64 (p0.length : Int)), (10, .int .i64 x4)] a := F
  have W : Stw ⟨Y, [], w0⟩ [(b2, [v4, .map (some b1), v5])] [Au v4 34 AG g_x5.1, row v5 3 (Rp.int .i64) x6, mp b1 AV AV x7] w := W
  rw [BP] at H
  refine Aj (Ad ?_)
  refine ls F W Aa (Cn F Aa Aa).q fun a w F W => ?_
  refine Ae (Ac (Aj ?_))
  refine AB F Aa (fun hb => ?_) fun hb => ?_
  ·
   have H := A0 (Ba hb) H
   rw [hb] at F
   clear hb
   refine Ay (Ac (Aj (AD (Aj (Ad ?_)))))
   obtain ⟨x8, h2, H⟩ := Ak H
   refine ls F W Aa (AE (r := Gn) I1 F Aa Aa (Ax h_v1) h2).q fun a w F W => ?_
   refine ls F W Aa (Az (y := Value.agg #[.int .i64 x8.1, .int .i64 x8.2.1, .int .i64 x8.2.2.1, .int .i64 x8.2.2.2.1, .int .i64 x8.2.2.2.2.1, .int .i64 x8.2.2.2.2.2]) (j := 0) (i := x4) F Aa Aa (Ax h_v1) h2 IU.to Ie Aa).q fun a w F W => ?_
   refine CJ (cs := [.int .i64 0, .int .i64 0, .int .i64 0, .int .i64 0, .int .i64 0, .int .i64 0]) F W Aa IY Aa fun b3 a w F W => ?_
   refine Cy (vs := [.int .i64 x8.1, .int .i64 x8.2.1, .int .i64 x8.2.2.1, .int .i64 x8.2.2.2.1, .int .i64 x8.2.2.2.2.1, .int .i64 x8.2.2.2.2.2]) (M' := [(b3, [.int .i64 x8.1, .int .i64 x8.2.1, .int .i64 x8.2.2.1, .int .i64 x8.2.2.2.1, .int .i64 x8.2.2.2.2.1, .int .i64 x8.2.2.2.2.2]), (b2, [v4, .map (some b1), v5])]) 0 F W Aa Aa Aa Ie Aa Aa Aa Aa Aa fun w W => ?_
   refine Ae (Ac (Ad ?_))
   refine ls F W Aa (An (v := Value.agg #[.int .i64 x8.1, .int .i64 x8.2.1, .int .i64 x8.2.2.1, .int .i64 x8.2.2.2.1, .int .i64 x8.2.2.2.2.1, .int .i64 x8.2.2.2.2.2]) 0 F Aa Aa Ie Aa).q fun a w F W => ?_
   obtain ⟨x9, h3, H⟩ := Ak H
   have W := W.frontZ (i := 2) Aa Aa
   have W := W.frontZ (i := 2) Aa Aa
   have W := W.frontZ (i := 2) Aa Aa
   have W := W.frontM (i := 1) Aa Aa
   refine BE (Ml := [(b2, [v4, .map (some b1), v5])]) (Zl := [Au v4 34 AG g_x5.1, row v5 3 (Rp.int .i64) x6, mp b1 AV AV x7]) (M := [(b3, [.int .i64 x8.1, .int .i64 x8.2.1, .int .i64 x8.2.2.1, .int .i64 x8.2.2.2.1, .int .i64 x8.2.2.2.2.1, .int .i64 x8.2.2.2.2.2])]) (Z := []) (β := Value × ({x : List (Int × Int × Int × Int × (Value × Nat × List Int) × Int × Int × Int) // x.map A8 = x9.1}) × Value) (rv := fun x => .tuple #[]) (MM := fun x => [(b2, [x.1, .map (some b1), x.2.2])]) (ZZ := fun x => [Au x.1 34 AG x.2.1.1, row x.2.2 3 (Rp.int .i64) x9.2.2, mp b1 AV AV x9.2.1]) F W Jf Aa Aa (fun hL => DI _ _ w b2 (v4) b1 (v5) (x5, x7, x6) x8 ⟨g_x5.1, g_x5.2⟩ _ h3 hL) fun x a w F W => ?_
   obtain ⟨v6, v7, v8⟩ := x
   have W : Stw ⟨Y, [], w0⟩ [(b2, [v6, .map (some b1), v8]), (b3, [.int .i64 x8.1, .int .i64 x8.2.1, .int .i64 x8.2.2.1, .int .i64 x8.2.2.2.1, .int .i64 x8.2.2.2.2.1, .int .i64 x8.2.2.2.2.2])] [Au v6 34 AG v7.1, row v8 3 (Rp.int .i64) x9.2.2, mp b1 AV AV x9.2.1] w := W
   refine Ae (AO (Ac (Ad ?_)))
   refine ls F W Aa (CK F Aa Aa Aa).q fun a w F W => ?_
   refine ls F W Aa (Af F Aa).q fun a w F W => ?_
   refine Ae (Ac ?_)
   have W := W.frontZ (i := 2) Aa Aa
   have W := W.frontZ (i := 2) Aa Aa
   have W := W.frontZ (i := 2) Aa Aa
   have W := W.sub (M' := [(b2, [v6, .map (some b1), v8])]) (Z' := [Au v6 34 AG v7.1, row v8 3 (Rp.int .i64) x9.2.2, mp b1 AV AV x9.2.1]) (List.Sublist.cons_cons _ (List.nil_sublist _)) (List.Sublist.refl _)
   exact ⟨_, H, (v6), ⟨v7.1, v7.2⟩, (v8), F.re ⟨rfl, Aa, Aa, Aa, Aa, trivial⟩, W⟩
  have H := AY (A7 hb) H
  rw [hb] at F
  clear hb
  refine BC ?_
  iterate 2 refine Cd ?_
  refine BA (Ac ?_)
  have W := W.frontZ (i := 2) Aa Aa
  have W := W.frontZ (i := 2) Aa Aa
  have W := W.frontZ (i := 2) Aa Aa
  have H := L2 _ H
  exact ⟨_, _, _, (v4), ⟨g_x5.1, g_x5.2⟩, (v5), H, F.re ⟨rfl, Aa, trivial⟩, W⟩
 rintro a w ⟨x1, x2, x3, v2, g_x1, v3, hj, F, W⟩
 have hj := A1 hj
 subst hj
 have H := K1
 clear G1 K1
 refine Aj (Ad ?_)
 refine ls F W Aa (Ab Ea Aa Aa Aa HD F Aa 0 Aa).q fun a w F W => ?_
 refine ls F W Aa (An (v := v2) 0 F Aa Aa HD Aa).q fun a w F W => ?_
 refine ls F W Aa (Ag F Aa).q fun a w F W => ?_
 refine Ae (Ac (AJ ?_))
 obtain ⟨x10, h4, H⟩ := Ak H
 have H := A1 H
 subst H
 refine A9 (.inl Aa) F W Aa (AM F Aa) ?_
 have W := Stw.ddRest IR g_x1.2 h4 W
 have W := W.sub (M' := []) (Z' := [row v2 34 Ed x10]) (List.nil_sublist _) (List.Sublist.cons_cons _ (List.nil_sublist _))
 exact ⟨(v2), Aa, W⟩
theorem H6 : Has Tryd.prog 6 := ⟨fun args w => Ap Tryd.func6 rfl (by decide) args w⟩
abbrev Fg : Rp (Int × Int × Int × Int × (Value × List Int) × Int × Int × Int) := (Rp.pair (Rp.int .i64) (Rp.pair (Rp.int .i64) (Rp.pair (Rp.int .i64) (Rp.pair (Rp.int .i64) (Rp.pair (Rp.vsl (Rp.int .i64)) (Rp.pair (Rp.int .i64) (Rp.pair (Rp.int .i64) (Rp.int .i64))))))))
abbrev IZ (p : Int × Int × Int × Int × (Value × List Int) × Int × Int × Int) : Int × Int × Int × Int × List Int × Int × Int × Int := (p.1, p.2.1, p.2.2.1, p.2.2.2.1, p.2.2.2.2.1.2, p.2.2.2.2.2.1, p.2.2.2.2.2.2.1, p.2.2.2.2.2.2.2)
theorem Er : Ex Ed Fg IZ := (Ex.pair Ex.rfl' (Ex.pair Ex.rfl' (Ex.pair Ex.rfl' (Ex.pair Ex.rfl' (Ex.pair Ex.sliceF (Ex.pair Ex.rfl' (Ex.pair Ex.rfl' Ex.rfl')))))))
abbrev DD (a : Int × Int × Int × Int × (Value × List Int) × Int × Int × Int) : List Value := [.int .i64 a.1, .int .i64 a.2.1, .int .i64 a.2.2.1, .int .i64 a.2.2.2.1, a.2.2.2.2.1.1, .int .i64 a.2.2.2.2.2.1, .int .i64 a.2.2.2.2.2.2.1, .int .i64 a.2.2.2.2.2.2.2]
theorem Gc : Cb Fg DD := (Cb.pair Fl.int.to (Cb.pair Fl.int.to (Cb.pair Fl.int.to (Cb.pair Fl.int.to (Cb.pair Cb.vsl (Cb.pair Fl.int.to (Cb.pair Fl.int.to Fl.int.to)))))))
theorem HF : Ty Tryd.prog 34 true 8 := ⟨by kernel_rfl, by kernel_rfl⟩
theorem Id : Has Tryd.prog 18 := ⟨fun args w => Ap Tryd.func18 rfl (by decide) args w⟩
theorem I4 : Has Tryd.prog 17 := ⟨fun args w => Ap Tryd.func17 rfl (by decide) args w⟩
noncomputable def BI (p0 : Int × Int × Int × Int × List Int × Int × Int × Int) : Option (List UInt8) := (if p0.2.2.2.2.2.1 = 3 then (Dk p0.2.2.2.2.2.2.1).bind fun x1 => (BV ([32, 103, 111, 110, 101, 32] : List UInt8) x1).bind fun x2 => (BV x2 ([32, 97, 116, 32] : List UInt8)).bind fun x3 => (Dk p0.2.2.2.2.2.2.2).bind fun x4 => (BV x3 x4).bind fun x5 => some x5 else (if p0.2.2.2.2.2.1 = 4 then (Dk p0.2.2.2.2.2.2.2).bind fun x6 => (BV ([32, 100, 114, 111, 112, 112, 101, 100, 32, 97, 116, 32] : List UInt8) x6).bind fun x7 => some x7 else some ([32, 111, 110, 32, 105, 116, 115, 32, 119, 97, 121] : List UInt8)))
theorem Ec (Y : Nat → Prop) (w0 : World) (v1 : Value) (p0 : Int × Int × Int × Int × List Int × Int × Int × Int) (r : List UInt8) (H : BI p0 = some r) (h_v1 : Sl w0 (NX []) (Rp.int .i64) v1 p0.2.2.2.2.1) (hG : Gk [] w0) :
    Calls Tryd.prog 19 #[.agg #[.int .i64 p0.1, .int .i64 p0.2.1, .int .i64 p0.2.2.1, .int .i64 p0.2.2.2.1, v1, .int .i64 p0.2.2.2.2.2.1, .int .i64 p0.2.2.2.2.2.2.1, .int .i64 p0.2.2.2.2.2.2.2]] w0 fun e w' => e = .returned (.string (bs r)) ∧ Below w0.heap.size w0 w' := by
 refine enter Tryd.func19 Aa Tryd.ntmps19 Aa fun a F => ?_
 have W := Stw.start Y w0
 unfold BI at H
 refine Aj (Ad ?_)
 refine D9 (cs := [.int .i64 p0.1, .int .i64 p0.2.1, .int .i64 p0.2.2.1, .int .i64 p0.2.2.2.1, v1, .int .i64 p0.2.2.2.2.2.1, .int .i64 p0.2.2.2.2.2.2.1, .int .i64 p0.2.2.2.2.2.2.2]) F W Aa Aa Aa fun b1 a w F W => ?_
 refine ls F W Aa (Ag (v := Value.string (bs ([] : List UInt8))) F Aa).q fun a w F W => ?_
 refine Ae (Ac (Aj (Aj (Ad ?_))))
 refine ls F W Aa (Ab Ck Aa Aa Aa T3 F Aa 5 Aa).q fun a w F W => ?_
 refine ls F W Aa (An (v := Value.int .i64 p0.2.2.2.2.2.1) 0 F Aa Aa T3 Aa).q fun a w F W => ?_
 refine Ae (Ac (AD (Aj (Ad ?_))))
 refine ls F W Aa (B3 F Aa Aa).q fun a w F W => ?_
 refine ls F W Aa (Ag F Aa).q fun a w F W => ?_
 refine Ae (Ac ?_)
 refine AB F Aa (fun hb => ?_) fun hb => ?_
 ·
  have H := A0 (Ba hb) H
  rw [hb] at F
  clear hb
  refine Aj ?_
  refine BQ W MO (by kernel_rfl) ?_
  refine qs F Aa (Ab Ck Aa Aa Aa T3 F Aa 6 Aa).q fun a F => ?_
  refine qs F Aa (An (v := Value.int .i64 p0.2.2.2.2.2.2.1) 0 F Aa Aa T3 Aa).q fun a F => ?_
  obtain ⟨x1, h1, H⟩ := Ak H
  refine qs F Aa (AF (v := Value.string (bs x1)) F Id Aa (fun w W => Dn any w p0.2.2.2.2.2.2.1 _ h1 (hG.go0 W))) fun a F => ?_
  obtain ⟨x2, h2, H⟩ := Ak H
  refine qs F Aa (AK (l := ([32, 103, 111, 110, 101, 32] : List UInt8)) (m := x1) F Aa Aa h2).q fun a F => ?_
  obtain ⟨x3, h3, H⟩ := Ak H
  refine qs F Aa (AK (l := x2) (m := ([32, 97, 116, 32] : List UInt8)) F Aa Aa h3).q fun a F => ?_
  refine qs F Aa (Ab Ck Aa Aa Aa T3 F Aa 7 Aa).q fun a F => ?_
  refine qs F Aa (An (v := Value.int .i64 p0.2.2.2.2.2.2.2) 0 F Aa Aa T3 Aa).q fun a F => ?_
  obtain ⟨x4, h4, H⟩ := Ak H
  refine qs F Aa (AF (v := Value.string (bs x4)) F Id Aa (fun w W => Dn any w p0.2.2.2.2.2.2.2 _ h4 (hG.go0 W))) fun a F => ?_
  obtain ⟨x5, h5, H⟩ := Ak H
  refine qs F Aa (AK (l := x3) (m := x4) F Aa Aa h5).q fun a F => ?_
  refine qs F Aa (Ag F Aa).q fun a F => ?_
  refine A2 fun w W => ?_
  refine Ac (AJ (B1 (Bc ?_)))
  have H := A1 H
  subst H
  refine A9 (.inl Aa) F W Aa (AM F Aa) ?_
  exact ⟨rfl, W.done⟩
 have H := AY (A7 hb) H
 rw [hb] at F
 clear hb
 refine Aj (Ad ?_)
 refine ls F W Aa (B3 F Aa Aa).q fun a w F W => ?_
 refine ls F W Aa (Ag F Aa).q fun a w F W => ?_
 refine Ae (Ac ?_)
 refine AB F Aa (fun hb => ?_) fun hb => ?_
 ·
  have H := A0 (Ba hb) H
  rw [hb] at F
  clear hb
  refine Aj (Ad ?_)
  refine ls F W Aa (Ab Ck Aa Aa Aa T3 F Aa 7 Aa).q fun a w F W => ?_
  refine ls F W Aa (An (v := Value.int .i64 p0.2.2.2.2.2.2.2) 0 F Aa Aa T3 Aa).q fun a w F W => ?_
  obtain ⟨x6, h6, H⟩ := Ak H
  refine ls F W Aa (AF (v := Value.string (bs x6)) F Id Aa (fun w W => Dn any w p0.2.2.2.2.2.2.2 _ h6 (hG.go0 W))) fun a w F W => ?_
  obtain ⟨x7, h7, H⟩ := Ak H
  refine ls F W Aa (AK (l := ([32, 100, 114, 111, 112, 112, 101, 100, 32, 97, 116, 32] : List UInt8)) (m := x6) F Aa Aa h7).q fun a w F W => ?_
  refine ls F W Aa (Ag F Aa).q fun a w F W => ?_
  refine Ae (Ac (AJ (B1 (Bc ?_))))
  have H := A1 H
  subst H
  refine A9 (.inl Aa) F W Aa (AM F Aa) ?_
  exact ⟨rfl, W.done⟩
 have H := AY (A7 hb) H
 rw [hb] at F
 clear hb
 refine Ay (AO (Ac (Aj (Ad ?_))))
 refine ls F W Aa (Ag (v := Value.string (bs ([32, 111, 110, 32, 105, 116, 115, 32, 119, 97, 121] : List UInt8))) F Aa).q fun a w F W => ?_
 refine Ae (Ac (AJ ?_))
 have H := A1 H
 subst H
 refine A9 (.inl Aa) F W Aa (AM F Aa) ?_
 exact ⟨rfl, W.done⟩
theorem Jk : Has Tryd.prog 19 := ⟨fun args w => Ap Tryd.func19 rfl (by decide) args w⟩
theorem Jw : Has Tryd.prog 20 := ⟨fun args w => Ap Tryd.func20 rfl (by decide) args w⟩
noncomputable def Bk (p0 : Int × Int × Int × Int × List Int × Int × Int × Int) : (Int × List UInt8) → Option ((Int × List UInt8) ⊕ (List UInt8))
  | (x14, x15) => (if x14 < (p0.2.2.2.2.1.length : Int) then (ix p0.2.2.2.2.1 x14).bind fun x16 => (Dk x16).bind fun x17 => (BV ([32] : List UInt8) x17).bind fun x18 => (BV x15 x18).bind fun x19 => some (.inl (CV (x14 + 1), x19)) else some (.inr x15))
noncomputable def Ca (p0 : Int × Int × Int × Int × List Int × Int × Int × Int) : Option (List UInt8) := (Dk p0.1).bind fun x1 => (BV x1 ([58, 32] : List UInt8)).bind fun x2 => (Dk p0.2.1).bind fun x3 => (BV x2 x3).bind fun x4 => (BV x4 ([62] : List UInt8)).bind fun x5 => (Dk p0.2.2.1).bind fun x6 => (BV x5 x6).bind fun x7 => (BV x7 ([32, 97, 116, 32] : List UInt8)).bind fun x8 => (Dk p0.2.2.2.1).bind fun x9 => (BV x8 x9).bind fun x10 => (BV x10 ([58] : List UInt8)).bind fun x11 => (BV ([] : List UInt8) x11).bind fun x12 => (AP (Bk p0) (0, x12)).bind fun x13 => (BI p0).bind fun x20 => (BV x13 x20).bind fun x21 => (Hr x21).bind fun x22 => some x22
theorem DQ (Y : Nat → Prop) (w0 : World) (v1 : Value) (p0 : Int × Int × Int × Int × List Int × Int × Int × Int) (r : List UInt8) (H : Ca p0 = some r) (h_v1 : Sl w0 (NX []) (Rp.int .i64) v1 p0.2.2.2.2.1) (hG : Gk [] w0) :
    Calls Tryd.prog 13 #[.agg #[.int .i64 p0.1, .int .i64 p0.2.1, .int .i64 p0.2.2.1, .int .i64 p0.2.2.2.1, v1, .int .i64 p0.2.2.2.2.2.1, .int .i64 p0.2.2.2.2.2.2.1, .int .i64 p0.2.2.2.2.2.2.2]] w0 fun e w' => e = .returned (.string (bs r)) ∧ Below w0.heap.size w0 w' := by
 refine enter Tryd.func13 Aa Tryd.ntmps13 Aa fun a F => ?_
 have W := Stw.start Y w0
 unfold Ca at H
 refine Aj (Ad ?_)
 refine D9 (cs := [.int .i64 p0.1, .int .i64 p0.2.1, .int .i64 p0.2.2.1, .int .i64 p0.2.2.2.1, v1, .int .i64 p0.2.2.2.2.2.1, .int .i64 p0.2.2.2.2.2.2.1, .int .i64 p0.2.2.2.2.2.2.2]) F W Aa Aa Aa fun b1 a w F W => ?_
 refine ls F W Aa (Ag (v := Value.string (bs ([] : List UInt8))) F Aa).q fun a w F W => ?_
 refine Ae (Ac (Aj (Ad ?_)))
 refine Hq F W Aa fun b2 a w F W => ?_
 have W : Stw ⟨Y, [], w0⟩ [(b1, [.int .i64 p0.1, .int .i64 p0.2.1, .int .i64 p0.2.2.1, .int .i64 p0.2.2.2.1, v1, .int .i64 p0.2.2.2.2.2.1, .int .i64 p0.2.2.2.2.2.2.1, .int .i64 p0.2.2.2.2.2.2.2])] [Cr 53 5 b2 (Value.slice none 0 0) ([] : List UInt8)] w := W
 refine Ae (Ac (Aj ?_))
 refine Eo 19 W MO (by kernel_rfl) ?_
 refine qs F Aa (Ab Ck Aa Aa Aa T3 F Aa 0 Aa).q fun a F => ?_
 refine qs F Aa (An (v := Value.int .i64 p0.1) 0 F Aa Aa T3 Aa).q fun a F => ?_
 obtain ⟨x1, h1, H⟩ := Ak H
 refine qs F Aa (AF (v := Value.string (bs x1)) F Id Aa (fun w W => Dn any w p0.1 _ h1 (hG.go0 W))) fun a F => ?_
 obtain ⟨x2, h2, H⟩ := Ak H
 refine qs F Aa (AK (l := x1) (m := ([58, 32] : List UInt8)) F Aa Aa h2).q fun a F => ?_
 refine qs F Aa (Ab Ck Aa Aa Aa T3 F Aa 1 Aa).q fun a F => ?_
 refine qs F Aa (An (v := Value.int .i64 p0.2.1) 0 F Aa Aa T3 Aa).q fun a F => ?_
 obtain ⟨x3, h3, H⟩ := Ak H
 refine qs F Aa (AF (v := Value.string (bs x3)) F Id Aa (fun w W => Dn any w p0.2.1 _ h3 (hG.go0 W))) fun a F => ?_
 obtain ⟨x4, h4, H⟩ := Ak H
 refine qs F Aa (AK (l := x2) (m := x3) F Aa Aa h4).q fun a F => ?_
 obtain ⟨x5, h5, H⟩ := Ak H
 refine qs F Aa (AK (l := x4) (m := ([62] : List UInt8)) F Aa Aa h5).q fun a F => ?_
 refine qs F Aa (Ab Ck Aa Aa Aa T3 F Aa 2 Aa).q fun a F => ?_
 refine qs F Aa (An (v := Value.int .i64 p0.2.2.1) 0 F Aa Aa T3 Aa).q fun a F => ?_
 obtain ⟨x6, h6, H⟩ := Ak H
 refine qs F Aa (AF (v := Value.string (bs x6)) F Id Aa (fun w W => Dn any w p0.2.2.1 _ h6 (hG.go0 W))) fun a F => ?_
 obtain ⟨x7, h7, H⟩ := Ak H
 refine qs F Aa (AK (l := x5) (m := x6) F Aa Aa h7).q fun a F => ?_
 obtain ⟨x8, h8, H⟩ := Ak H
 refine qs F Aa (AK (l := x7) (m := ([32, 97, 116, 32] : List UInt8)) F Aa Aa h8).q fun a F => ?_
 refine qs F Aa (Ab Ck Aa Aa Aa T3 F Aa 3 Aa).q fun a F => ?_
 refine qs F Aa (An (v := Value.int .i64 p0.2.2.2.1) 0 F Aa Aa T3 Aa).q fun a F => ?_
 obtain ⟨x9, h9, H⟩ := Ak H
 refine qs F Aa (AF (v := Value.string (bs x9)) F Id Aa (fun w W => Dn any w p0.2.2.2.1 _ h9 (hG.go0 W))) fun a F => ?_
 obtain ⟨x10, h10, H⟩ := Ak H
 refine qs F Aa (AK (l := x8) (m := x9) F Aa Aa h10).q fun a F => ?_
 obtain ⟨x11, h11, H⟩ := Ak H
 refine qs F Aa (AK (l := x10) (m := ([58] : List UInt8)) F Aa Aa h11).q fun a F => ?_
 refine A2 fun w W => ?_
 obtain ⟨x12, h12, H⟩ := Ak H
 refine BE (Ml := []) (Zl := [Cr 53 5 b2 (Value.slice none 0 0) ([] : List UInt8)]) (M := [(b1, [.int .i64 p0.1, .int .i64 p0.2.1, .int .i64 p0.2.2.1, .int .i64 p0.2.2.2.1, v1, .int .i64 p0.2.2.2.2.2.1, .int .i64 p0.2.2.2.2.2.2.1, .int .i64 p0.2.2.2.2.2.2.2])]) (Z := []) (β := Value) (rv := fun x => .tuple #[.int .i64 (x11.length : Int), .nilIface]) (MM := fun x => []) (ZZ := fun x => [Cr 53 5 b2 x x12]) F W I4 Aa Aa (fun hL => Io _ _ w b2 (Value.slice none 0 0) ([] : List UInt8) x11 _ h12 hL) fun v2 a w F W => ?_
 have W : Stw ⟨Y, [], w0⟩ [(b1, [.int .i64 p0.1, .int .i64 p0.2.1, .int .i64 p0.2.2.1, .int .i64 p0.2.2.2.1, v1, .int .i64 p0.2.2.2.2.2.1, .int .i64 p0.2.2.2.2.2.2.1, .int .i64 p0.2.2.2.2.2.2.2])] [Cr 53 5 b2 v2 x12] w := W
 refine Ae (Ac ?_)
 obtain ⟨o1, G1, K1⟩ := Ak H
 refine A3 (fun a w => ∃ x13 : List UInt8, ∃ v3 : Value, some (x13) = some o1 ∧ Fr 42 [] [(1, .pointer (some ⟨b1, 0, none⟩)), (2, .string (bs ([] : List UInt8))), (3, .pointer (some ⟨b2, 0, none⟩))] a ∧ Stw ⟨Y, [], w0⟩ [(b1, [.int .i64 p0.1, .int .i64 p0.2.1, .int .i64 p0.2.2.1, .int .i64 p0.2.2.2.1, v1, .int .i64 p0.2.2.2.2.2.1, .int .i64 p0.2.2.2.2.2.2.1, .int .i64 p0.2.2.2.2.2.2.2])] [Cr 53 5 b2 v3 x13] w) ?_ ?_
 ·
  have H := G1
  clear G1 K1
  refine Aj (Ad ?_)
  refine ls F W Aa (Ab Ck Aa Aa Aa C4 F Aa 4 Aa).q fun a w F W => ?_
  refine ls F W Aa (An (v := v1) 0 F Aa Aa C4 Aa).q fun a w F W => ?_
  refine ls F W Aa (BT (r := (Rp.int .i64)) (l := p0.2.2.2.2.1) Eu Aa F Aa (Ax h_v1)).q fun a w F W => ?_
  refine ls F W Aa (Af F Aa).q fun a w F W => ?_
  refine Ae (Ac (AD ?_))
  refine BN H (fun s a w => ∃ v4 : Value, Fr 42 [] [(1, .pointer (some ⟨b1, 0, none⟩)), (2, .string (bs ([] : List UInt8))), (3, .pointer (some ⟨b2, 0, none⟩)), (27, v1), (28, .int .i64 (p0.2.2.2.2.1.length : Int)), (29, .int .i64 s.1)] a ∧ Stw ⟨Y, [], w0⟩ [(b1, [.int .i64 p0.1, .int .i64 p0.2.1, .int .i64 p0.2.2.1, .int .i64 p0.2.2.2.1, v1, .int .i64 p0.2.2.2.2.2.1, .int .i64 p0.2.2.2.2.2.2.1, .int .i64 p0.2.2.2.2.2.2.2])] [Cr 53 5 b2 v4 s.2] w) ⟨v2, F.re ⟨rfl, Aa, Aa, Aa, Aa, Aa, trivial⟩, W⟩ fun s o a w H L2 hR => ?_
  obtain ⟨x14, x15⟩ := s
  obtain ⟨v4, F, W⟩ := hR
  have F : Fr 42 [] [(1, .pointer (some ⟨b1, 0, none⟩)), (2, .string (bs ([] : List UInt8))), (3, .pointer (some ⟨b2, 0, none⟩)), (27, v1), (28, .int .i64 (p0.2.2.2.2.1.length : Int)), (29, .int .i64 x14)] a := F
  have W : Stw ⟨Y, [], w0⟩ [(b1, [.int .i64 p0.1, .int .i64 p0.2.1, .int .i64 p0.2.2.1, .int .i64 p0.2.2.2.1, v1, .int .i64 p0.2.2.2.2.2.1, .int .i64 p0.2.2.2.2.2.2.1, .int .i64 p0.2.2.2.2.2.2.2])] [Cr 53 5 b2 v4 x15] w := W
  rw [Bk] at H
  refine Aj (Ad ?_)
  refine ls F W Aa (Cn F Aa Aa).q fun a w F W => ?_
  refine Ae (Ac (Aj ?_))
  refine AB F Aa (fun hb => ?_) fun hb => ?_
  ·
   have H := A0 (Ba hb) H
   rw [hb] at F
   clear hb
   refine Ay (Ac (Aj (AD (Aj (Ad ?_)))))
   obtain ⟨x16, h13, H⟩ := Ak H
   refine ls F W Aa (AE (r := (Rp.int .i64)) Gg F Aa Aa (Ax h_v1) h13).q fun a w F W => ?_
   refine ls F W Aa (Az (y := Value.int .i64 x16) (j := 0) (i := x14) F Aa Aa (Ax h_v1) h13 Fl.int.to T3 Aa).q fun a w F W => ?_
   refine ls F W Aa (Ag F Aa).q fun a w F W => ?_
   refine Ae (Ac (Ad ?_))
   refine ls F W Aa (Af F Aa).q fun a w F W => ?_
   obtain ⟨x17, h14, H⟩ := Ak H
   refine ls F W Aa (AF (v := Value.string (bs x17)) F Id Aa (fun w W => Dn any w x16 _ h14 (hG.go0 W))) fun a w F W => ?_
   obtain ⟨x18, h15, H⟩ := Ak H
   refine ls F W Aa (AK (l := ([32] : List UInt8)) (m := x17) F Aa Aa h15).q fun a w F W => ?_
   obtain ⟨x19, h16, H⟩ := Ak H
   refine BE (Ml := []) (Zl := [Cr 53 5 b2 v4 x15]) (M := [(b1, [.int .i64 p0.1, .int .i64 p0.2.1, .int .i64 p0.2.2.1, .int .i64 p0.2.2.2.1, v1, .int .i64 p0.2.2.2.2.2.1, .int .i64 p0.2.2.2.2.2.2.1, .int .i64 p0.2.2.2.2.2.2.2])]) (Z := []) (β := Value) (rv := fun x => .tuple #[.int .i64 (x18.length : Int), .nilIface]) (MM := fun x => []) (ZZ := fun x => [Cr 53 5 b2 x x19]) F W I4 Aa Aa (fun hL => Io _ _ w b2 v4 x15 x18 _ h16 hL) fun v5 a w F W => ?_
   have W : Stw ⟨Y, [], w0⟩ [(b1, [.int .i64 p0.1, .int .i64 p0.2.1, .int .i64 p0.2.2.1, .int .i64 p0.2.2.2.1, v1, .int .i64 p0.2.2.2.2.2.1, .int .i64 p0.2.2.2.2.2.2.1, .int .i64 p0.2.2.2.2.2.2.2])] [Cr 53 5 b2 v5 x19] w := W
   refine Ae (AO (Ac (Ad ?_)))
   refine ls F W Aa (CK F Aa Aa Aa).q fun a w F W => ?_
   refine ls F W Aa (Af F Aa).q fun a w F W => ?_
   refine Ae (Ac ?_)
   exact ⟨_, H, v5, F.re ⟨rfl, Aa, Aa, Aa, Aa, Aa, trivial⟩, W⟩
  have H := AY (A7 hb) H
  rw [hb] at F
  clear hb
  refine BC ?_
  iterate 2 refine Cd ?_
  refine BA (Ac ?_)
  have H := L2 _ H
  exact ⟨_, v4, H, F.re ⟨rfl, Aa, Aa, trivial⟩, W⟩
 rintro a w ⟨x13, v3, hj, F, W⟩
 have hj := A1 hj
 subst hj
 have H := K1
 clear G1 K1
 refine Aj (Ad ?_)
 refine ls F W Aa (An (v := Value.agg #[.int .i64 p0.1, .int .i64 p0.2.1, .int .i64 p0.2.2.1, .int .i64 p0.2.2.2.1, v1, .int .i64 p0.2.2.2.2.2.1, .int .i64 p0.2.2.2.2.2.2.1, .int .i64 p0.2.2.2.2.2.2.2]) 0 F Aa Aa HF Aa).q fun a w F W => ?_
 obtain ⟨x20, h17, H⟩ := Ak H
 refine ls F W Aa (AF (v := Value.string (bs x20)) F Jk Aa (fun w W => Ec any w (v1) p0 _ h17 (((Ax h_v1) : DU _ _ _ _ _ _) w W).nx (hG.go0 W))) fun a w F W => ?_
 obtain ⟨x21, h18, H⟩ := Ak H
 refine BE (Ml := []) (Zl := [Cr 53 5 b2 v3 x13]) (M := [(b1, [.int .i64 p0.1, .int .i64 p0.2.1, .int .i64 p0.2.2.1, .int .i64 p0.2.2.2.1, v1, .int .i64 p0.2.2.2.2.2.1, .int .i64 p0.2.2.2.2.2.2.1, .int .i64 p0.2.2.2.2.2.2.2])]) (Z := []) (β := Value) (rv := fun x => .tuple #[.int .i64 (x20.length : Int), .nilIface]) (MM := fun x => []) (ZZ := fun x => [Cr 53 5 b2 x x21]) F W I4 Aa Aa (fun hL => Io _ _ w b2 v3 x13 x20 _ h18 hL) fun v6 a w F W => ?_
 have W : Stw ⟨Y, [], w0⟩ [(b1, [.int .i64 p0.1, .int .i64 p0.2.1, .int .i64 p0.2.2.1, .int .i64 p0.2.2.2.1, v1, .int .i64 p0.2.2.2.2.2.1, .int .i64 p0.2.2.2.2.2.2.1, .int .i64 p0.2.2.2.2.2.2.2])] [Cr 53 5 b2 v6 x21] w := W
 refine Ae (Ac (Aj (Ad ?_)))
 obtain ⟨x22, h19, H⟩ := Ak H
 refine BE (Ml := []) (Zl := [Cr 53 5 b2 v6 x21]) (M := [(b1, [.int .i64 p0.1, .int .i64 p0.2.1, .int .i64 p0.2.2.1, .int .i64 p0.2.2.2.1, v1, .int .i64 p0.2.2.2.2.2.1, .int .i64 p0.2.2.2.2.2.2.1, .int .i64 p0.2.2.2.2.2.2.2])]) (Z := []) (β := Unit) (rv := fun x => .string (bs x22)) (MM := fun x => []) (ZZ := fun x => [Cr 53 5 b2 v6 x21]) F W Jw Aa Aa (fun hL => I2 _ _ w b2 v6 x21 _ h19 hL) fun _ a w F W => ?_
 have W : Stw ⟨Y, [], w0⟩ [(b1, [.int .i64 p0.1, .int .i64 p0.2.1, .int .i64 p0.2.2.1, .int .i64 p0.2.2.2.1, v1, .int .i64 p0.2.2.2.2.2.1, .int .i64 p0.2.2.2.2.2.2.1, .int .i64 p0.2.2.2.2.2.2.2])] [Cr 53 5 b2 v6 x21] w := W
 refine ls F W Aa (Ag F Aa).q fun a w F W => ?_
 refine Ae (Ac (AJ ?_))
 have H := A1 H
 subst H
 refine A9 (.inl Aa) F W Aa (AM F Aa) ?_
 exact ⟨rfl, W.done⟩
theorem I6 : Has Tryd.prog 13 := ⟨fun args w => Ap Tryd.func13 rfl (by decide) args w⟩
def Bj (p0 : Int × Int × Int × Int × List Int × Int × Int × Int) : Int := max (CV ((p0.2.2.2.2.1.length : Int) - 1)) 0
theorem DF (Y : Nat → Prop) (w0 : World) (v1 : Value) (p0 : Int × Int × Int × Int × List Int × Int × Int × Int) (r : Int) (H : Bj p0 = r) (h_v1 : Sl w0 (NX []) (Rp.int .i64) v1 p0.2.2.2.2.1) :
    Calls Tryd.prog 10 #[.agg #[.int .i64 p0.1, .int .i64 p0.2.1, .int .i64 p0.2.2.1, .int .i64 p0.2.2.2.1, v1, .int .i64 p0.2.2.2.2.2.1, .int .i64 p0.2.2.2.2.2.2.1, .int .i64 p0.2.2.2.2.2.2.2]] w0 fun e w' => e = .returned (.int .i64 r) ∧ Below w0.heap.size w0 w' := by
 refine enter Tryd.func10 Aa Tryd.ntmps10 Aa fun a F => ?_
 have W := Stw.start Y w0
 unfold Bj at H
 refine Aj (Ad ?_)
 refine D9 (cs := [.int .i64 p0.1, .int .i64 p0.2.1, .int .i64 p0.2.2.1, .int .i64 p0.2.2.2.1, v1, .int .i64 p0.2.2.2.2.2.1, .int .i64 p0.2.2.2.2.2.2.1, .int .i64 p0.2.2.2.2.2.2.2]) F W Aa Aa Aa fun b1 a w F W => ?_
 refine ls F W Aa (Ag F Aa).q fun a w F W => ?_
 refine Ae (Ac (Aj (Ad ?_)))
 refine ls F W Aa (Ab Ck Aa Aa Aa C4 F Aa 4 Aa).q fun a w F W => ?_
 refine ls F W Aa (An (v := v1) 0 F Aa Aa C4 Aa).q fun a w F W => ?_
 refine ls F W Aa (BT (r := (Rp.int .i64)) (l := p0.2.2.2.2.1) Eu Aa F Aa (Ax h_v1)).q fun a w F W => ?_
 refine ls F W Aa (Ft F Aa Aa Aa).q fun a w F W => ?_
 refine ls F W Aa (IG F Aa Aa).q fun a w F W => ?_
 refine ls F W Aa (Ag F Aa).q fun a w F W => ?_
 refine Ae (Ac (AJ ?_))
 subst H
 refine A9 (.inl Aa) F W Aa (AM F Aa) ?_
 exact ⟨rfl, W.done⟩
theorem IA : type_of% Tryd.underlying48 := Tryd.underlying48
theorem IW : type_of% Tryd.underlying49 := Tryd.underlying49
theorem Jd : Has Tryd.prog 10 := ⟨fun args w => Ap Tryd.func10 rfl (by decide) args w⟩
abbrev FT (x : Unit) : Value := .agg #[]
theorem Jh : Bt Tryd.prog 49 [] [] := ⟨⟨.agg #[], by kernel_rfl, rfl⟩, ⟨_, IW, fun w => by kernel_rfl⟩⟩
noncomputable def Bo (p0 : Int × Int × Int × Int × List Int × Int × Int × Int) : (Int × (List (Int × Unit))) → Option ((Int × (List (Int × Unit))) ⊕ (List (Int × Unit)))
  | (x2, x3) => (if x2 < (p0.2.2.2.2.1.length : Int) then (ix p0.2.2.2.2.1 x2).bind fun x4 => some (.inl (CV (x2 + 1), Cp x3 x4 ())) else some (.inr x3))
noncomputable def BR (p0 : Int × Int × Int × Int × List Int × Int × Int × Int) : Option Bool := (AP (Bo p0) (0, ([] : List (Int × Unit)))).bind fun x1 => some (decide ((x1.length : Int) < (p0.2.2.2.2.1.length : Int)))
theorem Dy (Y : Nat → Prop) (w0 : World) (v1 : Value) (p0 : Int × Int × Int × Int × List Int × Int × Int × Int) (r : Bool) (H : BR p0 = some r) (h_v1 : Sl w0 (NX []) (Rp.int .i64) v1 p0.2.2.2.2.1) :
    Calls Tryd.prog 11 #[.agg #[.int .i64 p0.1, .int .i64 p0.2.1, .int .i64 p0.2.2.1, .int .i64 p0.2.2.2.1, v1, .int .i64 p0.2.2.2.2.2.1, .int .i64 p0.2.2.2.2.2.2.1, .int .i64 p0.2.2.2.2.2.2.2]] w0 fun e w' => e = .returned (.bool r) ∧ Below w0.heap.size w0 w' := by
 refine enter Tryd.func11 Aa Tryd.ntmps11 Aa fun a F => ?_
 have W := Stw.start Y w0
 unfold BR at H
 refine Aj (Ad ?_)
 refine D9 (cs := [.int .i64 p0.1, .int .i64 p0.2.1, .int .i64 p0.2.2.1, .int .i64 p0.2.2.2.1, v1, .int .i64 p0.2.2.2.2.2.1, .int .i64 p0.2.2.2.2.2.2.1, .int .i64 p0.2.2.2.2.2.2.2]) F W Aa Aa Aa fun b1 a w F W => ?_
 refine ls F W Aa (Ag F Aa).q fun a w F W => ?_
 refine Ae (Ac (Aj (Ad ?_)))
 refine E7 AV FT F W Aa fun b2 a w F W => ?_
 have W : Stw ⟨Y, [], w0⟩ [(b1, [.int .i64 p0.1, .int .i64 p0.2.1, .int .i64 p0.2.2.1, .int .i64 p0.2.2.2.1, v1, .int .i64 p0.2.2.2.2.2.1, .int .i64 p0.2.2.2.2.2.2.1, .int .i64 p0.2.2.2.2.2.2.2])] [mp b2 AV FT ([] : List (Int × Unit))] w := W
 refine ls F W Aa (Ag F Aa).q fun a w F W => ?_
 refine Ae (Ac ?_)
 obtain ⟨o1, G1, K1⟩ := Ak H
 refine A3 (fun a w => ∃ x1 : List (Int × Unit), some (x1) = some o1 ∧ Fr 24 [] [(1, .pointer (some ⟨b1, 0, none⟩)), (2, .bool false), (3, .map (some b2))] a ∧ Stw ⟨Y, [], w0⟩ [(b1, [.int .i64 p0.1, .int .i64 p0.2.1, .int .i64 p0.2.2.1, .int .i64 p0.2.2.2.1, v1, .int .i64 p0.2.2.2.2.2.1, .int .i64 p0.2.2.2.2.2.2.1, .int .i64 p0.2.2.2.2.2.2.2])] [mp b2 AV FT x1] w) ?_ ?_
 ·
  have H := G1
  clear G1 K1
  refine Aj (Ad ?_)
  refine ls F W Aa (Ab Ck Aa Aa Aa C4 F Aa 4 Aa).q fun a w F W => ?_
  refine ls F W Aa (An (v := v1) 0 F Aa Aa C4 Aa).q fun a w F W => ?_
  refine ls F W Aa (BT (r := (Rp.int .i64)) (l := p0.2.2.2.2.1) Eu Aa F Aa (Ax h_v1)).q fun a w F W => ?_
  refine ls F W Aa (Af F Aa).q fun a w F W => ?_
  refine Ae (Ac (AD ?_))
  refine BN H (fun s a w => Fr 24 [] [(1, .pointer (some ⟨b1, 0, none⟩)), (2, .bool false), (3, .map (some b2)), (8, v1), (9, .int .i64 (p0.2.2.2.2.1.length : Int)), (10, .int .i64 s.1)] a ∧ Stw ⟨Y, [], w0⟩ [(b1, [.int .i64 p0.1, .int .i64 p0.2.1, .int .i64 p0.2.2.1, .int .i64 p0.2.2.2.1, v1, .int .i64 p0.2.2.2.2.2.1, .int .i64 p0.2.2.2.2.2.2.1, .int .i64 p0.2.2.2.2.2.2.2])] [mp b2 AV FT s.2] w) ⟨F.re ⟨rfl, Aa, Aa, Aa, Aa, Aa, trivial⟩, W⟩ fun s o a w H L2 hR => ?_
  obtain ⟨x2, x3⟩ := s
  obtain ⟨F, W⟩ := hR
  have F : Fr 24 [] [(1, .pointer (some ⟨b1, 0, none⟩)), (2, .bool false), (3, .map (some b2)), (8, v1), (9, .int .i64 (p0.2.2.2.2.1.length : Int)), (10, .int .i64 x2)] a := F
  have W : Stw ⟨Y, [], w0⟩ [(b1, [.int .i64 p0.1, .int .i64 p0.2.1, .int .i64 p0.2.2.1, .int .i64 p0.2.2.2.1, v1, .int .i64 p0.2.2.2.2.2.1, .int .i64 p0.2.2.2.2.2.2.1, .int .i64 p0.2.2.2.2.2.2.2])] [mp b2 AV FT x3] w := W
  rw [Bo] at H
  refine Aj (Ad ?_)
  refine ls F W Aa (Cn F Aa Aa).q fun a w F W => ?_
  refine Ae (Ac (Aj ?_))
  refine AB F Aa (fun hb => ?_) fun hb => ?_
  ·
   have H := A0 (Ba hb) H
   rw [hb] at F
   clear hb
   refine Ay (Ac (Aj (AD (Aj (Ad ?_)))))
   obtain ⟨x4, h1, H⟩ := Ak H
   refine ls F W Aa (AE (r := (Rp.int .i64)) Gg F Aa Aa (Ax h_v1) h1).q fun a w F W => ?_
   refine ls F W Aa (Az (y := Value.int .i64 x4) (j := 0) (i := x2) F Aa Aa (Ax h_v1) h1 Fl.int.to T3 Aa).q fun a w F W => ?_
   refine ls F W Aa (Ag F Aa).q fun a w F W => ?_
   refine Ae (Ac (Ad ?_))
   iterate 2 refine ls F W Aa (Af F Aa).q fun a w F W => ?_
   refine ls F W Aa (Cw (v := Value.agg #[]) Jh F Aa Aa Aa).q fun a w F W => ?_
   refine EP (q := 0) (kx := (x4 : Int)) (vx := (() : Unit)) (E := AV) (V := FT) F W Aa Aa Aa Aa Aa IK IA fun w W => ?_
   have W : Stw ⟨Y, [], w0⟩ [(b1, [.int .i64 p0.1, .int .i64 p0.2.1, .int .i64 p0.2.2.1, .int .i64 p0.2.2.2.1, v1, .int .i64 p0.2.2.2.2.2.1, .int .i64 p0.2.2.2.2.2.2.1, .int .i64 p0.2.2.2.2.2.2.2])] [mp b2 AV FT (Cp x3 x4 ())] w := W
   refine Ae (AO (Ac (Ad ?_)))
   refine ls F W Aa (CK F Aa Aa Aa).q fun a w F W => ?_
   refine ls F W Aa (Af F Aa).q fun a w F W => ?_
   refine Ae (Ac ?_)
   exact ⟨_, H, F.re ⟨rfl, Aa, Aa, Aa, Aa, Aa, trivial⟩, W⟩
  have H := AY (A7 hb) H
  rw [hb] at F
  clear hb
  refine BC ?_
  iterate 2 refine Cd ?_
  refine BA (Ac ?_)
  have H := L2 _ H
  exact ⟨_, H, F.re ⟨rfl, Aa, Aa, trivial⟩, W⟩
 rintro a w ⟨x1, hj, F, W⟩
 have hj := A1 hj
 subst hj
 have H := K1
 clear G1 K1
 refine Aj (Ad ?_)
 refine ls F W Aa (Af F Aa).q fun a w F W => ?_
 refine ls F W Aa (Hz (q := 0) (E := AV) (V := FT) F Aa Aa Aa IA).q fun a w F W => ?_
 refine ls F W Aa (Ab Ck Aa Aa Aa C4 F Aa 4 Aa).q fun a w F W => ?_
 refine ls F W Aa (An (v := v1) 0 F Aa Aa C4 Aa).q fun a w F W => ?_
 refine ls F W Aa (BT (r := (Rp.int .i64)) (l := p0.2.2.2.2.1) Eu Aa F Aa (Ax h_v1)).q fun a w F W => ?_
 refine ls F W Aa (Cn F Aa Aa).q fun a w F W => ?_
 refine ls F W Aa (Ag F Aa).q fun a w F W => ?_
 refine Ae (Ac (AJ ?_))
 have H := A1 H
 subst H
 refine A9 (.inl Aa) F W Aa (AM F Aa) ?_
 exact ⟨rfl, W.done⟩
end Go.Proofs.YtpmhmemmniiomaaDoor
