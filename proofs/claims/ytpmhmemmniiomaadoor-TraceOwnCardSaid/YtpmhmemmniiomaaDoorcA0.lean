/- The functions of layer 41, Ec. Conditions: none. -/
import Derived.Test.YtpmhmemmniiomaaDoorRows
import Derived.Test.YtpmhmemmniiomaaDoorcOB
import Derived.Test.YtpmhmemmniiomaaDoorcOG
import Derived.Test.YtpmhmemmniiomaaDoorcOT
import Derived.Test.YtpmhmemmniiomaaDoorcQT
import Derived.Test.YtpmhmemmniiomaaDoorcOD
import Derived.Test.YtpmhmemmniiomaaDoorcOC
import Derived.Test.YtpmhmemmniiomaaDoorcOM
import Derived.Test.YtpmhmemmniiomaaDoorcDR
import Derived.Test.YtpmhmemmniiomaaDoorcOX
namespace Go.Proofs.YtpmhmemmniiomaaDoor
open Go Go.RowKit
set_option linter.unusedVariables false
set_option linter.unusedSimpArgs false
set_option maxRecDepth 20000
theorem Is : type_of% Tryd.underlying3 := Tryd.underlying3
theorem G0 : type_of% Tryd.underlying22 := Tryd.underlying22
theorem CF : type_of% Tryd.underlying41 := Tryd.underlying41
theorem Hu : type_of% Tryd.underlying43 := Tryd.underlying43
theorem DK : type_of% Tryd.underlying45 := Tryd.underlying45
abbrev CK : Rp (Int × Int × Int × Int × Int × Int) := (Rp.pair (Rp.int .i64) (Rp.pair (Rp.int .i64) (Rp.pair (Rp.int .i64) (Rp.pair (Rp.int .i64) (Rp.pair (Rp.int .i64) (Rp.int .i64))))))
theorem HX : Bt Tryd.prog 41 [.int .i64 0, .int .i64 0, .int .i64 0, .int .i64 0, .int .i64 0, .int .i64 0] [(0, 1), (1, 1), (2, 1), (3, 1), (4, 1), (5, 1)] := ⟨⟨.agg #[.int .i64 0, .int .i64 0, .int .i64 0, .int .i64 0, .int .i64 0, .int .i64 0], by kernel_rfl, rfl⟩, ⟨_, CF, fun w => by kernel_rfl⟩⟩
theorem H7 : (Tryd.prog.info? 41).bind (·.zero) = some (.agg #[.int .i64 0, .int .i64 0, .int .i64 0, .int .i64 0, .int .i64 0, .int .i64 0]) := by kernel_rfl
def Il (a : Int × Int × Int × Int × Int × Int) : List Value := [.int .i64 a.1, .int .i64 a.2.1, .int .i64 a.2.2.1, .int .i64 a.2.2.2.1, .int .i64 a.2.2.2.2.1, .int .i64 a.2.2.2.2.2]
theorem HP : Fl CK Il := (Fl.pair Fl.int (Fl.pair Fl.int (Fl.pair Fl.int (Fl.pair Fl.int (Fl.pair Fl.int Fl.int)))))
theorem HH : Et Tryd.prog 22 41 6 48 := Et.of G0 (by kernel_rfl) (by kernel_rfl) (by kernel_rfl) (by decide)
abbrev AF (x : Int) : Value := .int .i64 x
theorem Iq : Bt Tryd.prog 45 [.slice none 0 0, .map none, .slice none 0 0] [(0, 1), (1, 1), (2, 1)] := ⟨⟨.agg #[.slice none 0 0, .map none, .slice none 0 0], by kernel_rfl, rfl⟩, ⟨_, DK, fun w => by kernel_rfl⟩⟩
theorem Io : (Tryd.prog.info? 45).bind (·.zero) = some (.agg #[.slice none 0 0, .map none, .slice none 0 0]) := by kernel_rfl
theorem IC : Ty Tryd.prog 45 true 3 := ⟨by kernel_rfl, by kernel_rfl⟩
theorem HD : Ty Tryd.prog 41 true 6 := ⟨by kernel_rfl, by kernel_rfl⟩
abbrev Eb : Rp (Int × Int × Int × Int × List Int × Int × Int × Int) := (Rp.pair (Rp.int .i64) (Rp.pair (Rp.int .i64) (Rp.pair (Rp.int .i64) (Rp.pair (Rp.int .i64) (Rp.pair (Rp.slice (Rp.int .i64)) (Rp.pair (Rp.int .i64) (Rp.pair (Rp.int .i64) (Rp.int .i64))))))))
abbrev AA : Dp (Int × Int × Int × Int × (Value × Nat × List Int) × Int × Int × Int) := (Dp.pair (Dp.fl 1 (fun a => [.int .i64 a]) (fun _ => rfl)) (Dp.pair (Dp.fl 1 (fun a => [.int .i64 a]) (fun _ => rfl)) (Dp.pair (Dp.fl 1 (fun a => [.int .i64 a]) (fun _ => rfl)) (Dp.pair (Dp.fl 1 (fun a => [.int .i64 a]) (fun _ => rfl)) (Dp.pair (Dp.sl 3 (Rp.int .i64)) (Dp.pair (Dp.fl 1 (fun a => [.int .i64 a]) (fun _ => rfl)) (Dp.pair (Dp.fl 1 (fun a => [.int .i64 a]) (fun _ => rfl)) (Dp.fl 1 (fun a => [.int .i64 a]) (fun _ => rfl)))))))))
abbrev AO (p : Int × Int × Int × Int × (Value × Nat × List Int) × Int × Int × Int) : Int × Int × Int × Int × (Nat × List Int) × Int × Int × Int := (p.1, p.2.1, p.2.2.1, p.2.2.2.1, p.2.2.2.2.1.2, p.2.2.2.2.2.1, p.2.2.2.2.2.2.1, p.2.2.2.2.2.2.2)
abbrev GB : (Int × Int × Int × Int × (Nat × List Int) × Int × Int × Int) → Option (Int × Int × Int × Int × List Int × Int × Int × Int) := (fun (p : Int × Int × Int × Int × (Nat × List Int) × Int × Int × Int) => (some p.1).bind fun a => ((fun (p : Int × Int × Int × (Nat × List Int) × Int × Int × Int) => (some p.1).bind fun a => ((fun (p : Int × Int × (Nat × List Int) × Int × Int × Int) => (some p.1).bind fun a => ((fun (p : Int × (Nat × List Int) × Int × Int × Int) => (some p.1).bind fun a => ((fun (p : (Nat × List Int) × Int × Int × Int) => (Ie p.1).bind fun a => ((fun (p : Int × Int × Int) => (some p.1).bind fun a => ((fun (p : Int × Int) => (some p.1).bind fun a => (some p.2).bind fun b => some (a, b)) p.2).bind fun b => some (a, b)) p.2).bind fun b => some (a, b)) p.2).bind fun b => some (a, b)) p.2).bind fun b => some (a, b)) p.2).bind fun b => some (a, b)) p.2).bind fun b => some (a, b))
theorem Id : Rst AA Eb AO GB := (Rst.pair (Rst.flat Fl.int (fun _ => rfl) rfl) (Rst.pair (Rst.flat Fl.int (fun _ => rfl) rfl) (Rst.pair (Rst.flat Fl.int (fun _ => rfl) rfl) (Rst.pair (Rst.flat Fl.int (fun _ => rfl) rfl) (Rst.pair Rst.sl (Rst.pair (Rst.flat Fl.int (fun _ => rfl) rfl) (Rst.pair (Rst.flat Fl.int (fun _ => rfl) rfl) (Rst.flat Fl.int (fun _ => rfl) rfl))))))))
theorem HW : KeyEnc Tryd.prog 3 AF := KeyEnc.int Is
theorem T3 : Ty Tryd.prog 3 false 1 := ⟨by kernel_rfl, by kernel_rfl⟩
theorem MO : Tryd.prog.follows .mixedOrders = true := by kernel_rfl
theorem DU : Ty Tryd.prog 30 false 1 := ⟨by kernel_rfl, by kernel_rfl⟩
theorem HF : Ty Tryd.prog 43 false 1 := ⟨by kernel_rfl, by kernel_rfl⟩
theorem Z3 : (Tryd.prog.info? 3).bind (·.zero) = some (.int .i64 0) := by kernel_rfl
def Aj (p0 : (List (Int × Int × Int × Int × (Nat × List Int) × Int × Int × Int)) × (List (Int × Int)) × List Int) (p1 : Int) : Int := (if (!((BN p0.2.1 p1).isSome)) = true then (-1) else (BN p0.2.1 p1).getD 0)
theorem BB (Y : Nat → Prop) (X : List Nat) (w0 : World) (q_p0 : Nat) (v1 : Value) (m_v2 : Nat) (v3 : Value) (p0 : (List (Int × Int × Int × Int × (Nat × List Int) × Int × Int × Int)) × (List (Int × Int)) × List Int) (p1 : Int) (d_v1 : {x : List (Int × Int × Int × Int × (Value × Nat × List Int) × Int × Int × Int) // x.map AO = p0.1}) (r : Int) (H : Aj p0 p1 = r) (hL : Stw ⟨Y, X, w0⟩ [(q_p0, [v1, .map (some m_v2), v3])] [Aw v1 34 AA d_v1.1, row v3 3 (Rp.int .i64) p0.2.2, mp m_v2 AF AF p0.2.1] w0) :
    Calls Tryd.prog 23 #[.pointer (some ⟨q_p0, 0, none⟩), .int .i64 p1] w0 fun e w' => ∃ x : Unit, e = .returned (.int .i64 r) ∧ Stw ⟨Y, X, w0⟩ [(q_p0, [v1, .map (some m_v2), v3])] [Aw v1 34 AA d_v1.1, row v3 3 (Rp.int .i64) p0.2.2, mp m_v2 AF AF p0.2.1] w' := by
 refine enter Tryd.func23 Aa Tryd.ntmps23 Aa fun a F => ?_
 have W := hL
 unfold Aj at H
 refine Ai (Ac ?_)
 refine ls F W Aa (Ah F Aa).q fun a w F W => ?_
 refine Ae (Ad (Ai (Ac ?_)))
 refine ls F W Aa (Ag F Aa).q fun a w F W => ?_
 refine ls F W Aa (AB F Aa).q fun a w F W => ?_
 refine ls F W Aa (Ab DK Aa Aa Aa HF F Aa 1 Aa).q fun a w F W => ?_
 refine ls F W Aa (Ap (v := Value.map (some m_v2)) 0 F Aa Aa HF Aa).q fun a w F W => ?_
 refine ls F W Aa (Ag F Aa).q fun a w F W => ?_
 refine ls F W Aa (FP (zv := (0 : Int)) (kx := (p1 : Int)) (q := 2) (E := AF) (V := AF) F Aa Aa Aa HW Hu Z3).q fun a w F W => ?_
 refine ls F W Aa (Ag F Aa).q fun a w F W => ?_
 refine ls F W Aa (EG (v := Value.int .i64 ((BN p0.2.1 p1).getD 0)) F Aa Aa).q fun a w F W => ?_
 refine ls F W Aa (EG (v := Value.bool ((BN p0.2.1 p1).isSome)) F Aa Aa).q fun a w F W => ?_
 iterate 2 refine ls F W Aa (Ah F Aa).q fun a w F W => ?_
 refine Ae (Ad (Ai (Ai (Ac ?_))))
 refine ls F W Aa (Ag F Aa).q fun a w F W => ?_
 refine ls F W Aa (E3 F Aa).q fun a w F W => ?_
 refine Ae (Ad ?_)
 refine AJ F Aa (fun hb => ?_) fun hb => ?_
 ·
  have H := A9 hb H
  rw [hb] at F
  clear hb
  refine Ai (Ac ?_)
  refine ls F W Aa (Ah F Aa).q fun a w F W => ?_
  refine Ae (Ad (AQ (Bx ?_)))
  subst H
  refine Bk (.inl Aa) F W Aa (AZ F Aa) ?_
  have W := W.frontZ (i := 2) Aa Aa
  have W := W.frontZ (i := 2) Aa Aa
  have W := W.frontZ (i := 2) Aa Aa
  exact ⟨(), Aa, W⟩
 have H := A5 (by rw [hb]; decide) H
 rw [hb] at F
 clear hb
 refine AC (Ad (Ai (Ac ?_)))
 refine ls F W Aa (Ag F Aa).q fun a w F W => ?_
 refine ls F W Aa (Ah F Aa).q fun a w F W => ?_
 refine Ae (Ad (AQ ?_))
 subst H
 refine Bk (.inl Aa) F W Aa (AZ F Aa) ?_
 have W := W.frontZ (i := 2) Aa Aa
 have W := W.frontZ (i := 2) Aa Aa
 have W := W.frontZ (i := 2) Aa Aa
 exact ⟨(), Aa, W⟩
theorem GW : type_of% Tryd.underlying24 := Tryd.underlying24
theorem E2 : type_of% Tryd.underlying30 := Tryd.underlying30
theorem BM : type_of% Tryd.underlying34 := Tryd.underlying34
theorem Ij : Has Tryd.prog 23 := ⟨fun args w => Ao Tryd.func23 rfl (by decide) args w⟩
theorem G2 : Et Tryd.prog 30 3 1 8 := Et.of E2 (by kernel_rfl) (by kernel_rfl) (by kernel_rfl) (by decide)
theorem GI : Ty Tryd.prog 24 false 1 := ⟨by kernel_rfl, by kernel_rfl⟩
theorem Ix : Bt Tryd.prog 34 [.int .i64 0, .int .i64 0, .int .i64 0, .int .i64 0, .slice none 0 0, .int .i64 0, .int .i64 0, .int .i64 0] [(0, 1), (1, 1), (2, 1), (3, 1), (4, 1), (5, 1), (6, 1), (7, 1)] := ⟨⟨.agg #[.int .i64 0, .int .i64 0, .int .i64 0, .int .i64 0, .slice none 0 0, .int .i64 0, .int .i64 0, .int .i64 0], by kernel_rfl, rfl⟩, ⟨_, BM, fun w => by kernel_rfl⟩⟩
theorem Im : (Tryd.prog.info? 34).bind (·.zero) = some (.agg #[.int .i64 0, .int .i64 0, .int .i64 0, .int .i64 0, .slice none 0 0, .int .i64 0, .int .i64 0, .int .i64 0]) := by kernel_rfl
theorem Hw : Et Tryd.prog 24 34 8 80 := Et.of GW (by kernel_rfl) (by kernel_rfl) (by kernel_rfl) (by decide)
noncomputable def Bp (p0 : (List (Int × Int × Int × Int × (Nat × List Int) × Int × Int × Int)) × (List (Int × Int)) × List Int) (p1 : Int × Int × Int × Int × Int × Int) : Option ((List (Int × Int × Int × Int × (Nat × List Int) × Int × Int × Int)) × (List (Int × Int)) × List Int) := (CL p0.2.2 ([(Aj p0 p1.2.2.1)] : List Int)).bind fun x1 => (CL p0.1 ([(p1.2.2.1, p1.2.2.2.2.1, p1.2.2.2.2.2, p1.2.1, (2, []), 0, 0, p1.2.1)] : List (Int × Int × Int × Int × (Nat × List Int) × Int × Int × Int))).bind fun x2 => some (x2, BU p0.2.1 p1.2.2.1 (p0.1.length : Int), x1)
theorem Dk (Y : Nat → Prop) (X : List Nat) (w0 : World) (q_p0 : Nat) (v1 : Value) (m_v2 : Nat) (v3 : Value) (p0 : (List (Int × Int × Int × Int × (Nat × List Int) × Int × Int × Int)) × (List (Int × Int)) × List Int) (p1 : Int × Int × Int × Int × Int × Int) (d_v1 : {x : List (Int × Int × Int × Int × (Value × Nat × List Int) × Int × Int × Int) // x.map AO = p0.1}) (r : ((List (Int × Int × Int × Int × (Nat × List Int) × Int × Int × Int)) × (List (Int × Int)) × List Int)) (H : Bp p0 p1 = some r) (hL : Stw ⟨Y, X, w0⟩ [(q_p0, [v1, .map (some m_v2), v3])] [Aw v1 34 AA d_v1.1, row v3 3 (Rp.int .i64) p0.2.2, mp m_v2 AF AF p0.2.1] w0) :
    Calls Tryd.prog 22 #[.pointer (some ⟨q_p0, 0, none⟩), .agg #[.int .i64 p1.1, .int .i64 p1.2.1, .int .i64 p1.2.2.1, .int .i64 p1.2.2.2.1, .int .i64 p1.2.2.2.2.1, .int .i64 p1.2.2.2.2.2]] w0 fun e w' => ∃ x : Value × ({x : List (Int × Int × Int × Int × (Value × Nat × List Int) × Int × Int × Int) // x.map AO = r.1}) × Value, e = .returned (.tuple #[]) ∧ Stw ⟨Y, X, w0⟩ [(q_p0, [x.1, .map (some m_v2), x.2.2])] [Aw (x.1) 34 AA (x.2.1.1), row (x.2.2) 3 (Rp.int .i64) r.2.2, mp m_v2 AF AF r.2.1] w' := by
 refine enter Tryd.func22 Aa Tryd.ntmps22 Aa fun a F => ?_
 have W := hL
 unfold Bp at H
 refine Ai (Ac ?_)
 refine DH (cs := [.int .i64 p1.1, .int .i64 p1.2.1, .int .i64 p1.2.2.1, .int .i64 p1.2.2.2.1, .int .i64 p1.2.2.2.2.1, .int .i64 p1.2.2.2.2.2]) F W Aa Aa Aa fun b1 a w F W => ?_
 refine Ae (Ad (Ai ?_))
 refine D6 [(true, 0), (true, 1), (true, 2), (true, 3), (true, 4), (true, 5), (true, 6), (true, 7), (false, 8), (false, 9), (false, 10), (true, 11), (true, 12), (false, 13)] (CN ⟨Y, X, w0⟩ [(some 10, q_p0, [v1, .map (some m_v2), v3]), (some 8, b1, [.int .i64 p1.1, .int .i64 p1.2.1, .int .i64 p1.2.2.1, .int .i64 p1.2.2.2.1, .int .i64 p1.2.2.2.2.1, .int .i64 p1.2.2.2.2.2])] []) (fun ch a d v w h => by cases d <;> exact h) MO (by kernel_rfl) W (fun w W => ⟨_, _, W, (all_cons (fun _ => (.tail _ (.head _))) (all_cons (fun _ => (.head _)) As)), As⟩) fun w W => ?_
 iterate 2 refine Bh (R := []) F Aa Aa (yC fun M Z hN hZ => Ag F Aa) Aa Aa fun a F => ?_
 refine Bh (R := []) F Aa Aa (yC fun M Z hN hZ => AB F Aa) Aa Aa fun a F => ?_
 refine Bh (R := []) F Aa Aa (yC fun M Z hN hZ => Ab DK Aa Aa Aa DU F Aa 2 Aa) Aa Aa fun a F => ?_
 refine Bh (R := [10]) F Aa Aa (yC fun M Z hN hZ => BA (cs := [v1, .map (some m_v2), v3]) (v := v3) F Aa (hN ((some 10), q_p0, [v1, .map (some m_v2), v3]) (.head _) Aa) DU Aa) (by kernel_rfl) Aa fun a F => ?_
 refine Bh (R := []) F Aa Aa (yC fun M Z hN hZ => Ag F Aa) Aa Aa fun a F => ?_
 refine Bh (R := []) F Aa Aa (yC fun M Z hN hZ => Ab CF Aa Aa Aa T3 F Aa 2 Aa) Aa Aa fun a F => ?_
 refine Bh (R := [8]) F Aa Aa (yC fun M Z hN hZ => BA (cs := [.int .i64 p1.1, .int .i64 p1.2.1, .int .i64 p1.2.2.1, .int .i64 p1.2.2.2.1, .int .i64 p1.2.2.2.2.1, .int .i64 p1.2.2.2.2.2]) (v := Value.int .i64 p1.2.2.1) F Aa (hN ((some 8), b1, [.int .i64 p1.1, .int .i64 p1.2.1, .int .i64 p1.2.2.1, .int .i64 p1.2.2.2.1, .int .i64 p1.2.2.2.2.1, .int .i64 p1.2.2.2.2.2]) (.tail _ (.head _)) Aa) T3 Aa) (by kernel_rfl) Aa fun a F => ?_
 refine Em Aa ?_
 have W := W.frontZ (i := 2) Aa Aa
 have W := W.frontZ (i := 2) Aa Aa
 have W := W.frontZ (i := 2) Aa Aa
 have W := W.frontM (i := 1) Aa Aa
 refine Bd (Ml := [(q_p0, [v1, .map (some m_v2), v3])]) (Zl := [Aw v1 34 AA d_v1.1, row v3 3 (Rp.int .i64) p0.2.2, mp m_v2 AF AF p0.2.1]) (M := [(b1, [.int .i64 p1.1, .int .i64 p1.2.1, .int .i64 p1.2.2.1, .int .i64 p1.2.2.2.1, .int .i64 p1.2.2.2.2.1, .int .i64 p1.2.2.2.2.2])]) (Z := []) (β := Unit) (rv := fun x => .int .i64 (Aj p0 p1.2.2.1)) (MM := fun x => [(q_p0, [v1, .map (some m_v2), v3])]) (ZZ := fun x => [Aw v1 34 AA d_v1.1, row v3 3 (Rp.int .i64) p0.2.2, mp m_v2 AF AF p0.2.1]) F W Ij Aa Aa (fun hL => BB _ _ w q_p0 (v1) m_v2 (v3) p0 p1.2.2.1 ⟨d_v1.1, d_v1.2⟩ _ Aa hL) fun x a w F W => ?_
 have W : Stw ⟨Y, X, w0⟩ [(q_p0, [v1, .map (some m_v2), v3]), (b1, [.int .i64 p1.1, .int .i64 p1.2.1, .int .i64 p1.2.2.1, .int .i64 p1.2.2.2.1, .int .i64 p1.2.2.2.2.1, .int .i64 p1.2.2.2.2.2])] [Aw v1 34 AA d_v1.1, row v3 3 (Rp.int .i64) p0.2.2, mp m_v2 AF AF p0.2.1] w := W
 refine BJ (N2 := []) (NZ2 := []) (N3 := [(some 10, q_p0, [v1, .map (some m_v2), v3]), (some 8, b1, [.int .i64 p1.1, .int .i64 p1.2.1, .int .i64 p1.2.2.1, .int .i64 p1.2.2.2.1, .int .i64 p1.2.2.2.2.1, .int .i64 p1.2.2.2.2.2])]) (NZ3 := []) W Aa Aa (all_cons (fun _ => (.head _)) (all_cons (fun h => AM (by kernel_rfl) h) As)) As ?_
 refine Em Aa ?_
 refine EB (z := Value.int .i64 0) (cs := [.int .i64 (Aj p0 p1.2.2.1)]) (Rp.int .i64) ([(Aj p0 p1.2.2.1)] : List Int) F W Aa G2 Z3 Aa Aa Aa Aa Aa Aa (Fl.int.repL _ _ ([(Aj p0 p1.2.2.1)] : List Int)) fun v4 a w F W => ?_
 refine BJ (N2 := []) (NZ2 := []) (N3 := [(some 10, q_p0, [v1, .map (some m_v2), v3]), (some 8, b1, [.int .i64 p1.1, .int .i64 p1.2.1, .int .i64 p1.2.2.1, .int .i64 p1.2.2.2.1, .int .i64 p1.2.2.2.2.1, .int .i64 p1.2.2.2.2.2])]) (NZ3 := []) W Aa Aa (all_cons (fun _ => (.head _)) (all_cons (fun h => AM (by kernel_rfl) h) As)) As ?_
 refine Em Aa ?_
 obtain ⟨x1, h1, H⟩ := Am H
 refine Cx (r := (Rp.int .i64)) (i := 2) F W Aa G2 Aa Aa Aa Aa (Dw W 0 Aa) h1 Aa fun v5 a w F W => ?_
 have W : Stw ⟨Y, X, w0⟩ [(q_p0, [v1, .map (some m_v2), v3]), (b1, [.int .i64 p1.1, .int .i64 p1.2.1, .int .i64 p1.2.2.1, .int .i64 p1.2.2.2.1, .int .i64 p1.2.2.2.2.1, .int .i64 p1.2.2.2.2.2])] [row v5 3 (Rp.int .i64) x1, row v4 3 (Rp.int .i64) ([(Aj p0 p1.2.2.1)] : List Int), Aw v1 34 AA d_v1.1, mp m_v2 AF AF p0.2.1] w := W
 refine BJ (N2 := []) (NZ2 := []) (N3 := [(some 10, q_p0, [v1, .map (some m_v2), v3]), (some 8, b1, [.int .i64 p1.1, .int .i64 p1.2.1, .int .i64 p1.2.2.1, .int .i64 p1.2.2.2.1, .int .i64 p1.2.2.2.2.1, .int .i64 p1.2.2.2.2.2])]) (NZ3 := []) W Aa Aa (all_cons (fun h => AM (by kernel_rfl) h) (all_cons (fun h => AM (by kernel_rfl) h) As)) As ?_
 refine Bh (R := []) F Aa Aa (yC fun M Z hN hZ => AB F Aa) Aa Aa fun a F => ?_
 refine Bh (R := []) F Aa Aa (yC fun M Z hN hZ => Ab DK Aa Aa Aa DU F Aa 2 Aa) Aa Aa fun a F => ?_
 refine Em Aa ?_
 refine Fd (M' := [(q_p0, [v1, .map (some m_v2), v5]), (b1, [.int .i64 p1.1, .int .i64 p1.2.1, .int .i64 p1.2.2.1, .int .i64 p1.2.2.2.1, .int .i64 p1.2.2.2.2.1, .int .i64 p1.2.2.2.2.2])]) 0 F W Aa Aa Aa DU (W.one (k := 0) Aa) Aa Aa fun w W => ?_
 refine BJ (N2 := []) (NZ2 := []) (N3 := [(some 10, q_p0, [v1, .map (some m_v2), v3]), (some 8, b1, [.int .i64 p1.1, .int .i64 p1.2.1, .int .i64 p1.2.2.1, .int .i64 p1.2.2.2.1, .int .i64 p1.2.2.2.2.1, .int .i64 p1.2.2.2.2.2])]) (NZ3 := []) W Aa Aa (all_cons (fun h => AM (by kernel_rfl) h) (all_cons (fun h => AM (by kernel_rfl) h) As)) As ?_
 refine Fn (Ad (Ai ?_))
 refine D7 11 W MO (by kernel_rfl) ?_
 refine qs F Aa (Ag F Aa).q fun a F => ?_
 refine qs F Aa (AB F Aa).q fun a F => ?_
 refine qs F Aa (Ab DK Aa Aa Aa HF F Aa 1 Aa).q fun a F => ?_
 refine qs F Aa (Ap (v := Value.map (some m_v2)) 0 F Aa Aa HF Aa).q fun a F => ?_
 refine qs F Aa (Ab CF Aa Aa Aa T3 F Aa 2 Aa).q fun a F => ?_
 refine qs F Aa (Ap (v := Value.int .i64 p1.2.2.1) 1 F Aa Aa T3 Aa).q fun a F => ?_
 refine qs F Aa (Ag F Aa).q fun a F => ?_
 refine qs F Aa (AB F Aa).q fun a F => ?_
 refine qs F Aa (Ab DK Aa Aa Aa GI F Aa 0 Aa).q fun a F => ?_
 refine qs F Aa (Ap (v := v1) 0 F Aa Aa GI Aa).q fun a F => ?_
 refine qs F Aa (GX (er := AO) d_v1.2 GW Aa F Aa (FT.hd (EW 2 Aa))).q fun a F => ?_
 refine Bv fun w W => ?_
 refine D5 (q := 3) (kx := (p1.2.2.1 : Int)) (vx := ((p0.1.length : Int) : Int)) (E := AF) (V := AF) F W Aa Aa Aa Aa Aa HW Hu fun w W => ?_
 have W : Stw ⟨Y, X, w0⟩ [(q_p0, [v1, .map (some m_v2), v5]), (b1, [.int .i64 p1.1, .int .i64 p1.2.1, .int .i64 p1.2.2.1, .int .i64 p1.2.2.2.1, .int .i64 p1.2.2.2.2.1, .int .i64 p1.2.2.2.2.2])] [mp m_v2 AF AF (BU p0.2.1 p1.2.2.1 (p0.1.length : Int)), row v5 3 (Rp.int .i64) x1, row v4 3 (Rp.int .i64) ([(Aj p0 p1.2.2.1)] : List Int), Aw v1 34 AA d_v1.1] w := W
 refine Ae (Ad ?_)
 refine D6 [(true, 0), (true, 1), (true, 2), (true, 3), (true, 4), (true, 5), (true, 6), (true, 7), (true, 8), (true, 9), (true, 10), (true, 11), (true, 12), (true, 13), (true, 14), (true, 15), (false, 16), (false, 17), (true, 18), (true, 19), (false, 20)] (CN ⟨Y, X, w0⟩ [(some 17, q_p0, [v1, .map (some m_v2), v5]), (some 16, b1, [.int .i64 p1.1, .int .i64 p1.2.1, .int .i64 p1.2.2.1, .int .i64 p1.2.2.2.1, .int .i64 p1.2.2.2.2.1, .int .i64 p1.2.2.2.2.2])] []) (fun ch a d v w h => by cases d <;> exact h) MO (by kernel_rfl) W (fun w W => ⟨_, _, W, (all_cons (fun _ => (.head _)) (all_cons (fun _ => (.tail _ (.head _))) As)), As⟩) fun w W => ?_
 iterate 2 refine Bh (R := []) F Aa Aa (yC fun M Z hN hZ => Ag F Aa) Aa Aa fun a F => ?_
 refine Bh (R := []) F Aa Aa (yC fun M Z hN hZ => AB F Aa) Aa Aa fun a F => ?_
 refine Bh (R := []) F Aa Aa (yC fun M Z hN hZ => Ab DK Aa Aa Aa GI F Aa 0 Aa) Aa Aa fun a F => ?_
 refine Bh (R := [17]) F Aa Aa (yC fun M Z hN hZ => BA (cs := [v1, .map (some m_v2), v5]) (v := v1) F Aa (hN ((some 17), q_p0, [v1, .map (some m_v2), v5]) (.head _) Aa) GI Aa) (by kernel_rfl) Aa fun a F => ?_
 refine Bh (R := []) F Aa Aa (yC fun M Z hN hZ => Ab CF Aa Aa Aa T3 F Aa 2 Aa) Aa Aa fun a F => ?_
 refine Bh (R := [16, 15]) F Aa Aa (yC fun M Z hN hZ => BA (cs := [.int .i64 p1.1, .int .i64 p1.2.1, .int .i64 p1.2.2.1, .int .i64 p1.2.2.2.1, .int .i64 p1.2.2.2.2.1, .int .i64 p1.2.2.2.2.2]) (v := Value.int .i64 p1.2.2.1) F Aa (hN ((some 16), b1, [.int .i64 p1.1, .int .i64 p1.2.1, .int .i64 p1.2.2.1, .int .i64 p1.2.2.2.1, .int .i64 p1.2.2.2.2.1, .int .i64 p1.2.2.2.2.2]) (.tail _ (.head _)) Aa) T3 Aa) (by kernel_rfl) Aa fun a F => ?_
 refine Bh (R := []) F Aa Aa (yC fun M Z hN hZ => Ab CF Aa Aa Aa T3 F Aa 4 Aa) Aa Aa fun a F => ?_
 refine Bh (R := [16, 15]) F Aa Aa (yC fun M Z hN hZ => BA (cs := [.int .i64 p1.1, .int .i64 p1.2.1, .int .i64 p1.2.2.1, .int .i64 p1.2.2.2.1, .int .i64 p1.2.2.2.2.1, .int .i64 p1.2.2.2.2.2]) (v := Value.int .i64 p1.2.2.2.2.1) F Aa (hN ((some 16), b1, [.int .i64 p1.1, .int .i64 p1.2.1, .int .i64 p1.2.2.1, .int .i64 p1.2.2.2.1, .int .i64 p1.2.2.2.2.1, .int .i64 p1.2.2.2.2.2]) (.tail _ (.head _)) Aa) T3 Aa) (by kernel_rfl) Aa fun a F => ?_
 refine Bh (R := []) F Aa Aa (yC fun M Z hN hZ => Ab CF Aa Aa Aa T3 F Aa 5 Aa) Aa Aa fun a F => ?_
 refine Bh (R := [16, 15]) F Aa Aa (yC fun M Z hN hZ => BA (cs := [.int .i64 p1.1, .int .i64 p1.2.1, .int .i64 p1.2.2.1, .int .i64 p1.2.2.2.1, .int .i64 p1.2.2.2.2.1, .int .i64 p1.2.2.2.2.2]) (v := Value.int .i64 p1.2.2.2.2.2) F Aa (hN ((some 16), b1, [.int .i64 p1.1, .int .i64 p1.2.1, .int .i64 p1.2.2.1, .int .i64 p1.2.2.2.1, .int .i64 p1.2.2.2.2.1, .int .i64 p1.2.2.2.2.2]) (.tail _ (.head _)) Aa) T3 Aa) (by kernel_rfl) Aa fun a F => ?_
 refine Bh (R := []) F Aa Aa (yC fun M Z hN hZ => Ab CF Aa Aa Aa T3 F Aa 1 Aa) Aa Aa fun a F => ?_
 refine Bh (R := [16, 15]) F Aa Aa (yC fun M Z hN hZ => BA (cs := [.int .i64 p1.1, .int .i64 p1.2.1, .int .i64 p1.2.2.1, .int .i64 p1.2.2.2.1, .int .i64 p1.2.2.2.2.1, .int .i64 p1.2.2.2.2.2]) (v := Value.int .i64 p1.2.1) F Aa (hN ((some 16), b1, [.int .i64 p1.1, .int .i64 p1.2.1, .int .i64 p1.2.2.1, .int .i64 p1.2.2.2.1, .int .i64 p1.2.2.2.2.1, .int .i64 p1.2.2.2.2.2]) (.tail _ (.head _)) Aa) T3 Aa) (by kernel_rfl) Aa fun a F => ?_
 refine Bh (R := []) F Aa Aa (yC fun M Z hN hZ => Ab CF Aa Aa Aa T3 F Aa 1 Aa) Aa Aa fun a F => ?_
 refine Bh (R := [16, 15]) F Aa Aa (yC fun M Z hN hZ => BA (cs := [.int .i64 p1.1, .int .i64 p1.2.1, .int .i64 p1.2.2.1, .int .i64 p1.2.2.2.1, .int .i64 p1.2.2.2.2.1, .int .i64 p1.2.2.2.2.2]) (v := Value.int .i64 p1.2.1) F Aa (hN ((some 16), b1, [.int .i64 p1.1, .int .i64 p1.2.1, .int .i64 p1.2.2.1, .int .i64 p1.2.2.2.1, .int .i64 p1.2.2.2.2.1, .int .i64 p1.2.2.2.2.2]) (.tail _ (.head _)) Aa) T3 Aa) (by kernel_rfl) Aa fun a F => ?_
 refine Bh (R := []) F Aa Aa (yC fun M Z hN hZ => Cp (v := Value.agg #[.int .i64 p1.2.2.1, .int .i64 p1.2.2.2.2.1, .int .i64 p1.2.2.2.2.2, .int .i64 p1.2.1, .slice none 0 0, .int .i64 0, .int .i64 0, .int .i64 p1.2.1]) Ix F Aa Aa Aa) Aa Aa fun a F => ?_
 refine Em Aa ?_
 have W := W.addEmp
 have W := W.addEmp
 have W := W.pairZ (D := (Dp.fl 1 (fun a => [.int .i64 a]) (fun _ => rfl))) (E := (Dp.fl 1 (fun a => [.int .i64 a]) (fun _ => rfl))) (p := 0) (q := p1.2.1)
 have W := W.addEmp
 have W := W.pairZ (D := (Dp.fl 1 (fun a => [.int .i64 a]) (fun _ => rfl))) (E := (Dp.pair (Dp.fl 1 (fun a => [.int .i64 a]) (fun _ => rfl)) (Dp.fl 1 (fun a => [.int .i64 a]) (fun _ => rfl)))) (p := 0) (q := (0, p1.2.1))
 have W := W.nlZ (Nl.sl (e' := 3) (r := (Rp.int .i64)))
 have W := W.pairZ (D := (Dp.sl 3 (Rp.int .i64))) (E := (Dp.pair (Dp.fl 1 (fun a => [.int .i64 a]) (fun _ => rfl)) (Dp.pair (Dp.fl 1 (fun a => [.int .i64 a]) (fun _ => rfl)) (Dp.fl 1 (fun a => [.int .i64 a]) (fun _ => rfl))))) (p := (Value.slice none 0 0, 2, [])) (q := (0, 0, p1.2.1))
 have W := W.addEmp
 have W := W.pairZ (D := (Dp.fl 1 (fun a => [.int .i64 a]) (fun _ => rfl))) (E := (Dp.pair (Dp.sl 3 (Rp.int .i64)) (Dp.pair (Dp.fl 1 (fun a => [.int .i64 a]) (fun _ => rfl)) (Dp.pair (Dp.fl 1 (fun a => [.int .i64 a]) (fun _ => rfl)) (Dp.fl 1 (fun a => [.int .i64 a]) (fun _ => rfl)))))) (p := p1.2.1) (q := ((Value.slice none 0 0, 2, []), 0, 0, p1.2.1))
 have W := W.addEmp
 have W := W.pairZ (D := (Dp.fl 1 (fun a => [.int .i64 a]) (fun _ => rfl))) (E := (Dp.pair (Dp.fl 1 (fun a => [.int .i64 a]) (fun _ => rfl)) (Dp.pair (Dp.sl 3 (Rp.int .i64)) (Dp.pair (Dp.fl 1 (fun a => [.int .i64 a]) (fun _ => rfl)) (Dp.pair (Dp.fl 1 (fun a => [.int .i64 a]) (fun _ => rfl)) (Dp.fl 1 (fun a => [.int .i64 a]) (fun _ => rfl))))))) (p := p1.2.2.2.2.2) (q := (p1.2.1, (Value.slice none 0 0, 2, []), 0, 0, p1.2.1))
 have W := W.addEmp
 have W := W.pairZ (D := (Dp.fl 1 (fun a => [.int .i64 a]) (fun _ => rfl))) (E := (Dp.pair (Dp.fl 1 (fun a => [.int .i64 a]) (fun _ => rfl)) (Dp.pair (Dp.fl 1 (fun a => [.int .i64 a]) (fun _ => rfl)) (Dp.pair (Dp.sl 3 (Rp.int .i64)) (Dp.pair (Dp.fl 1 (fun a => [.int .i64 a]) (fun _ => rfl)) (Dp.pair (Dp.fl 1 (fun a => [.int .i64 a]) (fun _ => rfl)) (Dp.fl 1 (fun a => [.int .i64 a]) (fun _ => rfl)))))))) (p := p1.2.2.2.2.1) (q := (p1.2.2.2.2.2, p1.2.1, (Value.slice none 0 0, 2, []), 0, 0, p1.2.1))
 have W := W.addEmp
 have W := W.pairZ (D := (Dp.fl 1 (fun a => [.int .i64 a]) (fun _ => rfl))) (E := (Dp.pair (Dp.fl 1 (fun a => [.int .i64 a]) (fun _ => rfl)) (Dp.pair (Dp.fl 1 (fun a => [.int .i64 a]) (fun _ => rfl)) (Dp.pair (Dp.fl 1 (fun a => [.int .i64 a]) (fun _ => rfl)) (Dp.pair (Dp.sl 3 (Rp.int .i64)) (Dp.pair (Dp.fl 1 (fun a => [.int .i64 a]) (fun _ => rfl)) (Dp.pair (Dp.fl 1 (fun a => [.int .i64 a]) (fun _ => rfl)) (Dp.fl 1 (fun a => [.int .i64 a]) (fun _ => rfl))))))))) (p := p1.2.2.1) (q := (p1.2.2.2.2.1, p1.2.2.2.2.2, p1.2.1, (Value.slice none 0 0, 2, []), 0, 0, p1.2.1))
 refine EB (z := Value.agg #[.int .i64 0, .int .i64 0, .int .i64 0, .int .i64 0, .slice none 0 0, .int .i64 0, .int .i64 0, .int .i64 0]) (cs := [.int .i64 p1.2.2.1, .int .i64 p1.2.2.2.2.1, .int .i64 p1.2.2.2.2.2, .int .i64 p1.2.1, .slice none 0 0, .int .i64 0, .int .i64 0, .int .i64 p1.2.1]) AA.hr ([(p1.2.2.1, p1.2.2.2.2.1, p1.2.2.2.2.2, p1.2.1, (Value.slice none 0 0, 2, []), 0, 0, p1.2.1)] : List (Int × Int × Int × Int × (Value × Nat × List Int) × Int × Int × Int)) F W Aa Hw Im Aa Aa Aa (Bc Aa Aa Aa D8) Aa Aa ⟨[Value.int .i64 p1.2.2.1, Value.int .i64 p1.2.2.2.2.1, Value.int .i64 p1.2.2.2.2.2, Value.int .i64 p1.2.1, Value.slice none 0 0, Value.int .i64 0, Value.int .i64 0, Value.int .i64 p1.2.1], _, Aa, ⟨rfl, (Al Aa (Al Aa (Al Aa (Al Aa (Al Aa (Al Aa (Al Aa (Al Aa C4))))))))⟩, Aa⟩ fun v6 a w F W => ?_
 have W := Stw.dShutL (D := AA) (lx := ([(p1.2.2.1, p1.2.2.2.2.1, p1.2.2.2.2.2, p1.2.1, (Value.slice none 0 0, 2, []), 0, 0, p1.2.1)] : List (Int × Int × Int × Int × (Value × Nat × List Int) × Int × Int × Int))) W
 have h2 : List.map AO ([(p1.2.2.1, p1.2.2.2.2.1, p1.2.2.2.2.2, p1.2.1, (Value.slice none 0 0, 2, []), 0, 0, p1.2.1)] : List (Int × Int × Int × Int × (Value × Nat × List Int) × Int × Int × Int)) = ([(p1.2.2.1, p1.2.2.2.2.1, p1.2.2.2.2.2, p1.2.1, (2, []), 0, 0, p1.2.1)] : List (Int × Int × Int × Int × (Nat × List Int) × Int × Int × Int)) := Aa
 have W : Stw ⟨Y, X, w0⟩ [(q_p0, [v1, .map (some m_v2), v5]), (b1, [.int .i64 p1.1, .int .i64 p1.2.1, .int .i64 p1.2.2.1, .int .i64 p1.2.2.2.1, .int .i64 p1.2.2.2.2.1, .int .i64 p1.2.2.2.2.2])] [Aw v6 34 AA ([(p1.2.2.1, p1.2.2.2.2.1, p1.2.2.2.2.2, p1.2.1, (Value.slice none 0 0, 2, []), 0, 0, p1.2.1)] : List (Int × Int × Int × Int × (Value × Nat × List Int) × Int × Int × Int)), mp m_v2 AF AF (BU p0.2.1 p1.2.2.1 (p0.1.length : Int)), row v5 3 (Rp.int .i64) x1, row v4 3 (Rp.int .i64) ([(Aj p0 p1.2.2.1)] : List Int), Aw v1 34 AA d_v1.1] w := W
 refine BJ (N2 := []) (NZ2 := []) (N3 := [(some 17, q_p0, [v1, .map (some m_v2), v5]), (some 16, b1, [.int .i64 p1.1, .int .i64 p1.2.1, .int .i64 p1.2.2.1, .int .i64 p1.2.2.2.1, .int .i64 p1.2.2.2.2.1, .int .i64 p1.2.2.2.2.2])]) (NZ3 := []) W Aa Aa (all_cons (fun _ => (.head _)) (all_cons (fun h => AM (by kernel_rfl) h) As)) As ?_
 refine Em Aa ?_
 have W := W.frontZ (i := 4) Aa Aa
 obtain ⟨x2, h3, H⟩ := Am H
 refine Fq (D := AA) F W Aa Hw Aa Aa (GG (er := AO) d_v1.2 h2 h3).1 Aa fun v7 a w F W => ?_
 have h4 : List.map AO (d_v1.1 ++ ([(p1.2.2.1, p1.2.2.2.2.1, p1.2.2.2.2.2, p1.2.1, (Value.slice none 0 0, 2, []), 0, 0, p1.2.1)] : List (Int × Int × Int × Int × (Value × Nat × List Int) × Int × Int × Int))) = x2 := (GG (er := AO) d_v1.2 h2 h3).2
 have W : Stw ⟨Y, X, w0⟩ [(q_p0, [v1, .map (some m_v2), v5]), (b1, [.int .i64 p1.1, .int .i64 p1.2.1, .int .i64 p1.2.2.1, .int .i64 p1.2.2.2.1, .int .i64 p1.2.2.2.2.1, .int .i64 p1.2.2.2.2.2])] [Aw v7 34 AA (d_v1.1 ++ ([(p1.2.2.1, p1.2.2.2.2.1, p1.2.2.2.2.2, p1.2.1, (Value.slice none 0 0, 2, []), 0, 0, p1.2.1)] : List (Int × Int × Int × Int × (Value × Nat × List Int) × Int × Int × Int))), mp m_v2 AF AF (BU p0.2.1 p1.2.2.1 (p0.1.length : Int)), row v5 3 (Rp.int .i64) x1, row v4 3 (Rp.int .i64) ([(Aj p0 p1.2.2.1)] : List Int)] w := W
 refine BJ (N2 := []) (NZ2 := []) (N3 := [(some 17, q_p0, [v1, .map (some m_v2), v5]), (some 16, b1, [.int .i64 p1.1, .int .i64 p1.2.1, .int .i64 p1.2.2.1, .int .i64 p1.2.2.2.1, .int .i64 p1.2.2.2.2.1, .int .i64 p1.2.2.2.2.2])]) (NZ3 := []) W Aa Aa (all_cons (fun h => AM (by kernel_rfl) h) (all_cons (fun h => AM (by kernel_rfl) h) As)) As ?_
 refine Bh (R := []) F Aa Aa (yC fun M Z hN hZ => AB F Aa) Aa Aa fun a F => ?_
 refine Bh (R := []) F Aa Aa (yC fun M Z hN hZ => Ab DK Aa Aa Aa GI F Aa 0 Aa) Aa Aa fun a F => ?_
 refine Em Aa ?_
 refine Fd (M' := [(q_p0, [v7, .map (some m_v2), v5]), (b1, [.int .i64 p1.1, .int .i64 p1.2.1, .int .i64 p1.2.2.1, .int .i64 p1.2.2.2.1, .int .i64 p1.2.2.2.2.1, .int .i64 p1.2.2.2.2.2])]) 0 F W Aa Aa Aa GI (W.oneD 0 Aa) Aa Aa fun w W => ?_
 refine BJ (N2 := []) (NZ2 := []) (N3 := [(some 17, q_p0, [v1, .map (some m_v2), v5]), (some 16, b1, [.int .i64 p1.1, .int .i64 p1.2.1, .int .i64 p1.2.2.1, .int .i64 p1.2.2.2.1, .int .i64 p1.2.2.2.2.1, .int .i64 p1.2.2.2.2.2])]) (NZ3 := []) W Aa Aa (all_cons (fun h => AM (by kernel_rfl) h) (all_cons (fun h => AM (by kernel_rfl) h) As)) As ?_
 refine Fn ?_
 have H := Bf H
 subst H
 refine DX (.inr Aa) F Aa ?_
 have W := W.frontZ (i := 1) Aa Aa
 have W := W.frontZ (i := 2) Aa Aa
 have W := W.frontZ (i := 2) Aa Aa
 have W := W.sub (M' := [(q_p0, [v7, .map (some m_v2), v5])]) (Z' := [Aw v7 34 AA (d_v1.1 ++ ([(p1.2.2.1, p1.2.2.2.2.1, p1.2.2.2.2.2, p1.2.1, (Value.slice none 0 0, 2, []), 0, 0, p1.2.1)] : List (Int × Int × Int × Int × (Value × Nat × List Int) × Int × Int × Int))), row v5 3 (Rp.int .i64) x1, mp m_v2 AF AF (BU p0.2.1 p1.2.2.1 (p0.1.length : Int))]) (List.Sublist.cons_cons _ (List.nil_sublist _)) (List.Sublist.cons_cons _ (List.Sublist.cons_cons _ (List.Sublist.cons_cons _ (List.nil_sublist _))))
 exact ⟨((v7), ⟨(d_v1.1 ++ ([(p1.2.2.1, p1.2.2.2.2.1, p1.2.2.2.2.2, p1.2.1, (Value.slice none 0 0, 2, []), 0, 0, p1.2.1)] : List (Int × Int × Int × Int × (Value × Nat × List Int) × Int × Int × Int))), h4⟩, (v5)), Aa, W⟩
theorem IA : Has Tryd.prog 22 := ⟨fun args w => Ao Tryd.func22 rfl (by decide) args w⟩
noncomputable def AV (p0 : (List (Int × Int × Int × Int × (Nat × List Int) × Int × Int × Int)) × (List (Int × Int)) × List Int) (p1 : Int) (p2 : Int × Int × Int × Int × Int × Int) : Option ((List (Int × Int × Int × Int × (Nat × List Int) × Int × Int × Int)) × (List (Int × Int)) × List Int) := (ix p0.1 p1).bind fun x1 => (ix p0.1 p1).bind fun x2 => (if p2.1 = 2 then (ix (Ak p0.1 p1 (x2.1, x2.2.1, x2.2.2.1, x2.2.2.2.1, x2.2.2.2.2.1, x2.2.2.2.2.2.1, x2.2.2.2.2.2.2.1, p2.2.1)) p1).bind fun x3 => (Hc x3.2.2.2.2.1.1).bind fun x4 => (CL x3.2.2.2.2.1.2 ([p2.2.2.2.1] : List Int)).bind fun x5 => (ix (Ak (Ak p0.1 p1 (x2.1, x2.2.1, x2.2.2.1, x2.2.2.2.1, x2.2.2.2.2.1, x2.2.2.2.2.2.1, x2.2.2.2.2.2.2.1, p2.2.1)) p1 (x3.1, x3.2.1, x3.2.2.1, x3.2.2.2.1, (0, []), x3.2.2.2.2.2.1, x3.2.2.2.2.2.2.1, x3.2.2.2.2.2.2.2)) p1).bind fun x6 => some ((Ak (Ak (Ak p0.1 p1 (x2.1, x2.2.1, x2.2.2.1, x2.2.2.2.1, x2.2.2.2.2.1, x2.2.2.2.2.2.1, x2.2.2.2.2.2.2.1, p2.2.1)) p1 (x3.1, x3.2.1, x3.2.2.1, x3.2.2.2.1, (0, []), x3.2.2.2.2.2.1, x3.2.2.2.2.2.2.1, x3.2.2.2.2.2.2.2)) p1 (x6.1, x6.2.1, x6.2.2.1, x6.2.2.2.1, (2, x5), x6.2.2.2.2.2.1, x6.2.2.2.2.2.2.1, x6.2.2.2.2.2.2.2)), p0.2.1, p0.2.2) else (ix (Ak p0.1 p1 (x2.1, x2.2.1, x2.2.2.1, x2.2.2.2.1, x2.2.2.2.2.1, x2.2.2.2.2.2.1, x2.2.2.2.2.2.2.1, p2.2.1)) p1).bind fun x7 => (if p2.1 = 3 then (ix (Ak (Ak p0.1 p1 (x2.1, x2.2.1, x2.2.2.1, x2.2.2.2.1, x2.2.2.2.2.1, x2.2.2.2.2.2.1, x2.2.2.2.2.2.2.1, p2.2.1)) p1 (x7.1, x7.2.1, x7.2.2.1, x7.2.2.2.1, x7.2.2.2.2.1, p2.1, x7.2.2.2.2.2.2.1, x7.2.2.2.2.2.2.2)) p1).bind fun x9 => some (Ak (Ak (Ak p0.1 p1 (x2.1, x2.2.1, x2.2.2.1, x2.2.2.2.1, x2.2.2.2.2.1, x2.2.2.2.2.2.1, x2.2.2.2.2.2.2.1, p2.2.1)) p1 (x7.1, x7.2.1, x7.2.2.1, x7.2.2.2.1, x7.2.2.2.2.1, p2.1, x7.2.2.2.2.2.2.1, x7.2.2.2.2.2.2.2)) p1 (x9.1, x9.2.1, x9.2.2.1, x9.2.2.2.1, x9.2.2.2.2.1, x9.2.2.2.2.2.1, p2.2.2.2.2.1, x9.2.2.2.2.2.2.2)) else some (Ak (Ak p0.1 p1 (x2.1, x2.2.1, x2.2.2.1, x2.2.2.2.1, x2.2.2.2.2.1, x2.2.2.2.2.2.1, x2.2.2.2.2.2.2.1, p2.2.1)) p1 (x7.1, x7.2.1, x7.2.2.1, x7.2.2.2.1, x7.2.2.2.2.1, p2.1, x7.2.2.2.2.2.2.1, x7.2.2.2.2.2.2.2))).bind fun x8 => (ix p0.2.2 p1).bind fun x10 => some (x8, BU p0.2.1 p2.2.2.1 x10, p0.2.2))
theorem Da (Y : Nat → Prop) (X : List Nat) (w0 : World) (q_p0 : Nat) (v1 : Value) (m_v2 : Nat) (v3 : Value) (p0 : (List (Int × Int × Int × Int × (Nat × List Int) × Int × Int × Int)) × (List (Int × Int)) × List Int) (p1 : Int) (p2 : Int × Int × Int × Int × Int × Int) (d_v1 : {x : List (Int × Int × Int × Int × (Value × Nat × List Int) × Int × Int × Int) // x.map AO = p0.1}) (r : ((List (Int × Int × Int × Int × (Nat × List Int) × Int × Int × Int)) × (List (Int × Int)) × List Int)) (H : AV p0 p1 p2 = some r) (hL : Stw ⟨Y, X, w0⟩ [(q_p0, [v1, .map (some m_v2), v3])] [Aw v1 34 AA d_v1.1, row v3 3 (Rp.int .i64) p0.2.2, mp m_v2 AF AF p0.2.1] w0) :
    Calls Tryd.prog 24 #[.pointer (some ⟨q_p0, 0, none⟩), .int .i64 p1, .agg #[.int .i64 p2.1, .int .i64 p2.2.1, .int .i64 p2.2.2.1, .int .i64 p2.2.2.2.1, .int .i64 p2.2.2.2.2.1, .int .i64 p2.2.2.2.2.2]] w0 fun e w' => ∃ x : Value × ({x : List (Int × Int × Int × Int × (Value × Nat × List Int) × Int × Int × Int) // x.map AO = r.1}) × Value, e = .returned (.tuple #[]) ∧ Stw ⟨Y, X, w0⟩ [(q_p0, [x.1, .map (some m_v2), x.2.2])] [Aw (x.1) 34 AA (x.2.1.1), row (x.2.2) 3 (Rp.int .i64) r.2.2, mp m_v2 AF AF r.2.1] w' := by
 refine enter Tryd.func24 Aa Tryd.ntmps24 Aa fun a F => ?_
 have W := hL
 unfold AV at H
 refine Ai (Ac ?_)
 refine DH (cs := [.int .i64 p2.1, .int .i64 p2.2.1, .int .i64 p2.2.2.1, .int .i64 p2.2.2.2.1, .int .i64 p2.2.2.2.2.1, .int .i64 p2.2.2.2.2.2]) F W Aa Aa Aa fun b1 a w F W => ?_
 refine Ae (Ad (Ai (Ac ?_)))
 refine ls F W Aa (Ag F Aa).q fun a w F W => ?_
 refine ls F W Aa (AB F Aa).q fun a w F W => ?_
 refine ls F W Aa (Ab DK Aa Aa Aa GI F Aa 0 Aa).q fun a w F W => ?_
 refine ls F W Aa (Ap (v := v1) 1 F Aa Aa GI Aa).q fun a w F W => ?_
 refine ls F W Aa (Ag F Aa).q fun a w F W => ?_
 obtain ⟨x1, h1, H⟩ := Am H
 obtain ⟨v4, h2, h3⟩ := Cm (er := AO) d_v1.2 h1
 refine ls F W Aa (A0 (r := AA.hr) Hw F Aa Aa (FT.hd (EW 0 Aa)) h2).q fun a w F W => ?_
 refine ls F W Aa (Ah F Aa).q fun a w F W => ?_
 refine Ae (Ad (Ai (Ac ?_)))
 refine ls F W Aa (Ag F Aa).q fun a w F W => ?_
 refine ls F W Aa (Ab CF Aa Aa Aa T3 F Aa 1 Aa).q fun a w F W => ?_
 refine ls F W Aa (Ap (v := Value.int .i64 p2.2.1) 0 F Aa Aa T3 Aa).q fun a w F W => ?_
 refine ls F W Aa (AB F Aa).q fun a w F W => ?_
 refine ls F W Aa (Ab BM Aa Aa Aa T3 F Aa (Cg v1 + (p1).toNat * 8 + 7) Aa).q fun a w F W => ?_
 obtain ⟨x2, h4, H⟩ := Am H
 obtain ⟨v5, h5, h6⟩ := Cm (er := AO) d_v1.2 h4
 refine Dg (D := AA) (i := p1) (j := 7) (vs := [.int .i64 p2.2.1]) (x' := (v5.1, v5.2.1, v5.2.2.1, v5.2.2.2.1, v5.2.2.2.2.1, v5.2.2.2.2.2.1, v5.2.2.2.2.2.2.1, p2.2.1)) F W Aa Aa Aa h5 T3 Aa Aa Aa Aa Aa Aa fun w W => ?_
 have h7 : List.map AO (Ak d_v1.1 p1 (v5.1, v5.2.1, v5.2.2.1, v5.2.2.2.1, v5.2.2.2.2.1, v5.2.2.2.2.2.1, v5.2.2.2.2.2.2.1, p2.2.1)) = (Ak p0.1 p1 (x2.1, x2.2.1, x2.2.2.1, x2.2.2.2.1, x2.2.2.2.2.1, x2.2.2.2.2.2.1, x2.2.2.2.2.2.2.1, p2.2.1)) := (D3 d_v1.2 (congrArg (fun q : Int × Int × Int × Int × (Nat × List Int) × Int × Int × Int => (q.1, q.2.1, q.2.2.1, q.2.2.2.1, q.2.2.2.2.1, q.2.2.2.2.2.1, q.2.2.2.2.2.2.1, p2.2.1)) h6))
 have W : Stw ⟨Y, X, w0⟩ [(b1, [.int .i64 p2.1, .int .i64 p2.2.1, .int .i64 p2.2.2.1, .int .i64 p2.2.2.2.1, .int .i64 p2.2.2.2.2.1, .int .i64 p2.2.2.2.2.2]), (q_p0, [v1, .map (some m_v2), v3])] [Aw v1 34 AA (Ak d_v1.1 p1 (v5.1, v5.2.1, v5.2.2.1, v5.2.2.2.1, v5.2.2.2.2.1, v5.2.2.2.2.2.1, v5.2.2.2.2.2.2.1, p2.2.1)), row v3 3 (Rp.int .i64) p0.2.2, mp m_v2 AF AF p0.2.1] w := W
 refine Ae (Ad (Ai (Ai (Ac ?_))))
 refine ls F W Aa (Ab CF Aa Aa Aa T3 F Aa 0 Aa).q fun a w F W => ?_
 refine ls F W Aa (Ap (v := Value.int .i64 p2.1) 0 F Aa Aa T3 Aa).q fun a w F W => ?_
 refine ls F W Aa (CR F Aa Aa).q fun a w F W => ?_
 refine Ae (Ad ?_)
 refine AJ F Aa (fun hb => ?_) fun hb => ?_
 ·
  have H := A9 (Bj hb) H
  rw [hb] at F
  clear hb
  refine Ai ?_
  refine D6 [(true, 0), (true, 1), (true, 2), (true, 3), (true, 4), (true, 5), (true, 6), (false, 7), (false, 8), (true, 9), (true, 10), (false, 11)] (CN ⟨Y, X, w0⟩ [(some 7, b1, [.int .i64 p2.1, .int .i64 p2.2.1, .int .i64 p2.2.2.1, .int .i64 p2.2.2.2.1, .int .i64 p2.2.2.2.2.1, .int .i64 p2.2.2.2.2.2])] [(some 8, Aw v1 34 AA (Ak d_v1.1 p1 (v5.1, v5.2.1, v5.2.2.1, v5.2.2.2.1, v5.2.2.2.2.1, v5.2.2.2.2.2.1, v5.2.2.2.2.2.2.1, p2.2.1)))]) (fun ch a d v w h => by cases d <;> exact h) MO (by kernel_rfl) W (fun w W => ⟨_, _, W, (all_cons (fun _ => (.head _)) As), (all_cons (fun _ => (.head _)) As)⟩) fun w W => ?_
  iterate 2 refine Bh (R := []) F Aa Aa (yC fun M Z hN hZ => Ag F Aa) Aa Aa fun a F => ?_
  refine Bh (R := []) F Aa Aa (yC fun M Z hN hZ => AB F Aa) Aa Aa fun a F => ?_
  refine Bh (R := []) F Aa Aa (yC fun M Z hN hZ => Ab BM Aa Aa Aa DU F Aa (Cg v1 + (p1).toNat * 8 + 4) Aa) Aa Aa fun a F => ?_
  obtain ⟨x3, h8, H⟩ := Am H
  obtain ⟨v6, h9, h10⟩ := Cm (er := AO) h7 h8
  have h11 : AA.cells v6 = [.int .i64 x3.1, .int .i64 x3.2.1, .int .i64 x3.2.2.1, .int .i64 x3.2.2.2.1, (v6.2.2.2.2.1.1), .int .i64 x3.2.2.2.2.2.1, .int .i64 x3.2.2.2.2.2.2.1, .int .i64 x3.2.2.2.2.2.2.2] := congrArg (fun q : Int × Int × Int × Int × (Nat × List Int) × Int × Int × Int => ([.int .i64 q.1, .int .i64 q.2.1, .int .i64 q.2.2.1, .int .i64 q.2.2.2.1, (v6.2.2.2.2.1.1), .int .i64 q.2.2.2.2.2.1, .int .i64 q.2.2.2.2.2.2.1, .int .i64 q.2.2.2.2.2.2.2] : List Value)) h10
  refine Bh (R := [8]) F Aa Aa (yC fun M Z hN hZ => AD (y := (v6.2.2.2.2.1.1)) (j := 4) (i := p1) (enc := AA.cells) F Aa Aa (FT.hd (HQ (hZ ((some 8), Aw v1 34 AA (Ak d_v1.1 p1 (v5.1, v5.2.1, v5.2.2.1, v5.2.2.2.1, v5.2.2.2.2.1, v5.2.2.2.2.2.1, v5.2.2.2.2.2.2.1, p2.2.1))) (.head _) Aa))) h9 AA.flat DU (by rw [h11]; rfl)) (by kernel_rfl) Aa fun a F => ?_
  refine Bh (R := []) F Aa Aa (yC fun M Z hN hZ => Ab CF Aa Aa Aa T3 F Aa 3 Aa) Aa Aa fun a F => ?_
  refine Bh (R := [7]) F Aa Aa (yC fun M Z hN hZ => BA (cs := [.int .i64 p2.1, .int .i64 p2.2.1, .int .i64 p2.2.2.1, .int .i64 p2.2.2.2.1, .int .i64 p2.2.2.2.2.1, .int .i64 p2.2.2.2.2.2]) (v := Value.int .i64 p2.2.2.2.1) F Aa (hN ((some 7), b1, [.int .i64 p2.1, .int .i64 p2.2.1, .int .i64 p2.2.2.1, .int .i64 p2.2.2.2.1, .int .i64 p2.2.2.2.2.1, .int .i64 p2.2.2.2.2.2]) (.head _) Aa) T3 Aa) (by kernel_rfl) Aa fun a F => ?_
  refine Em Aa ?_
  refine EB (z := Value.int .i64 0) (cs := [.int .i64 p2.2.2.2.1]) (Rp.int .i64) ([p2.2.2.2.1] : List Int) F W Aa G2 Z3 Aa Aa Aa Aa Aa Aa (Fl.int.repL _ _ ([p2.2.2.2.1] : List Int)) fun v7 a w F W => ?_
  refine BJ (N2 := []) (NZ2 := []) (N3 := [(some 7, b1, [.int .i64 p2.1, .int .i64 p2.2.1, .int .i64 p2.2.2.1, .int .i64 p2.2.2.2.1, .int .i64 p2.2.2.2.2.1, .int .i64 p2.2.2.2.2.2])]) (NZ3 := [(some 8, Aw v1 34 AA (Ak d_v1.1 p1 (v5.1, v5.2.1, v5.2.2.1, v5.2.2.2.1, v5.2.2.2.2.1, v5.2.2.2.2.2.1, v5.2.2.2.2.2.2.1, p2.2.1)))]) W Aa Aa (all_cons (fun h => AM (by kernel_rfl) h) As) (all_cons (fun _ => (.tail _ (.head _))) As) ?_
  refine Em Aa ?_
  obtain ⟨x4, h12, H⟩ := Am H
  have W := W.frontZ (i := 1) Aa Aa
  have W := W.dTakeR h9 (Foc.snd (Foc.snd (Foc.snd (Foc.snd (Foc.fst Foc.here))))) ((congrArg (fun q : Int × Int × Int × Int × (Nat × List Int) × Int × Int × Int => q.2.2.2.2.1) h10).trans (Prod.ext (G5 h12) Aa))
  have h13 : List.map AO (Ak (Ak d_v1.1 p1 (v5.1, v5.2.1, v5.2.2.1, v5.2.2.2.1, v5.2.2.2.2.1, v5.2.2.2.2.2.1, v5.2.2.2.2.2.2.1, p2.2.1)) p1 (v6.1, v6.2.1, v6.2.2.1, v6.2.2.2.1, ((v6.2.2.2.2.1.1), 0, []), v6.2.2.2.2.2.1, v6.2.2.2.2.2.2.1, v6.2.2.2.2.2.2.2)) = (Ak (Ak p0.1 p1 (x2.1, x2.2.1, x2.2.2.1, x2.2.2.2.1, x2.2.2.2.2.1, x2.2.2.2.2.2.1, x2.2.2.2.2.2.2.1, p2.2.1)) p1 (x3.1, x3.2.1, x3.2.2.1, x3.2.2.2.1, (0, []), x3.2.2.2.2.2.1, x3.2.2.2.2.2.2.1, x3.2.2.2.2.2.2.2)) := (D3 h7 (congrArg (fun q : Int × Int × Int × Int × (Nat × List Int) × Int × Int × Int => (q.1, q.2.1, q.2.2.1, q.2.2.2.1, (0, []), q.2.2.2.2.2.1, q.2.2.2.2.2.2.1, q.2.2.2.2.2.2.2)) h10))
  have W : Stw ⟨Y, X, w0⟩ [(b1, [.int .i64 p2.1, .int .i64 p2.2.1, .int .i64 p2.2.2.1, .int .i64 p2.2.2.2.1, .int .i64 p2.2.2.2.2.1, .int .i64 p2.2.2.2.2.2]), (q_p0, [v1, .map (some m_v2), v3])] [row (v6.2.2.2.2.1.1) 3 (Rp.int .i64) x3.2.2.2.2.1.2, Aw v1 34 AA (Ak (Ak d_v1.1 p1 (v5.1, v5.2.1, v5.2.2.1, v5.2.2.2.1, v5.2.2.2.2.1, v5.2.2.2.2.2.1, v5.2.2.2.2.2.2.1, p2.2.1)) p1 (v6.1, v6.2.1, v6.2.2.1, v6.2.2.2.1, ((v6.2.2.2.2.1.1), 0, []), v6.2.2.2.2.2.1, v6.2.2.2.2.2.2.1, v6.2.2.2.2.2.2.2)), row v7 3 (Rp.int .i64) ([p2.2.2.2.1] : List Int), row v3 3 (Rp.int .i64) p0.2.2, mp m_v2 AF AF p0.2.1] w := W
  obtain ⟨x5, h14, H⟩ := Am H
  refine Cx (r := (Rp.int .i64)) (i := 0) F W Aa G2 Aa Aa Aa Aa (Dw W 2 Aa) h14 Aa fun v8 a w F W => ?_
  have W : Stw ⟨Y, X, w0⟩ [(b1, [.int .i64 p2.1, .int .i64 p2.2.1, .int .i64 p2.2.2.1, .int .i64 p2.2.2.2.1, .int .i64 p2.2.2.2.2.1, .int .i64 p2.2.2.2.2.2]), (q_p0, [v1, .map (some m_v2), v3])] [row v8 3 (Rp.int .i64) x5, Aw v1 34 AA (Ak (Ak d_v1.1 p1 (v5.1, v5.2.1, v5.2.2.1, v5.2.2.2.1, v5.2.2.2.2.1, v5.2.2.2.2.2.1, v5.2.2.2.2.2.2.1, p2.2.1)) p1 (v6.1, v6.2.1, v6.2.2.1, v6.2.2.2.1, ((v6.2.2.2.2.1.1), 0, []), v6.2.2.2.2.2.1, v6.2.2.2.2.2.2.1, v6.2.2.2.2.2.2.2)), row v7 3 (Rp.int .i64) ([p2.2.2.2.1] : List Int), row v3 3 (Rp.int .i64) p0.2.2, mp m_v2 AF AF p0.2.1] w := W
  refine BJ (N2 := []) (NZ2 := []) (N3 := [(some 7, b1, [.int .i64 p2.1, .int .i64 p2.2.1, .int .i64 p2.2.2.1, .int .i64 p2.2.2.2.1, .int .i64 p2.2.2.2.2.1, .int .i64 p2.2.2.2.2.2])]) (NZ3 := [(some 8, Aw v1 34 AA (Ak d_v1.1 p1 (v5.1, v5.2.1, v5.2.2.1, v5.2.2.2.1, v5.2.2.2.2.1, v5.2.2.2.2.2.1, v5.2.2.2.2.2.2.1, p2.2.1)))]) W Aa Aa (all_cons (fun h => AM (by kernel_rfl) h) As) (all_cons (fun h => AM (by kernel_rfl) h) As) ?_
  refine Bh (R := []) F Aa Aa (yC fun M Z hN hZ => AB F Aa) Aa Aa fun a F => ?_
  refine Bh (R := []) F Aa Aa (yC fun M Z hN hZ => Ab BM Aa Aa Aa DU F Aa (Cg v1 + (p1).toNat * 8 + 4) Aa) Aa Aa fun a F => ?_
  refine Em Aa ?_
  obtain ⟨x6, h15, H⟩ := Am H
  obtain ⟨v9, h16, h17⟩ := Cm (er := AO) h13 h15
  have h18 : Value.oneCell' v8 = true := (W.one (k := 0) Aa)
  have W := W.frontZ (i := 1) Aa Aa
  have W := W.frontZ (i := 1) Aa Aa
  have W := W.toR
  refine Fp (D := AA) (S := (Dp.sl 3 (Rp.int .i64))) (b := (v8, 2, x5)) (i := p1) (j := 4) (Foc.snd (Foc.snd (Foc.snd (Foc.snd (Foc.fst Foc.here))))) F W Aa Aa Aa h16 DU (Dy h18) Aa h18 Aa fun w W => ?_
  have h19 : List.map AO (Ak (Ak (Ak d_v1.1 p1 (v5.1, v5.2.1, v5.2.2.1, v5.2.2.2.1, v5.2.2.2.2.1, v5.2.2.2.2.2.1, v5.2.2.2.2.2.2.1, p2.2.1)) p1 (v6.1, v6.2.1, v6.2.2.1, v6.2.2.2.1, ((v6.2.2.2.2.1.1), 0, []), v6.2.2.2.2.2.1, v6.2.2.2.2.2.2.1, v6.2.2.2.2.2.2.2)) p1 (v9.1, v9.2.1, v9.2.2.1, v9.2.2.2.1, (v8, 2, x5), v9.2.2.2.2.2.1, v9.2.2.2.2.2.2.1, v9.2.2.2.2.2.2.2)) = (Ak (Ak (Ak p0.1 p1 (x2.1, x2.2.1, x2.2.2.1, x2.2.2.2.1, x2.2.2.2.2.1, x2.2.2.2.2.2.1, x2.2.2.2.2.2.2.1, p2.2.1)) p1 (x3.1, x3.2.1, x3.2.2.1, x3.2.2.2.1, (0, []), x3.2.2.2.2.2.1, x3.2.2.2.2.2.2.1, x3.2.2.2.2.2.2.2)) p1 (x6.1, x6.2.1, x6.2.2.1, x6.2.2.2.1, (2, x5), x6.2.2.2.2.2.1, x6.2.2.2.2.2.2.1, x6.2.2.2.2.2.2.2)) := (D3 h13 (congrArg (fun q : Int × Int × Int × Int × (Nat × List Int) × Int × Int × Int => (q.1, q.2.1, q.2.2.1, q.2.2.2.1, (2, x5), q.2.2.2.2.2.1, q.2.2.2.2.2.2.1, q.2.2.2.2.2.2.2)) h17))
  have W : Stw ⟨Y, X, w0⟩ [(b1, [.int .i64 p2.1, .int .i64 p2.2.1, .int .i64 p2.2.2.1, .int .i64 p2.2.2.2.1, .int .i64 p2.2.2.2.2.1, .int .i64 p2.2.2.2.2.2]), (q_p0, [v1, .map (some m_v2), v3])] [Aw v1 34 AA (Ak (Ak (Ak d_v1.1 p1 (v5.1, v5.2.1, v5.2.2.1, v5.2.2.2.1, v5.2.2.2.2.1, v5.2.2.2.2.2.1, v5.2.2.2.2.2.2.1, p2.2.1)) p1 (v6.1, v6.2.1, v6.2.2.1, v6.2.2.2.1, ((v6.2.2.2.2.1.1), 0, []), v6.2.2.2.2.2.1, v6.2.2.2.2.2.2.1, v6.2.2.2.2.2.2.2)) p1 (v9.1, v9.2.1, v9.2.2.1, v9.2.2.2.1, (v8, 2, x5), v9.2.2.2.2.2.1, v9.2.2.2.2.2.2.1, v9.2.2.2.2.2.2.2)), row v7 3 (Rp.int .i64) ([p2.2.2.2.1] : List Int), row v3 3 (Rp.int .i64) p0.2.2, mp m_v2 AF AF p0.2.1] w := W
  refine BJ (N2 := []) (NZ2 := []) (N3 := [(some 7, b1, [.int .i64 p2.1, .int .i64 p2.2.1, .int .i64 p2.2.2.1, .int .i64 p2.2.2.2.1, .int .i64 p2.2.2.2.2.1, .int .i64 p2.2.2.2.2.2])]) (NZ3 := [(some 8, Aw v1 34 AA (Ak d_v1.1 p1 (v5.1, v5.2.1, v5.2.2.1, v5.2.2.2.1, v5.2.2.2.2.1, v5.2.2.2.2.2.1, v5.2.2.2.2.2.2.1, p2.2.1)))]) W Aa Aa (all_cons (fun h => AM (by kernel_rfl) h) As) (all_cons (fun h => AM (by kernel_rfl) h) As) ?_
  refine Fn (Ad (AQ (Bx ?_)))
  have H := Bf H
  subst H
  refine DX (.inl Aa) F Aa ?_
  have W := W.frontZ (i := 3) Aa Aa
  have W := W.frontZ (i := 3) Aa Aa
  have W := W.frontZ (i := 2) Aa Aa
  have W := W.frontM (i := 1) Aa Aa
  have W := W.sub (M' := [(q_p0, [v1, .map (some m_v2), v3])]) (Z' := [Aw v1 34 AA (Ak (Ak (Ak d_v1.1 p1 (v5.1, v5.2.1, v5.2.2.1, v5.2.2.2.1, v5.2.2.2.2.1, v5.2.2.2.2.2.1, v5.2.2.2.2.2.2.1, p2.2.1)) p1 (v6.1, v6.2.1, v6.2.2.1, v6.2.2.2.1, ((v6.2.2.2.2.1.1), 0, []), v6.2.2.2.2.2.1, v6.2.2.2.2.2.2.1, v6.2.2.2.2.2.2.2)) p1 (v9.1, v9.2.1, v9.2.2.1, v9.2.2.2.1, (v8, 2, x5), v9.2.2.2.2.2.1, v9.2.2.2.2.2.2.1, v9.2.2.2.2.2.2.2)), row v3 3 (Rp.int .i64) p0.2.2, mp m_v2 AF AF p0.2.1]) (List.Sublist.cons_cons _ (List.nil_sublist _)) (List.Sublist.cons_cons _ (List.Sublist.cons_cons _ (List.Sublist.cons_cons _ (List.nil_sublist _))))
  exact ⟨((v1), ⟨(Ak (Ak (Ak d_v1.1 p1 (v5.1, v5.2.1, v5.2.2.1, v5.2.2.2.1, v5.2.2.2.2.1, v5.2.2.2.2.2.1, v5.2.2.2.2.2.2.1, p2.2.1)) p1 (v6.1, v6.2.1, v6.2.2.1, v6.2.2.2.1, ((v6.2.2.2.2.1.1), 0, []), v6.2.2.2.2.2.1, v6.2.2.2.2.2.2.1, v6.2.2.2.2.2.2.2)) p1 (v9.1, v9.2.1, v9.2.2.1, v9.2.2.2.1, (v8, 2, x5), v9.2.2.2.2.2.1, v9.2.2.2.2.2.2.1, v9.2.2.2.2.2.2.2)), h19⟩, (v3)), Aa, W⟩
 have H := A5 (Bi hb) H
 rw [hb] at F
 clear hb
 refine AC (Ad (Ai (Ac ?_)))
 refine ls F W Aa (Ag F Aa).q fun a w F W => ?_
 refine ls F W Aa (Ab CF Aa Aa Aa T3 F Aa 0 Aa).q fun a w F W => ?_
 refine ls F W Aa (Ap (v := Value.int .i64 p2.1) 0 F Aa Aa T3 Aa).q fun a w F W => ?_
 refine ls F W Aa (AB F Aa).q fun a w F W => ?_
 refine ls F W Aa (Ab BM Aa Aa Aa T3 F Aa (Cg v1 + (p1).toNat * 8 + 5) Aa).q fun a w F W => ?_
 obtain ⟨x7, h20, H⟩ := Am H
 obtain ⟨v10, h21, h22⟩ := Cm (er := AO) h7 h20
 refine Dg (D := AA) (i := p1) (j := 5) (vs := [.int .i64 p2.1]) (x' := (v10.1, v10.2.1, v10.2.2.1, v10.2.2.2.1, v10.2.2.2.2.1, p2.1, v10.2.2.2.2.2.2.1, v10.2.2.2.2.2.2.2)) F W Aa Aa Aa h21 T3 Aa Aa Aa Aa Aa Aa fun w W => ?_
 have h23 : List.map AO (Ak (Ak d_v1.1 p1 (v5.1, v5.2.1, v5.2.2.1, v5.2.2.2.1, v5.2.2.2.2.1, v5.2.2.2.2.2.1, v5.2.2.2.2.2.2.1, p2.2.1)) p1 (v10.1, v10.2.1, v10.2.2.1, v10.2.2.2.1, v10.2.2.2.2.1, p2.1, v10.2.2.2.2.2.2.1, v10.2.2.2.2.2.2.2)) = (Ak (Ak p0.1 p1 (x2.1, x2.2.1, x2.2.2.1, x2.2.2.2.1, x2.2.2.2.2.1, x2.2.2.2.2.2.1, x2.2.2.2.2.2.2.1, p2.2.1)) p1 (x7.1, x7.2.1, x7.2.2.1, x7.2.2.2.1, x7.2.2.2.2.1, p2.1, x7.2.2.2.2.2.2.1, x7.2.2.2.2.2.2.2)) := (D3 h7 (congrArg (fun q : Int × Int × Int × Int × (Nat × List Int) × Int × Int × Int => (q.1, q.2.1, q.2.2.1, q.2.2.2.1, q.2.2.2.2.1, p2.1, q.2.2.2.2.2.2.1, q.2.2.2.2.2.2.2)) h22))
 have W : Stw ⟨Y, X, w0⟩ [(b1, [.int .i64 p2.1, .int .i64 p2.2.1, .int .i64 p2.2.2.1, .int .i64 p2.2.2.2.1, .int .i64 p2.2.2.2.2.1, .int .i64 p2.2.2.2.2.2]), (q_p0, [v1, .map (some m_v2), v3])] [Aw v1 34 AA (Ak (Ak d_v1.1 p1 (v5.1, v5.2.1, v5.2.2.1, v5.2.2.2.1, v5.2.2.2.2.1, v5.2.2.2.2.2.1, v5.2.2.2.2.2.2.1, p2.2.1)) p1 (v10.1, v10.2.1, v10.2.2.1, v10.2.2.2.1, v10.2.2.2.2.1, p2.1, v10.2.2.2.2.2.2.1, v10.2.2.2.2.2.2.2)), row v3 3 (Rp.int .i64) p0.2.2, mp m_v2 AF AF p0.2.1] w := W
 refine Ae (Ad ?_)
 obtain ⟨o1, G1, K1⟩ := Am H
 refine Bq (fun a w => ∃ x8 : List (Int × Int × Int × Int × (Nat × List Int) × Int × Int × Int), ∃ g_x8 : {x : List (Int × Int × Int × Int × (Value × Nat × List Int) × Int × Int × Int) // x.map AO = x8}, some (x8) = some o1 ∧ Fr 58 [] [(0, .pointer (some ⟨q_p0, 0, none⟩)), (1, .int .i64 p1), (5, .pointer (some ⟨b1, 0, none⟩))] a ∧ Stw ⟨Y, X, w0⟩ [(b1, [.int .i64 p2.1, .int .i64 p2.2.1, .int .i64 p2.2.2.1, .int .i64 p2.2.2.2.1, .int .i64 p2.2.2.2.2.1, .int .i64 p2.2.2.2.2.2]), (q_p0, [v1, .map (some m_v2), v3])] [Aw v1 34 AA g_x8.1, row v3 3 (Rp.int .i64) p0.2.2, mp m_v2 AF AF p0.2.1] w) ?_ ?_
 ·
  have H := G1
  clear G1 K1
  refine Ai (Ac ?_)
  refine ls F W Aa (Ab CF Aa Aa Aa T3 F Aa 0 Aa).q fun a w F W => ?_
  refine ls F W Aa (Ap (v := Value.int .i64 p2.1) 0 F Aa Aa T3 Aa).q fun a w F W => ?_
  refine ls F W Aa (CR F Aa Aa).q fun a w F W => ?_
  refine Ae (Ad ?_)
  refine AJ F Aa (fun hb => ?_) fun hb => ?_
  ·
   have H := A9 (Bj hb) H
   rw [hb] at F
   clear hb
   refine Ac ?_
   refine ls F W Aa (Ag F Aa).q fun a w F W => ?_
   refine ls F W Aa (Ab CF Aa Aa Aa T3 F Aa 4 Aa).q fun a w F W => ?_
   refine ls F W Aa (Ap (v := Value.int .i64 p2.2.2.2.2.1) 0 F Aa Aa T3 Aa).q fun a w F W => ?_
   refine ls F W Aa (AB F Aa).q fun a w F W => ?_
   refine ls F W Aa (Ab BM Aa Aa Aa T3 F Aa (Cg v1 + (p1).toNat * 8 + 6) Aa).q fun a w F W => ?_
   obtain ⟨x9, h24, H⟩ := Am H
   obtain ⟨v11, h25, h26⟩ := Cm (er := AO) h23 h24
   refine Dg (D := AA) (i := p1) (j := 6) (vs := [.int .i64 p2.2.2.2.2.1]) (x' := (v11.1, v11.2.1, v11.2.2.1, v11.2.2.2.1, v11.2.2.2.2.1, v11.2.2.2.2.2.1, p2.2.2.2.2.1, v11.2.2.2.2.2.2.2)) F W Aa Aa Aa h25 T3 Aa Aa Aa Aa Aa Aa fun w W => ?_
   have h27 : List.map AO (Ak (Ak (Ak d_v1.1 p1 (v5.1, v5.2.1, v5.2.2.1, v5.2.2.2.1, v5.2.2.2.2.1, v5.2.2.2.2.2.1, v5.2.2.2.2.2.2.1, p2.2.1)) p1 (v10.1, v10.2.1, v10.2.2.1, v10.2.2.2.1, v10.2.2.2.2.1, p2.1, v10.2.2.2.2.2.2.1, v10.2.2.2.2.2.2.2)) p1 (v11.1, v11.2.1, v11.2.2.1, v11.2.2.2.1, v11.2.2.2.2.1, v11.2.2.2.2.2.1, p2.2.2.2.2.1, v11.2.2.2.2.2.2.2)) = (Ak (Ak (Ak p0.1 p1 (x2.1, x2.2.1, x2.2.2.1, x2.2.2.2.1, x2.2.2.2.2.1, x2.2.2.2.2.2.1, x2.2.2.2.2.2.2.1, p2.2.1)) p1 (x7.1, x7.2.1, x7.2.2.1, x7.2.2.2.1, x7.2.2.2.2.1, p2.1, x7.2.2.2.2.2.2.1, x7.2.2.2.2.2.2.2)) p1 (x9.1, x9.2.1, x9.2.2.1, x9.2.2.2.1, x9.2.2.2.2.1, x9.2.2.2.2.2.1, p2.2.2.2.2.1, x9.2.2.2.2.2.2.2)) := (D3 h23 (congrArg (fun q : Int × Int × Int × Int × (Nat × List Int) × Int × Int × Int => (q.1, q.2.1, q.2.2.1, q.2.2.2.1, q.2.2.2.2.1, q.2.2.2.2.2.1, p2.2.2.2.2.1, q.2.2.2.2.2.2.2)) h26))
   have W : Stw ⟨Y, X, w0⟩ [(b1, [.int .i64 p2.1, .int .i64 p2.2.1, .int .i64 p2.2.2.1, .int .i64 p2.2.2.2.1, .int .i64 p2.2.2.2.2.1, .int .i64 p2.2.2.2.2.2]), (q_p0, [v1, .map (some m_v2), v3])] [Aw v1 34 AA (Ak (Ak (Ak d_v1.1 p1 (v5.1, v5.2.1, v5.2.2.1, v5.2.2.2.1, v5.2.2.2.2.1, v5.2.2.2.2.2.1, v5.2.2.2.2.2.2.1, p2.2.1)) p1 (v10.1, v10.2.1, v10.2.2.1, v10.2.2.2.1, v10.2.2.2.2.1, p2.1, v10.2.2.2.2.2.2.1, v10.2.2.2.2.2.2.2)) p1 (v11.1, v11.2.1, v11.2.2.1, v11.2.2.2.1, v11.2.2.2.2.1, v11.2.2.2.2.2.1, p2.2.2.2.2.1, v11.2.2.2.2.2.2.2)), row v3 3 (Rp.int .i64) p0.2.2, mp m_v2 AF AF p0.2.1] w := W
   refine Ae (Ad ?_)
   have W := W.frontZ (i := 2) Aa Aa
   have W := W.frontZ (i := 2) Aa Aa
   have W := W.frontZ (i := 2) Aa Aa
   have W := W.frontM (i := 1) Aa Aa
   have W := W.frontM (i := 1) Aa Aa
   exact ⟨_, ⟨(Ak (Ak (Ak d_v1.1 p1 (v5.1, v5.2.1, v5.2.2.1, v5.2.2.2.1, v5.2.2.2.2.1, v5.2.2.2.2.2.1, v5.2.2.2.2.2.2.1, p2.2.1)) p1 (v10.1, v10.2.1, v10.2.2.1, v10.2.2.2.1, v10.2.2.2.2.1, p2.1, v10.2.2.2.2.2.2.1, v10.2.2.2.2.2.2.2)) p1 (v11.1, v11.2.1, v11.2.2.1, v11.2.2.2.1, v11.2.2.2.2.1, v11.2.2.2.2.2.1, p2.2.2.2.2.1, v11.2.2.2.2.2.2.2)), h27⟩, H, F.re ⟨rfl, Aa, Aa, trivial⟩, W⟩
  have H := A5 (Bi hb) H
  rw [hb] at F
  clear hb
  refine AC (Ad ?_)
  have W := W.frontZ (i := 2) Aa Aa
  have W := W.frontZ (i := 2) Aa Aa
  have W := W.frontZ (i := 2) Aa Aa
  have W := W.frontM (i := 1) Aa Aa
  have W := W.frontM (i := 1) Aa Aa
  exact ⟨_, ⟨(Ak (Ak d_v1.1 p1 (v5.1, v5.2.1, v5.2.2.1, v5.2.2.2.1, v5.2.2.2.2.1, v5.2.2.2.2.2.1, v5.2.2.2.2.2.2.1, p2.2.1)) p1 (v10.1, v10.2.1, v10.2.2.1, v10.2.2.2.1, v10.2.2.2.2.1, p2.1, v10.2.2.2.2.2.2.1, v10.2.2.2.2.2.2.2)), h23⟩, H, F.re ⟨rfl, Aa, Aa, trivial⟩, W⟩
 rintro a w ⟨x8, g_x8, hj, F, W⟩
 have hj := Bf hj
 subst hj
 have H := K1
 clear G1 K1
 refine D7 13 W MO (by kernel_rfl) ?_
 refine qs F Aa (Ag F Aa).q fun a F => ?_
 refine qs F Aa (AB F Aa).q fun a F => ?_
 refine qs F Aa (Ab DK Aa Aa Aa HF F Aa 1 Aa).q fun a F => ?_
 refine qs F Aa (Ap (v := Value.map (some m_v2)) 1 F Aa Aa HF Aa).q fun a F => ?_
 refine qs F Aa (Ab CF Aa Aa Aa T3 F Aa 2 Aa).q fun a F => ?_
 refine qs F Aa (Ap (v := Value.int .i64 p2.2.2.1) 0 F Aa Aa T3 Aa).q fun a F => ?_
 refine qs F Aa (Ag F Aa).q fun a F => ?_
 refine qs F Aa (AB F Aa).q fun a F => ?_
 refine qs F Aa (Ab DK Aa Aa Aa DU F Aa 2 Aa).q fun a F => ?_
 refine qs F Aa (Ap (v := v3) 1 F Aa Aa DU Aa).q fun a F => ?_
 refine qs F Aa (Ag F Aa).q fun a F => ?_
 obtain ⟨x10, h28, H⟩ := Am H
 refine qs F Aa (A0 (r := (Rp.int .i64)) G2 F Aa Aa (Az 1 Aa) h28).q fun a F => ?_
 refine qs F Aa (AD (y := Value.int .i64 x10) (j := 0) (i := p1) F Aa Aa (Az 1 Aa) h28 Fl.int.to T3 Aa).q fun a F => ?_
 refine Bv fun w W => ?_
 refine D5 (q := 2) (kx := (p2.2.2.1 : Int)) (vx := (x10 : Int)) (E := AF) (V := AF) F W Aa Aa Aa Aa Aa HW Hu fun w W => ?_
 have W : Stw ⟨Y, X, w0⟩ [(b1, [.int .i64 p2.1, .int .i64 p2.2.1, .int .i64 p2.2.2.1, .int .i64 p2.2.2.2.1, .int .i64 p2.2.2.2.2.1, .int .i64 p2.2.2.2.2.2]), (q_p0, [v1, .map (some m_v2), v3])] [mp m_v2 AF AF (BU p0.2.1 p2.2.2.1 x10), Aw v1 34 AA g_x8.1, row v3 3 (Rp.int .i64) p0.2.2] w := W
 refine Ae ?_
 have H := Bf H
 subst H
 refine DX (.inr Aa) F Aa ?_
 have W := W.frontZ (i := 2) Aa Aa
 have W := W.frontZ (i := 2) Aa Aa
 have W := W.frontM (i := 1) Aa Aa
 have W := W.sub (M' := [(q_p0, [v1, .map (some m_v2), v3])]) (Z' := [Aw v1 34 AA g_x8.1, row v3 3 (Rp.int .i64) p0.2.2, mp m_v2 AF AF (BU p0.2.1 p2.2.2.1 x10)]) (List.Sublist.cons_cons _ (List.nil_sublist _)) (List.Sublist.refl _)
 exact ⟨((v1), ⟨g_x8.1, g_x8.2⟩, (v3)), Aa, W⟩
theorem Ip : Has Tryd.prog 24 := ⟨fun args w => Ao Tryd.func24 rfl (by decide) args w⟩
noncomputable def A8 (p0 : (List (Int × Int × Int × Int × (Nat × List Int) × Int × Int × Int)) × (List (Int × Int)) × List Int) (p1 : Int × Int × Int × Int × Int × Int) : Option ((List (Int × Int × Int × Int × (Nat × List Int) × Int × Int × Int)) × (List (Int × Int)) × List Int) := (if p1.1 = 1 then (Bp p0 p1).bind fun x1 => some x1 else (if p1.1 = 2 then some true else (if p1.1 = 3 then some true else some (decide (p1.1 = 4)))).bind fun x2 => (if x2 = true then (if (Aj p0 p1.2.2.1) ≠ (-1) then (AV p0 (Aj p0 p1.2.2.1) p1).bind fun x3 => some x3 else some p0) else some p0))
theorem Do (Y : Nat → Prop) (X : List Nat) (w0 : World) (q_p0 : Nat) (v1 : Value) (m_v2 : Nat) (v3 : Value) (p0 : (List (Int × Int × Int × Int × (Nat × List Int) × Int × Int × Int)) × (List (Int × Int)) × List Int) (p1 : Int × Int × Int × Int × Int × Int) (d_v1 : {x : List (Int × Int × Int × Int × (Value × Nat × List Int) × Int × Int × Int) // x.map AO = p0.1}) (r : ((List (Int × Int × Int × Int × (Nat × List Int) × Int × Int × Int)) × (List (Int × Int)) × List Int)) (H : A8 p0 p1 = some r) (hL : Stw ⟨Y, X, w0⟩ [(q_p0, [v1, .map (some m_v2), v3])] [Aw v1 34 AA d_v1.1, row v3 3 (Rp.int .i64) p0.2.2, mp m_v2 AF AF p0.2.1] w0) :
    Calls Tryd.prog 15 #[.pointer (some ⟨q_p0, 0, none⟩), .agg #[.int .i64 p1.1, .int .i64 p1.2.1, .int .i64 p1.2.2.1, .int .i64 p1.2.2.2.1, .int .i64 p1.2.2.2.2.1, .int .i64 p1.2.2.2.2.2]] w0 fun e w' => ∃ x : Value × ({x : List (Int × Int × Int × Int × (Value × Nat × List Int) × Int × Int × Int) // x.map AO = r.1}) × Value, e = .returned (.tuple #[]) ∧ Stw ⟨Y, X, w0⟩ [(q_p0, [x.1, .map (some m_v2), x.2.2])] [Aw (x.1) 34 AA (x.2.1.1), row (x.2.2) 3 (Rp.int .i64) r.2.2, mp m_v2 AF AF r.2.1] w' := by
 refine enter Tryd.func15 Aa Tryd.ntmps15 Aa fun a F => ?_
 have W := hL
 unfold A8 at H
 refine Ai (Ac ?_)
 refine DH (cs := [.int .i64 p1.1, .int .i64 p1.2.1, .int .i64 p1.2.2.1, .int .i64 p1.2.2.2.1, .int .i64 p1.2.2.2.2.1, .int .i64 p1.2.2.2.2.2]) F W Aa Aa Aa fun b1 a w F W => ?_
 refine Ae (Ad (Ai (Ac ?_)))
 refine ls F W Aa (Ab CF Aa Aa Aa T3 F Aa 0 Aa).q fun a w F W => ?_
 refine ls F W Aa (Ap (v := Value.int .i64 p1.1) 0 F Aa Aa T3 Aa).q fun a w F W => ?_
 refine Ae (Ad (AG (Ai (Ac ?_))))
 refine ls F W Aa (CR F Aa Aa).q fun a w F W => ?_
 refine ls F W Aa (Ah F Aa).q fun a w F W => ?_
 refine Ae (Ad ?_)
 refine AJ F Aa (fun hb => ?_) fun hb => ?_
 ·
  have H := A9 (Bj hb) H
  rw [hb] at F
  clear hb
  refine Ac ?_
  refine ls F W Aa (Ag F Aa).q fun a w F W => ?_
  refine ls F W Aa (Ap (v := Value.agg #[.int .i64 p1.1, .int .i64 p1.2.1, .int .i64 p1.2.2.1, .int .i64 p1.2.2.2.1, .int .i64 p1.2.2.2.2.1, .int .i64 p1.2.2.2.2.2]) 0 F Aa Aa HD Aa).q fun a w F W => ?_
  obtain ⟨x1, h1, H⟩ := Am H
  have W := W.frontZ (i := 2) Aa Aa
  have W := W.frontZ (i := 2) Aa Aa
  have W := W.frontZ (i := 2) Aa Aa
  have W := W.frontM (i := 1) Aa Aa
  refine Bd (Ml := [(q_p0, [v1, .map (some m_v2), v3])]) (Zl := [Aw v1 34 AA d_v1.1, row v3 3 (Rp.int .i64) p0.2.2, mp m_v2 AF AF p0.2.1]) (M := [(b1, [.int .i64 p1.1, .int .i64 p1.2.1, .int .i64 p1.2.2.1, .int .i64 p1.2.2.2.1, .int .i64 p1.2.2.2.2.1, .int .i64 p1.2.2.2.2.2])]) (Z := []) (β := Value × ({x : List (Int × Int × Int × Int × (Value × Nat × List Int) × Int × Int × Int) // x.map AO = x1.1}) × Value) (rv := fun x => .tuple #[]) (MM := fun x => [(q_p0, [x.1, .map (some m_v2), x.2.2])]) (ZZ := fun x => [Aw x.1 34 AA x.2.1.1, row x.2.2 3 (Rp.int .i64) x1.2.2, mp m_v2 AF AF x1.2.1]) F W IA Aa Aa (fun hL => Dk _ _ w q_p0 (v1) m_v2 (v3) p0 p1 ⟨d_v1.1, d_v1.2⟩ _ h1 hL) fun x a w F W => ?_
  obtain ⟨v4, v5, v6⟩ := x
  have W : Stw ⟨Y, X, w0⟩ [(q_p0, [v4, .map (some m_v2), v6]), (b1, [.int .i64 p1.1, .int .i64 p1.2.1, .int .i64 p1.2.2.1, .int .i64 p1.2.2.2.1, .int .i64 p1.2.2.2.2.1, .int .i64 p1.2.2.2.2.2])] [Aw v4 34 AA v5.1, row v6 3 (Rp.int .i64) x1.2.2, mp m_v2 AF AF x1.2.1] w := W
  refine Ae (AW ?_)
  have H := Bf H
  subst H
  refine DX (.inr Aa) F Aa ?_
  have W := W.frontZ (i := 2) Aa Aa
  have W := W.frontZ (i := 2) Aa Aa
  have W := W.frontZ (i := 2) Aa Aa
  have W := W.sub (M' := [(q_p0, [v4, .map (some m_v2), v6])]) (Z' := [Aw v4 34 AA v5.1, row v6 3 (Rp.int .i64) x1.2.2, mp m_v2 AF AF x1.2.1]) (List.Sublist.cons_cons _ (List.nil_sublist _)) (List.Sublist.refl _)
  exact ⟨((v4), ⟨v5.1, v5.2⟩, (v6)), Aa, W⟩
 have H := A5 (Bi hb) H
 rw [hb] at F
 clear hb
 obtain ⟨o1, G1, K1⟩ := Am H
 refine Bq (fun a w => ∃ x2 : Bool, some (x2) = some o1 ∧ Fr 26 [] [(0, .pointer (some ⟨q_p0, 0, none⟩)), (3, .pointer (some ⟨b1, 0, none⟩)), (12, .bool x2)] a ∧ Stw ⟨Y, X, w0⟩ [(b1, [.int .i64 p1.1, .int .i64 p1.2.1, .int .i64 p1.2.2.1, .int .i64 p1.2.2.2.1, .int .i64 p1.2.2.2.2.1, .int .i64 p1.2.2.2.2.2]), (q_p0, [v1, .map (some m_v2), v3])] [Aw v1 34 AA d_v1.1, row v3 3 (Rp.int .i64) p0.2.2, mp m_v2 AF AF p0.2.1] w) ?_ ?_
 ·
  have H := G1
  clear G1 K1
  refine Ai (Ac ?_)
  refine ls F W Aa (CR F Aa Aa).q fun a w F W => ?_
  refine ls F W Aa (Ah F Aa).q fun a w F W => ?_
  refine Ae (Ad ?_)
  refine AJ F Aa (fun hb => ?_) fun hb => ?_
  ·
   have H := A9 (Bj hb) H
   rw [hb] at F
   clear hb
   refine AC (Ad ?_)
   have W := W.frontZ (i := 2) Aa Aa
   have W := W.frontZ (i := 2) Aa Aa
   have W := W.frontZ (i := 2) Aa Aa
   have W := W.frontM (i := 1) Aa Aa
   have W := W.frontM (i := 1) Aa Aa
   exact ⟨_, H, F.re ⟨rfl, Aa, Aa, trivial⟩, W⟩
  have H := A5 (Bi hb) H
  rw [hb] at F
  clear hb
  refine Ai (Ac ?_)
  refine ls F W Aa (CR F Aa Aa).q fun a w F W => ?_
  refine ls F W Aa (Ah F Aa).q fun a w F W => ?_
  refine Ae (Ad ?_)
  refine AJ F Aa (fun hb => ?_) fun hb => ?_
  ·
   have H := A9 (Bj hb) H
   rw [hb] at F
   clear hb
   refine AC (Ad ?_)
   have W := W.frontZ (i := 2) Aa Aa
   have W := W.frontZ (i := 2) Aa Aa
   have W := W.frontZ (i := 2) Aa Aa
   have W := W.frontM (i := 1) Aa Aa
   have W := W.frontM (i := 1) Aa Aa
   exact ⟨_, H, F.re ⟨rfl, Aa, Aa, trivial⟩, W⟩
  have H := A5 (Bi hb) H
  rw [hb] at F
  clear hb
  refine Ac ?_
  refine ls F W Aa (CR F Aa Aa).q fun a w F W => ?_
  refine ls F W Aa (Ah F Aa).q fun a w F W => ?_
  refine Ae (Ad ?_)
  have W := W.frontZ (i := 2) Aa Aa
  have W := W.frontZ (i := 2) Aa Aa
  have W := W.frontZ (i := 2) Aa Aa
  have W := W.frontM (i := 1) Aa Aa
  have W := W.frontM (i := 1) Aa Aa
  exact ⟨_, H, F.re ⟨rfl, Aa, Aa, trivial⟩, W⟩
 rintro a w ⟨x2, hj, F, W⟩
 have hj := Bf hj
 subst hj
 have H := K1
 clear G1 K1
 refine AJ F Aa (fun hb => ?_) fun hb => ?_
 ·
  have H := A9 hb H
  rw [hb] at F
  clear hb
  refine Ai (Ac ?_)
  refine ls F W Aa (Ag F Aa).q fun a w F W => ?_
  refine ls F W Aa (Ab CF Aa Aa Aa T3 F Aa 2 Aa).q fun a w F W => ?_
  refine ls F W Aa (Ap (v := Value.int .i64 p1.2.2.1) 0 F Aa Aa T3 Aa).q fun a w F W => ?_
  have W := W.frontZ (i := 2) Aa Aa
  have W := W.frontZ (i := 2) Aa Aa
  have W := W.frontZ (i := 2) Aa Aa
  have W := W.frontM (i := 1) Aa Aa
  refine Bd (Ml := [(q_p0, [v1, .map (some m_v2), v3])]) (Zl := [Aw v1 34 AA d_v1.1, row v3 3 (Rp.int .i64) p0.2.2, mp m_v2 AF AF p0.2.1]) (M := [(b1, [.int .i64 p1.1, .int .i64 p1.2.1, .int .i64 p1.2.2.1, .int .i64 p1.2.2.2.1, .int .i64 p1.2.2.2.2.1, .int .i64 p1.2.2.2.2.2])]) (Z := []) (β := Unit) (rv := fun x => .int .i64 (Aj p0 p1.2.2.1)) (MM := fun x => [(q_p0, [v1, .map (some m_v2), v3])]) (ZZ := fun x => [Aw v1 34 AA d_v1.1, row v3 3 (Rp.int .i64) p0.2.2, mp m_v2 AF AF p0.2.1]) F W Ij Aa Aa (fun hL => BB _ _ w q_p0 (v1) m_v2 (v3) p0 p1.2.2.1 ⟨d_v1.1, d_v1.2⟩ _ Aa hL) fun x a w F W => ?_
  have W : Stw ⟨Y, X, w0⟩ [(q_p0, [v1, .map (some m_v2), v3]), (b1, [.int .i64 p1.1, .int .i64 p1.2.1, .int .i64 p1.2.2.1, .int .i64 p1.2.2.2.1, .int .i64 p1.2.2.2.2.1, .int .i64 p1.2.2.2.2.2])] [Aw v1 34 AA d_v1.1, row v3 3 (Rp.int .i64) p0.2.2, mp m_v2 AF AF p0.2.1] w := W
  refine ls F W Aa (Ah F Aa).q fun a w F W => ?_
  refine Ae (Ad (Ai (Ac ?_)))
  refine ls F W Aa (Ag F Aa).q fun a w F W => ?_
  refine ls F W Aa (Cl F Aa Aa).q fun a w F W => ?_
  refine Ae (Ad ?_)
  refine AJ F Aa (fun hb => ?_) fun hb => ?_
  ·
   have H := A9 (Bj hb) H
   rw [hb] at F
   clear hb
   refine Ac ?_
   iterate 2 refine ls F W Aa (Ag F Aa).q fun a w F W => ?_
   refine ls F W Aa (Ap (v := Value.agg #[.int .i64 p1.1, .int .i64 p1.2.1, .int .i64 p1.2.2.1, .int .i64 p1.2.2.2.1, .int .i64 p1.2.2.2.2.1, .int .i64 p1.2.2.2.2.2]) 1 F Aa Aa HD Aa).q fun a w F W => ?_
   obtain ⟨x3, h2, H⟩ := Am H
   have W := W.frontZ (i := 2) Aa Aa
   have W := W.frontZ (i := 2) Aa Aa
   have W := W.frontZ (i := 2) Aa Aa
   refine Bd (Ml := [(q_p0, [v1, .map (some m_v2), v3])]) (Zl := [Aw v1 34 AA d_v1.1, row v3 3 (Rp.int .i64) p0.2.2, mp m_v2 AF AF p0.2.1]) (M := [(b1, [.int .i64 p1.1, .int .i64 p1.2.1, .int .i64 p1.2.2.1, .int .i64 p1.2.2.2.1, .int .i64 p1.2.2.2.2.1, .int .i64 p1.2.2.2.2.2])]) (Z := []) (β := Value × ({x : List (Int × Int × Int × Int × (Value × Nat × List Int) × Int × Int × Int) // x.map AO = x3.1}) × Value) (rv := fun x => .tuple #[]) (MM := fun x => [(q_p0, [x.1, .map (some m_v2), x.2.2])]) (ZZ := fun x => [Aw x.1 34 AA x.2.1.1, row x.2.2 3 (Rp.int .i64) x3.2.2, mp m_v2 AF AF x3.2.1]) F W Ip Aa Aa (fun hL => Da _ _ w q_p0 (v1) m_v2 (v3) p0 (Aj p0 p1.2.2.1) p1 ⟨d_v1.1, d_v1.2⟩ _ h2 hL) fun x a w F W => ?_
   obtain ⟨v7, v8, v9⟩ := x
   have W : Stw ⟨Y, X, w0⟩ [(q_p0, [v7, .map (some m_v2), v9]), (b1, [.int .i64 p1.1, .int .i64 p1.2.1, .int .i64 p1.2.2.1, .int .i64 p1.2.2.2.1, .int .i64 p1.2.2.2.2.1, .int .i64 p1.2.2.2.2.2])] [Aw v7 34 AA v8.1, row v9 3 (Rp.int .i64) x3.2.2, mp m_v2 AF AF x3.2.1] w := W
   refine Ae (AW ?_)
   have H := Bf H
   subst H
   refine DX (.inr Aa) F Aa ?_
   have W := W.frontZ (i := 2) Aa Aa
   have W := W.frontZ (i := 2) Aa Aa
   have W := W.frontZ (i := 2) Aa Aa
   have W := W.sub (M' := [(q_p0, [v7, .map (some m_v2), v9])]) (Z' := [Aw v7 34 AA v8.1, row v9 3 (Rp.int .i64) x3.2.2, mp m_v2 AF AF x3.2.1]) (List.Sublist.cons_cons _ (List.nil_sublist _)) (List.Sublist.refl _)
   exact ⟨((v7), ⟨v8.1, v8.2⟩, (v9)), Aa, W⟩
  have H := A5 (Bi hb) H
  rw [hb] at F
  clear hb
  refine AC (AW ?_)
  have H := Bf H
  subst H
  refine DX (.inr Aa) F Aa ?_
  have W := W.frontZ (i := 2) Aa Aa
  have W := W.frontZ (i := 2) Aa Aa
  have W := W.frontZ (i := 2) Aa Aa
  have W := W.sub (M' := [(q_p0, [v1, .map (some m_v2), v3])]) (Z' := [Aw v1 34 AA d_v1.1, row v3 3 (Rp.int .i64) p0.2.2, mp m_v2 AF AF p0.2.1]) (List.Sublist.cons_cons _ (List.nil_sublist _)) (List.Sublist.refl _)
  exact ⟨((v1), ⟨d_v1.1, d_v1.2⟩, (v3)), Aa, W⟩
 have H := A5 (by rw [hb]; decide) H
 rw [hb] at F
 clear hb
 refine AC (AW ?_)
 have H := Bf H
 subst H
 refine DX (.inr Aa) F Aa ?_
 have W := W.frontZ (i := 2) Aa Aa
 have W := W.frontZ (i := 2) Aa Aa
 have W := W.frontZ (i := 2) Aa Aa
 have W := W.frontM (i := 1) Aa Aa
 have W := W.sub (M' := [(q_p0, [v1, .map (some m_v2), v3])]) (Z' := [Aw v1 34 AA d_v1.1, row v3 3 (Rp.int .i64) p0.2.2, mp m_v2 AF AF p0.2.1]) (List.Sublist.cons_cons _ (List.nil_sublist _)) (List.Sublist.refl _)
 exact ⟨((v1), ⟨d_v1.1, d_v1.2⟩, (v3)), Aa, W⟩
theorem Iz : Has Tryd.prog 15 := ⟨fun args w => Ao Tryd.func15 rfl (by decide) args w⟩
noncomputable def Br (p0 : List (Int × Int × Int × Int × Int × Int)) : (Int × (List (Int × Int × Int × Int × (Nat × List Int) × Int × Int × Int)) × List Int × (List (Int × Int))) → Option ((Int × (List (Int × Int × Int × Int × (Nat × List Int) × Int × Int × Int)) × List Int × (List (Int × Int))) ⊕ ((List (Int × Int × Int × Int × (Nat × List Int) × Int × Int × Int)) × List Int × (List (Int × Int))))
  | (x4, x5, x6, x7) => (if x4 < (p0.length : Int) then (ix p0 x4).bind fun x8 => (A8 (x5, x7, x6) x8).bind fun x9 => some (.inl (DS (x4 + 1), x9.1, x9.2.2, x9.2.1)) else some (.inr (x5, x6, x7)))
noncomputable def Ca (p0 : List (Int × Int × Int × Int × Int × Int)) : Option (List (Int × Int × Int × Int × List Int × Int × Int × Int)) := (AP (Br p0) (0, [], [], ([] : List (Int × Int)))).bind fun (x1, x2, x3) => (Dc GB x1).bind fun x10 => some x10
theorem Di (Y : Nat → Prop) (w0 : World) (v1 : Value) (p0 : List (Int × Int × Int × Int × Int × Int)) (r : (List (Int × Int × Int × Int × List Int × Int × Int × Int))) (H : Ca p0 = some r) (h_v1 : Sl w0 (NX []) CK v1 p0) :
    Calls Tryd.prog 6 #[v1] w0 fun e w' => ∃ x : Value, e = .returned (x) ∧ Stw ⟨Y, [], w0⟩ [] [row (x) 34 Eb r] w' := by
 refine enter Tryd.func6 Aa Tryd.ntmps6 Aa fun a F => ?_
 have W := Stw.start Y w0
 unfold Ca at H
 refine Ai (Ac ?_)
 refine ls F W Aa (Ah F Aa).q fun a w F W => ?_
 refine Ae (Ad (Ai (Ac ?_)))
 refine EF AF AF F W Aa fun b1 a w F W => ?_
 have W : Stw ⟨Y, [], w0⟩ [] [mp b1 AF AF ([] : List (Int × Int))] w := W
 refine ls F W Aa (Cp (v := Value.agg #[.slice none 0 0, .map (some b1), .slice none 0 0]) Iq F Aa Aa Aa).q fun a w F W => ?_
 refine CG (cs := [.slice none 0 0, .map none, .slice none 0 0]) F W Aa Io Aa fun b2 a w F W => ?_
 refine Cn (vs := [.slice none 0 0, .map (some b1), .slice none 0 0]) (M' := [(b2, [.slice none 0 0, .map (some b1), .slice none 0 0])]) 0 F W Aa Aa Aa IC Aa Aa Aa Aa Aa fun w W => ?_
 refine Ae (Ad ?_)
 obtain ⟨o1, G1, K1⟩ := Am H
 refine Bq (fun a w => ∃ x1 : List (Int × Int × Int × Int × (Nat × List Int) × Int × Int × Int), ∃ x2 : List Int, ∃ x3 : List (Int × Int), ∃ v2 : Value, ∃ g_x1 : {x : List (Int × Int × Int × Int × (Value × Nat × List Int) × Int × Int × Int) // x.map AO = x1}, ∃ v3 : Value, some ((x1, x2, x3)) = some o1 ∧ Fr 19 [] [(2, .slice none 0 0), (3, .pointer (some ⟨b2, 0, none⟩))] a ∧ Stw ⟨Y, [], w0⟩ [(b2, [v2, .map (some b1), v3])] [Aw v2 34 AA g_x1.1, row v3 3 (Rp.int .i64) x2, mp b1 AF AF x3] w) ?_ ?_
 ·
  have H := G1
  clear G1 K1
  refine Ai (Ac ?_)
  refine ls F W Aa (Ag F Aa).q fun a w F W => ?_
  refine ls F W Aa (BD (r := CK) (l := p0) G0 Aa F Aa (Ax h_v1)).q fun a w F W => ?_
  refine ls F W Aa (Ag F Aa).q fun a w F W => ?_
  refine Ae (Ad (AG ?_))
  have W := W.dNil 34 AA
  have h1 : List.map AO ([] : List (Int × Int × Int × Int × (Value × Nat × List Int) × Int × Int × Int)) = ([] : List (Int × Int × Int × Int × (Nat × List Int) × Int × Int × Int)) := Aa
  have W := W.nilRow 3 (Rp.int .i64)
  have W := W.frontZ (i := 2) Aa Aa
  have W := W.frontZ (i := 1) Aa Aa
  have W := W.frontZ (i := 2) Aa Aa
  refine Cj H (fun s a w => ∃ v4 : Value, ∃ g_x5 : {x : List (Int × Int × Int × Int × (Value × Nat × List Int) × Int × Int × Int) // x.map AO = s.2.1}, ∃ v5 : Value, Fr 19 [] [(2, .slice none 0 0), (3, .pointer (some ⟨b2, 0, none⟩)), (8, v1), (9, .int .i64 (p0.length : Int)), (10, .int .i64 s.1)] a ∧ Stw ⟨Y, [], w0⟩ [(b2, [v4, .map (some b1), v5])] [Aw v4 34 AA g_x5.1, row v5 3 (Rp.int .i64) s.2.2.1, mp b1 AF AF s.2.2.2] w) ⟨(Value.slice none 0 0), ⟨([] : List (Int × Int × Int × Int × (Value × Nat × List Int) × Int × Int × Int)), h1⟩, (Value.slice none 0 0), F.re ⟨rfl, Aa, Aa, Aa, Aa, trivial⟩, W⟩ fun s o a w H L2 hR => ?_
  obtain ⟨x4, x5, x6, x7⟩ := s
  obtain ⟨v4, g_x5, v5, F, W⟩ := hR
  have F : Fr 19 [] [(2, .slice none 0 0), (3, .pointer (some ⟨b2, 0, none⟩)), (8, v1), (9, .int .i64 (p0.length : Int)), (10, .int .i64 x4)] a := F
  have W : Stw ⟨Y, [], w0⟩ [(b2, [v4, .map (some b1), v5])] [Aw v4 34 AA g_x5.1, row v5 3 (Rp.int .i64) x6, mp b1 AF AF x7] w := W
  rw [Br] at H
  refine Ai (Ac ?_)
  refine ls F W Aa (Df F Aa Aa).q fun a w F W => ?_
  refine Ae (Ad (Ai ?_))
  refine AJ F Aa (fun hb => ?_) fun hb => ?_
  ·
   have H := A9 (Bj hb) H
   rw [hb] at F
   clear hb
   refine AC (Ad (Ai (AG (Ai (Ac ?_)))))
   obtain ⟨x8, h2, H⟩ := Am H
   refine ls F W Aa (A0 (r := CK) HH F Aa Aa (Ax h_v1) h2).q fun a w F W => ?_
   refine ls F W Aa (AD (y := Value.agg #[.int .i64 x8.1, .int .i64 x8.2.1, .int .i64 x8.2.2.1, .int .i64 x8.2.2.2.1, .int .i64 x8.2.2.2.2.1, .int .i64 x8.2.2.2.2.2]) (j := 0) (i := x4) F Aa Aa (Ax h_v1) h2 HP.to HD Aa).q fun a w F W => ?_
   refine CG (cs := [.int .i64 0, .int .i64 0, .int .i64 0, .int .i64 0, .int .i64 0, .int .i64 0]) F W Aa H7 Aa fun b3 a w F W => ?_
   refine Cn (vs := [.int .i64 x8.1, .int .i64 x8.2.1, .int .i64 x8.2.2.1, .int .i64 x8.2.2.2.1, .int .i64 x8.2.2.2.2.1, .int .i64 x8.2.2.2.2.2]) (M' := [(b3, [.int .i64 x8.1, .int .i64 x8.2.1, .int .i64 x8.2.2.1, .int .i64 x8.2.2.2.1, .int .i64 x8.2.2.2.2.1, .int .i64 x8.2.2.2.2.2]), (b2, [v4, .map (some b1), v5])]) 0 F W Aa Aa Aa HD Aa Aa Aa Aa Aa fun w W => ?_
   refine Ae (Ad (Ac ?_))
   refine ls F W Aa (Ap (v := Value.agg #[.int .i64 x8.1, .int .i64 x8.2.1, .int .i64 x8.2.2.1, .int .i64 x8.2.2.2.1, .int .i64 x8.2.2.2.2.1, .int .i64 x8.2.2.2.2.2]) 0 F Aa Aa HD Aa).q fun a w F W => ?_
   obtain ⟨x9, h3, H⟩ := Am H
   have W := W.frontZ (i := 2) Aa Aa
   have W := W.frontZ (i := 2) Aa Aa
   have W := W.frontZ (i := 2) Aa Aa
   have W := W.frontM (i := 1) Aa Aa
   refine Bd (Ml := [(b2, [v4, .map (some b1), v5])]) (Zl := [Aw v4 34 AA g_x5.1, row v5 3 (Rp.int .i64) x6, mp b1 AF AF x7]) (M := [(b3, [.int .i64 x8.1, .int .i64 x8.2.1, .int .i64 x8.2.2.1, .int .i64 x8.2.2.2.1, .int .i64 x8.2.2.2.2.1, .int .i64 x8.2.2.2.2.2])]) (Z := []) (β := Value × ({x : List (Int × Int × Int × Int × (Value × Nat × List Int) × Int × Int × Int) // x.map AO = x9.1}) × Value) (rv := fun x => .tuple #[]) (MM := fun x => [(b2, [x.1, .map (some b1), x.2.2])]) (ZZ := fun x => [Aw x.1 34 AA x.2.1.1, row x.2.2 3 (Rp.int .i64) x9.2.2, mp b1 AF AF x9.2.1]) F W Iz Aa Aa (fun hL => Do _ _ w b2 (v4) b1 (v5) (x5, x7, x6) x8 ⟨g_x5.1, g_x5.2⟩ _ h3 hL) fun x a w F W => ?_
   obtain ⟨v6, v7, v8⟩ := x
   have W : Stw ⟨Y, [], w0⟩ [(b2, [v6, .map (some b1), v8]), (b3, [.int .i64 x8.1, .int .i64 x8.2.1, .int .i64 x8.2.2.1, .int .i64 x8.2.2.2.1, .int .i64 x8.2.2.2.2.1, .int .i64 x8.2.2.2.2.2])] [Aw v6 34 AA v7.1, row v8 3 (Rp.int .i64) x9.2.2, mp b1 AF AF x9.2.1] w := W
   refine Ae (AW (Ad (Ac ?_)))
   refine ls F W Aa (Cy F Aa Aa Aa).q fun a w F W => ?_
   refine ls F W Aa (Ag F Aa).q fun a w F W => ?_
   refine Ae (Ad ?_)
   have W := W.frontZ (i := 2) Aa Aa
   have W := W.frontZ (i := 2) Aa Aa
   have W := W.frontZ (i := 2) Aa Aa
   have W := W.sub (M' := [(b2, [v6, .map (some b1), v8])]) (Z' := [Aw v6 34 AA v7.1, row v8 3 (Rp.int .i64) x9.2.2, mp b1 AF AF x9.2.1]) (List.Sublist.cons_cons _ (List.nil_sublist _)) (List.Sublist.refl _)
   exact ⟨_, H, (v6), ⟨v7.1, v7.2⟩, (v8), F.re ⟨rfl, Aa, Aa, Aa, Aa, trivial⟩, W⟩
  have H := A5 (Bi hb) H
  rw [hb] at F
  clear hb
  refine Ck ?_
  iterate 2 refine CX ?_
  refine Co (Ad ?_)
  have W := W.frontZ (i := 2) Aa Aa
  have W := W.frontZ (i := 2) Aa Aa
  have W := W.frontZ (i := 2) Aa Aa
  have H := L2 _ H
  exact ⟨_, _, _, (v4), ⟨g_x5.1, g_x5.2⟩, (v5), H, F.re ⟨rfl, Aa, trivial⟩, W⟩
 rintro a w ⟨x1, x2, x3, v2, g_x1, v3, hj, F, W⟩
 have hj := Bf hj
 subst hj
 have H := K1
 clear G1 K1
 refine Ai (Ac ?_)
 refine ls F W Aa (Ab DK Aa Aa Aa GI F Aa 0 Aa).q fun a w F W => ?_
 refine ls F W Aa (Ap (v := v2) 0 F Aa Aa GI Aa).q fun a w F W => ?_
 refine ls F W Aa (Ah F Aa).q fun a w F W => ?_
 refine Ae (Ad (AQ ?_))
 obtain ⟨x10, h4, H⟩ := Am H
 have H := Bf H
 subst H
 refine Bk (.inl Aa) F W Aa (AZ F Aa) ?_
 have W := Stw.ddRest Id g_x1.2 h4 W
 have W := W.sub (M' := []) (Z' := [row v2 34 Eb x10]) (List.nil_sublist _) (List.Sublist.cons_cons _ (List.nil_sublist _))
 exact ⟨(v2), Aa, W⟩
theorem H6 : Has Tryd.prog 6 := ⟨fun args w => Ao Tryd.func6 rfl (by decide) args w⟩
abbrev F1 : Rp (Int × Int × Int × Int × (Value × List Int) × Int × Int × Int) := (Rp.pair (Rp.int .i64) (Rp.pair (Rp.int .i64) (Rp.pair (Rp.int .i64) (Rp.pair (Rp.int .i64) (Rp.pair (Rp.vsl (Rp.int .i64)) (Rp.pair (Rp.int .i64) (Rp.pair (Rp.int .i64) (Rp.int .i64))))))))
abbrev Ic (p : Int × Int × Int × Int × (Value × List Int) × Int × Int × Int) : Int × Int × Int × Int × List Int × Int × Int × Int := (p.1, p.2.1, p.2.2.1, p.2.2.2.1, p.2.2.2.2.1.2, p.2.2.2.2.2.1, p.2.2.2.2.2.2.1, p.2.2.2.2.2.2.2)
theorem G8 : Ex Eb F1 Ic := (Ex.pair Ex.rfl' (Ex.pair Ex.rfl' (Ex.pair Ex.rfl' (Ex.pair Ex.rfl' (Ex.pair Ex.sliceF (Ex.pair Ex.rfl' (Ex.pair Ex.rfl' Ex.rfl')))))))
abbrev EL (a : Int × Int × Int × Int × (Value × List Int) × Int × Int × Int) : List Value := [.int .i64 a.1, .int .i64 a.2.1, .int .i64 a.2.2.1, .int .i64 a.2.2.2.1, a.2.2.2.2.1.1, .int .i64 a.2.2.2.2.2.1, .int .i64 a.2.2.2.2.2.2.1, .int .i64 a.2.2.2.2.2.2.2]
theorem GM : BH F1 EL := (BH.pair Fl.int.to (BH.pair Fl.int.to (BH.pair Fl.int.to (BH.pair Fl.int.to (BH.pair BH.vsl (BH.pair Fl.int.to (BH.pair Fl.int.to Fl.int.to)))))))
theorem HG : Ty Tryd.prog 34 true 8 := ⟨by kernel_rfl, by kernel_rfl⟩
theorem Hk : Has Tryd.prog 18 := ⟨fun args w => Ao Tryd.func18 rfl (by decide) args w⟩
theorem H2 : Has Tryd.prog 17 := ⟨fun args w => Ao Tryd.func17 rfl (by decide) args w⟩
noncomputable def Bm (p0 : Int × Int × Int × Int × List Int × Int × Int × Int) : Option (List UInt8) := (if p0.2.2.2.2.2.1 = 3 then (CM p0.2.2.2.2.2.2.1).bind fun x1 => (CL ([32, 103, 111, 110, 101, 32] : List UInt8) x1).bind fun x2 => (CL x2 ([32, 97, 116, 32] : List UInt8)).bind fun x3 => (CM p0.2.2.2.2.2.2.2).bind fun x4 => (CL x3 x4).bind fun x5 => some x5 else (if p0.2.2.2.2.2.1 = 4 then (CM p0.2.2.2.2.2.2.2).bind fun x6 => (CL ([32, 100, 114, 111, 112, 112, 101, 100, 32, 97, 116, 32] : List UInt8) x6).bind fun x7 => some x7 else some ([32, 111, 110, 32, 105, 116, 115, 32, 119, 97, 121] : List UInt8)))
theorem DL (Y : Nat → Prop) (w0 : World) (v1 : Value) (p0 : Int × Int × Int × Int × List Int × Int × Int × Int) (r : List UInt8) (H : Bm p0 = some r) (h_v1 : Sl w0 (NX []) (Rp.int .i64) v1 p0.2.2.2.2.1) (hG : Gk [] w0) :
    Calls Tryd.prog 19 #[.agg #[.int .i64 p0.1, .int .i64 p0.2.1, .int .i64 p0.2.2.1, .int .i64 p0.2.2.2.1, v1, .int .i64 p0.2.2.2.2.2.1, .int .i64 p0.2.2.2.2.2.2.1, .int .i64 p0.2.2.2.2.2.2.2]] w0 fun e w' => e = .returned (.string (bs r)) ∧ Below w0.heap.size w0 w' := by
 refine enter Tryd.func19 Aa Tryd.ntmps19 Aa fun a F => ?_
 have W := Stw.start Y w0
 unfold Bm at H
 refine Ai (Ac ?_)
 refine DH (cs := [.int .i64 p0.1, .int .i64 p0.2.1, .int .i64 p0.2.2.1, .int .i64 p0.2.2.2.1, v1, .int .i64 p0.2.2.2.2.2.1, .int .i64 p0.2.2.2.2.2.2.1, .int .i64 p0.2.2.2.2.2.2.2]) F W Aa Aa Aa fun b1 a w F W => ?_
 refine ls F W Aa (Ah (v := Value.string (bs ([] : List UInt8))) F Aa).q fun a w F W => ?_
 refine Ae (Ad (Ai (Ai (Ac ?_))))
 refine ls F W Aa (Ab BM Aa Aa Aa T3 F Aa 5 Aa).q fun a w F W => ?_
 refine ls F W Aa (Ap (v := Value.int .i64 p0.2.2.2.2.2.1) 0 F Aa Aa T3 Aa).q fun a w F W => ?_
 refine Ae (Ad (AG (Ai (Ac ?_))))
 refine ls F W Aa (CR F Aa Aa).q fun a w F W => ?_
 refine ls F W Aa (Ah F Aa).q fun a w F W => ?_
 refine Ae (Ad ?_)
 refine AJ F Aa (fun hb => ?_) fun hb => ?_
 ·
  have H := A9 (Bj hb) H
  rw [hb] at F
  clear hb
  refine Ai ?_
  refine DC W MO (by kernel_rfl) ?_
  refine qs F Aa (Ab BM Aa Aa Aa T3 F Aa 6 Aa).q fun a F => ?_
  refine qs F Aa (Ap (v := Value.int .i64 p0.2.2.2.2.2.2.1) 0 F Aa Aa T3 Aa).q fun a F => ?_
  obtain ⟨x1, h1, H⟩ := Am H
  refine qs F Aa (Bg (v := Value.string (bs x1)) F Hk Aa (fun w W => CT any w p0.2.2.2.2.2.2.1 _ h1 (hG.go0 W))) fun a F => ?_
  obtain ⟨x2, h2, H⟩ := Am H
  refine qs F Aa (BW (l := ([32, 103, 111, 110, 101, 32] : List UInt8)) (m := x1) F Aa Aa h2).q fun a F => ?_
  obtain ⟨x3, h3, H⟩ := Am H
  refine qs F Aa (BW (l := x2) (m := ([32, 97, 116, 32] : List UInt8)) F Aa Aa h3).q fun a F => ?_
  refine qs F Aa (Ab BM Aa Aa Aa T3 F Aa 7 Aa).q fun a F => ?_
  refine qs F Aa (Ap (v := Value.int .i64 p0.2.2.2.2.2.2.2) 0 F Aa Aa T3 Aa).q fun a F => ?_
  obtain ⟨x4, h4, H⟩ := Am H
  refine qs F Aa (Bg (v := Value.string (bs x4)) F Hk Aa (fun w W => CT any w p0.2.2.2.2.2.2.2 _ h4 (hG.go0 W))) fun a F => ?_
  obtain ⟨x5, h5, H⟩ := Am H
  refine qs F Aa (BW (l := x3) (m := x4) F Aa Aa h5).q fun a F => ?_
  refine qs F Aa (Ah F Aa).q fun a F => ?_
  refine Bv fun w W => ?_
  refine Ad (AQ (Cq (Bx ?_)))
  have H := Bf H
  subst H
  refine Bk (.inl Aa) F W Aa (AZ F Aa) ?_
  exact ⟨rfl, W.done⟩
 have H := A5 (Bi hb) H
 rw [hb] at F
 clear hb
 refine Ai (Ac ?_)
 refine ls F W Aa (CR F Aa Aa).q fun a w F W => ?_
 refine ls F W Aa (Ah F Aa).q fun a w F W => ?_
 refine Ae (Ad ?_)
 refine AJ F Aa (fun hb => ?_) fun hb => ?_
 ·
  have H := A9 (Bj hb) H
  rw [hb] at F
  clear hb
  refine Ai (Ac ?_)
  refine ls F W Aa (Ab BM Aa Aa Aa T3 F Aa 7 Aa).q fun a w F W => ?_
  refine ls F W Aa (Ap (v := Value.int .i64 p0.2.2.2.2.2.2.2) 0 F Aa Aa T3 Aa).q fun a w F W => ?_
  obtain ⟨x6, h6, H⟩ := Am H
  refine ls F W Aa (Bg (v := Value.string (bs x6)) F Hk Aa (fun w W => CT any w p0.2.2.2.2.2.2.2 _ h6 (hG.go0 W))) fun a w F W => ?_
  obtain ⟨x7, h7, H⟩ := Am H
  refine ls F W Aa (BW (l := ([32, 100, 114, 111, 112, 112, 101, 100, 32, 97, 116, 32] : List UInt8)) (m := x6) F Aa Aa h7).q fun a w F W => ?_
  refine ls F W Aa (Ah F Aa).q fun a w F W => ?_
  refine Ae (Ad (AQ (Cq (Bx ?_))))
  have H := Bf H
  subst H
  refine Bk (.inl Aa) F W Aa (AZ F Aa) ?_
  exact ⟨rfl, W.done⟩
 have H := A5 (Bi hb) H
 rw [hb] at F
 clear hb
 refine AC (AW (Ad (Ai (Ac ?_))))
 refine ls F W Aa (Ah (v := Value.string (bs ([32, 111, 110, 32, 105, 116, 115, 32, 119, 97, 121] : List UInt8))) F Aa).q fun a w F W => ?_
 refine Ae (Ad (AQ ?_))
 have H := Bf H
 subst H
 refine Bk (.inl Aa) F W Aa (AZ F Aa) ?_
 exact ⟨rfl, W.done⟩
theorem Iv : Has Tryd.prog 19 := ⟨fun args w => Ao Tryd.func19 rfl (by decide) args w⟩
theorem IF : Has Tryd.prog 20 := ⟨fun args w => Ao Tryd.func20 rfl (by decide) args w⟩
noncomputable def AY (p0 : Int × Int × Int × Int × List Int × Int × Int × Int) : (Int × List UInt8) → Option ((Int × List UInt8) ⊕ (List UInt8))
  | (x14, x15) => (if x14 < (p0.2.2.2.2.1.length : Int) then (ix p0.2.2.2.2.1 x14).bind fun x16 => (CM x16).bind fun x17 => (CL ([32] : List UInt8) x17).bind fun x18 => (CL x15 x18).bind fun x19 => some (.inl (DS (x14 + 1), x19)) else some (.inr x15))
noncomputable def B4 (p0 : Int × Int × Int × Int × List Int × Int × Int × Int) : Option (List UInt8) := (CM p0.1).bind fun x1 => (CL x1 ([58, 32] : List UInt8)).bind fun x2 => (CM p0.2.1).bind fun x3 => (CL x2 x3).bind fun x4 => (CL x4 ([62] : List UInt8)).bind fun x5 => (CM p0.2.2.1).bind fun x6 => (CL x5 x6).bind fun x7 => (CL x7 ([32, 97, 116, 32] : List UInt8)).bind fun x8 => (CM p0.2.2.2.1).bind fun x9 => (CL x8 x9).bind fun x10 => (CL x10 ([58] : List UInt8)).bind fun x11 => (CL ([] : List UInt8) x11).bind fun x12 => (AP (AY p0) (0, x12)).bind fun x13 => (Bm p0).bind fun x20 => (CL x13 x20).bind fun x21 => (Gz x21).bind fun x22 => some x22
theorem ER (Y : Nat → Prop) (w0 : World) (v1 : Value) (p0 : Int × Int × Int × Int × List Int × Int × Int × Int) (r : List UInt8) (H : B4 p0 = some r) (h_v1 : Sl w0 (NX []) (Rp.int .i64) v1 p0.2.2.2.2.1) (hG : Gk [] w0) :
    Calls Tryd.prog 13 #[.agg #[.int .i64 p0.1, .int .i64 p0.2.1, .int .i64 p0.2.2.1, .int .i64 p0.2.2.2.1, v1, .int .i64 p0.2.2.2.2.2.1, .int .i64 p0.2.2.2.2.2.2.1, .int .i64 p0.2.2.2.2.2.2.2]] w0 fun e w' => e = .returned (.string (bs r)) ∧ Below w0.heap.size w0 w' := by
 refine enter Tryd.func13 Aa Tryd.ntmps13 Aa fun a F => ?_
 have W := Stw.start Y w0
 unfold B4 at H
 refine Ai (Ac ?_)
 refine DH (cs := [.int .i64 p0.1, .int .i64 p0.2.1, .int .i64 p0.2.2.1, .int .i64 p0.2.2.2.1, v1, .int .i64 p0.2.2.2.2.2.1, .int .i64 p0.2.2.2.2.2.2.1, .int .i64 p0.2.2.2.2.2.2.2]) F W Aa Aa Aa fun b1 a w F W => ?_
 refine ls F W Aa (Ah (v := Value.string (bs ([] : List UInt8))) F Aa).q fun a w F W => ?_
 refine Ae (Ad (Ai (Ac ?_)))
 refine F4 F W Aa fun b2 a w F W => ?_
 have W : Stw ⟨Y, [], w0⟩ [(b1, [.int .i64 p0.1, .int .i64 p0.2.1, .int .i64 p0.2.2.1, .int .i64 p0.2.2.2.1, v1, .int .i64 p0.2.2.2.2.2.1, .int .i64 p0.2.2.2.2.2.2.1, .int .i64 p0.2.2.2.2.2.2.2])] [BV 53 5 b2 (Value.slice none 0 0) ([] : List UInt8)] w := W
 refine Ae (Ad (Ai ?_))
 refine D7 19 W MO (by kernel_rfl) ?_
 refine qs F Aa (Ab BM Aa Aa Aa T3 F Aa 0 Aa).q fun a F => ?_
 refine qs F Aa (Ap (v := Value.int .i64 p0.1) 0 F Aa Aa T3 Aa).q fun a F => ?_
 obtain ⟨x1, h1, H⟩ := Am H
 refine qs F Aa (Bg (v := Value.string (bs x1)) F Hk Aa (fun w W => CT any w p0.1 _ h1 (hG.go0 W))) fun a F => ?_
 obtain ⟨x2, h2, H⟩ := Am H
 refine qs F Aa (BW (l := x1) (m := ([58, 32] : List UInt8)) F Aa Aa h2).q fun a F => ?_
 refine qs F Aa (Ab BM Aa Aa Aa T3 F Aa 1 Aa).q fun a F => ?_
 refine qs F Aa (Ap (v := Value.int .i64 p0.2.1) 0 F Aa Aa T3 Aa).q fun a F => ?_
 obtain ⟨x3, h3, H⟩ := Am H
 refine qs F Aa (Bg (v := Value.string (bs x3)) F Hk Aa (fun w W => CT any w p0.2.1 _ h3 (hG.go0 W))) fun a F => ?_
 obtain ⟨x4, h4, H⟩ := Am H
 refine qs F Aa (BW (l := x2) (m := x3) F Aa Aa h4).q fun a F => ?_
 obtain ⟨x5, h5, H⟩ := Am H
 refine qs F Aa (BW (l := x4) (m := ([62] : List UInt8)) F Aa Aa h5).q fun a F => ?_
 refine qs F Aa (Ab BM Aa Aa Aa T3 F Aa 2 Aa).q fun a F => ?_
 refine qs F Aa (Ap (v := Value.int .i64 p0.2.2.1) 0 F Aa Aa T3 Aa).q fun a F => ?_
 obtain ⟨x6, h6, H⟩ := Am H
 refine qs F Aa (Bg (v := Value.string (bs x6)) F Hk Aa (fun w W => CT any w p0.2.2.1 _ h6 (hG.go0 W))) fun a F => ?_
 obtain ⟨x7, h7, H⟩ := Am H
 refine qs F Aa (BW (l := x5) (m := x6) F Aa Aa h7).q fun a F => ?_
 obtain ⟨x8, h8, H⟩ := Am H
 refine qs F Aa (BW (l := x7) (m := ([32, 97, 116, 32] : List UInt8)) F Aa Aa h8).q fun a F => ?_
 refine qs F Aa (Ab BM Aa Aa Aa T3 F Aa 3 Aa).q fun a F => ?_
 refine qs F Aa (Ap (v := Value.int .i64 p0.2.2.2.1) 0 F Aa Aa T3 Aa).q fun a F => ?_
 obtain ⟨x9, h9, H⟩ := Am H
 refine qs F Aa (Bg (v := Value.string (bs x9)) F Hk Aa (fun w W => CT any w p0.2.2.2.1 _ h9 (hG.go0 W))) fun a F => ?_
 obtain ⟨x10, h10, H⟩ := Am H
 refine qs F Aa (BW (l := x8) (m := x9) F Aa Aa h10).q fun a F => ?_
 obtain ⟨x11, h11, H⟩ := Am H
 refine qs F Aa (BW (l := x10) (m := ([58] : List UInt8)) F Aa Aa h11).q fun a F => ?_
 refine Bv fun w W => ?_
 obtain ⟨x12, h12, H⟩ := Am H
 refine Bd (Ml := []) (Zl := [BV 53 5 b2 (Value.slice none 0 0) ([] : List UInt8)]) (M := [(b1, [.int .i64 p0.1, .int .i64 p0.2.1, .int .i64 p0.2.2.1, .int .i64 p0.2.2.2.1, v1, .int .i64 p0.2.2.2.2.2.1, .int .i64 p0.2.2.2.2.2.2.1, .int .i64 p0.2.2.2.2.2.2.2])]) (Z := []) (β := Value) (rv := fun x => .tuple #[.int .i64 (x11.length : Int), .nilIface]) (MM := fun x => []) (ZZ := fun x => [BV 53 5 b2 x x12]) F W H2 Aa Aa (fun hL => Ho _ _ w b2 (Value.slice none 0 0) ([] : List UInt8) x11 _ h12 hL) fun v2 a w F W => ?_
 have W : Stw ⟨Y, [], w0⟩ [(b1, [.int .i64 p0.1, .int .i64 p0.2.1, .int .i64 p0.2.2.1, .int .i64 p0.2.2.2.1, v1, .int .i64 p0.2.2.2.2.2.1, .int .i64 p0.2.2.2.2.2.2.1, .int .i64 p0.2.2.2.2.2.2.2])] [BV 53 5 b2 v2 x12] w := W
 refine Ae (Ad ?_)
 obtain ⟨o1, G1, K1⟩ := Am H
 refine Bq (fun a w => ∃ x13 : List UInt8, ∃ v3 : Value, some (x13) = some o1 ∧ Fr 42 [] [(1, .pointer (some ⟨b1, 0, none⟩)), (2, .string (bs ([] : List UInt8))), (3, .pointer (some ⟨b2, 0, none⟩))] a ∧ Stw ⟨Y, [], w0⟩ [(b1, [.int .i64 p0.1, .int .i64 p0.2.1, .int .i64 p0.2.2.1, .int .i64 p0.2.2.2.1, v1, .int .i64 p0.2.2.2.2.2.1, .int .i64 p0.2.2.2.2.2.2.1, .int .i64 p0.2.2.2.2.2.2.2])] [BV 53 5 b2 v3 x13] w) ?_ ?_
 ·
  have H := G1
  clear G1 K1
  refine Ai (Ac ?_)
  refine ls F W Aa (Ab BM Aa Aa Aa DU F Aa 4 Aa).q fun a w F W => ?_
  refine ls F W Aa (Ap (v := v1) 0 F Aa Aa DU Aa).q fun a w F W => ?_
  refine ls F W Aa (BD (r := (Rp.int .i64)) (l := p0.2.2.2.2.1) E2 Aa F Aa (Ax h_v1)).q fun a w F W => ?_
  refine ls F W Aa (Ag F Aa).q fun a w F W => ?_
  refine Ae (Ad (AG ?_))
  refine Cj H (fun s a w => ∃ v4 : Value, Fr 42 [] [(1, .pointer (some ⟨b1, 0, none⟩)), (2, .string (bs ([] : List UInt8))), (3, .pointer (some ⟨b2, 0, none⟩)), (27, v1), (28, .int .i64 (p0.2.2.2.2.1.length : Int)), (29, .int .i64 s.1)] a ∧ Stw ⟨Y, [], w0⟩ [(b1, [.int .i64 p0.1, .int .i64 p0.2.1, .int .i64 p0.2.2.1, .int .i64 p0.2.2.2.1, v1, .int .i64 p0.2.2.2.2.2.1, .int .i64 p0.2.2.2.2.2.2.1, .int .i64 p0.2.2.2.2.2.2.2])] [BV 53 5 b2 v4 s.2] w) ⟨v2, F.re ⟨rfl, Aa, Aa, Aa, Aa, Aa, trivial⟩, W⟩ fun s o a w H L2 hR => ?_
  obtain ⟨x14, x15⟩ := s
  obtain ⟨v4, F, W⟩ := hR
  have F : Fr 42 [] [(1, .pointer (some ⟨b1, 0, none⟩)), (2, .string (bs ([] : List UInt8))), (3, .pointer (some ⟨b2, 0, none⟩)), (27, v1), (28, .int .i64 (p0.2.2.2.2.1.length : Int)), (29, .int .i64 x14)] a := F
  have W : Stw ⟨Y, [], w0⟩ [(b1, [.int .i64 p0.1, .int .i64 p0.2.1, .int .i64 p0.2.2.1, .int .i64 p0.2.2.2.1, v1, .int .i64 p0.2.2.2.2.2.1, .int .i64 p0.2.2.2.2.2.2.1, .int .i64 p0.2.2.2.2.2.2.2])] [BV 53 5 b2 v4 x15] w := W
  rw [AY] at H
  refine Ai (Ac ?_)
  refine ls F W Aa (Df F Aa Aa).q fun a w F W => ?_
  refine Ae (Ad (Ai ?_))
  refine AJ F Aa (fun hb => ?_) fun hb => ?_
  ·
   have H := A9 (Bj hb) H
   rw [hb] at F
   clear hb
   refine AC (Ad (Ai (AG (Ai (Ac ?_)))))
   obtain ⟨x16, h13, H⟩ := Am H
   refine ls F W Aa (A0 (r := (Rp.int .i64)) G2 F Aa Aa (Ax h_v1) h13).q fun a w F W => ?_
   refine ls F W Aa (AD (y := Value.int .i64 x16) (j := 0) (i := x14) F Aa Aa (Ax h_v1) h13 Fl.int.to T3 Aa).q fun a w F W => ?_
   refine ls F W Aa (Ah F Aa).q fun a w F W => ?_
   refine Ae (Ad (Ac ?_))
   refine ls F W Aa (Ag F Aa).q fun a w F W => ?_
   obtain ⟨x17, h14, H⟩ := Am H
   refine ls F W Aa (Bg (v := Value.string (bs x17)) F Hk Aa (fun w W => CT any w x16 _ h14 (hG.go0 W))) fun a w F W => ?_
   obtain ⟨x18, h15, H⟩ := Am H
   refine ls F W Aa (BW (l := ([32] : List UInt8)) (m := x17) F Aa Aa h15).q fun a w F W => ?_
   obtain ⟨x19, h16, H⟩ := Am H
   refine Bd (Ml := []) (Zl := [BV 53 5 b2 v4 x15]) (M := [(b1, [.int .i64 p0.1, .int .i64 p0.2.1, .int .i64 p0.2.2.1, .int .i64 p0.2.2.2.1, v1, .int .i64 p0.2.2.2.2.2.1, .int .i64 p0.2.2.2.2.2.2.1, .int .i64 p0.2.2.2.2.2.2.2])]) (Z := []) (β := Value) (rv := fun x => .tuple #[.int .i64 (x18.length : Int), .nilIface]) (MM := fun x => []) (ZZ := fun x => [BV 53 5 b2 x x19]) F W H2 Aa Aa (fun hL => Ho _ _ w b2 v4 x15 x18 _ h16 hL) fun v5 a w F W => ?_
   have W : Stw ⟨Y, [], w0⟩ [(b1, [.int .i64 p0.1, .int .i64 p0.2.1, .int .i64 p0.2.2.1, .int .i64 p0.2.2.2.1, v1, .int .i64 p0.2.2.2.2.2.1, .int .i64 p0.2.2.2.2.2.2.1, .int .i64 p0.2.2.2.2.2.2.2])] [BV 53 5 b2 v5 x19] w := W
   refine Ae (AW (Ad (Ac ?_)))
   refine ls F W Aa (Cy F Aa Aa Aa).q fun a w F W => ?_
   refine ls F W Aa (Ag F Aa).q fun a w F W => ?_
   refine Ae (Ad ?_)
   exact ⟨_, H, v5, F.re ⟨rfl, Aa, Aa, Aa, Aa, Aa, trivial⟩, W⟩
  have H := A5 (Bi hb) H
  rw [hb] at F
  clear hb
  refine Ck ?_
  iterate 2 refine CX ?_
  refine Co (Ad ?_)
  have H := L2 _ H
  exact ⟨_, v4, H, F.re ⟨rfl, Aa, Aa, trivial⟩, W⟩
 rintro a w ⟨x13, v3, hj, F, W⟩
 have hj := Bf hj
 subst hj
 have H := K1
 clear G1 K1
 refine Ai (Ac ?_)
 refine ls F W Aa (Ap (v := Value.agg #[.int .i64 p0.1, .int .i64 p0.2.1, .int .i64 p0.2.2.1, .int .i64 p0.2.2.2.1, v1, .int .i64 p0.2.2.2.2.2.1, .int .i64 p0.2.2.2.2.2.2.1, .int .i64 p0.2.2.2.2.2.2.2]) 0 F Aa Aa HG Aa).q fun a w F W => ?_
 obtain ⟨x20, h17, H⟩ := Am H
 refine ls F W Aa (Bg (v := Value.string (bs x20)) F Iv Aa (fun w W => DL any w (v1) p0 _ h17 (((Ax h_v1) : DF _ _ _ _ _ _) w W).nx (hG.go0 W))) fun a w F W => ?_
 obtain ⟨x21, h18, H⟩ := Am H
 refine Bd (Ml := []) (Zl := [BV 53 5 b2 v3 x13]) (M := [(b1, [.int .i64 p0.1, .int .i64 p0.2.1, .int .i64 p0.2.2.1, .int .i64 p0.2.2.2.1, v1, .int .i64 p0.2.2.2.2.2.1, .int .i64 p0.2.2.2.2.2.2.1, .int .i64 p0.2.2.2.2.2.2.2])]) (Z := []) (β := Value) (rv := fun x => .tuple #[.int .i64 (x20.length : Int), .nilIface]) (MM := fun x => []) (ZZ := fun x => [BV 53 5 b2 x x21]) F W H2 Aa Aa (fun hL => Ho _ _ w b2 v3 x13 x20 _ h18 hL) fun v6 a w F W => ?_
 have W : Stw ⟨Y, [], w0⟩ [(b1, [.int .i64 p0.1, .int .i64 p0.2.1, .int .i64 p0.2.2.1, .int .i64 p0.2.2.2.1, v1, .int .i64 p0.2.2.2.2.2.1, .int .i64 p0.2.2.2.2.2.2.1, .int .i64 p0.2.2.2.2.2.2.2])] [BV 53 5 b2 v6 x21] w := W
 refine Ae (Ad (Ai (Ac ?_)))
 obtain ⟨x22, h19, H⟩ := Am H
 refine Bd (Ml := []) (Zl := [BV 53 5 b2 v6 x21]) (M := [(b1, [.int .i64 p0.1, .int .i64 p0.2.1, .int .i64 p0.2.2.1, .int .i64 p0.2.2.2.1, v1, .int .i64 p0.2.2.2.2.2.1, .int .i64 p0.2.2.2.2.2.2.1, .int .i64 p0.2.2.2.2.2.2.2])]) (Z := []) (β := Unit) (rv := fun x => .string (bs x22)) (MM := fun x => []) (ZZ := fun x => [BV 53 5 b2 v6 x21]) F W IF Aa Aa (fun hL => H4 _ _ w b2 v6 x21 _ h19 hL) fun _ a w F W => ?_
 have W : Stw ⟨Y, [], w0⟩ [(b1, [.int .i64 p0.1, .int .i64 p0.2.1, .int .i64 p0.2.2.1, .int .i64 p0.2.2.2.1, v1, .int .i64 p0.2.2.2.2.2.1, .int .i64 p0.2.2.2.2.2.2.1, .int .i64 p0.2.2.2.2.2.2.2])] [BV 53 5 b2 v6 x21] w := W
 refine ls F W Aa (Ah F Aa).q fun a w F W => ?_
 refine Ae (Ad (AQ ?_))
 have H := Bf H
 subst H
 refine Bk (.inl Aa) F W Aa (AZ F Aa) ?_
 exact ⟨rfl, W.done⟩
theorem IH : Has Tryd.prog 13 := ⟨fun args w => Ao Tryd.func13 rfl (by decide) args w⟩
def B8 (p0 : Int × Int × Int × Int × List Int × Int × Int × Int) : Int := max (DS ((p0.2.2.2.2.1.length : Int) - 1)) 0
theorem EM (Y : Nat → Prop) (w0 : World) (v1 : Value) (p0 : Int × Int × Int × Int × List Int × Int × Int × Int) (r : Int) (H : B8 p0 = r) (h_v1 : Sl w0 (NX []) (Rp.int .i64) v1 p0.2.2.2.2.1) :
    Calls Tryd.prog 10 #[.agg #[.int .i64 p0.1, .int .i64 p0.2.1, .int .i64 p0.2.2.1, .int .i64 p0.2.2.2.1, v1, .int .i64 p0.2.2.2.2.2.1, .int .i64 p0.2.2.2.2.2.2.1, .int .i64 p0.2.2.2.2.2.2.2]] w0 fun e w' => e = .returned (.int .i64 r) ∧ Below w0.heap.size w0 w' := by
 refine enter Tryd.func10 Aa Tryd.ntmps10 Aa fun a F => ?_
 have W := Stw.start Y w0
 unfold B8 at H
 refine Ai (Ac ?_)
 refine DH (cs := [.int .i64 p0.1, .int .i64 p0.2.1, .int .i64 p0.2.2.1, .int .i64 p0.2.2.2.1, v1, .int .i64 p0.2.2.2.2.2.1, .int .i64 p0.2.2.2.2.2.2.1, .int .i64 p0.2.2.2.2.2.2.2]) F W Aa Aa Aa fun b1 a w F W => ?_
 refine ls F W Aa (Ah F Aa).q fun a w F W => ?_
 refine Ae (Ad (Ai (Ac ?_)))
 refine ls F W Aa (Ab BM Aa Aa Aa DU F Aa 4 Aa).q fun a w F W => ?_
 refine ls F W Aa (Ap (v := v1) 0 F Aa Aa DU Aa).q fun a w F W => ?_
 refine ls F W Aa (BD (r := (Rp.int .i64)) (l := p0.2.2.2.2.1) E2 Aa F Aa (Ax h_v1)).q fun a w F W => ?_
 refine ls F W Aa (HI F Aa Aa Aa).q fun a w F W => ?_
 refine ls F W Aa (HN F Aa Aa).q fun a w F W => ?_
 refine ls F W Aa (Ah F Aa).q fun a w F W => ?_
 refine Ae (Ad (AQ ?_))
 subst H
 refine Bk (.inl Aa) F W Aa (AZ F Aa) ?_
 exact ⟨rfl, W.done⟩
theorem HO : type_of% Tryd.underlying48 := Tryd.underlying48
theorem H1 : type_of% Tryd.underlying49 := Tryd.underlying49
theorem Ir : Has Tryd.prog 10 := ⟨fun args w => Ao Tryd.func10 rfl (by decide) args w⟩
abbrev Ff (x : Unit) : Value := .agg #[]
theorem Iu : Bt Tryd.prog 49 [] [] := ⟨⟨.agg #[], by kernel_rfl, rfl⟩, ⟨_, H1, fun w => by kernel_rfl⟩⟩
noncomputable def A2 (p0 : Int × Int × Int × Int × List Int × Int × Int × Int) : (Int × (List (Int × Unit))) → Option ((Int × (List (Int × Unit))) ⊕ (List (Int × Unit)))
  | (x2, x3) => (if x2 < (p0.2.2.2.2.1.length : Int) then (ix p0.2.2.2.2.1 x2).bind fun x4 => some (.inl (DS (x2 + 1), BU x3 x4 ())) else some (.inr x3))
noncomputable def BL (p0 : Int × Int × Int × Int × List Int × Int × Int × Int) : Option Bool := (AP (A2 p0) (0, ([] : List (Int × Unit)))).bind fun x1 => some (decide ((x1.length : Int) < (p0.2.2.2.2.1.length : Int)))
theorem Ek (Y : Nat → Prop) (w0 : World) (v1 : Value) (p0 : Int × Int × Int × Int × List Int × Int × Int × Int) (r : Bool) (H : BL p0 = some r) (h_v1 : Sl w0 (NX []) (Rp.int .i64) v1 p0.2.2.2.2.1) :
    Calls Tryd.prog 11 #[.agg #[.int .i64 p0.1, .int .i64 p0.2.1, .int .i64 p0.2.2.1, .int .i64 p0.2.2.2.1, v1, .int .i64 p0.2.2.2.2.2.1, .int .i64 p0.2.2.2.2.2.2.1, .int .i64 p0.2.2.2.2.2.2.2]] w0 fun e w' => e = .returned (.bool r) ∧ Below w0.heap.size w0 w' := by
 refine enter Tryd.func11 Aa Tryd.ntmps11 Aa fun a F => ?_
 have W := Stw.start Y w0
 unfold BL at H
 refine Ai (Ac ?_)
 refine DH (cs := [.int .i64 p0.1, .int .i64 p0.2.1, .int .i64 p0.2.2.1, .int .i64 p0.2.2.2.1, v1, .int .i64 p0.2.2.2.2.2.1, .int .i64 p0.2.2.2.2.2.2.1, .int .i64 p0.2.2.2.2.2.2.2]) F W Aa Aa Aa fun b1 a w F W => ?_
 refine ls F W Aa (Ah F Aa).q fun a w F W => ?_
 refine Ae (Ad (Ai (Ac ?_)))
 refine EF AF Ff F W Aa fun b2 a w F W => ?_
 have W : Stw ⟨Y, [], w0⟩ [(b1, [.int .i64 p0.1, .int .i64 p0.2.1, .int .i64 p0.2.2.1, .int .i64 p0.2.2.2.1, v1, .int .i64 p0.2.2.2.2.2.1, .int .i64 p0.2.2.2.2.2.2.1, .int .i64 p0.2.2.2.2.2.2.2])] [mp b2 AF Ff ([] : List (Int × Unit))] w := W
 refine ls F W Aa (Ah F Aa).q fun a w F W => ?_
 refine Ae (Ad ?_)
 obtain ⟨o1, G1, K1⟩ := Am H
 refine Bq (fun a w => ∃ x1 : List (Int × Unit), some (x1) = some o1 ∧ Fr 24 [] [(1, .pointer (some ⟨b1, 0, none⟩)), (2, .bool false), (3, .map (some b2))] a ∧ Stw ⟨Y, [], w0⟩ [(b1, [.int .i64 p0.1, .int .i64 p0.2.1, .int .i64 p0.2.2.1, .int .i64 p0.2.2.2.1, v1, .int .i64 p0.2.2.2.2.2.1, .int .i64 p0.2.2.2.2.2.2.1, .int .i64 p0.2.2.2.2.2.2.2])] [mp b2 AF Ff x1] w) ?_ ?_
 ·
  have H := G1
  clear G1 K1
  refine Ai (Ac ?_)
  refine ls F W Aa (Ab BM Aa Aa Aa DU F Aa 4 Aa).q fun a w F W => ?_
  refine ls F W Aa (Ap (v := v1) 0 F Aa Aa DU Aa).q fun a w F W => ?_
  refine ls F W Aa (BD (r := (Rp.int .i64)) (l := p0.2.2.2.2.1) E2 Aa F Aa (Ax h_v1)).q fun a w F W => ?_
  refine ls F W Aa (Ag F Aa).q fun a w F W => ?_
  refine Ae (Ad (AG ?_))
  refine Cj H (fun s a w => Fr 24 [] [(1, .pointer (some ⟨b1, 0, none⟩)), (2, .bool false), (3, .map (some b2)), (8, v1), (9, .int .i64 (p0.2.2.2.2.1.length : Int)), (10, .int .i64 s.1)] a ∧ Stw ⟨Y, [], w0⟩ [(b1, [.int .i64 p0.1, .int .i64 p0.2.1, .int .i64 p0.2.2.1, .int .i64 p0.2.2.2.1, v1, .int .i64 p0.2.2.2.2.2.1, .int .i64 p0.2.2.2.2.2.2.1, .int .i64 p0.2.2.2.2.2.2.2])] [mp b2 AF Ff s.2] w) ⟨F.re ⟨rfl, Aa, Aa, Aa, Aa, Aa, trivial⟩, W⟩ fun s o a w H L2 hR => ?_
  obtain ⟨x2, x3⟩ := s
  obtain ⟨F, W⟩ := hR
  have F : Fr 24 [] [(1, .pointer (some ⟨b1, 0, none⟩)), (2, .bool false), (3, .map (some b2)), (8, v1), (9, .int .i64 (p0.2.2.2.2.1.length : Int)), (10, .int .i64 x2)] a := F
  have W : Stw ⟨Y, [], w0⟩ [(b1, [.int .i64 p0.1, .int .i64 p0.2.1, .int .i64 p0.2.2.1, .int .i64 p0.2.2.2.1, v1, .int .i64 p0.2.2.2.2.2.1, .int .i64 p0.2.2.2.2.2.2.1, .int .i64 p0.2.2.2.2.2.2.2])] [mp b2 AF Ff x3] w := W
  rw [A2] at H
  refine Ai (Ac ?_)
  refine ls F W Aa (Df F Aa Aa).q fun a w F W => ?_
  refine Ae (Ad (Ai ?_))
  refine AJ F Aa (fun hb => ?_) fun hb => ?_
  ·
   have H := A9 (Bj hb) H
   rw [hb] at F
   clear hb
   refine AC (Ad (Ai (AG (Ai (Ac ?_)))))
   obtain ⟨x4, h1, H⟩ := Am H
   refine ls F W Aa (A0 (r := (Rp.int .i64)) G2 F Aa Aa (Ax h_v1) h1).q fun a w F W => ?_
   refine ls F W Aa (AD (y := Value.int .i64 x4) (j := 0) (i := x2) F Aa Aa (Ax h_v1) h1 Fl.int.to T3 Aa).q fun a w F W => ?_
   refine ls F W Aa (Ah F Aa).q fun a w F W => ?_
   refine Ae (Ad (Ac ?_))
   iterate 2 refine ls F W Aa (Ag F Aa).q fun a w F W => ?_
   refine ls F W Aa (Cp (v := Value.agg #[]) Iu F Aa Aa Aa).q fun a w F W => ?_
   refine D5 (q := 0) (kx := (x4 : Int)) (vx := (() : Unit)) (E := AF) (V := Ff) F W Aa Aa Aa Aa Aa HW HO fun w W => ?_
   have W : Stw ⟨Y, [], w0⟩ [(b1, [.int .i64 p0.1, .int .i64 p0.2.1, .int .i64 p0.2.2.1, .int .i64 p0.2.2.2.1, v1, .int .i64 p0.2.2.2.2.2.1, .int .i64 p0.2.2.2.2.2.2.1, .int .i64 p0.2.2.2.2.2.2.2])] [mp b2 AF Ff (BU x3 x4 ())] w := W
   refine Ae (AW (Ad (Ac ?_)))
   refine ls F W Aa (Cy F Aa Aa Aa).q fun a w F W => ?_
   refine ls F W Aa (Ag F Aa).q fun a w F W => ?_
   refine Ae (Ad ?_)
   exact ⟨_, H, F.re ⟨rfl, Aa, Aa, Aa, Aa, Aa, trivial⟩, W⟩
  have H := A5 (Bi hb) H
  rw [hb] at F
  clear hb
  refine Ck ?_
  iterate 2 refine CX ?_
  refine Co (Ad ?_)
  have H := L2 _ H
  exact ⟨_, H, F.re ⟨rfl, Aa, Aa, trivial⟩, W⟩
 rintro a w ⟨x1, hj, F, W⟩
 have hj := Bf hj
 subst hj
 have H := K1
 clear G1 K1
 refine Ai (Ac ?_)
 refine ls F W Aa (Ag F Aa).q fun a w F W => ?_
 refine ls F W Aa (Gd (q := 0) (E := AF) (V := Ff) F Aa Aa Aa HO).q fun a w F W => ?_
 refine ls F W Aa (Ab BM Aa Aa Aa DU F Aa 4 Aa).q fun a w F W => ?_
 refine ls F W Aa (Ap (v := v1) 0 F Aa Aa DU Aa).q fun a w F W => ?_
 refine ls F W Aa (BD (r := (Rp.int .i64)) (l := p0.2.2.2.2.1) E2 Aa F Aa (Ax h_v1)).q fun a w F W => ?_
 refine ls F W Aa (Df F Aa Aa).q fun a w F W => ?_
 refine ls F W Aa (Ah F Aa).q fun a w F W => ?_
 refine Ae (Ad (AQ ?_))
 have H := Bf H
 subst H
 refine Bk (.inl Aa) F W Aa (AZ F Aa) ?_
 exact ⟨rfl, W.done⟩
end Go.Proofs.YtpmhmemmniiomaaDoor
