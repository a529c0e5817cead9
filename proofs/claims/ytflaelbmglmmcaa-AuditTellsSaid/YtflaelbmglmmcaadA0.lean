/- The functions of layer 42, FF. Conditions: none. -/
import Derived.Test.YtflaelbmglmmcaaRows
import Derived.Test.YtflaelbmglmmcaadOT
import Derived.Test.YtflaelbmglmmcaadQT
import Derived.Test.YtflaelbmglmmcaadOD
import Derived.Test.YtflaelbmglmmcaadRF
import Derived.Test.YtflaelbmglmmcaadOC
import Derived.Test.YtflaelbmglmmcaadOM
import Derived.Test.YtflaelbmglmmcaadRF
import Derived.Test.YtflaelbmglmmcaadDR
import Derived.Test.YtflaelbmglmmcaadOX
namespace Go.Proofs.Ytflaelbmglmmcaa
open Go Go.RowKit
set_option linter.unusedVariables false
set_option linter.unusedSimpArgs false
set_option maxRecDepth 20000
theorem On : type_of% Try.underlying3 := Try.underlying3
theorem IK : type_of% Try.underlying23 := Try.underlying23
theorem Dg : type_of% Try.underlying25 := Try.underlying25
theorem Nk : type_of% Try.underlying26 := Try.underlying26
theorem JE : type_of% Try.underlying27 := Try.underlying27
theorem KO : type_of% Try.underlying38 := Try.underlying38
theorem Cf : type_of% Try.underlying48 := Try.underlying48
theorem JM : type_of% Try.underlying52 := Try.underlying52
theorem Fc : type_of% Try.underlying54 := Try.underlying54
theorem JS : type_of% Try.underlying60 := Try.underlying60
abbrev Ej : Rp (Int × Int × Int × Int × Int × Int) := (Rp.pair (Rp.int .i64) (Rp.pair (Rp.int .i64) (Rp.pair (Rp.int .i64) (Rp.pair (Rp.int .i64) (Rp.pair (Rp.int .i64) (Rp.int .i64))))))
theorem QO : Bt Try.prog 60 [.int .i64 0, .int .i64 0] [(0, 1), (1, 1)] := ⟨⟨.agg #[.int .i64 0, .int .i64 0], by kernel_rfl, rfl⟩, ⟨_, JS, fun w => by kernel_rfl⟩⟩
theorem QV : (Try.prog.info? 60).bind (·.zero) = some (.agg #[.int .i64 0, .int .i64 0]) := by kernel_rfl
abbrev EL : Rp (Int × Int) := (Rp.pair (Rp.int .i64) (Rp.int .i64))
def Q5 (a : Int × Int) : List Value := [.int .i64 a.1, .int .i64 a.2]
theorem OA : Fl EL Q5 := (Fl.pair Fl.int Fl.int)
theorem Od : Et Try.prog 23 60 2 16 := Et.of IK (by kernel_rfl) (by kernel_rfl) (by kernel_rfl) (by decide)
theorem Q1 : Bt Try.prog 25 [.int .i64 0, .slice none 0 0, .slice none 0 0] [(0, 1), (1, 1), (2, 1)] := ⟨⟨.agg #[.int .i64 0, .slice none 0 0, .slice none 0 0], by kernel_rfl, rfl⟩, ⟨_, Dg, fun w => by kernel_rfl⟩⟩
theorem RA : (Try.prog.info? 25).bind (·.zero) = some (.agg #[.int .i64 0, .slice none 0 0, .slice none 0 0]) := by kernel_rfl
theorem HW : Ty Try.prog 25 true 3 := ⟨by kernel_rfl, by kernel_rfl⟩
theorem Z3 : (Try.prog.info? 3).bind (·.zero) = some (.int .i64 0) := by kernel_rfl
theorem Hl : Et Try.prog 54 3 1 8 := Et.of Fc (by kernel_rfl) (by kernel_rfl) (by kernel_rfl) (by decide)
theorem Sa : (Try.prog.info? 54).bind (·.zero) = some (.slice none 0 0) := by kernel_rfl
theorem MT : Et Try.prog 52 54 1 24 := Et.of JM (by kernel_rfl) (by kernel_rfl) (by kernel_rfl) (by decide)
theorem R3 : (Try.prog.info? 52).bind (·.zero) = some (.slice none 0 0) := by kernel_rfl
theorem P4 : Et Try.prog 26 52 1 24 := Et.of Nk (by kernel_rfl) (by kernel_rfl) (by kernel_rfl) (by decide)
theorem PL : Bt Try.prog 48 [.int .i64 0, .int .i64 0, .int .i64 0, .int .i64 0, .int .i64 0, .int .i64 0] [(0, 1), (1, 1), (2, 1), (3, 1), (4, 1), (5, 1)] := ⟨⟨.agg #[.int .i64 0, .int .i64 0, .int .i64 0, .int .i64 0, .int .i64 0, .int .i64 0], by kernel_rfl, rfl⟩, ⟨_, Cf, fun w => by kernel_rfl⟩⟩
theorem Px : (Try.prog.info? 48).bind (·.zero) = some (.agg #[.int .i64 0, .int .i64 0, .int .i64 0, .int .i64 0, .int .i64 0, .int .i64 0]) := by kernel_rfl
def Rk (a : Int × Int × Int × Int × Int × Int) : List Value := [.int .i64 a.1, .int .i64 a.2.1, .int .i64 a.2.2.1, .int .i64 a.2.2.2.1, .int .i64 a.2.2.2.2.1, .int .i64 a.2.2.2.2.2]
theorem JJ : Fl Ej Rk := (Fl.pair Fl.int (Fl.pair Fl.int (Fl.pair Fl.int (Fl.pair Fl.int (Fl.pair Fl.int Fl.int)))))
theorem JK : Et Try.prog 27 48 6 48 := Et.of JE (by kernel_rfl) (by kernel_rfl) (by kernel_rfl) (by decide)
abbrev C8 : Rp (Int × Int × Int × Int × Int × Int) := (Rp.pair (Rp.int .i64) (Rp.pair (Rp.int .i64) (Rp.pair (Rp.int .i64) (Rp.pair (Rp.int .i64) (Rp.pair (Rp.int .i64) (Rp.int .i64))))))
abbrev PI (p : Value × List Int) : List Int := p.2
theorem Ep : Ex (Rp.slice (Rp.int .i64)) (Rp.vsl (Rp.int .i64)) PI := Ex.sliceF
abbrev QB (p : Value × List (Value × List Int)) : List (List Int) := (p.2.map PI)
theorem Hw : Ex (Rp.slice (Rp.slice (Rp.int .i64))) (Rp.vsl (Rp.vsl (Rp.int .i64))) QB := (Ex.slice Ep)
theorem Qy : (Try.prog.info? 70).bind (·.zero) = some (.agg #[.slice none 0 0, .slice none 0 0]) := by kernel_rfl
theorem RW : (Try.prog.info? 30).bind (·.zero) = some (.slice none 0 0) := by kernel_rfl
abbrev BL (x : Int) : Value := .int .i64 x
theorem RY : (Try.prog.info? 61).bind (·.zero) = some (.map none) := by kernel_rfl
theorem OL : Ty Try.prog 61 false 1 := ⟨by kernel_rfl, by kernel_rfl⟩
theorem P6 : Ty Try.prog 27 false 1 := ⟨by kernel_rfl, by kernel_rfl⟩
theorem Qv (Y : Nat → Prop) (w0 : World) (v : Value) (h1 : v.oneCell' = true) : Calls Try.prog 23 [v].toArray w0 fun e w' => ∃ b, e = .returned (.func (.func 39) #[] #[.pointer (some ⟨b, 0, none⟩)]) ∧ Stw ⟨Y, [], w0⟩ [(b, [v])] [] w' := by
 refine enter Try.func23 Aa Try.ntmps23 Aa fun a W => ?_
 have F := Stw.start Y w0
 refine Ai (Ac ?_)
 refine B9 (cs := [v]) W F Aa Aa (DB h1) fun b1 a w W F => ?_
 refine ls W F Aa (Ah W Aa).q fun a w W F => ?_
 refine Ad (Ab (Ai (Ac ?_)))
 refine ls W F Aa (Hr (us := []) (vs := [.pointer (some ⟨b1, 0, none⟩)]) W Aa Aa).q fun a w W F => ?_
 refine ls W F Aa (Ah W Aa).q fun a w W F => ?_
 refine Ad (Ab (AA ?_))
 refine AW (.inl Aa) W F Aa (As W Aa) ?_
 exact ⟨b1, Aa, F⟩
theorem Q0 : Has Try.prog 23 := ⟨fun args w => Al Try.func23 rfl (by decide) args w⟩
theorem Mu : Ty Try.prog 48 true 6 := ⟨by kernel_rfl, by kernel_rfl⟩
theorem Rr (b : Nat) (v : Value) (l : List (Int × Int × Int × Int × Int × Int)) (hn : l.length ≤ 1000000000) :
    O7 Try.prog 39 [.pointer (some ⟨b, 0, none⟩)] (Pw b v Ej l) (IL l) (fun p => [.int .i64 p.1, Value.agg #[.int .i64 p.2.1, .int .i64 p.2.2.1, .int .i64 p.2.2.2.1, .int .i64 p.2.2.2.2.1, .int .i64 p.2.2.2.2.2.1, .int .i64 p.2.2.2.2.2.2]]) := by
 intro y K Kx w0 hB hR hY h0
 refine enter (args := [.func (.yield y) #[] #[], .pointer (some ⟨b, 0, none⟩)]) Try.func39 Aa Try.ntmps39 Aa fun a W => ?_
 refine Ai (Ac ?_)
 have F := Stw.start any w0
 have hr := hR _ _ h0
 refine ls W F Aa (I2 (cs := [v]) (v := v) hr.1 (by simp) W Aa P6 Aa).q fun a w W F => ?_
 refine ls W F Aa (A6 (r := Ej) (l := l) JE Aa W Aa (Aj hr.2.nx)).q fun a w W F => ?_
 refine ls W F Aa (HE (r := (l.length : Int) - 1) W Aa Aa (KG hn)).q fun a w W F => ?_
 refine ls W F Aa (Ah W Aa).q fun a w W F => ?_
 refine Ad (Ab ?_)
 have hK := hB _ _ _ h0 F.frm.below
 have W : Fr 19 [] [(0, .func (.yield y) #[] #[]), (1, .pointer (some ⟨b, 0, none⟩)), (3, .int .i64 ((l.length : Int) - 1))] a := W.re ⟨rfl, Aa, Aa, trivial⟩
 clear F hr h0
 have hl : l.take l.length = l := List.take_length
 rw [← hl] at hK
 refine Au ?_
 refine Ga (fun m a w => m ≤ l.length ∧ Fr 19 [] [(0, .func (.yield y) #[] #[]), (1, .pointer (some ⟨b, 0, none⟩)), (3, .int .i64 ((m : Int) - 1))] a ∧ K (IL (l.take m)) w) l.length ⟨Nat.le_refl _, W, hK⟩ ?_
 clear W hK w
 rintro m a w ⟨hm, W, hK⟩
 have F := Stw.start any w
 have hr := hR _ _ hK
 refine Ai (Ai (Ac ?_))
 refine ls W F Aa (Ag W Aa).q fun a w1 W F => ?_
 refine ls W F Aa (DH W Aa Aa).q fun a w1 W F => ?_
 refine Ad (Ab ?_)
 cases m with
 | zero =>
  refine HD W Aa ?_
  refine A8 ?_
  iterate 2 refine Bk ?_
  refine A9 ?_
  exact GF (.inr Aa) (W.re (F' := []) trivial) Aa ⟨⟨_, Aa⟩, .inl (hB _ _ _ hK F.frm.below)⟩
 | succ k =>
  refine HG W (by show some (Value.bool (decide ((0 : Int) ≤ (k + 1 : Nat) - 1))) = some (Value.bool true); rw [decide_eq_true (by omega)]) ?_
  have hk : k < l.length := hm
  have hx : ix l (k : Int) = some l[k] := by unfold ix; rw [if_pos (by omega)]; simp
  have hx2 : l[k]? = some l[k] := by simp
  have e1 : ((k + 1 : Nat) : Int) - 1 = k := by omega
  rw [e1] at W
  rw [HS hx2] at hK
  refine Ap (Ab (Ai (Au (Ai ?_))))
  refine J5 6 (fun ⟨_, _, h⟩ => by obtain ⟨⟨_, h⟩, _⟩ := h; cases h) ?_
  iterate 2 refine ls W F Aa (Ag W Aa).q fun a w1 W F => ?_
  refine ls W F Aa (I2 (cs := [v]) (v := v) hr.1 (by simp) W Aa P6 Aa).q fun a w1 W F => ?_
  refine ls W F Aa (Ag W Aa).q fun a w1 W F => ?_
  refine ls W F Aa (Az (r := Ej) JK W Aa Aa (Aj hr.2.nx) hx).q fun a w1 W F => ?_
  refine ls W F Aa (Aq (y := Value.agg #[.int .i64 ((l[k]).1), .int .i64 ((l[k]).2.1), .int .i64 ((l[k]).2.2.1), .int .i64 ((l[k]).2.2.2.1), .int .i64 ((l[k]).2.2.2.2.1), .int .i64 ((l[k]).2.2.2.2.2)]) (j := 0) (i := (k : Int)) W Aa Aa (Aj hr.2.nx) hx JJ.to Mu Aa).q fun a w1 W F => ?_
  refine Ad ?_
  have hK := hB _ _ _ hK F.frm.below
  refine Mo (vs := [.int .i64 k, Value.agg #[.int .i64 ((l[k]).1), .int .i64 ((l[k]).2.1), .int .i64 ((l[k]).2.2.1), .int .i64 ((l[k]).2.2.2.1), .int .i64 ((l[k]).2.2.2.2.1), .int .i64 ((l[k]).2.2.2.2.2)]]) W Aa Aa Aa (hY _ _ _ hK) ?_
  rintro e w2 (⟨rfl, hK2⟩ | ⟨rfl, hx2⟩)
  · refine ⟨_, rfl, fun a W => ?_⟩
    refine KF W Aa Aa fun a W => ?_
    refine KK (Ab ?_)
    refine HD W Aa ?_
    refine Ap (AF (Ab (Ac ?_)))
    have F := Stw.start any w2
    refine ls W F Aa (Ag W Aa).q fun a w3 W F => ?_
    refine ls W F Aa (HE (r := (k : Int) - 1) W Aa Aa (KG (by omega))).q fun a w3 W F => ?_
    refine ls W F Aa (Ah W Aa).q fun a w3 W F => ?_
    refine Ad (Ab ?_)
    exact ⟨k, Nat.lt_succ_self k, Nat.le_of_lt hk, W.re ⟨rfl, Aa, Aa, trivial⟩, hB _ _ _ hK2 F.frm.below⟩
  · refine ⟨_, rfl, fun a W => ?_⟩
    refine KF W Aa Aa fun a W => ?_
    refine KK (Ab ?_)
    refine HG W Aa ?_
    refine AA (AH ?_)
    iterate 2 refine AD ?_
    refine AH ?_
    refine GF (.inl Aa) (W.re (F' := []) trivial) Aa ⟨⟨_, Aa⟩, .inr hx2⟩
theorem T3 : Ty Try.prog 3 false 1 := ⟨by kernel_rfl, by kernel_rfl⟩
theorem PB : KeyEnc Try.prog 3 BL := KeyEnc.int On
theorem RU : Bt Try.prog 38 [.int .i64 0, .int .i64 0, .int .i64 0] [(0, 1), (1, 1), (2, 1)] := ⟨⟨.agg #[.int .i64 0, .int .i64 0, .int .i64 0], by kernel_rfl, rfl⟩, ⟨_, KO, fun w => by kernel_rfl⟩⟩
theorem Qn : (Try.prog.info? 38).bind (·.zero) = some (.agg #[.int .i64 0, .int .i64 0, .int .i64 0]) := by kernel_rfl
theorem Ow : Ty Try.prog 38 true 3 := ⟨by kernel_rfl, by kernel_rfl⟩
theorem MO : Try.prog.follows .mixedOrders = true := by kernel_rfl
def Ck (p0 : Int × Int × Int × Int × Int × Int) (p1 : Int × Int × Int × Int × Int × Int) : Int := (if p1.1 = 9 then p0.2.2.2.2.2 else p1.2.1)
theorem JV (Y : Nat → Prop) (w0 : World)  (p0 : Int × Int × Int × Int × Int × Int) (p1 : Int × Int × Int × Int × Int × Int) (r : Int) (H : Ck p0 p1 = r)  :
    Calls Try.prog 24 #[.agg #[.int .i64 p0.1, .int .i64 p0.2.1, .int .i64 p0.2.2.1, .int .i64 p0.2.2.2.1, .int .i64 p0.2.2.2.2.1, .int .i64 p0.2.2.2.2.2], .agg #[.int .i64 p1.1, .int .i64 p1.2.1, .int .i64 p1.2.2.1, .int .i64 p1.2.2.2.1, .int .i64 p1.2.2.2.2.1, .int .i64 p1.2.2.2.2.2]] w0 fun e w' => e = .returned (.int .i64 r) ∧ Below w0.heap.size w0 w' := by
 refine enter Try.func24 Aa Try.ntmps24 Aa fun a W => ?_
 have F := Stw.start Y w0
 unfold Ck at H
 refine Ai (Ac ?_)
 refine B9 (cs := [.int .i64 p0.1, .int .i64 p0.2.1, .int .i64 p0.2.2.1, .int .i64 p0.2.2.2.1, .int .i64 p0.2.2.2.2.1, .int .i64 p0.2.2.2.2.2]) W F Aa Aa Aa fun b1 a w W F => ?_
 refine B9 (cs := [.int .i64 p1.1, .int .i64 p1.2.1, .int .i64 p1.2.2.1, .int .i64 p1.2.2.2.1, .int .i64 p1.2.2.2.2.1, .int .i64 p1.2.2.2.2.2]) W F Aa Aa Aa fun b2 a w W F => ?_
 refine ls W F Aa (Ah W Aa).q fun a w W F => ?_
 refine Ad (Ab (Ai (Ai (Ac ?_))))
 refine ls W F Aa (Af Cf Aa Aa Aa T3 W Aa 0 Aa).q fun a w W F => ?_
 refine ls W F Aa (Am (v := Value.int .i64 p1.1) 0 W Aa Aa T3 Aa).q fun a w W F => ?_
 refine ls W F Aa (Bz W Aa Aa).q fun a w W F => ?_
 refine Ad (Ab ?_)
 refine Ax W Aa (fun hb => ?_) fun hb => ?_
 ·
  have H := AK (Bd hb) H
  rw [hb] at W
  clear hb
  refine Ai (Ac ?_)
  refine ls W F Aa (Af Cf Aa Aa Aa T3 W Aa 5 Aa).q fun a w W F => ?_
  refine ls W F Aa (Am (v := Value.int .i64 p0.2.2.2.2.2) 1 W Aa Aa T3 Aa).q fun a w W F => ?_
  refine ls W F Aa (Ah W Aa).q fun a w W F => ?_
  refine Ad (Ab (AA (AD ?_)))
  subst H
  refine AW (.inl Aa) W F Aa (As W Aa) ?_
  exact ⟨rfl, F.done⟩
 have H := AL (Bc hb) H
 rw [hb] at W
 clear hb
 refine Ap (Ab (Ai (Ac ?_)))
 refine ls W F Aa (Af Cf Aa Aa Aa T3 W Aa 1 Aa).q fun a w W F => ?_
 refine ls W F Aa (Am (v := Value.int .i64 p1.2.1) 0 W Aa Aa T3 Aa).q fun a w W F => ?_
 refine ls W F Aa (Ah W Aa).q fun a w W F => ?_
 refine Ad (Ab (AA ?_))
 subst H
 refine AW (.inl Aa) W F Aa (As W Aa) ?_
 exact ⟨rfl, F.done⟩
theorem N4 : type_of% Try.underlying30 := Try.underlying30
theorem Sv : Has Try.prog 24 := ⟨fun args w => Al Try.func24 rfl (by decide) args w⟩
theorem OX : Ty Try.prog 30 false 1 := ⟨by kernel_rfl, by kernel_rfl⟩
abbrev CG : Rp (Int × Int × Int) := (Rp.pair (Rp.int .i64) (Rp.pair (Rp.int .i64) (Rp.int .i64)))
def Q2 (a : Int × Int × Int) : List Value := [.int .i64 a.1, .int .i64 a.2.1, .int .i64 a.2.2]
theorem N9 : Fl CG Q2 := (Fl.pair Fl.int (Fl.pair Fl.int Fl.int))
theorem Nt : Et Try.prog 30 38 3 24 := Et.of N4 (by kernel_rfl) (by kernel_rfl) (by kernel_rfl) (by decide)
theorem RR : Has Try.prog 39 := ⟨fun args w => Al Try.func39 rfl (by decide) args w⟩
noncomputable def AY  : ((List (Int × Int × Int)) × Int × Int) → Option (((List (Int × Int × Int)) × Int × Int) ⊕ (List (Int × Int × Int)))
  | (x1, x2, x3) => (if x2 < x3 then (ix x1 x3).bind fun x4 => (ix x1 x2).bind fun x5 => (ix x1 x2).bind fun x6 => (ix (Aw x1 x2 x4) x3).bind fun x7 => some (.inl ((Aw (Aw x1 x2 x4) x3 x5), Dz (x2 + 1), Dz (x3 - 1))) else some (.inr x1))
noncomputable def AP (p0 : List (Int × Int × Int)) : Option (List (Int × Int × Int)) := AM (AY) (p0, 0, Dz ((p0.length : Int) - 1))
theorem DF (Y : Nat → Prop) (X : List Nat) (w0 : World) (v1 : Value) (p0 : List (Int × Int × Int)) (r : (List (Int × Int × Int))) (H : AP p0 = some r) (hL : Stw ⟨Y, X, w0⟩ [] [row v1 38 CG p0] w0) :
    Calls Try.prog 25 #[v1] w0 fun e w' => ∃ x : Unit, e = .returned (.tuple #[]) ∧ Stw ⟨Y, X, w0⟩ [] [row v1 38 CG r] w' := by
 refine enter Try.func25 Aa Try.ntmps25 Aa fun a W => ?_
 have F := hL
 unfold AP at H
 refine Ai (Ac ?_)
 refine ls W F Aa (Ag W Aa).q fun a w W F => ?_
 refine ls W F Aa (A6 (r := CG) (l := p0) N4 Aa W Aa (AE 0 Aa)).q fun a w W F => ?_
 refine ls W F Aa (HE W Aa Aa Aa).q fun a w W F => ?_
 iterate 2 refine ls W F Aa (Ah W Aa).q fun a w W F => ?_
 refine Ad (Ab (Au ?_))
 refine Bf H (fun s a w => Fr 28 [] [(0, v1), (2, .int .i64 s.2.1), (3, .int .i64 s.2.2)] a ∧ Stw ⟨Y, X, w0⟩ [] [row v1 38 CG s.1] w) ⟨W.re ⟨rfl, Aa, Aa, trivial⟩, F⟩ fun s o a w H L1 hR => ?_
 obtain ⟨x1, x2, x3⟩ := s
 obtain ⟨W, F⟩ := hR
 have W : Fr 28 [] [(0, v1), (2, .int .i64 x2), (3, .int .i64 x3)] a := W
 have F : Stw ⟨Y, X, w0⟩ [] [row v1 38 CG x1] w := F
 rw [AY] at H
 refine Ai (Ai (Ac ?_))
 iterate 2 refine ls W F Aa (Ag W Aa).q fun a w W F => ?_
 refine ls W F Aa (Bi W Aa Aa).q fun a w W F => ?_
 refine Ad (Ab ?_)
 refine Ax W Aa (fun hb => ?_) fun hb => ?_
 ·
  have H := AK (Bd hb) H
  rw [hb] at W
  clear hb
  refine Ap (Ab (Ai (Au ?_)))
  refine Mi 13 [2, 3] [0, 1, 4, 5, 6, 7, 8, 9, 10, 11, 12] (fun ch a d v w h => by cases d <;> exact h) F MO (by kernel_rfl) ?_
  iterate 2 refine hm W Aa Aa Aa fun a W => ?_
  refine Nr ?_
  iterate 4 refine hs W Aa Aa Aa (Ag W Aa).q fun a W => ?_
  obtain ⟨x4, h1, H⟩ := An H
  refine hs W Aa Aa Aa (Az (r := CG) Nt W Aa Aa (AE 0 Aa) h1).q fun a W => ?_
  refine hs W Aa Aa Aa (Aq (y := Value.agg #[.int .i64 x4.1, .int .i64 x4.2.1, .int .i64 x4.2.2]) (j := 0) (i := x3) W Aa Aa (AE 0 Aa) h1 N9.to Ow Aa).q fun a W => ?_
  iterate 2 refine hs W Aa Aa Aa (Ag W Aa).q fun a W => ?_
  obtain ⟨x5, h2, H⟩ := An H
  refine hs W Aa Aa Aa (Az (r := CG) Nt W Aa Aa (AE 0 Aa) h2).q fun a W => ?_
  refine hs W Aa Aa Aa (Aq (y := Value.agg #[.int .i64 x5.1, .int .i64 x5.2.1, .int .i64 x5.2.2]) (j := 0) (i := x2) W Aa Aa (AE 0 Aa) h2 N9.to Ow Aa).q fun a W => ?_
  obtain ⟨x6, h3, H⟩ := An H
  refine hs W Aa Aa Aa (Az (r := CG) Nt W Aa Aa (AE 0 Aa) h3).q fun a W => ?_
  refine OQ fun w F => ?_
  have F : Stw ⟨Y, X, w0⟩ [] [row v1 38 CG x1] w := F
  refine Hz (i := x2) (j := 0) (vs := [.int .i64 x4.1, .int .i64 x4.2.1, .int .i64 x4.2.2]) (x' := x4) W F Aa Aa Aa (k := 0) Aa Aa h3 Ow Aa Aa Aa Aa (fun A cs _ => N9.sto (by rfl) _ _ _) fun w F => ?_
  obtain ⟨x7, h4, H⟩ := An H
  refine ls W F Aa (Az (r := CG) Nt W Aa Aa (AE 0 Aa) h4).q fun a w W F => ?_
  refine Hz (i := x3) (j := 0) (vs := [.int .i64 x5.1, .int .i64 x5.2.1, .int .i64 x5.2.2]) (x' := x5) W F Aa Aa Aa (k := 0) Aa Aa h4 Ow Aa Aa Aa Aa (fun A cs _ => N9.sto (by rfl) _ _ _) fun w F => ?_
  refine Ad (AF (Ab (Ac ?_)))
  refine ls W F Aa (Ag W Aa).q fun a w W F => ?_
  refine ls W F Aa (BS W Aa Aa Aa).q fun a w W F => ?_
  refine ls W F Aa (Ag W Aa).q fun a w W F => ?_
  refine ls W F Aa (HE W Aa Aa Aa).q fun a w W F => ?_
  iterate 2 refine ls W F Aa (Ah W Aa).q fun a w W F => ?_
  refine Ad (Ab ?_)
  exact ⟨_, H, W.re ⟨rfl, Aa, Aa, trivial⟩, F⟩
 have H := AL (Bc hb) H
 rw [hb] at W
 clear hb
 refine A8 ?_
 iterate 2 refine Bk ?_
 refine A9 ?_
 have H := L1 _ H
 have H := AN H
 subst H
 refine GF (.inr Aa) W Aa ?_
 exact ⟨(), Aa, F⟩
theorem N1 : type_of% Try.underlying61 := Try.underlying61
theorem Re : Has Try.prog 25 := ⟨fun args w => Al Try.func25 rfl (by decide) args w⟩
noncomputable def CB (p0 : List (Int × Int × Int × Int × Int × Int)) (x2 : Int × Int × Int × Int × Int × Int × Int) : ((List (Int × Int × Int)) × (List (Int × Int))) → Option (((List (Int × Int × Int)) × (List (Int × Int))) ⊕ (List (Int × Int × Int)))
  | (x3, x4) => (if x2.2.1 = 9 then some true else some (decide (x2.2.1 = 10))).bind fun x5 => (if x5 = true then some (.inl (x3, C5 x4 x2.2.2.2.1 x2.1)) else (if x2.2.1 = 8 then (if ((C2 x4 x2.2.2.2.1).isSome) = true then (ix p0 ((C2 x4 x2.2.2.2.1).getD 0)).bind fun x7 => some (Ck x2.2 x7) else some 1125899906842624).bind fun x6 => (FR x3 ([(x2.2.2.2.1, x2.2.2.2.2.2.1, x6)] : List (Int × Int × Int))).bind fun x8 => some (.inl (x8, x4)) else some (.inl (x3, x4))))
noncomputable def CZ (p0 : List (Int × Int × Int × Int × Int × Int)) : Option (List (Int × Int × Int)) := (back p0).bind fun x1 => D6 (Fm (CB p0) x1 ([], ([] : List (Int × Int)))) fun (x3, x4) => (AP x3).bind fun x9 => some x9
theorem GR (Y : Nat → Prop) (w0 : World) (v1 : Value) (p0 : List (Int × Int × Int × Int × Int × Int)) (r : (List (Int × Int × Int))) (H : CZ p0 = some r) (h_v1 : Sl w0 (NX []) Ej v1 p0) :
    Calls Try.prog 9 #[v1] w0 fun e w' => ∃ x : Value, e = .returned (x) ∧ Stw ⟨Y, [], w0⟩ [] [row (x) 38 CG r] w' := by
 refine Ny Try.func9 Aa Try.ntmps9 Aa fun a W => ?_
 have F := Stw.start Y w0
 unfold CZ at H
 refine Ai (Ac ?_)
 refine B9 (cs := [v1]) W F Aa Aa (DB ((Aj h_v1) _ F).one) fun b1 a w W F => ?_
 refine ls W F Aa (Ah W Aa).q fun a w W F => ?_
 refine Ad (Ab (Ai (Ac ?_)))
 refine BX (cs := [.slice none 0 0]) W F Aa RW Aa fun b2 a w W F => ?_
 refine Ad (Ab (Ai (Ac ?_)))
 refine GX BL BL W F Aa fun b3 a w W F => ?_
 have F : Stw ⟨Y, [], w0⟩ [(b2, [.slice none 0 0]), (b1, [v1])] [mp b3 BL BL ([] : List (Int × Int))] w := F
 refine BX (cs := [.map none]) W F Aa RY Aa fun b4 a w W F => ?_
 refine BJ (vs := [.map (some b3)]) (M' := [(b4, [.map (some b3)]), (b2, [.slice none 0 0]), (b1, [v1])]) 0 W F Aa Aa Aa OL Aa Aa Aa Aa Aa fun w F => ?_
 refine Ad (Ab (Ai (Ai (Ac ?_))))
 refine ls W F Aa (Am (v := v1) 2 W Aa Aa P6 Aa).q fun a w W F => ?_
 refine BW (β := Nat) (Ml := []) (M := [(b4, [.map (some b3)]), (b2, [.slice none 0 0]), (b1, [v1])]) (Zl := []) (Z := [mp b3 BL BL ([] : List (Int × Int))]) (rv := fun b5 => .func (.func 39) #[] #[.pointer (some ⟨b5, 0, none⟩)]) (MM := fun b5 => [(b5, [v1])]) (ZZ := fun _ => []) W F Q0 Aa Aa (fun _ => Qv _ w v1 ((Aj h_v1) _ F).one) fun b5 a w W F => ?_
 have F : Stw ⟨Y, [], w0⟩ [(b5, [v1]), (b4, [.map (some b3)]), (b2, [.slice none 0 0]), (b1, [v1])] [mp b3 BL BL ([] : List (Int × Int))] w := F
 refine Ad (Ab (Au ?_))
 obtain ⟨x1, h1, H⟩ := An H
 obtain ⟨hn, rfl⟩ := J4 h1
 have W : Fr 53 [] [(0, v1), (1, .pointer (some ⟨b1, 0, none⟩)), (2, .slice none 0 0), (3, .pointer (some ⟨b2, 0, none⟩)), (4, .pointer (some ⟨b4, 0, none⟩)), (11, v1), (12, .func (.func 39) #[] #[.pointer (some ⟨b5, 0, none⟩)])] a := W.re ⟨rfl, Aa, Aa, Aa, Aa, Aa, Aa, trivial⟩
 have F := F.nilRow 38 CG
 have F := F.frontZ (i := 1) Aa Aa
 have F := F.frontZ (i := 1) Aa Aa
 have F := F.frontM (i := 3) Aa Aa
 have F := F.frontM (i := 3) Aa Aa
 have F := F.frontM (i := 3) Aa Aa
 have F := F.frontM (i := 3) Aa Aa
 refine Mj (Z := [row (Value.slice none 0 0) 38 CG ([]), mp b3 BL BL ([] : List (Int × Int))]) (fun s M Z => ∃ v2 : Value, M = [(b5, [v1]), (b4, [.map (some b3)]), (b2, [v2]), (b1, [v1])] ∧ Z = [row v2 38 CG s.1, mp b3 BL BL s.2]) H W F ⟨(Value.slice none 0 0), Aa, Aa⟩ Aa RR (Rr b5 v1 p0 hn) (fun _ => rfl) Aa (fun s M Z hK w Z' F => ?_) (fun l dD1 r1a r1b x2 s o M Z a a₂ w H L1 hK W hF2 F => ?_) fun dD1 s M Z a w H hK W F => ?_
 ·
  obtain ⟨x3, x4⟩ := s
  obtain ⟨v2, rfl, rfl⟩ := hK
  exact Pw.of (i := 0) F Aa (Aj h_v1)
 ·
  obtain ⟨x3, x4⟩ := s
  obtain ⟨v2, rfl, rfl⟩ := hK
  have W : Fr 53 [] [(0, v1), (1, .pointer (some ⟨b1, 0, none⟩)), (2, .slice none 0 0), (3, .pointer (some ⟨b2, 0, none⟩)), (4, .pointer (some ⟨b4, 0, none⟩)), (11, v1), (12, .func (.func 39) #[] #[.pointer (some ⟨b5, 0, none⟩)]), (13, .int .i64 x2.1), (14, .agg #[.int .i64 x2.2.1, .int .i64 x2.2.2.1, .int .i64 x2.2.2.2.1, .int .i64 x2.2.2.2.2.1, .int .i64 x2.2.2.2.2.2.1, .int .i64 x2.2.2.2.2.2.2])] a := W.re ⟨rfl, Aa, Aa, Aa, Aa, Aa, Aa, Aa, Aa, trivial⟩
  have F : Stw ⟨Y, [], w0⟩ [(b5, [v1]), (b4, [.map (some b3)]), (b2, [v2]), (b1, [v1])] [row v2 38 CG x3, mp b3 BL BL x4, r1a, Hm dD1] w := F
  rw [CB] at H
  refine Ai (Ac ?_)
  refine ls W F Aa (Ah W Aa).q fun a w W F => ?_
  refine Ad (Ab (Ac ?_))
  refine BX (cs := [.int .i64 0, .int .i64 0, .int .i64 0, .int .i64 0, .int .i64 0, .int .i64 0]) W F Aa Px Aa fun b6 a w W F => ?_
  refine BJ (vs := [.int .i64 x2.2.1, .int .i64 x2.2.2.1, .int .i64 x2.2.2.2.1, .int .i64 x2.2.2.2.2.1, .int .i64 x2.2.2.2.2.2.1, .int .i64 x2.2.2.2.2.2.2]) (M' := [(b6, [.int .i64 x2.2.1, .int .i64 x2.2.2.1, .int .i64 x2.2.2.2.1, .int .i64 x2.2.2.2.2.1, .int .i64 x2.2.2.2.2.2.1, .int .i64 x2.2.2.2.2.2.2]), (b5, [v1]), (b4, [.map (some b3)]), (b2, [v2]), (b1, [v1])]) 0 W F Aa Aa Aa Mu Aa Aa Aa Aa Aa fun w F => ?_
  refine Ad (Ab ?_)
  refine ⟨[(b6, [.int .i64 x2.2.1, .int .i64 x2.2.2.1, .int .i64 x2.2.2.2.1, .int .i64 x2.2.2.2.2.1, .int .i64 x2.2.2.2.2.2.1, .int .i64 x2.2.2.2.2.2.2]), (b5, [v1]), (b4, [.map (some b3)]), (b2, [v2]), (b1, [v1])], [row v2 38 CG x3, mp b3 BL BL x4], F, fun w F => ?_⟩
  have F : Stw ⟨Y, [], w0⟩ [(b6, [.int .i64 x2.2.1, .int .i64 x2.2.2.1, .int .i64 x2.2.2.2.1, .int .i64 x2.2.2.2.2.1, .int .i64 x2.2.2.2.2.2.1, .int .i64 x2.2.2.2.2.2.2]), (b5, [v1]), (b4, [.map (some b3)]), (b2, [v2]), (b1, [v1])] [row v2 38 CG x3, mp b3 BL BL x4, r1b, Hm dD1] w := F
  refine Au (Ai (Ac ?_))
  refine ls W F Aa (Af Cf Aa Aa Aa T3 W Aa 0 Aa).q fun a w W F => ?_
  refine ls W F Aa (Am (v := Value.int .i64 x2.2.1) 0 W Aa Aa T3 Aa).q fun a w W F => ?_
  refine Ad (Ab (Au ?_))
  obtain ⟨o2, G2, K2⟩ := An H
  refine AB (fun a w => ∃ x5 : Bool, some (x5) = some o2 ∧ Fr 53 [] [(0, v1), (1, .pointer (some ⟨b1, 0, none⟩)), (2, .slice none 0 0), (3, .pointer (some ⟨b2, 0, none⟩)), (4, .pointer (some ⟨b4, 0, none⟩)), (5, .int .i64 x2.1), (6, .pointer (some ⟨b6, 0, none⟩)), (11, v1), (12, .func (.func 39) #[] #[.pointer (some ⟨b5, 0, none⟩)]), (16, .int .i64 x2.2.1), (17, .bool x5)] a ∧ Stw ⟨Y, [], w0⟩ [(b6, [.int .i64 x2.2.1, .int .i64 x2.2.2.1, .int .i64 x2.2.2.2.1, .int .i64 x2.2.2.2.2.1, .int .i64 x2.2.2.2.2.2.1, .int .i64 x2.2.2.2.2.2.2]), (b5, [v1]), (b4, [.map (some b3)]), (b2, [v2]), (b1, [v1])] [row v2 38 CG x3, mp b3 BL BL x4, r1b, Hm dD1] w) ?_ ?_
  ·
   have H := G2
   clear G2 K2
   refine Ai (Ac ?_)
   refine ls W F Aa (Bz W Aa Aa).q fun a w W F => ?_
   refine ls W F Aa (Ah W Aa).q fun a w W F => ?_
   refine Ad (Ab ?_)
   refine Ax W Aa (fun hb => ?_) fun hb => ?_
   ·
    have H := AK (Bd hb) H
    rw [hb] at W
    clear hb
    refine Ap (Ab ?_)
    have F := F.frontZ (i := 3) Aa Aa
    have F := F.frontZ (i := 3) Aa Aa
    have F := F.frontZ (i := 3) Aa Aa
    have F := F.frontZ (i := 3) Aa Aa
    have F := F.frontM (i := 4) Aa Aa
    have F := F.frontM (i := 4) Aa Aa
    have F := F.frontM (i := 4) Aa Aa
    have F := F.frontM (i := 4) Aa Aa
    have F := F.frontM (i := 4) Aa Aa
    exact ⟨_, H, W.re ⟨rfl, Aa, Aa, Aa, Aa, Aa, Aa, Aa, Aa, Aa, Aa, trivial⟩, F⟩
   have H := AL (Bc hb) H
   rw [hb] at W
   clear hb
   refine Ac ?_
   refine ls W F Aa (Bz W Aa Aa).q fun a w W F => ?_
   refine ls W F Aa (Ah W Aa).q fun a w W F => ?_
   refine Ad (Ab ?_)
   have F := F.frontZ (i := 3) Aa Aa
   have F := F.frontZ (i := 3) Aa Aa
   have F := F.frontZ (i := 3) Aa Aa
   have F := F.frontZ (i := 3) Aa Aa
   have F := F.frontM (i := 4) Aa Aa
   have F := F.frontM (i := 4) Aa Aa
   have F := F.frontM (i := 4) Aa Aa
   have F := F.frontM (i := 4) Aa Aa
   have F := F.frontM (i := 4) Aa Aa
   exact ⟨_, H, W.re ⟨rfl, Aa, Aa, Aa, Aa, Aa, Aa, Aa, Aa, Aa, Aa, trivial⟩, F⟩
  rintro a w ⟨x5, hj, W, F⟩
  have hj := AN hj
  subst hj
  have H := K2
  clear G2 K2
  refine Ax W Aa (fun hb => ?_) fun hb => ?_
  ·
   have H := AK hb H
   rw [hb] at W
   clear hb
   refine Ac ?_
   refine ls W F Aa (Am (v := Value.map (some b3)) 2 W Aa Aa OL Aa).q fun a w W F => ?_
   refine ls W F Aa (Af Cf Aa Aa Aa T3 W Aa 2 Aa).q fun a w W F => ?_
   refine ls W F Aa (Am (v := Value.int .i64 x2.2.2.2.1) 0 W Aa Aa T3 Aa).q fun a w W F => ?_
   refine ls W F Aa (Ag W Aa).q fun a w W F => ?_
   refine GN (q := 1) (kx := (x2.2.2.2.1 : Int)) (vx := (x2.1 : Int)) (E := BL) (V := BL) W F Aa Aa Aa Aa Aa PB N1 fun w F => ?_
   have F : Stw ⟨Y, [], w0⟩ [(b6, [.int .i64 x2.2.1, .int .i64 x2.2.2.1, .int .i64 x2.2.2.2.1, .int .i64 x2.2.2.2.2.1, .int .i64 x2.2.2.2.2.2.1, .int .i64 x2.2.2.2.2.2.2]), (b5, [v1]), (b4, [.map (some b3)]), (b2, [v2]), (b1, [v1])] [mp b3 BL BL (C5 x4 x2.2.2.2.1 x2.1), row v2 38 CG x3, r1b, Hm dD1] w := F
   refine Ad ?_
   iterate 2 refine AF ?_
   have F := F.frontZ (i := 3) Aa Aa
   have F := F.frontZ (i := 3) Aa Aa
   have F := F.frontZ (i := 2) Aa Aa
   have F := F.frontZ (i := 3) Aa Aa
   have F := F.frontM (i := 4) Aa Aa
   have F := F.frontM (i := 4) Aa Aa
   have F := F.frontM (i := 4) Aa Aa
   have F := F.frontM (i := 4) Aa Aa
   have F := F.sub (M' := [(b5, [v1]), (b4, [.map (some b3)]), (b2, [v2]), (b1, [v1])]) (Z' := [row v2 38 CG x3, mp b3 BL BL (C5 x4 x2.2.2.2.1 x2.1), r1b, Hm dD1]) (List.Sublist.cons_cons _ (List.Sublist.cons_cons _ (List.Sublist.cons_cons _ (List.Sublist.cons_cons _ (List.nil_sublist _))))) (List.Sublist.refl _)
   exact Ol ⟨_, _, _, H, ⟨(v2), Aa, Aa⟩, F⟩
  have H := AL (by rw [hb]; decide) H
  rw [hb] at W
  clear hb
  refine Ai (Ac ?_)
  refine ls W F Aa (Bz W Aa Aa).q fun a w W F => ?_
  refine ls W F Aa (Ah W Aa).q fun a w W F => ?_
  refine Ad (Ab ?_)
  refine Ax W Aa (fun hb => ?_) fun hb => ?_
  ·
   have H := AK (Bd hb) H
   rw [hb] at W
   clear hb
   refine Ai (Ac ?_)
   refine ls W F Aa (Af Cf Aa Aa Aa T3 W Aa 2 Aa).q fun a w W F => ?_
   refine ls W F Aa (Am (v := Value.int .i64 x2.2.2.2.1) 0 W Aa Aa T3 Aa).q fun a w W F => ?_
   refine ls W F Aa (Af Cf Aa Aa Aa T3 W Aa 4 Aa).q fun a w W F => ?_
   refine ls W F Aa (Am (v := Value.int .i64 x2.2.2.2.2.2.1) 0 W Aa Aa T3 Aa).q fun a w W F => ?_
   refine ls W F Aa (BH (v := Value.agg #[.int .i64 x2.2.2.2.1, .int .i64 x2.2.2.2.2.2.1, .int .i64 1125899906842624]) RU W Aa Aa Aa).q fun a w W F => ?_
   refine BX (cs := [.int .i64 0, .int .i64 0, .int .i64 0]) W F Aa Qn Aa fun b7 a w W F => ?_
   refine BJ (vs := [.int .i64 x2.2.2.2.1, .int .i64 x2.2.2.2.2.2.1, .int .i64 1125899906842624]) (M' := [(b7, [.int .i64 x2.2.2.2.1, .int .i64 x2.2.2.2.2.2.1, .int .i64 1125899906842624]), (b6, [.int .i64 x2.2.1, .int .i64 x2.2.2.1, .int .i64 x2.2.2.2.1, .int .i64 x2.2.2.2.2.1, .int .i64 x2.2.2.2.2.2.1, .int .i64 x2.2.2.2.2.2.2]), (b5, [v1]), (b4, [.map (some b3)]), (b2, [v2]), (b1, [v1])]) 0 W F Aa Aa Aa Ow Aa Aa Aa Aa Aa fun w F => ?_
   refine Ad (Ab ?_)
   obtain ⟨o3, G3, K3⟩ := An H
   refine AB (fun a w => ∃ x6 : Int, some (x6) = some o3 ∧ Fr 53 [] [(0, v1), (1, .pointer (some ⟨b1, 0, none⟩)), (2, .slice none 0 0), (3, .pointer (some ⟨b2, 0, none⟩)), (4, .pointer (some ⟨b4, 0, none⟩)), (7, .pointer (some ⟨b7, 0, none⟩)), (11, v1), (12, .func (.func 39) #[] #[.pointer (some ⟨b5, 0, none⟩)])] a ∧ Stw ⟨Y, [], w0⟩ [(b7, [.int .i64 x2.2.2.2.1, .int .i64 x2.2.2.2.2.2.1, .int .i64 x6]), (b6, [.int .i64 x2.2.1, .int .i64 x2.2.2.1, .int .i64 x2.2.2.2.1, .int .i64 x2.2.2.2.2.1, .int .i64 x2.2.2.2.2.2.1, .int .i64 x2.2.2.2.2.2.2]), (b5, [v1]), (b4, [.map (some b3)]), (b2, [v2]), (b1, [v1])] [row v2 38 CG x3, mp b3 BL BL x4, r1b, Hm dD1] w) ?_ ?_
   ·
    have H := G3
    clear G3 K3
    refine Ai (Ac ?_)
    refine ls W F Aa (Am (v := Value.map (some b3)) 3 W Aa Aa OL Aa).q fun a w W F => ?_
    refine ls W F Aa (Af Cf Aa Aa Aa T3 W Aa 2 Aa).q fun a w W F => ?_
    refine ls W F Aa (Am (v := Value.int .i64 x2.2.2.2.1) 1 W Aa Aa T3 Aa).q fun a w W F => ?_
    refine ls W F Aa (H6 (zv := (0 : Int)) (kx := (x2.2.2.2.1 : Int)) (q := 1) (E := BL) (V := BL) W Aa Aa Aa PB N1 Z3).q fun a w W F => ?_
    refine ls W F Aa (Ag W Aa).q fun a w W F => ?_
    refine ls W F Aa (Bj (v := Value.int .i64 ((C2 x4 x2.2.2.2.1).getD 0)) W Aa Aa).q fun a w W F => ?_
    refine ls W F Aa (Bj (v := Value.bool ((C2 x4 x2.2.2.2.1).isSome)) W Aa Aa).q fun a w W F => ?_
    iterate 2 refine ls W F Aa (Ah W Aa).q fun a w W F => ?_
    refine Ad (Ab (Ai (Ac ?_)))
    refine ls W F Aa (Ag W Aa).q fun a w W F => ?_
    refine Ad (Ab ?_)
    refine Ax W Aa (fun hb => ?_) fun hb => ?_
    ·
     have H := AK hb H
     rw [hb] at W
     clear hb
     refine I7 7 F MO (by kernel_rfl) ?_
     refine qs W Aa (Am (v := Value.agg #[.int .i64 x2.2.1, .int .i64 x2.2.2.1, .int .i64 x2.2.2.2.1, .int .i64 x2.2.2.2.2.1, .int .i64 x2.2.2.2.2.2.1, .int .i64 x2.2.2.2.2.2.2]) 1 W Aa Aa Mu Aa).q fun a W => ?_
     refine qs W Aa (Am (v := v1) 5 W Aa Aa P6 Aa).q fun a W => ?_
     refine qs W Aa (Ag W Aa).q fun a W => ?_
     obtain ⟨x7, h2, H⟩ := An H
     refine qs W Aa (Az (r := Ej) JK W Aa Aa (Aj h_v1) h2).q fun a W => ?_
     refine qs W Aa (Aq (y := Value.agg #[.int .i64 x7.1, .int .i64 x7.2.1, .int .i64 x7.2.2.1, .int .i64 x7.2.2.2.1, .int .i64 x7.2.2.2.2.1, .int .i64 x7.2.2.2.2.2]) (j := 0) (i := (C2 x4 x2.2.2.2.1).getD 0) W Aa Aa (Aj h_v1) h2 JJ.to Mu Aa).q fun a W => ?_
     refine qs W Aa (Bl (v := Value.int .i64 (Ck x2.2 x7)) W Sv Aa (fun w F => JV any w x2.2 x7 _ Aa)) fun a W => ?_
     refine qs W Aa (Af KO Aa Aa Aa T3 W Aa 2 Aa).q fun a W => ?_
     refine AX fun w F => ?_
     refine BJ (vs := [.int .i64 (Ck x2.2 x7)]) (M' := [(b7, [.int .i64 x2.2.2.2.1, .int .i64 x2.2.2.2.2.2.1, .int .i64 (Ck x2.2 x7)]), (b6, [.int .i64 x2.2.1, .int .i64 x2.2.2.1, .int .i64 x2.2.2.2.1, .int .i64 x2.2.2.2.2.1, .int .i64 x2.2.2.2.2.2.1, .int .i64 x2.2.2.2.2.2.2]), (b5, [v1]), (b4, [.map (some b3)]), (b2, [v2]), (b1, [v1])]) 0 W F Aa Aa Aa T3 Aa Aa Aa Aa Aa fun w F => ?_
     refine Ad (Ab ?_)
     have F := F.frontZ (i := 3) Aa Aa
     have F := F.frontZ (i := 3) Aa Aa
     have F := F.frontZ (i := 3) Aa Aa
     have F := F.frontZ (i := 3) Aa Aa
     have F := F.frontM (i := 5) Aa Aa
     have F := F.frontM (i := 5) Aa Aa
     have F := F.frontM (i := 5) Aa Aa
     have F := F.frontM (i := 5) Aa Aa
     have F := F.frontM (i := 5) Aa Aa
     have F := F.frontM (i := 5) Aa Aa
     exact ⟨_, H, W.re ⟨rfl, Aa, Aa, Aa, Aa, Aa, Aa, Aa, trivial⟩, F⟩
    have H := AL (by rw [hb]; decide) H
    rw [hb] at W
    clear hb
    refine Ap (Ab ?_)
    have F := F.frontZ (i := 3) Aa Aa
    have F := F.frontZ (i := 3) Aa Aa
    have F := F.frontZ (i := 3) Aa Aa
    have F := F.frontZ (i := 3) Aa Aa
    have F := F.frontM (i := 5) Aa Aa
    have F := F.frontM (i := 5) Aa Aa
    have F := F.frontM (i := 5) Aa Aa
    have F := F.frontM (i := 5) Aa Aa
    have F := F.frontM (i := 5) Aa Aa
    have F := F.frontM (i := 5) Aa Aa
    exact ⟨_, H, W.re ⟨rfl, Aa, Aa, Aa, Aa, Aa, Aa, Aa, trivial⟩, F⟩
   rintro a w ⟨x6, hj, W, F⟩
   have hj := AN hj
   subst hj
   have H := K3
   clear G3 K3
   refine Ac ?_
   refine ls W F Aa (Am (v := v2) 4 W Aa Aa OX Aa).q fun a w W F => ?_
   refine ls W F Aa (Am (v := Value.agg #[.int .i64 x2.2.2.2.1, .int .i64 x2.2.2.2.2.2.1, .int .i64 x6]) 0 W Aa Aa Ow Aa).q fun a w W F => ?_
   refine Da (z := Value.agg #[.int .i64 0, .int .i64 0, .int .i64 0]) (cs := [.int .i64 x2.2.2.2.1, .int .i64 x2.2.2.2.2.2.1, .int .i64 x6]) CG ([(x2.2.2.2.1, x2.2.2.2.2.2.1, x6)] : List (Int × Int × Int)) W F Aa Nt Qn Aa Aa Aa Aa Aa Aa (N9.repL _ _ ([(x2.2.2.2.1, x2.2.2.2.2.2.1, x6)] : List (Int × Int × Int))) fun v3 a w W F => ?_
   obtain ⟨x8, h3, H⟩ := An H
   refine Cg (r := CG) (i := 1) W F Aa Nt Aa Aa Aa Aa (CE F 0 Aa) h3 Aa fun v4 a w W F => ?_
   have F : Stw ⟨Y, [], w0⟩ [(b7, [.int .i64 x2.2.2.2.1, .int .i64 x2.2.2.2.2.2.1, .int .i64 x6]), (b6, [.int .i64 x2.2.1, .int .i64 x2.2.2.1, .int .i64 x2.2.2.2.1, .int .i64 x2.2.2.2.2.1, .int .i64 x2.2.2.2.2.2.1, .int .i64 x2.2.2.2.2.2.2]), (b5, [v1]), (b4, [.map (some b3)]), (b2, [v2]), (b1, [v1])] [row v4 38 CG x8, row v3 38 CG ([(x2.2.2.2.1, x2.2.2.2.2.2.1, x6)] : List (Int × Int × Int)), mp b3 BL BL x4, r1b, Hm dD1] w := F
   refine HH (M' := [(b7, [.int .i64 x2.2.2.2.1, .int .i64 x2.2.2.2.2.2.1, .int .i64 x6]), (b6, [.int .i64 x2.2.1, .int .i64 x2.2.2.1, .int .i64 x2.2.2.2.1, .int .i64 x2.2.2.2.2.1, .int .i64 x2.2.2.2.2.2.1, .int .i64 x2.2.2.2.2.2.2]), (b5, [v1]), (b4, [.map (some b3)]), (b2, [v4]), (b1, [v1])]) 4 W F Aa Aa Aa OX (F.one (k := 0) Aa) Aa Aa fun w F => ?_
   refine Ad ?_
   iterate 2 refine AF ?_
   have F := F.frontZ (i := 4) Aa Aa
   have F := F.frontZ (i := 4) Aa Aa
   have F := F.frontZ (i := 4) Aa Aa
   have F := F.frontZ (i := 3) Aa Aa
   have F := F.frontM (i := 5) Aa Aa
   have F := F.frontM (i := 5) Aa Aa
   have F := F.frontM (i := 5) Aa Aa
   have F := F.frontM (i := 5) Aa Aa
   have F := F.sub (M' := [(b5, [v1]), (b4, [.map (some b3)]), (b2, [v4]), (b1, [v1])]) (Z' := [row v4 38 CG x8, mp b3 BL BL x4, r1b, Hm dD1]) (List.Sublist.cons_cons _ (List.Sublist.cons_cons _ (List.Sublist.cons_cons _ (List.Sublist.cons_cons _ (List.nil_sublist _))))) (List.Sublist.cons_cons _ (List.Sublist.cons_cons _ (List.Sublist.cons_cons _ (List.Sublist.cons_cons _ (List.nil_sublist _)))))
   exact Ol ⟨_, _, _, H, ⟨(v4), Aa, Aa⟩, F⟩
  have H := AL (Bc hb) H
  rw [hb] at W
  clear hb
  refine Ap ?_
  iterate 2 refine AF ?_
  have F := F.frontZ (i := 3) Aa Aa
  have F := F.frontZ (i := 3) Aa Aa
  have F := F.frontZ (i := 3) Aa Aa
  have F := F.frontZ (i := 3) Aa Aa
  have F := F.frontM (i := 4) Aa Aa
  have F := F.frontM (i := 4) Aa Aa
  have F := F.frontM (i := 4) Aa Aa
  have F := F.frontM (i := 4) Aa Aa
  have F := F.sub (M' := [(b5, [v1]), (b4, [.map (some b3)]), (b2, [v2]), (b1, [v1])]) (Z' := [row v2 38 CG x3, mp b3 BL BL x4, r1b, Hm dD1]) (List.Sublist.cons_cons _ (List.Sublist.cons_cons _ (List.Sublist.cons_cons _ (List.Sublist.cons_cons _ (List.nil_sublist _))))) (List.Sublist.refl _)
  exact Ol ⟨_, _, _, H, ⟨(v2), Aa, Aa⟩, F⟩
 obtain ⟨x3, x4⟩ := s
 obtain ⟨v2, rfl, rfl⟩ := hK
 have W : Fr 53 [Oa dD1] [(0, v1), (1, .pointer (some ⟨b1, 0, none⟩)), (2, .slice none 0 0), (3, .pointer (some ⟨b2, 0, none⟩)), (4, .pointer (some ⟨b4, 0, none⟩)), (11, v1), (12, .func (.func 39) #[] #[.pointer (some ⟨b5, 0, none⟩)])] a := W
 have F : Stw ⟨Y, [], w0⟩ [(b5, [v1]), (b4, [.map (some b3)]), (b2, [v2]), (b1, [v1])] [row v2 38 CG x3, mp b3 BL BL x4, Hm dD1] w := F
 refine AF (Ab (Ai (Ac ?_)))
 refine ls W F Aa (Am (v := v2) 2 W Aa Aa OX Aa).q fun a w W F => ?_
 obtain ⟨x9, h4, H⟩ := An H
 refine BW (Ml := []) (Zl := [row v2 38 CG x3]) (M := [(b5, [v1]), (b4, [.map (some b3)]), (b2, [v2]), (b1, [v1])]) (Z := [mp b3 BL BL x4, Hm dD1]) (β := Unit) (rv := fun x => .tuple #[]) (MM := fun x => []) (ZZ := fun x => [row v2 38 CG x9]) W F Re Aa Aa (fun hL => DF _ _ w (v2) x3 _ h4 hL) fun x a w W F => ?_
 have F : Stw ⟨Y, [], w0⟩ [(b5, [v1]), (b4, [.map (some b3)]), (b2, [v2]), (b1, [v1])] [row v2 38 CG x9, mp b3 BL BL x4, Hm dD1] w := F
 refine Ad (Ab (Ai (Ac ?_)))
 refine ls W F Aa (Am (v := v2) 2 W Aa Aa OX Aa).q fun a w W F => ?_
 refine ls W F Aa (Ah W Aa).q fun a w W F => ?_
 refine Ad (Ab (AA ?_))
 have H := AN H
 subst H
 refine LV (Z := [row v2 38 CG x9, mp b3 BL BL x4]) (.inl Aa) W F fun w F => ?_
 have F : Stw ⟨Y, [], w0⟩ [(b5, [v1]), (b4, [.map (some b3)]), (b2, [v2]), (b1, [v1])] [row v2 38 CG x9, mp b3 BL BL x4] w := F
 refine Js F Aa (As W Aa) ?_
 have F := F.sub (M' := []) (Z' := [row v2 38 CG x9]) (List.nil_sublist _) (List.Sublist.cons_cons _ (List.nil_sublist _))
 exact ⟨(v2), Aa, F⟩
theorem PS : type_of% Try.underlying68 := Try.underlying68
theorem MP : type_of% Try.underlying70 := Try.underlying70
theorem Pg : type_of% Try.underlying91 := Try.underlying91
theorem H9 : Has Try.prog 9 := ⟨fun args w => Al Try.func9 rfl (by decide) args w⟩
theorem RM : Bt Try.prog 70 [.slice none 0 0, .slice none 0 0] [(0, 1), (1, 1)] := ⟨⟨.agg #[.slice none 0 0, .slice none 0 0], by kernel_rfl, rfl⟩, ⟨_, MP, fun w => by kernel_rfl⟩⟩
theorem O8 : Ty Try.prog 70 true 2 := ⟨by kernel_rfl, by kernel_rfl⟩
theorem OP : Ty Try.prog 68 false 1 := ⟨by kernel_rfl, by kernel_rfl⟩
theorem St : Bt Try.prog 91 [.int .i64 0, .int .i64 0] [(0, 1), (1, 1)] := ⟨⟨.agg #[.int .i64 0, .int .i64 0], by kernel_rfl, rfl⟩, ⟨_, Pg, fun w => by kernel_rfl⟩⟩
theorem QT : (Try.prog.info? 91).bind (·.zero) = some (.agg #[.int .i64 0, .int .i64 0]) := by kernel_rfl
abbrev Fb : Rp (Int × Int) := (Rp.pair (Rp.int .i64) (Rp.int .i64))
def R2 (a : Int × Int) : List Value := [.int .i64 a.1, .int .i64 a.2]
theorem QS : Fl Fb R2 := (Fl.pair Fl.int Fl.int)
theorem Qa : Et Try.prog 68 91 2 16 := Et.of PS (by kernel_rfl) (by kernel_rfl) (by kernel_rfl) (by decide)
noncomputable def Cq (x1 : (List (Int × Int × Int))) (x6 : Int × Int × Int × Int × Int × Int) : (Int × (List (Int × Int))) → Option ((Int × (List (Int × Int))) ⊕ (List (Int × Int)))
  | (x7, x8) => (if x7 < (x1.length : Int) then ((ix x1 x7).bind fun x10 => (if x10.1 = x6.2.2.1 then (FR x8 ([(x6.2.2.2.2.1, x10.2.2)] : List (Int × Int))).bind fun x11 => some x11 else some x8)).bind fun x9 => some (.inl (Dz (x7 + 1), x9)) else some (.inr x8))
noncomputable def Cp (p0 : List (Int × Int × Int × Int × Int × Int)) (x1 : (List (Int × Int × Int))) : (Int × (List (Int × Int))) → Option ((Int × (List (Int × Int))) ⊕ (List (Int × Int)))
  | (x3, x4) => (if x3 < (p0.length : Int) then ((ix p0 x3).bind fun x6 => (if x6.1 ≠ 9 then some x4 else AM (Cq x1 x6) (0, x4))).bind fun x5 => some (.inl (Dz (x3 + 1), x5)) else some (.inr x4))
noncomputable def Dr (p0 : List (Int × Int × Int × Int × Int × Int)) : Option ((List (Int × Int × Int)) × (List (Int × Int))) := (CZ p0).bind fun x1 => (AM (Cp p0 x1) (0, [])).bind fun x2 => some (x1, x2)
theorem GD (Y : Nat → Prop) (w0 : World) (v1 : Value) (p0 : List (Int × Int × Int × Int × Int × Int)) (r : ((List (Int × Int × Int)) × (List (Int × Int)))) (H : Dr p0 = some r) (h_v1 : Sl w0 (NX []) Ej v1 p0) :
    Calls Try.prog 26 #[v1] w0 fun e w' => ∃ x : Value × Value, e = .returned (.agg #[x.1, x.2]) ∧ Stw ⟨Y, [], w0⟩ [] [row (x.1) 38 CG r.1, row (x.2) 91 Fb r.2] w' := by
 refine enter Try.func26 Aa Try.ntmps26 Aa fun a W => ?_
 have F := Stw.start Y w0
 unfold Dr at H
 refine Ai (Ac ?_)
 refine BX (cs := [.slice none 0 0, .slice none 0 0]) W F Aa Qy Aa fun b1 a w W F => ?_
 refine Ad (Ab (Ai (Ac ?_)))
 refine ls W F Aa (Ag W Aa).q fun a w W F => ?_
 obtain ⟨x1, h1, H⟩ := An H
 refine BW (Ml := []) (Zl := []) (M := [(b1, [.slice none 0 0, .slice none 0 0])]) (Z := []) (β := Value) (rv := fun x => x) (MM := fun x => []) (ZZ := fun x => [row x 38 CG x1]) W F H9 Aa Aa (fun hL => GR _ w (v1) p0 _ h1 ((Aj h_v1) w F).nx) fun x a w W F => ?_
 obtain ⟨v2, rfl⟩ : ∃ y, y = x := ⟨x, rfl⟩
 have F : Stw ⟨Y, [], w0⟩ [(b1, [.slice none 0 0, .slice none 0 0])] [row v2 38 CG x1] w := F
 refine ls W F Aa (BH (v := Value.agg #[v2, .slice none 0 0]) RM W Aa (EV Aa (DB (F.one (k := 0) Aa)) Aa Ge) Aa).q fun a w W F => ?_
 refine BX (cs := [.slice none 0 0, .slice none 0 0]) W F Aa Qy Aa fun b2 a w W F => ?_
 refine BJ (vs := [v2, .slice none 0 0]) (M' := [(b2, [v2, .slice none 0 0]), (b1, [.slice none 0 0, .slice none 0 0])]) 0 W F Aa Aa Aa O8 Aa Aa Aa (A7 (F.one (k := 0) Aa) (A7 Aa FX)) Aa fun w F => ?_
 refine Ad (Ab ?_)
 obtain ⟨o1, G1, K1⟩ := An H
 refine AB (fun a w => ∃ x2 : List (Int × Int), ∃ v3 : Value, some (x2) = some o1 ∧ Fr 45 [] [(2, .pointer (some ⟨b1, 0, none⟩)), (3, .pointer (some ⟨b2, 0, none⟩))] a ∧ Stw ⟨Y, [], w0⟩ [(b2, [v2, v3]), (b1, [.slice none 0 0, .slice none 0 0])] [row v2 38 CG x1, row v3 91 Fb x2] w) ?_ ?_
 ·
  have H := G1
  clear G1 K1
  refine Ai (Ac ?_)
  refine ls W F Aa (Ag W Aa).q fun a w W F => ?_
  refine ls W F Aa (A6 (r := Ej) (l := p0) JE Aa W Aa (Aj h_v1)).q fun a w W F => ?_
  refine ls W F Aa (Ag W Aa).q fun a w W F => ?_
  refine Ad (Ab (Au ?_))
  have F := F.nilRow 91 Fb
  have F := F.frontZ (i := 1) Aa Aa
  have F := F.frontM (i := 1) Aa Aa
  have F := F.frontM (i := 1) Aa Aa
  refine Bf H (fun s a w => ∃ v4 : Value, Fr 45 [] [(2, .pointer (some ⟨b1, 0, none⟩)), (3, .pointer (some ⟨b2, 0, none⟩)), (11, v1), (12, .int .i64 (p0.length : Int)), (13, .int .i64 s.1)] a ∧ Stw ⟨Y, [], w0⟩ [(b2, [v2, v4]), (b1, [.slice none 0 0, .slice none 0 0])] [row v2 38 CG x1, row v4 91 Fb s.2] w) ⟨(Value.slice none 0 0), W.re ⟨rfl, Aa, Aa, Aa, Aa, trivial⟩, F⟩ fun s o a w H L2 hR => ?_
  obtain ⟨x3, x4⟩ := s
  obtain ⟨v4, W, F⟩ := hR
  have W : Fr 45 [] [(2, .pointer (some ⟨b1, 0, none⟩)), (3, .pointer (some ⟨b2, 0, none⟩)), (11, v1), (12, .int .i64 (p0.length : Int)), (13, .int .i64 x3)] a := W
  have F : Stw ⟨Y, [], w0⟩ [(b2, [v2, v4]), (b1, [.slice none 0 0, .slice none 0 0])] [row v2 38 CG x1, row v4 91 Fb x4] w := F
  rw [Cp] at H
  refine Ai (Ac ?_)
  refine ls W F Aa (Bi W Aa Aa).q fun a w W F => ?_
  refine Ad (Ab (Ai ?_))
  refine Ax W Aa (fun hb => ?_) fun hb => ?_
  ·
   have H := AK (Bd hb) H
   rw [hb] at W
   clear hb
   refine Ap (Ab ?_)
   obtain ⟨o3, G3, K3⟩ := An H
   refine AB (fun a w => ∃ x5 : List (Int × Int), ∃ v5 : Value, some (x5) = some o3 ∧ Fr 45 [] [(2, .pointer (some ⟨b1, 0, none⟩)), (3, .pointer (some ⟨b2, 0, none⟩)), (11, v1), (12, .int .i64 (p0.length : Int)), (13, .int .i64 x3)] a ∧ Stw ⟨Y, [], w0⟩ [(b2, [v2, v5]), (b1, [.slice none 0 0, .slice none 0 0])] [row v2 38 CG x1, row v5 91 Fb x5] w) ?_ ?_
   ·
    have H := G3
    clear G3 K3
    refine Au (Ai (Ac ?_))
    obtain ⟨x6, h2, H⟩ := An H
    refine ls W F Aa (Az (r := Ej) JK W Aa Aa (Aj h_v1) h2).q fun a w W F => ?_
    refine ls W F Aa (Aq (y := Value.agg #[.int .i64 x6.1, .int .i64 x6.2.1, .int .i64 x6.2.2.1, .int .i64 x6.2.2.2.1, .int .i64 x6.2.2.2.2.1, .int .i64 x6.2.2.2.2.2]) (j := 0) (i := x3) W Aa Aa (Aj h_v1) h2 JJ.to Mu Aa).q fun a w W F => ?_
    refine BX (cs := [.int .i64 0, .int .i64 0, .int .i64 0, .int .i64 0, .int .i64 0, .int .i64 0]) W F Aa Px Aa fun b3 a w W F => ?_
    refine BJ (vs := [.int .i64 x6.1, .int .i64 x6.2.1, .int .i64 x6.2.2.1, .int .i64 x6.2.2.2.1, .int .i64 x6.2.2.2.2.1, .int .i64 x6.2.2.2.2.2]) (M' := [(b3, [.int .i64 x6.1, .int .i64 x6.2.1, .int .i64 x6.2.2.1, .int .i64 x6.2.2.2.1, .int .i64 x6.2.2.2.2.1, .int .i64 x6.2.2.2.2.2]), (b2, [v2, v4]), (b1, [.slice none 0 0, .slice none 0 0])]) 0 W F Aa Aa Aa Mu Aa Aa Aa Aa Aa fun w F => ?_
    refine Ad (Ab (Ai (Ai (Ac ?_))))
    refine ls W F Aa (Af Cf Aa Aa Aa T3 W Aa 0 Aa).q fun a w W F => ?_
    refine ls W F Aa (Am (v := Value.int .i64 x6.1) 0 W Aa Aa T3 Aa).q fun a w W F => ?_
    refine ls W F Aa (Dx W Aa Aa).q fun a w W F => ?_
    refine Ad (Ab ?_)
    refine Ax W Aa (fun hb => ?_) fun hb => ?_
    ·
     have H := AK (Bd hb) H
     rw [hb] at W
     clear hb
     refine A8 (Bk (A9 (Ab ?_)))
     have F := F.frontZ (i := 1) Aa Aa
     have F := F.frontZ (i := 1) Aa Aa
     have F := F.frontM (i := 2) Aa Aa
     have F := F.frontM (i := 2) Aa Aa
     have F := F.sub (M' := [(b2, [v2, v4]), (b1, [.slice none 0 0, .slice none 0 0])]) (Z' := [row v2 38 CG x1, row v4 91 Fb x4]) (List.Sublist.cons_cons _ (List.Sublist.cons_cons _ (List.nil_sublist _))) (List.Sublist.refl _)
     exact ⟨_, (v4), H, W.re ⟨rfl, Aa, Aa, Aa, Aa, trivial⟩, F⟩
    have H := AL (Bc hb) H
    rw [hb] at W
    clear hb
    refine Ap (Ab (Ai (Ac ?_)))
    refine ls W F Aa (Af MP Aa Aa Aa OX W Aa 0 Aa).q fun a w W F => ?_
    refine ls W F Aa (Am (v := v2) 1 W Aa Aa OX Aa).q fun a w W F => ?_
    refine ls W F Aa (A6 (r := CG) (l := x1) N4 Aa W Aa (AE 0 Aa)).q fun a w W F => ?_
    refine ls W F Aa (Ag W Aa).q fun a w W F => ?_
    refine Ad (Ab (Au ?_))
    have F := F.frontZ (i := 1) Aa Aa
    have F := F.frontZ (i := 1) Aa Aa
    have F := F.frontM (i := 2) Aa Aa
    have F := F.frontM (i := 2) Aa Aa
    have F := F.frontM (i := 2) Aa Aa
    refine Bf H (fun s a w => ∃ v6 : Value, Fr 45 [] [(2, .pointer (some ⟨b1, 0, none⟩)), (3, .pointer (some ⟨b2, 0, none⟩)), (5, .pointer (some ⟨b3, 0, none⟩)), (11, v1), (12, .int .i64 (p0.length : Int)), (13, .int .i64 x3), (21, v2), (22, .int .i64 (x1.length : Int)), (23, .int .i64 s.1)] a ∧ Stw ⟨Y, [], w0⟩ [(b3, [.int .i64 x6.1, .int .i64 x6.2.1, .int .i64 x6.2.2.1, .int .i64 x6.2.2.2.1, .int .i64 x6.2.2.2.2.1, .int .i64 x6.2.2.2.2.2]), (b2, [v2, v6]), (b1, [.slice none 0 0, .slice none 0 0])] [row v2 38 CG x1, row v6 91 Fb s.2] w) ⟨(v4), W.re ⟨rfl, Aa, Aa, Aa, Aa, Aa, Aa, Aa, Aa, trivial⟩, F⟩ fun s o a w H L4 hR => ?_
    obtain ⟨x7, x8⟩ := s
    obtain ⟨v6, W, F⟩ := hR
    have W : Fr 45 [] [(2, .pointer (some ⟨b1, 0, none⟩)), (3, .pointer (some ⟨b2, 0, none⟩)), (5, .pointer (some ⟨b3, 0, none⟩)), (11, v1), (12, .int .i64 (p0.length : Int)), (13, .int .i64 x3), (21, v2), (22, .int .i64 (x1.length : Int)), (23, .int .i64 x7)] a := W
    have F : Stw ⟨Y, [], w0⟩ [(b3, [.int .i64 x6.1, .int .i64 x6.2.1, .int .i64 x6.2.2.1, .int .i64 x6.2.2.2.1, .int .i64 x6.2.2.2.2.1, .int .i64 x6.2.2.2.2.2]), (b2, [v2, v6]), (b1, [.slice none 0 0, .slice none 0 0])] [row v2 38 CG x1, row v6 91 Fb x8] w := F
    rw [Cq] at H
    refine Ai (Ac ?_)
    refine ls W F Aa (Bi W Aa Aa).q fun a w W F => ?_
    refine Ad (Ab (Ai ?_))
    refine Ax W Aa (fun hb => ?_) fun hb => ?_
    ·
     have H := AK (Bd hb) H
     rw [hb] at W
     clear hb
     refine Ap (Ab ?_)
     obtain ⟨o5, G5, K5⟩ := An H
     refine AB (fun a w => ∃ x9 : List (Int × Int), ∃ v7 : Value, some (x9) = some o5 ∧ Fr 45 [] [(2, .pointer (some ⟨b1, 0, none⟩)), (3, .pointer (some ⟨b2, 0, none⟩)), (5, .pointer (some ⟨b3, 0, none⟩)), (11, v1), (12, .int .i64 (p0.length : Int)), (13, .int .i64 x3), (21, v2), (22, .int .i64 (x1.length : Int)), (23, .int .i64 x7)] a ∧ Stw ⟨Y, [], w0⟩ [(b3, [.int .i64 x6.1, .int .i64 x6.2.1, .int .i64 x6.2.2.1, .int .i64 x6.2.2.2.1, .int .i64 x6.2.2.2.2.1, .int .i64 x6.2.2.2.2.2]), (b2, [v2, v7]), (b1, [.slice none 0 0, .slice none 0 0])] [row v2 38 CG x1, row v7 91 Fb x9] w) ?_ ?_
     ·
      have H := G5
      clear G5 K5
      refine Au (Ai (Ac ?_))
      obtain ⟨x10, h3, H⟩ := An H
      refine ls W F Aa (Az (r := CG) Nt W Aa Aa (AE 0 Aa) h3).q fun a w W F => ?_
      refine ls W F Aa (Aq (y := Value.agg #[.int .i64 x10.1, .int .i64 x10.2.1, .int .i64 x10.2.2]) (j := 0) (i := x7) W Aa Aa (AE 0 Aa) h3 N9.to Ow Aa).q fun a w W F => ?_
      refine BX (cs := [.int .i64 0, .int .i64 0, .int .i64 0]) W F Aa Qn Aa fun b4 a w W F => ?_
      refine BJ (vs := [.int .i64 x10.1, .int .i64 x10.2.1, .int .i64 x10.2.2]) (M' := [(b4, [.int .i64 x10.1, .int .i64 x10.2.1, .int .i64 x10.2.2]), (b3, [.int .i64 x6.1, .int .i64 x6.2.1, .int .i64 x6.2.2.1, .int .i64 x6.2.2.2.1, .int .i64 x6.2.2.2.2.1, .int .i64 x6.2.2.2.2.2]), (b2, [v2, v6]), (b1, [.slice none 0 0, .slice none 0 0])]) 0 W F Aa Aa Aa Ow Aa Aa Aa Aa Aa fun w F => ?_
      refine Ad (Ab (Ai (Ac ?_)))
      refine ls W F Aa (Af KO Aa Aa Aa T3 W Aa 0 Aa).q fun a w W F => ?_
      refine ls W F Aa (Am (v := Value.int .i64 x10.1) 0 W Aa Aa T3 Aa).q fun a w W F => ?_
      refine ls W F Aa (Af Cf Aa Aa Aa T3 W Aa 2 Aa).q fun a w W F => ?_
      refine ls W F Aa (Am (v := Value.int .i64 x6.2.2.1) 1 W Aa Aa T3 Aa).q fun a w W F => ?_
      refine ls W F Aa (Bz W Aa Aa).q fun a w W F => ?_
      refine Ad (Ab ?_)
      refine Ax W Aa (fun hb => ?_) fun hb => ?_
      ·
       have H := AK (Bd hb) H
       rw [hb] at W
       clear hb
       refine Ac ?_
       refine ls W F Aa (Af MP Aa Aa Aa OP W Aa 1 Aa).q fun a w W F => ?_
       refine ls W F Aa (Am (v := v6) 2 W Aa Aa OP Aa).q fun a w W F => ?_
       refine ls W F Aa (Af Cf Aa Aa Aa T3 W Aa 4 Aa).q fun a w W F => ?_
       refine ls W F Aa (Am (v := Value.int .i64 x6.2.2.2.2.1) 1 W Aa Aa T3 Aa).q fun a w W F => ?_
       refine ls W F Aa (Af KO Aa Aa Aa T3 W Aa 2 Aa).q fun a w W F => ?_
       refine ls W F Aa (Am (v := Value.int .i64 x10.2.2) 0 W Aa Aa T3 Aa).q fun a w W F => ?_
       refine ls W F Aa (BH (v := Value.agg #[.int .i64 x6.2.2.2.2.1, .int .i64 x10.2.2]) St W Aa Aa Aa).q fun a w W F => ?_
       refine Da (z := Value.agg #[.int .i64 0, .int .i64 0]) (cs := [.int .i64 x6.2.2.2.2.1, .int .i64 x10.2.2]) Fb ([(x6.2.2.2.2.1, x10.2.2)] : List (Int × Int)) W F Aa Qa QT Aa Aa Aa Aa Aa Aa (QS.repL _ _ ([(x6.2.2.2.2.1, x10.2.2)] : List (Int × Int))) fun v8 a w W F => ?_
       obtain ⟨x11, h4, H⟩ := An H
       refine Cg (r := Fb) (i := 2) W F Aa Qa Aa Aa Aa Aa (CE F 0 Aa) h4 Aa fun v9 a w W F => ?_
       have F : Stw ⟨Y, [], w0⟩ [(b4, [.int .i64 x10.1, .int .i64 x10.2.1, .int .i64 x10.2.2]), (b3, [.int .i64 x6.1, .int .i64 x6.2.1, .int .i64 x6.2.2.1, .int .i64 x6.2.2.2.1, .int .i64 x6.2.2.2.2.1, .int .i64 x6.2.2.2.2.2]), (b2, [v2, v6]), (b1, [.slice none 0 0, .slice none 0 0])] [row v9 91 Fb x11, row v8 91 Fb ([(x6.2.2.2.2.1, x10.2.2)] : List (Int × Int)), row v2 38 CG x1] w := F
       refine ls W F Aa (Af MP Aa Aa Aa OP W Aa 1 Aa).q fun a w W F => ?_
       refine HH (M' := [(b4, [.int .i64 x10.1, .int .i64 x10.2.1, .int .i64 x10.2.2]), (b3, [.int .i64 x6.1, .int .i64 x6.2.1, .int .i64 x6.2.2.1, .int .i64 x6.2.2.2.1, .int .i64 x6.2.2.2.2.1, .int .i64 x6.2.2.2.2.2]), (b2, [v2, v9]), (b1, [.slice none 0 0, .slice none 0 0])]) 2 W F Aa Aa Aa OP (F.one (k := 0) Aa) Aa Aa fun w F => ?_
       refine Ad (AF (Ab ?_))
       have F := F.frontZ (i := 2) Aa Aa
       have F := F.frontM (i := 3) Aa Aa
       have F := F.frontM (i := 3) Aa Aa
       have F := F.frontM (i := 3) Aa Aa
       have F := F.sub (M' := [(b3, [.int .i64 x6.1, .int .i64 x6.2.1, .int .i64 x6.2.2.1, .int .i64 x6.2.2.2.1, .int .i64 x6.2.2.2.2.1, .int .i64 x6.2.2.2.2.2]), (b2, [v2, v9]), (b1, [.slice none 0 0, .slice none 0 0])]) (Z' := [row v2 38 CG x1, row v9 91 Fb x11]) (List.Sublist.cons_cons _ (List.Sublist.cons_cons _ (List.Sublist.cons_cons _ (List.nil_sublist _)))) (List.Sublist.cons_cons _ (List.Sublist.cons_cons _ (List.nil_sublist _)))
       exact ⟨_, (v9), H, W.re ⟨rfl, Aa, Aa, Aa, Aa, Aa, Aa, Aa, Aa, trivial⟩, F⟩
      have H := AL (Bc hb) H
      rw [hb] at W
      clear hb
      refine Ap (AF (Ab ?_))
      have F := F.frontZ (i := 1) Aa Aa
      have F := F.frontZ (i := 1) Aa Aa
      have F := F.frontM (i := 3) Aa Aa
      have F := F.frontM (i := 3) Aa Aa
      have F := F.frontM (i := 3) Aa Aa
      have F := F.sub (M' := [(b3, [.int .i64 x6.1, .int .i64 x6.2.1, .int .i64 x6.2.2.1, .int .i64 x6.2.2.2.1, .int .i64 x6.2.2.2.2.1, .int .i64 x6.2.2.2.2.2]), (b2, [v2, v6]), (b1, [.slice none 0 0, .slice none 0 0])]) (Z' := [row v2 38 CG x1, row v6 91 Fb x8]) (List.Sublist.cons_cons _ (List.Sublist.cons_cons _ (List.Sublist.cons_cons _ (List.nil_sublist _)))) (List.Sublist.refl _)
      exact ⟨_, (v6), H, W.re ⟨rfl, Aa, Aa, Aa, Aa, Aa, Aa, Aa, Aa, trivial⟩, F⟩
     rintro a w ⟨x9, v7, hj, W, F⟩
     have hj := AN hj
     subst hj
     have H := K5
     clear G5 K5
     refine Ac ?_
     refine ls W F Aa (BS W Aa Aa Aa).q fun a w W F => ?_
     refine ls W F Aa (Ag W Aa).q fun a w W F => ?_
     refine Ad (Ab ?_)
     have F := F.frontZ (i := 1) Aa Aa
     have F := F.frontZ (i := 1) Aa Aa
     have F := F.frontM (i := 2) Aa Aa
     have F := F.frontM (i := 2) Aa Aa
     have F := F.frontM (i := 2) Aa Aa
     exact ⟨_, H, (v7), W.re ⟨rfl, Aa, Aa, Aa, Aa, Aa, Aa, Aa, Aa, trivial⟩, F⟩
    have H := AL (Bc hb) H
    rw [hb] at W
    clear hb
    refine A8 ?_
    iterate 2 refine Bk ?_
    refine A9 (AF (Ab ?_))
    have F := F.frontZ (i := 1) Aa Aa
    have F := F.frontZ (i := 1) Aa Aa
    have F := F.frontM (i := 2) Aa Aa
    have F := F.frontM (i := 2) Aa Aa
    have F := F.sub (M' := [(b2, [v2, v6]), (b1, [.slice none 0 0, .slice none 0 0])]) (Z' := [row v2 38 CG x1, row v6 91 Fb x8]) (List.Sublist.cons_cons _ (List.Sublist.cons_cons _ (List.nil_sublist _))) (List.Sublist.refl _)
    have H := L4 _ H
    exact ⟨_, (v6), H, W.re ⟨rfl, Aa, Aa, Aa, Aa, trivial⟩, F⟩
   rintro a w ⟨x5, v5, hj, W, F⟩
   have hj := AN hj
   subst hj
   have H := K3
   clear G3 K3
   refine Ac ?_
   refine ls W F Aa (BS W Aa Aa Aa).q fun a w W F => ?_
   refine ls W F Aa (Ag W Aa).q fun a w W F => ?_
   refine Ad (Ab ?_)
   have F := F.frontZ (i := 1) Aa Aa
   have F := F.frontZ (i := 1) Aa Aa
   have F := F.frontM (i := 1) Aa Aa
   have F := F.frontM (i := 1) Aa Aa
   exact ⟨_, H, (v5), W.re ⟨rfl, Aa, Aa, Aa, Aa, trivial⟩, F⟩
  have H := AL (Bc hb) H
  rw [hb] at W
  clear hb
  refine A8 ?_
  iterate 2 refine Bk ?_
  refine A9 (Ab ?_)
  have F := F.frontZ (i := 1) Aa Aa
  have F := F.frontZ (i := 1) Aa Aa
  have F := F.frontM (i := 1) Aa Aa
  have F := F.frontM (i := 1) Aa Aa
  have H := L2 _ H
  exact ⟨_, (v4), H, W.re ⟨rfl, Aa, trivial⟩, F⟩
 rintro a w ⟨x2, v3, hj, W, F⟩
 have hj := AN hj
 subst hj
 have H := K1
 clear G1 K1
 refine Ai (Ac ?_)
 refine ls W F Aa (Am (v := Value.agg #[v2, v3]) 0 W Aa Aa O8 Aa).q fun a w W F => ?_
 refine BJ (vs := [v2, v3]) (M' := [(b2, [v2, v3]), (b1, [v2, v3])]) 1 W F Aa Aa Aa O8 Aa Aa Aa (A7 (F.one (k := 0) Aa) (A7 (F.one (k := 1) Aa) FX)) Aa fun w F => ?_
 refine Ad (Ab (AA ?_))
 have H := AN H
 subst H
 refine AW (.inl Aa) W F Aa (KJ 1 W Aa Aa O8 Aa) ?_
 have F := F.frontZ (i := 1) Aa Aa
 have F := F.frontZ (i := 1) Aa Aa
 have F := F.sub (M' := []) (Z' := [row v2 38 CG x1, row v3 91 Fb x2]) (List.nil_sublist _) (List.Sublist.refl _)
 exact ⟨((v2), (v3)), Aa, F⟩
theorem II : type_of% Try.underlying98 := Try.underlying98
theorem Qw : Has Try.prog 26 := ⟨fun args w => Al Try.func26 rfl (by decide) args w⟩
theorem Rx : Bt Try.prog 98 [.slice none 0 0, .map none, .slice none 0 0] [(0, 1), (1, 1), (2, 1)] := ⟨⟨.agg #[.slice none 0 0, .map none, .slice none 0 0], by kernel_rfl, rfl⟩, ⟨_, II, fun w => by kernel_rfl⟩⟩
theorem Rb : (Try.prog.info? 98).bind (·.zero) = some (.agg #[.slice none 0 0, .map none, .slice none 0 0]) := by kernel_rfl
theorem Sm : Ty Try.prog 98 true 3 := ⟨by kernel_rfl, by kernel_rfl⟩
abbrev Jl : Rp (Int × Int × Int × Int × List Int × Int × Int × Int) := (Rp.pair (Rp.int .i64) (Rp.pair (Rp.int .i64) (Rp.pair (Rp.int .i64) (Rp.pair (Rp.int .i64) (Rp.pair (Rp.slice (Rp.int .i64)) (Rp.pair (Rp.int .i64) (Rp.pair (Rp.int .i64) (Rp.int .i64))))))))
abbrev BZ : Dp (Int × Int × Int × Int × (Value × Nat × List Int) × Int × Int × Int) := (Dp.pair (Dp.fl 1 (fun a => [.int .i64 a]) (fun _ => rfl)) (Dp.pair (Dp.fl 1 (fun a => [.int .i64 a]) (fun _ => rfl)) (Dp.pair (Dp.fl 1 (fun a => [.int .i64 a]) (fun _ => rfl)) (Dp.pair (Dp.fl 1 (fun a => [.int .i64 a]) (fun _ => rfl)) (Dp.pair (Dp.sl 3 (Rp.int .i64)) (Dp.pair (Dp.fl 1 (fun a => [.int .i64 a]) (fun _ => rfl)) (Dp.pair (Dp.fl 1 (fun a => [.int .i64 a]) (fun _ => rfl)) (Dp.fl 1 (fun a => [.int .i64 a]) (fun _ => rfl)))))))))
abbrev CI (p : Int × Int × Int × Int × (Value × Nat × List Int) × Int × Int × Int) : Int × Int × Int × Int × (Nat × List Int) × Int × Int × Int := (p.1, p.2.1, p.2.2.1, p.2.2.2.1, p.2.2.2.2.1.2, p.2.2.2.2.2.1, p.2.2.2.2.2.2.1, p.2.2.2.2.2.2.2)
abbrev MX : (Int × Int × Int × Int × (Nat × List Int) × Int × Int × Int) → Option (Int × Int × Int × Int × List Int × Int × Int × Int) := (fun (p : Int × Int × Int × Int × (Nat × List Int) × Int × Int × Int) => (some p.1).bind fun a => ((fun (p : Int × Int × Int × (Nat × List Int) × Int × Int × Int) => (some p.1).bind fun a => ((fun (p : Int × Int × (Nat × List Int) × Int × Int × Int) => (some p.1).bind fun a => ((fun (p : Int × (Nat × List Int) × Int × Int × Int) => (some p.1).bind fun a => ((fun (p : (Nat × List Int) × Int × Int × Int) => (P1 p.1).bind fun a => ((fun (p : Int × Int × Int) => (some p.1).bind fun a => ((fun (p : Int × Int) => (some p.1).bind fun a => (some p.2).bind fun b => some (a, b)) p.2).bind fun b => some (a, b)) p.2).bind fun b => some (a, b)) p.2).bind fun b => some (a, b)) p.2).bind fun b => some (a, b)) p.2).bind fun b => some (a, b)) p.2).bind fun b => some (a, b))
theorem Qc : Rst BZ Jl CI MX := (Rst.pair (Rst.flat Fl.int (fun _ => rfl) rfl) (Rst.pair (Rst.flat Fl.int (fun _ => rfl) rfl) (Rst.pair (Rst.flat Fl.int (fun _ => rfl) rfl) (Rst.pair (Rst.flat Fl.int (fun _ => rfl) rfl) (Rst.pair Rst.sl (Rst.pair (Rst.flat Fl.int (fun _ => rfl) rfl) (Rst.pair (Rst.flat Fl.int (fun _ => rfl) rfl) (Rst.flat Fl.int (fun _ => rfl) rfl))))))))
theorem E1 : Ty Try.prog 54 false 1 := ⟨by kernel_rfl, by kernel_rfl⟩
def AJ (p0 : (List (Int × Int × Int × Int × (Nat × List Int) × Int × Int × Int)) × (List (Int × Int)) × List Int) (p1 : Int) : Int := (if (!((C2 p0.2.1 p1).isSome)) = true then (-1) else (C2 p0.2.1 p1).getD 0)
theorem EE (Y : Nat → Prop) (X : List Nat) (w0 : World) (q_p0 : Nat) (v1 : Value) (m_v2 : Nat) (v3 : Value) (p0 : (List (Int × Int × Int × Int × (Nat × List Int) × Int × Int × Int)) × (List (Int × Int)) × List Int) (p1 : Int) (d_v1 : {x : List (Int × Int × Int × Int × (Value × Nat × List Int) × Int × Int × Int) // x.map CI = p0.1}) (r : Int) (H : AJ p0 p1 = r) (hL : Stw ⟨Y, X, w0⟩ [(q_p0, [v1, .map (some m_v2), v3])] [Be v1 78 BZ d_v1.1, row v3 3 (Rp.int .i64) p0.2.2, mp m_v2 BL BL p0.2.1] w0) :
    Calls Try.prog 52 #[.pointer (some ⟨q_p0, 0, none⟩), .int .i64 p1] w0 fun e w' => ∃ x : Unit, e = .returned (.int .i64 r) ∧ Stw ⟨Y, X, w0⟩ [(q_p0, [v1, .map (some m_v2), v3])] [Be v1 78 BZ d_v1.1, row v3 3 (Rp.int .i64) p0.2.2, mp m_v2 BL BL p0.2.1] w' := by
 refine enter Try.func52 Aa Try.ntmps52 Aa fun a W => ?_
 have F := hL
 unfold AJ at H
 refine Ai (Ac ?_)
 refine ls W F Aa (Ah W Aa).q fun a w W F => ?_
 refine Ad (Ab (Ai (Ac ?_)))
 refine ls W F Aa (Ag W Aa).q fun a w W F => ?_
 refine ls W F Aa (B6 W Aa).q fun a w W F => ?_
 refine ls W F Aa (Af II Aa Aa Aa OL W Aa 1 Aa).q fun a w W F => ?_
 refine ls W F Aa (Am (v := Value.map (some m_v2)) 0 W Aa Aa OL Aa).q fun a w W F => ?_
 refine ls W F Aa (Ag W Aa).q fun a w W F => ?_
 refine ls W F Aa (H6 (zv := (0 : Int)) (kx := (p1 : Int)) (q := 2) (E := BL) (V := BL) W Aa Aa Aa PB N1 Z3).q fun a w W F => ?_
 refine ls W F Aa (Ag W Aa).q fun a w W F => ?_
 refine ls W F Aa (Bj (v := Value.int .i64 ((C2 p0.2.1 p1).getD 0)) W Aa Aa).q fun a w W F => ?_
 refine ls W F Aa (Bj (v := Value.bool ((C2 p0.2.1 p1).isSome)) W Aa Aa).q fun a w W F => ?_
 iterate 2 refine ls W F Aa (Ah W Aa).q fun a w W F => ?_
 refine Ad (Ab (Ai (Ai (Ac ?_))))
 refine ls W F Aa (Ag W Aa).q fun a w W F => ?_
 refine ls W F Aa (E5 W Aa).q fun a w W F => ?_
 refine Ad (Ab ?_)
 refine Ax W Aa (fun hb => ?_) fun hb => ?_
 ·
  have H := AK hb H
  rw [hb] at W
  clear hb
  refine Ai (Ac ?_)
  refine ls W F Aa (Ah W Aa).q fun a w W F => ?_
  refine Ad (Ab (AA (AD ?_)))
  subst H
  refine AW (.inl Aa) W F Aa (As W Aa) ?_
  have F := F.frontZ (i := 2) Aa Aa
  have F := F.frontZ (i := 2) Aa Aa
  have F := F.frontZ (i := 2) Aa Aa
  exact ⟨(), Aa, F⟩
 have H := AL (by rw [hb]; decide) H
 rw [hb] at W
 clear hb
 refine Ap (Ab (Ai (Ac ?_)))
 refine ls W F Aa (Ag W Aa).q fun a w W F => ?_
 refine ls W F Aa (Ah W Aa).q fun a w W F => ?_
 refine Ad (Ab (AA ?_))
 subst H
 refine AW (.inl Aa) W F Aa (As W Aa) ?_
 have F := F.frontZ (i := 2) Aa Aa
 have F := F.frontZ (i := 2) Aa Aa
 have F := F.frontZ (i := 2) Aa Aa
 exact ⟨(), Aa, F⟩
theorem Pb : type_of% Try.underlying75 := Try.underlying75
theorem Fk : type_of% Try.underlying78 := Try.underlying78
theorem QM : Has Try.prog 52 := ⟨fun args w => Al Try.func52 rfl (by decide) args w⟩
theorem Ob : Ty Try.prog 75 false 1 := ⟨by kernel_rfl, by kernel_rfl⟩
theorem R6 : Bt Try.prog 78 [.int .i64 0, .int .i64 0, .int .i64 0, .int .i64 0, .slice none 0 0, .int .i64 0, .int .i64 0, .int .i64 0] [(0, 1), (1, 1), (2, 1), (3, 1), (4, 1), (5, 1), (6, 1), (7, 1)] := ⟨⟨.agg #[.int .i64 0, .int .i64 0, .int .i64 0, .int .i64 0, .slice none 0 0, .int .i64 0, .int .i64 0, .int .i64 0], by kernel_rfl, rfl⟩, ⟨_, Fk, fun w => by kernel_rfl⟩⟩
theorem QL : (Try.prog.info? 78).bind (·.zero) = some (.agg #[.int .i64 0, .int .i64 0, .int .i64 0, .int .i64 0, .slice none 0 0, .int .i64 0, .int .i64 0, .int .i64 0]) := by kernel_rfl
theorem PZ : Et Try.prog 75 78 8 80 := Et.of Pb (by kernel_rfl) (by kernel_rfl) (by kernel_rfl) (by decide)
noncomputable def CV (p0 : (List (Int × Int × Int × Int × (Nat × List Int) × Int × Int × Int)) × (List (Int × Int)) × List Int) (p1 : Int × Int × Int × Int × Int × Int) : Option ((List (Int × Int × Int × Int × (Nat × List Int) × Int × Int × Int)) × (List (Int × Int)) × List Int) := (FR p0.2.2 ([(AJ p0 p1.2.2.1)] : List Int)).bind fun x1 => (FR p0.1 ([(p1.2.2.1, p1.2.2.2.2.1, p1.2.2.2.2.2, p1.2.1, (2, []), 0, 0, p1.2.1)] : List (Int × Int × Int × Int × (Nat × List Int) × Int × Int × Int))).bind fun x2 => some (x2, C5 p0.2.1 p1.2.2.1 (p0.1.length : Int), x1)
theorem HB (Y : Nat → Prop) (X : List Nat) (w0 : World) (q_p0 : Nat) (v1 : Value) (m_v2 : Nat) (v3 : Value) (p0 : (List (Int × Int × Int × Int × (Nat × List Int) × Int × Int × Int)) × (List (Int × Int)) × List Int) (p1 : Int × Int × Int × Int × Int × Int) (d_v1 : {x : List (Int × Int × Int × Int × (Value × Nat × List Int) × Int × Int × Int) // x.map CI = p0.1}) (r : ((List (Int × Int × Int × Int × (Nat × List Int) × Int × Int × Int)) × (List (Int × Int)) × List Int)) (H : CV p0 p1 = some r) (hL : Stw ⟨Y, X, w0⟩ [(q_p0, [v1, .map (some m_v2), v3])] [Be v1 78 BZ d_v1.1, row v3 3 (Rp.int .i64) p0.2.2, mp m_v2 BL BL p0.2.1] w0) :
    Calls Try.prog 51 #[.pointer (some ⟨q_p0, 0, none⟩), .agg #[.int .i64 p1.1, .int .i64 p1.2.1, .int .i64 p1.2.2.1, .int .i64 p1.2.2.2.1, .int .i64 p1.2.2.2.2.1, .int .i64 p1.2.2.2.2.2]] w0 fun e w' => ∃ x : Value × ({x : List (Int × Int × Int × Int × (Value × Nat × List Int) × Int × Int × Int) // x.map CI = r.1}) × Value, e = .returned (.tuple #[]) ∧ Stw ⟨Y, X, w0⟩ [(q_p0, [x.1, .map (some m_v2), x.2.2])] [Be (x.1) 78 BZ (x.2.1.1), row (x.2.2) 3 (Rp.int .i64) r.2.2, mp m_v2 BL BL r.2.1] w' := by
 refine enter Try.func51 Aa Try.ntmps51 Aa fun a W => ?_
 have F := hL
 unfold CV at H
 refine Ai (Ac ?_)
 refine B9 (cs := [.int .i64 p1.1, .int .i64 p1.2.1, .int .i64 p1.2.2.1, .int .i64 p1.2.2.2.1, .int .i64 p1.2.2.2.2.1, .int .i64 p1.2.2.2.2.2]) W F Aa Aa Aa fun b1 a w W F => ?_
 refine Ad (Ab (Ai ?_))
 refine FL [(true, 0), (true, 1), (true, 2), (true, 3), (true, 4), (true, 5), (true, 6), (true, 7), (false, 8), (false, 9), (false, 10), (true, 11), (true, 12), (false, 13)] (CN ⟨Y, X, w0⟩ [(some 10, q_p0, [v1, .map (some m_v2), v3]), (some 8, b1, [.int .i64 p1.1, .int .i64 p1.2.1, .int .i64 p1.2.2.1, .int .i64 p1.2.2.2.1, .int .i64 p1.2.2.2.2.1, .int .i64 p1.2.2.2.2.2])] []) (fun ch a d v w h => by cases d <;> exact h) MO (by kernel_rfl) F (fun w F => ⟨_, _, F, (all_cons (fun _ => (.tail _ (.head _))) (all_cons (fun _ => (.head _)) AQ)), AQ⟩) fun w F => ?_
 iterate 2 refine BR (R := []) W Aa Aa (yC fun M Z hN hZ => Ag W Aa) Aa Aa fun a W => ?_
 refine BR (R := []) W Aa Aa (yC fun M Z hN hZ => B6 W Aa) Aa Aa fun a W => ?_
 refine BR (R := []) W Aa Aa (yC fun M Z hN hZ => Af II Aa Aa Aa E1 W Aa 2 Aa) Aa Aa fun a W => ?_
 refine BR (R := [10]) W Aa Aa (yC fun M Z hN hZ => Cl (cs := [v1, .map (some m_v2), v3]) (v := v3) W Aa (hN ((some 10), q_p0, [v1, .map (some m_v2), v3]) (.head _) Aa) E1 Aa) (by kernel_rfl) Aa fun a W => ?_
 refine BR (R := []) W Aa Aa (yC fun M Z hN hZ => Ag W Aa) Aa Aa fun a W => ?_
 refine BR (R := []) W Aa Aa (yC fun M Z hN hZ => Af Cf Aa Aa Aa T3 W Aa 2 Aa) Aa Aa fun a W => ?_
 refine BR (R := [8]) W Aa Aa (yC fun M Z hN hZ => Cl (cs := [.int .i64 p1.1, .int .i64 p1.2.1, .int .i64 p1.2.2.1, .int .i64 p1.2.2.2.1, .int .i64 p1.2.2.2.2.1, .int .i64 p1.2.2.2.2.2]) (v := Value.int .i64 p1.2.2.1) W Aa (hN ((some 8), b1, [.int .i64 p1.1, .int .i64 p1.2.1, .int .i64 p1.2.2.1, .int .i64 p1.2.2.2.1, .int .i64 p1.2.2.2.2.1, .int .i64 p1.2.2.2.2.2]) (.tail _ (.head _)) Aa) T3 Aa) (by kernel_rfl) Aa fun a W => ?_
 refine FE Aa ?_
 have F := F.frontZ (i := 2) Aa Aa
 have F := F.frontZ (i := 2) Aa Aa
 have F := F.frontZ (i := 2) Aa Aa
 have F := F.frontM (i := 1) Aa Aa
 refine BW (Ml := [(q_p0, [v1, .map (some m_v2), v3])]) (Zl := [Be v1 78 BZ d_v1.1, row v3 3 (Rp.int .i64) p0.2.2, mp m_v2 BL BL p0.2.1]) (M := [(b1, [.int .i64 p1.1, .int .i64 p1.2.1, .int .i64 p1.2.2.1, .int .i64 p1.2.2.2.1, .int .i64 p1.2.2.2.2.1, .int .i64 p1.2.2.2.2.2])]) (Z := []) (β := Unit) (rv := fun x => .int .i64 (AJ p0 p1.2.2.1)) (MM := fun x => [(q_p0, [v1, .map (some m_v2), v3])]) (ZZ := fun x => [Be v1 78 BZ d_v1.1, row v3 3 (Rp.int .i64) p0.2.2, mp m_v2 BL BL p0.2.1]) W F QM Aa Aa (fun hL => EE _ _ w q_p0 (v1) m_v2 (v3) p0 p1.2.2.1 ⟨d_v1.1, d_v1.2⟩ _ Aa hL) fun x a w W F => ?_
 have F : Stw ⟨Y, X, w0⟩ [(q_p0, [v1, .map (some m_v2), v3]), (b1, [.int .i64 p1.1, .int .i64 p1.2.1, .int .i64 p1.2.2.1, .int .i64 p1.2.2.2.1, .int .i64 p1.2.2.2.2.1, .int .i64 p1.2.2.2.2.2])] [Be v1 78 BZ d_v1.1, row v3 3 (Rp.int .i64) p0.2.2, mp m_v2 BL BL p0.2.1] w := F
 refine Ce (N2 := []) (NZ2 := []) (N3 := [(some 10, q_p0, [v1, .map (some m_v2), v3]), (some 8, b1, [.int .i64 p1.1, .int .i64 p1.2.1, .int .i64 p1.2.2.1, .int .i64 p1.2.2.2.1, .int .i64 p1.2.2.2.2.1, .int .i64 p1.2.2.2.2.2])]) (NZ3 := []) F Aa Aa (all_cons (fun _ => (.head _)) (all_cons (fun h => Ba (by kernel_rfl) h) AQ)) AQ ?_
 refine FE Aa ?_
 refine Da (z := Value.int .i64 0) (cs := [.int .i64 (AJ p0 p1.2.2.1)]) (Rp.int .i64) ([(AJ p0 p1.2.2.1)] : List Int) W F Aa Hl Z3 Aa Aa Aa Aa Aa Aa (Fl.int.repL _ _ ([(AJ p0 p1.2.2.1)] : List Int)) fun v4 a w W F => ?_
 refine Ce (N2 := []) (NZ2 := []) (N3 := [(some 10, q_p0, [v1, .map (some m_v2), v3]), (some 8, b1, [.int .i64 p1.1, .int .i64 p1.2.1, .int .i64 p1.2.2.1, .int .i64 p1.2.2.2.1, .int .i64 p1.2.2.2.2.1, .int .i64 p1.2.2.2.2.2])]) (NZ3 := []) F Aa Aa (all_cons (fun _ => (.head _)) (all_cons (fun h => Ba (by kernel_rfl) h) AQ)) AQ ?_
 refine FE Aa ?_
 obtain ⟨x1, h1, H⟩ := An H
 refine Cg (r := (Rp.int .i64)) (i := 2) W F Aa Hl Aa Aa Aa Aa (CE F 0 Aa) h1 Aa fun v5 a w W F => ?_
 have F : Stw ⟨Y, X, w0⟩ [(q_p0, [v1, .map (some m_v2), v3]), (b1, [.int .i64 p1.1, .int .i64 p1.2.1, .int .i64 p1.2.2.1, .int .i64 p1.2.2.2.1, .int .i64 p1.2.2.2.2.1, .int .i64 p1.2.2.2.2.2])] [row v5 3 (Rp.int .i64) x1, row v4 3 (Rp.int .i64) ([(AJ p0 p1.2.2.1)] : List Int), Be v1 78 BZ d_v1.1, mp m_v2 BL BL p0.2.1] w := F
 refine Ce (N2 := []) (NZ2 := []) (N3 := [(some 10, q_p0, [v1, .map (some m_v2), v3]), (some 8, b1, [.int .i64 p1.1, .int .i64 p1.2.1, .int .i64 p1.2.2.1, .int .i64 p1.2.2.2.1, .int .i64 p1.2.2.2.2.1, .int .i64 p1.2.2.2.2.2])]) (NZ3 := []) F Aa Aa (all_cons (fun h => Ba (by kernel_rfl) h) (all_cons (fun h => Ba (by kernel_rfl) h) AQ)) AQ ?_
 refine BR (R := []) W Aa Aa (yC fun M Z hN hZ => B6 W Aa) Aa Aa fun a W => ?_
 refine BR (R := []) W Aa Aa (yC fun M Z hN hZ => Af II Aa Aa Aa E1 W Aa 2 Aa) Aa Aa fun a W => ?_
 refine FE Aa ?_
 refine HH (M' := [(q_p0, [v1, .map (some m_v2), v5]), (b1, [.int .i64 p1.1, .int .i64 p1.2.1, .int .i64 p1.2.2.1, .int .i64 p1.2.2.2.1, .int .i64 p1.2.2.2.2.1, .int .i64 p1.2.2.2.2.2])]) 0 W F Aa Aa Aa E1 (F.one (k := 0) Aa) Aa Aa fun w F => ?_
 refine Ce (N2 := []) (NZ2 := []) (N3 := [(some 10, q_p0, [v1, .map (some m_v2), v3]), (some 8, b1, [.int .i64 p1.1, .int .i64 p1.2.1, .int .i64 p1.2.2.1, .int .i64 p1.2.2.2.1, .int .i64 p1.2.2.2.2.1, .int .i64 p1.2.2.2.2.2])]) (NZ3 := []) F Aa Aa (all_cons (fun h => Ba (by kernel_rfl) h) (all_cons (fun h => Ba (by kernel_rfl) h) AQ)) AQ ?_
 refine Hs (Ab (Ai ?_))
 refine I7 11 F MO (by kernel_rfl) ?_
 refine qs W Aa (Ag W Aa).q fun a W => ?_
 refine qs W Aa (B6 W Aa).q fun a W => ?_
 refine qs W Aa (Af II Aa Aa Aa OL W Aa 1 Aa).q fun a W => ?_
 refine qs W Aa (Am (v := Value.map (some m_v2)) 0 W Aa Aa OL Aa).q fun a W => ?_
 refine qs W Aa (Af Cf Aa Aa Aa T3 W Aa 2 Aa).q fun a W => ?_
 refine qs W Aa (Am (v := Value.int .i64 p1.2.2.1) 1 W Aa Aa T3 Aa).q fun a W => ?_
 refine qs W Aa (Ag W Aa).q fun a W => ?_
 refine qs W Aa (B6 W Aa).q fun a W => ?_
 refine qs W Aa (Af II Aa Aa Aa Ob W Aa 0 Aa).q fun a W => ?_
 refine qs W Aa (Am (v := v1) 0 W Aa Aa Ob Aa).q fun a W => ?_
 refine qs W Aa (My (er := CI) d_v1.2 Pb Aa W Aa (I5.hd (DW 2 Aa))).q fun a W => ?_
 refine AX fun w F => ?_
 refine GN (q := 3) (kx := (p1.2.2.1 : Int)) (vx := ((p0.1.length : Int) : Int)) (E := BL) (V := BL) W F Aa Aa Aa Aa Aa PB N1 fun w F => ?_
 have F : Stw ⟨Y, X, w0⟩ [(q_p0, [v1, .map (some m_v2), v5]), (b1, [.int .i64 p1.1, .int .i64 p1.2.1, .int .i64 p1.2.2.1, .int .i64 p1.2.2.2.1, .int .i64 p1.2.2.2.2.1, .int .i64 p1.2.2.2.2.2])] [mp m_v2 BL BL (C5 p0.2.1 p1.2.2.1 (p0.1.length : Int)), row v5 3 (Rp.int .i64) x1, row v4 3 (Rp.int .i64) ([(AJ p0 p1.2.2.1)] : List Int), Be v1 78 BZ d_v1.1] w := F
 refine Ad (Ab ?_)
 refine FL [(true, 0), (true, 1), (true, 2), (true, 3), (true, 4), (true, 5), (true, 6), (true, 7), (true, 8), (true, 9), (true, 10), (true, 11), (true, 12), (true, 13), (true, 14), (true, 15), (false, 16), (false, 17), (true, 18), (true, 19), (false, 20)] (CN ⟨Y, X, w0⟩ [(some 17, q_p0, [v1, .map (some m_v2), v5]), (some 16, b1, [.int .i64 p1.1, .int .i64 p1.2.1, .int .i64 p1.2.2.1, .int .i64 p1.2.2.2.1, .int .i64 p1.2.2.2.2.1, .int .i64 p1.2.2.2.2.2])] []) (fun ch a d v w h => by cases d <;> exact h) MO (by kernel_rfl) F (fun w F => ⟨_, _, F, (all_cons (fun _ => (.head _)) (all_cons (fun _ => (.tail _ (.head _))) AQ)), AQ⟩) fun w F => ?_
 iterate 2 refine BR (R := []) W Aa Aa (yC fun M Z hN hZ => Ag W Aa) Aa Aa fun a W => ?_
 refine BR (R := []) W Aa Aa (yC fun M Z hN hZ => B6 W Aa) Aa Aa fun a W => ?_
 refine BR (R := []) W Aa Aa (yC fun M Z hN hZ => Af II Aa Aa Aa Ob W Aa 0 Aa) Aa Aa fun a W => ?_
 refine BR (R := [17]) W Aa Aa (yC fun M Z hN hZ => Cl (cs := [v1, .map (some m_v2), v5]) (v := v1) W Aa (hN ((some 17), q_p0, [v1, .map (some m_v2), v5]) (.head _) Aa) Ob Aa) (by kernel_rfl) Aa fun a W => ?_
 refine BR (R := []) W Aa Aa (yC fun M Z hN hZ => Af Cf Aa Aa Aa T3 W Aa 2 Aa) Aa Aa fun a W => ?_
 refine BR (R := [16, 15]) W Aa Aa (yC fun M Z hN hZ => Cl (cs := [.int .i64 p1.1, .int .i64 p1.2.1, .int .i64 p1.2.2.1, .int .i64 p1.2.2.2.1, .int .i64 p1.2.2.2.2.1, .int .i64 p1.2.2.2.2.2]) (v := Value.int .i64 p1.2.2.1) W Aa (hN ((some 16), b1, [.int .i64 p1.1, .int .i64 p1.2.1, .int .i64 p1.2.2.1, .int .i64 p1.2.2.2.1, .int .i64 p1.2.2.2.2.1, .int .i64 p1.2.2.2.2.2]) (.tail _ (.head _)) Aa) T3 Aa) (by kernel_rfl) Aa fun a W => ?_
 refine BR (R := []) W Aa Aa (yC fun M Z hN hZ => Af Cf Aa Aa Aa T3 W Aa 4 Aa) Aa Aa fun a W => ?_
 refine BR (R := [16, 15]) W Aa Aa (yC fun M Z hN hZ => Cl (cs := [.int .i64 p1.1, .int .i64 p1.2.1, .int .i64 p1.2.2.1, .int .i64 p1.2.2.2.1, .int .i64 p1.2.2.2.2.1, .int .i64 p1.2.2.2.2.2]) (v := Value.int .i64 p1.2.2.2.2.1) W Aa (hN ((some 16), b1, [.int .i64 p1.1, .int .i64 p1.2.1, .int .i64 p1.2.2.1, .int .i64 p1.2.2.2.1, .int .i64 p1.2.2.2.2.1, .int .i64 p1.2.2.2.2.2]) (.tail _ (.head _)) Aa) T3 Aa) (by kernel_rfl) Aa fun a W => ?_
 refine BR (R := []) W Aa Aa (yC fun M Z hN hZ => Af Cf Aa Aa Aa T3 W Aa 5 Aa) Aa Aa fun a W => ?_
 refine BR (R := [16, 15]) W Aa Aa (yC fun M Z hN hZ => Cl (cs := [.int .i64 p1.1, .int .i64 p1.2.1, .int .i64 p1.2.2.1, .int .i64 p1.2.2.2.1, .int .i64 p1.2.2.2.2.1, .int .i64 p1.2.2.2.2.2]) (v := Value.int .i64 p1.2.2.2.2.2) W Aa (hN ((some 16), b1, [.int .i64 p1.1, .int .i64 p1.2.1, .int .i64 p1.2.2.1, .int .i64 p1.2.2.2.1, .int .i64 p1.2.2.2.2.1, .int .i64 p1.2.2.2.2.2]) (.tail _ (.head _)) Aa) T3 Aa) (by kernel_rfl) Aa fun a W => ?_
 refine BR (R := []) W Aa Aa (yC fun M Z hN hZ => Af Cf Aa Aa Aa T3 W Aa 1 Aa) Aa Aa fun a W => ?_
 refine BR (R := [16, 15]) W Aa Aa (yC fun M Z hN hZ => Cl (cs := [.int .i64 p1.1, .int .i64 p1.2.1, .int .i64 p1.2.2.1, .int .i64 p1.2.2.2.1, .int .i64 p1.2.2.2.2.1, .int .i64 p1.2.2.2.2.2]) (v := Value.int .i64 p1.2.1) W Aa (hN ((some 16), b1, [.int .i64 p1.1, .int .i64 p1.2.1, .int .i64 p1.2.2.1, .int .i64 p1.2.2.2.1, .int .i64 p1.2.2.2.2.1, .int .i64 p1.2.2.2.2.2]) (.tail _ (.head _)) Aa) T3 Aa) (by kernel_rfl) Aa fun a W => ?_
 refine BR (R := []) W Aa Aa (yC fun M Z hN hZ => Af Cf Aa Aa Aa T3 W Aa 1 Aa) Aa Aa fun a W => ?_
 refine BR (R := [16, 15]) W Aa Aa (yC fun M Z hN hZ => Cl (cs := [.int .i64 p1.1, .int .i64 p1.2.1, .int .i64 p1.2.2.1, .int .i64 p1.2.2.2.1, .int .i64 p1.2.2.2.2.1, .int .i64 p1.2.2.2.2.2]) (v := Value.int .i64 p1.2.1) W Aa (hN ((some 16), b1, [.int .i64 p1.1, .int .i64 p1.2.1, .int .i64 p1.2.2.1, .int .i64 p1.2.2.2.1, .int .i64 p1.2.2.2.2.1, .int .i64 p1.2.2.2.2.2]) (.tail _ (.head _)) Aa) T3 Aa) (by kernel_rfl) Aa fun a W => ?_
 refine BR (R := []) W Aa Aa (yC fun M Z hN hZ => BH (v := Value.agg #[.int .i64 p1.2.2.1, .int .i64 p1.2.2.2.2.1, .int .i64 p1.2.2.2.2.2, .int .i64 p1.2.1, .slice none 0 0, .int .i64 0, .int .i64 0, .int .i64 p1.2.1]) R6 W Aa Aa Aa) Aa Aa fun a W => ?_
 refine FE Aa ?_
 have F := F.addEmp
 have F := F.addEmp
 have F := F.pairZ (D := (Dp.fl 1 (fun a => [.int .i64 a]) (fun _ => rfl))) (E := (Dp.fl 1 (fun a => [.int .i64 a]) (fun _ => rfl))) (p := 0) (q := p1.2.1)
 have F := F.addEmp
 have F := F.pairZ (D := (Dp.fl 1 (fun a => [.int .i64 a]) (fun _ => rfl))) (E := (Dp.pair (Dp.fl 1 (fun a => [.int .i64 a]) (fun _ => rfl)) (Dp.fl 1 (fun a => [.int .i64 a]) (fun _ => rfl)))) (p := 0) (q := (0, p1.2.1))
 have F := F.nlZ (Nl.sl (e' := 3) (r := (Rp.int .i64)))
 have F := F.pairZ (D := (Dp.sl 3 (Rp.int .i64))) (E := (Dp.pair (Dp.fl 1 (fun a => [.int .i64 a]) (fun _ => rfl)) (Dp.pair (Dp.fl 1 (fun a => [.int .i64 a]) (fun _ => rfl)) (Dp.fl 1 (fun a => [.int .i64 a]) (fun _ => rfl))))) (p := (Value.slice none 0 0, 2, [])) (q := (0, 0, p1.2.1))
 have F := F.addEmp
 have F := F.pairZ (D := (Dp.fl 1 (fun a => [.int .i64 a]) (fun _ => rfl))) (E := (Dp.pair (Dp.sl 3 (Rp.int .i64)) (Dp.pair (Dp.fl 1 (fun a => [.int .i64 a]) (fun _ => rfl)) (Dp.pair (Dp.fl 1 (fun a => [.int .i64 a]) (fun _ => rfl)) (Dp.fl 1 (fun a => [.int .i64 a]) (fun _ => rfl)))))) (p := p1.2.1) (q := ((Value.slice none 0 0, 2, []), 0, 0, p1.2.1))
 have F := F.addEmp
 have F := F.pairZ (D := (Dp.fl 1 (fun a => [.int .i64 a]) (fun _ => rfl))) (E := (Dp.pair (Dp.fl 1 (fun a => [.int .i64 a]) (fun _ => rfl)) (Dp.pair (Dp.sl 3 (Rp.int .i64)) (Dp.pair (Dp.fl 1 (fun a => [.int .i64 a]) (fun _ => rfl)) (Dp.pair (Dp.fl 1 (fun a => [.int .i64 a]) (fun _ => rfl)) (Dp.fl 1 (fun a => [.int .i64 a]) (fun _ => rfl))))))) (p := p1.2.2.2.2.2) (q := (p1.2.1, (Value.slice none 0 0, 2, []), 0, 0, p1.2.1))
 have F := F.addEmp
 have F := F.pairZ (D := (Dp.fl 1 (fun a => [.int .i64 a]) (fun _ => rfl))) (E := (Dp.pair (Dp.fl 1 (fun a => [.int .i64 a]) (fun _ => rfl)) (Dp.pair (Dp.fl 1 (fun a => [.int .i64 a]) (fun _ => rfl)) (Dp.pair (Dp.sl 3 (Rp.int .i64)) (Dp.pair (Dp.fl 1 (fun a => [.int .i64 a]) (fun _ => rfl)) (Dp.pair (Dp.fl 1 (fun a => [.int .i64 a]) (fun _ => rfl)) (Dp.fl 1 (fun a => [.int .i64 a]) (fun _ => rfl)))))))) (p := p1.2.2.2.2.1) (q := (p1.2.2.2.2.2, p1.2.1, (Value.slice none 0 0, 2, []), 0, 0, p1.2.1))
 have F := F.addEmp
 have F := F.pairZ (D := (Dp.fl 1 (fun a => [.int .i64 a]) (fun _ => rfl))) (E := (Dp.pair (Dp.fl 1 (fun a => [.int .i64 a]) (fun _ => rfl)) (Dp.pair (Dp.fl 1 (fun a => [.int .i64 a]) (fun _ => rfl)) (Dp.pair (Dp.fl 1 (fun a => [.int .i64 a]) (fun _ => rfl)) (Dp.pair (Dp.sl 3 (Rp.int .i64)) (Dp.pair (Dp.fl 1 (fun a => [.int .i64 a]) (fun _ => rfl)) (Dp.pair (Dp.fl 1 (fun a => [.int .i64 a]) (fun _ => rfl)) (Dp.fl 1 (fun a => [.int .i64 a]) (fun _ => rfl))))))))) (p := p1.2.2.1) (q := (p1.2.2.2.2.1, p1.2.2.2.2.2, p1.2.1, (Value.slice none 0 0, 2, []), 0, 0, p1.2.1))
 refine Da (z := Value.agg #[.int .i64 0, .int .i64 0, .int .i64 0, .int .i64 0, .slice none 0 0, .int .i64 0, .int .i64 0, .int .i64 0]) (cs := [.int .i64 p1.2.2.1, .int .i64 p1.2.2.2.2.1, .int .i64 p1.2.2.2.2.2, .int .i64 p1.2.1, .slice none 0 0, .int .i64 0, .int .i64 0, .int .i64 p1.2.1]) BZ.hr ([(p1.2.2.1, p1.2.2.2.2.1, p1.2.2.2.2.2, p1.2.1, (Value.slice none 0 0, 2, []), 0, 0, p1.2.1)] : List (Int × Int × Int × Int × (Value × Nat × List Int) × Int × Int × Int)) W F Aa PZ QL Aa Aa Aa (EV Aa Aa Aa Ge) Aa Aa ⟨[Value.int .i64 p1.2.2.1, Value.int .i64 p1.2.2.2.2.1, Value.int .i64 p1.2.2.2.2.2, Value.int .i64 p1.2.1, Value.slice none 0 0, Value.int .i64 0, Value.int .i64 0, Value.int .i64 p1.2.1], _, Aa, ⟨rfl, (A7 Aa (A7 Aa (A7 Aa (A7 Aa (A7 Aa (A7 Aa (A7 Aa (A7 Aa FX))))))))⟩, Aa⟩ fun v6 a w W F => ?_
 have F := Stw.dShutL (D := BZ) (lx := ([(p1.2.2.1, p1.2.2.2.2.1, p1.2.2.2.2.2, p1.2.1, (Value.slice none 0 0, 2, []), 0, 0, p1.2.1)] : List (Int × Int × Int × Int × (Value × Nat × List Int) × Int × Int × Int))) F
 have h2 : List.map CI ([(p1.2.2.1, p1.2.2.2.2.1, p1.2.2.2.2.2, p1.2.1, (Value.slice none 0 0, 2, []), 0, 0, p1.2.1)] : List (Int × Int × Int × Int × (Value × Nat × List Int) × Int × Int × Int)) = ([(p1.2.2.1, p1.2.2.2.2.1, p1.2.2.2.2.2, p1.2.1, (2, []), 0, 0, p1.2.1)] : List (Int × Int × Int × Int × (Nat × List Int) × Int × Int × Int)) := Aa
 have F : Stw ⟨Y, X, w0⟩ [(q_p0, [v1, .map (some m_v2), v5]), (b1, [.int .i64 p1.1, .int .i64 p1.2.1, .int .i64 p1.2.2.1, .int .i64 p1.2.2.2.1, .int .i64 p1.2.2.2.2.1, .int .i64 p1.2.2.2.2.2])] [Be v6 78 BZ ([(p1.2.2.1, p1.2.2.2.2.1, p1.2.2.2.2.2, p1.2.1, (Value.slice none 0 0, 2, []), 0, 0, p1.2.1)] : List (Int × Int × Int × Int × (Value × Nat × List Int) × Int × Int × Int)), mp m_v2 BL BL (C5 p0.2.1 p1.2.2.1 (p0.1.length : Int)), row v5 3 (Rp.int .i64) x1, row v4 3 (Rp.int .i64) ([(AJ p0 p1.2.2.1)] : List Int), Be v1 78 BZ d_v1.1] w := F
 refine Ce (N2 := []) (NZ2 := []) (N3 := [(some 17, q_p0, [v1, .map (some m_v2), v5]), (some 16, b1, [.int .i64 p1.1, .int .i64 p1.2.1, .int .i64 p1.2.2.1, .int .i64 p1.2.2.2.1, .int .i64 p1.2.2.2.2.1, .int .i64 p1.2.2.2.2.2])]) (NZ3 := []) F Aa Aa (all_cons (fun _ => (.head _)) (all_cons (fun h => Ba (by kernel_rfl) h) AQ)) AQ ?_
 refine FE Aa ?_
 have F := F.frontZ (i := 4) Aa Aa
 obtain ⟨x2, h3, H⟩ := An H
 refine Jh (D := BZ) W F Aa PZ Aa Aa (KB (er := CI) d_v1.2 h2 h3).1 Aa fun v7 a w W F => ?_
 have h4 : List.map CI (d_v1.1 ++ ([(p1.2.2.1, p1.2.2.2.2.1, p1.2.2.2.2.2, p1.2.1, (Value.slice none 0 0, 2, []), 0, 0, p1.2.1)] : List (Int × Int × Int × Int × (Value × Nat × List Int) × Int × Int × Int))) = x2 := (KB (er := CI) d_v1.2 h2 h3).2
 have F : Stw ⟨Y, X, w0⟩ [(q_p0, [v1, .map (some m_v2), v5]), (b1, [.int .i64 p1.1, .int .i64 p1.2.1, .int .i64 p1.2.2.1, .int .i64 p1.2.2.2.1, .int .i64 p1.2.2.2.2.1, .int .i64 p1.2.2.2.2.2])] [Be v7 78 BZ (d_v1.1 ++ ([(p1.2.2.1, p1.2.2.2.2.1, p1.2.2.2.2.2, p1.2.1, (Value.slice none 0 0, 2, []), 0, 0, p1.2.1)] : List (Int × Int × Int × Int × (Value × Nat × List Int) × Int × Int × Int))), mp m_v2 BL BL (C5 p0.2.1 p1.2.2.1 (p0.1.length : Int)), row v5 3 (Rp.int .i64) x1, row v4 3 (Rp.int .i64) ([(AJ p0 p1.2.2.1)] : List Int)] w := F
 refine Ce (N2 := []) (NZ2 := []) (N3 := [(some 17, q_p0, [v1, .map (some m_v2), v5]), (some 16, b1, [.int .i64 p1.1, .int .i64 p1.2.1, .int .i64 p1.2.2.1, .int .i64 p1.2.2.2.1, .int .i64 p1.2.2.2.2.1, .int .i64 p1.2.2.2.2.2])]) (NZ3 := []) F Aa Aa (all_cons (fun h => Ba (by kernel_rfl) h) (all_cons (fun h => Ba (by kernel_rfl) h) AQ)) AQ ?_
 refine BR (R := []) W Aa Aa (yC fun M Z hN hZ => B6 W Aa) Aa Aa fun a W => ?_
 refine BR (R := []) W Aa Aa (yC fun M Z hN hZ => Af II Aa Aa Aa Ob W Aa 0 Aa) Aa Aa fun a W => ?_
 refine FE Aa ?_
 refine HH (M' := [(q_p0, [v7, .map (some m_v2), v5]), (b1, [.int .i64 p1.1, .int .i64 p1.2.1, .int .i64 p1.2.2.1, .int .i64 p1.2.2.2.1, .int .i64 p1.2.2.2.2.1, .int .i64 p1.2.2.2.2.2])]) 0 W F Aa Aa Aa Ob (F.oneD 0 Aa) Aa Aa fun w F => ?_
 refine Ce (N2 := []) (NZ2 := []) (N3 := [(some 17, q_p0, [v1, .map (some m_v2), v5]), (some 16, b1, [.int .i64 p1.1, .int .i64 p1.2.1, .int .i64 p1.2.2.1, .int .i64 p1.2.2.2.1, .int .i64 p1.2.2.2.2.1, .int .i64 p1.2.2.2.2.2])]) (NZ3 := []) F Aa Aa (all_cons (fun h => Ba (by kernel_rfl) h) (all_cons (fun h => Ba (by kernel_rfl) h) AQ)) AQ ?_
 refine Hs ?_
 have H := AN H
 subst H
 refine GF (.inr Aa) W Aa ?_
 have F := F.frontZ (i := 1) Aa Aa
 have F := F.frontZ (i := 2) Aa Aa
 have F := F.frontZ (i := 2) Aa Aa
 have F := F.sub (M' := [(q_p0, [v7, .map (some m_v2), v5])]) (Z' := [Be v7 78 BZ (d_v1.1 ++ ([(p1.2.2.1, p1.2.2.2.2.1, p1.2.2.2.2.2, p1.2.1, (Value.slice none 0 0, 2, []), 0, 0, p1.2.1)] : List (Int × Int × Int × Int × (Value × Nat × List Int) × Int × Int × Int))), row v5 3 (Rp.int .i64) x1, mp m_v2 BL BL (C5 p0.2.1 p1.2.2.1 (p0.1.length : Int))]) (List.Sublist.cons_cons _ (List.nil_sublist _)) (List.Sublist.cons_cons _ (List.Sublist.cons_cons _ (List.Sublist.cons_cons _ (List.nil_sublist _))))
 exact ⟨((v7), ⟨(d_v1.1 ++ ([(p1.2.2.1, p1.2.2.2.2.1, p1.2.2.2.2.2, p1.2.1, (Value.slice none 0 0, 2, []), 0, 0, p1.2.1)] : List (Int × Int × Int × Int × (Value × Nat × List Int) × Int × Int × Int))), h4⟩, (v5)), Aa, F⟩
theorem Sk : Has Try.prog 51 := ⟨fun args w => Al Try.func51 rfl (by decide) args w⟩
noncomputable def Cc (p0 : (List (Int × Int × Int × Int × (Nat × List Int) × Int × Int × Int)) × (List (Int × Int)) × List Int) (p1 : Int) (p2 : Int × Int × Int × Int × Int × Int) : Option ((List (Int × Int × Int × Int × (Nat × List Int) × Int × Int × Int)) × (List (Int × Int)) × List Int) := (ix p0.1 p1).bind fun x1 => (ix p0.1 p1).bind fun x2 => (if p2.1 = 2 then (ix (Aw p0.1 p1 (x2.1, x2.2.1, x2.2.2.1, x2.2.2.2.1, x2.2.2.2.2.1, x2.2.2.2.2.2.1, x2.2.2.2.2.2.2.1, p2.2.1)) p1).bind fun x3 => (Mf x3.2.2.2.2.1.1).bind fun x4 => (FR x3.2.2.2.2.1.2 ([p2.2.2.2.1] : List Int)).bind fun x5 => (ix (Aw (Aw p0.1 p1 (x2.1, x2.2.1, x2.2.2.1, x2.2.2.2.1, x2.2.2.2.2.1, x2.2.2.2.2.2.1, x2.2.2.2.2.2.2.1, p2.2.1)) p1 (x3.1, x3.2.1, x3.2.2.1, x3.2.2.2.1, (0, []), x3.2.2.2.2.2.1, x3.2.2.2.2.2.2.1, x3.2.2.2.2.2.2.2)) p1).bind fun x6 => some ((Aw (Aw (Aw p0.1 p1 (x2.1, x2.2.1, x2.2.2.1, x2.2.2.2.1, x2.2.2.2.2.1, x2.2.2.2.2.2.1, x2.2.2.2.2.2.2.1, p2.2.1)) p1 (x3.1, x3.2.1, x3.2.2.1, x3.2.2.2.1, (0, []), x3.2.2.2.2.2.1, x3.2.2.2.2.2.2.1, x3.2.2.2.2.2.2.2)) p1 (x6.1, x6.2.1, x6.2.2.1, x6.2.2.2.1, (2, x5), x6.2.2.2.2.2.1, x6.2.2.2.2.2.2.1, x6.2.2.2.2.2.2.2)), p0.2.1, p0.2.2) else (ix (Aw p0.1 p1 (x2.1, x2.2.1, x2.2.2.1, x2.2.2.2.1, x2.2.2.2.2.1, x2.2.2.2.2.2.1, x2.2.2.2.2.2.2.1, p2.2.1)) p1).bind fun x7 => (if p2.1 = 3 then (ix (Aw (Aw p0.1 p1 (x2.1, x2.2.1, x2.2.2.1, x2.2.2.2.1, x2.2.2.2.2.1, x2.2.2.2.2.2.1, x2.2.2.2.2.2.2.1, p2.2.1)) p1 (x7.1, x7.2.1, x7.2.2.1, x7.2.2.2.1, x7.2.2.2.2.1, p2.1, x7.2.2.2.2.2.2.1, x7.2.2.2.2.2.2.2)) p1).bind fun x9 => some (Aw (Aw (Aw p0.1 p1 (x2.1, x2.2.1, x2.2.2.1, x2.2.2.2.1, x2.2.2.2.2.1, x2.2.2.2.2.2.1, x2.2.2.2.2.2.2.1, p2.2.1)) p1 (x7.1, x7.2.1, x7.2.2.1, x7.2.2.2.1, x7.2.2.2.2.1, p2.1, x7.2.2.2.2.2.2.1, x7.2.2.2.2.2.2.2)) p1 (x9.1, x9.2.1, x9.2.2.1, x9.2.2.2.1, x9.2.2.2.2.1, x9.2.2.2.2.2.1, p2.2.2.2.2.1, x9.2.2.2.2.2.2.2)) else some (Aw (Aw p0.1 p1 (x2.1, x2.2.1, x2.2.2.1, x2.2.2.2.1, x2.2.2.2.2.1, x2.2.2.2.2.2.1, x2.2.2.2.2.2.2.1, p2.2.1)) p1 (x7.1, x7.2.1, x7.2.2.1, x7.2.2.2.1, x7.2.2.2.2.1, p2.1, x7.2.2.2.2.2.2.1, x7.2.2.2.2.2.2.2))).bind fun x8 => (ix p0.2.2 p1).bind fun x10 => some (x8, C5 p0.2.1 p2.2.2.1 x10, p0.2.2))
theorem Hb (Y : Nat → Prop) (X : List Nat) (w0 : World) (q_p0 : Nat) (v1 : Value) (m_v2 : Nat) (v3 : Value) (p0 : (List (Int × Int × Int × Int × (Nat × List Int) × Int × Int × Int)) × (List (Int × Int)) × List Int) (p1 : Int) (p2 : Int × Int × Int × Int × Int × Int) (d_v1 : {x : List (Int × Int × Int × Int × (Value × Nat × List Int) × Int × Int × Int) // x.map CI = p0.1}) (r : ((List (Int × Int × Int × Int × (Nat × List Int) × Int × Int × Int)) × (List (Int × Int)) × List Int)) (H : Cc p0 p1 p2 = some r) (hL : Stw ⟨Y, X, w0⟩ [(q_p0, [v1, .map (some m_v2), v3])] [Be v1 78 BZ d_v1.1, row v3 3 (Rp.int .i64) p0.2.2, mp m_v2 BL BL p0.2.1] w0) :
    Calls Try.prog 53 #[.pointer (some ⟨q_p0, 0, none⟩), .int .i64 p1, .agg #[.int .i64 p2.1, .int .i64 p2.2.1, .int .i64 p2.2.2.1, .int .i64 p2.2.2.2.1, .int .i64 p2.2.2.2.2.1, .int .i64 p2.2.2.2.2.2]] w0 fun e w' => ∃ x : Value × ({x : List (Int × Int × Int × Int × (Value × Nat × List Int) × Int × Int × Int) // x.map CI = r.1}) × Value, e = .returned (.tuple #[]) ∧ Stw ⟨Y, X, w0⟩ [(q_p0, [x.1, .map (some m_v2), x.2.2])] [Be (x.1) 78 BZ (x.2.1.1), row (x.2.2) 3 (Rp.int .i64) r.2.2, mp m_v2 BL BL r.2.1] w' := by
 refine enter Try.func53 Aa Try.ntmps53 Aa fun a W => ?_
 have F := hL
 unfold Cc at H
 refine Ai (Ac ?_)
 refine B9 (cs := [.int .i64 p2.1, .int .i64 p2.2.1, .int .i64 p2.2.2.1, .int .i64 p2.2.2.2.1, .int .i64 p2.2.2.2.2.1, .int .i64 p2.2.2.2.2.2]) W F Aa Aa Aa fun b1 a w W F => ?_
 refine Ad (Ab (Ai (Ac ?_)))
 refine ls W F Aa (Ag W Aa).q fun a w W F => ?_
 refine ls W F Aa (B6 W Aa).q fun a w W F => ?_
 refine ls W F Aa (Af II Aa Aa Aa Ob W Aa 0 Aa).q fun a w W F => ?_
 refine ls W F Aa (Am (v := v1) 1 W Aa Aa Ob Aa).q fun a w W F => ?_
 refine ls W F Aa (Ag W Aa).q fun a w W F => ?_
 obtain ⟨x1, h1, H⟩ := An H
 obtain ⟨v4, h2, h3⟩ := Cx (er := CI) d_v1.2 h1
 refine ls W F Aa (Az (r := BZ.hr) PZ W Aa Aa (I5.hd (DW 0 Aa)) h2).q fun a w W F => ?_
 refine ls W F Aa (Ah W Aa).q fun a w W F => ?_
 refine Ad (Ab (Ai (Ac ?_)))
 refine ls W F Aa (Ag W Aa).q fun a w W F => ?_
 refine ls W F Aa (Af Cf Aa Aa Aa T3 W Aa 1 Aa).q fun a w W F => ?_
 refine ls W F Aa (Am (v := Value.int .i64 p2.2.1) 0 W Aa Aa T3 Aa).q fun a w W F => ?_
 refine ls W F Aa (B6 W Aa).q fun a w W F => ?_
 refine ls W F Aa (Af Fk Aa Aa Aa T3 W Aa (Cb v1 + (p1).toNat * 8 + 7) Aa).q fun a w W F => ?_
 obtain ⟨x2, h4, H⟩ := An H
 obtain ⟨v5, h5, h6⟩ := Cx (er := CI) d_v1.2 h4
 refine ET (D := BZ) (i := p1) (j := 7) (vs := [.int .i64 p2.2.1]) (x' := (v5.1, v5.2.1, v5.2.2.1, v5.2.2.2.1, v5.2.2.2.2.1, v5.2.2.2.2.2.1, v5.2.2.2.2.2.2.1, p2.2.1)) W F Aa Aa Aa h5 T3 Aa Aa Aa Aa Aa Aa fun w F => ?_
 have h7 : List.map CI (Aw d_v1.1 p1 (v5.1, v5.2.1, v5.2.2.1, v5.2.2.2.1, v5.2.2.2.2.1, v5.2.2.2.2.2.1, v5.2.2.2.2.2.2.1, p2.2.1)) = (Aw p0.1 p1 (x2.1, x2.2.1, x2.2.2.1, x2.2.2.2.1, x2.2.2.2.2.1, x2.2.2.2.2.2.1, x2.2.2.2.2.2.2.1, p2.2.1)) := (F8 d_v1.2 (congrArg (fun q : Int × Int × Int × Int × (Nat × List Int) × Int × Int × Int => (q.1, q.2.1, q.2.2.1, q.2.2.2.1, q.2.2.2.2.1, q.2.2.2.2.2.1, q.2.2.2.2.2.2.1, p2.2.1)) h6))
 have F : Stw ⟨Y, X, w0⟩ [(b1, [.int .i64 p2.1, .int .i64 p2.2.1, .int .i64 p2.2.2.1, .int .i64 p2.2.2.2.1, .int .i64 p2.2.2.2.2.1, .int .i64 p2.2.2.2.2.2]), (q_p0, [v1, .map (some m_v2), v3])] [Be v1 78 BZ (Aw d_v1.1 p1 (v5.1, v5.2.1, v5.2.2.1, v5.2.2.2.1, v5.2.2.2.2.1, v5.2.2.2.2.2.1, v5.2.2.2.2.2.2.1, p2.2.1)), row v3 3 (Rp.int .i64) p0.2.2, mp m_v2 BL BL p0.2.1] w := F
 refine Ad (Ab (Ai (Ai (Ac ?_))))
 refine ls W F Aa (Af Cf Aa Aa Aa T3 W Aa 0 Aa).q fun a w W F => ?_
 refine ls W F Aa (Am (v := Value.int .i64 p2.1) 0 W Aa Aa T3 Aa).q fun a w W F => ?_
 refine ls W F Aa (Bz W Aa Aa).q fun a w W F => ?_
 refine Ad (Ab ?_)
 refine Ax W Aa (fun hb => ?_) fun hb => ?_
 ·
  have H := AK (Bd hb) H
  rw [hb] at W
  clear hb
  refine Ai ?_
  refine FL [(true, 0), (true, 1), (true, 2), (true, 3), (true, 4), (true, 5), (true, 6), (false, 7), (false, 8), (true, 9), (true, 10), (false, 11)] (CN ⟨Y, X, w0⟩ [(some 7, b1, [.int .i64 p2.1, .int .i64 p2.2.1, .int .i64 p2.2.2.1, .int .i64 p2.2.2.2.1, .int .i64 p2.2.2.2.2.1, .int .i64 p2.2.2.2.2.2])] [(some 8, Be v1 78 BZ (Aw d_v1.1 p1 (v5.1, v5.2.1, v5.2.2.1, v5.2.2.2.1, v5.2.2.2.2.1, v5.2.2.2.2.2.1, v5.2.2.2.2.2.2.1, p2.2.1)))]) (fun ch a d v w h => by cases d <;> exact h) MO (by kernel_rfl) F (fun w F => ⟨_, _, F, (all_cons (fun _ => (.head _)) AQ), (all_cons (fun _ => (.head _)) AQ)⟩) fun w F => ?_
  iterate 2 refine BR (R := []) W Aa Aa (yC fun M Z hN hZ => Ag W Aa) Aa Aa fun a W => ?_
  refine BR (R := []) W Aa Aa (yC fun M Z hN hZ => B6 W Aa) Aa Aa fun a W => ?_
  refine BR (R := []) W Aa Aa (yC fun M Z hN hZ => Af Fk Aa Aa Aa E1 W Aa (Cb v1 + (p1).toNat * 8 + 4) Aa) Aa Aa fun a W => ?_
  obtain ⟨x3, h8, H⟩ := An H
  obtain ⟨v6, h9, h10⟩ := Cx (er := CI) h7 h8
  have h11 : BZ.cells v6 = [.int .i64 x3.1, .int .i64 x3.2.1, .int .i64 x3.2.2.1, .int .i64 x3.2.2.2.1, (v6.2.2.2.2.1.1), .int .i64 x3.2.2.2.2.2.1, .int .i64 x3.2.2.2.2.2.2.1, .int .i64 x3.2.2.2.2.2.2.2] := congrArg (fun q : Int × Int × Int × Int × (Nat × List Int) × Int × Int × Int => ([.int .i64 q.1, .int .i64 q.2.1, .int .i64 q.2.2.1, .int .i64 q.2.2.2.1, (v6.2.2.2.2.1.1), .int .i64 q.2.2.2.2.2.1, .int .i64 q.2.2.2.2.2.2.1, .int .i64 q.2.2.2.2.2.2.2] : List Value)) h10
  refine BR (R := [8]) W Aa Aa (yC fun M Z hN hZ => Aq (y := (v6.2.2.2.2.1.1)) (j := 4) (i := p1) (enc := BZ.cells) W Aa Aa (I5.hd (OU (hZ ((some 8), Be v1 78 BZ (Aw d_v1.1 p1 (v5.1, v5.2.1, v5.2.2.1, v5.2.2.2.1, v5.2.2.2.2.1, v5.2.2.2.2.2.1, v5.2.2.2.2.2.2.1, p2.2.1))) (.head _) Aa))) h9 BZ.flat E1 (by rw [h11]; rfl)) (by kernel_rfl) Aa fun a W => ?_
  refine BR (R := []) W Aa Aa (yC fun M Z hN hZ => Af Cf Aa Aa Aa T3 W Aa 3 Aa) Aa Aa fun a W => ?_
  refine BR (R := [7]) W Aa Aa (yC fun M Z hN hZ => Cl (cs := [.int .i64 p2.1, .int .i64 p2.2.1, .int .i64 p2.2.2.1, .int .i64 p2.2.2.2.1, .int .i64 p2.2.2.2.2.1, .int .i64 p2.2.2.2.2.2]) (v := Value.int .i64 p2.2.2.2.1) W Aa (hN ((some 7), b1, [.int .i64 p2.1, .int .i64 p2.2.1, .int .i64 p2.2.2.1, .int .i64 p2.2.2.2.1, .int .i64 p2.2.2.2.2.1, .int .i64 p2.2.2.2.2.2]) (.head _) Aa) T3 Aa) (by kernel_rfl) Aa fun a W => ?_
  refine FE Aa ?_
  refine Da (z := Value.int .i64 0) (cs := [.int .i64 p2.2.2.2.1]) (Rp.int .i64) ([p2.2.2.2.1] : List Int) W F Aa Hl Z3 Aa Aa Aa Aa Aa Aa (Fl.int.repL _ _ ([p2.2.2.2.1] : List Int)) fun v7 a w W F => ?_
  refine Ce (N2 := []) (NZ2 := []) (N3 := [(some 7, b1, [.int .i64 p2.1, .int .i64 p2.2.1, .int .i64 p2.2.2.1, .int .i64 p2.2.2.2.1, .int .i64 p2.2.2.2.2.1, .int .i64 p2.2.2.2.2.2])]) (NZ3 := [(some 8, Be v1 78 BZ (Aw d_v1.1 p1 (v5.1, v5.2.1, v5.2.2.1, v5.2.2.2.1, v5.2.2.2.2.1, v5.2.2.2.2.2.1, v5.2.2.2.2.2.2.1, p2.2.1)))]) F Aa Aa (all_cons (fun h => Ba (by kernel_rfl) h) AQ) (all_cons (fun _ => (.tail _ (.head _))) AQ) ?_
  refine FE Aa ?_
  obtain ⟨x4, h12, H⟩ := An H
  have F := F.frontZ (i := 1) Aa Aa
  have F := F.dTakeR h9 (Foc.snd (Foc.snd (Foc.snd (Foc.snd (Foc.fst Foc.here))))) ((congrArg (fun q : Int × Int × Int × Int × (Nat × List Int) × Int × Int × Int => q.2.2.2.2.1) h10).trans (Prod.ext (MG h12) Aa))
  have h13 : List.map CI (Aw (Aw d_v1.1 p1 (v5.1, v5.2.1, v5.2.2.1, v5.2.2.2.1, v5.2.2.2.2.1, v5.2.2.2.2.2.1, v5.2.2.2.2.2.2.1, p2.2.1)) p1 (v6.1, v6.2.1, v6.2.2.1, v6.2.2.2.1, ((v6.2.2.2.2.1.1), 0, []), v6.2.2.2.2.2.1, v6.2.2.2.2.2.2.1, v6.2.2.2.2.2.2.2)) = (Aw (Aw p0.1 p1 (x2.1, x2.2.1, x2.2.2.1, x2.2.2.2.1, x2.2.2.2.2.1, x2.2.2.2.2.2.1, x2.2.2.2.2.2.2.1, p2.2.1)) p1 (x3.1, x3.2.1, x3.2.2.1, x3.2.2.2.1, (0, []), x3.2.2.2.2.2.1, x3.2.2.2.2.2.2.1, x3.2.2.2.2.2.2.2)) := (F8 h7 (congrArg (fun q : Int × Int × Int × Int × (Nat × List Int) × Int × Int × Int => (q.1, q.2.1, q.2.2.1, q.2.2.2.1, (0, []), q.2.2.2.2.2.1, q.2.2.2.2.2.2.1, q.2.2.2.2.2.2.2)) h10))
  have F : Stw ⟨Y, X, w0⟩ [(b1, [.int .i64 p2.1, .int .i64 p2.2.1, .int .i64 p2.2.2.1, .int .i64 p2.2.2.2.1, .int .i64 p2.2.2.2.2.1, .int .i64 p2.2.2.2.2.2]), (q_p0, [v1, .map (some m_v2), v3])] [row (v6.2.2.2.2.1.1) 3 (Rp.int .i64) x3.2.2.2.2.1.2, Be v1 78 BZ (Aw (Aw d_v1.1 p1 (v5.1, v5.2.1, v5.2.2.1, v5.2.2.2.1, v5.2.2.2.2.1, v5.2.2.2.2.2.1, v5.2.2.2.2.2.2.1, p2.2.1)) p1 (v6.1, v6.2.1, v6.2.2.1, v6.2.2.2.1, ((v6.2.2.2.2.1.1), 0, []), v6.2.2.2.2.2.1, v6.2.2.2.2.2.2.1, v6.2.2.2.2.2.2.2)), row v7 3 (Rp.int .i64) ([p2.2.2.2.1] : List Int), row v3 3 (Rp.int .i64) p0.2.2, mp m_v2 BL BL p0.2.1] w := F
  obtain ⟨x5, h14, H⟩ := An H
  refine Cg (r := (Rp.int .i64)) (i := 0) W F Aa Hl Aa Aa Aa Aa (CE F 2 Aa) h14 Aa fun v8 a w W F => ?_
  have F : Stw ⟨Y, X, w0⟩ [(b1, [.int .i64 p2.1, .int .i64 p2.2.1, .int .i64 p2.2.2.1, .int .i64 p2.2.2.2.1, .int .i64 p2.2.2.2.2.1, .int .i64 p2.2.2.2.2.2]), (q_p0, [v1, .map (some m_v2), v3])] [row v8 3 (Rp.int .i64) x5, Be v1 78 BZ (Aw (Aw d_v1.1 p1 (v5.1, v5.2.1, v5.2.2.1, v5.2.2.2.1, v5.2.2.2.2.1, v5.2.2.2.2.2.1, v5.2.2.2.2.2.2.1, p2.2.1)) p1 (v6.1, v6.2.1, v6.2.2.1, v6.2.2.2.1, ((v6.2.2.2.2.1.1), 0, []), v6.2.2.2.2.2.1, v6.2.2.2.2.2.2.1, v6.2.2.2.2.2.2.2)), row v7 3 (Rp.int .i64) ([p2.2.2.2.1] : List Int), row v3 3 (Rp.int .i64) p0.2.2, mp m_v2 BL BL p0.2.1] w := F
  refine Ce (N2 := []) (NZ2 := []) (N3 := [(some 7, b1, [.int .i64 p2.1, .int .i64 p2.2.1, .int .i64 p2.2.2.1, .int .i64 p2.2.2.2.1, .int .i64 p2.2.2.2.2.1, .int .i64 p2.2.2.2.2.2])]) (NZ3 := [(some 8, Be v1 78 BZ (Aw d_v1.1 p1 (v5.1, v5.2.1, v5.2.2.1, v5.2.2.2.1, v5.2.2.2.2.1, v5.2.2.2.2.2.1, v5.2.2.2.2.2.2.1, p2.2.1)))]) F Aa Aa (all_cons (fun h => Ba (by kernel_rfl) h) AQ) (all_cons (fun h => Ba (by kernel_rfl) h) AQ) ?_
  refine BR (R := []) W Aa Aa (yC fun M Z hN hZ => B6 W Aa) Aa Aa fun a W => ?_
  refine BR (R := []) W Aa Aa (yC fun M Z hN hZ => Af Fk Aa Aa Aa E1 W Aa (Cb v1 + (p1).toNat * 8 + 4) Aa) Aa Aa fun a W => ?_
  refine FE Aa ?_
  obtain ⟨x6, h15, H⟩ := An H
  obtain ⟨v9, h16, h17⟩ := Cx (er := CI) h13 h15
  have h18 : Value.oneCell' v8 = true := (F.one (k := 0) Aa)
  have F := F.frontZ (i := 1) Aa Aa
  have F := F.frontZ (i := 1) Aa Aa
  have F := F.toR
  refine Jr (D := BZ) (S := (Dp.sl 3 (Rp.int .i64))) (b := (v8, 2, x5)) (i := p1) (j := 4) (Foc.snd (Foc.snd (Foc.snd (Foc.snd (Foc.fst Foc.here))))) W F Aa Aa Aa h16 E1 (DB h18) Aa h18 Aa fun w F => ?_
  have h19 : List.map CI (Aw (Aw (Aw d_v1.1 p1 (v5.1, v5.2.1, v5.2.2.1, v5.2.2.2.1, v5.2.2.2.2.1, v5.2.2.2.2.2.1, v5.2.2.2.2.2.2.1, p2.2.1)) p1 (v6.1, v6.2.1, v6.2.2.1, v6.2.2.2.1, ((v6.2.2.2.2.1.1), 0, []), v6.2.2.2.2.2.1, v6.2.2.2.2.2.2.1, v6.2.2.2.2.2.2.2)) p1 (v9.1, v9.2.1, v9.2.2.1, v9.2.2.2.1, (v8, 2, x5), v9.2.2.2.2.2.1, v9.2.2.2.2.2.2.1, v9.2.2.2.2.2.2.2)) = (Aw (Aw (Aw p0.1 p1 (x2.1, x2.2.1, x2.2.2.1, x2.2.2.2.1, x2.2.2.2.2.1, x2.2.2.2.2.2.1, x2.2.2.2.2.2.2.1, p2.2.1)) p1 (x3.1, x3.2.1, x3.2.2.1, x3.2.2.2.1, (0, []), x3.2.2.2.2.2.1, x3.2.2.2.2.2.2.1, x3.2.2.2.2.2.2.2)) p1 (x6.1, x6.2.1, x6.2.2.1, x6.2.2.2.1, (2, x5), x6.2.2.2.2.2.1, x6.2.2.2.2.2.2.1, x6.2.2.2.2.2.2.2)) := (F8 h13 (congrArg (fun q : Int × Int × Int × Int × (Nat × List Int) × Int × Int × Int => (q.1, q.2.1, q.2.2.1, q.2.2.2.1, (2, x5), q.2.2.2.2.2.1, q.2.2.2.2.2.2.1, q.2.2.2.2.2.2.2)) h17))
  have F : Stw ⟨Y, X, w0⟩ [(b1, [.int .i64 p2.1, .int .i64 p2.2.1, .int .i64 p2.2.2.1, .int .i64 p2.2.2.2.1, .int .i64 p2.2.2.2.2.1, .int .i64 p2.2.2.2.2.2]), (q_p0, [v1, .map (some m_v2), v3])] [Be v1 78 BZ (Aw (Aw (Aw d_v1.1 p1 (v5.1, v5.2.1, v5.2.2.1, v5.2.2.2.1, v5.2.2.2.2.1, v5.2.2.2.2.2.1, v5.2.2.2.2.2.2.1, p2.2.1)) p1 (v6.1, v6.2.1, v6.2.2.1, v6.2.2.2.1, ((v6.2.2.2.2.1.1), 0, []), v6.2.2.2.2.2.1, v6.2.2.2.2.2.2.1, v6.2.2.2.2.2.2.2)) p1 (v9.1, v9.2.1, v9.2.2.1, v9.2.2.2.1, (v8, 2, x5), v9.2.2.2.2.2.1, v9.2.2.2.2.2.2.1, v9.2.2.2.2.2.2.2)), row v7 3 (Rp.int .i64) ([p2.2.2.2.1] : List Int), row v3 3 (Rp.int .i64) p0.2.2, mp m_v2 BL BL p0.2.1] w := F
  refine Ce (N2 := []) (NZ2 := []) (N3 := [(some 7, b1, [.int .i64 p2.1, .int .i64 p2.2.1, .int .i64 p2.2.2.1, .int .i64 p2.2.2.2.1, .int .i64 p2.2.2.2.2.1, .int .i64 p2.2.2.2.2.2])]) (NZ3 := [(some 8, Be v1 78 BZ (Aw d_v1.1 p1 (v5.1, v5.2.1, v5.2.2.1, v5.2.2.2.1, v5.2.2.2.2.1, v5.2.2.2.2.2.1, v5.2.2.2.2.2.2.1, p2.2.1)))]) F Aa Aa (all_cons (fun h => Ba (by kernel_rfl) h) AQ) (all_cons (fun h => Ba (by kernel_rfl) h) AQ) ?_
  refine Hs (Ab (AA (AD ?_)))
  have H := AN H
  subst H
  refine GF (.inl Aa) W Aa ?_
  have F := F.frontZ (i := 3) Aa Aa
  have F := F.frontZ (i := 3) Aa Aa
  have F := F.frontZ (i := 2) Aa Aa
  have F := F.frontM (i := 1) Aa Aa
  have F := F.sub (M' := [(q_p0, [v1, .map (some m_v2), v3])]) (Z' := [Be v1 78 BZ (Aw (Aw (Aw d_v1.1 p1 (v5.1, v5.2.1, v5.2.2.1, v5.2.2.2.1, v5.2.2.2.2.1, v5.2.2.2.2.2.1, v5.2.2.2.2.2.2.1, p2.2.1)) p1 (v6.1, v6.2.1, v6.2.2.1, v6.2.2.2.1, ((v6.2.2.2.2.1.1), 0, []), v6.2.2.2.2.2.1, v6.2.2.2.2.2.2.1, v6.2.2.2.2.2.2.2)) p1 (v9.1, v9.2.1, v9.2.2.1, v9.2.2.2.1, (v8, 2, x5), v9.2.2.2.2.2.1, v9.2.2.2.2.2.2.1, v9.2.2.2.2.2.2.2)), row v3 3 (Rp.int .i64) p0.2.2, mp m_v2 BL BL p0.2.1]) (List.Sublist.cons_cons _ (List.nil_sublist _)) (List.Sublist.cons_cons _ (List.Sublist.cons_cons _ (List.Sublist.cons_cons _ (List.nil_sublist _))))
  exact ⟨((v1), ⟨(Aw (Aw (Aw d_v1.1 p1 (v5.1, v5.2.1, v5.2.2.1, v5.2.2.2.1, v5.2.2.2.2.1, v5.2.2.2.2.2.1, v5.2.2.2.2.2.2.1, p2.2.1)) p1 (v6.1, v6.2.1, v6.2.2.1, v6.2.2.2.1, ((v6.2.2.2.2.1.1), 0, []), v6.2.2.2.2.2.1, v6.2.2.2.2.2.2.1, v6.2.2.2.2.2.2.2)) p1 (v9.1, v9.2.1, v9.2.2.1, v9.2.2.2.1, (v8, 2, x5), v9.2.2.2.2.2.1, v9.2.2.2.2.2.2.1, v9.2.2.2.2.2.2.2)), h19⟩, (v3)), Aa, F⟩
 have H := AL (Bc hb) H
 rw [hb] at W
 clear hb
 refine Ap (Ab (Ai (Ac ?_)))
 refine ls W F Aa (Ag W Aa).q fun a w W F => ?_
 refine ls W F Aa (Af Cf Aa Aa Aa T3 W Aa 0 Aa).q fun a w W F => ?_
 refine ls W F Aa (Am (v := Value.int .i64 p2.1) 0 W Aa Aa T3 Aa).q fun a w W F => ?_
 refine ls W F Aa (B6 W Aa).q fun a w W F => ?_
 refine ls W F Aa (Af Fk Aa Aa Aa T3 W Aa (Cb v1 + (p1).toNat * 8 + 5) Aa).q fun a w W F => ?_
 obtain ⟨x7, h20, H⟩ := An H
 obtain ⟨v10, h21, h22⟩ := Cx (er := CI) h7 h20
 refine ET (D := BZ) (i := p1) (j := 5) (vs := [.int .i64 p2.1]) (x' := (v10.1, v10.2.1, v10.2.2.1, v10.2.2.2.1, v10.2.2.2.2.1, p2.1, v10.2.2.2.2.2.2.1, v10.2.2.2.2.2.2.2)) W F Aa Aa Aa h21 T3 Aa Aa Aa Aa Aa Aa fun w F => ?_
 have h23 : List.map CI (Aw (Aw d_v1.1 p1 (v5.1, v5.2.1, v5.2.2.1, v5.2.2.2.1, v5.2.2.2.2.1, v5.2.2.2.2.2.1, v5.2.2.2.2.2.2.1, p2.2.1)) p1 (v10.1, v10.2.1, v10.2.2.1, v10.2.2.2.1, v10.2.2.2.2.1, p2.1, v10.2.2.2.2.2.2.1, v10.2.2.2.2.2.2.2)) = (Aw (Aw p0.1 p1 (x2.1, x2.2.1, x2.2.2.1, x2.2.2.2.1, x2.2.2.2.2.1, x2.2.2.2.2.2.1, x2.2.2.2.2.2.2.1, p2.2.1)) p1 (x7.1, x7.2.1, x7.2.2.1, x7.2.2.2.1, x7.2.2.2.2.1, p2.1, x7.2.2.2.2.2.2.1, x7.2.2.2.2.2.2.2)) := (F8 h7 (congrArg (fun q : Int × Int × Int × Int × (Nat × List Int) × Int × Int × Int => (q.1, q.2.1, q.2.2.1, q.2.2.2.1, q.2.2.2.2.1, p2.1, q.2.2.2.2.2.2.1, q.2.2.2.2.2.2.2)) h22))
 have F : Stw ⟨Y, X, w0⟩ [(b1, [.int .i64 p2.1, .int .i64 p2.2.1, .int .i64 p2.2.2.1, .int .i64 p2.2.2.2.1, .int .i64 p2.2.2.2.2.1, .int .i64 p2.2.2.2.2.2]), (q_p0, [v1, .map (some m_v2), v3])] [Be v1 78 BZ (Aw (Aw d_v1.1 p1 (v5.1, v5.2.1, v5.2.2.1, v5.2.2.2.1, v5.2.2.2.2.1, v5.2.2.2.2.2.1, v5.2.2.2.2.2.2.1, p2.2.1)) p1 (v10.1, v10.2.1, v10.2.2.1, v10.2.2.2.1, v10.2.2.2.2.1, p2.1, v10.2.2.2.2.2.2.1, v10.2.2.2.2.2.2.2)), row v3 3 (Rp.int .i64) p0.2.2, mp m_v2 BL BL p0.2.1] w := F
 refine Ad (Ab ?_)
 obtain ⟨o1, G1, K1⟩ := An H
 refine AB (fun a w => ∃ x8 : List (Int × Int × Int × Int × (Nat × List Int) × Int × Int × Int), ∃ g_x8 : {x : List (Int × Int × Int × Int × (Value × Nat × List Int) × Int × Int × Int) // x.map CI = x8}, some (x8) = some o1 ∧ Fr 58 [] [(0, .pointer (some ⟨q_p0, 0, none⟩)), (1, .int .i64 p1), (5, .pointer (some ⟨b1, 0, none⟩))] a ∧ Stw ⟨Y, X, w0⟩ [(b1, [.int .i64 p2.1, .int .i64 p2.2.1, .int .i64 p2.2.2.1, .int .i64 p2.2.2.2.1, .int .i64 p2.2.2.2.2.1, .int .i64 p2.2.2.2.2.2]), (q_p0, [v1, .map (some m_v2), v3])] [Be v1 78 BZ g_x8.1, row v3 3 (Rp.int .i64) p0.2.2, mp m_v2 BL BL p0.2.1] w) ?_ ?_
 ·
  have H := G1
  clear G1 K1
  refine Ai (Ac ?_)
  refine ls W F Aa (Af Cf Aa Aa Aa T3 W Aa 0 Aa).q fun a w W F => ?_
  refine ls W F Aa (Am (v := Value.int .i64 p2.1) 0 W Aa Aa T3 Aa).q fun a w W F => ?_
  refine ls W F Aa (Bz W Aa Aa).q fun a w W F => ?_
  refine Ad (Ab ?_)
  refine Ax W Aa (fun hb => ?_) fun hb => ?_
  ·
   have H := AK (Bd hb) H
   rw [hb] at W
   clear hb
   refine Ac ?_
   refine ls W F Aa (Ag W Aa).q fun a w W F => ?_
   refine ls W F Aa (Af Cf Aa Aa Aa T3 W Aa 4 Aa).q fun a w W F => ?_
   refine ls W F Aa (Am (v := Value.int .i64 p2.2.2.2.2.1) 0 W Aa Aa T3 Aa).q fun a w W F => ?_
   refine ls W F Aa (B6 W Aa).q fun a w W F => ?_
   refine ls W F Aa (Af Fk Aa Aa Aa T3 W Aa (Cb v1 + (p1).toNat * 8 + 6) Aa).q fun a w W F => ?_
   obtain ⟨x9, h24, H⟩ := An H
   obtain ⟨v11, h25, h26⟩ := Cx (er := CI) h23 h24
   refine ET (D := BZ) (i := p1) (j := 6) (vs := [.int .i64 p2.2.2.2.2.1]) (x' := (v11.1, v11.2.1, v11.2.2.1, v11.2.2.2.1, v11.2.2.2.2.1, v11.2.2.2.2.2.1, p2.2.2.2.2.1, v11.2.2.2.2.2.2.2)) W F Aa Aa Aa h25 T3 Aa Aa Aa Aa Aa Aa fun w F => ?_
   have h27 : List.map CI (Aw (Aw (Aw d_v1.1 p1 (v5.1, v5.2.1, v5.2.2.1, v5.2.2.2.1, v5.2.2.2.2.1, v5.2.2.2.2.2.1, v5.2.2.2.2.2.2.1, p2.2.1)) p1 (v10.1, v10.2.1, v10.2.2.1, v10.2.2.2.1, v10.2.2.2.2.1, p2.1, v10.2.2.2.2.2.2.1, v10.2.2.2.2.2.2.2)) p1 (v11.1, v11.2.1, v11.2.2.1, v11.2.2.2.1, v11.2.2.2.2.1, v11.2.2.2.2.2.1, p2.2.2.2.2.1, v11.2.2.2.2.2.2.2)) = (Aw (Aw (Aw p0.1 p1 (x2.1, x2.2.1, x2.2.2.1, x2.2.2.2.1, x2.2.2.2.2.1, x2.2.2.2.2.2.1, x2.2.2.2.2.2.2.1, p2.2.1)) p1 (x7.1, x7.2.1, x7.2.2.1, x7.2.2.2.1, x7.2.2.2.2.1, p2.1, x7.2.2.2.2.2.2.1, x7.2.2.2.2.2.2.2)) p1 (x9.1, x9.2.1, x9.2.2.1, x9.2.2.2.1, x9.2.2.2.2.1, x9.2.2.2.2.2.1, p2.2.2.2.2.1, x9.2.2.2.2.2.2.2)) := (F8 h23 (congrArg (fun q : Int × Int × Int × Int × (Nat × List Int) × Int × Int × Int => (q.1, q.2.1, q.2.2.1, q.2.2.2.1, q.2.2.2.2.1, q.2.2.2.2.2.1, p2.2.2.2.2.1, q.2.2.2.2.2.2.2)) h26))
   have F : Stw ⟨Y, X, w0⟩ [(b1, [.int .i64 p2.1, .int .i64 p2.2.1, .int .i64 p2.2.2.1, .int .i64 p2.2.2.2.1, .int .i64 p2.2.2.2.2.1, .int .i64 p2.2.2.2.2.2]), (q_p0, [v1, .map (some m_v2), v3])] [Be v1 78 BZ (Aw (Aw (Aw d_v1.1 p1 (v5.1, v5.2.1, v5.2.2.1, v5.2.2.2.1, v5.2.2.2.2.1, v5.2.2.2.2.2.1, v5.2.2.2.2.2.2.1, p2.2.1)) p1 (v10.1, v10.2.1, v10.2.2.1, v10.2.2.2.1, v10.2.2.2.2.1, p2.1, v10.2.2.2.2.2.2.1, v10.2.2.2.2.2.2.2)) p1 (v11.1, v11.2.1, v11.2.2.1, v11.2.2.2.1, v11.2.2.2.2.1, v11.2.2.2.2.2.1, p2.2.2.2.2.1, v11.2.2.2.2.2.2.2)), row v3 3 (Rp.int .i64) p0.2.2, mp m_v2 BL BL p0.2.1] w := F
   refine Ad (Ab ?_)
   have F := F.frontZ (i := 2) Aa Aa
   have F := F.frontZ (i := 2) Aa Aa
   have F := F.frontZ (i := 2) Aa Aa
   have F := F.frontM (i := 1) Aa Aa
   have F := F.frontM (i := 1) Aa Aa
   exact ⟨_, ⟨(Aw (Aw (Aw d_v1.1 p1 (v5.1, v5.2.1, v5.2.2.1, v5.2.2.2.1, v5.2.2.2.2.1, v5.2.2.2.2.2.1, v5.2.2.2.2.2.2.1, p2.2.1)) p1 (v10.1, v10.2.1, v10.2.2.1, v10.2.2.2.1, v10.2.2.2.2.1, p2.1, v10.2.2.2.2.2.2.1, v10.2.2.2.2.2.2.2)) p1 (v11.1, v11.2.1, v11.2.2.1, v11.2.2.2.1, v11.2.2.2.2.1, v11.2.2.2.2.2.1, p2.2.2.2.2.1, v11.2.2.2.2.2.2.2)), h27⟩, H, W.re ⟨rfl, Aa, Aa, trivial⟩, F⟩
  have H := AL (Bc hb) H
  rw [hb] at W
  clear hb
  refine Ap (Ab ?_)
  have F := F.frontZ (i := 2) Aa Aa
  have F := F.frontZ (i := 2) Aa Aa
  have F := F.frontZ (i := 2) Aa Aa
  have F := F.frontM (i := 1) Aa Aa
  have F := F.frontM (i := 1) Aa Aa
  exact ⟨_, ⟨(Aw (Aw d_v1.1 p1 (v5.1, v5.2.1, v5.2.2.1, v5.2.2.2.1, v5.2.2.2.2.1, v5.2.2.2.2.2.1, v5.2.2.2.2.2.2.1, p2.2.1)) p1 (v10.1, v10.2.1, v10.2.2.1, v10.2.2.2.1, v10.2.2.2.2.1, p2.1, v10.2.2.2.2.2.2.1, v10.2.2.2.2.2.2.2)), h23⟩, H, W.re ⟨rfl, Aa, Aa, trivial⟩, F⟩
 rintro a w ⟨x8, g_x8, hj, W, F⟩
 have hj := AN hj
 subst hj
 have H := K1
 clear G1 K1
 refine I7 13 F MO (by kernel_rfl) ?_
 refine qs W Aa (Ag W Aa).q fun a W => ?_
 refine qs W Aa (B6 W Aa).q fun a W => ?_
 refine qs W Aa (Af II Aa Aa Aa OL W Aa 1 Aa).q fun a W => ?_
 refine qs W Aa (Am (v := Value.map (some m_v2)) 1 W Aa Aa OL Aa).q fun a W => ?_
 refine qs W Aa (Af Cf Aa Aa Aa T3 W Aa 2 Aa).q fun a W => ?_
 refine qs W Aa (Am (v := Value.int .i64 p2.2.2.1) 0 W Aa Aa T3 Aa).q fun a W => ?_
 refine qs W Aa (Ag W Aa).q fun a W => ?_
 refine qs W Aa (B6 W Aa).q fun a W => ?_
 refine qs W Aa (Af II Aa Aa Aa E1 W Aa 2 Aa).q fun a W => ?_
 refine qs W Aa (Am (v := v3) 1 W Aa Aa E1 Aa).q fun a W => ?_
 refine qs W Aa (Ag W Aa).q fun a W => ?_
 obtain ⟨x10, h28, H⟩ := An H
 refine qs W Aa (Az (r := (Rp.int .i64)) Hl W Aa Aa (AE 1 Aa) h28).q fun a W => ?_
 refine qs W Aa (Aq (y := Value.int .i64 x10) (j := 0) (i := p1) W Aa Aa (AE 1 Aa) h28 Fl.int.to T3 Aa).q fun a W => ?_
 refine AX fun w F => ?_
 refine GN (q := 2) (kx := (p2.2.2.1 : Int)) (vx := (x10 : Int)) (E := BL) (V := BL) W F Aa Aa Aa Aa Aa PB N1 fun w F => ?_
 have F : Stw ⟨Y, X, w0⟩ [(b1, [.int .i64 p2.1, .int .i64 p2.2.1, .int .i64 p2.2.2.1, .int .i64 p2.2.2.2.1, .int .i64 p2.2.2.2.2.1, .int .i64 p2.2.2.2.2.2]), (q_p0, [v1, .map (some m_v2), v3])] [mp m_v2 BL BL (C5 p0.2.1 p2.2.2.1 x10), Be v1 78 BZ g_x8.1, row v3 3 (Rp.int .i64) p0.2.2] w := F
 refine Ad ?_
 have H := AN H
 subst H
 refine GF (.inr Aa) W Aa ?_
 have F := F.frontZ (i := 2) Aa Aa
 have F := F.frontZ (i := 2) Aa Aa
 have F := F.frontM (i := 1) Aa Aa
 have F := F.sub (M' := [(q_p0, [v1, .map (some m_v2), v3])]) (Z' := [Be v1 78 BZ g_x8.1, row v3 3 (Rp.int .i64) p0.2.2, mp m_v2 BL BL (C5 p0.2.1 p2.2.2.1 x10)]) (List.Sublist.cons_cons _ (List.nil_sublist _)) (List.Sublist.refl _)
 exact ⟨((v1), ⟨g_x8.1, g_x8.2⟩, (v3)), Aa, F⟩
end Go.Proofs.Ytflaelbmglmmcaa
