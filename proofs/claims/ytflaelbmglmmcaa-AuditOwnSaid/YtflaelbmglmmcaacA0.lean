/- The functions of layer 42, EK. Conditions: none. -/
import Derived.Test.YtflaelbmglmmcaaRows
import Derived.Test.YtflaelbmglmmcaacOT
import Derived.Test.YtflaelbmglmmcaacQT
import Derived.Test.YtflaelbmglmmcaacOD
import Derived.Test.YtflaelbmglmmcaacRF
import Derived.Test.YtflaelbmglmmcaacOC
import Derived.Test.YtflaelbmglmmcaacOM
import Derived.Test.YtflaelbmglmmcaacRF
import Derived.Test.YtflaelbmglmmcaacDR
import Derived.Test.YtflaelbmglmmcaacOX
namespace Go.Proofs.Ytflaelbmglmmcaa
open Go Go.RowKit
set_option linter.unusedVariables false
set_option linter.unusedSimpArgs false
set_option maxRecDepth 20000
theorem MS : type_of% Try.underlying3 := Try.underlying3
theorem J9 : type_of% Try.underlying23 := Try.underlying23
theorem FM : type_of% Try.underlying25 := Try.underlying25
theorem M0 : type_of% Try.underlying26 := Try.underlying26
theorem Km : type_of% Try.underlying27 := Try.underlying27
theorem La : type_of% Try.underlying38 := Try.underlying38
theorem Ds : type_of% Try.underlying48 := Try.underlying48
theorem Lt : type_of% Try.underlying52 := Try.underlying52
theorem Gn : type_of% Try.underlying54 := Try.underlying54
theorem MF : type_of% Try.underlying60 := Try.underlying60
abbrev Ef : Rp (Int × Int × Int × Int × Int × Int) := (Rp.pair (Rp.int .i64) (Rp.pair (Rp.int .i64) (Rp.pair (Rp.int .i64) (Rp.pair (Rp.int .i64) (Rp.pair (Rp.int .i64) (Rp.int .i64))))))
theorem O5 : Bt Try.prog 60 [.int .i64 0, .int .i64 0] [(0, 1), (1, 1)] := ⟨⟨.agg #[.int .i64 0, .int .i64 0], by kernel_rfl, rfl⟩, ⟨_, MF, fun w => by kernel_rfl⟩⟩
theorem O3 : (Try.prog.info? 60).bind (·.zero) = some (.agg #[.int .i64 0, .int .i64 0]) := by kernel_rfl
abbrev FI : Rp (Int × Int) := (Rp.pair (Rp.int .i64) (Rp.int .i64))
def Py (a : Int × Int) : List Value := [.int .i64 a.1, .int .i64 a.2]
theorem OI : Fl FI Py := (Fl.pair Fl.int Fl.int)
theorem OE : Et Try.prog 23 60 2 16 := Et.of J9 (by kernel_rfl) (by kernel_rfl) (by kernel_rfl) (by decide)
theorem Pi : Bt Try.prog 25 [.int .i64 0, .slice none 0 0, .slice none 0 0] [(0, 1), (1, 1), (2, 1)] := ⟨⟨.agg #[.int .i64 0, .slice none 0 0, .slice none 0 0], by kernel_rfl, rfl⟩, ⟨_, FM, fun w => by kernel_rfl⟩⟩
theorem Pw : (Try.prog.info? 25).bind (·.zero) = some (.agg #[.int .i64 0, .slice none 0 0, .slice none 0 0]) := by kernel_rfl
theorem JQ : Ty Try.prog 25 true 3 := ⟨by kernel_rfl, by kernel_rfl⟩
theorem Z3 : (Try.prog.info? 3).bind (·.zero) = some (.int .i64 0) := by kernel_rfl
theorem Jy : Et Try.prog 54 3 1 8 := Et.of Gn (by kernel_rfl) (by kernel_rfl) (by kernel_rfl) (by decide)
theorem PZ : (Try.prog.info? 54).bind (·.zero) = some (.slice none 0 0) := by kernel_rfl
theorem NY : Et Try.prog 52 54 1 24 := Et.of Lt (by kernel_rfl) (by kernel_rfl) (by kernel_rfl) (by decide)
theorem PP : (Try.prog.info? 52).bind (·.zero) = some (.slice none 0 0) := by kernel_rfl
theorem OZ : Et Try.prog 26 52 1 24 := Et.of M0 (by kernel_rfl) (by kernel_rfl) (by kernel_rfl) (by decide)
theorem NK : Bt Try.prog 48 [.int .i64 0, .int .i64 0, .int .i64 0, .int .i64 0, .int .i64 0, .int .i64 0] [(0, 1), (1, 1), (2, 1), (3, 1), (4, 1), (5, 1)] := ⟨⟨.agg #[.int .i64 0, .int .i64 0, .int .i64 0, .int .i64 0, .int .i64 0, .int .i64 0], by kernel_rfl, rfl⟩, ⟨_, Ds, fun w => by kernel_rfl⟩⟩
theorem Ny : (Try.prog.info? 48).bind (·.zero) = some (.agg #[.int .i64 0, .int .i64 0, .int .i64 0, .int .i64 0, .int .i64 0, .int .i64 0]) := by kernel_rfl
def PV (a : Int × Int × Int × Int × Int × Int) : List Value := [.int .i64 a.1, .int .i64 a.2.1, .int .i64 a.2.2.1, .int .i64 a.2.2.2.1, .int .i64 a.2.2.2.2.1, .int .i64 a.2.2.2.2.2]
theorem Lx : Fl Ef PV := (Fl.pair Fl.int (Fl.pair Fl.int (Fl.pair Fl.int (Fl.pair Fl.int (Fl.pair Fl.int Fl.int)))))
theorem J4 : Et Try.prog 27 48 6 48 := Et.of Km (by kernel_rfl) (by kernel_rfl) (by kernel_rfl) (by decide)
abbrev D6 : Rp (Int × Int × Int × Int × Int × Int) := (Rp.pair (Rp.int .i64) (Rp.pair (Rp.int .i64) (Rp.pair (Rp.int .i64) (Rp.pair (Rp.int .i64) (Rp.pair (Rp.int .i64) (Rp.int .i64))))))
abbrev Ol (p : Value × List Int) : List Int := p.2
theorem F8 : Ex (Rp.slice (Rp.int .i64)) (Rp.vsl (Rp.int .i64)) Ol := Ex.sliceF
abbrev OJ (p : Value × List (Value × List Int)) : List (List Int) := (p.2.map Ol)
theorem Ir : Ex (Rp.slice (Rp.slice (Rp.int .i64))) (Rp.vsl (Rp.vsl (Rp.int .i64))) OJ := (Ex.slice F8)
theorem OB : (Try.prog.info? 70).bind (·.zero) = some (.agg #[.slice none 0 0, .slice none 0 0]) := by kernel_rfl
theorem PC : (Try.prog.info? 30).bind (·.zero) = some (.slice none 0 0) := by kernel_rfl
abbrev Bo (x : Int) : Value := .int .i64 x
theorem PY : (Try.prog.info? 61).bind (·.zero) = some (.map none) := by kernel_rfl
theorem Nb : Ty Try.prog 61 false 1 := ⟨by kernel_rfl, by kernel_rfl⟩
theorem Ow : Ty Try.prog 27 false 1 := ⟨by kernel_rfl, by kernel_rfl⟩
theorem OM (Y : Nat → Prop) (w0 : World) (v : Value) (h1 : v.oneCell' = true) : Calls Try.prog 23 [v].toArray w0 fun e w' => ∃ b, e = .returned (.func (.func 39) #[] #[.pointer (some ⟨b, 0, none⟩)]) ∧ Stw ⟨Y, [], w0⟩ [(b, [v])] [] w' := by
 refine enter Try.func23 Aa Try.ntmps23 Aa fun a W => ?_
 have F := Stw.start Y w0
 refine Ah (Ab ?_)
 refine Cx (cs := [v]) W F Aa Aa (Dg h1) fun b1 a w W F => ?_
 refine ls W F Aa (Ae W Aa).q fun a w W F => ?_
 refine Ad (Ac (Ah (Ab ?_)))
 refine ls W F Aa (Gg (us := []) (vs := [.pointer (some ⟨b1, 0, none⟩)]) W Aa Aa).q fun a w W F => ?_
 refine ls W F Aa (Ae W Aa).q fun a w W F => ?_
 refine Ad (Ac (AB ?_))
 refine Be (.inl Aa) W F Aa (Aw W Aa) ?_
 exact ⟨b1, Aa, F⟩
theorem PD : Has Try.prog 23 := ⟨fun args w => Aj Try.func23 rfl (by decide) args w⟩
theorem LL : Ty Try.prog 48 true 6 := ⟨by kernel_rfl, by kernel_rfl⟩
theorem Pm (b : Nat) (v : Value) (l : List (Int × Int × Int × Int × Int × Int)) (hn : l.length ≤ 1000000000) :
    ND Try.prog 39 [.pointer (some ⟨b, 0, none⟩)] (NU b v Ef l) (Hz l) (fun p => [.int .i64 p.1, Value.agg #[.int .i64 p.2.1, .int .i64 p.2.2.1, .int .i64 p.2.2.2.1, .int .i64 p.2.2.2.2.1, .int .i64 p.2.2.2.2.2.1, .int .i64 p.2.2.2.2.2.2]]) := by
 intro y K Kx w0 hB hR hY h0
 refine enter (args := [.func (.yield y) #[] #[], .pointer (some ⟨b, 0, none⟩)]) Try.func39 Aa Try.ntmps39 Aa fun a W => ?_
 refine Ah (Ab ?_)
 have F := Stw.start any w0
 have hr := hR _ _ h0
 refine ls W F Aa (HJ (cs := [v]) (v := v) hr.1 (by simp) W Aa Ow Aa).q fun a w W F => ?_
 refine ls W F Aa (Bl (r := Ef) (l := l) Km Aa W Aa (Ak hr.2.nx)).q fun a w W F => ?_
 refine ls W F Aa (IP (r := (l.length : Int) - 1) W Aa Aa (Jo hn)).q fun a w W F => ?_
 refine ls W F Aa (Ae W Aa).q fun a w W F => ?_
 refine Ad (Ac ?_)
 have hK := hB _ _ _ h0 F.frm.below
 have W : Fr 19 [] [(0, .func (.yield y) #[] #[]), (1, .pointer (some ⟨b, 0, none⟩)), (3, .int .i64 ((l.length : Int) - 1))] a := W.re ⟨rfl, Aa, Aa, trivial⟩
 clear F hr h0
 have hl : l.take l.length = l := List.take_length
 rw [← hl] at hK
 refine Ax ?_
 refine Fb (fun m a w => m ≤ l.length ∧ Fr 19 [] [(0, .func (.yield y) #[] #[]), (1, .pointer (some ⟨b, 0, none⟩)), (3, .int .i64 ((m : Int) - 1))] a ∧ K (Hz (l.take m)) w) l.length ⟨Nat.le_refl _, W, hK⟩ ?_
 clear W hK w
 rintro m a w ⟨hm, W, hK⟩
 have F := Stw.start any w
 have hr := hR _ _ hK
 refine Ah (Ah (Ab ?_))
 refine ls W F Aa (Ag W Aa).q fun a w1 W F => ?_
 refine ls W F Aa (E0 W Aa Aa).q fun a w1 W F => ?_
 refine Ad (Ac ?_)
 cases m with
 | zero =>
  refine GE W Aa ?_
  refine BH ?_
  iterate 2 refine Cj ?_
  refine BI ?_
  exact FF (.inr Aa) (W.re (F' := []) trivial) Aa ⟨⟨_, Aa⟩, .inl (hB _ _ _ hK F.frm.below)⟩
 | succ k =>
  refine GF W (by show some (Value.bool (decide ((0 : Int) ≤ (k + 1 : Nat) - 1))) = some (Value.bool true); rw [decide_eq_true (by omega)]) ?_
  have hk : k < l.length := hm
  have hx : ix l (k : Int) = some l[k] := by unfold ix; rw [if_pos (by omega)]; simp
  have hx2 : l[k]? = some l[k] := by simp
  have e1 : ((k + 1 : Nat) : Int) - 1 = k := by omega
  rw [e1] at W
  rw [GN hx2] at hK
  refine As (Ac (Ah (Ax (Ah ?_))))
  refine IM 6 (fun ⟨_, _, h⟩ => by obtain ⟨⟨_, h⟩, _⟩ := h; cases h) ?_
  iterate 2 refine ls W F Aa (Ag W Aa).q fun a w1 W F => ?_
  refine ls W F Aa (HJ (cs := [v]) (v := v) hr.1 (by simp) W Aa Ow Aa).q fun a w1 W F => ?_
  refine ls W F Aa (Ag W Aa).q fun a w1 W F => ?_
  refine ls W F Aa (AU (r := Ef) J4 W Aa Aa (Ak hr.2.nx) hx).q fun a w1 W F => ?_
  refine ls W F Aa (AC (y := Value.agg #[.int .i64 ((l[k]).1), .int .i64 ((l[k]).2.1), .int .i64 ((l[k]).2.2.1), .int .i64 ((l[k]).2.2.2.1), .int .i64 ((l[k]).2.2.2.2.1), .int .i64 ((l[k]).2.2.2.2.2)]) (j := 0) (i := (k : Int)) W Aa Aa (Ak hr.2.nx) hx Lx.to LL Aa).q fun a w1 W F => ?_
  refine Ad ?_
  have hK := hB _ _ _ hK F.frm.below
  refine KO (vs := [.int .i64 k, Value.agg #[.int .i64 ((l[k]).1), .int .i64 ((l[k]).2.1), .int .i64 ((l[k]).2.2.1), .int .i64 ((l[k]).2.2.2.1), .int .i64 ((l[k]).2.2.2.2.1), .int .i64 ((l[k]).2.2.2.2.2)]]) W Aa Aa Aa (hY _ _ _ hK) ?_
  rintro e w2 (⟨rfl, hK2⟩ | ⟨rfl, hx2⟩)
  · refine ⟨_, rfl, fun a W => ?_⟩
    refine Jn W Aa Aa fun a W => ?_
    refine Jc (Ac ?_)
    refine GE W Aa ?_
    refine As (AP (Ac (Ab ?_)))
    have F := Stw.start any w2
    refine ls W F Aa (Ag W Aa).q fun a w3 W F => ?_
    refine ls W F Aa (IP (r := (k : Int) - 1) W Aa Aa (Jo (by omega))).q fun a w3 W F => ?_
    refine ls W F Aa (Ae W Aa).q fun a w3 W F => ?_
    refine Ad (Ac ?_)
    exact ⟨k, Nat.lt_succ_self k, Nat.le_of_lt hk, W.re ⟨rfl, Aa, Aa, trivial⟩, hB _ _ _ hK2 F.frm.below⟩
  · refine ⟨_, rfl, fun a W => ?_⟩
    refine Jn W Aa Aa fun a W => ?_
    refine Jc (Ac ?_)
    refine GF W Aa ?_
    refine AB (AV ?_)
    iterate 2 refine AO ?_
    refine AV ?_
    refine FF (.inl Aa) (W.re (F' := []) trivial) Aa ⟨⟨_, Aa⟩, .inr hx2⟩
theorem T3 : Ty Try.prog 3 false 1 := ⟨by kernel_rfl, by kernel_rfl⟩
theorem NT : KeyEnc Try.prog 3 Bo := KeyEnc.int MS
theorem PB : Bt Try.prog 38 [.int .i64 0, .int .i64 0, .int .i64 0] [(0, 1), (1, 1), (2, 1)] := ⟨⟨.agg #[.int .i64 0, .int .i64 0, .int .i64 0], by kernel_rfl, rfl⟩, ⟨_, La, fun w => by kernel_rfl⟩⟩
theorem ON : (Try.prog.info? 38).bind (·.zero) = some (.agg #[.int .i64 0, .int .i64 0, .int .i64 0]) := by kernel_rfl
theorem Mz : Ty Try.prog 38 true 3 := ⟨by kernel_rfl, by kernel_rfl⟩
theorem MO : Try.prog.follows .mixedOrders = true := by kernel_rfl
def Cm (p0 : Int × Int × Int × Int × Int × Int) (p1 : Int × Int × Int × Int × Int × Int) : Int := (if p1.1 = 9 then p0.2.2.2.2.2 else p1.2.1)
theorem IA (Y : Nat → Prop) (w0 : World)  (p0 : Int × Int × Int × Int × Int × Int) (p1 : Int × Int × Int × Int × Int × Int) (r : Int) (H : Cm p0 p1 = r)  :
    Calls Try.prog 24 #[.agg #[.int .i64 p0.1, .int .i64 p0.2.1, .int .i64 p0.2.2.1, .int .i64 p0.2.2.2.1, .int .i64 p0.2.2.2.2.1, .int .i64 p0.2.2.2.2.2], .agg #[.int .i64 p1.1, .int .i64 p1.2.1, .int .i64 p1.2.2.1, .int .i64 p1.2.2.2.1, .int .i64 p1.2.2.2.2.1, .int .i64 p1.2.2.2.2.2]] w0 fun e w' => e = .returned (.int .i64 r) ∧ Below w0.heap.size w0 w' := by
 refine enter Try.func24 Aa Try.ntmps24 Aa fun a W => ?_
 have F := Stw.start Y w0
 unfold Cm at H
 refine Ah (Ab ?_)
 refine Cx (cs := [.int .i64 p0.1, .int .i64 p0.2.1, .int .i64 p0.2.2.1, .int .i64 p0.2.2.2.1, .int .i64 p0.2.2.2.2.1, .int .i64 p0.2.2.2.2.2]) W F Aa Aa Aa fun b1 a w W F => ?_
 refine Cx (cs := [.int .i64 p1.1, .int .i64 p1.2.1, .int .i64 p1.2.2.1, .int .i64 p1.2.2.2.1, .int .i64 p1.2.2.2.2.1, .int .i64 p1.2.2.2.2.2]) W F Aa Aa Aa fun b2 a w W F => ?_
 refine ls W F Aa (Ae W Aa).q fun a w W F => ?_
 refine Ad (Ac (Ah (Ah (Ab ?_))))
 refine ls W F Aa (Af Ds Aa Aa Aa T3 W Aa 0 Aa).q fun a w W F => ?_
 refine ls W F Aa (Al (v := Value.int .i64 p1.1) 0 W Aa Aa T3 Aa).q fun a w W F => ?_
 refine ls W F Aa (C9 W Aa Aa).q fun a w W F => ?_
 refine Ad (Ac ?_)
 refine AA W Aa (fun hb => ?_) fun hb => ?_
 ·
  have H := Ba (BO hb) H
  rw [hb] at W
  clear hb
  refine Ah (Ab ?_)
  refine ls W F Aa (Af Ds Aa Aa Aa T3 W Aa 5 Aa).q fun a w W F => ?_
  refine ls W F Aa (Al (v := Value.int .i64 p0.2.2.2.2.2) 1 W Aa Aa T3 Aa).q fun a w W F => ?_
  refine ls W F Aa (Ae W Aa).q fun a w W F => ?_
  refine Ad (Ac (AB (AO ?_)))
  subst H
  refine Be (.inl Aa) W F Aa (Aw W Aa) ?_
  exact ⟨rfl, F.done⟩
 have H := A9 (BS hb) H
 rw [hb] at W
 clear hb
 refine As (Ac (Ah (Ab ?_)))
 refine ls W F Aa (Af Ds Aa Aa Aa T3 W Aa 1 Aa).q fun a w W F => ?_
 refine ls W F Aa (Al (v := Value.int .i64 p1.2.1) 0 W Aa Aa T3 Aa).q fun a w W F => ?_
 refine ls W F Aa (Ae W Aa).q fun a w W F => ?_
 refine Ad (Ac (AB ?_))
 subst H
 refine Be (.inl Aa) W F Aa (Aw W Aa) ?_
 exact ⟨rfl, F.done⟩
theorem MI : type_of% Try.underlying30 := Try.underlying30
theorem P7 : Has Try.prog 24 := ⟨fun args w => Aj Try.func24 rfl (by decide) args w⟩
theorem Nj : Ty Try.prog 30 false 1 := ⟨by kernel_rfl, by kernel_rfl⟩
abbrev CM : Rp (Int × Int × Int) := (Rp.pair (Rp.int .i64) (Rp.pair (Rp.int .i64) (Rp.int .i64)))
def PG (a : Int × Int × Int) : List Value := [.int .i64 a.1, .int .i64 a.2.1, .int .i64 a.2.2]
theorem NO : Fl CM PG := (Fl.pair Fl.int (Fl.pair Fl.int Fl.int))
theorem Ni : Et Try.prog 30 38 3 24 := Et.of MI (by kernel_rfl) (by kernel_rfl) (by kernel_rfl) (by decide)
theorem P5 : Has Try.prog 39 := ⟨fun args w => Aj Try.func39 rfl (by decide) args w⟩
noncomputable def AH  : ((List (Int × Int × Int)) × Int × Int) → Option (((List (Int × Int × Int)) × Int × Int) ⊕ (List (Int × Int × Int)))
  | (x1, x2, x3) => (if x2 < x3 then (ix x1 x3).bind fun x4 => (ix x1 x2).bind fun x5 => (ix x1 x2).bind fun x6 => (ix (Ap x1 x2 x4) x3).bind fun x7 => some (.inl ((Ap (Ap x1 x2 x4) x3 x5), DC (x2 + 1), DC (x3 - 1))) else some (.inr x1))
noncomputable def Az (p0 : List (Int × Int × Int)) : Option (List (Int × Int × Int)) := AF (AH) (p0, 0, DC ((p0.length : Int) - 1))
theorem C2 (Y : Nat → Prop) (X : List Nat) (w0 : World) (v1 : Value) (p0 : List (Int × Int × Int)) (r : (List (Int × Int × Int))) (H : Az p0 = some r) (hL : Stw ⟨Y, X, w0⟩ [] [row v1 38 CM p0] w0) :
    Calls Try.prog 25 #[v1] w0 fun e w' => ∃ x : Unit, e = .returned (.tuple #[]) ∧ Stw ⟨Y, X, w0⟩ [] [row v1 38 CM r] w' := by
 refine enter Try.func25 Aa Try.ntmps25 Aa fun a W => ?_
 have F := hL
 unfold Az at H
 refine Ah (Ab ?_)
 refine ls W F Aa (Ag W Aa).q fun a w W F => ?_
 refine ls W F Aa (Bl (r := CM) (l := p0) MI Aa W Aa (AN 0 Aa)).q fun a w W F => ?_
 refine ls W F Aa (IP W Aa Aa Aa).q fun a w W F => ?_
 iterate 2 refine ls W F Aa (Ae W Aa).q fun a w W F => ?_
 refine Ad (Ac (Ax ?_))
 refine BZ H (fun s a w => Fr 28 [] [(0, v1), (2, .int .i64 s.2.1), (3, .int .i64 s.2.2)] a ∧ Stw ⟨Y, X, w0⟩ [] [row v1 38 CM s.1] w) ⟨W.re ⟨rfl, Aa, Aa, trivial⟩, F⟩ fun s o a w H L1 hR => ?_
 obtain ⟨x1, x2, x3⟩ := s
 obtain ⟨W, F⟩ := hR
 have W : Fr 28 [] [(0, v1), (2, .int .i64 x2), (3, .int .i64 x3)] a := W
 have F : Stw ⟨Y, X, w0⟩ [] [row v1 38 CM x1] w := F
 rw [AH] at H
 refine Ah (Ah (Ab ?_))
 iterate 2 refine ls W F Aa (Ag W Aa).q fun a w W F => ?_
 refine ls W F Aa (B0 W Aa Aa).q fun a w W F => ?_
 refine Ad (Ac ?_)
 refine AA W Aa (fun hb => ?_) fun hb => ?_
 ·
  have H := Ba (BO hb) H
  rw [hb] at W
  clear hb
  refine As (Ac (Ah (Ax ?_)))
  refine MG 13 [2, 3] [0, 1, 4, 5, 6, 7, 8, 9, 10, 11, 12] (fun ch a d v w h => by cases d <;> exact h) F MO (by kernel_rfl) ?_
  iterate 2 refine hm W Aa Aa Aa fun a W => ?_
  refine NP ?_
  iterate 4 refine hs W Aa Aa Aa (Ag W Aa).q fun a W => ?_
  obtain ⟨x4, h1, H⟩ := An H
  refine hs W Aa Aa Aa (AU (r := CM) Ni W Aa Aa (AN 0 Aa) h1).q fun a W => ?_
  refine hs W Aa Aa Aa (AC (y := Value.agg #[.int .i64 x4.1, .int .i64 x4.2.1, .int .i64 x4.2.2]) (j := 0) (i := x3) W Aa Aa (AN 0 Aa) h1 NO.to Mz Aa).q fun a W => ?_
  iterate 2 refine hs W Aa Aa Aa (Ag W Aa).q fun a W => ?_
  obtain ⟨x5, h2, H⟩ := An H
  refine hs W Aa Aa Aa (AU (r := CM) Ni W Aa Aa (AN 0 Aa) h2).q fun a W => ?_
  refine hs W Aa Aa Aa (AC (y := Value.agg #[.int .i64 x5.1, .int .i64 x5.2.1, .int .i64 x5.2.2]) (j := 0) (i := x2) W Aa Aa (AN 0 Aa) h2 NO.to Mz Aa).q fun a W => ?_
  obtain ⟨x6, h3, H⟩ := An H
  refine hs W Aa Aa Aa (AU (r := CM) Ni W Aa Aa (AN 0 Aa) h3).q fun a W => ?_
  refine Ot fun w F => ?_
  have F : Stw ⟨Y, X, w0⟩ [] [row v1 38 CM x1] w := F
  refine Gr (i := x2) (j := 0) (vs := [.int .i64 x4.1, .int .i64 x4.2.1, .int .i64 x4.2.2]) (x' := x4) W F Aa Aa Aa (k := 0) Aa Aa h3 Mz Aa Aa Aa Aa (fun A cs _ => NO.sto (by rfl) _ _ _) fun w F => ?_
  obtain ⟨x7, h4, H⟩ := An H
  refine ls W F Aa (AU (r := CM) Ni W Aa Aa (AN 0 Aa) h4).q fun a w W F => ?_
  refine Gr (i := x3) (j := 0) (vs := [.int .i64 x5.1, .int .i64 x5.2.1, .int .i64 x5.2.2]) (x' := x5) W F Aa Aa Aa (k := 0) Aa Aa h4 Mz Aa Aa Aa Aa (fun A cs _ => NO.sto (by rfl) _ _ _) fun w F => ?_
  refine Ad (AP (Ac (Ab ?_)))
  refine ls W F Aa (Ag W Aa).q fun a w W F => ?_
  refine ls W F Aa (Dk W Aa Aa Aa).q fun a w W F => ?_
  refine ls W F Aa (Ag W Aa).q fun a w W F => ?_
  refine ls W F Aa (IP W Aa Aa Aa).q fun a w W F => ?_
  iterate 2 refine ls W F Aa (Ae W Aa).q fun a w W F => ?_
  refine Ad (Ac ?_)
  exact ⟨_, H, W.re ⟨rfl, Aa, Aa, trivial⟩, F⟩
 have H := A9 (BS hb) H
 rw [hb] at W
 clear hb
 refine BH ?_
 iterate 2 refine Cj ?_
 refine BI ?_
 have H := L1 _ H
 have H := A1 H
 subst H
 refine FF (.inr Aa) W Aa ?_
 exact ⟨(), Aa, F⟩
theorem Mm : type_of% Try.underlying61 := Try.underlying61
theorem P1 : Has Try.prog 25 := ⟨fun args w => Aj Try.func25 rfl (by decide) args w⟩
noncomputable def Cg (p0 : List (Int × Int × Int × Int × Int × Int)) (x2 : Int × Int × Int × Int × Int × Int × Int) : ((List (Int × Int × Int)) × (List (Int × Int))) → Option (((List (Int × Int × Int)) × (List (Int × Int))) ⊕ (List (Int × Int × Int)))
  | (x3, x4) => (if x2.2.1 = 9 then some true else some (decide (x2.2.1 = 10))).bind fun x5 => (if x5 = true then some (.inl (x3, CP x4 x2.2.2.2.1 x2.1)) else (if x2.2.1 = 8 then (if ((Cy x4 x2.2.2.2.1).isSome) = true then (ix p0 ((Cy x4 x2.2.2.2.1).getD 0)).bind fun x7 => some (Cm x2.2 x7) else some 1125899906842624).bind fun x6 => (Fo x3 ([(x2.2.2.2.1, x2.2.2.2.2.2.1, x6)] : List (Int × Int × Int))).bind fun x8 => some (.inl (x8, x4)) else some (.inl (x3, x4))))
noncomputable def CW (p0 : List (Int × Int × Int × Int × Int × Int)) : Option (List (Int × Int × Int)) := (back p0).bind fun x1 => DQ (Eo (Cg p0) x1 ([], ([] : List (Int × Int)))) fun (x3, x4) => (Az x3).bind fun x9 => some x9
theorem In (Y : Nat → Prop) (w0 : World) (v1 : Value) (p0 : List (Int × Int × Int × Int × Int × Int)) (r : (List (Int × Int × Int))) (H : CW p0 = some r) (h_v1 : Sl w0 (NX []) Ef v1 p0) :
    Calls Try.prog 9 #[v1] w0 fun e w' => ∃ x : Value, e = .returned (x) ∧ Stw ⟨Y, [], w0⟩ [] [row (x) 38 CM r] w' := by
 refine L6 Try.func9 Aa Try.ntmps9 Aa fun a W => ?_
 have F := Stw.start Y w0
 unfold CW at H
 refine Ah (Ab ?_)
 refine Cx (cs := [v1]) W F Aa Aa (Dg ((Ak h_v1) _ F).one) fun b1 a w W F => ?_
 refine ls W F Aa (Ae W Aa).q fun a w W F => ?_
 refine Ad (Ac (Ah (Ab ?_)))
 refine B3 (cs := [.slice none 0 0]) W F Aa PC Aa fun b2 a w W F => ?_
 refine Ad (Ac (Ah (Ab ?_)))
 refine F2 Bo Bo W F Aa fun b3 a w W F => ?_
 have F : Stw ⟨Y, [], w0⟩ [(b2, [.slice none 0 0]), (b1, [v1])] [mp b3 Bo Bo ([] : List (Int × Int))] w := F
 refine B3 (cs := [.map none]) W F Aa PY Aa fun b4 a w W F => ?_
 refine BQ (vs := [.map (some b3)]) (M' := [(b4, [.map (some b3)]), (b2, [.slice none 0 0]), (b1, [v1])]) 0 W F Aa Aa Aa Nb Aa Aa Aa Aa Aa fun w F => ?_
 refine Ad (Ac (Ah (Ah (Ab ?_))))
 refine ls W F Aa (Al (v := v1) 2 W Aa Aa Ow Aa).q fun a w W F => ?_
 refine Cw (β := Nat) (Ml := []) (M := [(b4, [.map (some b3)]), (b2, [.slice none 0 0]), (b1, [v1])]) (Zl := []) (Z := [mp b3 Bo Bo ([] : List (Int × Int))]) (rv := fun b5 => .func (.func 39) #[] #[.pointer (some ⟨b5, 0, none⟩)]) (MM := fun b5 => [(b5, [v1])]) (ZZ := fun _ => []) W F PD Aa Aa (fun _ => OM _ w v1 ((Ak h_v1) _ F).one) fun b5 a w W F => ?_
 have F : Stw ⟨Y, [], w0⟩ [(b5, [v1]), (b4, [.map (some b3)]), (b2, [.slice none 0 0]), (b1, [v1])] [mp b3 Bo Bo ([] : List (Int × Int))] w := F
 refine Ad (Ac (Ax ?_))
 obtain ⟨x1, h1, H⟩ := An H
 obtain ⟨hn, rfl⟩ := IQ h1
 have W : Fr 53 [] [(0, v1), (1, .pointer (some ⟨b1, 0, none⟩)), (2, .slice none 0 0), (3, .pointer (some ⟨b2, 0, none⟩)), (4, .pointer (some ⟨b4, 0, none⟩)), (11, v1), (12, .func (.func 39) #[] #[.pointer (some ⟨b5, 0, none⟩)])] a := W.re ⟨rfl, Aa, Aa, Aa, Aa, Aa, Aa, trivial⟩
 have F := F.nilRow 38 CM
 have F := F.frontZ (i := 1) Aa Aa
 have F := F.frontZ (i := 1) Aa Aa
 have F := F.frontM (i := 3) Aa Aa
 have F := F.frontM (i := 3) Aa Aa
 have F := F.frontM (i := 3) Aa Aa
 have F := F.frontM (i := 3) Aa Aa
 refine KL (Z := [row (Value.slice none 0 0) 38 CM ([]), mp b3 Bo Bo ([] : List (Int × Int))]) (fun s M Z => ∃ v2 : Value, M = [(b5, [v1]), (b4, [.map (some b3)]), (b2, [v2]), (b1, [v1])] ∧ Z = [row v2 38 CM s.1, mp b3 Bo Bo s.2]) H W F ⟨(Value.slice none 0 0), Aa, Aa⟩ Aa P5 (Pm b5 v1 p0 hn) (fun _ => rfl) Aa (fun s M Z hK w Z' F => ?_) (fun l dD1 r1a r1b x2 s o M Z a a₂ w H L1 hK W hF2 F => ?_) fun dD1 s M Z a w H hK W F => ?_
 ·
  obtain ⟨x3, x4⟩ := s
  obtain ⟨v2, rfl, rfl⟩ := hK
  exact NU.of (i := 0) F Aa (Ak h_v1)
 ·
  obtain ⟨x3, x4⟩ := s
  obtain ⟨v2, rfl, rfl⟩ := hK
  have W : Fr 53 [] [(0, v1), (1, .pointer (some ⟨b1, 0, none⟩)), (2, .slice none 0 0), (3, .pointer (some ⟨b2, 0, none⟩)), (4, .pointer (some ⟨b4, 0, none⟩)), (11, v1), (12, .func (.func 39) #[] #[.pointer (some ⟨b5, 0, none⟩)]), (13, .int .i64 x2.1), (14, .agg #[.int .i64 x2.2.1, .int .i64 x2.2.2.1, .int .i64 x2.2.2.2.1, .int .i64 x2.2.2.2.2.1, .int .i64 x2.2.2.2.2.2.1, .int .i64 x2.2.2.2.2.2.2])] a := W.re ⟨rfl, Aa, Aa, Aa, Aa, Aa, Aa, Aa, Aa, trivial⟩
  have F : Stw ⟨Y, [], w0⟩ [(b5, [v1]), (b4, [.map (some b3)]), (b2, [v2]), (b1, [v1])] [row v2 38 CM x3, mp b3 Bo Bo x4, r1a, Gs dD1] w := F
  rw [Cg] at H
  refine Ah (Ab ?_)
  refine ls W F Aa (Ae W Aa).q fun a w W F => ?_
  refine Ad (Ac (Ab ?_))
  refine B3 (cs := [.int .i64 0, .int .i64 0, .int .i64 0, .int .i64 0, .int .i64 0, .int .i64 0]) W F Aa Ny Aa fun b6 a w W F => ?_
  refine BQ (vs := [.int .i64 x2.2.1, .int .i64 x2.2.2.1, .int .i64 x2.2.2.2.1, .int .i64 x2.2.2.2.2.1, .int .i64 x2.2.2.2.2.2.1, .int .i64 x2.2.2.2.2.2.2]) (M' := [(b6, [.int .i64 x2.2.1, .int .i64 x2.2.2.1, .int .i64 x2.2.2.2.1, .int .i64 x2.2.2.2.2.1, .int .i64 x2.2.2.2.2.2.1, .int .i64 x2.2.2.2.2.2.2]), (b5, [v1]), (b4, [.map (some b3)]), (b2, [v2]), (b1, [v1])]) 0 W F Aa Aa Aa LL Aa Aa Aa Aa Aa fun w F => ?_
  refine Ad (Ac ?_)
  refine ⟨[(b6, [.int .i64 x2.2.1, .int .i64 x2.2.2.1, .int .i64 x2.2.2.2.1, .int .i64 x2.2.2.2.2.1, .int .i64 x2.2.2.2.2.2.1, .int .i64 x2.2.2.2.2.2.2]), (b5, [v1]), (b4, [.map (some b3)]), (b2, [v2]), (b1, [v1])], [row v2 38 CM x3, mp b3 Bo Bo x4], F, fun w F => ?_⟩
  have F : Stw ⟨Y, [], w0⟩ [(b6, [.int .i64 x2.2.1, .int .i64 x2.2.2.1, .int .i64 x2.2.2.2.1, .int .i64 x2.2.2.2.2.1, .int .i64 x2.2.2.2.2.2.1, .int .i64 x2.2.2.2.2.2.2]), (b5, [v1]), (b4, [.map (some b3)]), (b2, [v2]), (b1, [v1])] [row v2 38 CM x3, mp b3 Bo Bo x4, r1b, Gs dD1] w := F
  refine Ax (Ah (Ab ?_))
  refine ls W F Aa (Af Ds Aa Aa Aa T3 W Aa 0 Aa).q fun a w W F => ?_
  refine ls W F Aa (Al (v := Value.int .i64 x2.2.1) 0 W Aa Aa T3 Aa).q fun a w W F => ?_
  refine Ad (Ac (Ax ?_))
  obtain ⟨o2, G2, K2⟩ := An H
  refine AR (fun a w => ∃ x5 : Bool, some (x5) = some o2 ∧ Fr 53 [] [(0, v1), (1, .pointer (some ⟨b1, 0, none⟩)), (2, .slice none 0 0), (3, .pointer (some ⟨b2, 0, none⟩)), (4, .pointer (some ⟨b4, 0, none⟩)), (5, .int .i64 x2.1), (6, .pointer (some ⟨b6, 0, none⟩)), (11, v1), (12, .func (.func 39) #[] #[.pointer (some ⟨b5, 0, none⟩)]), (16, .int .i64 x2.2.1), (17, .bool x5)] a ∧ Stw ⟨Y, [], w0⟩ [(b6, [.int .i64 x2.2.1, .int .i64 x2.2.2.1, .int .i64 x2.2.2.2.1, .int .i64 x2.2.2.2.2.1, .int .i64 x2.2.2.2.2.2.1, .int .i64 x2.2.2.2.2.2.2]), (b5, [v1]), (b4, [.map (some b3)]), (b2, [v2]), (b1, [v1])] [row v2 38 CM x3, mp b3 Bo Bo x4, r1b, Gs dD1] w) ?_ ?_
  ·
   have H := G2
   clear G2 K2
   refine Ah (Ab ?_)
   refine ls W F Aa (C9 W Aa Aa).q fun a w W F => ?_
   refine ls W F Aa (Ae W Aa).q fun a w W F => ?_
   refine Ad (Ac ?_)
   refine AA W Aa (fun hb => ?_) fun hb => ?_
   ·
    have H := Ba (BO hb) H
    rw [hb] at W
    clear hb
    refine As (Ac ?_)
    have F := F.frontZ (i := 3) Aa Aa
    have F := F.frontZ (i := 3) Aa Aa
    have F := F.frontZ (i := 3) Aa Aa
    have F := F.frontZ (i := 3) Aa Aa
    have F := F.frontM (i := 4) Aa Aa
    have F := F.frontM (i := 4) Aa Aa
    have F := F.frontM (i := 4) Aa Aa
    have F := F.frontM (i := 4) Aa Aa
    have F := F.frontM (i := 4) Aa Aa
    exact ⟨_, H, W.re ⟨rfl, Aa, Aa, Aa, Aa, Aa, Aa, Aa, Aa, Aa, Aa, trivial⟩, F⟩
   have H := A9 (BS hb) H
   rw [hb] at W
   clear hb
   refine Ab ?_
   refine ls W F Aa (C9 W Aa Aa).q fun a w W F => ?_
   refine ls W F Aa (Ae W Aa).q fun a w W F => ?_
   refine Ad (Ac ?_)
   have F := F.frontZ (i := 3) Aa Aa
   have F := F.frontZ (i := 3) Aa Aa
   have F := F.frontZ (i := 3) Aa Aa
   have F := F.frontZ (i := 3) Aa Aa
   have F := F.frontM (i := 4) Aa Aa
   have F := F.frontM (i := 4) Aa Aa
   have F := F.frontM (i := 4) Aa Aa
   have F := F.frontM (i := 4) Aa Aa
   have F := F.frontM (i := 4) Aa Aa
   exact ⟨_, H, W.re ⟨rfl, Aa, Aa, Aa, Aa, Aa, Aa, Aa, Aa, Aa, Aa, trivial⟩, F⟩
  rintro a w ⟨x5, hj, W, F⟩
  have hj := A1 hj
  subst hj
  have H := K2
  clear G2 K2
  refine AA W Aa (fun hb => ?_) fun hb => ?_
  ·
   have H := Ba hb H
   rw [hb] at W
   clear hb
   refine Ab ?_
   refine ls W F Aa (Al (v := Value.map (some b3)) 2 W Aa Aa Nb Aa).q fun a w W F => ?_
   refine ls W F Aa (Af Ds Aa Aa Aa T3 W Aa 2 Aa).q fun a w W F => ?_
   refine ls W F Aa (Al (v := Value.int .i64 x2.2.2.2.1) 0 W Aa Aa T3 Aa).q fun a w W F => ?_
   refine ls W F Aa (Ag W Aa).q fun a w W F => ?_
   refine FZ (q := 1) (kx := (x2.2.2.2.1 : Int)) (vx := (x2.1 : Int)) (E := Bo) (V := Bo) W F Aa Aa Aa Aa Aa NT Mm fun w F => ?_
   have F : Stw ⟨Y, [], w0⟩ [(b6, [.int .i64 x2.2.1, .int .i64 x2.2.2.1, .int .i64 x2.2.2.2.1, .int .i64 x2.2.2.2.2.1, .int .i64 x2.2.2.2.2.2.1, .int .i64 x2.2.2.2.2.2.2]), (b5, [v1]), (b4, [.map (some b3)]), (b2, [v2]), (b1, [v1])] [mp b3 Bo Bo (CP x4 x2.2.2.2.1 x2.1), row v2 38 CM x3, r1b, Gs dD1] w := F
   refine Ad ?_
   iterate 2 refine AP ?_
   have F := F.frontZ (i := 3) Aa Aa
   have F := F.frontZ (i := 3) Aa Aa
   have F := F.frontZ (i := 2) Aa Aa
   have F := F.frontZ (i := 3) Aa Aa
   have F := F.frontM (i := 4) Aa Aa
   have F := F.frontM (i := 4) Aa Aa
   have F := F.frontM (i := 4) Aa Aa
   have F := F.frontM (i := 4) Aa Aa
   have F := F.sub (M' := [(b5, [v1]), (b4, [.map (some b3)]), (b2, [v2]), (b1, [v1])]) (Z' := [row v2 38 CM x3, mp b3 Bo Bo (CP x4 x2.2.2.2.1 x2.1), r1b, Gs dD1]) (List.Sublist.cons_cons _ (List.Sublist.cons_cons _ (List.Sublist.cons_cons _ (List.Sublist.cons_cons _ (List.nil_sublist _))))) (List.Sublist.refl _)
   exact MQ ⟨_, _, _, H, ⟨(v2), Aa, Aa⟩, F⟩
  have H := A9 (by rw [hb]; decide) H
  rw [hb] at W
  clear hb
  refine Ah (Ab ?_)
  refine ls W F Aa (C9 W Aa Aa).q fun a w W F => ?_
  refine ls W F Aa (Ae W Aa).q fun a w W F => ?_
  refine Ad (Ac ?_)
  refine AA W Aa (fun hb => ?_) fun hb => ?_
  ·
   have H := Ba (BO hb) H
   rw [hb] at W
   clear hb
   refine Ah (Ab ?_)
   refine ls W F Aa (Af Ds Aa Aa Aa T3 W Aa 2 Aa).q fun a w W F => ?_
   refine ls W F Aa (Al (v := Value.int .i64 x2.2.2.2.1) 0 W Aa Aa T3 Aa).q fun a w W F => ?_
   refine ls W F Aa (Af Ds Aa Aa Aa T3 W Aa 4 Aa).q fun a w W F => ?_
   refine ls W F Aa (Al (v := Value.int .i64 x2.2.2.2.2.2.1) 0 W Aa Aa T3 Aa).q fun a w W F => ?_
   refine ls W F Aa (Bx (v := Value.agg #[.int .i64 x2.2.2.2.1, .int .i64 x2.2.2.2.2.2.1, .int .i64 1125899906842624]) PB W Aa Aa Aa).q fun a w W F => ?_
   refine B3 (cs := [.int .i64 0, .int .i64 0, .int .i64 0]) W F Aa ON Aa fun b7 a w W F => ?_
   refine BQ (vs := [.int .i64 x2.2.2.2.1, .int .i64 x2.2.2.2.2.2.1, .int .i64 1125899906842624]) (M' := [(b7, [.int .i64 x2.2.2.2.1, .int .i64 x2.2.2.2.2.2.1, .int .i64 1125899906842624]), (b6, [.int .i64 x2.2.1, .int .i64 x2.2.2.1, .int .i64 x2.2.2.2.1, .int .i64 x2.2.2.2.2.1, .int .i64 x2.2.2.2.2.2.1, .int .i64 x2.2.2.2.2.2.2]), (b5, [v1]), (b4, [.map (some b3)]), (b2, [v2]), (b1, [v1])]) 0 W F Aa Aa Aa Mz Aa Aa Aa Aa Aa fun w F => ?_
   refine Ad (Ac ?_)
   obtain ⟨o3, G3, K3⟩ := An H
   refine AR (fun a w => ∃ x6 : Int, some (x6) = some o3 ∧ Fr 53 [] [(0, v1), (1, .pointer (some ⟨b1, 0, none⟩)), (2, .slice none 0 0), (3, .pointer (some ⟨b2, 0, none⟩)), (4, .pointer (some ⟨b4, 0, none⟩)), (7, .pointer (some ⟨b7, 0, none⟩)), (11, v1), (12, .func (.func 39) #[] #[.pointer (some ⟨b5, 0, none⟩)])] a ∧ Stw ⟨Y, [], w0⟩ [(b7, [.int .i64 x2.2.2.2.1, .int .i64 x2.2.2.2.2.2.1, .int .i64 x6]), (b6, [.int .i64 x2.2.1, .int .i64 x2.2.2.1, .int .i64 x2.2.2.2.1, .int .i64 x2.2.2.2.2.1, .int .i64 x2.2.2.2.2.2.1, .int .i64 x2.2.2.2.2.2.2]), (b5, [v1]), (b4, [.map (some b3)]), (b2, [v2]), (b1, [v1])] [row v2 38 CM x3, mp b3 Bo Bo x4, r1b, Gs dD1] w) ?_ ?_
   ·
    have H := G3
    clear G3 K3
    refine Ah (Ab ?_)
    refine ls W F Aa (Al (v := Value.map (some b3)) 3 W Aa Aa Nb Aa).q fun a w W F => ?_
    refine ls W F Aa (Af Ds Aa Aa Aa T3 W Aa 2 Aa).q fun a w W F => ?_
    refine ls W F Aa (Al (v := Value.int .i64 x2.2.2.2.1) 1 W Aa Aa T3 Aa).q fun a w W F => ?_
    refine ls W F Aa (GX (zv := (0 : Int)) (kx := (x2.2.2.2.1 : Int)) (q := 1) (E := Bo) (V := Bo) W Aa Aa Aa NT Mm Z3).q fun a w W F => ?_
    refine ls W F Aa (Ag W Aa).q fun a w W F => ?_
    refine ls W F Aa (BV (v := Value.int .i64 ((Cy x4 x2.2.2.2.1).getD 0)) W Aa Aa).q fun a w W F => ?_
    refine ls W F Aa (BV (v := Value.bool ((Cy x4 x2.2.2.2.1).isSome)) W Aa Aa).q fun a w W F => ?_
    iterate 2 refine ls W F Aa (Ae W Aa).q fun a w W F => ?_
    refine Ad (Ac (Ah (Ab ?_)))
    refine ls W F Aa (Ag W Aa).q fun a w W F => ?_
    refine Ad (Ac ?_)
    refine AA W Aa (fun hb => ?_) fun hb => ?_
    ·
     have H := Ba hb H
     rw [hb] at W
     clear hb
     refine Ii 7 F MO (by kernel_rfl) ?_
     refine qs W Aa (Al (v := Value.agg #[.int .i64 x2.2.1, .int .i64 x2.2.2.1, .int .i64 x2.2.2.2.1, .int .i64 x2.2.2.2.2.1, .int .i64 x2.2.2.2.2.2.1, .int .i64 x2.2.2.2.2.2.2]) 1 W Aa Aa LL Aa).q fun a W => ?_
     refine qs W Aa (Al (v := v1) 5 W Aa Aa Ow Aa).q fun a W => ?_
     refine qs W Aa (Ag W Aa).q fun a W => ?_
     obtain ⟨x7, h2, H⟩ := An H
     refine qs W Aa (AU (r := Ef) J4 W Aa Aa (Ak h_v1) h2).q fun a W => ?_
     refine qs W Aa (AC (y := Value.agg #[.int .i64 x7.1, .int .i64 x7.2.1, .int .i64 x7.2.2.1, .int .i64 x7.2.2.2.1, .int .i64 x7.2.2.2.2.1, .int .i64 x7.2.2.2.2.2]) (j := 0) (i := (Cy x4 x2.2.2.2.1).getD 0) W Aa Aa (Ak h_v1) h2 Lx.to LL Aa).q fun a W => ?_
     refine qs W Aa (Ch (v := Value.int .i64 (Cm x2.2 x7)) W P7 Aa (fun w F => IA any w x2.2 x7 _ Aa)) fun a W => ?_
     refine qs W Aa (Af La Aa Aa Aa T3 W Aa 2 Aa).q fun a W => ?_
     refine Cf fun w F => ?_
     refine BQ (vs := [.int .i64 (Cm x2.2 x7)]) (M' := [(b7, [.int .i64 x2.2.2.2.1, .int .i64 x2.2.2.2.2.2.1, .int .i64 (Cm x2.2 x7)]), (b6, [.int .i64 x2.2.1, .int .i64 x2.2.2.1, .int .i64 x2.2.2.2.1, .int .i64 x2.2.2.2.2.1, .int .i64 x2.2.2.2.2.2.1, .int .i64 x2.2.2.2.2.2.2]), (b5, [v1]), (b4, [.map (some b3)]), (b2, [v2]), (b1, [v1])]) 0 W F Aa Aa Aa T3 Aa Aa Aa Aa Aa fun w F => ?_
     refine Ad (Ac ?_)
     have F := F.frontZ (i := 3) Aa Aa
     have F := F.frontZ (i := 3) Aa Aa
     have F := F.frontZ (i := 3) Aa Aa
     have F := F.frontZ (i := 3) Aa Aa
     have F := F.frontM (i := 5) Aa Aa
     have F := F.frontM (i := 5) Aa Aa
     have F := F.frontM (i := 5) Aa Aa
     have F := F.frontM (i := 5) Aa Aa
     have F := F.frontM (i := 5) Aa Aa
     have F := F.frontM (i := 5) Aa Aa
     exact ⟨_, H, W.re ⟨rfl, Aa, Aa, Aa, Aa, Aa, Aa, Aa, trivial⟩, F⟩
    have H := A9 (by rw [hb]; decide) H
    rw [hb] at W
    clear hb
    refine As (Ac ?_)
    have F := F.frontZ (i := 3) Aa Aa
    have F := F.frontZ (i := 3) Aa Aa
    have F := F.frontZ (i := 3) Aa Aa
    have F := F.frontZ (i := 3) Aa Aa
    have F := F.frontM (i := 5) Aa Aa
    have F := F.frontM (i := 5) Aa Aa
    have F := F.frontM (i := 5) Aa Aa
    have F := F.frontM (i := 5) Aa Aa
    have F := F.frontM (i := 5) Aa Aa
    have F := F.frontM (i := 5) Aa Aa
    exact ⟨_, H, W.re ⟨rfl, Aa, Aa, Aa, Aa, Aa, Aa, Aa, trivial⟩, F⟩
   rintro a w ⟨x6, hj, W, F⟩
   have hj := A1 hj
   subst hj
   have H := K3
   clear G3 K3
   refine Ab ?_
   refine ls W F Aa (Al (v := v2) 4 W Aa Aa Nj Aa).q fun a w W F => ?_
   refine ls W F Aa (Al (v := Value.agg #[.int .i64 x2.2.2.2.1, .int .i64 x2.2.2.2.2.2.1, .int .i64 x6]) 0 W Aa Aa Mz Aa).q fun a w W F => ?_
   refine Do (z := Value.agg #[.int .i64 0, .int .i64 0, .int .i64 0]) (cs := [.int .i64 x2.2.2.2.1, .int .i64 x2.2.2.2.2.2.1, .int .i64 x6]) CM ([(x2.2.2.2.1, x2.2.2.2.2.2.1, x6)] : List (Int × Int × Int)) W F Aa Ni ON Aa Aa Aa Aa Aa Aa (NO.repL _ _ ([(x2.2.2.2.1, x2.2.2.2.2.2.1, x6)] : List (Int × Int × Int))) fun v3 a w W F => ?_
   obtain ⟨x8, h3, H⟩ := An H
   refine Cr (r := CM) (i := 1) W F Aa Ni Aa Aa Aa Aa (C5 F 0 Aa) h3 Aa fun v4 a w W F => ?_
   have F : Stw ⟨Y, [], w0⟩ [(b7, [.int .i64 x2.2.2.2.1, .int .i64 x2.2.2.2.2.2.1, .int .i64 x6]), (b6, [.int .i64 x2.2.1, .int .i64 x2.2.2.1, .int .i64 x2.2.2.2.1, .int .i64 x2.2.2.2.2.1, .int .i64 x2.2.2.2.2.2.1, .int .i64 x2.2.2.2.2.2.2]), (b5, [v1]), (b4, [.map (some b3)]), (b2, [v2]), (b1, [v1])] [row v4 38 CM x8, row v3 38 CM ([(x2.2.2.2.1, x2.2.2.2.2.2.1, x6)] : List (Int × Int × Int)), mp b3 Bo Bo x4, r1b, Gs dD1] w := F
   refine GR (M' := [(b7, [.int .i64 x2.2.2.2.1, .int .i64 x2.2.2.2.2.2.1, .int .i64 x6]), (b6, [.int .i64 x2.2.1, .int .i64 x2.2.2.1, .int .i64 x2.2.2.2.1, .int .i64 x2.2.2.2.2.1, .int .i64 x2.2.2.2.2.2.1, .int .i64 x2.2.2.2.2.2.2]), (b5, [v1]), (b4, [.map (some b3)]), (b2, [v4]), (b1, [v1])]) 4 W F Aa Aa Aa Nj (F.one (k := 0) Aa) Aa Aa fun w F => ?_
   refine Ad ?_
   iterate 2 refine AP ?_
   have F := F.frontZ (i := 4) Aa Aa
   have F := F.frontZ (i := 4) Aa Aa
   have F := F.frontZ (i := 4) Aa Aa
   have F := F.frontZ (i := 3) Aa Aa
   have F := F.frontM (i := 5) Aa Aa
   have F := F.frontM (i := 5) Aa Aa
   have F := F.frontM (i := 5) Aa Aa
   have F := F.frontM (i := 5) Aa Aa
   have F := F.sub (M' := [(b5, [v1]), (b4, [.map (some b3)]), (b2, [v4]), (b1, [v1])]) (Z' := [row v4 38 CM x8, mp b3 Bo Bo x4, r1b, Gs dD1]) (List.Sublist.cons_cons _ (List.Sublist.cons_cons _ (List.Sublist.cons_cons _ (List.Sublist.cons_cons _ (List.nil_sublist _))))) (List.Sublist.cons_cons _ (List.Sublist.cons_cons _ (List.Sublist.cons_cons _ (List.Sublist.cons_cons _ (List.nil_sublist _)))))
   exact MQ ⟨_, _, _, H, ⟨(v4), Aa, Aa⟩, F⟩
  have H := A9 (BS hb) H
  rw [hb] at W
  clear hb
  refine As ?_
  iterate 2 refine AP ?_
  have F := F.frontZ (i := 3) Aa Aa
  have F := F.frontZ (i := 3) Aa Aa
  have F := F.frontZ (i := 3) Aa Aa
  have F := F.frontZ (i := 3) Aa Aa
  have F := F.frontM (i := 4) Aa Aa
  have F := F.frontM (i := 4) Aa Aa
  have F := F.frontM (i := 4) Aa Aa
  have F := F.frontM (i := 4) Aa Aa
  have F := F.sub (M' := [(b5, [v1]), (b4, [.map (some b3)]), (b2, [v2]), (b1, [v1])]) (Z' := [row v2 38 CM x3, mp b3 Bo Bo x4, r1b, Gs dD1]) (List.Sublist.cons_cons _ (List.Sublist.cons_cons _ (List.Sublist.cons_cons _ (List.Sublist.cons_cons _ (List.nil_sublist _))))) (List.Sublist.refl _)
  exact MQ ⟨_, _, _, H, ⟨(v2), Aa, Aa⟩, F⟩
 obtain ⟨x3, x4⟩ := s
 obtain ⟨v2, rfl, rfl⟩ := hK
 have W : Fr 53 [Mu dD1] [(0, v1), (1, .pointer (some ⟨b1, 0, none⟩)), (2, .slice none 0 0), (3, .pointer (some ⟨b2, 0, none⟩)), (4, .pointer (some ⟨b4, 0, none⟩)), (11, v1), (12, .func (.func 39) #[] #[.pointer (some ⟨b5, 0, none⟩)])] a := W
 have F : Stw ⟨Y, [], w0⟩ [(b5, [v1]), (b4, [.map (some b3)]), (b2, [v2]), (b1, [v1])] [row v2 38 CM x3, mp b3 Bo Bo x4, Gs dD1] w := F
 refine AP (Ac (Ah (Ab ?_)))
 refine ls W F Aa (Al (v := v2) 2 W Aa Aa Nj Aa).q fun a w W F => ?_
 obtain ⟨x9, h4, H⟩ := An H
 refine Cw (Ml := []) (Zl := [row v2 38 CM x3]) (M := [(b5, [v1]), (b4, [.map (some b3)]), (b2, [v2]), (b1, [v1])]) (Z := [mp b3 Bo Bo x4, Gs dD1]) (β := Unit) (rv := fun x => .tuple #[]) (MM := fun x => []) (ZZ := fun x => [row v2 38 CM x9]) W F P1 Aa Aa (fun hL => C2 _ _ w (v2) x3 _ h4 hL) fun x a w W F => ?_
 have F : Stw ⟨Y, [], w0⟩ [(b5, [v1]), (b4, [.map (some b3)]), (b2, [v2]), (b1, [v1])] [row v2 38 CM x9, mp b3 Bo Bo x4, Gs dD1] w := F
 refine Ad (Ac (Ah (Ab ?_)))
 refine ls W F Aa (Al (v := v2) 2 W Aa Aa Nj Aa).q fun a w W F => ?_
 refine ls W F Aa (Ae W Aa).q fun a w W F => ?_
 refine Ad (Ac (AB ?_))
 have H := A1 H
 subst H
 refine Ko (Z := [row v2 38 CM x9, mp b3 Bo Bo x4]) (.inl Aa) W F fun w F => ?_
 have F : Stw ⟨Y, [], w0⟩ [(b5, [v1]), (b4, [.map (some b3)]), (b2, [v2]), (b1, [v1])] [row v2 38 CM x9, mp b3 Bo Bo x4] w := F
 refine H0 F Aa (Aw W Aa) ?_
 have F := F.sub (M' := []) (Z' := [row v2 38 CM x9]) (List.nil_sublist _) (List.Sublist.cons_cons _ (List.nil_sublist _))
 exact ⟨(v2), Aa, F⟩
theorem N5 : type_of% Try.underlying68 := Try.underlying68
theorem Ll : type_of% Try.underlying70 := Try.underlying70
theorem Np : type_of% Try.underlying91 := Try.underlying91
theorem H9 : Has Try.prog 9 := ⟨fun args w => Aj Try.func9 rfl (by decide) args w⟩
theorem PX : Bt Try.prog 70 [.slice none 0 0, .slice none 0 0] [(0, 1), (1, 1)] := ⟨⟨.agg #[.slice none 0 0, .slice none 0 0], by kernel_rfl, rfl⟩, ⟨_, Ll, fun w => by kernel_rfl⟩⟩
theorem NS : Ty Try.prog 70 true 2 := ⟨by kernel_rfl, by kernel_rfl⟩
theorem Nd : Ty Try.prog 68 false 1 := ⟨by kernel_rfl, by kernel_rfl⟩
theorem PM : Bt Try.prog 91 [.int .i64 0, .int .i64 0] [(0, 1), (1, 1)] := ⟨⟨.agg #[.int .i64 0, .int .i64 0], by kernel_rfl, rfl⟩, ⟨_, Np, fun w => by kernel_rfl⟩⟩
theorem Pd : (Try.prog.info? 91).bind (·.zero) = some (.agg #[.int .i64 0, .int .i64 0]) := by kernel_rfl
abbrev ES : Rp (Int × Int) := (Rp.pair (Rp.int .i64) (Rp.int .i64))
def PA (a : Int × Int) : List Value := [.int .i64 a.1, .int .i64 a.2]
theorem O9 : Fl ES PA := (Fl.pair Fl.int Fl.int)
theorem OY : Et Try.prog 68 91 2 16 := Et.of N5 (by kernel_rfl) (by kernel_rfl) (by kernel_rfl) (by decide)
noncomputable def B6 (x1 : (List (Int × Int × Int))) (x6 : Int × Int × Int × Int × Int × Int) : (Int × (List (Int × Int))) → Option ((Int × (List (Int × Int))) ⊕ (List (Int × Int)))
  | (x7, x8) => (if x7 < (x1.length : Int) then ((ix x1 x7).bind fun x10 => (if x10.1 = x6.2.2.1 then (Fo x8 ([(x6.2.2.2.2.1, x10.2.2)] : List (Int × Int))).bind fun x11 => some x11 else some x8)).bind fun x9 => some (.inl (DC (x7 + 1), x9)) else some (.inr x8))
noncomputable def B4 (p0 : List (Int × Int × Int × Int × Int × Int)) (x1 : (List (Int × Int × Int))) : (Int × (List (Int × Int))) → Option ((Int × (List (Int × Int))) ⊕ (List (Int × Int)))
  | (x3, x4) => (if x3 < (p0.length : Int) then ((ix p0 x3).bind fun x6 => (if x6.1 ≠ 9 then some x4 else AF (B6 x1 x6) (0, x4))).bind fun x5 => some (.inl (DC (x3 + 1), x5)) else some (.inr x4))
noncomputable def Dv (p0 : List (Int × Int × Int × Int × Int × Int)) : Option ((List (Int × Int × Int)) × (List (Int × Int))) := (CW p0).bind fun x1 => (AF (B4 p0 x1) (0, [])).bind fun x2 => some (x1, x2)
theorem Jl (Y : Nat → Prop) (w0 : World) (v1 : Value) (p0 : List (Int × Int × Int × Int × Int × Int)) (r : ((List (Int × Int × Int)) × (List (Int × Int)))) (H : Dv p0 = some r) (h_v1 : Sl w0 (NX []) Ef v1 p0) :
    Calls Try.prog 26 #[v1] w0 fun e w' => ∃ x : Value × Value, e = .returned (.agg #[x.1, x.2]) ∧ Stw ⟨Y, [], w0⟩ [] [row (x.1) 38 CM r.1, row (x.2) 91 ES r.2] w' := by
 refine enter Try.func26 Aa Try.ntmps26 Aa fun a W => ?_
 have F := Stw.start Y w0
 unfold Dv at H
 refine Ah (Ab ?_)
 refine B3 (cs := [.slice none 0 0, .slice none 0 0]) W F Aa OB Aa fun b1 a w W F => ?_
 refine Ad (Ac (Ah (Ab ?_)))
 refine ls W F Aa (Ag W Aa).q fun a w W F => ?_
 obtain ⟨x1, h1, H⟩ := An H
 refine Cw (Ml := []) (Zl := []) (M := [(b1, [.slice none 0 0, .slice none 0 0])]) (Z := []) (β := Value) (rv := fun x => x) (MM := fun x => []) (ZZ := fun x => [row x 38 CM x1]) W F H9 Aa Aa (fun hL => In _ w (v1) p0 _ h1 ((Ak h_v1) w F).nx) fun x a w W F => ?_
 obtain ⟨v2, rfl⟩ : ∃ y, y = x := ⟨x, rfl⟩
 have F : Stw ⟨Y, [], w0⟩ [(b1, [.slice none 0 0, .slice none 0 0])] [row v2 38 CM x1] w := F
 refine ls W F Aa (Bx (v := Value.agg #[v2, .slice none 0 0]) PX W Aa (ED Aa (Dg (F.one (k := 0) Aa)) Aa FT) Aa).q fun a w W F => ?_
 refine B3 (cs := [.slice none 0 0, .slice none 0 0]) W F Aa OB Aa fun b2 a w W F => ?_
 refine BQ (vs := [v2, .slice none 0 0]) (M' := [(b2, [v2, .slice none 0 0]), (b1, [.slice none 0 0, .slice none 0 0])]) 0 W F Aa Aa Aa NS Aa Aa Aa (Bp (F.one (k := 0) Aa) (Bp Aa F4)) Aa fun w F => ?_
 refine Ad (Ac ?_)
 obtain ⟨o1, G1, K1⟩ := An H
 refine AR (fun a w => ∃ x2 : List (Int × Int), ∃ v3 : Value, some (x2) = some o1 ∧ Fr 45 [] [(2, .pointer (some ⟨b1, 0, none⟩)), (3, .pointer (some ⟨b2, 0, none⟩))] a ∧ Stw ⟨Y, [], w0⟩ [(b2, [v2, v3]), (b1, [.slice none 0 0, .slice none 0 0])] [row v2 38 CM x1, row v3 91 ES x2] w) ?_ ?_
 ·
  have H := G1
  clear G1 K1
  refine Ah (Ab ?_)
  refine ls W F Aa (Ag W Aa).q fun a w W F => ?_
  refine ls W F Aa (Bl (r := Ef) (l := p0) Km Aa W Aa (Ak h_v1)).q fun a w W F => ?_
  refine ls W F Aa (Ag W Aa).q fun a w W F => ?_
  refine Ad (Ac (Ax ?_))
  have F := F.nilRow 91 ES
  have F := F.frontZ (i := 1) Aa Aa
  have F := F.frontM (i := 1) Aa Aa
  have F := F.frontM (i := 1) Aa Aa
  refine BZ H (fun s a w => ∃ v4 : Value, Fr 45 [] [(2, .pointer (some ⟨b1, 0, none⟩)), (3, .pointer (some ⟨b2, 0, none⟩)), (11, v1), (12, .int .i64 (p0.length : Int)), (13, .int .i64 s.1)] a ∧ Stw ⟨Y, [], w0⟩ [(b2, [v2, v4]), (b1, [.slice none 0 0, .slice none 0 0])] [row v2 38 CM x1, row v4 91 ES s.2] w) ⟨(Value.slice none 0 0), W.re ⟨rfl, Aa, Aa, Aa, Aa, trivial⟩, F⟩ fun s o a w H L2 hR => ?_
  obtain ⟨x3, x4⟩ := s
  obtain ⟨v4, W, F⟩ := hR
  have W : Fr 45 [] [(2, .pointer (some ⟨b1, 0, none⟩)), (3, .pointer (some ⟨b2, 0, none⟩)), (11, v1), (12, .int .i64 (p0.length : Int)), (13, .int .i64 x3)] a := W
  have F : Stw ⟨Y, [], w0⟩ [(b2, [v2, v4]), (b1, [.slice none 0 0, .slice none 0 0])] [row v2 38 CM x1, row v4 91 ES x4] w := F
  rw [B4] at H
  refine Ah (Ab ?_)
  refine ls W F Aa (B0 W Aa Aa).q fun a w W F => ?_
  refine Ad (Ac (Ah ?_))
  refine AA W Aa (fun hb => ?_) fun hb => ?_
  ·
   have H := Ba (BO hb) H
   rw [hb] at W
   clear hb
   refine As (Ac ?_)
   obtain ⟨o3, G3, K3⟩ := An H
   refine AR (fun a w => ∃ x5 : List (Int × Int), ∃ v5 : Value, some (x5) = some o3 ∧ Fr 45 [] [(2, .pointer (some ⟨b1, 0, none⟩)), (3, .pointer (some ⟨b2, 0, none⟩)), (11, v1), (12, .int .i64 (p0.length : Int)), (13, .int .i64 x3)] a ∧ Stw ⟨Y, [], w0⟩ [(b2, [v2, v5]), (b1, [.slice none 0 0, .slice none 0 0])] [row v2 38 CM x1, row v5 91 ES x5] w) ?_ ?_
   ·
    have H := G3
    clear G3 K3
    refine Ax (Ah (Ab ?_))
    obtain ⟨x6, h2, H⟩ := An H
    refine ls W F Aa (AU (r := Ef) J4 W Aa Aa (Ak h_v1) h2).q fun a w W F => ?_
    refine ls W F Aa (AC (y := Value.agg #[.int .i64 x6.1, .int .i64 x6.2.1, .int .i64 x6.2.2.1, .int .i64 x6.2.2.2.1, .int .i64 x6.2.2.2.2.1, .int .i64 x6.2.2.2.2.2]) (j := 0) (i := x3) W Aa Aa (Ak h_v1) h2 Lx.to LL Aa).q fun a w W F => ?_
    refine B3 (cs := [.int .i64 0, .int .i64 0, .int .i64 0, .int .i64 0, .int .i64 0, .int .i64 0]) W F Aa Ny Aa fun b3 a w W F => ?_
    refine BQ (vs := [.int .i64 x6.1, .int .i64 x6.2.1, .int .i64 x6.2.2.1, .int .i64 x6.2.2.2.1, .int .i64 x6.2.2.2.2.1, .int .i64 x6.2.2.2.2.2]) (M' := [(b3, [.int .i64 x6.1, .int .i64 x6.2.1, .int .i64 x6.2.2.1, .int .i64 x6.2.2.2.1, .int .i64 x6.2.2.2.2.1, .int .i64 x6.2.2.2.2.2]), (b2, [v2, v4]), (b1, [.slice none 0 0, .slice none 0 0])]) 0 W F Aa Aa Aa LL Aa Aa Aa Aa Aa fun w F => ?_
    refine Ad (Ac (Ah (Ah (Ab ?_))))
    refine ls W F Aa (Af Ds Aa Aa Aa T3 W Aa 0 Aa).q fun a w W F => ?_
    refine ls W F Aa (Al (v := Value.int .i64 x6.1) 0 W Aa Aa T3 Aa).q fun a w W F => ?_
    refine ls W F Aa (GO W Aa Aa).q fun a w W F => ?_
    refine Ad (Ac ?_)
    refine AA W Aa (fun hb => ?_) fun hb => ?_
    ·
     have H := Ba (BO hb) H
     rw [hb] at W
     clear hb
     refine BH (Cj (BI (Ac ?_)))
     have F := F.frontZ (i := 1) Aa Aa
     have F := F.frontZ (i := 1) Aa Aa
     have F := F.frontM (i := 2) Aa Aa
     have F := F.frontM (i := 2) Aa Aa
     have F := F.sub (M' := [(b2, [v2, v4]), (b1, [.slice none 0 0, .slice none 0 0])]) (Z' := [row v2 38 CM x1, row v4 91 ES x4]) (List.Sublist.cons_cons _ (List.Sublist.cons_cons _ (List.nil_sublist _))) (List.Sublist.refl _)
     exact ⟨_, (v4), H, W.re ⟨rfl, Aa, Aa, Aa, Aa, trivial⟩, F⟩
    have H := A9 (BS hb) H
    rw [hb] at W
    clear hb
    refine As (Ac (Ah (Ab ?_)))
    refine ls W F Aa (Af Ll Aa Aa Aa Nj W Aa 0 Aa).q fun a w W F => ?_
    refine ls W F Aa (Al (v := v2) 1 W Aa Aa Nj Aa).q fun a w W F => ?_
    refine ls W F Aa (Bl (r := CM) (l := x1) MI Aa W Aa (AN 0 Aa)).q fun a w W F => ?_
    refine ls W F Aa (Ag W Aa).q fun a w W F => ?_
    refine Ad (Ac (Ax ?_))
    have F := F.frontZ (i := 1) Aa Aa
    have F := F.frontZ (i := 1) Aa Aa
    have F := F.frontM (i := 2) Aa Aa
    have F := F.frontM (i := 2) Aa Aa
    have F := F.frontM (i := 2) Aa Aa
    refine BZ H (fun s a w => ∃ v6 : Value, Fr 45 [] [(2, .pointer (some ⟨b1, 0, none⟩)), (3, .pointer (some ⟨b2, 0, none⟩)), (5, .pointer (some ⟨b3, 0, none⟩)), (11, v1), (12, .int .i64 (p0.length : Int)), (13, .int .i64 x3), (21, v2), (22, .int .i64 (x1.length : Int)), (23, .int .i64 s.1)] a ∧ Stw ⟨Y, [], w0⟩ [(b3, [.int .i64 x6.1, .int .i64 x6.2.1, .int .i64 x6.2.2.1, .int .i64 x6.2.2.2.1, .int .i64 x6.2.2.2.2.1, .int .i64 x6.2.2.2.2.2]), (b2, [v2, v6]), (b1, [.slice none 0 0, .slice none 0 0])] [row v2 38 CM x1, row v6 91 ES s.2] w) ⟨(v4), W.re ⟨rfl, Aa, Aa, Aa, Aa, Aa, Aa, Aa, Aa, trivial⟩, F⟩ fun s o a w H L4 hR => ?_
    obtain ⟨x7, x8⟩ := s
    obtain ⟨v6, W, F⟩ := hR
    have W : Fr 45 [] [(2, .pointer (some ⟨b1, 0, none⟩)), (3, .pointer (some ⟨b2, 0, none⟩)), (5, .pointer (some ⟨b3, 0, none⟩)), (11, v1), (12, .int .i64 (p0.length : Int)), (13, .int .i64 x3), (21, v2), (22, .int .i64 (x1.length : Int)), (23, .int .i64 x7)] a := W
    have F : Stw ⟨Y, [], w0⟩ [(b3, [.int .i64 x6.1, .int .i64 x6.2.1, .int .i64 x6.2.2.1, .int .i64 x6.2.2.2.1, .int .i64 x6.2.2.2.2.1, .int .i64 x6.2.2.2.2.2]), (b2, [v2, v6]), (b1, [.slice none 0 0, .slice none 0 0])] [row v2 38 CM x1, row v6 91 ES x8] w := F
    rw [B6] at H
    refine Ah (Ab ?_)
    refine ls W F Aa (B0 W Aa Aa).q fun a w W F => ?_
    refine Ad (Ac (Ah ?_))
    refine AA W Aa (fun hb => ?_) fun hb => ?_
    ·
     have H := Ba (BO hb) H
     rw [hb] at W
     clear hb
     refine As (Ac ?_)
     obtain ⟨o5, G5, K5⟩ := An H
     refine AR (fun a w => ∃ x9 : List (Int × Int), ∃ v7 : Value, some (x9) = some o5 ∧ Fr 45 [] [(2, .pointer (some ⟨b1, 0, none⟩)), (3, .pointer (some ⟨b2, 0, none⟩)), (5, .pointer (some ⟨b3, 0, none⟩)), (11, v1), (12, .int .i64 (p0.length : Int)), (13, .int .i64 x3), (21, v2), (22, .int .i64 (x1.length : Int)), (23, .int .i64 x7)] a ∧ Stw ⟨Y, [], w0⟩ [(b3, [.int .i64 x6.1, .int .i64 x6.2.1, .int .i64 x6.2.2.1, .int .i64 x6.2.2.2.1, .int .i64 x6.2.2.2.2.1, .int .i64 x6.2.2.2.2.2]), (b2, [v2, v7]), (b1, [.slice none 0 0, .slice none 0 0])] [row v2 38 CM x1, row v7 91 ES x9] w) ?_ ?_
     ·
      have H := G5
      clear G5 K5
      refine Ax (Ah (Ab ?_))
      obtain ⟨x10, h3, H⟩ := An H
      refine ls W F Aa (AU (r := CM) Ni W Aa Aa (AN 0 Aa) h3).q fun a w W F => ?_
      refine ls W F Aa (AC (y := Value.agg #[.int .i64 x10.1, .int .i64 x10.2.1, .int .i64 x10.2.2]) (j := 0) (i := x7) W Aa Aa (AN 0 Aa) h3 NO.to Mz Aa).q fun a w W F => ?_
      refine B3 (cs := [.int .i64 0, .int .i64 0, .int .i64 0]) W F Aa ON Aa fun b4 a w W F => ?_
      refine BQ (vs := [.int .i64 x10.1, .int .i64 x10.2.1, .int .i64 x10.2.2]) (M' := [(b4, [.int .i64 x10.1, .int .i64 x10.2.1, .int .i64 x10.2.2]), (b3, [.int .i64 x6.1, .int .i64 x6.2.1, .int .i64 x6.2.2.1, .int .i64 x6.2.2.2.1, .int .i64 x6.2.2.2.2.1, .int .i64 x6.2.2.2.2.2]), (b2, [v2, v6]), (b1, [.slice none 0 0, .slice none 0 0])]) 0 W F Aa Aa Aa Mz Aa Aa Aa Aa Aa fun w F => ?_
      refine Ad (Ac (Ah (Ab ?_)))
      refine ls W F Aa (Af La Aa Aa Aa T3 W Aa 0 Aa).q fun a w W F => ?_
      refine ls W F Aa (Al (v := Value.int .i64 x10.1) 0 W Aa Aa T3 Aa).q fun a w W F => ?_
      refine ls W F Aa (Af Ds Aa Aa Aa T3 W Aa 2 Aa).q fun a w W F => ?_
      refine ls W F Aa (Al (v := Value.int .i64 x6.2.2.1) 1 W Aa Aa T3 Aa).q fun a w W F => ?_
      refine ls W F Aa (C9 W Aa Aa).q fun a w W F => ?_
      refine Ad (Ac ?_)
      refine AA W Aa (fun hb => ?_) fun hb => ?_
      ·
       have H := Ba (BO hb) H
       rw [hb] at W
       clear hb
       refine Ab ?_
       refine ls W F Aa (Af Ll Aa Aa Aa Nd W Aa 1 Aa).q fun a w W F => ?_
       refine ls W F Aa (Al (v := v6) 2 W Aa Aa Nd Aa).q fun a w W F => ?_
       refine ls W F Aa (Af Ds Aa Aa Aa T3 W Aa 4 Aa).q fun a w W F => ?_
       refine ls W F Aa (Al (v := Value.int .i64 x6.2.2.2.2.1) 1 W Aa Aa T3 Aa).q fun a w W F => ?_
       refine ls W F Aa (Af La Aa Aa Aa T3 W Aa 2 Aa).q fun a w W F => ?_
       refine ls W F Aa (Al (v := Value.int .i64 x10.2.2) 0 W Aa Aa T3 Aa).q fun a w W F => ?_
       refine ls W F Aa (Bx (v := Value.agg #[.int .i64 x6.2.2.2.2.1, .int .i64 x10.2.2]) PM W Aa Aa Aa).q fun a w W F => ?_
       refine Do (z := Value.agg #[.int .i64 0, .int .i64 0]) (cs := [.int .i64 x6.2.2.2.2.1, .int .i64 x10.2.2]) ES ([(x6.2.2.2.2.1, x10.2.2)] : List (Int × Int)) W F Aa OY Pd Aa Aa Aa Aa Aa Aa (O9.repL _ _ ([(x6.2.2.2.2.1, x10.2.2)] : List (Int × Int))) fun v8 a w W F => ?_
       obtain ⟨x11, h4, H⟩ := An H
       refine Cr (r := ES) (i := 2) W F Aa OY Aa Aa Aa Aa (C5 F 0 Aa) h4 Aa fun v9 a w W F => ?_
       have F : Stw ⟨Y, [], w0⟩ [(b4, [.int .i64 x10.1, .int .i64 x10.2.1, .int .i64 x10.2.2]), (b3, [.int .i64 x6.1, .int .i64 x6.2.1, .int .i64 x6.2.2.1, .int .i64 x6.2.2.2.1, .int .i64 x6.2.2.2.2.1, .int .i64 x6.2.2.2.2.2]), (b2, [v2, v6]), (b1, [.slice none 0 0, .slice none 0 0])] [row v9 91 ES x11, row v8 91 ES ([(x6.2.2.2.2.1, x10.2.2)] : List (Int × Int)), row v2 38 CM x1] w := F
       refine ls W F Aa (Af Ll Aa Aa Aa Nd W Aa 1 Aa).q fun a w W F => ?_
       refine GR (M' := [(b4, [.int .i64 x10.1, .int .i64 x10.2.1, .int .i64 x10.2.2]), (b3, [.int .i64 x6.1, .int .i64 x6.2.1, .int .i64 x6.2.2.1, .int .i64 x6.2.2.2.1, .int .i64 x6.2.2.2.2.1, .int .i64 x6.2.2.2.2.2]), (b2, [v2, v9]), (b1, [.slice none 0 0, .slice none 0 0])]) 2 W F Aa Aa Aa Nd (F.one (k := 0) Aa) Aa Aa fun w F => ?_
       refine Ad (AP (Ac ?_))
       have F := F.frontZ (i := 2) Aa Aa
       have F := F.frontM (i := 3) Aa Aa
       have F := F.frontM (i := 3) Aa Aa
       have F := F.frontM (i := 3) Aa Aa
       have F := F.sub (M' := [(b3, [.int .i64 x6.1, .int .i64 x6.2.1, .int .i64 x6.2.2.1, .int .i64 x6.2.2.2.1, .int .i64 x6.2.2.2.2.1, .int .i64 x6.2.2.2.2.2]), (b2, [v2, v9]), (b1, [.slice none 0 0, .slice none 0 0])]) (Z' := [row v2 38 CM x1, row v9 91 ES x11]) (List.Sublist.cons_cons _ (List.Sublist.cons_cons _ (List.Sublist.cons_cons _ (List.nil_sublist _)))) (List.Sublist.cons_cons _ (List.Sublist.cons_cons _ (List.nil_sublist _)))
       exact ⟨_, (v9), H, W.re ⟨rfl, Aa, Aa, Aa, Aa, Aa, Aa, Aa, Aa, trivial⟩, F⟩
      have H := A9 (BS hb) H
      rw [hb] at W
      clear hb
      refine As (AP (Ac ?_))
      have F := F.frontZ (i := 1) Aa Aa
      have F := F.frontZ (i := 1) Aa Aa
      have F := F.frontM (i := 3) Aa Aa
      have F := F.frontM (i := 3) Aa Aa
      have F := F.frontM (i := 3) Aa Aa
      have F := F.sub (M' := [(b3, [.int .i64 x6.1, .int .i64 x6.2.1, .int .i64 x6.2.2.1, .int .i64 x6.2.2.2.1, .int .i64 x6.2.2.2.2.1, .int .i64 x6.2.2.2.2.2]), (b2, [v2, v6]), (b1, [.slice none 0 0, .slice none 0 0])]) (Z' := [row v2 38 CM x1, row v6 91 ES x8]) (List.Sublist.cons_cons _ (List.Sublist.cons_cons _ (List.Sublist.cons_cons _ (List.nil_sublist _)))) (List.Sublist.refl _)
      exact ⟨_, (v6), H, W.re ⟨rfl, Aa, Aa, Aa, Aa, Aa, Aa, Aa, Aa, trivial⟩, F⟩
     rintro a w ⟨x9, v7, hj, W, F⟩
     have hj := A1 hj
     subst hj
     have H := K5
     clear G5 K5
     refine Ab ?_
     refine ls W F Aa (Dk W Aa Aa Aa).q fun a w W F => ?_
     refine ls W F Aa (Ag W Aa).q fun a w W F => ?_
     refine Ad (Ac ?_)
     have F := F.frontZ (i := 1) Aa Aa
     have F := F.frontZ (i := 1) Aa Aa
     have F := F.frontM (i := 2) Aa Aa
     have F := F.frontM (i := 2) Aa Aa
     have F := F.frontM (i := 2) Aa Aa
     exact ⟨_, H, (v7), W.re ⟨rfl, Aa, Aa, Aa, Aa, Aa, Aa, Aa, Aa, trivial⟩, F⟩
    have H := A9 (BS hb) H
    rw [hb] at W
    clear hb
    refine BH ?_
    iterate 2 refine Cj ?_
    refine BI (AP (Ac ?_))
    have F := F.frontZ (i := 1) Aa Aa
    have F := F.frontZ (i := 1) Aa Aa
    have F := F.frontM (i := 2) Aa Aa
    have F := F.frontM (i := 2) Aa Aa
    have F := F.sub (M' := [(b2, [v2, v6]), (b1, [.slice none 0 0, .slice none 0 0])]) (Z' := [row v2 38 CM x1, row v6 91 ES x8]) (List.Sublist.cons_cons _ (List.Sublist.cons_cons _ (List.nil_sublist _))) (List.Sublist.refl _)
    have H := L4 _ H
    exact ⟨_, (v6), H, W.re ⟨rfl, Aa, Aa, Aa, Aa, trivial⟩, F⟩
   rintro a w ⟨x5, v5, hj, W, F⟩
   have hj := A1 hj
   subst hj
   have H := K3
   clear G3 K3
   refine Ab ?_
   refine ls W F Aa (Dk W Aa Aa Aa).q fun a w W F => ?_
   refine ls W F Aa (Ag W Aa).q fun a w W F => ?_
   refine Ad (Ac ?_)
   have F := F.frontZ (i := 1) Aa Aa
   have F := F.frontZ (i := 1) Aa Aa
   have F := F.frontM (i := 1) Aa Aa
   have F := F.frontM (i := 1) Aa Aa
   exact ⟨_, H, (v5), W.re ⟨rfl, Aa, Aa, Aa, Aa, trivial⟩, F⟩
  have H := A9 (BS hb) H
  rw [hb] at W
  clear hb
  refine BH ?_
  iterate 2 refine Cj ?_
  refine BI (Ac ?_)
  have F := F.frontZ (i := 1) Aa Aa
  have F := F.frontZ (i := 1) Aa Aa
  have F := F.frontM (i := 1) Aa Aa
  have F := F.frontM (i := 1) Aa Aa
  have H := L2 _ H
  exact ⟨_, (v4), H, W.re ⟨rfl, Aa, trivial⟩, F⟩
 rintro a w ⟨x2, v3, hj, W, F⟩
 have hj := A1 hj
 subst hj
 have H := K1
 clear G1 K1
 refine Ah (Ab ?_)
 refine ls W F Aa (Al (v := Value.agg #[v2, v3]) 0 W Aa Aa NS Aa).q fun a w W F => ?_
 refine BQ (vs := [v2, v3]) (M' := [(b2, [v2, v3]), (b1, [v2, v3])]) 1 W F Aa Aa Aa NS Aa Aa Aa (Bp (F.one (k := 0) Aa) (Bp (F.one (k := 1) Aa) F4)) Aa fun w F => ?_
 refine Ad (Ac (AB ?_))
 have H := A1 H
 subst H
 refine Be (.inl Aa) W F Aa (I7 1 W Aa Aa NS Aa) ?_
 have F := F.frontZ (i := 1) Aa Aa
 have F := F.frontZ (i := 1) Aa Aa
 have F := F.sub (M' := []) (Z' := [row v2 38 CM x1, row v3 91 ES x2]) (List.nil_sublist _) (List.Sublist.refl _)
 exact ⟨((v2), (v3)), Aa, F⟩
theorem HF : type_of% Try.underlying98 := Try.underlying98
theorem PS : Has Try.prog 26 := ⟨fun args w => Aj Try.func26 rfl (by decide) args w⟩
theorem Qg : Bt Try.prog 98 [.slice none 0 0, .map none, .slice none 0 0] [(0, 1), (1, 1), (2, 1)] := ⟨⟨.agg #[.slice none 0 0, .map none, .slice none 0 0], by kernel_rfl, rfl⟩, ⟨_, HF, fun w => by kernel_rfl⟩⟩
theorem Qj : (Try.prog.info? 98).bind (·.zero) = some (.agg #[.slice none 0 0, .map none, .slice none 0 0]) := by kernel_rfl
theorem Pz : Ty Try.prog 98 true 3 := ⟨by kernel_rfl, by kernel_rfl⟩
abbrev Ip : Rp (Int × Int × Int × Int × List Int × Int × Int × Int) := (Rp.pair (Rp.int .i64) (Rp.pair (Rp.int .i64) (Rp.pair (Rp.int .i64) (Rp.pair (Rp.int .i64) (Rp.pair (Rp.slice (Rp.int .i64)) (Rp.pair (Rp.int .i64) (Rp.pair (Rp.int .i64) (Rp.int .i64))))))))
abbrev BD : Dp (Int × Int × Int × Int × (Value × Nat × List Int) × Int × Int × Int) := (Dp.pair (Dp.fl 1 (fun a => [.int .i64 a]) (fun _ => rfl)) (Dp.pair (Dp.fl 1 (fun a => [.int .i64 a]) (fun _ => rfl)) (Dp.pair (Dp.fl 1 (fun a => [.int .i64 a]) (fun _ => rfl)) (Dp.pair (Dp.fl 1 (fun a => [.int .i64 a]) (fun _ => rfl)) (Dp.pair (Dp.sl 3 (Rp.int .i64)) (Dp.pair (Dp.fl 1 (fun a => [.int .i64 a]) (fun _ => rfl)) (Dp.pair (Dp.fl 1 (fun a => [.int .i64 a]) (fun _ => rfl)) (Dp.fl 1 (fun a => [.int .i64 a]) (fun _ => rfl)))))))))
abbrev Co (p : Int × Int × Int × Int × (Value × Nat × List Int) × Int × Int × Int) : Int × Int × Int × Int × (Nat × List Int) × Int × Int × Int := (p.1, p.2.1, p.2.2.1, p.2.2.2.1, p.2.2.2.2.1.2, p.2.2.2.2.2.1, p.2.2.2.2.2.2.1, p.2.2.2.2.2.2.2)
abbrev Lp : (Int × Int × Int × Int × (Nat × List Int) × Int × Int × Int) → Option (Int × Int × Int × Int × List Int × Int × Int × Int) := (fun (p : Int × Int × Int × Int × (Nat × List Int) × Int × Int × Int) => (some p.1).bind fun a => ((fun (p : Int × Int × Int × (Nat × List Int) × Int × Int × Int) => (some p.1).bind fun a => ((fun (p : Int × Int × (Nat × List Int) × Int × Int × Int) => (some p.1).bind fun a => ((fun (p : Int × (Nat × List Int) × Int × Int × Int) => (some p.1).bind fun a => ((fun (p : (Nat × List Int) × Int × Int × Int) => (OW p.1).bind fun a => ((fun (p : Int × Int × Int) => (some p.1).bind fun a => ((fun (p : Int × Int) => (some p.1).bind fun a => (some p.2).bind fun b => some (a, b)) p.2).bind fun b => some (a, b)) p.2).bind fun b => some (a, b)) p.2).bind fun b => some (a, b)) p.2).bind fun b => some (a, b)) p.2).bind fun b => some (a, b)) p.2).bind fun b => some (a, b))
theorem OD : Rst BD Ip Co Lp := (Rst.pair (Rst.flat Fl.int (fun _ => rfl) rfl) (Rst.pair (Rst.flat Fl.int (fun _ => rfl) rfl) (Rst.pair (Rst.flat Fl.int (fun _ => rfl) rfl) (Rst.pair (Rst.flat Fl.int (fun _ => rfl) rfl) (Rst.pair Rst.sl (Rst.pair (Rst.flat Fl.int (fun _ => rfl) rfl) (Rst.pair (Rst.flat Fl.int (fun _ => rfl) rfl) (Rst.flat Fl.int (fun _ => rfl) rfl))))))))
theorem Gy : Ty Try.prog 54 false 1 := ⟨by kernel_rfl, by kernel_rfl⟩
def Au (p0 : (List (Int × Int × Int × Int × (Nat × List Int) × Int × Int × Int)) × (List (Int × Int)) × List Int) (p1 : Int) : Int := (if (!((Cy p0.2.1 p1).isSome)) = true then (-1) else (Cy p0.2.1 p1).getD 0)
theorem DJ (Y : Nat → Prop) (X : List Nat) (w0 : World) (q_p0 : Nat) (v1 : Value) (m_v2 : Nat) (v3 : Value) (p0 : (List (Int × Int × Int × Int × (Nat × List Int) × Int × Int × Int)) × (List (Int × Int)) × List Int) (p1 : Int) (d_v1 : {x : List (Int × Int × Int × Int × (Value × Nat × List Int) × Int × Int × Int) // x.map Co = p0.1}) (r : Int) (H : Au p0 p1 = r) (hL : Stw ⟨Y, X, w0⟩ [(q_p0, [v1, .map (some m_v2), v3])] [Bd v1 78 BD d_v1.1, row v3 3 (Rp.int .i64) p0.2.2, mp m_v2 Bo Bo p0.2.1] w0) :
    Calls Try.prog 52 #[.pointer (some ⟨q_p0, 0, none⟩), .int .i64 p1] w0 fun e w' => ∃ x : Unit, e = .returned (.int .i64 r) ∧ Stw ⟨Y, X, w0⟩ [(q_p0, [v1, .map (some m_v2), v3])] [Bd v1 78 BD d_v1.1, row v3 3 (Rp.int .i64) p0.2.2, mp m_v2 Bo Bo p0.2.1] w' := by
 refine enter Try.func52 Aa Try.ntmps52 Aa fun a W => ?_
 have F := hL
 unfold Au at H
 refine Ah (Ab ?_)
 refine ls W F Aa (Ae W Aa).q fun a w W F => ?_
 refine Ad (Ac (Ah (Ab ?_)))
 refine ls W F Aa (Ag W Aa).q fun a w W F => ?_
 refine ls W F Aa (BM W Aa).q fun a w W F => ?_
 refine ls W F Aa (Af HF Aa Aa Aa Nb W Aa 1 Aa).q fun a w W F => ?_
 refine ls W F Aa (Al (v := Value.map (some m_v2)) 0 W Aa Aa Nb Aa).q fun a w W F => ?_
 refine ls W F Aa (Ag W Aa).q fun a w W F => ?_
 refine ls W F Aa (GX (zv := (0 : Int)) (kx := (p1 : Int)) (q := 2) (E := Bo) (V := Bo) W Aa Aa Aa NT Mm Z3).q fun a w W F => ?_
 refine ls W F Aa (Ag W Aa).q fun a w W F => ?_
 refine ls W F Aa (BV (v := Value.int .i64 ((Cy p0.2.1 p1).getD 0)) W Aa Aa).q fun a w W F => ?_
 refine ls W F Aa (BV (v := Value.bool ((Cy p0.2.1 p1).isSome)) W Aa Aa).q fun a w W F => ?_
 iterate 2 refine ls W F Aa (Ae W Aa).q fun a w W F => ?_
 refine Ad (Ac (Ah (Ah (Ab ?_))))
 refine ls W F Aa (Ag W Aa).q fun a w W F => ?_
 refine ls W F Aa (Ga W Aa).q fun a w W F => ?_
 refine Ad (Ac ?_)
 refine AA W Aa (fun hb => ?_) fun hb => ?_
 ·
  have H := Ba hb H
  rw [hb] at W
  clear hb
  refine Ah (Ab ?_)
  refine ls W F Aa (Ae W Aa).q fun a w W F => ?_
  refine Ad (Ac (AB (AO ?_)))
  subst H
  refine Be (.inl Aa) W F Aa (Aw W Aa) ?_
  have F := F.frontZ (i := 2) Aa Aa
  have F := F.frontZ (i := 2) Aa Aa
  have F := F.frontZ (i := 2) Aa Aa
  exact ⟨(), Aa, F⟩
 have H := A9 (by rw [hb]; decide) H
 rw [hb] at W
 clear hb
 refine As (Ac (Ah (Ab ?_)))
 refine ls W F Aa (Ag W Aa).q fun a w W F => ?_
 refine ls W F Aa (Ae W Aa).q fun a w W F => ?_
 refine Ad (Ac (AB ?_))
 subst H
 refine Be (.inl Aa) W F Aa (Aw W Aa) ?_
 have F := F.frontZ (i := 2) Aa Aa
 have F := F.frontZ (i := 2) Aa Aa
 have F := F.frontZ (i := 2) Aa Aa
 exact ⟨(), Aa, F⟩
theorem NH : type_of% Try.underlying75 := Try.underlying75
theorem Ek : type_of% Try.underlying78 := Try.underlying78
theorem O2 : Has Try.prog 52 := ⟨fun args w => Aj Try.func52 rfl (by decide) args w⟩
theorem Mv : Ty Try.prog 75 false 1 := ⟨by kernel_rfl, by kernel_rfl⟩
theorem Po : Bt Try.prog 78 [.int .i64 0, .int .i64 0, .int .i64 0, .int .i64 0, .slice none 0 0, .int .i64 0, .int .i64 0, .int .i64 0] [(0, 1), (1, 1), (2, 1), (3, 1), (4, 1), (5, 1), (6, 1), (7, 1)] := ⟨⟨.agg #[.int .i64 0, .int .i64 0, .int .i64 0, .int .i64 0, .slice none 0 0, .int .i64 0, .int .i64 0, .int .i64 0], by kernel_rfl, rfl⟩, ⟨_, Ek, fun w => by kernel_rfl⟩⟩
theorem O7 : (Try.prog.info? 78).bind (·.zero) = some (.agg #[.int .i64 0, .int .i64 0, .int .i64 0, .int .i64 0, .slice none 0 0, .int .i64 0, .int .i64 0, .int .i64 0]) := by kernel_rfl
theorem OA : Et Try.prog 75 78 8 80 := Et.of NH (by kernel_rfl) (by kernel_rfl) (by kernel_rfl) (by decide)
noncomputable def CC (p0 : (List (Int × Int × Int × Int × (Nat × List Int) × Int × Int × Int)) × (List (Int × Int)) × List Int) (p1 : Int × Int × Int × Int × Int × Int) : Option ((List (Int × Int × Int × Int × (Nat × List Int) × Int × Int × Int)) × (List (Int × Int)) × List Int) := (Fo p0.2.2 ([(Au p0 p1.2.2.1)] : List Int)).bind fun x1 => (Fo p0.1 ([(p1.2.2.1, p1.2.2.2.2.1, p1.2.2.2.2.2, p1.2.1, (2, []), 0, 0, p1.2.1)] : List (Int × Int × Int × Int × (Nat × List Int) × Int × Int × Int))).bind fun x2 => some (x2, CP p0.2.1 p1.2.2.1 (p0.1.length : Int), x1)
theorem GC (Y : Nat → Prop) (X : List Nat) (w0 : World) (q_p0 : Nat) (v1 : Value) (m_v2 : Nat) (v3 : Value) (p0 : (List (Int × Int × Int × Int × (Nat × List Int) × Int × Int × Int)) × (List (Int × Int)) × List Int) (p1 : Int × Int × Int × Int × Int × Int) (d_v1 : {x : List (Int × Int × Int × Int × (Value × Nat × List Int) × Int × Int × Int) // x.map Co = p0.1}) (r : ((List (Int × Int × Int × Int × (Nat × List Int) × Int × Int × Int)) × (List (Int × Int)) × List Int)) (H : CC p0 p1 = some r) (hL : Stw ⟨Y, X, w0⟩ [(q_p0, [v1, .map (some m_v2), v3])] [Bd v1 78 BD d_v1.1, row v3 3 (Rp.int .i64) p0.2.2, mp m_v2 Bo Bo p0.2.1] w0) :
    Calls Try.prog 51 #[.pointer (some ⟨q_p0, 0, none⟩), .agg #[.int .i64 p1.1, .int .i64 p1.2.1, .int .i64 p1.2.2.1, .int .i64 p1.2.2.2.1, .int .i64 p1.2.2.2.2.1, .int .i64 p1.2.2.2.2.2]] w0 fun e w' => ∃ x : Value × ({x : List (Int × Int × Int × Int × (Value × Nat × List Int) × Int × Int × Int) // x.map Co = r.1}) × Value, e = .returned (.tuple #[]) ∧ Stw ⟨Y, X, w0⟩ [(q_p0, [x.1, .map (some m_v2), x.2.2])] [Bd (x.1) 78 BD (x.2.1.1), row (x.2.2) 3 (Rp.int .i64) r.2.2, mp m_v2 Bo Bo r.2.1] w' := by
 refine enter Try.func51 Aa Try.ntmps51 Aa fun a W => ?_
 have F := hL
 unfold CC at H
 refine Ah (Ab ?_)
 refine Cx (cs := [.int .i64 p1.1, .int .i64 p1.2.1, .int .i64 p1.2.2.1, .int .i64 p1.2.2.2.1, .int .i64 p1.2.2.2.2.1, .int .i64 p1.2.2.2.2.2]) W F Aa Aa Aa fun b1 a w W F => ?_
 refine Ad (Ac (Ah ?_))
 refine GP [(true, 0), (true, 1), (true, 2), (true, 3), (true, 4), (true, 5), (true, 6), (true, 7), (false, 8), (false, 9), (false, 10), (true, 11), (true, 12), (false, 13)] (CN ⟨Y, X, w0⟩ [(some 10, q_p0, [v1, .map (some m_v2), v3]), (some 8, b1, [.int .i64 p1.1, .int .i64 p1.2.1, .int .i64 p1.2.2.1, .int .i64 p1.2.2.2.1, .int .i64 p1.2.2.2.2.1, .int .i64 p1.2.2.2.2.2])] []) (fun ch a d v w h => by cases d <;> exact h) MO (by kernel_rfl) F (fun w F => ⟨_, _, F, (all_cons (fun _ => (.tail _ (.head _))) (all_cons (fun _ => (.head _)) Bf)), Bf⟩) fun w F => ?_
 iterate 2 refine Cs (R := []) W Aa Aa (yC fun M Z hN hZ => Ag W Aa) Aa Aa fun a W => ?_
 refine Cs (R := []) W Aa Aa (yC fun M Z hN hZ => BM W Aa) Aa Aa fun a W => ?_
 refine Cs (R := []) W Aa Aa (yC fun M Z hN hZ => Af HF Aa Aa Aa Gy W Aa 2 Aa) Aa Aa fun a W => ?_
 refine Cs (R := [10]) W Aa Aa (yC fun M Z hN hZ => CZ (cs := [v1, .map (some m_v2), v3]) (v := v3) W Aa (hN ((some 10), q_p0, [v1, .map (some m_v2), v3]) (.head _) Aa) Gy Aa) (by kernel_rfl) Aa fun a W => ?_
 refine Cs (R := []) W Aa Aa (yC fun M Z hN hZ => Ag W Aa) Aa Aa fun a W => ?_
 refine Cs (R := []) W Aa Aa (yC fun M Z hN hZ => Af Ds Aa Aa Aa T3 W Aa 2 Aa) Aa Aa fun a W => ?_
 refine Cs (R := [8]) W Aa Aa (yC fun M Z hN hZ => CZ (cs := [.int .i64 p1.1, .int .i64 p1.2.1, .int .i64 p1.2.2.1, .int .i64 p1.2.2.2.1, .int .i64 p1.2.2.2.2.1, .int .i64 p1.2.2.2.2.2]) (v := Value.int .i64 p1.2.2.1) W Aa (hN ((some 8), b1, [.int .i64 p1.1, .int .i64 p1.2.1, .int .i64 p1.2.2.1, .int .i64 p1.2.2.2.1, .int .i64 p1.2.2.2.2.1, .int .i64 p1.2.2.2.2.2]) (.tail _ (.head _)) Aa) T3 Aa) (by kernel_rfl) Aa fun a W => ?_
 refine GV Aa ?_
 have F := F.frontZ (i := 2) Aa Aa
 have F := F.frontZ (i := 2) Aa Aa
 have F := F.frontZ (i := 2) Aa Aa
 have F := F.frontM (i := 1) Aa Aa
 refine Cw (Ml := [(q_p0, [v1, .map (some m_v2), v3])]) (Zl := [Bd v1 78 BD d_v1.1, row v3 3 (Rp.int .i64) p0.2.2, mp m_v2 Bo Bo p0.2.1]) (M := [(b1, [.int .i64 p1.1, .int .i64 p1.2.1, .int .i64 p1.2.2.1, .int .i64 p1.2.2.2.1, .int .i64 p1.2.2.2.2.1, .int .i64 p1.2.2.2.2.2])]) (Z := []) (β := Unit) (rv := fun x => .int .i64 (Au p0 p1.2.2.1)) (MM := fun x => [(q_p0, [v1, .map (some m_v2), v3])]) (ZZ := fun x => [Bd v1 78 BD d_v1.1, row v3 3 (Rp.int .i64) p0.2.2, mp m_v2 Bo Bo p0.2.1]) W F O2 Aa Aa (fun hL => DJ _ _ w q_p0 (v1) m_v2 (v3) p0 p1.2.2.1 ⟨d_v1.1, d_v1.2⟩ _ Aa hL) fun x a w W F => ?_
 have F : Stw ⟨Y, X, w0⟩ [(q_p0, [v1, .map (some m_v2), v3]), (b1, [.int .i64 p1.1, .int .i64 p1.2.1, .int .i64 p1.2.2.1, .int .i64 p1.2.2.2.1, .int .i64 p1.2.2.2.2.1, .int .i64 p1.2.2.2.2.2])] [Bd v1 78 BD d_v1.1, row v3 3 (Rp.int .i64) p0.2.2, mp m_v2 Bo Bo p0.2.1] w := F
 refine Dh (N2 := []) (NZ2 := []) (N3 := [(some 10, q_p0, [v1, .map (some m_v2), v3]), (some 8, b1, [.int .i64 p1.1, .int .i64 p1.2.1, .int .i64 p1.2.2.1, .int .i64 p1.2.2.2.1, .int .i64 p1.2.2.2.2.1, .int .i64 p1.2.2.2.2.2])]) (NZ3 := []) F Aa Aa (all_cons (fun _ => (.head _)) (all_cons (fun h => BA (by kernel_rfl) h) Bf)) Bf ?_
 refine GV Aa ?_
 refine Do (z := Value.int .i64 0) (cs := [.int .i64 (Au p0 p1.2.2.1)]) (Rp.int .i64) ([(Au p0 p1.2.2.1)] : List Int) W F Aa Jy Z3 Aa Aa Aa Aa Aa Aa (Fl.int.repL _ _ ([(Au p0 p1.2.2.1)] : List Int)) fun v4 a w W F => ?_
 refine Dh (N2 := []) (NZ2 := []) (N3 := [(some 10, q_p0, [v1, .map (some m_v2), v3]), (some 8, b1, [.int .i64 p1.1, .int .i64 p1.2.1, .int .i64 p1.2.2.1, .int .i64 p1.2.2.2.1, .int .i64 p1.2.2.2.2.1, .int .i64 p1.2.2.2.2.2])]) (NZ3 := []) F Aa Aa (all_cons (fun _ => (.head _)) (all_cons (fun h => BA (by kernel_rfl) h) Bf)) Bf ?_
 refine GV Aa ?_
 obtain ⟨x1, h1, H⟩ := An H
 refine Cr (r := (Rp.int .i64)) (i := 2) W F Aa Jy Aa Aa Aa Aa (C5 F 0 Aa) h1 Aa fun v5 a w W F => ?_
 have F : Stw ⟨Y, X, w0⟩ [(q_p0, [v1, .map (some m_v2), v3]), (b1, [.int .i64 p1.1, .int .i64 p1.2.1, .int .i64 p1.2.2.1, .int .i64 p1.2.2.2.1, .int .i64 p1.2.2.2.2.1, .int .i64 p1.2.2.2.2.2])] [row v5 3 (Rp.int .i64) x1, row v4 3 (Rp.int .i64) ([(Au p0 p1.2.2.1)] : List Int), Bd v1 78 BD d_v1.1, mp m_v2 Bo Bo p0.2.1] w := F
 refine Dh (N2 := []) (NZ2 := []) (N3 := [(some 10, q_p0, [v1, .map (some m_v2), v3]), (some 8, b1, [.int .i64 p1.1, .int .i64 p1.2.1, .int .i64 p1.2.2.1, .int .i64 p1.2.2.2.1, .int .i64 p1.2.2.2.2.1, .int .i64 p1.2.2.2.2.2])]) (NZ3 := []) F Aa Aa (all_cons (fun h => BA (by kernel_rfl) h) (all_cons (fun h => BA (by kernel_rfl) h) Bf)) Bf ?_
 refine Cs (R := []) W Aa Aa (yC fun M Z hN hZ => BM W Aa) Aa Aa fun a W => ?_
 refine Cs (R := []) W Aa Aa (yC fun M Z hN hZ => Af HF Aa Aa Aa Gy W Aa 2 Aa) Aa Aa fun a W => ?_
 refine GV Aa ?_
 refine GR (M' := [(q_p0, [v1, .map (some m_v2), v5]), (b1, [.int .i64 p1.1, .int .i64 p1.2.1, .int .i64 p1.2.2.1, .int .i64 p1.2.2.2.1, .int .i64 p1.2.2.2.2.1, .int .i64 p1.2.2.2.2.2])]) 0 W F Aa Aa Aa Gy (F.one (k := 0) Aa) Aa Aa fun w F => ?_
 refine Dh (N2 := []) (NZ2 := []) (N3 := [(some 10, q_p0, [v1, .map (some m_v2), v3]), (some 8, b1, [.int .i64 p1.1, .int .i64 p1.2.1, .int .i64 p1.2.2.1, .int .i64 p1.2.2.2.1, .int .i64 p1.2.2.2.2.1, .int .i64 p1.2.2.2.2.2])]) (NZ3 := []) F Aa Aa (all_cons (fun h => BA (by kernel_rfl) h) (all_cons (fun h => BA (by kernel_rfl) h) Bf)) Bf ?_
 refine I5 (Ac (Ah ?_))
 refine Ii 11 F MO (by kernel_rfl) ?_
 refine qs W Aa (Ag W Aa).q fun a W => ?_
 refine qs W Aa (BM W Aa).q fun a W => ?_
 refine qs W Aa (Af HF Aa Aa Aa Nb W Aa 1 Aa).q fun a W => ?_
 refine qs W Aa (Al (v := Value.map (some m_v2)) 0 W Aa Aa Nb Aa).q fun a W => ?_
 refine qs W Aa (Af Ds Aa Aa Aa T3 W Aa 2 Aa).q fun a W => ?_
 refine qs W Aa (Al (v := Value.int .i64 p1.2.2.1) 1 W Aa Aa T3 Aa).q fun a W => ?_
 refine qs W Aa (Ag W Aa).q fun a W => ?_
 refine qs W Aa (BM W Aa).q fun a W => ?_
 refine qs W Aa (Af HF Aa Aa Aa Mv W Aa 0 Aa).q fun a W => ?_
 refine qs W Aa (Al (v := v1) 0 W Aa Aa Mv Aa).q fun a W => ?_
 refine qs W Aa (M6 (er := Co) d_v1.2 NH Aa W Aa (KY.hd (Jf 2 Aa))).q fun a W => ?_
 refine Cf fun w F => ?_
 refine FZ (q := 3) (kx := (p1.2.2.1 : Int)) (vx := ((p0.1.length : Int) : Int)) (E := Bo) (V := Bo) W F Aa Aa Aa Aa Aa NT Mm fun w F => ?_
 have F : Stw ⟨Y, X, w0⟩ [(q_p0, [v1, .map (some m_v2), v5]), (b1, [.int .i64 p1.1, .int .i64 p1.2.1, .int .i64 p1.2.2.1, .int .i64 p1.2.2.2.1, .int .i64 p1.2.2.2.2.1, .int .i64 p1.2.2.2.2.2])] [mp m_v2 Bo Bo (CP p0.2.1 p1.2.2.1 (p0.1.length : Int)), row v5 3 (Rp.int .i64) x1, row v4 3 (Rp.int .i64) ([(Au p0 p1.2.2.1)] : List Int), Bd v1 78 BD d_v1.1] w := F
 refine Ad (Ac ?_)
 refine GP [(true, 0), (true, 1), (true, 2), (true, 3), (true, 4), (true, 5), (true, 6), (true, 7), (true, 8), (true, 9), (true, 10), (true, 11), (true, 12), (true, 13), (true, 14), (true, 15), (false, 16), (false, 17), (true, 18), (true, 19), (false, 20)] (CN ⟨Y, X, w0⟩ [(some 17, q_p0, [v1, .map (some m_v2), v5]), (some 16, b1, [.int .i64 p1.1, .int .i64 p1.2.1, .int .i64 p1.2.2.1, .int .i64 p1.2.2.2.1, .int .i64 p1.2.2.2.2.1, .int .i64 p1.2.2.2.2.2])] []) (fun ch a d v w h => by cases d <;> exact h) MO (by kernel_rfl) F (fun w F => ⟨_, _, F, (all_cons (fun _ => (.head _)) (all_cons (fun _ => (.tail _ (.head _))) Bf)), Bf⟩) fun w F => ?_
 iterate 2 refine Cs (R := []) W Aa Aa (yC fun M Z hN hZ => Ag W Aa) Aa Aa fun a W => ?_
 refine Cs (R := []) W Aa Aa (yC fun M Z hN hZ => BM W Aa) Aa Aa fun a W => ?_
 refine Cs (R := []) W Aa Aa (yC fun M Z hN hZ => Af HF Aa Aa Aa Mv W Aa 0 Aa) Aa Aa fun a W => ?_
 refine Cs (R := [17]) W Aa Aa (yC fun M Z hN hZ => CZ (cs := [v1, .map (some m_v2), v5]) (v := v1) W Aa (hN ((some 17), q_p0, [v1, .map (some m_v2), v5]) (.head _) Aa) Mv Aa) (by kernel_rfl) Aa fun a W => ?_
 refine Cs (R := []) W Aa Aa (yC fun M Z hN hZ => Af Ds Aa Aa Aa T3 W Aa 2 Aa) Aa Aa fun a W => ?_
 refine Cs (R := [16, 15]) W Aa Aa (yC fun M Z hN hZ => CZ (cs := [.int .i64 p1.1, .int .i64 p1.2.1, .int .i64 p1.2.2.1, .int .i64 p1.2.2.2.1, .int .i64 p1.2.2.2.2.1, .int .i64 p1.2.2.2.2.2]) (v := Value.int .i64 p1.2.2.1) W Aa (hN ((some 16), b1, [.int .i64 p1.1, .int .i64 p1.2.1, .int .i64 p1.2.2.1, .int .i64 p1.2.2.2.1, .int .i64 p1.2.2.2.2.1, .int .i64 p1.2.2.2.2.2]) (.tail _ (.head _)) Aa) T3 Aa) (by kernel_rfl) Aa fun a W => ?_
 refine Cs (R := []) W Aa Aa (yC fun M Z hN hZ => Af Ds Aa Aa Aa T3 W Aa 4 Aa) Aa Aa fun a W => ?_
 refine Cs (R := [16, 15]) W Aa Aa (yC fun M Z hN hZ => CZ (cs := [.int .i64 p1.1, .int .i64 p1.2.1, .int .i64 p1.2.2.1, .int .i64 p1.2.2.2.1, .int .i64 p1.2.2.2.2.1, .int .i64 p1.2.2.2.2.2]) (v := Value.int .i64 p1.2.2.2.2.1) W Aa (hN ((some 16), b1, [.int .i64 p1.1, .int .i64 p1.2.1, .int .i64 p1.2.2.1, .int .i64 p1.2.2.2.1, .int .i64 p1.2.2.2.2.1, .int .i64 p1.2.2.2.2.2]) (.tail _ (.head _)) Aa) T3 Aa) (by kernel_rfl) Aa fun a W => ?_
 refine Cs (R := []) W Aa Aa (yC fun M Z hN hZ => Af Ds Aa Aa Aa T3 W Aa 5 Aa) Aa Aa fun a W => ?_
 refine Cs (R := [16, 15]) W Aa Aa (yC fun M Z hN hZ => CZ (cs := [.int .i64 p1.1, .int .i64 p1.2.1, .int .i64 p1.2.2.1, .int .i64 p1.2.2.2.1, .int .i64 p1.2.2.2.2.1, .int .i64 p1.2.2.2.2.2]) (v := Value.int .i64 p1.2.2.2.2.2) W Aa (hN ((some 16), b1, [.int .i64 p1.1, .int .i64 p1.2.1, .int .i64 p1.2.2.1, .int .i64 p1.2.2.2.1, .int .i64 p1.2.2.2.2.1, .int .i64 p1.2.2.2.2.2]) (.tail _ (.head _)) Aa) T3 Aa) (by kernel_rfl) Aa fun a W => ?_
 refine Cs (R := []) W Aa Aa (yC fun M Z hN hZ => Af Ds Aa Aa Aa T3 W Aa 1 Aa) Aa Aa fun a W => ?_
 refine Cs (R := [16, 15]) W Aa Aa (yC fun M Z hN hZ => CZ (cs := [.int .i64 p1.1, .int .i64 p1.2.1, .int .i64 p1.2.2.1, .int .i64 p1.2.2.2.1, .int .i64 p1.2.2.2.2.1, .int .i64 p1.2.2.2.2.2]) (v := Value.int .i64 p1.2.1) W Aa (hN ((some 16), b1, [.int .i64 p1.1, .int .i64 p1.2.1, .int .i64 p1.2.2.1, .int .i64 p1.2.2.2.1, .int .i64 p1.2.2.2.2.1, .int .i64 p1.2.2.2.2.2]) (.tail _ (.head _)) Aa) T3 Aa) (by kernel_rfl) Aa fun a W => ?_
 refine Cs (R := []) W Aa Aa (yC fun M Z hN hZ => Af Ds Aa Aa Aa T3 W Aa 1 Aa) Aa Aa fun a W => ?_
 refine Cs (R := [16, 15]) W Aa Aa (yC fun M Z hN hZ => CZ (cs := [.int .i64 p1.1, .int .i64 p1.2.1, .int .i64 p1.2.2.1, .int .i64 p1.2.2.2.1, .int .i64 p1.2.2.2.2.1, .int .i64 p1.2.2.2.2.2]) (v := Value.int .i64 p1.2.1) W Aa (hN ((some 16), b1, [.int .i64 p1.1, .int .i64 p1.2.1, .int .i64 p1.2.2.1, .int .i64 p1.2.2.2.1, .int .i64 p1.2.2.2.2.1, .int .i64 p1.2.2.2.2.2]) (.tail _ (.head _)) Aa) T3 Aa) (by kernel_rfl) Aa fun a W => ?_
 refine Cs (R := []) W Aa Aa (yC fun M Z hN hZ => Bx (v := Value.agg #[.int .i64 p1.2.2.1, .int .i64 p1.2.2.2.2.1, .int .i64 p1.2.2.2.2.2, .int .i64 p1.2.1, .slice none 0 0, .int .i64 0, .int .i64 0, .int .i64 p1.2.1]) Po W Aa Aa Aa) Aa Aa fun a W => ?_
 refine GV Aa ?_
 have F := F.addEmp
 have F := F.addEmp
 have F := F.pairZ (D := (Dp.fl 1 (fun a => [.int .i64 a]) (fun _ => rfl))) (E := (Dp.fl 1 (fun a => [.int .i64 a]) (fun _ => rfl))) (p := 0) (q := p1.2.1)
 have F := F.addEmp
 have F := F.pairZ (D := (Dp.fl 1 (fun a => [.int .i64 a]) (fun _ => rfl))) (E := (Dp.pair (Dp.fl 1 (fun a => [.int .i64 a]) (fun _ => rfl)) (Dp.fl 1 (fun a => [.int .i64 a]) (fun _ => rfl)))) (p := 0) (q := (0, p1.2.1))
 have F := F.nlZ (Nl.sl (e' := 3) (r := (Rp.int .i64)))
 have F := F.pairZ (D := (Dp.sl 3 (Rp.int .i64))) (E := (Dp.pair (Dp.fl 1 (fun a => [.int .i64 a]) (fun _ => rfl)) (Dp.pair (Dp.fl 1 (fun a => [.int .i64 a]) (fun _ => rfl)) (Dp.fl 1 (fun a => [.int .i64 a]) (fun _ => rfl))))) (p := (Value.slice none 0 0, 2, [])) (q := (0, 0, p1.2.1))
 have F := F.addEmp
 have F := F.pairZ (D := (Dp.fl 1 (fun a => [.int .i64 a]) (fun _ => rfl))) (E := (Dp.pair (Dp.sl 3 (Rp.int .i64)) (Dp.pair (Dp.fl 1 (fun a => [.int .i64 a]) (fun _ => rfl)) (Dp.pair (Dp.fl 1 (fun a => [.int .i64 a]) (fun _ => rfl)) (Dp.fl 1 (fun a => [.int .i64 a]) (fun _ => rfl)))))) (p := p1.2.1) (q := ((Value.slice none 0 0, 2, []), 0, 0, p1.2.1))
 have F := F.addEmp
 have F := F.pairZ (D := (Dp.fl 1 (fun a => [.int .i64 a]) (fun _ => rfl))) (E := (Dp.pair (Dp.fl 1 (fun a => [.int .i64 a]) (fun _ => rfl)) (Dp.pair (Dp.sl 3 (Rp.int .i64)) (Dp.pair (Dp.fl 1 (fun a => [.int .i64 a]) (fun _ => rfl)) (Dp.pair (Dp.fl 1 (fun a => [.int .i64 a]) (fun _ => rfl)) (Dp.fl 1 (fun a => [.int .i64 a]) (fun _ => rfl))))))) (p := p1.2.2.2.2.2) (q := (p1.2.1, (Value.slice none 0 0, 2, []), 0, 0, p1.2.1))
 have F := F.addEmp
 have F := F.pairZ (D := (Dp.fl 1 (fun a => [.int .i64 a]) (fun _ => rfl))) (E := (Dp.pair (Dp.fl 1 (fun a => [.int .i64 a]) (fun _ => rfl)) (Dp.pair (Dp.fl 1 (fun a => [.int .i64 a]) (fun _ => rfl)) (Dp.pair (Dp.sl 3 (Rp.int .i64)) (Dp.pair (Dp.fl 1 (fun a => [.int .i64 a]) (fun _ => rfl)) (Dp.pair (Dp.fl 1 (fun a => [.int .i64 a]) (fun _ => rfl)) (Dp.fl 1 (fun a => [.int .i64 a]) (fun _ => rfl)))))))) (p := p1.2.2.2.2.1) (q := (p1.2.2.2.2.2, p1.2.1, (Value.slice none 0 0, 2, []), 0, 0, p1.2.1))
 have F := F.addEmp
 have F := F.pairZ (D := (Dp.fl 1 (fun a => [.int .i64 a]) (fun _ => rfl))) (E := (Dp.pair (Dp.fl 1 (fun a => [.int .i64 a]) (fun _ => rfl)) (Dp.pair (Dp.fl 1 (fun a => [.int .i64 a]) (fun _ => rfl)) (Dp.pair (Dp.fl 1 (fun a => [.int .i64 a]) (fun _ => rfl)) (Dp.pair (Dp.sl 3 (Rp.int .i64)) (Dp.pair (Dp.fl 1 (fun a => [.int .i64 a]) (fun _ => rfl)) (Dp.pair (Dp.fl 1 (fun a => [.int .i64 a]) (fun _ => rfl)) (Dp.fl 1 (fun a => [.int .i64 a]) (fun _ => rfl))))))))) (p := p1.2.2.1) (q := (p1.2.2.2.2.1, p1.2.2.2.2.2, p1.2.1, (Value.slice none 0 0, 2, []), 0, 0, p1.2.1))
 refine Do (z := Value.agg #[.int .i64 0, .int .i64 0, .int .i64 0, .int .i64 0, .slice none 0 0, .int .i64 0, .int .i64 0, .int .i64 0]) (cs := [.int .i64 p1.2.2.1, .int .i64 p1.2.2.2.2.1, .int .i64 p1.2.2.2.2.2, .int .i64 p1.2.1, .slice none 0 0, .int .i64 0, .int .i64 0, .int .i64 p1.2.1]) BD.hr ([(p1.2.2.1, p1.2.2.2.2.1, p1.2.2.2.2.2, p1.2.1, (Value.slice none 0 0, 2, []), 0, 0, p1.2.1)] : List (Int × Int × Int × Int × (Value × Nat × List Int) × Int × Int × Int)) W F Aa OA O7 Aa Aa Aa (ED Aa Aa Aa FT) Aa Aa ⟨[Value.int .i64 p1.2.2.1, Value.int .i64 p1.2.2.2.2.1, Value.int .i64 p1.2.2.2.2.2, Value.int .i64 p1.2.1, Value.slice none 0 0, Value.int .i64 0, Value.int .i64 0, Value.int .i64 p1.2.1], _, Aa, ⟨rfl, (Bp Aa (Bp Aa (Bp Aa (Bp Aa (Bp Aa (Bp Aa (Bp Aa (Bp Aa F4))))))))⟩, Aa⟩ fun v6 a w W F => ?_
 have F := Stw.dShutL (D := BD) (lx := ([(p1.2.2.1, p1.2.2.2.2.1, p1.2.2.2.2.2, p1.2.1, (Value.slice none 0 0, 2, []), 0, 0, p1.2.1)] : List (Int × Int × Int × Int × (Value × Nat × List Int) × Int × Int × Int))) F
 have h2 : List.map Co ([(p1.2.2.1, p1.2.2.2.2.1, p1.2.2.2.2.2, p1.2.1, (Value.slice none 0 0, 2, []), 0, 0, p1.2.1)] : List (Int × Int × Int × Int × (Value × Nat × List Int) × Int × Int × Int)) = ([(p1.2.2.1, p1.2.2.2.2.1, p1.2.2.2.2.2, p1.2.1, (2, []), 0, 0, p1.2.1)] : List (Int × Int × Int × Int × (Nat × List Int) × Int × Int × Int)) := Aa
 have F : Stw ⟨Y, X, w0⟩ [(q_p0, [v1, .map (some m_v2), v5]), (b1, [.int .i64 p1.1, .int .i64 p1.2.1, .int .i64 p1.2.2.1, .int .i64 p1.2.2.2.1, .int .i64 p1.2.2.2.2.1, .int .i64 p1.2.2.2.2.2])] [Bd v6 78 BD ([(p1.2.2.1, p1.2.2.2.2.1, p1.2.2.2.2.2, p1.2.1, (Value.slice none 0 0, 2, []), 0, 0, p1.2.1)] : List (Int × Int × Int × Int × (Value × Nat × List Int) × Int × Int × Int)), mp m_v2 Bo Bo (CP p0.2.1 p1.2.2.1 (p0.1.length : Int)), row v5 3 (Rp.int .i64) x1, row v4 3 (Rp.int .i64) ([(Au p0 p1.2.2.1)] : List Int), Bd v1 78 BD d_v1.1] w := F
 refine Dh (N2 := []) (NZ2 := []) (N3 := [(some 17, q_p0, [v1, .map (some m_v2), v5]), (some 16, b1, [.int .i64 p1.1, .int .i64 p1.2.1, .int .i64 p1.2.2.1, .int .i64 p1.2.2.2.1, .int .i64 p1.2.2.2.2.1, .int .i64 p1.2.2.2.2.2])]) (NZ3 := []) F Aa Aa (all_cons (fun _ => (.head _)) (all_cons (fun h => BA (by kernel_rfl) h) Bf)) Bf ?_
 refine GV Aa ?_
 have F := F.frontZ (i := 4) Aa Aa
 obtain ⟨x2, h3, H⟩ := An H
 refine Kw (D := BD) W F Aa OA Aa Aa (LX (er := Co) d_v1.2 h2 h3).1 Aa fun v7 a w W F => ?_
 have h4 : List.map Co (d_v1.1 ++ ([(p1.2.2.1, p1.2.2.2.2.1, p1.2.2.2.2.2, p1.2.1, (Value.slice none 0 0, 2, []), 0, 0, p1.2.1)] : List (Int × Int × Int × Int × (Value × Nat × List Int) × Int × Int × Int))) = x2 := (LX (er := Co) d_v1.2 h2 h3).2
 have F : Stw ⟨Y, X, w0⟩ [(q_p0, [v1, .map (some m_v2), v5]), (b1, [.int .i64 p1.1, .int .i64 p1.2.1, .int .i64 p1.2.2.1, .int .i64 p1.2.2.2.1, .int .i64 p1.2.2.2.2.1, .int .i64 p1.2.2.2.2.2])] [Bd v7 78 BD (d_v1.1 ++ ([(p1.2.2.1, p1.2.2.2.2.1, p1.2.2.2.2.2, p1.2.1, (Value.slice none 0 0, 2, []), 0, 0, p1.2.1)] : List (Int × Int × Int × Int × (Value × Nat × List Int) × Int × Int × Int))), mp m_v2 Bo Bo (CP p0.2.1 p1.2.2.1 (p0.1.length : Int)), row v5 3 (Rp.int .i64) x1, row v4 3 (Rp.int .i64) ([(Au p0 p1.2.2.1)] : List Int)] w := F
 refine Dh (N2 := []) (NZ2 := []) (N3 := [(some 17, q_p0, [v1, .map (some m_v2), v5]), (some 16, b1, [.int .i64 p1.1, .int .i64 p1.2.1, .int .i64 p1.2.2.1, .int .i64 p1.2.2.2.1, .int .i64 p1.2.2.2.2.1, .int .i64 p1.2.2.2.2.2])]) (NZ3 := []) F Aa Aa (all_cons (fun h => BA (by kernel_rfl) h) (all_cons (fun h => BA (by kernel_rfl) h) Bf)) Bf ?_
 refine Cs (R := []) W Aa Aa (yC fun M Z hN hZ => BM W Aa) Aa Aa fun a W => ?_
 refine Cs (R := []) W Aa Aa (yC fun M Z hN hZ => Af HF Aa Aa Aa Mv W Aa 0 Aa) Aa Aa fun a W => ?_
 refine GV Aa ?_
 refine GR (M' := [(q_p0, [v7, .map (some m_v2), v5]), (b1, [.int .i64 p1.1, .int .i64 p1.2.1, .int .i64 p1.2.2.1, .int .i64 p1.2.2.2.1, .int .i64 p1.2.2.2.2.1, .int .i64 p1.2.2.2.2.2])]) 0 W F Aa Aa Aa Mv (F.oneD 0 Aa) Aa Aa fun w F => ?_
 refine Dh (N2 := []) (NZ2 := []) (N3 := [(some 17, q_p0, [v1, .map (some m_v2), v5]), (some 16, b1, [.int .i64 p1.1, .int .i64 p1.2.1, .int .i64 p1.2.2.1, .int .i64 p1.2.2.2.1, .int .i64 p1.2.2.2.2.1, .int .i64 p1.2.2.2.2.2])]) (NZ3 := []) F Aa Aa (all_cons (fun h => BA (by kernel_rfl) h) (all_cons (fun h => BA (by kernel_rfl) h) Bf)) Bf ?_
 refine I5 ?_
 have H := A1 H
 subst H
 refine FF (.inr Aa) W Aa ?_
 have F := F.frontZ (i := 1) Aa Aa
 have F := F.frontZ (i := 2) Aa Aa
 have F := F.frontZ (i := 2) Aa Aa
 have F := F.sub (M' := [(q_p0, [v7, .map (some m_v2), v5])]) (Z' := [Bd v7 78 BD (d_v1.1 ++ ([(p1.2.2.1, p1.2.2.2.2.1, p1.2.2.2.2.2, p1.2.1, (Value.slice none 0 0, 2, []), 0, 0, p1.2.1)] : List (Int × Int × Int × Int × (Value × Nat × List Int) × Int × Int × Int))), row v5 3 (Rp.int .i64) x1, mp m_v2 Bo Bo (CP p0.2.1 p1.2.2.1 (p0.1.length : Int))]) (List.Sublist.cons_cons _ (List.nil_sublist _)) (List.Sublist.cons_cons _ (List.Sublist.cons_cons _ (List.Sublist.cons_cons _ (List.nil_sublist _))))
 exact ⟨((v7), ⟨(d_v1.1 ++ ([(p1.2.2.1, p1.2.2.2.2.1, p1.2.2.2.2.2, p1.2.1, (Value.slice none 0 0, 2, []), 0, 0, p1.2.1)] : List (Int × Int × Int × Int × (Value × Nat × List Int) × Int × Int × Int))), h4⟩, (v5)), Aa, F⟩
theorem Pq : Has Try.prog 51 := ⟨fun args w => Aj Try.func51 rfl (by decide) args w⟩
noncomputable def BR (p0 : (List (Int × Int × Int × Int × (Nat × List Int) × Int × Int × Int)) × (List (Int × Int)) × List Int) (p1 : Int) (p2 : Int × Int × Int × Int × Int × Int) : Option ((List (Int × Int × Int × Int × (Nat × List Int) × Int × Int × Int)) × (List (Int × Int)) × List Int) := (ix p0.1 p1).bind fun x1 => (ix p0.1 p1).bind fun x2 => (if p2.1 = 2 then (ix (Ap p0.1 p1 (x2.1, x2.2.1, x2.2.2.1, x2.2.2.2.1, x2.2.2.2.2.1, x2.2.2.2.2.2.1, x2.2.2.2.2.2.2.1, p2.2.1)) p1).bind fun x3 => (Mg x3.2.2.2.2.1.1).bind fun x4 => (Fo x3.2.2.2.2.1.2 ([p2.2.2.2.1] : List Int)).bind fun x5 => (ix (Ap (Ap p0.1 p1 (x2.1, x2.2.1, x2.2.2.1, x2.2.2.2.1, x2.2.2.2.2.1, x2.2.2.2.2.2.1, x2.2.2.2.2.2.2.1, p2.2.1)) p1 (x3.1, x3.2.1, x3.2.2.1, x3.2.2.2.1, (0, []), x3.2.2.2.2.2.1, x3.2.2.2.2.2.2.1, x3.2.2.2.2.2.2.2)) p1).bind fun x6 => some ((Ap (Ap (Ap p0.1 p1 (x2.1, x2.2.1, x2.2.2.1, x2.2.2.2.1, x2.2.2.2.2.1, x2.2.2.2.2.2.1, x2.2.2.2.2.2.2.1, p2.2.1)) p1 (x3.1, x3.2.1, x3.2.2.1, x3.2.2.2.1, (0, []), x3.2.2.2.2.2.1, x3.2.2.2.2.2.2.1, x3.2.2.2.2.2.2.2)) p1 (x6.1, x6.2.1, x6.2.2.1, x6.2.2.2.1, (2, x5), x6.2.2.2.2.2.1, x6.2.2.2.2.2.2.1, x6.2.2.2.2.2.2.2)), p0.2.1, p0.2.2) else (ix (Ap p0.1 p1 (x2.1, x2.2.1, x2.2.2.1, x2.2.2.2.1, x2.2.2.2.2.1, x2.2.2.2.2.2.1, x2.2.2.2.2.2.2.1, p2.2.1)) p1).bind fun x7 => (if p2.1 = 3 then (ix (Ap (Ap p0.1 p1 (x2.1, x2.2.1, x2.2.2.1, x2.2.2.2.1, x2.2.2.2.2.1, x2.2.2.2.2.2.1, x2.2.2.2.2.2.2.1, p2.2.1)) p1 (x7.1, x7.2.1, x7.2.2.1, x7.2.2.2.1, x7.2.2.2.2.1, p2.1, x7.2.2.2.2.2.2.1, x7.2.2.2.2.2.2.2)) p1).bind fun x9 => some (Ap (Ap (Ap p0.1 p1 (x2.1, x2.2.1, x2.2.2.1, x2.2.2.2.1, x2.2.2.2.2.1, x2.2.2.2.2.2.1, x2.2.2.2.2.2.2.1, p2.2.1)) p1 (x7.1, x7.2.1, x7.2.2.1, x7.2.2.2.1, x7.2.2.2.2.1, p2.1, x7.2.2.2.2.2.2.1, x7.2.2.2.2.2.2.2)) p1 (x9.1, x9.2.1, x9.2.2.1, x9.2.2.2.1, x9.2.2.2.2.1, x9.2.2.2.2.2.1, p2.2.2.2.2.1, x9.2.2.2.2.2.2.2)) else some (Ap (Ap p0.1 p1 (x2.1, x2.2.1, x2.2.2.1, x2.2.2.2.1, x2.2.2.2.2.1, x2.2.2.2.2.2.1, x2.2.2.2.2.2.2.1, p2.2.1)) p1 (x7.1, x7.2.1, x7.2.2.1, x7.2.2.2.1, x7.2.2.2.2.1, p2.1, x7.2.2.2.2.2.2.1, x7.2.2.2.2.2.2.2))).bind fun x8 => (ix p0.2.2 p1).bind fun x10 => some (x8, CP p0.2.1 p2.2.2.1 x10, p0.2.2))
theorem F9 (Y : Nat → Prop) (X : List Nat) (w0 : World) (q_p0 : Nat) (v1 : Value) (m_v2 : Nat) (v3 : Value) (p0 : (List (Int × Int × Int × Int × (Nat × List Int) × Int × Int × Int)) × (List (Int × Int)) × List Int) (p1 : Int) (p2 : Int × Int × Int × Int × Int × Int) (d_v1 : {x : List (Int × Int × Int × Int × (Value × Nat × List Int) × Int × Int × Int) // x.map Co = p0.1}) (r : ((List (Int × Int × Int × Int × (Nat × List Int) × Int × Int × Int)) × (List (Int × Int)) × List Int)) (H : BR p0 p1 p2 = some r) (hL : Stw ⟨Y, X, w0⟩ [(q_p0, [v1, .map (some m_v2), v3])] [Bd v1 78 BD d_v1.1, row v3 3 (Rp.int .i64) p0.2.2, mp m_v2 Bo Bo p0.2.1] w0) :
    Calls Try.prog 53 #[.pointer (some ⟨q_p0, 0, none⟩), .int .i64 p1, .agg #[.int .i64 p2.1, .int .i64 p2.2.1, .int .i64 p2.2.2.1, .int .i64 p2.2.2.2.1, .int .i64 p2.2.2.2.2.1, .int .i64 p2.2.2.2.2.2]] w0 fun e w' => ∃ x : Value × ({x : List (Int × Int × Int × Int × (Value × Nat × List Int) × Int × Int × Int) // x.map Co = r.1}) × Value, e = .returned (.tuple #[]) ∧ Stw ⟨Y, X, w0⟩ [(q_p0, [x.1, .map (some m_v2), x.2.2])] [Bd (x.1) 78 BD (x.2.1.1), row (x.2.2) 3 (Rp.int .i64) r.2.2, mp m_v2 Bo Bo r.2.1] w' := by
 refine enter Try.func53 Aa Try.ntmps53 Aa fun a W => ?_
 have F := hL
 unfold BR at H
 refine Ah (Ab ?_)
 refine Cx (cs := [.int .i64 p2.1, .int .i64 p2.2.1, .int .i64 p2.2.2.1, .int .i64 p2.2.2.2.1, .int .i64 p2.2.2.2.2.1, .int .i64 p2.2.2.2.2.2]) W F Aa Aa Aa fun b1 a w W F => ?_
 refine Ad (Ac (Ah (Ab ?_)))
 refine ls W F Aa (Ag W Aa).q fun a w W F => ?_
 refine ls W F Aa (BM W Aa).q fun a w W F => ?_
 refine ls W F Aa (Af HF Aa Aa Aa Mv W Aa 0 Aa).q fun a w W F => ?_
 refine ls W F Aa (Al (v := v1) 1 W Aa Aa Mv Aa).q fun a w W F => ?_
 refine ls W F Aa (Ag W Aa).q fun a w W F => ?_
 obtain ⟨x1, h1, H⟩ := An H
 obtain ⟨v4, h2, h3⟩ := EY (er := Co) d_v1.2 h1
 refine ls W F Aa (AU (r := BD.hr) OA W Aa Aa (KY.hd (Jf 0 Aa)) h2).q fun a w W F => ?_
 refine ls W F Aa (Ae W Aa).q fun a w W F => ?_
 refine Ad (Ac (Ah (Ab ?_)))
 refine ls W F Aa (Ag W Aa).q fun a w W F => ?_
 refine ls W F Aa (Af Ds Aa Aa Aa T3 W Aa 1 Aa).q fun a w W F => ?_
 refine ls W F Aa (Al (v := Value.int .i64 p2.2.1) 0 W Aa Aa T3 Aa).q fun a w W F => ?_
 refine ls W F Aa (BM W Aa).q fun a w W F => ?_
 refine ls W F Aa (Af Ek Aa Aa Aa T3 W Aa (E5 v1 + (p1).toNat * 8 + 7) Aa).q fun a w W F => ?_
 obtain ⟨x2, h4, H⟩ := An H
 obtain ⟨v5, h5, h6⟩ := EY (er := Co) d_v1.2 h4
 refine Gp (D := BD) (i := p1) (j := 7) (vs := [.int .i64 p2.2.1]) (x' := (v5.1, v5.2.1, v5.2.2.1, v5.2.2.2.1, v5.2.2.2.2.1, v5.2.2.2.2.2.1, v5.2.2.2.2.2.2.1, p2.2.1)) W F Aa Aa Aa h5 T3 Aa Aa Aa Aa Aa Aa fun w F => ?_
 have h7 : List.map Co (Ap d_v1.1 p1 (v5.1, v5.2.1, v5.2.2.1, v5.2.2.2.1, v5.2.2.2.2.1, v5.2.2.2.2.2.1, v5.2.2.2.2.2.2.1, p2.2.1)) = (Ap p0.1 p1 (x2.1, x2.2.1, x2.2.2.1, x2.2.2.2.1, x2.2.2.2.2.1, x2.2.2.2.2.2.1, x2.2.2.2.2.2.2.1, p2.2.1)) := (Id d_v1.2 (congrArg (fun q : Int × Int × Int × Int × (Nat × List Int) × Int × Int × Int => (q.1, q.2.1, q.2.2.1, q.2.2.2.1, q.2.2.2.2.1, q.2.2.2.2.2.1, q.2.2.2.2.2.2.1, p2.2.1)) h6))
 have F : Stw ⟨Y, X, w0⟩ [(b1, [.int .i64 p2.1, .int .i64 p2.2.1, .int .i64 p2.2.2.1, .int .i64 p2.2.2.2.1, .int .i64 p2.2.2.2.2.1, .int .i64 p2.2.2.2.2.2]), (q_p0, [v1, .map (some m_v2), v3])] [Bd v1 78 BD (Ap d_v1.1 p1 (v5.1, v5.2.1, v5.2.2.1, v5.2.2.2.1, v5.2.2.2.2.1, v5.2.2.2.2.2.1, v5.2.2.2.2.2.2.1, p2.2.1)), row v3 3 (Rp.int .i64) p0.2.2, mp m_v2 Bo Bo p0.2.1] w := F
 refine Ad (Ac (Ah (Ah (Ab ?_))))
 refine ls W F Aa (Af Ds Aa Aa Aa T3 W Aa 0 Aa).q fun a w W F => ?_
 refine ls W F Aa (Al (v := Value.int .i64 p2.1) 0 W Aa Aa T3 Aa).q fun a w W F => ?_
 refine ls W F Aa (C9 W Aa Aa).q fun a w W F => ?_
 refine Ad (Ac ?_)
 refine AA W Aa (fun hb => ?_) fun hb => ?_
 ·
  have H := Ba (BO hb) H
  rw [hb] at W
  clear hb
  refine Ah ?_
  refine GP [(true, 0), (true, 1), (true, 2), (true, 3), (true, 4), (true, 5), (true, 6), (false, 7), (false, 8), (true, 9), (true, 10), (false, 11)] (CN ⟨Y, X, w0⟩ [(some 7, b1, [.int .i64 p2.1, .int .i64 p2.2.1, .int .i64 p2.2.2.1, .int .i64 p2.2.2.2.1, .int .i64 p2.2.2.2.2.1, .int .i64 p2.2.2.2.2.2])] [(some 8, Bd v1 78 BD (Ap d_v1.1 p1 (v5.1, v5.2.1, v5.2.2.1, v5.2.2.2.1, v5.2.2.2.2.1, v5.2.2.2.2.2.1, v5.2.2.2.2.2.2.1, p2.2.1)))]) (fun ch a d v w h => by cases d <;> exact h) MO (by kernel_rfl) F (fun w F => ⟨_, _, F, (all_cons (fun _ => (.head _)) Bf), (all_cons (fun _ => (.head _)) Bf)⟩) fun w F => ?_
  iterate 2 refine Cs (R := []) W Aa Aa (yC fun M Z hN hZ => Ag W Aa) Aa Aa fun a W => ?_
  refine Cs (R := []) W Aa Aa (yC fun M Z hN hZ => BM W Aa) Aa Aa fun a W => ?_
  refine Cs (R := []) W Aa Aa (yC fun M Z hN hZ => Af Ek Aa Aa Aa Gy W Aa (E5 v1 + (p1).toNat * 8 + 4) Aa) Aa Aa fun a W => ?_
  obtain ⟨x3, h8, H⟩ := An H
  obtain ⟨v6, h9, h10⟩ := EY (er := Co) h7 h8
  have h11 : BD.cells v6 = [.int .i64 x3.1, .int .i64 x3.2.1, .int .i64 x3.2.2.1, .int .i64 x3.2.2.2.1, (v6.2.2.2.2.1.1), .int .i64 x3.2.2.2.2.2.1, .int .i64 x3.2.2.2.2.2.2.1, .int .i64 x3.2.2.2.2.2.2.2] := congrArg (fun q : Int × Int × Int × Int × (Nat × List Int) × Int × Int × Int => ([.int .i64 q.1, .int .i64 q.2.1, .int .i64 q.2.2.1, .int .i64 q.2.2.2.1, (v6.2.2.2.2.1.1), .int .i64 q.2.2.2.2.2.1, .int .i64 q.2.2.2.2.2.2.1, .int .i64 q.2.2.2.2.2.2.2] : List Value)) h10
  refine Cs (R := [8]) W Aa Aa (yC fun M Z hN hZ => AC (y := (v6.2.2.2.2.1.1)) (j := 4) (i := p1) (enc := BD.cells) W Aa Aa (KY.hd (N7 (hZ ((some 8), Bd v1 78 BD (Ap d_v1.1 p1 (v5.1, v5.2.1, v5.2.2.1, v5.2.2.2.1, v5.2.2.2.2.1, v5.2.2.2.2.2.1, v5.2.2.2.2.2.2.1, p2.2.1))) (.head _) Aa))) h9 BD.flat Gy (by rw [h11]; rfl)) (by kernel_rfl) Aa fun a W => ?_
  refine Cs (R := []) W Aa Aa (yC fun M Z hN hZ => Af Ds Aa Aa Aa T3 W Aa 3 Aa) Aa Aa fun a W => ?_
  refine Cs (R := [7]) W Aa Aa (yC fun M Z hN hZ => CZ (cs := [.int .i64 p2.1, .int .i64 p2.2.1, .int .i64 p2.2.2.1, .int .i64 p2.2.2.2.1, .int .i64 p2.2.2.2.2.1, .int .i64 p2.2.2.2.2.2]) (v := Value.int .i64 p2.2.2.2.1) W Aa (hN ((some 7), b1, [.int .i64 p2.1, .int .i64 p2.2.1, .int .i64 p2.2.2.1, .int .i64 p2.2.2.2.1, .int .i64 p2.2.2.2.2.1, .int .i64 p2.2.2.2.2.2]) (.head _) Aa) T3 Aa) (by kernel_rfl) Aa fun a W => ?_
  refine GV Aa ?_
  refine Do (z := Value.int .i64 0) (cs := [.int .i64 p2.2.2.2.1]) (Rp.int .i64) ([p2.2.2.2.1] : List Int) W F Aa Jy Z3 Aa Aa Aa Aa Aa Aa (Fl.int.repL _ _ ([p2.2.2.2.1] : List Int)) fun v7 a w W F => ?_
  refine Dh (N2 := []) (NZ2 := []) (N3 := [(some 7, b1, [.int .i64 p2.1, .int .i64 p2.2.1, .int .i64 p2.2.2.1, .int .i64 p2.2.2.2.1, .int .i64 p2.2.2.2.2.1, .int .i64 p2.2.2.2.2.2])]) (NZ3 := [(some 8, Bd v1 78 BD (Ap d_v1.1 p1 (v5.1, v5.2.1, v5.2.2.1, v5.2.2.2.1, v5.2.2.2.2.1, v5.2.2.2.2.2.1, v5.2.2.2.2.2.2.1, p2.2.1)))]) F Aa Aa (all_cons (fun h => BA (by kernel_rfl) h) Bf) (all_cons (fun _ => (.tail _ (.head _))) Bf) ?_
  refine GV Aa ?_
  obtain ⟨x4, h12, H⟩ := An H
  have F := F.frontZ (i := 1) Aa Aa
  have F := F.dTakeR h9 (Foc.snd (Foc.snd (Foc.snd (Foc.snd (Foc.fst Foc.here))))) ((congrArg (fun q : Int × Int × Int × Int × (Nat × List Int) × Int × Int × Int => q.2.2.2.2.1) h10).trans (Prod.ext (MD h12) Aa))
  have h13 : List.map Co (Ap (Ap d_v1.1 p1 (v5.1, v5.2.1, v5.2.2.1, v5.2.2.2.1, v5.2.2.2.2.1, v5.2.2.2.2.2.1, v5.2.2.2.2.2.2.1, p2.2.1)) p1 (v6.1, v6.2.1, v6.2.2.1, v6.2.2.2.1, ((v6.2.2.2.2.1.1), 0, []), v6.2.2.2.2.2.1, v6.2.2.2.2.2.2.1, v6.2.2.2.2.2.2.2)) = (Ap (Ap p0.1 p1 (x2.1, x2.2.1, x2.2.2.1, x2.2.2.2.1, x2.2.2.2.2.1, x2.2.2.2.2.2.1, x2.2.2.2.2.2.2.1, p2.2.1)) p1 (x3.1, x3.2.1, x3.2.2.1, x3.2.2.2.1, (0, []), x3.2.2.2.2.2.1, x3.2.2.2.2.2.2.1, x3.2.2.2.2.2.2.2)) := (Id h7 (congrArg (fun q : Int × Int × Int × Int × (Nat × List Int) × Int × Int × Int => (q.1, q.2.1, q.2.2.1, q.2.2.2.1, (0, []), q.2.2.2.2.2.1, q.2.2.2.2.2.2.1, q.2.2.2.2.2.2.2)) h10))
  have F : Stw ⟨Y, X, w0⟩ [(b1, [.int .i64 p2.1, .int .i64 p2.2.1, .int .i64 p2.2.2.1, .int .i64 p2.2.2.2.1, .int .i64 p2.2.2.2.2.1, .int .i64 p2.2.2.2.2.2]), (q_p0, [v1, .map (some m_v2), v3])] [row (v6.2.2.2.2.1.1) 3 (Rp.int .i64) x3.2.2.2.2.1.2, Bd v1 78 BD (Ap (Ap d_v1.1 p1 (v5.1, v5.2.1, v5.2.2.1, v5.2.2.2.1, v5.2.2.2.2.1, v5.2.2.2.2.2.1, v5.2.2.2.2.2.2.1, p2.2.1)) p1 (v6.1, v6.2.1, v6.2.2.1, v6.2.2.2.1, ((v6.2.2.2.2.1.1), 0, []), v6.2.2.2.2.2.1, v6.2.2.2.2.2.2.1, v6.2.2.2.2.2.2.2)), row v7 3 (Rp.int .i64) ([p2.2.2.2.1] : List Int), row v3 3 (Rp.int .i64) p0.2.2, mp m_v2 Bo Bo p0.2.1] w := F
  obtain ⟨x5, h14, H⟩ := An H
  refine Cr (r := (Rp.int .i64)) (i := 0) W F Aa Jy Aa Aa Aa Aa (C5 F 2 Aa) h14 Aa fun v8 a w W F => ?_
  have F : Stw ⟨Y, X, w0⟩ [(b1, [.int .i64 p2.1, .int .i64 p2.2.1, .int .i64 p2.2.2.1, .int .i64 p2.2.2.2.1, .int .i64 p2.2.2.2.2.1, .int .i64 p2.2.2.2.2.2]), (q_p0, [v1, .map (some m_v2), v3])] [row v8 3 (Rp.int .i64) x5, Bd v1 78 BD (Ap (Ap d_v1.1 p1 (v5.1, v5.2.1, v5.2.2.1, v5.2.2.2.1, v5.2.2.2.2.1, v5.2.2.2.2.2.1, v5.2.2.2.2.2.2.1, p2.2.1)) p1 (v6.1, v6.2.1, v6.2.2.1, v6.2.2.2.1, ((v6.2.2.2.2.1.1), 0, []), v6.2.2.2.2.2.1, v6.2.2.2.2.2.2.1, v6.2.2.2.2.2.2.2)), row v7 3 (Rp.int .i64) ([p2.2.2.2.1] : List Int), row v3 3 (Rp.int .i64) p0.2.2, mp m_v2 Bo Bo p0.2.1] w := F
  refine Dh (N2 := []) (NZ2 := []) (N3 := [(some 7, b1, [.int .i64 p2.1, .int .i64 p2.2.1, .int .i64 p2.2.2.1, .int .i64 p2.2.2.2.1, .int .i64 p2.2.2.2.2.1, .int .i64 p2.2.2.2.2.2])]) (NZ3 := [(some 8, Bd v1 78 BD (Ap d_v1.1 p1 (v5.1, v5.2.1, v5.2.2.1, v5.2.2.2.1, v5.2.2.2.2.1, v5.2.2.2.2.2.1, v5.2.2.2.2.2.2.1, p2.2.1)))]) F Aa Aa (all_cons (fun h => BA (by kernel_rfl) h) Bf) (all_cons (fun h => BA (by kernel_rfl) h) Bf) ?_
  refine Cs (R := []) W Aa Aa (yC fun M Z hN hZ => BM W Aa) Aa Aa fun a W => ?_
  refine Cs (R := []) W Aa Aa (yC fun M Z hN hZ => Af Ek Aa Aa Aa Gy W Aa (E5 v1 + (p1).toNat * 8 + 4) Aa) Aa Aa fun a W => ?_
  refine GV Aa ?_
  obtain ⟨x6, h15, H⟩ := An H
  obtain ⟨v9, h16, h17⟩ := EY (er := Co) h13 h15
  have h18 : Value.oneCell' v8 = true := (F.one (k := 0) Aa)
  have F := F.frontZ (i := 1) Aa Aa
  have F := F.frontZ (i := 1) Aa Aa
  have F := F.toR
  refine Kp (D := BD) (S := (Dp.sl 3 (Rp.int .i64))) (b := (v8, 2, x5)) (i := p1) (j := 4) (Foc.snd (Foc.snd (Foc.snd (Foc.snd (Foc.fst Foc.here))))) W F Aa Aa Aa h16 Gy (Dg h18) Aa h18 Aa fun w F => ?_
  have h19 : List.map Co (Ap (Ap (Ap d_v1.1 p1 (v5.1, v5.2.1, v5.2.2.1, v5.2.2.2.1, v5.2.2.2.2.1, v5.2.2.2.2.2.1, v5.2.2.2.2.2.2.1, p2.2.1)) p1 (v6.1, v6.2.1, v6.2.2.1, v6.2.2.2.1, ((v6.2.2.2.2.1.1), 0, []), v6.2.2.2.2.2.1, v6.2.2.2.2.2.2.1, v6.2.2.2.2.2.2.2)) p1 (v9.1, v9.2.1, v9.2.2.1, v9.2.2.2.1, (v8, 2, x5), v9.2.2.2.2.2.1, v9.2.2.2.2.2.2.1, v9.2.2.2.2.2.2.2)) = (Ap (Ap (Ap p0.1 p1 (x2.1, x2.2.1, x2.2.2.1, x2.2.2.2.1, x2.2.2.2.2.1, x2.2.2.2.2.2.1, x2.2.2.2.2.2.2.1, p2.2.1)) p1 (x3.1, x3.2.1, x3.2.2.1, x3.2.2.2.1, (0, []), x3.2.2.2.2.2.1, x3.2.2.2.2.2.2.1, x3.2.2.2.2.2.2.2)) p1 (x6.1, x6.2.1, x6.2.2.1, x6.2.2.2.1, (2, x5), x6.2.2.2.2.2.1, x6.2.2.2.2.2.2.1, x6.2.2.2.2.2.2.2)) := (Id h13 (congrArg (fun q : Int × Int × Int × Int × (Nat × List Int) × Int × Int × Int => (q.1, q.2.1, q.2.2.1, q.2.2.2.1, (2, x5), q.2.2.2.2.2.1, q.2.2.2.2.2.2.1, q.2.2.2.2.2.2.2)) h17))
  have F : Stw ⟨Y, X, w0⟩ [(b1, [.int .i64 p2.1, .int .i64 p2.2.1, .int .i64 p2.2.2.1, .int .i64 p2.2.2.2.1, .int .i64 p2.2.2.2.2.1, .int .i64 p2.2.2.2.2.2]), (q_p0, [v1, .map (some m_v2), v3])] [Bd v1 78 BD (Ap (Ap (Ap d_v1.1 p1 (v5.1, v5.2.1, v5.2.2.1, v5.2.2.2.1, v5.2.2.2.2.1, v5.2.2.2.2.2.1, v5.2.2.2.2.2.2.1, p2.2.1)) p1 (v6.1, v6.2.1, v6.2.2.1, v6.2.2.2.1, ((v6.2.2.2.2.1.1), 0, []), v6.2.2.2.2.2.1, v6.2.2.2.2.2.2.1, v6.2.2.2.2.2.2.2)) p1 (v9.1, v9.2.1, v9.2.2.1, v9.2.2.2.1, (v8, 2, x5), v9.2.2.2.2.2.1, v9.2.2.2.2.2.2.1, v9.2.2.2.2.2.2.2)), row v7 3 (Rp.int .i64) ([p2.2.2.2.1] : List Int), row v3 3 (Rp.int .i64) p0.2.2, mp m_v2 Bo Bo p0.2.1] w := F
  refine Dh (N2 := []) (NZ2 := []) (N3 := [(some 7, b1, [.int .i64 p2.1, .int .i64 p2.2.1, .int .i64 p2.2.2.1, .int .i64 p2.2.2.2.1, .int .i64 p2.2.2.2.2.1, .int .i64 p2.2.2.2.2.2])]) (NZ3 := [(some 8, Bd v1 78 BD (Ap d_v1.1 p1 (v5.1, v5.2.1, v5.2.2.1, v5.2.2.2.1, v5.2.2.2.2.1, v5.2.2.2.2.2.1, v5.2.2.2.2.2.2.1, p2.2.1)))]) F Aa Aa (all_cons (fun h => BA (by kernel_rfl) h) Bf) (all_cons (fun h => BA (by kernel_rfl) h) Bf) ?_
  refine I5 (Ac (AB (AO ?_)))
  have H := A1 H
  subst H
  refine FF (.inl Aa) W Aa ?_
  have F := F.frontZ (i := 3) Aa Aa
  have F := F.frontZ (i := 3) Aa Aa
  have F := F.frontZ (i := 2) Aa Aa
  have F := F.frontM (i := 1) Aa Aa
  have F := F.sub (M' := [(q_p0, [v1, .map (some m_v2), v3])]) (Z' := [Bd v1 78 BD (Ap (Ap (Ap d_v1.1 p1 (v5.1, v5.2.1, v5.2.2.1, v5.2.2.2.1, v5.2.2.2.2.1, v5.2.2.2.2.2.1, v5.2.2.2.2.2.2.1, p2.2.1)) p1 (v6.1, v6.2.1, v6.2.2.1, v6.2.2.2.1, ((v6.2.2.2.2.1.1), 0, []), v6.2.2.2.2.2.1, v6.2.2.2.2.2.2.1, v6.2.2.2.2.2.2.2)) p1 (v9.1, v9.2.1, v9.2.2.1, v9.2.2.2.1, (v8, 2, x5), v9.2.2.2.2.2.1, v9.2.2.2.2.2.2.1, v9.2.2.2.2.2.2.2)), row v3 3 (Rp.int .i64) p0.2.2, mp m_v2 Bo Bo p0.2.1]) (List.Sublist.cons_cons _ (List.nil_sublist _)) (List.Sublist.cons_cons _ (List.Sublist.cons_cons _ (List.Sublist.cons_cons _ (List.nil_sublist _))))
  exact ⟨((v1), ⟨(Ap (Ap (Ap d_v1.1 p1 (v5.1, v5.2.1, v5.2.2.1, v5.2.2.2.1, v5.2.2.2.2.1, v5.2.2.2.2.2.1, v5.2.2.2.2.2.2.1, p2.2.1)) p1 (v6.1, v6.2.1, v6.2.2.1, v6.2.2.2.1, ((v6.2.2.2.2.1.1), 0, []), v6.2.2.2.2.2.1, v6.2.2.2.2.2.2.1, v6.2.2.2.2.2.2.2)) p1 (v9.1, v9.2.1, v9.2.2.1, v9.2.2.2.1, (v8, 2, x5), v9.2.2.2.2.2.1, v9.2.2.2.2.2.2.1, v9.2.2.2.2.2.2.2)), h19⟩, (v3)), Aa, F⟩
 have H := A9 (BS hb) H
 rw [hb] at W
 clear hb
 refine As (Ac (Ah (Ab ?_)))
 refine ls W F Aa (Ag W Aa).q fun a w W F => ?_
 refine ls W F Aa (Af Ds Aa Aa Aa T3 W Aa 0 Aa).q fun a w W F => ?_
 refine ls W F Aa (Al (v := Value.int .i64 p2.1) 0 W Aa Aa T3 Aa).q fun a w W F => ?_
 refine ls W F Aa (BM W Aa).q fun a w W F => ?_
 refine ls W F Aa (Af Ek Aa Aa Aa T3 W Aa (E5 v1 + (p1).toNat * 8 + 5) Aa).q fun a w W F => ?_
 obtain ⟨x7, h20, H⟩ := An H
 obtain ⟨v10, h21, h22⟩ := EY (er := Co) h7 h20
 refine Gp (D := BD) (i := p1) (j := 5) (vs := [.int .i64 p2.1]) (x' := (v10.1, v10.2.1, v10.2.2.1, v10.2.2.2.1, v10.2.2.2.2.1, p2.1, v10.2.2.2.2.2.2.1, v10.2.2.2.2.2.2.2)) W F Aa Aa Aa h21 T3 Aa Aa Aa Aa Aa Aa fun w F => ?_
 have h23 : List.map Co (Ap (Ap d_v1.1 p1 (v5.1, v5.2.1, v5.2.2.1, v5.2.2.2.1, v5.2.2.2.2.1, v5.2.2.2.2.2.1, v5.2.2.2.2.2.2.1, p2.2.1)) p1 (v10.1, v10.2.1, v10.2.2.1, v10.2.2.2.1, v10.2.2.2.2.1, p2.1, v10.2.2.2.2.2.2.1, v10.2.2.2.2.2.2.2)) = (Ap (Ap p0.1 p1 (x2.1, x2.2.1, x2.2.2.1, x2.2.2.2.1, x2.2.2.2.2.1, x2.2.2.2.2.2.1, x2.2.2.2.2.2.2.1, p2.2.1)) p1 (x7.1, x7.2.1, x7.2.2.1, x7.2.2.2.1, x7.2.2.2.2.1, p2.1, x7.2.2.2.2.2.2.1, x7.2.2.2.2.2.2.2)) := (Id h7 (congrArg (fun q : Int × Int × Int × Int × (Nat × List Int) × Int × Int × Int => (q.1, q.2.1, q.2.2.1, q.2.2.2.1, q.2.2.2.2.1, p2.1, q.2.2.2.2.2.2.1, q.2.2.2.2.2.2.2)) h22))
 have F : Stw ⟨Y, X, w0⟩ [(b1, [.int .i64 p2.1, .int .i64 p2.2.1, .int .i64 p2.2.2.1, .int .i64 p2.2.2.2.1, .int .i64 p2.2.2.2.2.1, .int .i64 p2.2.2.2.2.2]), (q_p0, [v1, .map (some m_v2), v3])] [Bd v1 78 BD (Ap (Ap d_v1.1 p1 (v5.1, v5.2.1, v5.2.2.1, v5.2.2.2.1, v5.2.2.2.2.1, v5.2.2.2.2.2.1, v5.2.2.2.2.2.2.1, p2.2.1)) p1 (v10.1, v10.2.1, v10.2.2.1, v10.2.2.2.1, v10.2.2.2.2.1, p2.1, v10.2.2.2.2.2.2.1, v10.2.2.2.2.2.2.2)), row v3 3 (Rp.int .i64) p0.2.2, mp m_v2 Bo Bo p0.2.1] w := F
 refine Ad (Ac ?_)
 obtain ⟨o1, G1, K1⟩ := An H
 refine AR (fun a w => ∃ x8 : List (Int × Int × Int × Int × (Nat × List Int) × Int × Int × Int), ∃ g_x8 : {x : List (Int × Int × Int × Int × (Value × Nat × List Int) × Int × Int × Int) // x.map Co = x8}, some (x8) = some o1 ∧ Fr 58 [] [(0, .pointer (some ⟨q_p0, 0, none⟩)), (1, .int .i64 p1), (5, .pointer (some ⟨b1, 0, none⟩))] a ∧ Stw ⟨Y, X, w0⟩ [(b1, [.int .i64 p2.1, .int .i64 p2.2.1, .int .i64 p2.2.2.1, .int .i64 p2.2.2.2.1, .int .i64 p2.2.2.2.2.1, .int .i64 p2.2.2.2.2.2]), (q_p0, [v1, .map (some m_v2), v3])] [Bd v1 78 BD g_x8.1, row v3 3 (Rp.int .i64) p0.2.2, mp m_v2 Bo Bo p0.2.1] w) ?_ ?_
 ·
  have H := G1
  clear G1 K1
  refine Ah (Ab ?_)
  refine ls W F Aa (Af Ds Aa Aa Aa T3 W Aa 0 Aa).q fun a w W F => ?_
  refine ls W F Aa (Al (v := Value.int .i64 p2.1) 0 W Aa Aa T3 Aa).q fun a w W F => ?_
  refine ls W F Aa (C9 W Aa Aa).q fun a w W F => ?_
  refine Ad (Ac ?_)
  refine AA W Aa (fun hb => ?_) fun hb => ?_
  ·
   have H := Ba (BO hb) H
   rw [hb] at W
   clear hb
   refine Ab ?_
   refine ls W F Aa (Ag W Aa).q fun a w W F => ?_
   refine ls W F Aa (Af Ds Aa Aa Aa T3 W Aa 4 Aa).q fun a w W F => ?_
   refine ls W F Aa (Al (v := Value.int .i64 p2.2.2.2.2.1) 0 W Aa Aa T3 Aa).q fun a w W F => ?_
   refine ls W F Aa (BM W Aa).q fun a w W F => ?_
   refine ls W F Aa (Af Ek Aa Aa Aa T3 W Aa (E5 v1 + (p1).toNat * 8 + 6) Aa).q fun a w W F => ?_
   obtain ⟨x9, h24, H⟩ := An H
   obtain ⟨v11, h25, h26⟩ := EY (er := Co) h23 h24
   refine Gp (D := BD) (i := p1) (j := 6) (vs := [.int .i64 p2.2.2.2.2.1]) (x' := (v11.1, v11.2.1, v11.2.2.1, v11.2.2.2.1, v11.2.2.2.2.1, v11.2.2.2.2.2.1, p2.2.2.2.2.1, v11.2.2.2.2.2.2.2)) W F Aa Aa Aa h25 T3 Aa Aa Aa Aa Aa Aa fun w F => ?_
   have h27 : List.map Co (Ap (Ap (Ap d_v1.1 p1 (v5.1, v5.2.1, v5.2.2.1, v5.2.2.2.1, v5.2.2.2.2.1, v5.2.2.2.2.2.1, v5.2.2.2.2.2.2.1, p2.2.1)) p1 (v10.1, v10.2.1, v10.2.2.1, v10.2.2.2.1, v10.2.2.2.2.1, p2.1, v10.2.2.2.2.2.2.1, v10.2.2.2.2.2.2.2)) p1 (v11.1, v11.2.1, v11.2.2.1, v11.2.2.2.1, v11.2.2.2.2.1, v11.2.2.2.2.2.1, p2.2.2.2.2.1, v11.2.2.2.2.2.2.2)) = (Ap (Ap (Ap p0.1 p1 (x2.1, x2.2.1, x2.2.2.1, x2.2.2.2.1, x2.2.2.2.2.1, x2.2.2.2.2.2.1, x2.2.2.2.2.2.2.1, p2.2.1)) p1 (x7.1, x7.2.1, x7.2.2.1, x7.2.2.2.1, x7.2.2.2.2.1, p2.1, x7.2.2.2.2.2.2.1, x7.2.2.2.2.2.2.2)) p1 (x9.1, x9.2.1, x9.2.2.1, x9.2.2.2.1, x9.2.2.2.2.1, x9.2.2.2.2.2.1, p2.2.2.2.2.1, x9.2.2.2.2.2.2.2)) := (Id h23 (congrArg (fun q : Int × Int × Int × Int × (Nat × List Int) × Int × Int × Int => (q.1, q.2.1, q.2.2.1, q.2.2.2.1, q.2.2.2.2.1, q.2.2.2.2.2.1, p2.2.2.2.2.1, q.2.2.2.2.2.2.2)) h26))
   have F : Stw ⟨Y, X, w0⟩ [(b1, [.int .i64 p2.1, .int .i64 p2.2.1, .int .i64 p2.2.2.1, .int .i64 p2.2.2.2.1, .int .i64 p2.2.2.2.2.1, .int .i64 p2.2.2.2.2.2]), (q_p0, [v1, .map (some m_v2), v3])] [Bd v1 78 BD (Ap (Ap (Ap d_v1.1 p1 (v5.1, v5.2.1, v5.2.2.1, v5.2.2.2.1, v5.2.2.2.2.1, v5.2.2.2.2.2.1, v5.2.2.2.2.2.2.1, p2.2.1)) p1 (v10.1, v10.2.1, v10.2.2.1, v10.2.2.2.1, v10.2.2.2.2.1, p2.1, v10.2.2.2.2.2.2.1, v10.2.2.2.2.2.2.2)) p1 (v11.1, v11.2.1, v11.2.2.1, v11.2.2.2.1, v11.2.2.2.2.1, v11.2.2.2.2.2.1, p2.2.2.2.2.1, v11.2.2.2.2.2.2.2)), row v3 3 (Rp.int .i64) p0.2.2, mp m_v2 Bo Bo p0.2.1] w := F
   refine Ad (Ac ?_)
   have F := F.frontZ (i := 2) Aa Aa
   have F := F.frontZ (i := 2) Aa Aa
   have F := F.frontZ (i := 2) Aa Aa
   have F := F.frontM (i := 1) Aa Aa
   have F := F.frontM (i := 1) Aa Aa
   exact ⟨_, ⟨(Ap (Ap (Ap d_v1.1 p1 (v5.1, v5.2.1, v5.2.2.1, v5.2.2.2.1, v5.2.2.2.2.1, v5.2.2.2.2.2.1, v5.2.2.2.2.2.2.1, p2.2.1)) p1 (v10.1, v10.2.1, v10.2.2.1, v10.2.2.2.1, v10.2.2.2.2.1, p2.1, v10.2.2.2.2.2.2.1, v10.2.2.2.2.2.2.2)) p1 (v11.1, v11.2.1, v11.2.2.1, v11.2.2.2.1, v11.2.2.2.2.1, v11.2.2.2.2.2.1, p2.2.2.2.2.1, v11.2.2.2.2.2.2.2)), h27⟩, H, W.re ⟨rfl, Aa, Aa, trivial⟩, F⟩
  have H := A9 (BS hb) H
  rw [hb] at W
  clear hb
  refine As (Ac ?_)
  have F := F.frontZ (i := 2) Aa Aa
  have F := F.frontZ (i := 2) Aa Aa
  have F := F.frontZ (i := 2) Aa Aa
  have F := F.frontM (i := 1) Aa Aa
  have F := F.frontM (i := 1) Aa Aa
  exact ⟨_, ⟨(Ap (Ap d_v1.1 p1 (v5.1, v5.2.1, v5.2.2.1, v5.2.2.2.1, v5.2.2.2.2.1, v5.2.2.2.2.2.1, v5.2.2.2.2.2.2.1, p2.2.1)) p1 (v10.1, v10.2.1, v10.2.2.1, v10.2.2.2.1, v10.2.2.2.2.1, p2.1, v10.2.2.2.2.2.2.1, v10.2.2.2.2.2.2.2)), h23⟩, H, W.re ⟨rfl, Aa, Aa, trivial⟩, F⟩
 rintro a w ⟨x8, g_x8, hj, W, F⟩
 have hj := A1 hj
 subst hj
 have H := K1
 clear G1 K1
 refine Ii 13 F MO (by kernel_rfl) ?_
 refine qs W Aa (Ag W Aa).q fun a W => ?_
 refine qs W Aa (BM W Aa).q fun a W => ?_
 refine qs W Aa (Af HF Aa Aa Aa Nb W Aa 1 Aa).q fun a W => ?_
 refine qs W Aa (Al (v := Value.map (some m_v2)) 1 W Aa Aa Nb Aa).q fun a W => ?_
 refine qs W Aa (Af Ds Aa Aa Aa T3 W Aa 2 Aa).q fun a W => ?_
 refine qs W Aa (Al (v := Value.int .i64 p2.2.2.1) 0 W Aa Aa T3 Aa).q fun a W => ?_
 refine qs W Aa (Ag W Aa).q fun a W => ?_
 refine qs W Aa (BM W Aa).q fun a W => ?_
 refine qs W Aa (Af HF Aa Aa Aa Gy W Aa 2 Aa).q fun a W => ?_
 refine qs W Aa (Al (v := v3) 1 W Aa Aa Gy Aa).q fun a W => ?_
 refine qs W Aa (Ag W Aa).q fun a W => ?_
 obtain ⟨x10, h28, H⟩ := An H
 refine qs W Aa (AU (r := (Rp.int .i64)) Jy W Aa Aa (AN 1 Aa) h28).q fun a W => ?_
 refine qs W Aa (AC (y := Value.int .i64 x10) (j := 0) (i := p1) W Aa Aa (AN 1 Aa) h28 Fl.int.to T3 Aa).q fun a W => ?_
 refine Cf fun w F => ?_
 refine FZ (q := 2) (kx := (p2.2.2.1 : Int)) (vx := (x10 : Int)) (E := Bo) (V := Bo) W F Aa Aa Aa Aa Aa NT Mm fun w F => ?_
 have F : Stw ⟨Y, X, w0⟩ [(b1, [.int .i64 p2.1, .int .i64 p2.2.1, .int .i64 p2.2.2.1, .int .i64 p2.2.2.2.1, .int .i64 p2.2.2.2.2.1, .int .i64 p2.2.2.2.2.2]), (q_p0, [v1, .map (some m_v2), v3])] [mp m_v2 Bo Bo (CP p0.2.1 p2.2.2.1 x10), Bd v1 78 BD g_x8.1, row v3 3 (Rp.int .i64) p0.2.2] w := F
 refine Ad ?_
 have H := A1 H
 subst H
 refine FF (.inr Aa) W Aa ?_
 have F := F.frontZ (i := 2) Aa Aa
 have F := F.frontZ (i := 2) Aa Aa
 have F := F.frontM (i := 1) Aa Aa
 have F := F.sub (M' := [(q_p0, [v1, .map (some m_v2), v3])]) (Z' := [Bd v1 78 BD g_x8.1, row v3 3 (Rp.int .i64) p0.2.2, mp m_v2 Bo Bo (CP p0.2.1 p2.2.2.1 x10)]) (List.Sublist.cons_cons _ (List.nil_sublist _)) (List.Sublist.refl _)
 exact ⟨((v1), ⟨g_x8.1, g_x8.2⟩, (v3)), Aa, F⟩
end Go.Proofs.Ytflaelbmglmmcaa
