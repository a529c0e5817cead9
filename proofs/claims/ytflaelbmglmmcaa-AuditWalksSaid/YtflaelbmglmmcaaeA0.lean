/- The functions of layer 42, ET. Conditions: none. -/
import Derived.Test.YtflaelbmglmmcaaRows
import Derived.Test.YtflaelbmglmmcaaeOT
import Derived.Test.YtflaelbmglmmcaaeQT
import Derived.Test.YtflaelbmglmmcaaeOD
import Derived.Test.YtflaelbmglmmcaaeRF
import Derived.Test.YtflaelbmglmmcaaeOC
import Derived.Test.YtflaelbmglmmcaaeOM
import Derived.Test.YtflaelbmglmmcaaeRF
import Derived.Test.YtflaelbmglmmcaaeDR
import Derived.Test.YtflaelbmglmmcaaeOX
namespace Go.Proofs.Ytflaelbmglmmcaa
open Go Go.RowKit
set_option linter.unusedVariables false
set_option linter.unusedSimpArgs false
set_option maxRecDepth 20000
theorem Nn : type_of% Try.underlying3 := Try.underlying3
theorem GW : type_of% Try.underlying23 := Try.underlying23
theorem CJ : type_of% Try.underlying25 := Try.underlying25
theorem OL : type_of% Try.underlying26 := Try.underlying26
theorem ME : type_of% Try.underlying27 := Try.underlying27
theorem Lu : type_of% Try.underlying38 := Try.underlying38
theorem DQ : type_of% Try.underlying48 := Try.underlying48
theorem Ik : type_of% Try.underlying52 := Try.underlying52
theorem Fq : type_of% Try.underlying54 := Try.underlying54
theorem I1 : type_of% Try.underlying60 := Try.underlying60
abbrev DB : Rp (Int × Int × Int × Int × Int × Int) := (Rp.pair (Rp.int .i64) (Rp.pair (Rp.int .i64) (Rp.pair (Rp.int .i64) (Rp.pair (Rp.int .i64) (Rp.pair (Rp.int .i64) (Rp.int .i64))))))
theorem Pn : Bt Try.prog 60 [.int .i64 0, .int .i64 0] [(0, 1), (1, 1)] := ⟨⟨.agg #[.int .i64 0, .int .i64 0], by kernel_rfl, rfl⟩, ⟨_, I1, fun w => by kernel_rfl⟩⟩
theorem Po : (Try.prog.info? 60).bind (·.zero) = some (.agg #[.int .i64 0, .int .i64 0]) := by kernel_rfl
abbrev Ec : Rp (Int × Int) := (Rp.pair (Rp.int .i64) (Rp.int .i64))
def Qr (a : Int × Int) : List Value := [.int .i64 a.1, .int .i64 a.2]
theorem Nm : Fl Ec Qr := (Fl.pair Fl.int Fl.int)
theorem Nd : Et Try.prog 23 60 2 16 := Et.of GW (by kernel_rfl) (by kernel_rfl) (by kernel_rfl) (by decide)
theorem P4 : Bt Try.prog 25 [.int .i64 0, .slice none 0 0, .slice none 0 0] [(0, 1), (1, 1), (2, 1)] := ⟨⟨.agg #[.int .i64 0, .slice none 0 0, .slice none 0 0], by kernel_rfl, rfl⟩, ⟨_, CJ, fun w => by kernel_rfl⟩⟩
theorem PX : (Try.prog.info? 25).bind (·.zero) = some (.agg #[.int .i64 0, .slice none 0 0, .slice none 0 0]) := by kernel_rfl
theorem G0 : Ty Try.prog 25 true 3 := ⟨by kernel_rfl, by kernel_rfl⟩
theorem Z3 : (Try.prog.info? 3).bind (·.zero) = some (.int .i64 0) := by kernel_rfl
theorem HV : Et Try.prog 54 3 1 8 := Et.of Fq (by kernel_rfl) (by kernel_rfl) (by kernel_rfl) (by decide)
theorem PP : (Try.prog.info? 54).bind (·.zero) = some (.slice none 0 0) := by kernel_rfl
theorem Lw : Et Try.prog 52 54 1 24 := Et.of Ik (by kernel_rfl) (by kernel_rfl) (by kernel_rfl) (by decide)
theorem OM : (Try.prog.info? 52).bind (·.zero) = some (.slice none 0 0) := by kernel_rfl
theorem Ol : Et Try.prog 26 52 1 24 := Et.of OL (by kernel_rfl) (by kernel_rfl) (by kernel_rfl) (by decide)
theorem NH : Bt Try.prog 48 [.int .i64 0, .int .i64 0, .int .i64 0, .int .i64 0, .int .i64 0, .int .i64 0] [(0, 1), (1, 1), (2, 1), (3, 1), (4, 1), (5, 1)] := ⟨⟨.agg #[.int .i64 0, .int .i64 0, .int .i64 0, .int .i64 0, .int .i64 0, .int .i64 0], by kernel_rfl, rfl⟩, ⟨_, DQ, fun w => by kernel_rfl⟩⟩
theorem NC : (Try.prog.info? 48).bind (·.zero) = some (.agg #[.int .i64 0, .int .i64 0, .int .i64 0, .int .i64 0, .int .i64 0, .int .i64 0]) := by kernel_rfl
def QB (a : Int × Int × Int × Int × Int × Int) : List Value := [.int .i64 a.1, .int .i64 a.2.1, .int .i64 a.2.2.1, .int .i64 a.2.2.2.1, .int .i64 a.2.2.2.2.1, .int .i64 a.2.2.2.2.2]
theorem MG : Fl DB QB := (Fl.pair Fl.int (Fl.pair Fl.int (Fl.pair Fl.int (Fl.pair Fl.int (Fl.pair Fl.int Fl.int)))))
theorem KY : Et Try.prog 27 48 6 48 := Et.of ME (by kernel_rfl) (by kernel_rfl) (by kernel_rfl) (by decide)
abbrev CS : Rp (Int × Int × Int × Int × Int × Int) := (Rp.pair (Rp.int .i64) (Rp.pair (Rp.int .i64) (Rp.pair (Rp.int .i64) (Rp.pair (Rp.int .i64) (Rp.pair (Rp.int .i64) (Rp.int .i64))))))
abbrev Oo (p : Value × List Int) : List Int := p.2
theorem Dc : Ex (Rp.slice (Rp.int .i64)) (Rp.vsl (Rp.int .i64)) Oo := Ex.sliceF
abbrev OX (p : Value × List (Value × List Int)) : List (List Int) := (p.2.map Oo)
theorem Nt : Ex (Rp.slice (Rp.slice (Rp.int .i64))) (Rp.vsl (Rp.vsl (Rp.int .i64))) OX := (Ex.slice Dc)
theorem O4 : (Try.prog.info? 70).bind (·.zero) = some (.agg #[.slice none 0 0, .slice none 0 0]) := by kernel_rfl
theorem Qf : (Try.prog.info? 30).bind (·.zero) = some (.slice none 0 0) := by kernel_rfl
abbrev Bw (x : Int) : Value := .int .i64 x
theorem Qd : (Try.prog.info? 61).bind (·.zero) = some (.map none) := by kernel_rfl
theorem Na : Ty Try.prog 61 false 1 := ⟨by kernel_rfl, by kernel_rfl⟩
theorem OP : Ty Try.prog 27 false 1 := ⟨by kernel_rfl, by kernel_rfl⟩
theorem O2 (Y : Nat → Prop) (w0 : World) (v : Value) (h1 : v.oneCell' = true) : Calls Try.prog 23 [v].toArray w0 fun e w' => ∃ b, e = .returned (.func (.func 39) #[] #[.pointer (some ⟨b, 0, none⟩)]) ∧ Stw ⟨Y, [], w0⟩ [(b, [v])] [] w' := by
 refine enter Try.func23 Aa Try.ntmps23 Aa fun a W => ?_
 have F := Stw.start Y w0
 refine Ai (Ac ?_)
 refine B9 (cs := [v]) W F Aa Aa (CG h1) fun b1 a w W F => ?_
 refine ls W F Aa (Ah W Aa).q fun a w W F => ?_
 refine Ad (Ab (Ai (Ac ?_)))
 refine ls W F Aa (GB (us := []) (vs := [.pointer (some ⟨b1, 0, none⟩)]) W Aa Aa).q fun a w W F => ?_
 refine ls W F Aa (Ah W Aa).q fun a w W F => ?_
 refine Ad (Ab (AA ?_))
 refine A8 (.inl Aa) W F Aa (Ap W Aa) ?_
 exact ⟨b1, Aa, F⟩
theorem Qy : Has Try.prog 23 := ⟨fun args w => Am Try.func23 rfl (by decide) args w⟩
theorem Mo : Ty Try.prog 48 true 6 := ⟨by kernel_rfl, by kernel_rfl⟩
theorem Qb (b : Nat) (v : Value) (l : List (Int × Int × Int × Int × Int × Int)) (hn : l.length ≤ 1000000000) :
    N5 Try.prog 39 [.pointer (some ⟨b, 0, none⟩)] (Og b v DB l) (HJ l) (fun p => [.int .i64 p.1, Value.agg #[.int .i64 p.2.1, .int .i64 p.2.2.1, .int .i64 p.2.2.2.1, .int .i64 p.2.2.2.2.1, .int .i64 p.2.2.2.2.2.1, .int .i64 p.2.2.2.2.2.2]]) := by
 intro y K Kx w0 hB hR hY h0
 refine enter (args := [.func (.yield y) #[] #[], .pointer (some ⟨b, 0, none⟩)]) Try.func39 Aa Try.ntmps39 Aa fun a W => ?_
 refine Ai (Ac ?_)
 have F := Stw.start any w0
 have hr := hR _ _ h0
 refine ls W F Aa (HY (cs := [v]) (v := v) hr.1 (by simp) W Aa OP Aa).q fun a w W F => ?_
 refine ls W F Aa (A7 (r := DB) (l := l) ME Aa W Aa (Aj hr.2.nx)).q fun a w W F => ?_
 refine ls W F Aa (HE (r := (l.length : Int) - 1) W Aa Aa (Js hn)).q fun a w W F => ?_
 refine ls W F Aa (Ah W Aa).q fun a w W F => ?_
 refine Ad (Ab ?_)
 have hK := hB _ _ _ h0 F.frm.below
 have W : Fr 19 [] [(0, .func (.yield y) #[] #[]), (1, .pointer (some ⟨b, 0, none⟩)), (3, .int .i64 ((l.length : Int) - 1))] a := W.re ⟨rfl, Aa, Aa, trivial⟩
 clear F hr h0
 have hl : l.take l.length = l := List.take_length
 rw [← hl] at hK
 refine Aw ?_
 refine Fs (fun m a w => m ≤ l.length ∧ Fr 19 [] [(0, .func (.yield y) #[] #[]), (1, .pointer (some ⟨b, 0, none⟩)), (3, .int .i64 ((m : Int) - 1))] a ∧ K (HJ (l.take m)) w) l.length ⟨Nat.le_refl _, W, hK⟩ ?_
 clear W hK w
 rintro m a w ⟨hm, W, hK⟩
 have F := Stw.start any w
 have hr := hR _ _ hK
 refine Ai (Ai (Ac ?_))
 refine ls W F Aa (Ae W Aa).q fun a w1 W F => ?_
 refine ls W F Aa (DC W Aa Aa).q fun a w1 W F => ?_
 refine Ad (Ab ?_)
 cases m with
 | zero =>
  refine GT W Aa ?_
  refine Bk ?_
  iterate 2 refine BJ ?_
  refine Bl ?_
  exact FV (.inr Aa) (W.re (F' := []) trivial) Aa ⟨⟨_, Aa⟩, .inl (hB _ _ _ hK F.frm.below)⟩
 | succ k =>
  refine GP W (by show some (Value.bool (decide ((0 : Int) ≤ (k + 1 : Nat) - 1))) = some (Value.bool true); rw [decide_eq_true (by omega)]) ?_
  have hk : k < l.length := hm
  have hx : ix l (k : Int) = some l[k] := by unfold ix; rw [if_pos (by omega)]; simp
  have hx2 : l[k]? = some l[k] := by simp
  have e1 : ((k + 1 : Nat) : Int) - 1 = k := by omega
  rw [e1] at W
  rw [Ha hx2] at hK
  refine Aq (Ab (Ai (Aw (Ai ?_))))
  refine Jb 6 (fun ⟨_, _, h⟩ => by obtain ⟨⟨_, h⟩, _⟩ := h; cases h) ?_
  iterate 2 refine ls W F Aa (Ae W Aa).q fun a w1 W F => ?_
  refine ls W F Aa (HY (cs := [v]) (v := v) hr.1 (by simp) W Aa OP Aa).q fun a w1 W F => ?_
  refine ls W F Aa (Ae W Aa).q fun a w1 W F => ?_
  refine ls W F Aa (AJ (r := DB) KY W Aa Aa (Aj hr.2.nx) hx).q fun a w1 W F => ?_
  refine ls W F Aa (Az (y := Value.agg #[.int .i64 ((l[k]).1), .int .i64 ((l[k]).2.1), .int .i64 ((l[k]).2.2.1), .int .i64 ((l[k]).2.2.2.1), .int .i64 ((l[k]).2.2.2.2.1), .int .i64 ((l[k]).2.2.2.2.2)]) (j := 0) (i := (k : Int)) W Aa Aa (Aj hr.2.nx) hx MG.to Mo Aa).q fun a w1 W F => ?_
  refine Ad ?_
  have hK := hB _ _ _ hK F.frm.below
  refine KU (vs := [.int .i64 k, Value.agg #[.int .i64 ((l[k]).1), .int .i64 ((l[k]).2.1), .int .i64 ((l[k]).2.2.1), .int .i64 ((l[k]).2.2.2.1), .int .i64 ((l[k]).2.2.2.2.1), .int .i64 ((l[k]).2.2.2.2.2)]]) W Aa Aa Aa (hY _ _ _ hK) ?_
  rintro e w2 (⟨rfl, hK2⟩ | ⟨rfl, hx2⟩)
  · refine ⟨_, rfl, fun a W => ?_⟩
    refine JA W Aa Aa fun a W => ?_
    refine JK (Ab ?_)
    refine GT W Aa ?_
    refine Aq (AK (Ab (Ac ?_)))
    have F := Stw.start any w2
    refine ls W F Aa (Ae W Aa).q fun a w3 W F => ?_
    refine ls W F Aa (HE (r := (k : Int) - 1) W Aa Aa (Js (by omega))).q fun a w3 W F => ?_
    refine ls W F Aa (Ah W Aa).q fun a w3 W F => ?_
    refine Ad (Ab ?_)
    exact ⟨k, Nat.lt_succ_self k, Nat.le_of_lt hk, W.re ⟨rfl, Aa, Aa, trivial⟩, hB _ _ _ hK2 F.frm.below⟩
  · refine ⟨_, rfl, fun a W => ?_⟩
    refine JA W Aa Aa fun a W => ?_
    refine JK (Ab ?_)
    refine GP W Aa ?_
    refine AA (AF ?_)
    iterate 2 refine AD ?_
    refine AF ?_
    refine FV (.inl Aa) (W.re (F' := []) trivial) Aa ⟨⟨_, Aa⟩, .inr hx2⟩
theorem T3 : Ty Try.prog 3 false 1 := ⟨by kernel_rfl, by kernel_rfl⟩
theorem Oi : KeyEnc Try.prog 3 Bw := KeyEnc.int Nn
theorem Qw : Bt Try.prog 38 [.int .i64 0, .int .i64 0, .int .i64 0] [(0, 1), (1, 1), (2, 1)] := ⟨⟨.agg #[.int .i64 0, .int .i64 0, .int .i64 0], by kernel_rfl, rfl⟩, ⟨_, Lu, fun w => by kernel_rfl⟩⟩
theorem Pb : (Try.prog.info? 38).bind (·.zero) = some (.agg #[.int .i64 0, .int .i64 0, .int .i64 0]) := by kernel_rfl
theorem Nr : Ty Try.prog 38 true 3 := ⟨by kernel_rfl, by kernel_rfl⟩
theorem MO : Try.prog.follows .mixedOrders = true := by kernel_rfl
def Cu (p0 : Int × Int × Int × Int × Int × Int) (p1 : Int × Int × Int × Int × Int × Int) : Int := (if p1.1 = 9 then p0.2.2.2.2.2 else p1.2.1)
theorem IW (Y : Nat → Prop) (w0 : World)  (p0 : Int × Int × Int × Int × Int × Int) (p1 : Int × Int × Int × Int × Int × Int) (r : Int) (H : Cu p0 p1 = r)  :
    Calls Try.prog 24 #[.agg #[.int .i64 p0.1, .int .i64 p0.2.1, .int .i64 p0.2.2.1, .int .i64 p0.2.2.2.1, .int .i64 p0.2.2.2.2.1, .int .i64 p0.2.2.2.2.2], .agg #[.int .i64 p1.1, .int .i64 p1.2.1, .int .i64 p1.2.2.1, .int .i64 p1.2.2.2.1, .int .i64 p1.2.2.2.2.1, .int .i64 p1.2.2.2.2.2]] w0 fun e w' => e = .returned (.int .i64 r) ∧ Below w0.heap.size w0 w' := by
 refine enter Try.func24 Aa Try.ntmps24 Aa fun a W => ?_
 have F := Stw.start Y w0
 unfold Cu at H
 refine Ai (Ac ?_)
 refine B9 (cs := [.int .i64 p0.1, .int .i64 p0.2.1, .int .i64 p0.2.2.1, .int .i64 p0.2.2.2.1, .int .i64 p0.2.2.2.2.1, .int .i64 p0.2.2.2.2.2]) W F Aa Aa Aa fun b1 a w W F => ?_
 refine B9 (cs := [.int .i64 p1.1, .int .i64 p1.2.1, .int .i64 p1.2.2.1, .int .i64 p1.2.2.2.1, .int .i64 p1.2.2.2.2.1, .int .i64 p1.2.2.2.2.2]) W F Aa Aa Aa fun b2 a w W F => ?_
 refine ls W F Aa (Ah W Aa).q fun a w W F => ?_
 refine Ad (Ab (Ai (Ai (Ac ?_))))
 refine ls W F Aa (Ag DQ Aa Aa Aa T3 W Aa 0 Aa).q fun a w W F => ?_
 refine ls W F Aa (Al (v := Value.int .i64 p1.1) 0 W Aa Aa T3 Aa).q fun a w W F => ?_
 refine ls W F Aa (BZ W Aa Aa).q fun a w W F => ?_
 refine Ad (Ab ?_)
 refine Ay W Aa (fun hb => ?_) fun hb => ?_
 ·
  have H := AN (Bf hb) H
  rw [hb] at W
  clear hb
  refine Ai (Ac ?_)
  refine ls W F Aa (Ag DQ Aa Aa Aa T3 W Aa 5 Aa).q fun a w W F => ?_
  refine ls W F Aa (Al (v := Value.int .i64 p0.2.2.2.2.2) 1 W Aa Aa T3 Aa).q fun a w W F => ?_
  refine ls W F Aa (Ah W Aa).q fun a w W F => ?_
  refine Ad (Ab (AA (AD ?_)))
  subst H
  refine A8 (.inl Aa) W F Aa (Ap W Aa) ?_
  exact ⟨rfl, F.done⟩
 have H := AM (Bg hb) H
 rw [hb] at W
 clear hb
 refine Aq (Ab (Ai (Ac ?_)))
 refine ls W F Aa (Ag DQ Aa Aa Aa T3 W Aa 1 Aa).q fun a w W F => ?_
 refine ls W F Aa (Al (v := Value.int .i64 p1.2.1) 0 W Aa Aa T3 Aa).q fun a w W F => ?_
 refine ls W F Aa (Ah W Aa).q fun a w W F => ?_
 refine Ad (Ab (AA ?_))
 subst H
 refine A8 (.inl Aa) W F Aa (Ap W Aa) ?_
 exact ⟨rfl, F.done⟩
theorem M6 : type_of% Try.underlying30 := Try.underlying30
theorem Pv : Has Try.prog 24 := ⟨fun args w => Am Try.func24 rfl (by decide) args w⟩
theorem NG : Ty Try.prog 30 false 1 := ⟨by kernel_rfl, by kernel_rfl⟩
abbrev CW : Rp (Int × Int × Int) := (Rp.pair (Rp.int .i64) (Rp.pair (Rp.int .i64) (Rp.int .i64)))
def PG (a : Int × Int × Int) : List Value := [.int .i64 a.1, .int .i64 a.2.1, .int .i64 a.2.2]
theorem NS : Fl CW PG := (Fl.pair Fl.int (Fl.pair Fl.int Fl.int))
theorem NL : Et Try.prog 30 38 3 24 := Et.of M6 (by kernel_rfl) (by kernel_rfl) (by kernel_rfl) (by decide)
theorem Qa : Has Try.prog 39 := ⟨fun args w => Am Try.func39 rfl (by decide) args w⟩
noncomputable def AS  : ((List (Int × Int × Int)) × Int × Int) → Option (((List (Int × Int × Int)) × Int × Int) ⊕ (List (Int × Int × Int)))
  | (x1, x2, x3) => (if x2 < x3 then (ix x1 x3).bind fun x4 => (ix x1 x2).bind fun x5 => (ix x1 x2).bind fun x6 => (ix (Ax x1 x2 x4) x3).bind fun x7 => some (.inl ((Ax (Ax x1 x2 x4) x3 x5), DH (x2 + 1), DH (x3 - 1))) else some (.inr x1))
noncomputable def AG (p0 : List (Int × Int × Int)) : Option (List (Int × Int × Int)) := AQ (AS) (p0, 0, DH ((p0.length : Int) - 1))
theorem Dg (Y : Nat → Prop) (X : List Nat) (w0 : World) (v1 : Value) (p0 : List (Int × Int × Int)) (r : (List (Int × Int × Int))) (H : AG p0 = some r) (hL : Stw ⟨Y, X, w0⟩ [] [row v1 38 CW p0] w0) :
    Calls Try.prog 25 #[v1] w0 fun e w' => ∃ x : Unit, e = .returned (.tuple #[]) ∧ Stw ⟨Y, X, w0⟩ [] [row v1 38 CW r] w' := by
 refine enter Try.func25 Aa Try.ntmps25 Aa fun a W => ?_
 have F := hL
 unfold AG at H
 refine Ai (Ac ?_)
 refine ls W F Aa (Ae W Aa).q fun a w W F => ?_
 refine ls W F Aa (A7 (r := CW) (l := p0) M6 Aa W Aa (AP 0 Aa)).q fun a w W F => ?_
 refine ls W F Aa (HE W Aa Aa Aa).q fun a w W F => ?_
 iterate 2 refine ls W F Aa (Ah W Aa).q fun a w W F => ?_
 refine Ad (Ab (Aw ?_))
 refine Bv H (fun s a w => Fr 28 [] [(0, v1), (2, .int .i64 s.2.1), (3, .int .i64 s.2.2)] a ∧ Stw ⟨Y, X, w0⟩ [] [row v1 38 CW s.1] w) ⟨W.re ⟨rfl, Aa, Aa, trivial⟩, F⟩ fun s o a w H L1 hR => ?_
 obtain ⟨x1, x2, x3⟩ := s
 obtain ⟨W, F⟩ := hR
 have W : Fr 28 [] [(0, v1), (2, .int .i64 x2), (3, .int .i64 x3)] a := W
 have F : Stw ⟨Y, X, w0⟩ [] [row v1 38 CW x1] w := F
 rw [AS] at H
 refine Ai (Ai (Ac ?_))
 iterate 2 refine ls W F Aa (Ae W Aa).q fun a w W F => ?_
 refine ls W F Aa (Bq W Aa Aa).q fun a w W F => ?_
 refine Ad (Ab ?_)
 refine Ay W Aa (fun hb => ?_) fun hb => ?_
 ·
  have H := AN (Bf hb) H
  rw [hb] at W
  clear hb
  refine Aq (Ab (Ai (Aw ?_)))
  refine Nk 13 [2, 3] [0, 1, 4, 5, 6, 7, 8, 9, 10, 11, 12] (fun ch a d v w h => by cases d <;> exact h) F MO (by kernel_rfl) ?_
  iterate 2 refine hm W Aa Aa Aa fun a W => ?_
  refine NU ?_
  iterate 4 refine hs W Aa Aa Aa (Ae W Aa).q fun a W => ?_
  obtain ⟨x4, h1, H⟩ := Ao H
  refine hs W Aa Aa Aa (AJ (r := CW) NL W Aa Aa (AP 0 Aa) h1).q fun a W => ?_
  refine hs W Aa Aa Aa (Az (y := Value.agg #[.int .i64 x4.1, .int .i64 x4.2.1, .int .i64 x4.2.2]) (j := 0) (i := x3) W Aa Aa (AP 0 Aa) h1 NS.to Nr Aa).q fun a W => ?_
  iterate 2 refine hs W Aa Aa Aa (Ae W Aa).q fun a W => ?_
  obtain ⟨x5, h2, H⟩ := Ao H
  refine hs W Aa Aa Aa (AJ (r := CW) NL W Aa Aa (AP 0 Aa) h2).q fun a W => ?_
  refine hs W Aa Aa Aa (Az (y := Value.agg #[.int .i64 x5.1, .int .i64 x5.2.1, .int .i64 x5.2.2]) (j := 0) (i := x2) W Aa Aa (AP 0 Aa) h2 NS.to Nr Aa).q fun a W => ?_
  obtain ⟨x6, h3, H⟩ := Ao H
  refine hs W Aa Aa Aa (AJ (r := CW) NL W Aa Aa (AP 0 Aa) h3).q fun a W => ?_
  refine OI fun w F => ?_
  have F : Stw ⟨Y, X, w0⟩ [] [row v1 38 CW x1] w := F
  refine FS (i := x2) (j := 0) (vs := [.int .i64 x4.1, .int .i64 x4.2.1, .int .i64 x4.2.2]) (x' := x4) W F Aa Aa Aa (k := 0) Aa Aa h3 Nr Aa Aa Aa Aa (fun A cs _ => NS.sto (by rfl) _ _ _) fun w F => ?_
  obtain ⟨x7, h4, H⟩ := Ao H
  refine ls W F Aa (AJ (r := CW) NL W Aa Aa (AP 0 Aa) h4).q fun a w W F => ?_
  refine FS (i := x3) (j := 0) (vs := [.int .i64 x5.1, .int .i64 x5.2.1, .int .i64 x5.2.2]) (x' := x5) W F Aa Aa Aa (k := 0) Aa Aa h4 Nr Aa Aa Aa Aa (fun A cs _ => NS.sto (by rfl) _ _ _) fun w F => ?_
  refine Ad (AK (Ab (Ac ?_)))
  refine ls W F Aa (Ae W Aa).q fun a w W F => ?_
  refine ls W F Aa (Cq W Aa Aa Aa).q fun a w W F => ?_
  refine ls W F Aa (Ae W Aa).q fun a w W F => ?_
  refine ls W F Aa (HE W Aa Aa Aa).q fun a w W F => ?_
  iterate 2 refine ls W F Aa (Ah W Aa).q fun a w W F => ?_
  refine Ad (Ab ?_)
  exact ⟨_, H, W.re ⟨rfl, Aa, Aa, trivial⟩, F⟩
 have H := AM (Bg hb) H
 rw [hb] at W
 clear hb
 refine Bk ?_
 iterate 2 refine BJ ?_
 refine Bl ?_
 have H := L1 _ H
 have H := AW H
 subst H
 refine FV (.inr Aa) W Aa ?_
 exact ⟨(), Aa, F⟩
theorem LX : type_of% Try.underlying61 := Try.underlying61
theorem P8 : Has Try.prog 25 := ⟨fun args w => Am Try.func25 rfl (by decide) args w⟩
noncomputable def Cn (p0 : List (Int × Int × Int × Int × Int × Int)) (x2 : Int × Int × Int × Int × Int × Int × Int) : ((List (Int × Int × Int)) × (List (Int × Int))) → Option (((List (Int × Int × Int)) × (List (Int × Int))) ⊕ (List (Int × Int × Int)))
  | (x3, x4) => (if x2.2.1 = 9 then some true else some (decide (x2.2.1 = 10))).bind fun x5 => (if x5 = true then some (.inl (x3, CY x4 x2.2.2.2.1 x2.1)) else (if x2.2.1 = 8 then (if ((CE x4 x2.2.2.2.1).isSome) = true then (ix p0 ((CE x4 x2.2.2.2.1).getD 0)).bind fun x7 => some (Cu x2.2 x7) else some 1125899906842624).bind fun x6 => (FR x3 ([(x2.2.2.2.1, x2.2.2.2.2.2.1, x6)] : List (Int × Int × Int))).bind fun x8 => some (.inl (x8, x4)) else some (.inl (x3, x4))))
noncomputable def C6 (p0 : List (Int × Int × Int × Int × Int × Int)) : Option (List (Int × Int × Int)) := (back p0).bind fun x1 => D7 (EH (Cn p0) x1 ([], ([] : List (Int × Int)))) fun (x3, x4) => (AG x3).bind fun x9 => some x9
theorem Ir (Y : Nat → Prop) (w0 : World) (v1 : Value) (p0 : List (Int × Int × Int × Int × Int × Int)) (r : (List (Int × Int × Int))) (H : C6 p0 = some r) (h_v1 : Sl w0 (NX []) DB v1 p0) :
    Calls Try.prog 9 #[v1] w0 fun e w' => ∃ x : Value, e = .returned (x) ∧ Stw ⟨Y, [], w0⟩ [] [row (x) 38 CW r] w' := by
 refine Mu Try.func9 Aa Try.ntmps9 Aa fun a W => ?_
 have F := Stw.start Y w0
 unfold C6 at H
 refine Ai (Ac ?_)
 refine B9 (cs := [v1]) W F Aa Aa (CG ((Aj h_v1) _ F).one) fun b1 a w W F => ?_
 refine ls W F Aa (Ah W Aa).q fun a w W F => ?_
 refine Ad (Ab (Ai (Ac ?_)))
 refine B1 (cs := [.slice none 0 0]) W F Aa Qf Aa fun b2 a w W F => ?_
 refine Ad (Ab (Ai (Ac ?_)))
 refine Gh Bw Bw W F Aa fun b3 a w W F => ?_
 have F : Stw ⟨Y, [], w0⟩ [(b2, [.slice none 0 0]), (b1, [v1])] [mp b3 Bw Bw ([] : List (Int × Int))] w := F
 refine B1 (cs := [.map none]) W F Aa Qd Aa fun b4 a w W F => ?_
 refine BM (vs := [.map (some b3)]) (M' := [(b4, [.map (some b3)]), (b2, [.slice none 0 0]), (b1, [v1])]) 0 W F Aa Aa Aa Na Aa Aa Aa Aa Aa fun w F => ?_
 refine Ad (Ab (Ai (Ai (Ac ?_))))
 refine ls W F Aa (Al (v := v1) 2 W Aa Aa OP Aa).q fun a w W F => ?_
 refine Cf (β := Nat) (Ml := []) (M := [(b4, [.map (some b3)]), (b2, [.slice none 0 0]), (b1, [v1])]) (Zl := []) (Z := [mp b3 Bw Bw ([] : List (Int × Int))]) (rv := fun b5 => .func (.func 39) #[] #[.pointer (some ⟨b5, 0, none⟩)]) (MM := fun b5 => [(b5, [v1])]) (ZZ := fun _ => []) W F Qy Aa Aa (fun _ => O2 _ w v1 ((Aj h_v1) _ F).one) fun b5 a w W F => ?_
 have F : Stw ⟨Y, [], w0⟩ [(b5, [v1]), (b4, [.map (some b3)]), (b2, [.slice none 0 0]), (b1, [v1])] [mp b3 Bw Bw ([] : List (Int × Int))] w := F
 refine Ad (Ab (Aw ?_))
 obtain ⟨x1, h1, H⟩ := Ao H
 obtain ⟨hn, rfl⟩ := Ji h1
 have W : Fr 53 [] [(0, v1), (1, .pointer (some ⟨b1, 0, none⟩)), (2, .slice none 0 0), (3, .pointer (some ⟨b2, 0, none⟩)), (4, .pointer (some ⟨b4, 0, none⟩)), (11, v1), (12, .func (.func 39) #[] #[.pointer (some ⟨b5, 0, none⟩)])] a := W.re ⟨rfl, Aa, Aa, Aa, Aa, Aa, Aa, trivial⟩
 have F := F.nilRow 38 CW
 have F := F.frontZ (i := 1) Aa Aa
 have F := F.frontZ (i := 1) Aa Aa
 have F := F.frontM (i := 3) Aa Aa
 have F := F.frontM (i := 3) Aa Aa
 have F := F.frontM (i := 3) Aa Aa
 have F := F.frontM (i := 3) Aa Aa
 refine Lh (Z := [row (Value.slice none 0 0) 38 CW ([]), mp b3 Bw Bw ([] : List (Int × Int))]) (fun s M Z => ∃ v2 : Value, M = [(b5, [v1]), (b4, [.map (some b3)]), (b2, [v2]), (b1, [v1])] ∧ Z = [row v2 38 CW s.1, mp b3 Bw Bw s.2]) H W F ⟨(Value.slice none 0 0), Aa, Aa⟩ Aa Qa (Qb b5 v1 p0 hn) (fun _ => rfl) Aa (fun s M Z hK w Z' F => ?_) (fun l dD1 r1a r1b x2 s o M Z a a₂ w H L1 hK W hF2 F => ?_) fun dD1 s M Z a w H hK W F => ?_
 ·
  obtain ⟨x3, x4⟩ := s
  obtain ⟨v2, rfl, rfl⟩ := hK
  exact Og.of (i := 0) F Aa (Aj h_v1)
 ·
  obtain ⟨x3, x4⟩ := s
  obtain ⟨v2, rfl, rfl⟩ := hK
  have W : Fr 53 [] [(0, v1), (1, .pointer (some ⟨b1, 0, none⟩)), (2, .slice none 0 0), (3, .pointer (some ⟨b2, 0, none⟩)), (4, .pointer (some ⟨b4, 0, none⟩)), (11, v1), (12, .func (.func 39) #[] #[.pointer (some ⟨b5, 0, none⟩)]), (13, .int .i64 x2.1), (14, .agg #[.int .i64 x2.2.1, .int .i64 x2.2.2.1, .int .i64 x2.2.2.2.1, .int .i64 x2.2.2.2.2.1, .int .i64 x2.2.2.2.2.2.1, .int .i64 x2.2.2.2.2.2.2])] a := W.re ⟨rfl, Aa, Aa, Aa, Aa, Aa, Aa, Aa, Aa, trivial⟩
  have F : Stw ⟨Y, [], w0⟩ [(b5, [v1]), (b4, [.map (some b3)]), (b2, [v2]), (b1, [v1])] [row v2 38 CW x3, mp b3 Bw Bw x4, r1a, GD dD1] w := F
  rw [Cn] at H
  refine Ai (Ac ?_)
  refine ls W F Aa (Ah W Aa).q fun a w W F => ?_
  refine Ad (Ab (Ac ?_))
  refine B1 (cs := [.int .i64 0, .int .i64 0, .int .i64 0, .int .i64 0, .int .i64 0, .int .i64 0]) W F Aa NC Aa fun b6 a w W F => ?_
  refine BM (vs := [.int .i64 x2.2.1, .int .i64 x2.2.2.1, .int .i64 x2.2.2.2.1, .int .i64 x2.2.2.2.2.1, .int .i64 x2.2.2.2.2.2.1, .int .i64 x2.2.2.2.2.2.2]) (M' := [(b6, [.int .i64 x2.2.1, .int .i64 x2.2.2.1, .int .i64 x2.2.2.2.1, .int .i64 x2.2.2.2.2.1, .int .i64 x2.2.2.2.2.2.1, .int .i64 x2.2.2.2.2.2.2]), (b5, [v1]), (b4, [.map (some b3)]), (b2, [v2]), (b1, [v1])]) 0 W F Aa Aa Aa Mo Aa Aa Aa Aa Aa fun w F => ?_
  refine Ad (Ab ?_)
  refine ⟨[(b6, [.int .i64 x2.2.1, .int .i64 x2.2.2.1, .int .i64 x2.2.2.2.1, .int .i64 x2.2.2.2.2.1, .int .i64 x2.2.2.2.2.2.1, .int .i64 x2.2.2.2.2.2.2]), (b5, [v1]), (b4, [.map (some b3)]), (b2, [v2]), (b1, [v1])], [row v2 38 CW x3, mp b3 Bw Bw x4], F, fun w F => ?_⟩
  have F : Stw ⟨Y, [], w0⟩ [(b6, [.int .i64 x2.2.1, .int .i64 x2.2.2.1, .int .i64 x2.2.2.2.1, .int .i64 x2.2.2.2.2.1, .int .i64 x2.2.2.2.2.2.1, .int .i64 x2.2.2.2.2.2.2]), (b5, [v1]), (b4, [.map (some b3)]), (b2, [v2]), (b1, [v1])] [row v2 38 CW x3, mp b3 Bw Bw x4, r1b, GD dD1] w := F
  refine Aw (Ai (Ac ?_))
  refine ls W F Aa (Ag DQ Aa Aa Aa T3 W Aa 0 Aa).q fun a w W F => ?_
  refine ls W F Aa (Al (v := Value.int .i64 x2.2.1) 0 W Aa Aa T3 Aa).q fun a w W F => ?_
  refine Ad (Ab (Aw ?_))
  obtain ⟨o2, G2, K2⟩ := Ao H
  refine AH (fun a w => ∃ x5 : Bool, some (x5) = some o2 ∧ Fr 53 [] [(0, v1), (1, .pointer (some ⟨b1, 0, none⟩)), (2, .slice none 0 0), (3, .pointer (some ⟨b2, 0, none⟩)), (4, .pointer (some ⟨b4, 0, none⟩)), (5, .int .i64 x2.1), (6, .pointer (some ⟨b6, 0, none⟩)), (11, v1), (12, .func (.func 39) #[] #[.pointer (some ⟨b5, 0, none⟩)]), (16, .int .i64 x2.2.1), (17, .bool x5)] a ∧ Stw ⟨Y, [], w0⟩ [(b6, [.int .i64 x2.2.1, .int .i64 x2.2.2.1, .int .i64 x2.2.2.2.1, .int .i64 x2.2.2.2.2.1, .int .i64 x2.2.2.2.2.2.1, .int .i64 x2.2.2.2.2.2.2]), (b5, [v1]), (b4, [.map (some b3)]), (b2, [v2]), (b1, [v1])] [row v2 38 CW x3, mp b3 Bw Bw x4, r1b, GD dD1] w) ?_ ?_
  ·
   have H := G2
   clear G2 K2
   refine Ai (Ac ?_)
   refine ls W F Aa (BZ W Aa Aa).q fun a w W F => ?_
   refine ls W F Aa (Ah W Aa).q fun a w W F => ?_
   refine Ad (Ab ?_)
   refine Ay W Aa (fun hb => ?_) fun hb => ?_
   ·
    have H := AN (Bf hb) H
    rw [hb] at W
    clear hb
    refine Aq (Ab ?_)
    have F := F.frontZ (i := 3) Aa Aa
    have F := F.frontZ (i := 3) Aa Aa
    have F := F.frontZ (i := 3) Aa Aa
    have F := F.frontZ (i := 3) Aa Aa
    have F := F.frontM (i := 4) Aa Aa
    have F := F.frontM (i := 4) Aa Aa
    have F := F.frontM (i := 4) Aa Aa
    have F := F.frontM (i := 4) Aa Aa
    have F := F.frontM (i := 4) Aa Aa
    exact ⟨_, H, W.re ⟨rfl, Aa, Aa, Aa, Aa, Aa, Aa, Aa, Aa, Aa, Aa, trivial⟩, F⟩
   have H := AM (Bg hb) H
   rw [hb] at W
   clear hb
   refine Ac ?_
   refine ls W F Aa (BZ W Aa Aa).q fun a w W F => ?_
   refine ls W F Aa (Ah W Aa).q fun a w W F => ?_
   refine Ad (Ab ?_)
   have F := F.frontZ (i := 3) Aa Aa
   have F := F.frontZ (i := 3) Aa Aa
   have F := F.frontZ (i := 3) Aa Aa
   have F := F.frontZ (i := 3) Aa Aa
   have F := F.frontM (i := 4) Aa Aa
   have F := F.frontM (i := 4) Aa Aa
   have F := F.frontM (i := 4) Aa Aa
   have F := F.frontM (i := 4) Aa Aa
   have F := F.frontM (i := 4) Aa Aa
   exact ⟨_, H, W.re ⟨rfl, Aa, Aa, Aa, Aa, Aa, Aa, Aa, Aa, Aa, Aa, trivial⟩, F⟩
  rintro a w ⟨x5, hj, W, F⟩
  have hj := AW hj
  subst hj
  have H := K2
  clear G2 K2
  refine Ay W Aa (fun hb => ?_) fun hb => ?_
  ·
   have H := AN hb H
   rw [hb] at W
   clear hb
   refine Ac ?_
   refine ls W F Aa (Al (v := Value.map (some b3)) 2 W Aa Aa Na Aa).q fun a w W F => ?_
   refine ls W F Aa (Ag DQ Aa Aa Aa T3 W Aa 2 Aa).q fun a w W F => ?_
   refine ls W F Aa (Al (v := Value.int .i64 x2.2.2.2.1) 0 W Aa Aa T3 Aa).q fun a w W F => ?_
   refine ls W F Aa (Ae W Aa).q fun a w W F => ?_
   refine F3 (q := 1) (kx := (x2.2.2.2.1 : Int)) (vx := (x2.1 : Int)) (E := Bw) (V := Bw) W F Aa Aa Aa Aa Aa Oi LX fun w F => ?_
   have F : Stw ⟨Y, [], w0⟩ [(b6, [.int .i64 x2.2.1, .int .i64 x2.2.2.1, .int .i64 x2.2.2.2.1, .int .i64 x2.2.2.2.2.1, .int .i64 x2.2.2.2.2.2.1, .int .i64 x2.2.2.2.2.2.2]), (b5, [v1]), (b4, [.map (some b3)]), (b2, [v2]), (b1, [v1])] [mp b3 Bw Bw (CY x4 x2.2.2.2.1 x2.1), row v2 38 CW x3, r1b, GD dD1] w := F
   refine Ad ?_
   iterate 2 refine AK ?_
   have F := F.frontZ (i := 3) Aa Aa
   have F := F.frontZ (i := 3) Aa Aa
   have F := F.frontZ (i := 2) Aa Aa
   have F := F.frontZ (i := 3) Aa Aa
   have F := F.frontM (i := 4) Aa Aa
   have F := F.frontM (i := 4) Aa Aa
   have F := F.frontM (i := 4) Aa Aa
   have F := F.frontM (i := 4) Aa Aa
   have F := F.sub (M' := [(b5, [v1]), (b4, [.map (some b3)]), (b2, [v2]), (b1, [v1])]) (Z' := [row v2 38 CW x3, mp b3 Bw Bw (CY x4 x2.2.2.2.1 x2.1), r1b, GD dD1]) (List.Sublist.cons_cons _ (List.Sublist.cons_cons _ (List.Sublist.cons_cons _ (List.Sublist.cons_cons _ (List.nil_sublist _))))) (List.Sublist.refl _)
   exact Ni ⟨_, _, _, H, ⟨(v2), Aa, Aa⟩, F⟩
  have H := AM (by rw [hb]; decide) H
  rw [hb] at W
  clear hb
  refine Ai (Ac ?_)
  refine ls W F Aa (BZ W Aa Aa).q fun a w W F => ?_
  refine ls W F Aa (Ah W Aa).q fun a w W F => ?_
  refine Ad (Ab ?_)
  refine Ay W Aa (fun hb => ?_) fun hb => ?_
  ·
   have H := AN (Bf hb) H
   rw [hb] at W
   clear hb
   refine Ai (Ac ?_)
   refine ls W F Aa (Ag DQ Aa Aa Aa T3 W Aa 2 Aa).q fun a w W F => ?_
   refine ls W F Aa (Al (v := Value.int .i64 x2.2.2.2.1) 0 W Aa Aa T3 Aa).q fun a w W F => ?_
   refine ls W F Aa (Ag DQ Aa Aa Aa T3 W Aa 4 Aa).q fun a w W F => ?_
   refine ls W F Aa (Al (v := Value.int .i64 x2.2.2.2.2.2.1) 0 W Aa Aa T3 Aa).q fun a w W F => ?_
   refine ls W F Aa (BA (v := Value.agg #[.int .i64 x2.2.2.2.1, .int .i64 x2.2.2.2.2.2.1, .int .i64 1125899906842624]) Qw W Aa Aa Aa).q fun a w W F => ?_
   refine B1 (cs := [.int .i64 0, .int .i64 0, .int .i64 0]) W F Aa Pb Aa fun b7 a w W F => ?_
   refine BM (vs := [.int .i64 x2.2.2.2.1, .int .i64 x2.2.2.2.2.2.1, .int .i64 1125899906842624]) (M' := [(b7, [.int .i64 x2.2.2.2.1, .int .i64 x2.2.2.2.2.2.1, .int .i64 1125899906842624]), (b6, [.int .i64 x2.2.1, .int .i64 x2.2.2.1, .int .i64 x2.2.2.2.1, .int .i64 x2.2.2.2.2.1, .int .i64 x2.2.2.2.2.2.1, .int .i64 x2.2.2.2.2.2.2]), (b5, [v1]), (b4, [.map (some b3)]), (b2, [v2]), (b1, [v1])]) 0 W F Aa Aa Aa Nr Aa Aa Aa Aa Aa fun w F => ?_
   refine Ad (Ab ?_)
   obtain ⟨o3, G3, K3⟩ := Ao H
   refine AH (fun a w => ∃ x6 : Int, some (x6) = some o3 ∧ Fr 53 [] [(0, v1), (1, .pointer (some ⟨b1, 0, none⟩)), (2, .slice none 0 0), (3, .pointer (some ⟨b2, 0, none⟩)), (4, .pointer (some ⟨b4, 0, none⟩)), (7, .pointer (some ⟨b7, 0, none⟩)), (11, v1), (12, .func (.func 39) #[] #[.pointer (some ⟨b5, 0, none⟩)])] a ∧ Stw ⟨Y, [], w0⟩ [(b7, [.int .i64 x2.2.2.2.1, .int .i64 x2.2.2.2.2.2.1, .int .i64 x6]), (b6, [.int .i64 x2.2.1, .int .i64 x2.2.2.1, .int .i64 x2.2.2.2.1, .int .i64 x2.2.2.2.2.1, .int .i64 x2.2.2.2.2.2.1, .int .i64 x2.2.2.2.2.2.2]), (b5, [v1]), (b4, [.map (some b3)]), (b2, [v2]), (b1, [v1])] [row v2 38 CW x3, mp b3 Bw Bw x4, r1b, GD dD1] w) ?_ ?_
   ·
    have H := G3
    clear G3 K3
    refine Ai (Ac ?_)
    refine ls W F Aa (Al (v := Value.map (some b3)) 3 W Aa Aa Na Aa).q fun a w W F => ?_
    refine ls W F Aa (Ag DQ Aa Aa Aa T3 W Aa 2 Aa).q fun a w W F => ?_
    refine ls W F Aa (Al (v := Value.int .i64 x2.2.2.2.1) 1 W Aa Aa T3 Aa).q fun a w W F => ?_
    refine ls W F Aa (Hm (zv := (0 : Int)) (kx := (x2.2.2.2.1 : Int)) (q := 1) (E := Bw) (V := Bw) W Aa Aa Aa Oi LX Z3).q fun a w W F => ?_
    refine ls W F Aa (Ae W Aa).q fun a w W F => ?_
    refine ls W F Aa (AZ (v := Value.int .i64 ((CE x4 x2.2.2.2.1).getD 0)) W Aa Aa).q fun a w W F => ?_
    refine ls W F Aa (AZ (v := Value.bool ((CE x4 x2.2.2.2.1).isSome)) W Aa Aa).q fun a w W F => ?_
    iterate 2 refine ls W F Aa (Ah W Aa).q fun a w W F => ?_
    refine Ad (Ab (Ai (Ac ?_)))
    refine ls W F Aa (Ae W Aa).q fun a w W F => ?_
    refine Ad (Ab ?_)
    refine Ay W Aa (fun hb => ?_) fun hb => ?_
    ·
     have H := AN hb H
     rw [hb] at W
     clear hb
     refine Im 7 F MO (by kernel_rfl) ?_
     refine qs W Aa (Al (v := Value.agg #[.int .i64 x2.2.1, .int .i64 x2.2.2.1, .int .i64 x2.2.2.2.1, .int .i64 x2.2.2.2.2.1, .int .i64 x2.2.2.2.2.2.1, .int .i64 x2.2.2.2.2.2.2]) 1 W Aa Aa Mo Aa).q fun a W => ?_
     refine qs W Aa (Al (v := v1) 5 W Aa Aa OP Aa).q fun a W => ?_
     refine qs W Aa (Ae W Aa).q fun a W => ?_
     obtain ⟨x7, h2, H⟩ := Ao H
     refine qs W Aa (AJ (r := DB) KY W Aa Aa (Aj h_v1) h2).q fun a W => ?_
     refine qs W Aa (Az (y := Value.agg #[.int .i64 x7.1, .int .i64 x7.2.1, .int .i64 x7.2.2.1, .int .i64 x7.2.2.2.1, .int .i64 x7.2.2.2.2.1, .int .i64 x7.2.2.2.2.2]) (j := 0) (i := (CE x4 x2.2.2.2.1).getD 0) W Aa Aa (Aj h_v1) h2 MG.to Mo Aa).q fun a W => ?_
     refine qs W Aa (BI (v := Value.int .i64 (Cu x2.2 x7)) W Pv Aa (fun w F => IW any w x2.2 x7 _ Aa)) fun a W => ?_
     refine qs W Aa (Ag Lu Aa Aa Aa T3 W Aa 2 Aa).q fun a W => ?_
     refine BK fun w F => ?_
     refine BM (vs := [.int .i64 (Cu x2.2 x7)]) (M' := [(b7, [.int .i64 x2.2.2.2.1, .int .i64 x2.2.2.2.2.2.1, .int .i64 (Cu x2.2 x7)]), (b6, [.int .i64 x2.2.1, .int .i64 x2.2.2.1, .int .i64 x2.2.2.2.1, .int .i64 x2.2.2.2.2.1, .int .i64 x2.2.2.2.2.2.1, .int .i64 x2.2.2.2.2.2.2]), (b5, [v1]), (b4, [.map (some b3)]), (b2, [v2]), (b1, [v1])]) 0 W F Aa Aa Aa T3 Aa Aa Aa Aa Aa fun w F => ?_
     refine Ad (Ab ?_)
     have F := F.frontZ (i := 3) Aa Aa
     have F := F.frontZ (i := 3) Aa Aa
     have F := F.frontZ (i := 3) Aa Aa
     have F := F.frontZ (i := 3) Aa Aa
     have F := F.frontM (i := 5) Aa Aa
     have F := F.frontM (i := 5) Aa Aa
     have F := F.frontM (i := 5) Aa Aa
     have F := F.frontM (i := 5) Aa Aa
     have F := F.frontM (i := 5) Aa Aa
     have F := F.frontM (i := 5) Aa Aa
     exact ⟨_, H, W.re ⟨rfl, Aa, Aa, Aa, Aa, Aa, Aa, Aa, trivial⟩, F⟩
    have H := AM (by rw [hb]; decide) H
    rw [hb] at W
    clear hb
    refine Aq (Ab ?_)
    have F := F.frontZ (i := 3) Aa Aa
    have F := F.frontZ (i := 3) Aa Aa
    have F := F.frontZ (i := 3) Aa Aa
    have F := F.frontZ (i := 3) Aa Aa
    have F := F.frontM (i := 5) Aa Aa
    have F := F.frontM (i := 5) Aa Aa
    have F := F.frontM (i := 5) Aa Aa
    have F := F.frontM (i := 5) Aa Aa
    have F := F.frontM (i := 5) Aa Aa
    have F := F.frontM (i := 5) Aa Aa
    exact ⟨_, H, W.re ⟨rfl, Aa, Aa, Aa, Aa, Aa, Aa, Aa, trivial⟩, F⟩
   rintro a w ⟨x6, hj, W, F⟩
   have hj := AW hj
   subst hj
   have H := K3
   clear G3 K3
   refine Ac ?_
   refine ls W F Aa (Al (v := v2) 4 W Aa Aa NG Aa).q fun a w W F => ?_
   refine ls W F Aa (Al (v := Value.agg #[.int .i64 x2.2.2.2.1, .int .i64 x2.2.2.2.2.2.1, .int .i64 x6]) 0 W Aa Aa Nr Aa).q fun a w W F => ?_
   refine C1 (z := Value.agg #[.int .i64 0, .int .i64 0, .int .i64 0]) (cs := [.int .i64 x2.2.2.2.1, .int .i64 x2.2.2.2.2.2.1, .int .i64 x6]) CW ([(x2.2.2.2.1, x2.2.2.2.2.2.1, x6)] : List (Int × Int × Int)) W F Aa NL Pb Aa Aa Aa Aa Aa Aa (NS.repL _ _ ([(x2.2.2.2.1, x2.2.2.2.2.2.1, x6)] : List (Int × Int × Int))) fun v3 a w W F => ?_
   obtain ⟨x8, h3, H⟩ := Ao H
   refine Cz (r := CW) (i := 1) W F Aa NL Aa Aa Aa Aa (C7 F 0 Aa) h3 Aa fun v4 a w W F => ?_
   have F : Stw ⟨Y, [], w0⟩ [(b7, [.int .i64 x2.2.2.2.1, .int .i64 x2.2.2.2.2.2.1, .int .i64 x6]), (b6, [.int .i64 x2.2.1, .int .i64 x2.2.2.1, .int .i64 x2.2.2.2.1, .int .i64 x2.2.2.2.2.1, .int .i64 x2.2.2.2.2.2.1, .int .i64 x2.2.2.2.2.2.2]), (b5, [v1]), (b4, [.map (some b3)]), (b2, [v2]), (b1, [v1])] [row v4 38 CW x8, row v3 38 CW ([(x2.2.2.2.1, x2.2.2.2.2.2.1, x6)] : List (Int × Int × Int)), mp b3 Bw Bw x4, r1b, GD dD1] w := F
   refine GM (M' := [(b7, [.int .i64 x2.2.2.2.1, .int .i64 x2.2.2.2.2.2.1, .int .i64 x6]), (b6, [.int .i64 x2.2.1, .int .i64 x2.2.2.1, .int .i64 x2.2.2.2.1, .int .i64 x2.2.2.2.2.1, .int .i64 x2.2.2.2.2.2.1, .int .i64 x2.2.2.2.2.2.2]), (b5, [v1]), (b4, [.map (some b3)]), (b2, [v4]), (b1, [v1])]) 4 W F Aa Aa Aa NG (F.one (k := 0) Aa) Aa Aa fun w F => ?_
   refine Ad ?_
   iterate 2 refine AK ?_
   have F := F.frontZ (i := 4) Aa Aa
   have F := F.frontZ (i := 4) Aa Aa
   have F := F.frontZ (i := 4) Aa Aa
   have F := F.frontZ (i := 3) Aa Aa
   have F := F.frontM (i := 5) Aa Aa
   have F := F.frontM (i := 5) Aa Aa
   have F := F.frontM (i := 5) Aa Aa
   have F := F.frontM (i := 5) Aa Aa
   have F := F.sub (M' := [(b5, [v1]), (b4, [.map (some b3)]), (b2, [v4]), (b1, [v1])]) (Z' := [row v4 38 CW x8, mp b3 Bw Bw x4, r1b, GD dD1]) (List.Sublist.cons_cons _ (List.Sublist.cons_cons _ (List.Sublist.cons_cons _ (List.Sublist.cons_cons _ (List.nil_sublist _))))) (List.Sublist.cons_cons _ (List.Sublist.cons_cons _ (List.Sublist.cons_cons _ (List.Sublist.cons_cons _ (List.nil_sublist _)))))
   exact Ni ⟨_, _, _, H, ⟨(v4), Aa, Aa⟩, F⟩
  have H := AM (Bg hb) H
  rw [hb] at W
  clear hb
  refine Aq ?_
  iterate 2 refine AK ?_
  have F := F.frontZ (i := 3) Aa Aa
  have F := F.frontZ (i := 3) Aa Aa
  have F := F.frontZ (i := 3) Aa Aa
  have F := F.frontZ (i := 3) Aa Aa
  have F := F.frontM (i := 4) Aa Aa
  have F := F.frontM (i := 4) Aa Aa
  have F := F.frontM (i := 4) Aa Aa
  have F := F.frontM (i := 4) Aa Aa
  have F := F.sub (M' := [(b5, [v1]), (b4, [.map (some b3)]), (b2, [v2]), (b1, [v1])]) (Z' := [row v2 38 CW x3, mp b3 Bw Bw x4, r1b, GD dD1]) (List.Sublist.cons_cons _ (List.Sublist.cons_cons _ (List.Sublist.cons_cons _ (List.Sublist.cons_cons _ (List.nil_sublist _))))) (List.Sublist.refl _)
  exact Ni ⟨_, _, _, H, ⟨(v2), Aa, Aa⟩, F⟩
 obtain ⟨x3, x4⟩ := s
 obtain ⟨v2, rfl, rfl⟩ := hK
 have W : Fr 53 [MS dD1] [(0, v1), (1, .pointer (some ⟨b1, 0, none⟩)), (2, .slice none 0 0), (3, .pointer (some ⟨b2, 0, none⟩)), (4, .pointer (some ⟨b4, 0, none⟩)), (11, v1), (12, .func (.func 39) #[] #[.pointer (some ⟨b5, 0, none⟩)])] a := W
 have F : Stw ⟨Y, [], w0⟩ [(b5, [v1]), (b4, [.map (some b3)]), (b2, [v2]), (b1, [v1])] [row v2 38 CW x3, mp b3 Bw Bw x4, GD dD1] w := F
 refine AK (Ab (Ai (Ac ?_)))
 refine ls W F Aa (Al (v := v2) 2 W Aa Aa NG Aa).q fun a w W F => ?_
 obtain ⟨x9, h4, H⟩ := Ao H
 refine Cf (Ml := []) (Zl := [row v2 38 CW x3]) (M := [(b5, [v1]), (b4, [.map (some b3)]), (b2, [v2]), (b1, [v1])]) (Z := [mp b3 Bw Bw x4, GD dD1]) (β := Unit) (rv := fun x => .tuple #[]) (MM := fun x => []) (ZZ := fun x => [row v2 38 CW x9]) W F P8 Aa Aa (fun hL => Dg _ _ w (v2) x3 _ h4 hL) fun x a w W F => ?_
 have F : Stw ⟨Y, [], w0⟩ [(b5, [v1]), (b4, [.map (some b3)]), (b2, [v2]), (b1, [v1])] [row v2 38 CW x9, mp b3 Bw Bw x4, GD dD1] w := F
 refine Ad (Ab (Ai (Ac ?_)))
 refine ls W F Aa (Al (v := v2) 2 W Aa Aa NG Aa).q fun a w W F => ?_
 refine ls W F Aa (Ah W Aa).q fun a w W F => ?_
 refine Ad (Ab (AA ?_))
 have H := AW H
 subst H
 refine KK (Z := [row v2 38 CW x9, mp b3 Bw Bw x4]) (.inl Aa) W F fun w F => ?_
 have F : Stw ⟨Y, [], w0⟩ [(b5, [v1]), (b4, [.map (some b3)]), (b2, [v2]), (b1, [v1])] [row v2 38 CW x9, mp b3 Bw Bw x4] w := F
 refine Ia F Aa (Ap W Aa) ?_
 have F := F.sub (M' := []) (Z' := [row v2 38 CW x9]) (List.nil_sublist _) (List.Sublist.cons_cons _ (List.nil_sublist _))
 exact ⟨(v2), Aa, F⟩
theorem OA : type_of% Try.underlying68 := Try.underlying68
theorem LI : type_of% Try.underlying70 := Try.underlying70
theorem N8 : type_of% Try.underlying91 := Try.underlying91
theorem H9 : Has Try.prog 9 := ⟨fun args w => Am Try.func9 rfl (by decide) args w⟩
theorem PI : Bt Try.prog 70 [.slice none 0 0, .slice none 0 0] [(0, 1), (1, 1)] := ⟨⟨.agg #[.slice none 0 0, .slice none 0 0], by kernel_rfl, rfl⟩, ⟨_, LI, fun w => by kernel_rfl⟩⟩
theorem NO : Ty Try.prog 70 true 2 := ⟨by kernel_rfl, by kernel_rfl⟩
theorem NK : Ty Try.prog 68 false 1 := ⟨by kernel_rfl, by kernel_rfl⟩
theorem PS : Bt Try.prog 91 [.int .i64 0, .int .i64 0] [(0, 1), (1, 1)] := ⟨⟨.agg #[.int .i64 0, .int .i64 0], by kernel_rfl, rfl⟩, ⟨_, N8, fun w => by kernel_rfl⟩⟩
theorem Pt : (Try.prog.info? 91).bind (·.zero) = some (.agg #[.int .i64 0, .int .i64 0]) := by kernel_rfl
abbrev EZ : Rp (Int × Int) := (Rp.pair (Rp.int .i64) (Rp.int .i64))
def PA (a : Int × Int) : List Value := [.int .i64 a.1, .int .i64 a.2]
theorem Pj : Fl EZ PA := (Fl.pair Fl.int Fl.int)
theorem O6 : Et Try.prog 68 91 2 16 := Et.of OA (by kernel_rfl) (by kernel_rfl) (by kernel_rfl) (by decide)
noncomputable def Cb (x1 : (List (Int × Int × Int))) (x6 : Int × Int × Int × Int × Int × Int) : (Int × (List (Int × Int))) → Option ((Int × (List (Int × Int))) ⊕ (List (Int × Int)))
  | (x7, x8) => (if x7 < (x1.length : Int) then ((ix x1 x7).bind fun x10 => (if x10.1 = x6.2.2.1 then (FR x8 ([(x6.2.2.2.2.1, x10.2.2)] : List (Int × Int))).bind fun x11 => some x11 else some x8)).bind fun x9 => some (.inl (DH (x7 + 1), x9)) else some (.inr x8))
noncomputable def Cc (p0 : List (Int × Int × Int × Int × Int × Int)) (x1 : (List (Int × Int × Int))) : (Int × (List (Int × Int))) → Option ((Int × (List (Int × Int))) ⊕ (List (Int × Int)))
  | (x3, x4) => (if x3 < (p0.length : Int) then ((ix p0 x3).bind fun x6 => (if x6.1 ≠ 9 then some x4 else AQ (Cb x1 x6) (0, x4))).bind fun x5 => some (.inl (DH (x3 + 1), x5)) else some (.inr x4))
noncomputable def DJ (p0 : List (Int × Int × Int × Int × Int × Int)) : Option ((List (Int × Int × Int)) × (List (Int × Int))) := (C6 p0).bind fun x1 => (AQ (Cc p0 x1) (0, [])).bind fun x2 => some (x1, x2)
theorem JJ (Y : Nat → Prop) (w0 : World) (v1 : Value) (p0 : List (Int × Int × Int × Int × Int × Int)) (r : ((List (Int × Int × Int)) × (List (Int × Int)))) (H : DJ p0 = some r) (h_v1 : Sl w0 (NX []) DB v1 p0) :
    Calls Try.prog 26 #[v1] w0 fun e w' => ∃ x : Value × Value, e = .returned (.agg #[x.1, x.2]) ∧ Stw ⟨Y, [], w0⟩ [] [row (x.1) 38 CW r.1, row (x.2) 91 EZ r.2] w' := by
 refine enter Try.func26 Aa Try.ntmps26 Aa fun a W => ?_
 have F := Stw.start Y w0
 unfold DJ at H
 refine Ai (Ac ?_)
 refine B1 (cs := [.slice none 0 0, .slice none 0 0]) W F Aa O4 Aa fun b1 a w W F => ?_
 refine Ad (Ab (Ai (Ac ?_)))
 refine ls W F Aa (Ae W Aa).q fun a w W F => ?_
 obtain ⟨x1, h1, H⟩ := Ao H
 refine Cf (Ml := []) (Zl := []) (M := [(b1, [.slice none 0 0, .slice none 0 0])]) (Z := []) (β := Value) (rv := fun x => x) (MM := fun x => []) (ZZ := fun x => [row x 38 CW x1]) W F H9 Aa Aa (fun hL => Ir _ w (v1) p0 _ h1 ((Aj h_v1) w F).nx) fun x a w W F => ?_
 obtain ⟨v2, rfl⟩ : ∃ y, y = x := ⟨x, rfl⟩
 have F : Stw ⟨Y, [], w0⟩ [(b1, [.slice none 0 0, .slice none 0 0])] [row v2 38 CW x1] w := F
 refine ls W F Aa (BA (v := Value.agg #[v2, .slice none 0 0]) PI W Aa (Ds Aa (CG (F.one (k := 0) Aa)) Aa Es) Aa).q fun a w W F => ?_
 refine B1 (cs := [.slice none 0 0, .slice none 0 0]) W F Aa O4 Aa fun b2 a w W F => ?_
 refine BM (vs := [v2, .slice none 0 0]) (M' := [(b2, [v2, .slice none 0 0]), (b1, [.slice none 0 0, .slice none 0 0])]) 0 W F Aa Aa Aa NO Aa Aa Aa (Bz (F.one (k := 0) Aa) (Bz Aa Gk)) Aa fun w F => ?_
 refine Ad (Ab ?_)
 obtain ⟨o1, G1, K1⟩ := Ao H
 refine AH (fun a w => ∃ x2 : List (Int × Int), ∃ v3 : Value, some (x2) = some o1 ∧ Fr 45 [] [(2, .pointer (some ⟨b1, 0, none⟩)), (3, .pointer (some ⟨b2, 0, none⟩))] a ∧ Stw ⟨Y, [], w0⟩ [(b2, [v2, v3]), (b1, [.slice none 0 0, .slice none 0 0])] [row v2 38 CW x1, row v3 91 EZ x2] w) ?_ ?_
 ·
  have H := G1
  clear G1 K1
  refine Ai (Ac ?_)
  refine ls W F Aa (Ae W Aa).q fun a w W F => ?_
  refine ls W F Aa (A7 (r := DB) (l := p0) ME Aa W Aa (Aj h_v1)).q fun a w W F => ?_
  refine ls W F Aa (Ae W Aa).q fun a w W F => ?_
  refine Ad (Ab (Aw ?_))
  have F := F.nilRow 91 EZ
  have F := F.frontZ (i := 1) Aa Aa
  have F := F.frontM (i := 1) Aa Aa
  have F := F.frontM (i := 1) Aa Aa
  refine Bv H (fun s a w => ∃ v4 : Value, Fr 45 [] [(2, .pointer (some ⟨b1, 0, none⟩)), (3, .pointer (some ⟨b2, 0, none⟩)), (11, v1), (12, .int .i64 (p0.length : Int)), (13, .int .i64 s.1)] a ∧ Stw ⟨Y, [], w0⟩ [(b2, [v2, v4]), (b1, [.slice none 0 0, .slice none 0 0])] [row v2 38 CW x1, row v4 91 EZ s.2] w) ⟨(Value.slice none 0 0), W.re ⟨rfl, Aa, Aa, Aa, Aa, trivial⟩, F⟩ fun s o a w H L2 hR => ?_
  obtain ⟨x3, x4⟩ := s
  obtain ⟨v4, W, F⟩ := hR
  have W : Fr 45 [] [(2, .pointer (some ⟨b1, 0, none⟩)), (3, .pointer (some ⟨b2, 0, none⟩)), (11, v1), (12, .int .i64 (p0.length : Int)), (13, .int .i64 x3)] a := W
  have F : Stw ⟨Y, [], w0⟩ [(b2, [v2, v4]), (b1, [.slice none 0 0, .slice none 0 0])] [row v2 38 CW x1, row v4 91 EZ x4] w := F
  rw [Cc] at H
  refine Ai (Ac ?_)
  refine ls W F Aa (Bq W Aa Aa).q fun a w W F => ?_
  refine Ad (Ab (Ai ?_))
  refine Ay W Aa (fun hb => ?_) fun hb => ?_
  ·
   have H := AN (Bf hb) H
   rw [hb] at W
   clear hb
   refine Aq (Ab ?_)
   obtain ⟨o3, G3, K3⟩ := Ao H
   refine AH (fun a w => ∃ x5 : List (Int × Int), ∃ v5 : Value, some (x5) = some o3 ∧ Fr 45 [] [(2, .pointer (some ⟨b1, 0, none⟩)), (3, .pointer (some ⟨b2, 0, none⟩)), (11, v1), (12, .int .i64 (p0.length : Int)), (13, .int .i64 x3)] a ∧ Stw ⟨Y, [], w0⟩ [(b2, [v2, v5]), (b1, [.slice none 0 0, .slice none 0 0])] [row v2 38 CW x1, row v5 91 EZ x5] w) ?_ ?_
   ·
    have H := G3
    clear G3 K3
    refine Aw (Ai (Ac ?_))
    obtain ⟨x6, h2, H⟩ := Ao H
    refine ls W F Aa (AJ (r := DB) KY W Aa Aa (Aj h_v1) h2).q fun a w W F => ?_
    refine ls W F Aa (Az (y := Value.agg #[.int .i64 x6.1, .int .i64 x6.2.1, .int .i64 x6.2.2.1, .int .i64 x6.2.2.2.1, .int .i64 x6.2.2.2.2.1, .int .i64 x6.2.2.2.2.2]) (j := 0) (i := x3) W Aa Aa (Aj h_v1) h2 MG.to Mo Aa).q fun a w W F => ?_
    refine B1 (cs := [.int .i64 0, .int .i64 0, .int .i64 0, .int .i64 0, .int .i64 0, .int .i64 0]) W F Aa NC Aa fun b3 a w W F => ?_
    refine BM (vs := [.int .i64 x6.1, .int .i64 x6.2.1, .int .i64 x6.2.2.1, .int .i64 x6.2.2.2.1, .int .i64 x6.2.2.2.2.1, .int .i64 x6.2.2.2.2.2]) (M' := [(b3, [.int .i64 x6.1, .int .i64 x6.2.1, .int .i64 x6.2.2.1, .int .i64 x6.2.2.2.1, .int .i64 x6.2.2.2.2.1, .int .i64 x6.2.2.2.2.2]), (b2, [v2, v4]), (b1, [.slice none 0 0, .slice none 0 0])]) 0 W F Aa Aa Aa Mo Aa Aa Aa Aa Aa fun w F => ?_
    refine Ad (Ab (Ai (Ai (Ac ?_))))
    refine ls W F Aa (Ag DQ Aa Aa Aa T3 W Aa 0 Aa).q fun a w W F => ?_
    refine ls W F Aa (Al (v := Value.int .i64 x6.1) 0 W Aa Aa T3 Aa).q fun a w W F => ?_
    refine ls W F Aa (Fd W Aa Aa).q fun a w W F => ?_
    refine Ad (Ab ?_)
    refine Ay W Aa (fun hb => ?_) fun hb => ?_
    ·
     have H := AN (Bf hb) H
     rw [hb] at W
     clear hb
     refine Bk (BJ (Bl (Ab ?_)))
     have F := F.frontZ (i := 1) Aa Aa
     have F := F.frontZ (i := 1) Aa Aa
     have F := F.frontM (i := 2) Aa Aa
     have F := F.frontM (i := 2) Aa Aa
     have F := F.sub (M' := [(b2, [v2, v4]), (b1, [.slice none 0 0, .slice none 0 0])]) (Z' := [row v2 38 CW x1, row v4 91 EZ x4]) (List.Sublist.cons_cons _ (List.Sublist.cons_cons _ (List.nil_sublist _))) (List.Sublist.refl _)
     exact ⟨_, (v4), H, W.re ⟨rfl, Aa, Aa, Aa, Aa, trivial⟩, F⟩
    have H := AM (Bg hb) H
    rw [hb] at W
    clear hb
    refine Aq (Ab (Ai (Ac ?_)))
    refine ls W F Aa (Ag LI Aa Aa Aa NG W Aa 0 Aa).q fun a w W F => ?_
    refine ls W F Aa (Al (v := v2) 1 W Aa Aa NG Aa).q fun a w W F => ?_
    refine ls W F Aa (A7 (r := CW) (l := x1) M6 Aa W Aa (AP 0 Aa)).q fun a w W F => ?_
    refine ls W F Aa (Ae W Aa).q fun a w W F => ?_
    refine Ad (Ab (Aw ?_))
    have F := F.frontZ (i := 1) Aa Aa
    have F := F.frontZ (i := 1) Aa Aa
    have F := F.frontM (i := 2) Aa Aa
    have F := F.frontM (i := 2) Aa Aa
    have F := F.frontM (i := 2) Aa Aa
    refine Bv H (fun s a w => ∃ v6 : Value, Fr 45 [] [(2, .pointer (some ⟨b1, 0, none⟩)), (3, .pointer (some ⟨b2, 0, none⟩)), (5, .pointer (some ⟨b3, 0, none⟩)), (11, v1), (12, .int .i64 (p0.length : Int)), (13, .int .i64 x3), (21, v2), (22, .int .i64 (x1.length : Int)), (23, .int .i64 s.1)] a ∧ Stw ⟨Y, [], w0⟩ [(b3, [.int .i64 x6.1, .int .i64 x6.2.1, .int .i64 x6.2.2.1, .int .i64 x6.2.2.2.1, .int .i64 x6.2.2.2.2.1, .int .i64 x6.2.2.2.2.2]), (b2, [v2, v6]), (b1, [.slice none 0 0, .slice none 0 0])] [row v2 38 CW x1, row v6 91 EZ s.2] w) ⟨(v4), W.re ⟨rfl, Aa, Aa, Aa, Aa, Aa, Aa, Aa, Aa, trivial⟩, F⟩ fun s o a w H L4 hR => ?_
    obtain ⟨x7, x8⟩ := s
    obtain ⟨v6, W, F⟩ := hR
    have W : Fr 45 [] [(2, .pointer (some ⟨b1, 0, none⟩)), (3, .pointer (some ⟨b2, 0, none⟩)), (5, .pointer (some ⟨b3, 0, none⟩)), (11, v1), (12, .int .i64 (p0.length : Int)), (13, .int .i64 x3), (21, v2), (22, .int .i64 (x1.length : Int)), (23, .int .i64 x7)] a := W
    have F : Stw ⟨Y, [], w0⟩ [(b3, [.int .i64 x6.1, .int .i64 x6.2.1, .int .i64 x6.2.2.1, .int .i64 x6.2.2.2.1, .int .i64 x6.2.2.2.2.1, .int .i64 x6.2.2.2.2.2]), (b2, [v2, v6]), (b1, [.slice none 0 0, .slice none 0 0])] [row v2 38 CW x1, row v6 91 EZ x8] w := F
    rw [Cb] at H
    refine Ai (Ac ?_)
    refine ls W F Aa (Bq W Aa Aa).q fun a w W F => ?_
    refine Ad (Ab (Ai ?_))
    refine Ay W Aa (fun hb => ?_) fun hb => ?_
    ·
     have H := AN (Bf hb) H
     rw [hb] at W
     clear hb
     refine Aq (Ab ?_)
     obtain ⟨o5, G5, K5⟩ := Ao H
     refine AH (fun a w => ∃ x9 : List (Int × Int), ∃ v7 : Value, some (x9) = some o5 ∧ Fr 45 [] [(2, .pointer (some ⟨b1, 0, none⟩)), (3, .pointer (some ⟨b2, 0, none⟩)), (5, .pointer (some ⟨b3, 0, none⟩)), (11, v1), (12, .int .i64 (p0.length : Int)), (13, .int .i64 x3), (21, v2), (22, .int .i64 (x1.length : Int)), (23, .int .i64 x7)] a ∧ Stw ⟨Y, [], w0⟩ [(b3, [.int .i64 x6.1, .int .i64 x6.2.1, .int .i64 x6.2.2.1, .int .i64 x6.2.2.2.1, .int .i64 x6.2.2.2.2.1, .int .i64 x6.2.2.2.2.2]), (b2, [v2, v7]), (b1, [.slice none 0 0, .slice none 0 0])] [row v2 38 CW x1, row v7 91 EZ x9] w) ?_ ?_
     ·
      have H := G5
      clear G5 K5
      refine Aw (Ai (Ac ?_))
      obtain ⟨x10, h3, H⟩ := Ao H
      refine ls W F Aa (AJ (r := CW) NL W Aa Aa (AP 0 Aa) h3).q fun a w W F => ?_
      refine ls W F Aa (Az (y := Value.agg #[.int .i64 x10.1, .int .i64 x10.2.1, .int .i64 x10.2.2]) (j := 0) (i := x7) W Aa Aa (AP 0 Aa) h3 NS.to Nr Aa).q fun a w W F => ?_
      refine B1 (cs := [.int .i64 0, .int .i64 0, .int .i64 0]) W F Aa Pb Aa fun b4 a w W F => ?_
      refine BM (vs := [.int .i64 x10.1, .int .i64 x10.2.1, .int .i64 x10.2.2]) (M' := [(b4, [.int .i64 x10.1, .int .i64 x10.2.1, .int .i64 x10.2.2]), (b3, [.int .i64 x6.1, .int .i64 x6.2.1, .int .i64 x6.2.2.1, .int .i64 x6.2.2.2.1, .int .i64 x6.2.2.2.2.1, .int .i64 x6.2.2.2.2.2]), (b2, [v2, v6]), (b1, [.slice none 0 0, .slice none 0 0])]) 0 W F Aa Aa Aa Nr Aa Aa Aa Aa Aa fun w F => ?_
      refine Ad (Ab (Ai (Ac ?_)))
      refine ls W F Aa (Ag Lu Aa Aa Aa T3 W Aa 0 Aa).q fun a w W F => ?_
      refine ls W F Aa (Al (v := Value.int .i64 x10.1) 0 W Aa Aa T3 Aa).q fun a w W F => ?_
      refine ls W F Aa (Ag DQ Aa Aa Aa T3 W Aa 2 Aa).q fun a w W F => ?_
      refine ls W F Aa (Al (v := Value.int .i64 x6.2.2.1) 1 W Aa Aa T3 Aa).q fun a w W F => ?_
      refine ls W F Aa (BZ W Aa Aa).q fun a w W F => ?_
      refine Ad (Ab ?_)
      refine Ay W Aa (fun hb => ?_) fun hb => ?_
      ·
       have H := AN (Bf hb) H
       rw [hb] at W
       clear hb
       refine Ac ?_
       refine ls W F Aa (Ag LI Aa Aa Aa NK W Aa 1 Aa).q fun a w W F => ?_
       refine ls W F Aa (Al (v := v6) 2 W Aa Aa NK Aa).q fun a w W F => ?_
       refine ls W F Aa (Ag DQ Aa Aa Aa T3 W Aa 4 Aa).q fun a w W F => ?_
       refine ls W F Aa (Al (v := Value.int .i64 x6.2.2.2.2.1) 1 W Aa Aa T3 Aa).q fun a w W F => ?_
       refine ls W F Aa (Ag Lu Aa Aa Aa T3 W Aa 2 Aa).q fun a w W F => ?_
       refine ls W F Aa (Al (v := Value.int .i64 x10.2.2) 0 W Aa Aa T3 Aa).q fun a w W F => ?_
       refine ls W F Aa (BA (v := Value.agg #[.int .i64 x6.2.2.2.2.1, .int .i64 x10.2.2]) PS W Aa Aa Aa).q fun a w W F => ?_
       refine C1 (z := Value.agg #[.int .i64 0, .int .i64 0]) (cs := [.int .i64 x6.2.2.2.2.1, .int .i64 x10.2.2]) EZ ([(x6.2.2.2.2.1, x10.2.2)] : List (Int × Int)) W F Aa O6 Pt Aa Aa Aa Aa Aa Aa (Pj.repL _ _ ([(x6.2.2.2.2.1, x10.2.2)] : List (Int × Int))) fun v8 a w W F => ?_
       obtain ⟨x11, h4, H⟩ := Ao H
       refine Cz (r := EZ) (i := 2) W F Aa O6 Aa Aa Aa Aa (C7 F 0 Aa) h4 Aa fun v9 a w W F => ?_
       have F : Stw ⟨Y, [], w0⟩ [(b4, [.int .i64 x10.1, .int .i64 x10.2.1, .int .i64 x10.2.2]), (b3, [.int .i64 x6.1, .int .i64 x6.2.1, .int .i64 x6.2.2.1, .int .i64 x6.2.2.2.1, .int .i64 x6.2.2.2.2.1, .int .i64 x6.2.2.2.2.2]), (b2, [v2, v6]), (b1, [.slice none 0 0, .slice none 0 0])] [row v9 91 EZ x11, row v8 91 EZ ([(x6.2.2.2.2.1, x10.2.2)] : List (Int × Int)), row v2 38 CW x1] w := F
       refine ls W F Aa (Ag LI Aa Aa Aa NK W Aa 1 Aa).q fun a w W F => ?_
       refine GM (M' := [(b4, [.int .i64 x10.1, .int .i64 x10.2.1, .int .i64 x10.2.2]), (b3, [.int .i64 x6.1, .int .i64 x6.2.1, .int .i64 x6.2.2.1, .int .i64 x6.2.2.2.1, .int .i64 x6.2.2.2.2.1, .int .i64 x6.2.2.2.2.2]), (b2, [v2, v9]), (b1, [.slice none 0 0, .slice none 0 0])]) 2 W F Aa Aa Aa NK (F.one (k := 0) Aa) Aa Aa fun w F => ?_
       refine Ad (AK (Ab ?_))
       have F := F.frontZ (i := 2) Aa Aa
       have F := F.frontM (i := 3) Aa Aa
       have F := F.frontM (i := 3) Aa Aa
       have F := F.frontM (i := 3) Aa Aa
       have F := F.sub (M' := [(b3, [.int .i64 x6.1, .int .i64 x6.2.1, .int .i64 x6.2.2.1, .int .i64 x6.2.2.2.1, .int .i64 x6.2.2.2.2.1, .int .i64 x6.2.2.2.2.2]), (b2, [v2, v9]), (b1, [.slice none 0 0, .slice none 0 0])]) (Z' := [row v2 38 CW x1, row v9 91 EZ x11]) (List.Sublist.cons_cons _ (List.Sublist.cons_cons _ (List.Sublist.cons_cons _ (List.nil_sublist _)))) (List.Sublist.cons_cons _ (List.Sublist.cons_cons _ (List.nil_sublist _)))
       exact ⟨_, (v9), H, W.re ⟨rfl, Aa, Aa, Aa, Aa, Aa, Aa, Aa, Aa, trivial⟩, F⟩
      have H := AM (Bg hb) H
      rw [hb] at W
      clear hb
      refine Aq (AK (Ab ?_))
      have F := F.frontZ (i := 1) Aa Aa
      have F := F.frontZ (i := 1) Aa Aa
      have F := F.frontM (i := 3) Aa Aa
      have F := F.frontM (i := 3) Aa Aa
      have F := F.frontM (i := 3) Aa Aa
      have F := F.sub (M' := [(b3, [.int .i64 x6.1, .int .i64 x6.2.1, .int .i64 x6.2.2.1, .int .i64 x6.2.2.2.1, .int .i64 x6.2.2.2.2.1, .int .i64 x6.2.2.2.2.2]), (b2, [v2, v6]), (b1, [.slice none 0 0, .slice none 0 0])]) (Z' := [row v2 38 CW x1, row v6 91 EZ x8]) (List.Sublist.cons_cons _ (List.Sublist.cons_cons _ (List.Sublist.cons_cons _ (List.nil_sublist _)))) (List.Sublist.refl _)
      exact ⟨_, (v6), H, W.re ⟨rfl, Aa, Aa, Aa, Aa, Aa, Aa, Aa, Aa, trivial⟩, F⟩
     rintro a w ⟨x9, v7, hj, W, F⟩
     have hj := AW hj
     subst hj
     have H := K5
     clear G5 K5
     refine Ac ?_
     refine ls W F Aa (Cq W Aa Aa Aa).q fun a w W F => ?_
     refine ls W F Aa (Ae W Aa).q fun a w W F => ?_
     refine Ad (Ab ?_)
     have F := F.frontZ (i := 1) Aa Aa
     have F := F.frontZ (i := 1) Aa Aa
     have F := F.frontM (i := 2) Aa Aa
     have F := F.frontM (i := 2) Aa Aa
     have F := F.frontM (i := 2) Aa Aa
     exact ⟨_, H, (v7), W.re ⟨rfl, Aa, Aa, Aa, Aa, Aa, Aa, Aa, Aa, trivial⟩, F⟩
    have H := AM (Bg hb) H
    rw [hb] at W
    clear hb
    refine Bk ?_
    iterate 2 refine BJ ?_
    refine Bl (AK (Ab ?_))
    have F := F.frontZ (i := 1) Aa Aa
    have F := F.frontZ (i := 1) Aa Aa
    have F := F.frontM (i := 2) Aa Aa
    have F := F.frontM (i := 2) Aa Aa
    have F := F.sub (M' := [(b2, [v2, v6]), (b1, [.slice none 0 0, .slice none 0 0])]) (Z' := [row v2 38 CW x1, row v6 91 EZ x8]) (List.Sublist.cons_cons _ (List.Sublist.cons_cons _ (List.nil_sublist _))) (List.Sublist.refl _)
    have H := L4 _ H
    exact ⟨_, (v6), H, W.re ⟨rfl, Aa, Aa, Aa, Aa, trivial⟩, F⟩
   rintro a w ⟨x5, v5, hj, W, F⟩
   have hj := AW hj
   subst hj
   have H := K3
   clear G3 K3
   refine Ac ?_
   refine ls W F Aa (Cq W Aa Aa Aa).q fun a w W F => ?_
   refine ls W F Aa (Ae W Aa).q fun a w W F => ?_
   refine Ad (Ab ?_)
   have F := F.frontZ (i := 1) Aa Aa
   have F := F.frontZ (i := 1) Aa Aa
   have F := F.frontM (i := 1) Aa Aa
   have F := F.frontM (i := 1) Aa Aa
   exact ⟨_, H, (v5), W.re ⟨rfl, Aa, Aa, Aa, Aa, trivial⟩, F⟩
  have H := AM (Bg hb) H
  rw [hb] at W
  clear hb
  refine Bk ?_
  iterate 2 refine BJ ?_
  refine Bl (Ab ?_)
  have F := F.frontZ (i := 1) Aa Aa
  have F := F.frontZ (i := 1) Aa Aa
  have F := F.frontM (i := 1) Aa Aa
  have F := F.frontM (i := 1) Aa Aa
  have H := L2 _ H
  exact ⟨_, (v4), H, W.re ⟨rfl, Aa, trivial⟩, F⟩
 rintro a w ⟨x2, v3, hj, W, F⟩
 have hj := AW hj
 subst hj
 have H := K1
 clear G1 K1
 refine Ai (Ac ?_)
 refine ls W F Aa (Al (v := Value.agg #[v2, v3]) 0 W Aa Aa NO Aa).q fun a w W F => ?_
 refine BM (vs := [v2, v3]) (M' := [(b2, [v2, v3]), (b1, [v2, v3])]) 1 W F Aa Aa Aa NO Aa Aa Aa (Bz (F.one (k := 0) Aa) (Bz (F.one (k := 1) Aa) Gk)) Aa fun w F => ?_
 refine Ad (Ab (AA ?_))
 have H := AW H
 subst H
 refine A8 (.inl Aa) W F Aa (JL 1 W Aa Aa NO Aa) ?_
 have F := F.frontZ (i := 1) Aa Aa
 have F := F.frontZ (i := 1) Aa Aa
 have F := F.sub (M' := []) (Z' := [row v2 38 CW x1, row v3 91 EZ x2]) (List.nil_sublist _) (List.Sublist.refl _)
 exact ⟨((v2), (v3)), Aa, F⟩
theorem HT : type_of% Try.underlying98 := Try.underlying98
theorem PH : Has Try.prog 26 := ⟨fun args w => Am Try.func26 rfl (by decide) args w⟩
theorem Pz : Bt Try.prog 98 [.slice none 0 0, .map none, .slice none 0 0] [(0, 1), (1, 1), (2, 1)] := ⟨⟨.agg #[.slice none 0 0, .map none, .slice none 0 0], by kernel_rfl, rfl⟩, ⟨_, HT, fun w => by kernel_rfl⟩⟩
theorem P5 : (Try.prog.info? 98).bind (·.zero) = some (.agg #[.slice none 0 0, .map none, .slice none 0 0]) := by kernel_rfl
theorem P6 : Ty Try.prog 98 true 3 := ⟨by kernel_rfl, by kernel_rfl⟩
abbrev Is : Rp (Int × Int × Int × Int × List Int × Int × Int × Int) := (Rp.pair (Rp.int .i64) (Rp.pair (Rp.int .i64) (Rp.pair (Rp.int .i64) (Rp.pair (Rp.int .i64) (Rp.pair (Rp.slice (Rp.int .i64)) (Rp.pair (Rp.int .i64) (Rp.pair (Rp.int .i64) (Rp.int .i64))))))))
abbrev BO : Dp (Int × Int × Int × Int × (Value × Nat × List Int) × Int × Int × Int) := (Dp.pair (Dp.fl 1 (fun a => [.int .i64 a]) (fun _ => rfl)) (Dp.pair (Dp.fl 1 (fun a => [.int .i64 a]) (fun _ => rfl)) (Dp.pair (Dp.fl 1 (fun a => [.int .i64 a]) (fun _ => rfl)) (Dp.pair (Dp.fl 1 (fun a => [.int .i64 a]) (fun _ => rfl)) (Dp.pair (Dp.sl 3 (Rp.int .i64)) (Dp.pair (Dp.fl 1 (fun a => [.int .i64 a]) (fun _ => rfl)) (Dp.pair (Dp.fl 1 (fun a => [.int .i64 a]) (fun _ => rfl)) (Dp.fl 1 (fun a => [.int .i64 a]) (fun _ => rfl)))))))))
abbrev Cx (p : Int × Int × Int × Int × (Value × Nat × List Int) × Int × Int × Int) : Int × Int × Int × Int × (Nat × List Int) × Int × Int × Int := (p.1, p.2.1, p.2.2.1, p.2.2.2.1, p.2.2.2.2.1.2, p.2.2.2.2.2.1, p.2.2.2.2.2.2.1, p.2.2.2.2.2.2.2)
abbrev Lp : (Int × Int × Int × Int × (Nat × List Int) × Int × Int × Int) → Option (Int × Int × Int × Int × List Int × Int × Int × Int) := (fun (p : Int × Int × Int × Int × (Nat × List Int) × Int × Int × Int) => (some p.1).bind fun a => ((fun (p : Int × Int × Int × (Nat × List Int) × Int × Int × Int) => (some p.1).bind fun a => ((fun (p : Int × Int × (Nat × List Int) × Int × Int × Int) => (some p.1).bind fun a => ((fun (p : Int × (Nat × List Int) × Int × Int × Int) => (some p.1).bind fun a => ((fun (p : (Nat × List Int) × Int × Int × Int) => (O1 p.1).bind fun a => ((fun (p : Int × Int × Int) => (some p.1).bind fun a => ((fun (p : Int × Int) => (some p.1).bind fun a => (some p.2).bind fun b => some (a, b)) p.2).bind fun b => some (a, b)) p.2).bind fun b => some (a, b)) p.2).bind fun b => some (a, b)) p.2).bind fun b => some (a, b)) p.2).bind fun b => some (a, b)) p.2).bind fun b => some (a, b))
theorem O5 : Rst BO Is Cx Lp := (Rst.pair (Rst.flat Fl.int (fun _ => rfl) rfl) (Rst.pair (Rst.flat Fl.int (fun _ => rfl) rfl) (Rst.pair (Rst.flat Fl.int (fun _ => rfl) rfl) (Rst.pair (Rst.flat Fl.int (fun _ => rfl) rfl) (Rst.pair Rst.sl (Rst.pair (Rst.flat Fl.int (fun _ => rfl) rfl) (Rst.pair (Rst.flat Fl.int (fun _ => rfl) rfl) (Rst.flat Fl.int (fun _ => rfl) rfl))))))))
theorem FZ : Ty Try.prog 54 false 1 := ⟨by kernel_rfl, by kernel_rfl⟩
def AC (p0 : (List (Int × Int × Int × Int × (Nat × List Int) × Int × Int × Int)) × (List (Int × Int)) × List Int) (p1 : Int) : Int := (if (!((CE p0.2.1 p1).isSome)) = true then (-1) else (CE p0.2.1 p1).getD 0)
theorem DZ (Y : Nat → Prop) (X : List Nat) (w0 : World) (q_p0 : Nat) (v1 : Value) (m_v2 : Nat) (v3 : Value) (p0 : (List (Int × Int × Int × Int × (Nat × List Int) × Int × Int × Int)) × (List (Int × Int)) × List Int) (p1 : Int) (d_v1 : {x : List (Int × Int × Int × Int × (Value × Nat × List Int) × Int × Int × Int) // x.map Cx = p0.1}) (r : Int) (H : AC p0 p1 = r) (hL : Stw ⟨Y, X, w0⟩ [(q_p0, [v1, .map (some m_v2), v3])] [Bj v1 78 BO d_v1.1, row v3 3 (Rp.int .i64) p0.2.2, mp m_v2 Bw Bw p0.2.1] w0) :
    Calls Try.prog 52 #[.pointer (some ⟨q_p0, 0, none⟩), .int .i64 p1] w0 fun e w' => ∃ x : Unit, e = .returned (.int .i64 r) ∧ Stw ⟨Y, X, w0⟩ [(q_p0, [v1, .map (some m_v2), v3])] [Bj v1 78 BO d_v1.1, row v3 3 (Rp.int .i64) p0.2.2, mp m_v2 Bw Bw p0.2.1] w' := by
 refine enter Try.func52 Aa Try.ntmps52 Aa fun a W => ?_
 have F := hL
 unfold AC at H
 refine Ai (Ac ?_)
 refine ls W F Aa (Ah W Aa).q fun a w W F => ?_
 refine Ad (Ab (Ai (Ac ?_)))
 refine ls W F Aa (Ae W Aa).q fun a w W F => ?_
 refine ls W F Aa (BX W Aa).q fun a w W F => ?_
 refine ls W F Aa (Ag HT Aa Aa Aa Na W Aa 1 Aa).q fun a w W F => ?_
 refine ls W F Aa (Al (v := Value.map (some m_v2)) 0 W Aa Aa Na Aa).q fun a w W F => ?_
 refine ls W F Aa (Ae W Aa).q fun a w W F => ?_
 refine ls W F Aa (Hm (zv := (0 : Int)) (kx := (p1 : Int)) (q := 2) (E := Bw) (V := Bw) W Aa Aa Aa Oi LX Z3).q fun a w W F => ?_
 refine ls W F Aa (Ae W Aa).q fun a w W F => ?_
 refine ls W F Aa (AZ (v := Value.int .i64 ((CE p0.2.1 p1).getD 0)) W Aa Aa).q fun a w W F => ?_
 refine ls W F Aa (AZ (v := Value.bool ((CE p0.2.1 p1).isSome)) W Aa Aa).q fun a w W F => ?_
 iterate 2 refine ls W F Aa (Ah W Aa).q fun a w W F => ?_
 refine Ad (Ab (Ai (Ai (Ac ?_))))
 refine ls W F Aa (Ae W Aa).q fun a w W F => ?_
 refine ls W F Aa (EJ W Aa).q fun a w W F => ?_
 refine Ad (Ab ?_)
 refine Ay W Aa (fun hb => ?_) fun hb => ?_
 ·
  have H := AN hb H
  rw [hb] at W
  clear hb
  refine Ai (Ac ?_)
  refine ls W F Aa (Ah W Aa).q fun a w W F => ?_
  refine Ad (Ab (AA (AD ?_)))
  subst H
  refine A8 (.inl Aa) W F Aa (Ap W Aa) ?_
  have F := F.frontZ (i := 2) Aa Aa
  have F := F.frontZ (i := 2) Aa Aa
  have F := F.frontZ (i := 2) Aa Aa
  exact ⟨(), Aa, F⟩
 have H := AM (by rw [hb]; decide) H
 rw [hb] at W
 clear hb
 refine Aq (Ab (Ai (Ac ?_)))
 refine ls W F Aa (Ae W Aa).q fun a w W F => ?_
 refine ls W F Aa (Ah W Aa).q fun a w W F => ?_
 refine Ad (Ab (AA ?_))
 subst H
 refine A8 (.inl Aa) W F Aa (Ap W Aa) ?_
 have F := F.frontZ (i := 2) Aa Aa
 have F := F.frontZ (i := 2) Aa Aa
 have F := F.frontZ (i := 2) Aa Aa
 exact ⟨(), Aa, F⟩
theorem N4 : type_of% Try.underlying75 := Try.underlying75
theorem Ew : type_of% Try.underlying78 := Try.underlying78
theorem Pu : Has Try.prog 52 := ⟨fun args w => Am Try.func52 rfl (by decide) args w⟩
theorem MT : Ty Try.prog 75 false 1 := ⟨by kernel_rfl, by kernel_rfl⟩
theorem PO : Bt Try.prog 78 [.int .i64 0, .int .i64 0, .int .i64 0, .int .i64 0, .slice none 0 0, .int .i64 0, .int .i64 0, .int .i64 0] [(0, 1), (1, 1), (2, 1), (3, 1), (4, 1), (5, 1), (6, 1), (7, 1)] := ⟨⟨.agg #[.int .i64 0, .int .i64 0, .int .i64 0, .int .i64 0, .slice none 0 0, .int .i64 0, .int .i64 0, .int .i64 0], by kernel_rfl, rfl⟩, ⟨_, Ew, fun w => by kernel_rfl⟩⟩
theorem Pe : (Try.prog.info? 78).bind (·.zero) = some (.agg #[.int .i64 0, .int .i64 0, .int .i64 0, .int .i64 0, .slice none 0 0, .int .i64 0, .int .i64 0, .int .i64 0]) := by kernel_rfl
theorem OO : Et Try.prog 75 78 8 80 := Et.of N4 (by kernel_rfl) (by kernel_rfl) (by kernel_rfl) (by decide)
noncomputable def CF (p0 : (List (Int × Int × Int × Int × (Nat × List Int) × Int × Int × Int)) × (List (Int × Int)) × List Int) (p1 : Int × Int × Int × Int × Int × Int) : Option ((List (Int × Int × Int × Int × (Nat × List Int) × Int × Int × Int)) × (List (Int × Int)) × List Int) := (FR p0.2.2 ([(AC p0 p1.2.2.1)] : List Int)).bind fun x1 => (FR p0.1 ([(p1.2.2.1, p1.2.2.2.2.1, p1.2.2.2.2.2, p1.2.1, (2, []), 0, 0, p1.2.1)] : List (Int × Int × Int × Int × (Nat × List Int) × Int × Int × Int))).bind fun x2 => some (x2, CY p0.2.1 p1.2.2.1 (p0.1.length : Int), x1)
theorem GK (Y : Nat → Prop) (X : List Nat) (w0 : World) (q_p0 : Nat) (v1 : Value) (m_v2 : Nat) (v3 : Value) (p0 : (List (Int × Int × Int × Int × (Nat × List Int) × Int × Int × Int)) × (List (Int × Int)) × List Int) (p1 : Int × Int × Int × Int × Int × Int) (d_v1 : {x : List (Int × Int × Int × Int × (Value × Nat × List Int) × Int × Int × Int) // x.map Cx = p0.1}) (r : ((List (Int × Int × Int × Int × (Nat × List Int) × Int × Int × Int)) × (List (Int × Int)) × List Int)) (H : CF p0 p1 = some r) (hL : Stw ⟨Y, X, w0⟩ [(q_p0, [v1, .map (some m_v2), v3])] [Bj v1 78 BO d_v1.1, row v3 3 (Rp.int .i64) p0.2.2, mp m_v2 Bw Bw p0.2.1] w0) :
    Calls Try.prog 51 #[.pointer (some ⟨q_p0, 0, none⟩), .agg #[.int .i64 p1.1, .int .i64 p1.2.1, .int .i64 p1.2.2.1, .int .i64 p1.2.2.2.1, .int .i64 p1.2.2.2.2.1, .int .i64 p1.2.2.2.2.2]] w0 fun e w' => ∃ x : Value × ({x : List (Int × Int × Int × Int × (Value × Nat × List Int) × Int × Int × Int) // x.map Cx = r.1}) × Value, e = .returned (.tuple #[]) ∧ Stw ⟨Y, X, w0⟩ [(q_p0, [x.1, .map (some m_v2), x.2.2])] [Bj (x.1) 78 BO (x.2.1.1), row (x.2.2) 3 (Rp.int .i64) r.2.2, mp m_v2 Bw Bw r.2.1] w' := by
 refine enter Try.func51 Aa Try.ntmps51 Aa fun a W => ?_
 have F := hL
 unfold CF at H
 refine Ai (Ac ?_)
 refine B9 (cs := [.int .i64 p1.1, .int .i64 p1.2.1, .int .i64 p1.2.2.1, .int .i64 p1.2.2.2.1, .int .i64 p1.2.2.2.2.1, .int .i64 p1.2.2.2.2.2]) W F Aa Aa Aa fun b1 a w W F => ?_
 refine Ad (Ab (Ai ?_))
 refine Gc [(true, 0), (true, 1), (true, 2), (true, 3), (true, 4), (true, 5), (true, 6), (true, 7), (false, 8), (false, 9), (false, 10), (true, 11), (true, 12), (false, 13)] (CN ⟨Y, X, w0⟩ [(some 10, q_p0, [v1, .map (some m_v2), v3]), (some 8, b1, [.int .i64 p1.1, .int .i64 p1.2.1, .int .i64 p1.2.2.1, .int .i64 p1.2.2.2.1, .int .i64 p1.2.2.2.2.1, .int .i64 p1.2.2.2.2.2])] []) (fun ch a d v w h => by cases d <;> exact h) MO (by kernel_rfl) F (fun w F => ⟨_, _, F, (all_cons (fun _ => (.tail _ (.head _))) (all_cons (fun _ => (.head _)) AX)), AX⟩) fun w F => ?_
 iterate 2 refine Cd (R := []) W Aa Aa (yC fun M Z hN hZ => Ae W Aa) Aa Aa fun a W => ?_
 refine Cd (R := []) W Aa Aa (yC fun M Z hN hZ => BX W Aa) Aa Aa fun a W => ?_
 refine Cd (R := []) W Aa Aa (yC fun M Z hN hZ => Ag HT Aa Aa Aa FZ W Aa 2 Aa) Aa Aa fun a W => ?_
 refine Cd (R := [10]) W Aa Aa (yC fun M Z hN hZ => CK (cs := [v1, .map (some m_v2), v3]) (v := v3) W Aa (hN ((some 10), q_p0, [v1, .map (some m_v2), v3]) (.head _) Aa) FZ Aa) (by kernel_rfl) Aa fun a W => ?_
 refine Cd (R := []) W Aa Aa (yC fun M Z hN hZ => Ae W Aa) Aa Aa fun a W => ?_
 refine Cd (R := []) W Aa Aa (yC fun M Z hN hZ => Ag DQ Aa Aa Aa T3 W Aa 2 Aa) Aa Aa fun a W => ?_
 refine Cd (R := [8]) W Aa Aa (yC fun M Z hN hZ => CK (cs := [.int .i64 p1.1, .int .i64 p1.2.1, .int .i64 p1.2.2.1, .int .i64 p1.2.2.2.1, .int .i64 p1.2.2.2.2.1, .int .i64 p1.2.2.2.2.2]) (v := Value.int .i64 p1.2.2.1) W Aa (hN ((some 8), b1, [.int .i64 p1.1, .int .i64 p1.2.1, .int .i64 p1.2.2.1, .int .i64 p1.2.2.2.1, .int .i64 p1.2.2.2.2.1, .int .i64 p1.2.2.2.2.2]) (.tail _ (.head _)) Aa) T3 Aa) (by kernel_rfl) Aa fun a W => ?_
 refine FN Aa ?_
 have F := F.frontZ (i := 2) Aa Aa
 have F := F.frontZ (i := 2) Aa Aa
 have F := F.frontZ (i := 2) Aa Aa
 have F := F.frontM (i := 1) Aa Aa
 refine Cf (Ml := [(q_p0, [v1, .map (some m_v2), v3])]) (Zl := [Bj v1 78 BO d_v1.1, row v3 3 (Rp.int .i64) p0.2.2, mp m_v2 Bw Bw p0.2.1]) (M := [(b1, [.int .i64 p1.1, .int .i64 p1.2.1, .int .i64 p1.2.2.1, .int .i64 p1.2.2.2.1, .int .i64 p1.2.2.2.2.1, .int .i64 p1.2.2.2.2.2])]) (Z := []) (β := Unit) (rv := fun x => .int .i64 (AC p0 p1.2.2.1)) (MM := fun x => [(q_p0, [v1, .map (some m_v2), v3])]) (ZZ := fun x => [Bj v1 78 BO d_v1.1, row v3 3 (Rp.int .i64) p0.2.2, mp m_v2 Bw Bw p0.2.1]) W F Pu Aa Aa (fun hL => DZ _ _ w q_p0 (v1) m_v2 (v3) p0 p1.2.2.1 ⟨d_v1.1, d_v1.2⟩ _ Aa hL) fun x a w W F => ?_
 have F : Stw ⟨Y, X, w0⟩ [(q_p0, [v1, .map (some m_v2), v3]), (b1, [.int .i64 p1.1, .int .i64 p1.2.1, .int .i64 p1.2.2.1, .int .i64 p1.2.2.2.1, .int .i64 p1.2.2.2.2.1, .int .i64 p1.2.2.2.2.2])] [Bj v1 78 BO d_v1.1, row v3 3 (Rp.int .i64) p0.2.2, mp m_v2 Bw Bw p0.2.1] w := F
 refine Ct (N2 := []) (NZ2 := []) (N3 := [(some 10, q_p0, [v1, .map (some m_v2), v3]), (some 8, b1, [.int .i64 p1.1, .int .i64 p1.2.1, .int .i64 p1.2.2.1, .int .i64 p1.2.2.2.1, .int .i64 p1.2.2.2.2.1, .int .i64 p1.2.2.2.2.2])]) (NZ3 := []) F Aa Aa (all_cons (fun _ => (.head _)) (all_cons (fun h => A6 (by kernel_rfl) h) AX)) AX ?_
 refine FN Aa ?_
 refine C1 (z := Value.int .i64 0) (cs := [.int .i64 (AC p0 p1.2.2.1)]) (Rp.int .i64) ([(AC p0 p1.2.2.1)] : List Int) W F Aa HV Z3 Aa Aa Aa Aa Aa Aa (Fl.int.repL _ _ ([(AC p0 p1.2.2.1)] : List Int)) fun v4 a w W F => ?_
 refine Ct (N2 := []) (NZ2 := []) (N3 := [(some 10, q_p0, [v1, .map (some m_v2), v3]), (some 8, b1, [.int .i64 p1.1, .int .i64 p1.2.1, .int .i64 p1.2.2.1, .int .i64 p1.2.2.2.1, .int .i64 p1.2.2.2.2.1, .int .i64 p1.2.2.2.2.2])]) (NZ3 := []) F Aa Aa (all_cons (fun _ => (.head _)) (all_cons (fun h => A6 (by kernel_rfl) h) AX)) AX ?_
 refine FN Aa ?_
 obtain ⟨x1, h1, H⟩ := Ao H
 refine Cz (r := (Rp.int .i64)) (i := 2) W F Aa HV Aa Aa Aa Aa (C7 F 0 Aa) h1 Aa fun v5 a w W F => ?_
 have F : Stw ⟨Y, X, w0⟩ [(q_p0, [v1, .map (some m_v2), v3]), (b1, [.int .i64 p1.1, .int .i64 p1.2.1, .int .i64 p1.2.2.1, .int .i64 p1.2.2.2.1, .int .i64 p1.2.2.2.2.1, .int .i64 p1.2.2.2.2.2])] [row v5 3 (Rp.int .i64) x1, row v4 3 (Rp.int .i64) ([(AC p0 p1.2.2.1)] : List Int), Bj v1 78 BO d_v1.1, mp m_v2 Bw Bw p0.2.1] w := F
 refine Ct (N2 := []) (NZ2 := []) (N3 := [(some 10, q_p0, [v1, .map (some m_v2), v3]), (some 8, b1, [.int .i64 p1.1, .int .i64 p1.2.1, .int .i64 p1.2.2.1, .int .i64 p1.2.2.2.1, .int .i64 p1.2.2.2.2.1, .int .i64 p1.2.2.2.2.2])]) (NZ3 := []) F Aa Aa (all_cons (fun h => A6 (by kernel_rfl) h) (all_cons (fun h => A6 (by kernel_rfl) h) AX)) AX ?_
 refine Cd (R := []) W Aa Aa (yC fun M Z hN hZ => BX W Aa) Aa Aa fun a W => ?_
 refine Cd (R := []) W Aa Aa (yC fun M Z hN hZ => Ag HT Aa Aa Aa FZ W Aa 2 Aa) Aa Aa fun a W => ?_
 refine FN Aa ?_
 refine GM (M' := [(q_p0, [v1, .map (some m_v2), v5]), (b1, [.int .i64 p1.1, .int .i64 p1.2.1, .int .i64 p1.2.2.1, .int .i64 p1.2.2.2.1, .int .i64 p1.2.2.2.2.1, .int .i64 p1.2.2.2.2.2])]) 0 W F Aa Aa Aa FZ (F.one (k := 0) Aa) Aa Aa fun w F => ?_
 refine Ct (N2 := []) (NZ2 := []) (N3 := [(some 10, q_p0, [v1, .map (some m_v2), v3]), (some 8, b1, [.int .i64 p1.1, .int .i64 p1.2.1, .int .i64 p1.2.2.1, .int .i64 p1.2.2.2.1, .int .i64 p1.2.2.2.2.1, .int .i64 p1.2.2.2.2.2])]) (NZ3 := []) F Aa Aa (all_cons (fun h => A6 (by kernel_rfl) h) (all_cons (fun h => A6 (by kernel_rfl) h) AX)) AX ?_
 refine Hh (Ab (Ai ?_))
 refine Im 11 F MO (by kernel_rfl) ?_
 refine qs W Aa (Ae W Aa).q fun a W => ?_
 refine qs W Aa (BX W Aa).q fun a W => ?_
 refine qs W Aa (Ag HT Aa Aa Aa Na W Aa 1 Aa).q fun a W => ?_
 refine qs W Aa (Al (v := Value.map (some m_v2)) 0 W Aa Aa Na Aa).q fun a W => ?_
 refine qs W Aa (Ag DQ Aa Aa Aa T3 W Aa 2 Aa).q fun a W => ?_
 refine qs W Aa (Al (v := Value.int .i64 p1.2.2.1) 1 W Aa Aa T3 Aa).q fun a W => ?_
 refine qs W Aa (Ae W Aa).q fun a W => ?_
 refine qs W Aa (BX W Aa).q fun a W => ?_
 refine qs W Aa (Ag HT Aa Aa Aa MT W Aa 0 Aa).q fun a W => ?_
 refine qs W Aa (Al (v := v1) 0 W Aa Aa MT Aa).q fun a W => ?_
 refine qs W Aa (Ns (er := Cx) d_v1.2 N4 Aa W Aa (LE.hd (JQ 2 Aa))).q fun a W => ?_
 refine BK fun w F => ?_
 refine F3 (q := 3) (kx := (p1.2.2.1 : Int)) (vx := ((p0.1.length : Int) : Int)) (E := Bw) (V := Bw) W F Aa Aa Aa Aa Aa Oi LX fun w F => ?_
 have F : Stw ⟨Y, X, w0⟩ [(q_p0, [v1, .map (some m_v2), v5]), (b1, [.int .i64 p1.1, .int .i64 p1.2.1, .int .i64 p1.2.2.1, .int .i64 p1.2.2.2.1, .int .i64 p1.2.2.2.2.1, .int .i64 p1.2.2.2.2.2])] [mp m_v2 Bw Bw (CY p0.2.1 p1.2.2.1 (p0.1.length : Int)), row v5 3 (Rp.int .i64) x1, row v4 3 (Rp.int .i64) ([(AC p0 p1.2.2.1)] : List Int), Bj v1 78 BO d_v1.1] w := F
 refine Ad (Ab ?_)
 refine Gc [(true, 0), (true, 1), (true, 2), (true, 3), (true, 4), (true, 5), (true, 6), (true, 7), (true, 8), (true, 9), (true, 10), (true, 11), (true, 12), (true, 13), (true, 14), (true, 15), (false, 16), (false, 17), (true, 18), (true, 19), (false, 20)] (CN ⟨Y, X, w0⟩ [(some 17, q_p0, [v1, .map (some m_v2), v5]), (some 16, b1, [.int .i64 p1.1, .int .i64 p1.2.1, .int .i64 p1.2.2.1, .int .i64 p1.2.2.2.1, .int .i64 p1.2.2.2.2.1, .int .i64 p1.2.2.2.2.2])] []) (fun ch a d v w h => by cases d <;> exact h) MO (by kernel_rfl) F (fun w F => ⟨_, _, F, (all_cons (fun _ => (.head _)) (all_cons (fun _ => (.tail _ (.head _))) AX)), AX⟩) fun w F => ?_
 iterate 2 refine Cd (R := []) W Aa Aa (yC fun M Z hN hZ => Ae W Aa) Aa Aa fun a W => ?_
 refine Cd (R := []) W Aa Aa (yC fun M Z hN hZ => BX W Aa) Aa Aa fun a W => ?_
 refine Cd (R := []) W Aa Aa (yC fun M Z hN hZ => Ag HT Aa Aa Aa MT W Aa 0 Aa) Aa Aa fun a W => ?_
 refine Cd (R := [17]) W Aa Aa (yC fun M Z hN hZ => CK (cs := [v1, .map (some m_v2), v5]) (v := v1) W Aa (hN ((some 17), q_p0, [v1, .map (some m_v2), v5]) (.head _) Aa) MT Aa) (by kernel_rfl) Aa fun a W => ?_
 refine Cd (R := []) W Aa Aa (yC fun M Z hN hZ => Ag DQ Aa Aa Aa T3 W Aa 2 Aa) Aa Aa fun a W => ?_
 refine Cd (R := [16, 15]) W Aa Aa (yC fun M Z hN hZ => CK (cs := [.int .i64 p1.1, .int .i64 p1.2.1, .int .i64 p1.2.2.1, .int .i64 p1.2.2.2.1, .int .i64 p1.2.2.2.2.1, .int .i64 p1.2.2.2.2.2]) (v := Value.int .i64 p1.2.2.1) W Aa (hN ((some 16), b1, [.int .i64 p1.1, .int .i64 p1.2.1, .int .i64 p1.2.2.1, .int .i64 p1.2.2.2.1, .int .i64 p1.2.2.2.2.1, .int .i64 p1.2.2.2.2.2]) (.tail _ (.head _)) Aa) T3 Aa) (by kernel_rfl) Aa fun a W => ?_
 refine Cd (R := []) W Aa Aa (yC fun M Z hN hZ => Ag DQ Aa Aa Aa T3 W Aa 4 Aa) Aa Aa fun a W => ?_
 refine Cd (R := [16, 15]) W Aa Aa (yC fun M Z hN hZ => CK (cs := [.int .i64 p1.1, .int .i64 p1.2.1, .int .i64 p1.2.2.1, .int .i64 p1.2.2.2.1, .int .i64 p1.2.2.2.2.1, .int .i64 p1.2.2.2.2.2]) (v := Value.int .i64 p1.2.2.2.2.1) W Aa (hN ((some 16), b1, [.int .i64 p1.1, .int .i64 p1.2.1, .int .i64 p1.2.2.1, .int .i64 p1.2.2.2.1, .int .i64 p1.2.2.2.2.1, .int .i64 p1.2.2.2.2.2]) (.tail _ (.head _)) Aa) T3 Aa) (by kernel_rfl) Aa fun a W => ?_
 refine Cd (R := []) W Aa Aa (yC fun M Z hN hZ => Ag DQ Aa Aa Aa T3 W Aa 5 Aa) Aa Aa fun a W => ?_
 refine Cd (R := [16, 15]) W Aa Aa (yC fun M Z hN hZ => CK (cs := [.int .i64 p1.1, .int .i64 p1.2.1, .int .i64 p1.2.2.1, .int .i64 p1.2.2.2.1, .int .i64 p1.2.2.2.2.1, .int .i64 p1.2.2.2.2.2]) (v := Value.int .i64 p1.2.2.2.2.2) W Aa (hN ((some 16), b1, [.int .i64 p1.1, .int .i64 p1.2.1, .int .i64 p1.2.2.1, .int .i64 p1.2.2.2.1, .int .i64 p1.2.2.2.2.1, .int .i64 p1.2.2.2.2.2]) (.tail _ (.head _)) Aa) T3 Aa) (by kernel_rfl) Aa fun a W => ?_
 refine Cd (R := []) W Aa Aa (yC fun M Z hN hZ => Ag DQ Aa Aa Aa T3 W Aa 1 Aa) Aa Aa fun a W => ?_
 refine Cd (R := [16, 15]) W Aa Aa (yC fun M Z hN hZ => CK (cs := [.int .i64 p1.1, .int .i64 p1.2.1, .int .i64 p1.2.2.1, .int .i64 p1.2.2.2.1, .int .i64 p1.2.2.2.2.1, .int .i64 p1.2.2.2.2.2]) (v := Value.int .i64 p1.2.1) W Aa (hN ((some 16), b1, [.int .i64 p1.1, .int .i64 p1.2.1, .int .i64 p1.2.2.1, .int .i64 p1.2.2.2.1, .int .i64 p1.2.2.2.2.1, .int .i64 p1.2.2.2.2.2]) (.tail _ (.head _)) Aa) T3 Aa) (by kernel_rfl) Aa fun a W => ?_
 refine Cd (R := []) W Aa Aa (yC fun M Z hN hZ => Ag DQ Aa Aa Aa T3 W Aa 1 Aa) Aa Aa fun a W => ?_
 refine Cd (R := [16, 15]) W Aa Aa (yC fun M Z hN hZ => CK (cs := [.int .i64 p1.1, .int .i64 p1.2.1, .int .i64 p1.2.2.1, .int .i64 p1.2.2.2.1, .int .i64 p1.2.2.2.2.1, .int .i64 p1.2.2.2.2.2]) (v := Value.int .i64 p1.2.1) W Aa (hN ((some 16), b1, [.int .i64 p1.1, .int .i64 p1.2.1, .int .i64 p1.2.2.1, .int .i64 p1.2.2.2.1, .int .i64 p1.2.2.2.2.1, .int .i64 p1.2.2.2.2.2]) (.tail _ (.head _)) Aa) T3 Aa) (by kernel_rfl) Aa fun a W => ?_
 refine Cd (R := []) W Aa Aa (yC fun M Z hN hZ => BA (v := Value.agg #[.int .i64 p1.2.2.1, .int .i64 p1.2.2.2.2.1, .int .i64 p1.2.2.2.2.2, .int .i64 p1.2.1, .slice none 0 0, .int .i64 0, .int .i64 0, .int .i64 p1.2.1]) PO W Aa Aa Aa) Aa Aa fun a W => ?_
 refine FN Aa ?_
 have F := F.addEmp
 have F := F.addEmp
 have F := F.pairZ (D := (Dp.fl 1 (fun a => [.int .i64 a]) (fun _ => rfl))) (E := (Dp.fl 1 (fun a => [.int .i64 a]) (fun _ => rfl))) (p := 0) (q := p1.2.1)
 have F := F.addEmp
 have F := F.pairZ (D := (Dp.fl 1 (fun a => [.int .i64 a]) (fun _ => rfl))) (E := (Dp.pair (Dp.fl 1 (fun a => [.int .i64 a]) (fun _ => rfl)) (Dp.fl 1 (fun a => [.int .i64 a]) (fun _ => rfl)))) (p := 0) (q := (0, p1.2.1))
 have F := F.nlZ (Nl.sl (e' := 3) (r := (Rp.int .i64)))
 have F := F.pairZ (D := (Dp.sl 3 (Rp.int .i64))) (E := (Dp.pair (Dp.fl 1 (fun a => [.int .i64 a]) (fun _ => rfl)) (Dp.pair (Dp.fl 1 (fun a => [.int .i64 a]) (fun _ => rfl)) (Dp.fl 1 (fun a => [.int .i64 a]) (fun _ => rfl))))) (p := (Value.slice none 0 0, 2, [])) (q := (0, 0, p1.2.1))
 have F := F.addEmp
 have F := F.pairZ (D := (Dp.fl 1 (fun a => [.int .i64 a]) (fun _ => rfl))) (E := (Dp.pair (Dp.sl 3 (Rp.int .i64)) (Dp.pair (Dp.fl 1 (fun a => [.int .i64 a]) (fun _ => rfl)) (Dp.pair (Dp.fl 1 (fun a => [.int .i64 a]) (fun _ => rfl)) (Dp.fl 1 (fun a => [.int .i64 a]) (fun _ => rfl)))))) (p := p1.2.1) (q := ((Value.slice none 0 0, 2, []), 0, 0, p1.2.1))
 have F := F.addEmp
 have F := F.pairZ (D := (Dp.fl 1 (fun a => [.int .i64 a]) (fun _ => rfl))) (E := (Dp.pair (Dp.fl 1 (fun a => [.int .i64 a]) (fun _ => rfl)) (Dp.pair (Dp.sl 3 (Rp.int .i64)) (Dp.pair (Dp.fl 1 (fun a => [.int .i64 a]) (fun _ => rfl)) (Dp.pair (Dp.fl 1 (fun a => [.int .i64 a]) (fun _ => rfl)) (Dp.fl 1 (fun a => [.int .i64 a]) (fun _ => rfl))))))) (p := p1.2.2.2.2.2) (q := (p1.2.1, (Value.slice none 0 0, 2, []), 0, 0, p1.2.1))
 have F := F.addEmp
 have F := F.pairZ (D := (Dp.fl 1 (fun a => [.int .i64 a]) (fun _ => rfl))) (E := (Dp.pair (Dp.fl 1 (fun a => [.int .i64 a]) (fun _ => rfl)) (Dp.pair (Dp.fl 1 (fun a => [.int .i64 a]) (fun _ => rfl)) (Dp.pair (Dp.sl 3 (Rp.int .i64)) (Dp.pair (Dp.fl 1 (fun a => [.int .i64 a]) (fun _ => rfl)) (Dp.pair (Dp.fl 1 (fun a => [.int .i64 a]) (fun _ => rfl)) (Dp.fl 1 (fun a => [.int .i64 a]) (fun _ => rfl)))))))) (p := p1.2.2.2.2.1) (q := (p1.2.2.2.2.2, p1.2.1, (Value.slice none 0 0, 2, []), 0, 0, p1.2.1))
 have F := F.addEmp
 have F := F.pairZ (D := (Dp.fl 1 (fun a => [.int .i64 a]) (fun _ => rfl))) (E := (Dp.pair (Dp.fl 1 (fun a => [.int .i64 a]) (fun _ => rfl)) (Dp.pair (Dp.fl 1 (fun a => [.int .i64 a]) (fun _ => rfl)) (Dp.pair (Dp.fl 1 (fun a => [.int .i64 a]) (fun _ => rfl)) (Dp.pair (Dp.sl 3 (Rp.int .i64)) (Dp.pair (Dp.fl 1 (fun a => [.int .i64 a]) (fun _ => rfl)) (Dp.pair (Dp.fl 1 (fun a => [.int .i64 a]) (fun _ => rfl)) (Dp.fl 1 (fun a => [.int .i64 a]) (fun _ => rfl))))))))) (p := p1.2.2.1) (q := (p1.2.2.2.2.1, p1.2.2.2.2.2, p1.2.1, (Value.slice none 0 0, 2, []), 0, 0, p1.2.1))
 refine C1 (z := Value.agg #[.int .i64 0, .int .i64 0, .int .i64 0, .int .i64 0, .slice none 0 0, .int .i64 0, .int .i64 0, .int .i64 0]) (cs := [.int .i64 p1.2.2.1, .int .i64 p1.2.2.2.2.1, .int .i64 p1.2.2.2.2.2, .int .i64 p1.2.1, .slice none 0 0, .int .i64 0, .int .i64 0, .int .i64 p1.2.1]) BO.hr ([(p1.2.2.1, p1.2.2.2.2.1, p1.2.2.2.2.2, p1.2.1, (Value.slice none 0 0, 2, []), 0, 0, p1.2.1)] : List (Int × Int × Int × Int × (Value × Nat × List Int) × Int × Int × Int)) W F Aa OO Pe Aa Aa Aa (Ds Aa Aa Aa Es) Aa Aa ⟨[Value.int .i64 p1.2.2.1, Value.int .i64 p1.2.2.2.2.1, Value.int .i64 p1.2.2.2.2.2, Value.int .i64 p1.2.1, Value.slice none 0 0, Value.int .i64 0, Value.int .i64 0, Value.int .i64 p1.2.1], _, Aa, ⟨rfl, (Bz Aa (Bz Aa (Bz Aa (Bz Aa (Bz Aa (Bz Aa (Bz Aa (Bz Aa Gk))))))))⟩, Aa⟩ fun v6 a w W F => ?_
 have F := Stw.dShutL (D := BO) (lx := ([(p1.2.2.1, p1.2.2.2.2.1, p1.2.2.2.2.2, p1.2.1, (Value.slice none 0 0, 2, []), 0, 0, p1.2.1)] : List (Int × Int × Int × Int × (Value × Nat × List Int) × Int × Int × Int))) F
 have h2 : List.map Cx ([(p1.2.2.1, p1.2.2.2.2.1, p1.2.2.2.2.2, p1.2.1, (Value.slice none 0 0, 2, []), 0, 0, p1.2.1)] : List (Int × Int × Int × Int × (Value × Nat × List Int) × Int × Int × Int)) = ([(p1.2.2.1, p1.2.2.2.2.1, p1.2.2.2.2.2, p1.2.1, (2, []), 0, 0, p1.2.1)] : List (Int × Int × Int × Int × (Nat × List Int) × Int × Int × Int)) := Aa
 have F : Stw ⟨Y, X, w0⟩ [(q_p0, [v1, .map (some m_v2), v5]), (b1, [.int .i64 p1.1, .int .i64 p1.2.1, .int .i64 p1.2.2.1, .int .i64 p1.2.2.2.1, .int .i64 p1.2.2.2.2.1, .int .i64 p1.2.2.2.2.2])] [Bj v6 78 BO ([(p1.2.2.1, p1.2.2.2.2.1, p1.2.2.2.2.2, p1.2.1, (Value.slice none 0 0, 2, []), 0, 0, p1.2.1)] : List (Int × Int × Int × Int × (Value × Nat × List Int) × Int × Int × Int)), mp m_v2 Bw Bw (CY p0.2.1 p1.2.2.1 (p0.1.length : Int)), row v5 3 (Rp.int .i64) x1, row v4 3 (Rp.int .i64) ([(AC p0 p1.2.2.1)] : List Int), Bj v1 78 BO d_v1.1] w := F
 refine Ct (N2 := []) (NZ2 := []) (N3 := [(some 17, q_p0, [v1, .map (some m_v2), v5]), (some 16, b1, [.int .i64 p1.1, .int .i64 p1.2.1, .int .i64 p1.2.2.1, .int .i64 p1.2.2.2.1, .int .i64 p1.2.2.2.2.1, .int .i64 p1.2.2.2.2.2])]) (NZ3 := []) F Aa Aa (all_cons (fun _ => (.head _)) (all_cons (fun h => A6 (by kernel_rfl) h) AX)) AX ?_
 refine FN Aa ?_
 have F := F.frontZ (i := 4) Aa Aa
 obtain ⟨x2, h3, H⟩ := Ao H
 refine KD (D := BO) W F Aa OO Aa Aa (Md (er := Cx) d_v1.2 h2 h3).1 Aa fun v7 a w W F => ?_
 have h4 : List.map Cx (d_v1.1 ++ ([(p1.2.2.1, p1.2.2.2.2.1, p1.2.2.2.2.2, p1.2.1, (Value.slice none 0 0, 2, []), 0, 0, p1.2.1)] : List (Int × Int × Int × Int × (Value × Nat × List Int) × Int × Int × Int))) = x2 := (Md (er := Cx) d_v1.2 h2 h3).2
 have F : Stw ⟨Y, X, w0⟩ [(q_p0, [v1, .map (some m_v2), v5]), (b1, [.int .i64 p1.1, .int .i64 p1.2.1, .int .i64 p1.2.2.1, .int .i64 p1.2.2.2.1, .int .i64 p1.2.2.2.2.1, .int .i64 p1.2.2.2.2.2])] [Bj v7 78 BO (d_v1.1 ++ ([(p1.2.2.1, p1.2.2.2.2.1, p1.2.2.2.2.2, p1.2.1, (Value.slice none 0 0, 2, []), 0, 0, p1.2.1)] : List (Int × Int × Int × Int × (Value × Nat × List Int) × Int × Int × Int))), mp m_v2 Bw Bw (CY p0.2.1 p1.2.2.1 (p0.1.length : Int)), row v5 3 (Rp.int .i64) x1, row v4 3 (Rp.int .i64) ([(AC p0 p1.2.2.1)] : List Int)] w := F
 refine Ct (N2 := []) (NZ2 := []) (N3 := [(some 17, q_p0, [v1, .map (some m_v2), v5]), (some 16, b1, [.int .i64 p1.1, .int .i64 p1.2.1, .int .i64 p1.2.2.1, .int .i64 p1.2.2.2.1, .int .i64 p1.2.2.2.2.1, .int .i64 p1.2.2.2.2.2])]) (NZ3 := []) F Aa Aa (all_cons (fun h => A6 (by kernel_rfl) h) (all_cons (fun h => A6 (by kernel_rfl) h) AX)) AX ?_
 refine Cd (R := []) W Aa Aa (yC fun M Z hN hZ => BX W Aa) Aa Aa fun a W => ?_
 refine Cd (R := []) W Aa Aa (yC fun M Z hN hZ => Ag HT Aa Aa Aa MT W Aa 0 Aa) Aa Aa fun a W => ?_
 refine FN Aa ?_
 refine GM (M' := [(q_p0, [v7, .map (some m_v2), v5]), (b1, [.int .i64 p1.1, .int .i64 p1.2.1, .int .i64 p1.2.2.1, .int .i64 p1.2.2.2.1, .int .i64 p1.2.2.2.2.1, .int .i64 p1.2.2.2.2.2])]) 0 W F Aa Aa Aa MT (F.oneD 0 Aa) Aa Aa fun w F => ?_
 refine Ct (N2 := []) (NZ2 := []) (N3 := [(some 17, q_p0, [v1, .map (some m_v2), v5]), (some 16, b1, [.int .i64 p1.1, .int .i64 p1.2.1, .int .i64 p1.2.2.1, .int .i64 p1.2.2.2.1, .int .i64 p1.2.2.2.2.1, .int .i64 p1.2.2.2.2.2])]) (NZ3 := []) F Aa Aa (all_cons (fun h => A6 (by kernel_rfl) h) (all_cons (fun h => A6 (by kernel_rfl) h) AX)) AX ?_
 refine Hh ?_
 have H := AW H
 subst H
 refine FV (.inr Aa) W Aa ?_
 have F := F.frontZ (i := 1) Aa Aa
 have F := F.frontZ (i := 2) Aa Aa
 have F := F.frontZ (i := 2) Aa Aa
 have F := F.sub (M' := [(q_p0, [v7, .map (some m_v2), v5])]) (Z' := [Bj v7 78 BO (d_v1.1 ++ ([(p1.2.2.1, p1.2.2.2.2.1, p1.2.2.2.2.2, p1.2.1, (Value.slice none 0 0, 2, []), 0, 0, p1.2.1)] : List (Int × Int × Int × Int × (Value × Nat × List Int) × Int × Int × Int))), row v5 3 (Rp.int .i64) x1, mp m_v2 Bw Bw (CY p0.2.1 p1.2.2.1 (p0.1.length : Int))]) (List.Sublist.cons_cons _ (List.nil_sublist _)) (List.Sublist.cons_cons _ (List.Sublist.cons_cons _ (List.Sublist.cons_cons _ (List.nil_sublist _))))
 exact ⟨((v7), ⟨(d_v1.1 ++ ([(p1.2.2.1, p1.2.2.2.2.1, p1.2.2.2.2.2, p1.2.1, (Value.slice none 0 0, 2, []), 0, 0, p1.2.1)] : List (Int × Int × Int × Int × (Value × Nat × List Int) × Int × Int × Int))), h4⟩, (v5)), Aa, F⟩
theorem PQ : Has Try.prog 51 := ⟨fun args w => Am Try.func51 rfl (by decide) args w⟩
noncomputable def B3 (p0 : (List (Int × Int × Int × Int × (Nat × List Int) × Int × Int × Int)) × (List (Int × Int)) × List Int) (p1 : Int) (p2 : Int × Int × Int × Int × Int × Int) : Option ((List (Int × Int × Int × Int × (Nat × List Int) × Int × Int × Int)) × (List (Int × Int)) × List Int) := (ix p0.1 p1).bind fun x1 => (ix p0.1 p1).bind fun x2 => (if p2.1 = 2 then (ix (Ax p0.1 p1 (x2.1, x2.2.1, x2.2.2.1, x2.2.2.2.1, x2.2.2.2.2.1, x2.2.2.2.2.2.1, x2.2.2.2.2.2.2.1, p2.2.1)) p1).bind fun x3 => (MA x3.2.2.2.2.1.1).bind fun x4 => (FR x3.2.2.2.2.1.2 ([p2.2.2.2.1] : List Int)).bind fun x5 => (ix (Ax (Ax p0.1 p1 (x2.1, x2.2.1, x2.2.2.1, x2.2.2.2.1, x2.2.2.2.2.1, x2.2.2.2.2.2.1, x2.2.2.2.2.2.2.1, p2.2.1)) p1 (x3.1, x3.2.1, x3.2.2.1, x3.2.2.2.1, (0, []), x3.2.2.2.2.2.1, x3.2.2.2.2.2.2.1, x3.2.2.2.2.2.2.2)) p1).bind fun x6 => some ((Ax (Ax (Ax p0.1 p1 (x2.1, x2.2.1, x2.2.2.1, x2.2.2.2.1, x2.2.2.2.2.1, x2.2.2.2.2.2.1, x2.2.2.2.2.2.2.1, p2.2.1)) p1 (x3.1, x3.2.1, x3.2.2.1, x3.2.2.2.1, (0, []), x3.2.2.2.2.2.1, x3.2.2.2.2.2.2.1, x3.2.2.2.2.2.2.2)) p1 (x6.1, x6.2.1, x6.2.2.1, x6.2.2.2.1, (2, x5), x6.2.2.2.2.2.1, x6.2.2.2.2.2.2.1, x6.2.2.2.2.2.2.2)), p0.2.1, p0.2.2) else (ix (Ax p0.1 p1 (x2.1, x2.2.1, x2.2.2.1, x2.2.2.2.1, x2.2.2.2.2.1, x2.2.2.2.2.2.1, x2.2.2.2.2.2.2.1, p2.2.1)) p1).bind fun x7 => (if p2.1 = 3 then (ix (Ax (Ax p0.1 p1 (x2.1, x2.2.1, x2.2.2.1, x2.2.2.2.1, x2.2.2.2.2.1, x2.2.2.2.2.2.1, x2.2.2.2.2.2.2.1, p2.2.1)) p1 (x7.1, x7.2.1, x7.2.2.1, x7.2.2.2.1, x7.2.2.2.2.1, p2.1, x7.2.2.2.2.2.2.1, x7.2.2.2.2.2.2.2)) p1).bind fun x9 => some (Ax (Ax (Ax p0.1 p1 (x2.1, x2.2.1, x2.2.2.1, x2.2.2.2.1, x2.2.2.2.2.1, x2.2.2.2.2.2.1, x2.2.2.2.2.2.2.1, p2.2.1)) p1 (x7.1, x7.2.1, x7.2.2.1, x7.2.2.2.1, x7.2.2.2.2.1, p2.1, x7.2.2.2.2.2.2.1, x7.2.2.2.2.2.2.2)) p1 (x9.1, x9.2.1, x9.2.2.1, x9.2.2.2.1, x9.2.2.2.2.1, x9.2.2.2.2.2.1, p2.2.2.2.2.1, x9.2.2.2.2.2.2.2)) else some (Ax (Ax p0.1 p1 (x2.1, x2.2.1, x2.2.2.1, x2.2.2.2.1, x2.2.2.2.2.1, x2.2.2.2.2.2.1, x2.2.2.2.2.2.2.1, p2.2.1)) p1 (x7.1, x7.2.1, x7.2.2.1, x7.2.2.2.1, x7.2.2.2.2.1, p2.1, x7.2.2.2.2.2.2.1, x7.2.2.2.2.2.2.2))).bind fun x8 => (ix p0.2.2 p1).bind fun x10 => some (x8, CY p0.2.1 p2.2.2.1 x10, p0.2.2))
theorem Gq (Y : Nat → Prop) (X : List Nat) (w0 : World) (q_p0 : Nat) (v1 : Value) (m_v2 : Nat) (v3 : Value) (p0 : (List (Int × Int × Int × Int × (Nat × List Int) × Int × Int × Int)) × (List (Int × Int)) × List Int) (p1 : Int) (p2 : Int × Int × Int × Int × Int × Int) (d_v1 : {x : List (Int × Int × Int × Int × (Value × Nat × List Int) × Int × Int × Int) // x.map Cx = p0.1}) (r : ((List (Int × Int × Int × Int × (Nat × List Int) × Int × Int × Int)) × (List (Int × Int)) × List Int)) (H : B3 p0 p1 p2 = some r) (hL : Stw ⟨Y, X, w0⟩ [(q_p0, [v1, .map (some m_v2), v3])] [Bj v1 78 BO d_v1.1, row v3 3 (Rp.int .i64) p0.2.2, mp m_v2 Bw Bw p0.2.1] w0) :
    Calls Try.prog 53 #[.pointer (some ⟨q_p0, 0, none⟩), .int .i64 p1, .agg #[.int .i64 p2.1, .int .i64 p2.2.1, .int .i64 p2.2.2.1, .int .i64 p2.2.2.2.1, .int .i64 p2.2.2.2.2.1, .int .i64 p2.2.2.2.2.2]] w0 fun e w' => ∃ x : Value × ({x : List (Int × Int × Int × Int × (Value × Nat × List Int) × Int × Int × Int) // x.map Cx = r.1}) × Value, e = .returned (.tuple #[]) ∧ Stw ⟨Y, X, w0⟩ [(q_p0, [x.1, .map (some m_v2), x.2.2])] [Bj (x.1) 78 BO (x.2.1.1), row (x.2.2) 3 (Rp.int .i64) r.2.2, mp m_v2 Bw Bw r.2.1] w' := by
 refine enter Try.func53 Aa Try.ntmps53 Aa fun a W => ?_
 have F := hL
 unfold B3 at H
 refine Ai (Ac ?_)
 refine B9 (cs := [.int .i64 p2.1, .int .i64 p2.2.1, .int .i64 p2.2.2.1, .int .i64 p2.2.2.2.1, .int .i64 p2.2.2.2.2.1, .int .i64 p2.2.2.2.2.2]) W F Aa Aa Aa fun b1 a w W F => ?_
 refine Ad (Ab (Ai (Ac ?_)))
 refine ls W F Aa (Ae W Aa).q fun a w W F => ?_
 refine ls W F Aa (BX W Aa).q fun a w W F => ?_
 refine ls W F Aa (Ag HT Aa Aa Aa MT W Aa 0 Aa).q fun a w W F => ?_
 refine ls W F Aa (Al (v := v1) 1 W Aa Aa MT Aa).q fun a w W F => ?_
 refine ls W F Aa (Ae W Aa).q fun a w W F => ?_
 obtain ⟨x1, h1, H⟩ := Ao H
 obtain ⟨v4, h2, h3⟩ := DN (er := Cx) d_v1.2 h1
 refine ls W F Aa (AJ (r := BO.hr) OO W Aa Aa (LE.hd (JQ 0 Aa)) h2).q fun a w W F => ?_
 refine ls W F Aa (Ah W Aa).q fun a w W F => ?_
 refine Ad (Ab (Ai (Ac ?_)))
 refine ls W F Aa (Ae W Aa).q fun a w W F => ?_
 refine ls W F Aa (Ag DQ Aa Aa Aa T3 W Aa 1 Aa).q fun a w W F => ?_
 refine ls W F Aa (Al (v := Value.int .i64 p2.2.1) 0 W Aa Aa T3 Aa).q fun a w W F => ?_
 refine ls W F Aa (BX W Aa).q fun a w W F => ?_
 refine ls W F Aa (Ag Ew Aa Aa Aa T3 W Aa (EE v1 + (p1).toNat * 8 + 7) Aa).q fun a w W F => ?_
 obtain ⟨x2, h4, H⟩ := Ao H
 obtain ⟨v5, h5, h6⟩ := DN (er := Cx) d_v1.2 h4
 refine Gw (D := BO) (i := p1) (j := 7) (vs := [.int .i64 p2.2.1]) (x' := (v5.1, v5.2.1, v5.2.2.1, v5.2.2.2.1, v5.2.2.2.2.1, v5.2.2.2.2.2.1, v5.2.2.2.2.2.2.1, p2.2.1)) W F Aa Aa Aa h5 T3 Aa Aa Aa Aa Aa Aa fun w F => ?_
 have h7 : List.map Cx (Ax d_v1.1 p1 (v5.1, v5.2.1, v5.2.2.1, v5.2.2.2.1, v5.2.2.2.2.1, v5.2.2.2.2.2.1, v5.2.2.2.2.2.2.1, p2.2.1)) = (Ax p0.1 p1 (x2.1, x2.2.1, x2.2.2.1, x2.2.2.2.1, x2.2.2.2.2.1, x2.2.2.2.2.2.1, x2.2.2.2.2.2.2.1, p2.2.1)) := (IH d_v1.2 (congrArg (fun q : Int × Int × Int × Int × (Nat × List Int) × Int × Int × Int => (q.1, q.2.1, q.2.2.1, q.2.2.2.1, q.2.2.2.2.1, q.2.2.2.2.2.1, q.2.2.2.2.2.2.1, p2.2.1)) h6))
 have F : Stw ⟨Y, X, w0⟩ [(b1, [.int .i64 p2.1, .int .i64 p2.2.1, .int .i64 p2.2.2.1, .int .i64 p2.2.2.2.1, .int .i64 p2.2.2.2.2.1, .int .i64 p2.2.2.2.2.2]), (q_p0, [v1, .map (some m_v2), v3])] [Bj v1 78 BO (Ax d_v1.1 p1 (v5.1, v5.2.1, v5.2.2.1, v5.2.2.2.1, v5.2.2.2.2.1, v5.2.2.2.2.2.1, v5.2.2.2.2.2.2.1, p2.2.1)), row v3 3 (Rp.int .i64) p0.2.2, mp m_v2 Bw Bw p0.2.1] w := F
 refine Ad (Ab (Ai (Ai (Ac ?_))))
 refine ls W F Aa (Ag DQ Aa Aa Aa T3 W Aa 0 Aa).q fun a w W F => ?_
 refine ls W F Aa (Al (v := Value.int .i64 p2.1) 0 W Aa Aa T3 Aa).q fun a w W F => ?_
 refine ls W F Aa (BZ W Aa Aa).q fun a w W F => ?_
 refine Ad (Ab ?_)
 refine Ay W Aa (fun hb => ?_) fun hb => ?_
 ·
  have H := AN (Bf hb) H
  rw [hb] at W
  clear hb
  refine Ai ?_
  refine Gc [(true, 0), (true, 1), (true, 2), (true, 3), (true, 4), (true, 5), (true, 6), (false, 7), (false, 8), (true, 9), (true, 10), (false, 11)] (CN ⟨Y, X, w0⟩ [(some 7, b1, [.int .i64 p2.1, .int .i64 p2.2.1, .int .i64 p2.2.2.1, .int .i64 p2.2.2.2.1, .int .i64 p2.2.2.2.2.1, .int .i64 p2.2.2.2.2.2])] [(some 8, Bj v1 78 BO (Ax d_v1.1 p1 (v5.1, v5.2.1, v5.2.2.1, v5.2.2.2.1, v5.2.2.2.2.1, v5.2.2.2.2.2.1, v5.2.2.2.2.2.2.1, p2.2.1)))]) (fun ch a d v w h => by cases d <;> exact h) MO (by kernel_rfl) F (fun w F => ⟨_, _, F, (all_cons (fun _ => (.head _)) AX), (all_cons (fun _ => (.head _)) AX)⟩) fun w F => ?_
  iterate 2 refine Cd (R := []) W Aa Aa (yC fun M Z hN hZ => Ae W Aa) Aa Aa fun a W => ?_
  refine Cd (R := []) W Aa Aa (yC fun M Z hN hZ => BX W Aa) Aa Aa fun a W => ?_
  refine Cd (R := []) W Aa Aa (yC fun M Z hN hZ => Ag Ew Aa Aa Aa FZ W Aa (EE v1 + (p1).toNat * 8 + 4) Aa) Aa Aa fun a W => ?_
  obtain ⟨x3, h8, H⟩ := Ao H
  obtain ⟨v6, h9, h10⟩ := DN (er := Cx) h7 h8
  have h11 : BO.cells v6 = [.int .i64 x3.1, .int .i64 x3.2.1, .int .i64 x3.2.2.1, .int .i64 x3.2.2.2.1, (v6.2.2.2.2.1.1), .int .i64 x3.2.2.2.2.2.1, .int .i64 x3.2.2.2.2.2.2.1, .int .i64 x3.2.2.2.2.2.2.2] := congrArg (fun q : Int × Int × Int × Int × (Nat × List Int) × Int × Int × Int => ([.int .i64 q.1, .int .i64 q.2.1, .int .i64 q.2.2.1, .int .i64 q.2.2.2.1, (v6.2.2.2.2.1.1), .int .i64 q.2.2.2.2.2.1, .int .i64 q.2.2.2.2.2.2.1, .int .i64 q.2.2.2.2.2.2.2] : List Value)) h10
  refine Cd (R := [8]) W Aa Aa (yC fun M Z hN hZ => Az (y := (v6.2.2.2.2.1.1)) (j := 4) (i := p1) (enc := BO.cells) W Aa Aa (LE.hd (Ov (hZ ((some 8), Bj v1 78 BO (Ax d_v1.1 p1 (v5.1, v5.2.1, v5.2.2.1, v5.2.2.2.1, v5.2.2.2.2.1, v5.2.2.2.2.2.1, v5.2.2.2.2.2.2.1, p2.2.1))) (.head _) Aa))) h9 BO.flat FZ (by rw [h11]; rfl)) (by kernel_rfl) Aa fun a W => ?_
  refine Cd (R := []) W Aa Aa (yC fun M Z hN hZ => Ag DQ Aa Aa Aa T3 W Aa 3 Aa) Aa Aa fun a W => ?_
  refine Cd (R := [7]) W Aa Aa (yC fun M Z hN hZ => CK (cs := [.int .i64 p2.1, .int .i64 p2.2.1, .int .i64 p2.2.2.1, .int .i64 p2.2.2.2.1, .int .i64 p2.2.2.2.2.1, .int .i64 p2.2.2.2.2.2]) (v := Value.int .i64 p2.2.2.2.1) W Aa (hN ((some 7), b1, [.int .i64 p2.1, .int .i64 p2.2.1, .int .i64 p2.2.2.1, .int .i64 p2.2.2.2.1, .int .i64 p2.2.2.2.2.1, .int .i64 p2.2.2.2.2.2]) (.head _) Aa) T3 Aa) (by kernel_rfl) Aa fun a W => ?_
  refine FN Aa ?_
  refine C1 (z := Value.int .i64 0) (cs := [.int .i64 p2.2.2.2.1]) (Rp.int .i64) ([p2.2.2.2.1] : List Int) W F Aa HV Z3 Aa Aa Aa Aa Aa Aa (Fl.int.repL _ _ ([p2.2.2.2.1] : List Int)) fun v7 a w W F => ?_
  refine Ct (N2 := []) (NZ2 := []) (N3 := [(some 7, b1, [.int .i64 p2.1, .int .i64 p2.2.1, .int .i64 p2.2.2.1, .int .i64 p2.2.2.2.1, .int .i64 p2.2.2.2.2.1, .int .i64 p2.2.2.2.2.2])]) (NZ3 := [(some 8, Bj v1 78 BO (Ax d_v1.1 p1 (v5.1, v5.2.1, v5.2.2.1, v5.2.2.2.1, v5.2.2.2.2.1, v5.2.2.2.2.2.1, v5.2.2.2.2.2.2.1, p2.2.1)))]) F Aa Aa (all_cons (fun h => A6 (by kernel_rfl) h) AX) (all_cons (fun _ => (.tail _ (.head _))) AX) ?_
  refine FN Aa ?_
  obtain ⟨x4, h12, H⟩ := Ao H
  have F := F.frontZ (i := 1) Aa Aa
  have F := F.dTakeR h9 (Foc.snd (Foc.snd (Foc.snd (Foc.snd (Foc.fst Foc.here))))) ((congrArg (fun q : Int × Int × Int × Int × (Nat × List Int) × Int × Int × Int => q.2.2.2.2.1) h10).trans (Prod.ext (Nw h12) Aa))
  have h13 : List.map Cx (Ax (Ax d_v1.1 p1 (v5.1, v5.2.1, v5.2.2.1, v5.2.2.2.1, v5.2.2.2.2.1, v5.2.2.2.2.2.1, v5.2.2.2.2.2.2.1, p2.2.1)) p1 (v6.1, v6.2.1, v6.2.2.1, v6.2.2.2.1, ((v6.2.2.2.2.1.1), 0, []), v6.2.2.2.2.2.1, v6.2.2.2.2.2.2.1, v6.2.2.2.2.2.2.2)) = (Ax (Ax p0.1 p1 (x2.1, x2.2.1, x2.2.2.1, x2.2.2.2.1, x2.2.2.2.2.1, x2.2.2.2.2.2.1, x2.2.2.2.2.2.2.1, p2.2.1)) p1 (x3.1, x3.2.1, x3.2.2.1, x3.2.2.2.1, (0, []), x3.2.2.2.2.2.1, x3.2.2.2.2.2.2.1, x3.2.2.2.2.2.2.2)) := (IH h7 (congrArg (fun q : Int × Int × Int × Int × (Nat × List Int) × Int × Int × Int => (q.1, q.2.1, q.2.2.1, q.2.2.2.1, (0, []), q.2.2.2.2.2.1, q.2.2.2.2.2.2.1, q.2.2.2.2.2.2.2)) h10))
  have F : Stw ⟨Y, X, w0⟩ [(b1, [.int .i64 p2.1, .int .i64 p2.2.1, .int .i64 p2.2.2.1, .int .i64 p2.2.2.2.1, .int .i64 p2.2.2.2.2.1, .int .i64 p2.2.2.2.2.2]), (q_p0, [v1, .map (some m_v2), v3])] [row (v6.2.2.2.2.1.1) 3 (Rp.int .i64) x3.2.2.2.2.1.2, Bj v1 78 BO (Ax (Ax d_v1.1 p1 (v5.1, v5.2.1, v5.2.2.1, v5.2.2.2.1, v5.2.2.2.2.1, v5.2.2.2.2.2.1, v5.2.2.2.2.2.2.1, p2.2.1)) p1 (v6.1, v6.2.1, v6.2.2.1, v6.2.2.2.1, ((v6.2.2.2.2.1.1), 0, []), v6.2.2.2.2.2.1, v6.2.2.2.2.2.2.1, v6.2.2.2.2.2.2.2)), row v7 3 (Rp.int .i64) ([p2.2.2.2.1] : List Int), row v3 3 (Rp.int .i64) p0.2.2, mp m_v2 Bw Bw p0.2.1] w := F
  obtain ⟨x5, h14, H⟩ := Ao H
  refine Cz (r := (Rp.int .i64)) (i := 0) W F Aa HV Aa Aa Aa Aa (C7 F 2 Aa) h14 Aa fun v8 a w W F => ?_
  have F : Stw ⟨Y, X, w0⟩ [(b1, [.int .i64 p2.1, .int .i64 p2.2.1, .int .i64 p2.2.2.1, .int .i64 p2.2.2.2.1, .int .i64 p2.2.2.2.2.1, .int .i64 p2.2.2.2.2.2]), (q_p0, [v1, .map (some m_v2), v3])] [row v8 3 (Rp.int .i64) x5, Bj v1 78 BO (Ax (Ax d_v1.1 p1 (v5.1, v5.2.1, v5.2.2.1, v5.2.2.2.1, v5.2.2.2.2.1, v5.2.2.2.2.2.1, v5.2.2.2.2.2.2.1, p2.2.1)) p1 (v6.1, v6.2.1, v6.2.2.1, v6.2.2.2.1, ((v6.2.2.2.2.1.1), 0, []), v6.2.2.2.2.2.1, v6.2.2.2.2.2.2.1, v6.2.2.2.2.2.2.2)), row v7 3 (Rp.int .i64) ([p2.2.2.2.1] : List Int), row v3 3 (Rp.int .i64) p0.2.2, mp m_v2 Bw Bw p0.2.1] w := F
  refine Ct (N2 := []) (NZ2 := []) (N3 := [(some 7, b1, [.int .i64 p2.1, .int .i64 p2.2.1, .int .i64 p2.2.2.1, .int .i64 p2.2.2.2.1, .int .i64 p2.2.2.2.2.1, .int .i64 p2.2.2.2.2.2])]) (NZ3 := [(some 8, Bj v1 78 BO (Ax d_v1.1 p1 (v5.1, v5.2.1, v5.2.2.1, v5.2.2.2.1, v5.2.2.2.2.1, v5.2.2.2.2.2.1, v5.2.2.2.2.2.2.1, p2.2.1)))]) F Aa Aa (all_cons (fun h => A6 (by kernel_rfl) h) AX) (all_cons (fun h => A6 (by kernel_rfl) h) AX) ?_
  refine Cd (R := []) W Aa Aa (yC fun M Z hN hZ => BX W Aa) Aa Aa fun a W => ?_
  refine Cd (R := []) W Aa Aa (yC fun M Z hN hZ => Ag Ew Aa Aa Aa FZ W Aa (EE v1 + (p1).toNat * 8 + 4) Aa) Aa Aa fun a W => ?_
  refine FN Aa ?_
  obtain ⟨x6, h15, H⟩ := Ao H
  obtain ⟨v9, h16, h17⟩ := DN (er := Cx) h13 h15
  have h18 : Value.oneCell' v8 = true := (F.one (k := 0) Aa)
  have F := F.frontZ (i := 1) Aa Aa
  have F := F.frontZ (i := 1) Aa Aa
  have F := F.toR
  refine Kt (D := BO) (S := (Dp.sl 3 (Rp.int .i64))) (b := (v8, 2, x5)) (i := p1) (j := 4) (Foc.snd (Foc.snd (Foc.snd (Foc.snd (Foc.fst Foc.here))))) W F Aa Aa Aa h16 FZ (CG h18) Aa h18 Aa fun w F => ?_
  have h19 : List.map Cx (Ax (Ax (Ax d_v1.1 p1 (v5.1, v5.2.1, v5.2.2.1, v5.2.2.2.1, v5.2.2.2.2.1, v5.2.2.2.2.2.1, v5.2.2.2.2.2.2.1, p2.2.1)) p1 (v6.1, v6.2.1, v6.2.2.1, v6.2.2.2.1, ((v6.2.2.2.2.1.1), 0, []), v6.2.2.2.2.2.1, v6.2.2.2.2.2.2.1, v6.2.2.2.2.2.2.2)) p1 (v9.1, v9.2.1, v9.2.2.1, v9.2.2.2.1, (v8, 2, x5), v9.2.2.2.2.2.1, v9.2.2.2.2.2.2.1, v9.2.2.2.2.2.2.2)) = (Ax (Ax (Ax p0.1 p1 (x2.1, x2.2.1, x2.2.2.1, x2.2.2.2.1, x2.2.2.2.2.1, x2.2.2.2.2.2.1, x2.2.2.2.2.2.2.1, p2.2.1)) p1 (x3.1, x3.2.1, x3.2.2.1, x3.2.2.2.1, (0, []), x3.2.2.2.2.2.1, x3.2.2.2.2.2.2.1, x3.2.2.2.2.2.2.2)) p1 (x6.1, x6.2.1, x6.2.2.1, x6.2.2.2.1, (2, x5), x6.2.2.2.2.2.1, x6.2.2.2.2.2.2.1, x6.2.2.2.2.2.2.2)) := (IH h13 (congrArg (fun q : Int × Int × Int × Int × (Nat × List Int) × Int × Int × Int => (q.1, q.2.1, q.2.2.1, q.2.2.2.1, (2, x5), q.2.2.2.2.2.1, q.2.2.2.2.2.2.1, q.2.2.2.2.2.2.2)) h17))
  have F : Stw ⟨Y, X, w0⟩ [(b1, [.int .i64 p2.1, .int .i64 p2.2.1, .int .i64 p2.2.2.1, .int .i64 p2.2.2.2.1, .int .i64 p2.2.2.2.2.1, .int .i64 p2.2.2.2.2.2]), (q_p0, [v1, .map (some m_v2), v3])] [Bj v1 78 BO (Ax (Ax (Ax d_v1.1 p1 (v5.1, v5.2.1, v5.2.2.1, v5.2.2.2.1, v5.2.2.2.2.1, v5.2.2.2.2.2.1, v5.2.2.2.2.2.2.1, p2.2.1)) p1 (v6.1, v6.2.1, v6.2.2.1, v6.2.2.2.1, ((v6.2.2.2.2.1.1), 0, []), v6.2.2.2.2.2.1, v6.2.2.2.2.2.2.1, v6.2.2.2.2.2.2.2)) p1 (v9.1, v9.2.1, v9.2.2.1, v9.2.2.2.1, (v8, 2, x5), v9.2.2.2.2.2.1, v9.2.2.2.2.2.2.1, v9.2.2.2.2.2.2.2)), row v7 3 (Rp.int .i64) ([p2.2.2.2.1] : List Int), row v3 3 (Rp.int .i64) p0.2.2, mp m_v2 Bw Bw p0.2.1] w := F
  refine Ct (N2 := []) (NZ2 := []) (N3 := [(some 7, b1, [.int .i64 p2.1, .int .i64 p2.2.1, .int .i64 p2.2.2.1, .int .i64 p2.2.2.2.1, .int .i64 p2.2.2.2.2.1, .int .i64 p2.2.2.2.2.2])]) (NZ3 := [(some 8, Bj v1 78 BO (Ax d_v1.1 p1 (v5.1, v5.2.1, v5.2.2.1, v5.2.2.2.1, v5.2.2.2.2.1, v5.2.2.2.2.2.1, v5.2.2.2.2.2.2.1, p2.2.1)))]) F Aa Aa (all_cons (fun h => A6 (by kernel_rfl) h) AX) (all_cons (fun h => A6 (by kernel_rfl) h) AX) ?_
  refine Hh (Ab (AA (AD ?_)))
  have H := AW H
  subst H
  refine FV (.inl Aa) W Aa ?_
  have F := F.frontZ (i := 3) Aa Aa
  have F := F.frontZ (i := 3) Aa Aa
  have F := F.frontZ (i := 2) Aa Aa
  have F := F.frontM (i := 1) Aa Aa
  have F := F.sub (M' := [(q_p0, [v1, .map (some m_v2), v3])]) (Z' := [Bj v1 78 BO (Ax (Ax (Ax d_v1.1 p1 (v5.1, v5.2.1, v5.2.2.1, v5.2.2.2.1, v5.2.2.2.2.1, v5.2.2.2.2.2.1, v5.2.2.2.2.2.2.1, p2.2.1)) p1 (v6.1, v6.2.1, v6.2.2.1, v6.2.2.2.1, ((v6.2.2.2.2.1.1), 0, []), v6.2.2.2.2.2.1, v6.2.2.2.2.2.2.1, v6.2.2.2.2.2.2.2)) p1 (v9.1, v9.2.1, v9.2.2.1, v9.2.2.2.1, (v8, 2, x5), v9.2.2.2.2.2.1, v9.2.2.2.2.2.2.1, v9.2.2.2.2.2.2.2)), row v3 3 (Rp.int .i64) p0.2.2, mp m_v2 Bw Bw p0.2.1]) (List.Sublist.cons_cons _ (List.nil_sublist _)) (List.Sublist.cons_cons _ (List.Sublist.cons_cons _ (List.Sublist.cons_cons _ (List.nil_sublist _))))
  exact ⟨((v1), ⟨(Ax (Ax (Ax d_v1.1 p1 (v5.1, v5.2.1, v5.2.2.1, v5.2.2.2.1, v5.2.2.2.2.1, v5.2.2.2.2.2.1, v5.2.2.2.2.2.2.1, p2.2.1)) p1 (v6.1, v6.2.1, v6.2.2.1, v6.2.2.2.1, ((v6.2.2.2.2.1.1), 0, []), v6.2.2.2.2.2.1, v6.2.2.2.2.2.2.1, v6.2.2.2.2.2.2.2)) p1 (v9.1, v9.2.1, v9.2.2.1, v9.2.2.2.1, (v8, 2, x5), v9.2.2.2.2.2.1, v9.2.2.2.2.2.2.1, v9.2.2.2.2.2.2.2)), h19⟩, (v3)), Aa, F⟩
 have H := AM (Bg hb) H
 rw [hb] at W
 clear hb
 refine Aq (Ab (Ai (Ac ?_)))
 refine ls W F Aa (Ae W Aa).q fun a w W F => ?_
 refine ls W F Aa (Ag DQ Aa Aa Aa T3 W Aa 0 Aa).q fun a w W F => ?_
 refine ls W F Aa (Al (v := Value.int .i64 p2.1) 0 W Aa Aa T3 Aa).q fun a w W F => ?_
 refine ls W F Aa (BX W Aa).q fun a w W F => ?_
 refine ls W F Aa (Ag Ew Aa Aa Aa T3 W Aa (EE v1 + (p1).toNat * 8 + 5) Aa).q fun a w W F => ?_
 obtain ⟨x7, h20, H⟩ := Ao H
 obtain ⟨v10, h21, h22⟩ := DN (er := Cx) h7 h20
 refine Gw (D := BO) (i := p1) (j := 5) (vs := [.int .i64 p2.1]) (x' := (v10.1, v10.2.1, v10.2.2.1, v10.2.2.2.1, v10.2.2.2.2.1, p2.1, v10.2.2.2.2.2.2.1, v10.2.2.2.2.2.2.2)) W F Aa Aa Aa h21 T3 Aa Aa Aa Aa Aa Aa fun w F => ?_
 have h23 : List.map Cx (Ax (Ax d_v1.1 p1 (v5.1, v5.2.1, v5.2.2.1, v5.2.2.2.1, v5.2.2.2.2.1, v5.2.2.2.2.2.1, v5.2.2.2.2.2.2.1, p2.2.1)) p1 (v10.1, v10.2.1, v10.2.2.1, v10.2.2.2.1, v10.2.2.2.2.1, p2.1, v10.2.2.2.2.2.2.1, v10.2.2.2.2.2.2.2)) = (Ax (Ax p0.1 p1 (x2.1, x2.2.1, x2.2.2.1, x2.2.2.2.1, x2.2.2.2.2.1, x2.2.2.2.2.2.1, x2.2.2.2.2.2.2.1, p2.2.1)) p1 (x7.1, x7.2.1, x7.2.2.1, x7.2.2.2.1, x7.2.2.2.2.1, p2.1, x7.2.2.2.2.2.2.1, x7.2.2.2.2.2.2.2)) := (IH h7 (congrArg (fun q : Int × Int × Int × Int × (Nat × List Int) × Int × Int × Int => (q.1, q.2.1, q.2.2.1, q.2.2.2.1, q.2.2.2.2.1, p2.1, q.2.2.2.2.2.2.1, q.2.2.2.2.2.2.2)) h22))
 have F : Stw ⟨Y, X, w0⟩ [(b1, [.int .i64 p2.1, .int .i64 p2.2.1, .int .i64 p2.2.2.1, .int .i64 p2.2.2.2.1, .int .i64 p2.2.2.2.2.1, .int .i64 p2.2.2.2.2.2]), (q_p0, [v1, .map (some m_v2), v3])] [Bj v1 78 BO (Ax (Ax d_v1.1 p1 (v5.1, v5.2.1, v5.2.2.1, v5.2.2.2.1, v5.2.2.2.2.1, v5.2.2.2.2.2.1, v5.2.2.2.2.2.2.1, p2.2.1)) p1 (v10.1, v10.2.1, v10.2.2.1, v10.2.2.2.1, v10.2.2.2.2.1, p2.1, v10.2.2.2.2.2.2.1, v10.2.2.2.2.2.2.2)), row v3 3 (Rp.int .i64) p0.2.2, mp m_v2 Bw Bw p0.2.1] w := F
 refine Ad (Ab ?_)
 obtain ⟨o1, G1, K1⟩ := Ao H
 refine AH (fun a w => ∃ x8 : List (Int × Int × Int × Int × (Nat × List Int) × Int × Int × Int), ∃ g_x8 : {x : List (Int × Int × Int × Int × (Value × Nat × List Int) × Int × Int × Int) // x.map Cx = x8}, some (x8) = some o1 ∧ Fr 58 [] [(0, .pointer (some ⟨q_p0, 0, none⟩)), (1, .int .i64 p1), (5, .pointer (some ⟨b1, 0, none⟩))] a ∧ Stw ⟨Y, X, w0⟩ [(b1, [.int .i64 p2.1, .int .i64 p2.2.1, .int .i64 p2.2.2.1, .int .i64 p2.2.2.2.1, .int .i64 p2.2.2.2.2.1, .int .i64 p2.2.2.2.2.2]), (q_p0, [v1, .map (some m_v2), v3])] [Bj v1 78 BO g_x8.1, row v3 3 (Rp.int .i64) p0.2.2, mp m_v2 Bw Bw p0.2.1] w) ?_ ?_
 ·
  have H := G1
  clear G1 K1
  refine Ai (Ac ?_)
  refine ls W F Aa (Ag DQ Aa Aa Aa T3 W Aa 0 Aa).q fun a w W F => ?_
  refine ls W F Aa (Al (v := Value.int .i64 p2.1) 0 W Aa Aa T3 Aa).q fun a w W F => ?_
  refine ls W F Aa (BZ W Aa Aa).q fun a w W F => ?_
  refine Ad (Ab ?_)
  refine Ay W Aa (fun hb => ?_) fun hb => ?_
  ·
   have H := AN (Bf hb) H
   rw [hb] at W
   clear hb
   refine Ac ?_
   refine ls W F Aa (Ae W Aa).q fun a w W F => ?_
   refine ls W F Aa (Ag DQ Aa Aa Aa T3 W Aa 4 Aa).q fun a w W F => ?_
   refine ls W F Aa (Al (v := Value.int .i64 p2.2.2.2.2.1) 0 W Aa Aa T3 Aa).q fun a w W F => ?_
   refine ls W F Aa (BX W Aa).q fun a w W F => ?_
   refine ls W F Aa (Ag Ew Aa Aa Aa T3 W Aa (EE v1 + (p1).toNat * 8 + 6) Aa).q fun a w W F => ?_
   obtain ⟨x9, h24, H⟩ := Ao H
   obtain ⟨v11, h25, h26⟩ := DN (er := Cx) h23 h24
   refine Gw (D := BO) (i := p1) (j := 6) (vs := [.int .i64 p2.2.2.2.2.1]) (x' := (v11.1, v11.2.1, v11.2.2.1, v11.2.2.2.1, v11.2.2.2.2.1, v11.2.2.2.2.2.1, p2.2.2.2.2.1, v11.2.2.2.2.2.2.2)) W F Aa Aa Aa h25 T3 Aa Aa Aa Aa Aa Aa fun w F => ?_
   have h27 : List.map Cx (Ax (Ax (Ax d_v1.1 p1 (v5.1, v5.2.1, v5.2.2.1, v5.2.2.2.1, v5.2.2.2.2.1, v5.2.2.2.2.2.1, v5.2.2.2.2.2.2.1, p2.2.1)) p1 (v10.1, v10.2.1, v10.2.2.1, v10.2.2.2.1, v10.2.2.2.2.1, p2.1, v10.2.2.2.2.2.2.1, v10.2.2.2.2.2.2.2)) p1 (v11.1, v11.2.1, v11.2.2.1, v11.2.2.2.1, v11.2.2.2.2.1, v11.2.2.2.2.2.1, p2.2.2.2.2.1, v11.2.2.2.2.2.2.2)) = (Ax (Ax (Ax p0.1 p1 (x2.1, x2.2.1, x2.2.2.1, x2.2.2.2.1, x2.2.2.2.2.1, x2.2.2.2.2.2.1, x2.2.2.2.2.2.2.1, p2.2.1)) p1 (x7.1, x7.2.1, x7.2.2.1, x7.2.2.2.1, x7.2.2.2.2.1, p2.1, x7.2.2.2.2.2.2.1, x7.2.2.2.2.2.2.2)) p1 (x9.1, x9.2.1, x9.2.2.1, x9.2.2.2.1, x9.2.2.2.2.1, x9.2.2.2.2.2.1, p2.2.2.2.2.1, x9.2.2.2.2.2.2.2)) := (IH h23 (congrArg (fun q : Int × Int × Int × Int × (Nat × List Int) × Int × Int × Int => (q.1, q.2.1, q.2.2.1, q.2.2.2.1, q.2.2.2.2.1, q.2.2.2.2.2.1, p2.2.2.2.2.1, q.2.2.2.2.2.2.2)) h26))
   have F : Stw ⟨Y, X, w0⟩ [(b1, [.int .i64 p2.1, .int .i64 p2.2.1, .int .i64 p2.2.2.1, .int .i64 p2.2.2.2.1, .int .i64 p2.2.2.2.2.1, .int .i64 p2.2.2.2.2.2]), (q_p0, [v1, .map (some m_v2), v3])] [Bj v1 78 BO (Ax (Ax (Ax d_v1.1 p1 (v5.1, v5.2.1, v5.2.2.1, v5.2.2.2.1, v5.2.2.2.2.1, v5.2.2.2.2.2.1, v5.2.2.2.2.2.2.1, p2.2.1)) p1 (v10.1, v10.2.1, v10.2.2.1, v10.2.2.2.1, v10.2.2.2.2.1, p2.1, v10.2.2.2.2.2.2.1, v10.2.2.2.2.2.2.2)) p1 (v11.1, v11.2.1, v11.2.2.1, v11.2.2.2.1, v11.2.2.2.2.1, v11.2.2.2.2.2.1, p2.2.2.2.2.1, v11.2.2.2.2.2.2.2)), row v3 3 (Rp.int .i64) p0.2.2, mp m_v2 Bw Bw p0.2.1] w := F
   refine Ad (Ab ?_)
   have F := F.frontZ (i := 2) Aa Aa
   have F := F.frontZ (i := 2) Aa Aa
   have F := F.frontZ (i := 2) Aa Aa
   have F := F.frontM (i := 1) Aa Aa
   have F := F.frontM (i := 1) Aa Aa
   exact ⟨_, ⟨(Ax (Ax (Ax d_v1.1 p1 (v5.1, v5.2.1, v5.2.2.1, v5.2.2.2.1, v5.2.2.2.2.1, v5.2.2.2.2.2.1, v5.2.2.2.2.2.2.1, p2.2.1)) p1 (v10.1, v10.2.1, v10.2.2.1, v10.2.2.2.1, v10.2.2.2.2.1, p2.1, v10.2.2.2.2.2.2.1, v10.2.2.2.2.2.2.2)) p1 (v11.1, v11.2.1, v11.2.2.1, v11.2.2.2.1, v11.2.2.2.2.1, v11.2.2.2.2.2.1, p2.2.2.2.2.1, v11.2.2.2.2.2.2.2)), h27⟩, H, W.re ⟨rfl, Aa, Aa, trivial⟩, F⟩
  have H := AM (Bg hb) H
  rw [hb] at W
  clear hb
  refine Aq (Ab ?_)
  have F := F.frontZ (i := 2) Aa Aa
  have F := F.frontZ (i := 2) Aa Aa
  have F := F.frontZ (i := 2) Aa Aa
  have F := F.frontM (i := 1) Aa Aa
  have F := F.frontM (i := 1) Aa Aa
  exact ⟨_, ⟨(Ax (Ax d_v1.1 p1 (v5.1, v5.2.1, v5.2.2.1, v5.2.2.2.1, v5.2.2.2.2.1, v5.2.2.2.2.2.1, v5.2.2.2.2.2.2.1, p2.2.1)) p1 (v10.1, v10.2.1, v10.2.2.1, v10.2.2.2.1, v10.2.2.2.2.1, p2.1, v10.2.2.2.2.2.2.1, v10.2.2.2.2.2.2.2)), h23⟩, H, W.re ⟨rfl, Aa, Aa, trivial⟩, F⟩
 rintro a w ⟨x8, g_x8, hj, W, F⟩
 have hj := AW hj
 subst hj
 have H := K1
 clear G1 K1
 refine Im 13 F MO (by kernel_rfl) ?_
 refine qs W Aa (Ae W Aa).q fun a W => ?_
 refine qs W Aa (BX W Aa).q fun a W => ?_
 refine qs W Aa (Ag HT Aa Aa Aa Na W Aa 1 Aa).q fun a W => ?_
 refine qs W Aa (Al (v := Value.map (some m_v2)) 1 W Aa Aa Na Aa).q fun a W => ?_
 refine qs W Aa (Ag DQ Aa Aa Aa T3 W Aa 2 Aa).q fun a W => ?_
 refine qs W Aa (Al (v := Value.int .i64 p2.2.2.1) 0 W Aa Aa T3 Aa).q fun a W => ?_
 refine qs W Aa (Ae W Aa).q fun a W => ?_
 refine qs W Aa (BX W Aa).q fun a W => ?_
 refine qs W Aa (Ag HT Aa Aa Aa FZ W Aa 2 Aa).q fun a W => ?_
 refine qs W Aa (Al (v := v3) 1 W Aa Aa FZ Aa).q fun a W => ?_
 refine qs W Aa (Ae W Aa).q fun a W => ?_
 obtain ⟨x10, h28, H⟩ := Ao H
 refine qs W Aa (AJ (r := (Rp.int .i64)) HV W Aa Aa (AP 1 Aa) h28).q fun a W => ?_
 refine qs W Aa (Az (y := Value.int .i64 x10) (j := 0) (i := p1) W Aa Aa (AP 1 Aa) h28 Fl.int.to T3 Aa).q fun a W => ?_
 refine BK fun w F => ?_
 refine F3 (q := 2) (kx := (p2.2.2.1 : Int)) (vx := (x10 : Int)) (E := Bw) (V := Bw) W F Aa Aa Aa Aa Aa Oi LX fun w F => ?_
 have F : Stw ⟨Y, X, w0⟩ [(b1, [.int .i64 p2.1, .int .i64 p2.2.1, .int .i64 p2.2.2.1, .int .i64 p2.2.2.2.1, .int .i64 p2.2.2.2.2.1, .int .i64 p2.2.2.2.2.2]), (q_p0, [v1, .map (some m_v2), v3])] [mp m_v2 Bw Bw (CY p0.2.1 p2.2.2.1 x10), Bj v1 78 BO g_x8.1, row v3 3 (Rp.int .i64) p0.2.2] w := F
 refine Ad ?_
 have H := AW H
 subst H
 refine FV (.inr Aa) W Aa ?_
 have F := F.frontZ (i := 2) Aa Aa
 have F := F.frontZ (i := 2) Aa Aa
 have F := F.frontM (i := 1) Aa Aa
 have F := F.sub (M' := [(q_p0, [v1, .map (some m_v2), v3])]) (Z' := [Bj v1 78 BO g_x8.1, row v3 3 (Rp.int .i64) p0.2.2, mp m_v2 Bw Bw (CY p0.2.1 p2.2.2.1 x10)]) (List.Sublist.cons_cons _ (List.nil_sublist _)) (List.Sublist.refl _)
 exact ⟨((v1), ⟨g_x8.1, g_x8.2⟩, (v3)), Aa, F⟩
end Go.Proofs.Ytflaelbmglmmcaa
