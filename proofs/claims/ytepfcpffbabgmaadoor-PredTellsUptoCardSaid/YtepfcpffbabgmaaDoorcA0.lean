/- The functions of layer 26, Gx. Conditions: none. -/
import Derived.Test.YtepfcpffbabgmaaDoorRows
import Derived.Test.YtepfcpffbabgmaaDoorcOT
import Derived.Test.YtepfcpffbabgmaaDoorcQT
import Derived.Test.YtepfcpffbabgmaaDoorcOD
import Derived.Test.YtepfcpffbabgmaaDoorcTR
import Derived.Test.YtepfcpffbabgmaaDoorcOG
import Derived.Test.YtepfcpffbabgmaaDoorcOC
import Derived.Test.YtepfcpffbabgmaaDoorcOX
namespace Go.Proofs.YtepfcpffbabgmaaDoor
open Go Go.RowKit
set_option linter.unusedVariables false
set_option linter.unusedSimpArgs false
set_option maxRecDepth 20000
theorem ID : type_of% Tryd.underlying22 := Tryd.underlying22
theorem BZ : type_of% Tryd.underlying24 := Tryd.underlying24
theorem GA : type_of% Tryd.underlying29 := Tryd.underlying29
theorem CM : type_of% Tryd.underlying31 := Tryd.underlying31
inductive Tr24 : Type where
  | mk : Int → Int → Int → (List Tr24) → Tr24
def Tr24.un : Tr24 → Int × Int × Int × List Tr24
  | .mk a0 a1 a2 a3 => (a0, a1, a2, a3)
abbrev Tr24.of (p : Int × Int × Int × List Tr24) : Tr24 := .mk p.1 p.2.1 p.2.2.1 p.2.2.2
def Tr24.cnt : Tr24 → Nat
  | .mk _ _ _ a3 => 1 + ((a3.map Tr24.cnt).sum)
abbrev Rs (r : Rp Tr24) : Rp (Int × Int × Int × List Tr24) := (Rp.pair (Rp.int .i64) (Rp.pair (Rp.int .i64) (Rp.pair (Rp.int .i64) (Rp.slice r))))
theorem QR : Kt Rs := (Kt.pair (Kt.const _) (Kt.pair (Kt.const _) (Kt.pair (Kt.const _) Kt.hole)))
abbrev CJ : Rp Tr24 := Rp.knot Rs Tr24.un QR
theorem Pc {w : World} {A : Nat → Prop} {cs : List Value} {a : Tr24} : CJ.rep w A cs a ↔ (Rs CJ).rep w A cs a.un := HI QR
abbrev Gd : Rp (Int × Int × Int × (Value × List Tr24)) := (Rp.pair (Rp.int .i64) (Rp.pair (Rp.int .i64) (Rp.pair (Rp.int .i64) (Rp.vsl CJ))))
abbrev Sa (p : Int × Int × Int × (Value × List Tr24)) : Tr24 := (Tr24.of (p.1, p.2.1, p.2.2.1, p.2.2.2.2))
theorem C7 : Ex CJ Gd Sa := (Ex.knot QR (of := Tr24.of) (fun _ => rfl) (fun x => by cases x; rfl) (Ex.pair Ex.rfl' (Ex.pair Ex.rfl' (Ex.pair Ex.rfl' Ex.sliceF))))
theorem FC : Ty Tryd.prog 24 true 4 := ⟨by kernel_rfl, by kernel_rfl⟩
theorem KD : (Tryd.prog.info? 31).bind (·.zero) = some (.agg #[.int .i64 0, .int .i64 0, .int .i64 0, .slice none 0 0]) := by kernel_rfl
theorem T3 : Ty Tryd.prog 3 false 1 := ⟨by kernel_rfl, by kernel_rfl⟩
theorem Qs : Bt Tryd.prog 31 [.int .i64 0, .int .i64 0, .int .i64 0, .slice none 0 0] [(0, 1), (1, 1), (2, 1), (3, 1)] := ⟨⟨.agg #[.int .i64 0, .int .i64 0, .int .i64 0, .slice none 0 0], by kernel_rfl, rfl⟩, ⟨_, CM, fun w => by kernel_rfl⟩⟩
theorem EA : Ty Tryd.prog 31 true 4 := ⟨by kernel_rfl, by kernel_rfl⟩
theorem ER : Ty Tryd.prog 22 false 1 := ⟨by kernel_rfl, by kernel_rfl⟩
theorem MO : Tryd.prog.follows .mixedOrders = true := by kernel_rfl
theorem Fp : Ty Tryd.prog 29 false 1 := ⟨by kernel_rfl, by kernel_rfl⟩
abbrev E5 (a : Int × Int × Int × (Value × List Tr24)) : List Value := [.int .i64 a.1, .int .i64 a.2.1, .int .i64 a.2.2.1, a.2.2.2.1]
theorem Id : Hu Gd E5 := (Hu.pair Fl.int.to (Hu.pair Fl.int.to (Hu.pair Fl.int.to Hu.vsl)))
theorem KF : Et Tryd.prog 22 24 4 48 := Et.of ID (by kernel_rfl) (by kernel_rfl) (by kernel_rfl) (by decide)
inductive Tr31 : Type where
  | mk : Int → Int → Int → (List Tr31) → Tr31
def Tr31.un : Tr31 → Int × Int × Int × List Tr31
  | .mk a0 a1 a2 a3 => (a0, a1, a2, a3)
abbrev Tr31.of (p : Int × Int × Int × List Tr31) : Tr31 := .mk p.1 p.2.1 p.2.2.1 p.2.2.2
def Tr31.cnt : Tr31 → Nat
  | .mk _ _ _ a3 => 1 + ((a3.map Tr31.cnt).sum)
abbrev Rw (r : Rp Tr31) : Rp (Int × Int × Int × List Tr31) := (Rp.pair (Rp.int .i64) (Rp.pair (Rp.int .i64) (Rp.pair (Rp.int .i64) (Rp.slice r))))
theorem Rd : Kt Rw := (Kt.pair (Kt.const _) (Kt.pair (Kt.const _) (Kt.pair (Kt.const _) Kt.hole)))
abbrev BJ : Rp Tr31 := Rp.knot Rw Tr31.un Rd
theorem N4 {w : World} {A : Nat → Prop} {cs : List Value} {a : Tr31} : BJ.rep w A cs a ↔ (Rw BJ).rep w A cs a.un := HI Rd
theorem H7 : Has Tryd.prog 7 := ⟨fun args w => Ao Tryd.func7 rfl (by decide) args w⟩
theorem Ke : Et Tryd.prog 29 31 4 48 := Et.of GA (by kernel_rfl) (by kernel_rfl) (by kernel_rfl) (by decide)
abbrev Gm : Rp (Int × Int × Int × (Value × List Tr31)) := (Rp.pair (Rp.int .i64) (Rp.pair (Rp.int .i64) (Rp.pair (Rp.int .i64) (Rp.vsl BJ))))
abbrev Sr (p : Int × Int × Int × (Value × List Tr31)) : Tr31 := (Tr31.of (p.1, p.2.1, p.2.2.1, p.2.2.2.2))
theorem CB : Ex BJ Gm Sr := (Ex.knot Rd (of := Tr31.of) (fun _ => rfl) (fun x => by cases x; rfl) (Ex.pair Ex.rfl' (Ex.pair Ex.rfl' (Ex.pair Ex.rfl' Ex.sliceF))))
noncomputable def Dr (fRec : Tr24 → Option Tr31) (p0 : Tr24) : (Int × List Tr31) → Option ((Int × List Tr31) ⊕ (List Tr31))
  | (x2, x3) => (if x2 < (p0.un.2.2.2.length : Int) then (ix p0.un.2.2.2 x2).bind fun x4 => (fRec x4).bind fun x5 => (F7 x3 ([x5] : List Tr31)).bind fun x6 => some (.inl (A1 (x2 + 1), x6)) else some (.inr x3))
noncomputable def Em (fRec : Tr24 → Option Tr31) (p0 : Tr24) : Option Tr31 := (A3 (Dr fRec p0) (0, [])).bind fun x1 => some (Tr31.of (p0.un.1, p0.un.2.1, p0.un.2.2.1, x1))
noncomputable def DN : Nat → Tr24 → Option Tr31
  | 0 => fun _ => none
  | n + 1 => Em (DN n)
noncomputable def I0 (p0 : Tr24) : Option Tr31 := Fx fun n => DN n p0
theorem MZ (fRec : Tr24 → Option Tr31) (ih : ∀ (Y : Nat → Prop) (w0 : World) (v1 : Value) (p0 : Tr24) (r : Tr31) (H : fRec p0 = some r) (h_v1 : Sl w0 (NX []) CJ v1 p0.un.2.2.2), Calls Tryd.prog 7 #[.agg #[.int .i64 p0.un.1, .int .i64 p0.un.2.1, .int .i64 p0.un.2.2.1, v1]] w0 fun e w' => ∃ x : Value, e = .returned (.agg #[.int .i64 r.un.1, .int .i64 r.un.2.1, .int .i64 r.un.2.2.1, x]) ∧ Stw ⟨Y, [], w0⟩ [] [row (x) 31 BJ r.un.2.2.2] w') (Y : Nat → Prop) (w0 : World) (v1 : Value) (p0 : Tr24) (r : Tr31) (H : Em fRec p0 = some r) (h_v1 : Sl w0 (NX []) CJ v1 p0.un.2.2.2) :
    Calls Tryd.prog 7 #[.agg #[.int .i64 p0.un.1, .int .i64 p0.un.2.1, .int .i64 p0.un.2.2.1, v1]] w0 fun e w' => ∃ x : Value, e = .returned (.agg #[.int .i64 r.un.1, .int .i64 r.un.2.1, .int .i64 r.un.2.2.1, x]) ∧ Stw ⟨Y, [], w0⟩ [] [row (x) 31 BJ r.un.2.2.2] w' := by
 refine enter Tryd.func7 Aa Tryd.ntmps7 Aa fun a F => ?_
 have W := Stw.start Y w0
 obtain ⟨v2, h1, h_v1⟩ := h_v1.ex C7
 unfold Em at H
 refine Aj (Ae ?_)
 refine C5 (cs := [.int .i64 p0.un.1, .int .i64 p0.un.2.1, .int .i64 p0.un.2.2.1, v1]) F W Aa Aa Aa fun b1 a w F W => ?_
 refine CK (cs := [.int .i64 0, .int .i64 0, .int .i64 0, .slice none 0 0]) F W Aa KD Aa fun b2 a w F W => ?_
 refine Ag (Ad (Aj (Ae ?_)))
 refine ls F W Aa (Ak BZ Aa Aa Aa T3 F Aa 0 Aa).q fun a w F W => ?_
 refine ls F W Aa (Aq (v := Value.int .i64 p0.un.1) 1 F Aa Aa T3 Aa).q fun a w F W => ?_
 refine ls F W Aa (Ak BZ Aa Aa Aa T3 F Aa 1 Aa).q fun a w F W => ?_
 refine ls F W Aa (Aq (v := Value.int .i64 p0.un.2.1) 1 F Aa Aa T3 Aa).q fun a w F W => ?_
 refine ls F W Aa (Ak BZ Aa Aa Aa T3 F Aa 2 Aa).q fun a w F W => ?_
 refine ls F W Aa (Aq (v := Value.int .i64 p0.un.2.2.1) 1 F Aa Aa T3 Aa).q fun a w F W => ?_
 refine ls F W Aa (DQ (v := Value.agg #[.int .i64 p0.un.1, .int .i64 p0.un.2.1, .int .i64 p0.un.2.2.1, .slice none 0 0]) Qs F Aa Aa Aa).q fun a w F W => ?_
 refine CK (cs := [.int .i64 0, .int .i64 0, .int .i64 0, .slice none 0 0]) F W Aa KD Aa fun b3 a w F W => ?_
 refine BN (vs := [.int .i64 p0.un.1, .int .i64 p0.un.2.1, .int .i64 p0.un.2.2.1, .slice none 0 0]) (M' := [(b3, [.int .i64 p0.un.1, .int .i64 p0.un.2.1, .int .i64 p0.un.2.2.1, .slice none 0 0]), (b2, [.int .i64 0, .int .i64 0, .int .i64 0, .slice none 0 0]), (b1, [.int .i64 p0.un.1, .int .i64 p0.un.2.1, .int .i64 p0.un.2.2.1, v1])]) 0 F W Aa Aa Aa EA Aa Aa Aa Aa Aa fun w W => ?_
 refine Ag (Ad ?_)
 obtain ⟨o1, G1, K1⟩ := Am H
 refine AO (fun a w => ∃ x1 : List Tr31, ∃ v3 : Value, some (x1) = some o1 ∧ Fr 31 [] [(2, .pointer (some ⟨b2, 0, none⟩)), (3, .pointer (some ⟨b3, 0, none⟩))] a ∧ Stw ⟨Y, [], w0⟩ [(b3, [.int .i64 p0.un.1, .int .i64 p0.un.2.1, .int .i64 p0.un.2.2.1, v3]), (b2, [.int .i64 0, .int .i64 0, .int .i64 0, .slice none 0 0]), (b1, [.int .i64 p0.un.1, .int .i64 p0.un.2.1, .int .i64 p0.un.2.2.1, v1])] [row v3 31 BJ x1] w) ?_ ?_
 ·
  have H := G1
  clear G1 K1
  refine Aj (Ae ?_)
  refine ls F W Aa (Ah F Aa).q fun a w F W => ?_
  refine Ag (Ad (AA ?_))
  have W := W.nilRow 31 BJ
  have W := W.frontM (i := 2) Aa Aa
  have W := W.frontM (i := 2) Aa Aa
  have W := W.frontM (i := 2) Aa Aa
  refine BI H (fun s a w => ∃ v4 : Value, Fr 31 [] [(1, .pointer (some ⟨b1, 0, none⟩)), (2, .pointer (some ⟨b2, 0, none⟩)), (3, .pointer (some ⟨b3, 0, none⟩)), (4, .int .i64 s.1)] a ∧ Stw ⟨Y, [], w0⟩ [(b3, [.int .i64 p0.un.1, .int .i64 p0.un.2.1, .int .i64 p0.un.2.2.1, v4]), (b2, [.int .i64 0, .int .i64 0, .int .i64 0, .slice none 0 0]), (b1, [.int .i64 p0.un.1, .int .i64 p0.un.2.1, .int .i64 p0.un.2.2.1, v1])] [row v4 31 BJ s.2] w) ⟨(Value.slice none 0 0), F.re ⟨rfl, Aa, Aa, Aa, trivial⟩, W⟩ fun s o a w H L2 hR => ?_
  obtain ⟨x2, x3⟩ := s
  obtain ⟨v4, F, W⟩ := hR
  have F : Fr 31 [] [(1, .pointer (some ⟨b1, 0, none⟩)), (2, .pointer (some ⟨b2, 0, none⟩)), (3, .pointer (some ⟨b3, 0, none⟩)), (4, .int .i64 x2)] a := F
  have W : Stw ⟨Y, [], w0⟩ [(b3, [.int .i64 p0.un.1, .int .i64 p0.un.2.1, .int .i64 p0.un.2.2.1, v4]), (b2, [.int .i64 0, .int .i64 0, .int .i64 0, .slice none 0 0]), (b1, [.int .i64 p0.un.1, .int .i64 p0.un.2.1, .int .i64 p0.un.2.2.1, v1])] [row v4 31 BJ x3] w := W
  rw [Dr] at H
  refine Aj (Aj (Ae ?_))
  refine ls F W Aa (Ai F Aa).q fun a w F W => ?_
  refine ls F W Aa (Ak BZ Aa Aa Aa ER F Aa 3 Aa).q fun a w F W => ?_
  refine ls F W Aa (Aq (v := v1) 2 F Aa Aa ER Aa).q fun a w F W => ?_
  refine ls F W Aa (CT (r := CJ) (l := p0.un.2.2.2) ID Aa F Aa (AP C7 h1 (Av h_v1))).q fun a w F W => ?_
  refine ls F W Aa (Cy F Aa Aa).q fun a w F W => ?_
  refine Ag (Ad ?_)
  refine Ay F Aa (fun hb => ?_) fun hb => ?_
  ·
   have H := AW (Bm hb) H
   rw [hb] at F
   clear hb
   refine Aw (Ad (Aj (AA ?_)))
   obtain ⟨v5, h2, W⟩ := W.exR CB
   refine Eb [(true, 0), (true, 1), (true, 2), (true, 3), (true, 4), (true, 5), (true, 6), (false, 7), (false, 8), (false, 9), (true, 10), (false, 11)] (CN ⟨Y, [], w0⟩ [(some 9, b3, [.int .i64 p0.un.1, .int .i64 p0.un.2.1, .int .i64 p0.un.2.2.1, v4]), (some 7, b1, [.int .i64 p0.un.1, .int .i64 p0.un.2.1, .int .i64 p0.un.2.2.1, v1])] []) (fun ch a d v w h => by cases d <;> exact h) MO (by kernel_rfl) W (fun w W => ⟨_, _, W, (Ab (fun _ => (.head _)) (Ab (fun _ => (.tail _ (.tail _ (.head _)))) Al)), Al⟩) fun w W => ?_
   refine A6 (R := []) F Aa Aa (yC fun M Z hN hZ => Ak CM Aa Aa Aa Fp F Aa 3 Aa) Aa Aa fun a F => ?_
   refine A6 (R := [9]) F Aa Aa (yC fun M Z hN hZ => B6 (cs := [.int .i64 p0.un.1, .int .i64 p0.un.2.1, .int .i64 p0.un.2.2.1, v4]) (v := v4) F Aa (hN ((some 9), b3, [.int .i64 p0.un.1, .int .i64 p0.un.2.1, .int .i64 p0.un.2.2.1, v4]) (.head _) Aa) Fp Aa) (by kernel_rfl) Aa fun a F => ?_
   refine A6 (R := []) F Aa Aa (yC fun M Z hN hZ => Ak BZ Aa Aa Aa ER F Aa 3 Aa) Aa Aa fun a F => ?_
   refine A6 (R := [7, 6, 5]) F Aa Aa (yC fun M Z hN hZ => B6 (cs := [.int .i64 p0.un.1, .int .i64 p0.un.2.1, .int .i64 p0.un.2.2.1, v1]) (v := v1) F Aa (hN ((some 7), b1, [.int .i64 p0.un.1, .int .i64 p0.un.2.1, .int .i64 p0.un.2.2.1, v1]) (.tail _ (.head _)) Aa) ER Aa) (by kernel_rfl) Aa fun a F => ?_
   refine A6 (R := []) F Aa Aa (yC fun M Z hN hZ => Ai F Aa) Aa Aa fun a F => ?_
   obtain ⟨x4, h3, H⟩ := Am H
   obtain ⟨v6, h4, h5⟩ := DL h1 h3
   have h6 : E5 v6 = [.int .i64 x4.un.1, .int .i64 x4.un.2.1, .int .i64 x4.un.2.2.1, (v6.2.2.2.1)] := congrArg (fun q : Tr24 => ([.int .i64 q.un.1, .int .i64 q.un.2.1, .int .i64 q.un.2.2.1, (v6.2.2.2.1)] : List Value)) h5
   refine A6 (R := []) F Aa Aa (yC fun M Z hN hZ => AG (r := Gd) KF F Aa Aa (Av h_v1) h4) Aa Aa fun a F => ?_
   refine A6 (R := []) F Aa Aa (yC fun M Z hN hZ => Ax (y := Value.agg #[.int .i64 x4.un.1, .int .i64 x4.un.2.1, .int .i64 x4.un.2.2.1, (v6.2.2.2.1)]) (j := 0) (i := x2) (enc := E5) F Aa Aa (Av h_v1) h4 Id FC (by rw [h6]; rfl)) Aa Aa fun a F => ?_
   refine BG Aa ?_
   obtain ⟨x5, h7, H⟩ := Am H
   refine BD (Ml := []) (Zl := []) (M := [(b3, [.int .i64 p0.un.1, .int .i64 p0.un.2.1, .int .i64 p0.un.2.2.1, v4]), (b2, [.int .i64 0, .int .i64 0, .int .i64 0, .slice none 0 0]), (b1, [.int .i64 p0.un.1, .int .i64 p0.un.2.1, .int .i64 p0.un.2.2.1, v1])]) (Z := [row v4 31 Gm v5]) (β := Value) (rv := fun x => .agg #[.int .i64 x5.un.1, .int .i64 x5.un.2.1, .int .i64 x5.un.2.2.1, x]) (MM := fun x => []) (ZZ := fun x => [row x 31 BJ x5.un.2.2.2]) F W H7 Aa Aa (fun hL => ih _ w ((v6.2.2.2.1)) x4 _ h7 ((CG (Av h_v1) h4 (A5.snd (A5.snd (A5.snd A5.here))) (congrArg (fun q : Tr24 => q.un.2.2.2) h5)) w W).nx) fun x a w F W => ?_
   obtain ⟨v7, rfl⟩ : ∃ y, y = x := ⟨x, rfl⟩
   have W : Stw ⟨Y, [], w0⟩ [(b3, [.int .i64 p0.un.1, .int .i64 p0.un.2.1, .int .i64 p0.un.2.2.1, v4]), (b2, [.int .i64 0, .int .i64 0, .int .i64 0, .slice none 0 0]), (b1, [.int .i64 p0.un.1, .int .i64 p0.un.2.1, .int .i64 p0.un.2.2.1, v1])] [row v7 31 BJ x5.un.2.2.2, row v4 31 Gm v5] w := W
   refine AC (N2 := []) (NZ2 := []) (N3 := [(some 9, b3, [.int .i64 p0.un.1, .int .i64 p0.un.2.1, .int .i64 p0.un.2.2.1, v4]), (some 7, b1, [.int .i64 p0.un.1, .int .i64 p0.un.2.1, .int .i64 p0.un.2.2.1, v1])]) (NZ3 := []) W Aa Aa (Ab (fun _ => (.head _)) (Ab (fun h => Ac (by kernel_rfl) h) Al)) Al ?_
   refine BG Aa ?_
   have W := W.freeze
   refine GE (z := Value.agg #[.int .i64 0, .int .i64 0, .int .i64 0, .slice none 0 0]) (cs := [.int .i64 x5.un.1, .int .i64 x5.un.2.1, .int .i64 x5.un.2.2.1, v7]) BJ ([x5] : List Tr31) F W Aa Ke KD Aa Aa Aa (Cl Aa Aa Aa Dx) Aa Aa ⟨[Value.int .i64 x5.un.1, Value.int .i64 x5.un.2.1, Value.int .i64 x5.un.2.2.1, v7], _, Aa, (N4.2 ⟨[Value.int .i64 x5.un.1], [Value.int .i64 x5.un.2.1, Value.int .i64 x5.un.2.2.1, v7], Aa, Aa, ⟨[Value.int .i64 x5.un.2.1], [Value.int .i64 x5.un.2.2.1, v7], Aa, Aa, ⟨[Value.int .i64 x5.un.2.2.1], [v7], Aa, Aa, ⟨_, Aa, (W.item (i := 0) Aa)⟩⟩⟩⟩), Aa⟩ fun v8 a w F W => ?_
   refine AC (N2 := []) (NZ2 := []) (N3 := [(some 9, b3, [.int .i64 p0.un.1, .int .i64 p0.un.2.1, .int .i64 p0.un.2.2.1, v4]), (some 7, b1, [.int .i64 p0.un.1, .int .i64 p0.un.2.1, .int .i64 p0.un.2.2.1, v1])]) (NZ3 := []) W Aa Aa (Ab (fun _ => (.head _)) (Ab (fun h => Ac (by kernel_rfl) h) Al)) Al ?_
   refine BG Aa ?_
   have W := W.frontZ (i := 2) Aa Aa
   have W := W.hideR CB h2
   obtain ⟨x6, h8, H⟩ := Am H
   refine E8 (r := BJ) (i := 0) F W Aa Ke Aa Aa Aa Aa (FN W 1 Aa) h8 Aa fun v9 a w F W => ?_
   have W : Stw ⟨Y, [], w0⟩ [(b3, [.int .i64 p0.un.1, .int .i64 p0.un.2.1, .int .i64 p0.un.2.2.1, v4]), (b2, [.int .i64 0, .int .i64 0, .int .i64 0, .slice none 0 0]), (b1, [.int .i64 p0.un.1, .int .i64 p0.un.2.1, .int .i64 p0.un.2.2.1, v1])] [row v9 31 BJ x6, row v8 31 BJ ([x5] : List Tr31), Hi v7 BJ x5.un.2.2.2] w := W
   refine AC (N2 := []) (NZ2 := []) (N3 := [(some 9, b3, [.int .i64 p0.un.1, .int .i64 p0.un.2.1, .int .i64 p0.un.2.2.1, v4]), (some 7, b1, [.int .i64 p0.un.1, .int .i64 p0.un.2.1, .int .i64 p0.un.2.2.1, v1])]) (NZ3 := []) W Aa Aa (Ab (fun h => Ac (by kernel_rfl) h) (Ab (fun h => Ac (by kernel_rfl) h) Al)) Al ?_
   refine A6 (R := []) F Aa Aa (yC fun M Z hN hZ => Ak CM Aa Aa Aa Fp F Aa 3 Aa) Aa Aa fun a F => ?_
   refine BG Aa ?_
   refine HK (M' := [(b3, [.int .i64 p0.un.1, .int .i64 p0.un.2.1, .int .i64 p0.un.2.2.1, v9]), (b2, [.int .i64 0, .int .i64 0, .int .i64 0, .slice none 0 0]), (b1, [.int .i64 p0.un.1, .int .i64 p0.un.2.1, .int .i64 p0.un.2.2.1, v1])]) 0 F W Aa Aa Aa Fp (W.one (k := 0) Aa) Aa Aa fun w W => ?_
   refine AC (N2 := []) (NZ2 := []) (N3 := [(some 9, b3, [.int .i64 p0.un.1, .int .i64 p0.un.2.1, .int .i64 p0.un.2.2.1, v4]), (some 7, b1, [.int .i64 p0.un.1, .int .i64 p0.un.2.1, .int .i64 p0.un.2.2.1, v1])]) (NZ3 := []) W Aa Aa (Ab (fun h => Ac (by kernel_rfl) h) (Ab (fun h => Ac (by kernel_rfl) h) Al)) Al ?_
   refine DS (A8 (Ad (Ae ?_)))
   refine ls F W Aa (Ai F Aa).q fun a w F W => ?_
   refine ls F W Aa (BC F Aa Aa Aa).q fun a w F W => ?_
   refine ls F W Aa (Ah F Aa).q fun a w F W => ?_
   refine Ag (Ad ?_)
   have W := W.frontM (i := 2) Aa Aa
   have W := W.frontM (i := 2) Aa Aa
   have W := W.frontM (i := 2) Aa Aa
   have W := W.sub (M' := [(b3, [.int .i64 p0.un.1, .int .i64 p0.un.2.1, .int .i64 p0.un.2.2.1, v9]), (b2, [.int .i64 0, .int .i64 0, .int .i64 0, .slice none 0 0]), (b1, [.int .i64 p0.un.1, .int .i64 p0.un.2.1, .int .i64 p0.un.2.2.1, v1])]) (Z' := [row v9 31 BJ x6]) (List.Sublist.refl _) (List.Sublist.cons_cons _ (List.nil_sublist _))
   exact ⟨_, H, (v9), F.re ⟨rfl, Aa, Aa, Aa, trivial⟩, W⟩
  have H := AX (Bl hb) H
  rw [hb] at F
  clear hb
  refine Bx ?_
  iterate 2 refine BO ?_
  refine Bz (Ad ?_)
  have W := W.frontM (i := 2) Aa Aa
  have W := W.frontM (i := 2) Aa Aa
  have W := W.frontM (i := 2) Aa Aa
  have H := L2 _ H
  exact ⟨_, (v4), H, F.re ⟨rfl, Aa, trivial⟩, W⟩
 rintro a w ⟨x1, v3, hj, F, W⟩
 have hj := AM hj
 subst hj
 have H := K1
 clear G1 K1
 refine Aj (Ae ?_)
 refine ls F W Aa (Aq (v := Value.agg #[.int .i64 p0.un.1, .int .i64 p0.un.2.1, .int .i64 p0.un.2.2.1, v3]) 0 F Aa Aa EA Aa).q fun a w F W => ?_
 refine BN (vs := [.int .i64 p0.un.1, .int .i64 p0.un.2.1, .int .i64 p0.un.2.2.1, v3]) (M' := [(b3, [.int .i64 p0.un.1, .int .i64 p0.un.2.1, .int .i64 p0.un.2.2.1, v3]), (b2, [.int .i64 p0.un.1, .int .i64 p0.un.2.1, .int .i64 p0.un.2.2.1, v3]), (b1, [.int .i64 p0.un.1, .int .i64 p0.un.2.1, .int .i64 p0.un.2.2.1, v1])]) 1 F W Aa Aa Aa EA Aa Aa Aa (AB Aa (AB Aa (AB Aa (AB (W.one (k := 0) Aa) CZ)))) Aa fun w W => ?_
 refine Ag (Ad (Az ?_))
 have H := AM H
 subst H
 refine AQ (.inl Aa) F W Aa (D3 1 F Aa Aa EA Aa) ?_
 have W := W.sub (M' := []) (Z' := [row v3 31 BJ x1]) (List.nil_sublist _) (List.Sublist.refl _)
 exact ⟨(v3), Aa, W⟩
theorem NM : ∀ (n : Nat) (Y : Nat → Prop) (w0 : World) (v1 : Value) (p0 : Tr24) (r : Tr31) (H : DN n p0 = some r) (h_v1 : Sl w0 (NX []) CJ v1 p0.un.2.2.2), Calls Tryd.prog 7 #[.agg #[.int .i64 p0.un.1, .int .i64 p0.un.2.1, .int .i64 p0.un.2.2.1, v1]] w0 fun e w' => ∃ x : Value, e = .returned (.agg #[.int .i64 r.un.1, .int .i64 r.un.2.1, .int .i64 r.un.2.2.1, x]) ∧ Stw ⟨Y, [], w0⟩ [] [row (x) 31 BJ r.un.2.2.2] w' := by
  intro n
  induction n with
  | zero => intro Y w0 v1 p0 r H; exact nomatch H
  | succ n ih => intro Y w0 v1 p0 r H h_v1; exact MZ (DN n) ih Y w0 v1 p0 r H h_v1
theorem Lj (Y : Nat → Prop) (w0 : World) (v1 : Value) (p0 : Tr24) (r : Tr31) (H : I0 p0 = some r) (h_v1 : Sl w0 (NX []) CJ v1 p0.un.2.2.2) :
    Calls Tryd.prog 7 #[.agg #[.int .i64 p0.un.1, .int .i64 p0.un.2.1, .int .i64 p0.un.2.2.1, v1]] w0 fun e w' => ∃ x : Value, e = .returned (.agg #[.int .i64 r.un.1, .int .i64 r.un.2.1, .int .i64 r.un.2.2.1, x]) ∧ Stw ⟨Y, [], w0⟩ [] [row (x) 31 BJ r.un.2.2.2] w' := by
  obtain ⟨n, H⟩ := Cs H
  exact NM n Y w0 v1 p0 r H h_v1
theorem R3 : Has Tryd.prog 11 := ⟨fun args w => Ao Tryd.func11 rfl (by decide) args w⟩
noncomputable def Dk (fRec : Tr24 → Option Int) (p0 : Tr24) : (Int × Int) → Option ((Int × Int) ⊕ Int)
  | (x2, x3) => (if x3 < (p0.un.2.2.2.length : Int) then (ix p0.un.2.2.2 x3).bind fun x4 => (fRec x4).bind fun x5 => some (.inl (A1 (x2 + x5), A1 (x3 + 1))) else some (.inr x2))
noncomputable def Ei (fRec : Tr24 → Option Int) (p0 : Tr24) : Option Int := (A3 (Dk fRec p0) (1, 0)).bind fun x1 => some x1
noncomputable def DK : Nat → Tr24 → Option Int
  | 0 => fun _ => none
  | n + 1 => Ei (DK n)
noncomputable def HA (p0 : Tr24) : Option Int := Fx fun n => DK n p0
theorem Mi (fRec : Tr24 → Option Int) (ih : ∀ (Y : Nat → Prop) (w0 : World) (v1 : Value) (p0 : Tr24) (r : Int) (H : fRec p0 = some r) (h_v1 : Sl w0 (NX []) CJ v1 p0.un.2.2.2), Calls Tryd.prog 11 #[.agg #[.int .i64 p0.un.1, .int .i64 p0.un.2.1, .int .i64 p0.un.2.2.1, v1]] w0 fun e w' => e = .returned (.int .i64 r) ∧ Below w0.heap.size w0 w') (Y : Nat → Prop) (w0 : World) (v1 : Value) (p0 : Tr24) (r : Int) (H : Ei fRec p0 = some r) (h_v1 : Sl w0 (NX []) CJ v1 p0.un.2.2.2) :
    Calls Tryd.prog 11 #[.agg #[.int .i64 p0.un.1, .int .i64 p0.un.2.1, .int .i64 p0.un.2.2.1, v1]] w0 fun e w' => e = .returned (.int .i64 r) ∧ Below w0.heap.size w0 w' := by
 refine enter Tryd.func11 Aa Tryd.ntmps11 Aa fun a F => ?_
 have W := Stw.start Y w0
 obtain ⟨v2, h1, h_v1⟩ := h_v1.ex C7
 unfold Ei at H
 refine Aj (Ae ?_)
 refine C5 (cs := [.int .i64 p0.un.1, .int .i64 p0.un.2.1, .int .i64 p0.un.2.2.1, v1]) F W Aa Aa Aa fun b1 a w F W => ?_
 refine ls F W Aa (Ah F Aa).q fun a w F W => ?_
 refine Ag (Ad (Aj (Ae ?_)))
 refine ls F W Aa (Ah F Aa).q fun a w F W => ?_
 refine Ag (Ad ?_)
 obtain ⟨o1, G1, K1⟩ := Am H
 refine AO (fun a w => ∃ x1 : Int, some (x1) = some o1 ∧ Fr 21 [] [(2, .int .i64 0), (3, .int .i64 x1)] a ∧ Stw ⟨Y, [], w0⟩ [(b1, [.int .i64 p0.un.1, .int .i64 p0.un.2.1, .int .i64 p0.un.2.2.1, v1])] [] w) ?_ ?_
 ·
  have H := G1
  clear G1 K1
  refine Aj (Ae ?_)
  refine ls F W Aa (Ah F Aa).q fun a w F W => ?_
  refine Ag (Ad (AA ?_))
  refine BI H (fun s a w => Fr 21 [] [(1, .pointer (some ⟨b1, 0, none⟩)), (2, .int .i64 0), (3, .int .i64 s.1), (4, .int .i64 s.2)] a ∧ Stw ⟨Y, [], w0⟩ [(b1, [.int .i64 p0.un.1, .int .i64 p0.un.2.1, .int .i64 p0.un.2.2.1, v1])] [] w) ⟨F.re ⟨rfl, Aa, Aa, Aa, trivial⟩, W⟩ fun s o a w H L2 hR => ?_
  obtain ⟨x2, x3⟩ := s
  obtain ⟨F, W⟩ := hR
  have F : Fr 21 [] [(1, .pointer (some ⟨b1, 0, none⟩)), (2, .int .i64 0), (3, .int .i64 x2), (4, .int .i64 x3)] a := F
  have W : Stw ⟨Y, [], w0⟩ [(b1, [.int .i64 p0.un.1, .int .i64 p0.un.2.1, .int .i64 p0.un.2.2.1, v1])] [] w := W
  rw [Dk] at H
  refine Aj (Aj (Ae ?_))
  refine ls F W Aa (Ai F Aa).q fun a w F W => ?_
  refine ls F W Aa (Ak BZ Aa Aa Aa ER F Aa 3 Aa).q fun a w F W => ?_
  refine ls F W Aa (Aq (v := v1) 0 F Aa Aa ER Aa).q fun a w F W => ?_
  refine ls F W Aa (CT (r := CJ) (l := p0.un.2.2.2) ID Aa F Aa (AP C7 h1 (Av h_v1))).q fun a w F W => ?_
  refine ls F W Aa (Cy F Aa Aa).q fun a w F W => ?_
  refine Ag (Ad ?_)
  refine Ay F Aa (fun hb => ?_) fun hb => ?_
  ·
   have H := AW (Bm hb) H
   rw [hb] at F
   clear hb
   refine Aw (Ad (Aj (AA (Ae ?_))))
   refine ls F W Aa (Ai F Aa).q fun a w F W => ?_
   refine ls F W Aa (Ak BZ Aa Aa Aa ER F Aa 3 Aa).q fun a w F W => ?_
   refine ls F W Aa (Aq (v := v1) 0 F Aa Aa ER Aa).q fun a w F W => ?_
   refine ls F W Aa (Ai F Aa).q fun a w F W => ?_
   obtain ⟨x4, h2, H⟩ := Am H
   obtain ⟨v3, h3, h4⟩ := DL h1 h2
   have h5 : E5 v3 = [.int .i64 x4.un.1, .int .i64 x4.un.2.1, .int .i64 x4.un.2.2.1, (v3.2.2.2.1)] := congrArg (fun q : Tr24 => ([.int .i64 q.un.1, .int .i64 q.un.2.1, .int .i64 q.un.2.2.1, (v3.2.2.2.1)] : List Value)) h4
   refine ls F W Aa (AG (r := Gd) KF F Aa Aa (Av h_v1) h3).q fun a w F W => ?_
   refine ls F W Aa (Ax (y := Value.agg #[.int .i64 x4.un.1, .int .i64 x4.un.2.1, .int .i64 x4.un.2.2.1, (v3.2.2.2.1)]) (j := 0) (i := x3) (enc := E5) F Aa Aa (Av h_v1) h3 Id FC (by rw [h5]; rfl)).q fun a w F W => ?_
   obtain ⟨x5, h6, H⟩ := Am H
   refine ls F W Aa (AU (v := Value.int .i64 x5) F R3 Aa (fun w W => ih any w ((v3.2.2.2.1)) x4 _ h6 (((CG (Av h_v1) h3 (A5.snd (A5.snd (A5.snd A5.here))) (congrArg (fun q : Tr24 => q.un.2.2.2) h4)) : EC _ _ _ _ _ _) w W).nx)) fun a w F W => ?_
   refine ls F W Aa (BC F Aa Aa Aa).q fun a w F W => ?_
   refine ls F W Aa (Ah F Aa).q fun a w F W => ?_
   refine Ag (A8 (Ad (Ae ?_)))
   refine ls F W Aa (Ai F Aa).q fun a w F W => ?_
   refine ls F W Aa (BC F Aa Aa Aa).q fun a w F W => ?_
   refine ls F W Aa (Ah F Aa).q fun a w F W => ?_
   refine Ag (Ad ?_)
   exact ⟨_, H, F.re ⟨rfl, Aa, Aa, Aa, trivial⟩, W⟩
  have H := AX (Bl hb) H
  rw [hb] at F
  clear hb
  refine Bx ?_
  iterate 2 refine BO ?_
  refine Bz (Ad ?_)
  have H := L2 _ H
  exact ⟨_, H, F.re ⟨rfl, Aa, trivial⟩, W⟩
 rintro a w ⟨x1, hj, F, W⟩
 have hj := AM hj
 subst hj
 have H := K1
 clear G1 K1
 refine Aj (Ae ?_)
 refine ls F W Aa (Ai F Aa).q fun a w F W => ?_
 refine ls F W Aa (Ah F Aa).q fun a w F W => ?_
 refine Ag (Ad (Az ?_))
 have H := AM H
 subst H
 refine AQ (.inl Aa) F W Aa (AD F Aa) ?_
 exact ⟨rfl, W.done⟩
theorem NG : ∀ (n : Nat) (Y : Nat → Prop) (w0 : World) (v1 : Value) (p0 : Tr24) (r : Int) (H : DK n p0 = some r) (h_v1 : Sl w0 (NX []) CJ v1 p0.un.2.2.2), Calls Tryd.prog 11 #[.agg #[.int .i64 p0.un.1, .int .i64 p0.un.2.1, .int .i64 p0.un.2.2.1, v1]] w0 fun e w' => e = .returned (.int .i64 r) ∧ Below w0.heap.size w0 w' := by
  intro n
  induction n with
  | zero => intro Y w0 v1 p0 r H; exact nomatch H
  | succ n ih => intro Y w0 v1 p0 r H h_v1; exact Mi (DK n) ih Y w0 v1 p0 r H h_v1
theorem IK (Y : Nat → Prop) (w0 : World) (v1 : Value) (p0 : Tr24) (r : Int) (H : HA p0 = some r) (h_v1 : Sl w0 (NX []) CJ v1 p0.un.2.2.2) :
    Calls Tryd.prog 11 #[.agg #[.int .i64 p0.un.1, .int .i64 p0.un.2.1, .int .i64 p0.un.2.2.1, v1]] w0 fun e w' => e = .returned (.int .i64 r) ∧ Below w0.heap.size w0 w' := by
  obtain ⟨n, H⟩ := Cs H
  exact NG n Y w0 v1 p0 r H h_v1
noncomputable def Ge (p0 : Tr24) : Option Bool := (HA p0).bind fun x1 => some (decide (x1 ≤ 100))
theorem JG (Y : Nat → Prop) (w0 : World) (v1 : Value) (p0 : Tr24) (r : Bool) (H : Ge p0 = some r) (h_v1 : Sl w0 (NX []) CJ v1 p0.un.2.2.2) :
    Calls Tryd.prog 5 #[.agg #[.int .i64 p0.un.1, .int .i64 p0.un.2.1, .int .i64 p0.un.2.2.1, v1]] w0 fun e w' => e = .returned (.bool r) ∧ Below w0.heap.size w0 w' := by
 refine enter Tryd.func5 Aa Tryd.ntmps5 Aa fun a F => ?_
 have W := Stw.start Y w0
 obtain ⟨v2, h1, h_v1⟩ := h_v1.ex C7
 unfold Ge at H
 refine Aj (Ae ?_)
 refine C5 (cs := [.int .i64 p0.un.1, .int .i64 p0.un.2.1, .int .i64 p0.un.2.2.1, v1]) F W Aa Aa Aa fun b1 a w F W => ?_
 refine ls F W Aa (Ah F Aa).q fun a w F W => ?_
 refine Ag (Ad (Aj (Ae ?_)))
 refine ls F W Aa (Aq (v := Value.agg #[.int .i64 p0.un.1, .int .i64 p0.un.2.1, .int .i64 p0.un.2.2.1, v1]) 0 F Aa Aa FC Aa).q fun a w F W => ?_
 obtain ⟨x1, h2, H⟩ := Am H
 refine ls F W Aa (AU (v := Value.int .i64 x1) F R3 Aa (fun w W => IK any w (v1) p0 _ h2 (((AP C7 h1 (Av h_v1)) : EC _ _ _ _ _ _) w W).nx)) fun a w F W => ?_
 refine ls F W Aa (F9 F Aa Aa).q fun a w F W => ?_
 refine ls F W Aa (Ah F Aa).q fun a w F W => ?_
 refine Ag (Ad (Az ?_))
 have H := AM H
 subst H
 refine AQ (.inl Aa) F W Aa (AD F Aa) ?_
 exact ⟨rfl, W.done⟩
theorem Nk : type_of% Tryd.underlying46 := Tryd.underlying46
theorem H5 : Has Tryd.prog 5 := ⟨fun args w => Ao Tryd.func5 rfl (by decide) args w⟩
theorem Qh : Ty Tryd.prog 26 true 4 := ⟨by kernel_rfl, by kernel_rfl⟩
theorem Z3 : (Tryd.prog.info? 3).bind (·.zero) = some (.int .i64 0) := by kernel_rfl
theorem Ds : Et Tryd.prog 46 3 1 8 := Et.of Nk (by kernel_rfl) (by kernel_rfl) (by kernel_rfl) (by decide)
abbrev Fd (a : Int × Int × Int × (Value × List Tr31)) : List Value := [.int .i64 a.1, .int .i64 a.2.1, .int .i64 a.2.2.1, a.2.2.2.1]
theorem IH : Hu Gm Fd := (Hu.pair Fl.int.to (Hu.pair Fl.int.to (Hu.pair Fl.int.to Hu.vsl)))
theorem SC : Has Tryd.prog 41 := ⟨fun args w => Ao Tryd.func41 rfl (by decide) args w⟩
noncomputable def Ck (fRec : Tr31 → Int → Option (List Int)) (p0 : Tr31) (p1 : Int) : (List Int × Int) → Option ((List Int × Int) ⊕ (List Int))
  | (x4, x5) => (if x5 < (p0.un.2.2.2.length : Int) then (ix p0.un.2.2.2 x5).bind fun x6 => (fRec x6 p1).bind fun x7 => (F7 x4 x7).bind fun x8 => some (.inl (x8, A1 (x5 + 1))) else some (.inr x4))
noncomputable def CX (fRec : Tr31 → Int → Option (List Int)) (p0 : Tr31) (p1 : Int) : Option (List Int) := (if (decide (p0.un.1 = 3) && decide (p0.un.2.1 = p1)) = true then (F7 ([] : List Int) ([p0.un.2.2.1] : List Int)).bind fun x2 => some x2 else some ([])).bind fun x1 => (A3 (Ck fRec p0 p1) (x1, 0)).bind fun x3 => some x3
noncomputable def Cu : Nat → Tr31 → Int → Option (List Int)
  | 0 => fun _ _ => none
  | n + 1 => CX (Cu n)
noncomputable def GQ (p0 : Tr31) (p1 : Int) : Option (List Int) := Fx fun n => Cu n p0 p1
theorem IM (fRec : Tr31 → Int → Option (List Int)) (ih : ∀ (Y : Nat → Prop) (w0 : World) (v1 : Value) (p0 : Tr31) (p1 : Int) (r : List Int) (H : fRec p0 p1 = some r) (h_v1 : Sl w0 (NX []) BJ v1 p0.un.2.2.2), Calls Tryd.prog 41 #[.agg #[.int .i64 p0.un.1, .int .i64 p0.un.2.1, .int .i64 p0.un.2.2.1, v1], .int .i64 p1] w0 fun e w' => ∃ x : Value, e = .returned (x) ∧ Stw ⟨Y, [], w0⟩ [] [row (x) 3 (Rp.int .i64) r] w') (Y : Nat → Prop) (w0 : World) (v1 : Value) (p0 : Tr31) (p1 : Int) (r : List Int) (H : CX fRec p0 p1 = some r) (h_v1 : Sl w0 (NX []) BJ v1 p0.un.2.2.2) :
    Calls Tryd.prog 41 #[.agg #[.int .i64 p0.un.1, .int .i64 p0.un.2.1, .int .i64 p0.un.2.2.1, v1], .int .i64 p1] w0 fun e w' => ∃ x : Value, e = .returned (x) ∧ Stw ⟨Y, [], w0⟩ [] [row (x) 3 (Rp.int .i64) r] w' := by
 refine enter Tryd.func41 Aa Tryd.ntmps41 Aa fun a F => ?_
 have W := Stw.start Y w0
 obtain ⟨v2, h1, h_v1⟩ := h_v1.ex CB
 unfold CX at H
 refine Aj (Ae ?_)
 refine C5 (cs := [.int .i64 p0.un.1, .int .i64 p0.un.2.1, .int .i64 p0.un.2.2.1, v1]) F W Aa Aa Aa fun b1 a w F W => ?_
 refine ls F W Aa (Ah F Aa).q fun a w F W => ?_
 refine Ag (Ad (Aj (Ae ?_)))
 refine ls F W Aa (Ah F Aa).q fun a w F W => ?_
 refine Ag (Ad ?_)
 obtain ⟨o1, G1, K1⟩ := Am H
 refine AO (fun a w => ∃ x1 : List Int, ∃ v3 : Value, some (x1) = some o1 ∧ Fr 36 [] [(1, .int .i64 p1), (2, .pointer (some ⟨b1, 0, none⟩)), (4, .slice none 0 0), (5, v3)] a ∧ Stw ⟨Y, [], w0⟩ [(b1, [.int .i64 p0.un.1, .int .i64 p0.un.2.1, .int .i64 p0.un.2.2.1, v1])] [row v3 3 (Rp.int .i64) x1] w) ?_ ?_
 ·
  have H := G1
  clear G1 K1
  refine AO (fun a w => Fr 36 [] [(1, .int .i64 p1), (2, .pointer (some ⟨b1, 0, none⟩)), (4, .slice none 0 0), (5, .slice none 0 0), (16, .bool (decide (p0.un.1 = 3) && decide (p0.un.2.1 = p1)))] a ∧ Stw ⟨Y, [], w0⟩ [(b1, [.int .i64 p0.un.1, .int .i64 p0.un.2.1, .int .i64 p0.un.2.2.1, v1])] [] w) ?_ ?_
  ·
   refine Ae ?_
   refine ls F W Aa (Ak CM Aa Aa Aa T3 F Aa 0 Aa).q fun a w F W => ?_
   refine ls F W Aa (Aq (v := Value.int .i64 p0.un.1) 0 F Aa Aa T3 Aa).q fun a w F W => ?_
   refine ls F W Aa (Bq F Aa Aa).q fun a w F W => ?_
   refine ls F W Aa (Ai F Aa).q fun a w F W => ?_
   rcases Bool.eq_false_or_eq_true (decide (p0.un.1 = 3)) with hb0 | hb0
   ·
    rw [hb0] at F
    refine AL F W (Af F Aa Aa Aa Aa) Aa (An Aa) (Ak CM Aa Aa Aa T3 F Aa 1 Aa).q fun a w F W => ?_
    refine AL F W (Af F Aa Aa Aa Aa) Aa (An Aa) (Aq (v := Value.int .i64 p0.un.2.1) 0 F Aa Aa T3 Aa).q fun a w F W => ?_
    refine AL F W (Af F Aa Aa Aa Aa) Aa (An Aa) (Ai F Aa).q fun a w F W => ?_
    refine AL F W (Af F Aa Aa Aa Aa) Aa (An Aa) (Bq F Aa Aa).q fun a w F W => ?_
    refine ls F W Aa (Au F Aa Aa Aa).q fun a w F W => ?_
    refine Ag (Ad ?_)
    exact ⟨F.re ⟨rfl, Aa, Aa, Aa, (by show some (Value.bool (decide (p0.un.2.1 = p1))) = some (Value.bool (decide (p0.un.1 = 3) && decide (p0.un.2.1 = p1))); try rw [hb0]; all_goals simp only [Bool.not_true, Bool.not_false, Bool.true_and, Bool.false_and, Bool.true_or, Bool.false_or, Bool.and_true, Bool.or_false, cond_true, cond_false]), trivial⟩, W⟩
   rw [hb0] at F
   iterate 4 refine CD F Aa Aa Aa Aa Aa Aa Aa fun a F => ?_
   refine ls F W Aa (As F Aa Aa Aa).q fun a w F W => ?_
   refine Ag (Ad ?_)
   exact ⟨F.re ⟨rfl, Aa, Aa, Aa, (by show some (Value.bool false) = some (Value.bool (decide (p0.un.1 = 3) && decide (p0.un.2.1 = p1))); try rw [hb0]; all_goals simp only [Bool.not_true, Bool.not_false, Bool.true_and, Bool.false_and, Bool.true_or, Bool.false_or, Bool.and_true, Bool.or_false, cond_true, cond_false]), trivial⟩, W⟩
  rintro a w ⟨F, W⟩
  refine Ay F Aa (fun hb => ?_) fun hb => ?_
  ·
   have H := AW hb H
   rw [hb] at F
   clear hb
   refine Ae ?_
   refine ls F W Aa (Ai F Aa).q fun a w F W => ?_
   refine ls F W Aa (Ak CM Aa Aa Aa T3 F Aa 2 Aa).q fun a w F W => ?_
   refine ls F W Aa (Aq (v := Value.int .i64 p0.un.2.2.1) 0 F Aa Aa T3 Aa).q fun a w F W => ?_
   refine GE (z := Value.int .i64 0) (cs := [.int .i64 p0.un.2.2.1]) (Rp.int .i64) ([p0.un.2.2.1] : List Int) F W Aa Ds Z3 Aa Aa Aa Aa Aa Aa (Fl.int.repL _ _ ([p0.un.2.2.1] : List Int)) fun v4 a w F W => ?_
   have W := W.nilRow 3 (Rp.int .i64)
   obtain ⟨x2, h2, H⟩ := Am H
   refine E8 (r := (Rp.int .i64)) (i := 0) F W Aa Ds Aa Aa Aa Aa (FN W 1 Aa) h2 Aa fun v5 a w F W => ?_
   have W : Stw ⟨Y, [], w0⟩ [(b1, [.int .i64 p0.un.1, .int .i64 p0.un.2.1, .int .i64 p0.un.2.2.1, v1])] [row v5 3 (Rp.int .i64) x2, row v4 3 (Rp.int .i64) ([p0.un.2.2.1] : List Int)] w := W
   refine ls F W Aa (Ah F Aa).q fun a w F W => ?_
   refine Ag (Ad ?_)
   have W := W.sub (M' := [(b1, [.int .i64 p0.un.1, .int .i64 p0.un.2.1, .int .i64 p0.un.2.2.1, v1])]) (Z' := [row v5 3 (Rp.int .i64) x2]) (List.Sublist.refl _) (List.Sublist.cons_cons _ (List.nil_sublist _))
   exact ⟨_, (v5), H, F.re ⟨rfl, Aa, Aa, Aa, trivial⟩, W⟩
  have H := AX (by rw [hb]; decide) H
  rw [hb] at F
  clear hb
  refine Aw (Ad ?_)
  have W := W.nilRow 3 (Rp.int .i64)
  exact ⟨_, (Value.slice none 0 0), H, F.re ⟨rfl, Aa, Aa, Aa, trivial⟩, W⟩
 rintro a w ⟨x1, v3, hj, F, W⟩
 have hj := AM hj
 subst hj
 have H := K1
 clear G1 K1
 obtain ⟨o2, G2, K2⟩ := Am H
 refine AO (fun a w => ∃ x3 : List Int, ∃ v6 : Value, some (x3) = some o2 ∧ Fr 36 [] [(4, .slice none 0 0), (5, v6)] a ∧ Stw ⟨Y, [], w0⟩ [(b1, [.int .i64 p0.un.1, .int .i64 p0.un.2.1, .int .i64 p0.un.2.2.1, v1])] [row v6 3 (Rp.int .i64) x3] w) ?_ ?_
 ·
  have H := G2
  clear G2 K2
  refine Aj (Ae ?_)
  refine ls F W Aa (Ak CM Aa Aa Aa Fp F Aa 3 Aa).q fun a w F W => ?_
  refine ls F W Aa (Aq (v := v1) 0 F Aa Aa Fp Aa).q fun a w F W => ?_
  refine ls F W Aa (CT (r := BJ) (l := p0.un.2.2.2) GA Aa F Aa (AP CB h1 (Av h_v1))).q fun a w F W => ?_
  refine ls F W Aa (Ai F Aa).q fun a w F W => ?_
  refine Ag (Ad (AA ?_))
  refine BI H (fun s a w => ∃ v7 : Value, Fr 36 [] [(1, .int .i64 p1), (4, .slice none 0 0), (5, v7), (23, v1), (24, .int .i64 (p0.un.2.2.2.length : Int)), (25, .int .i64 s.2)] a ∧ Stw ⟨Y, [], w0⟩ [(b1, [.int .i64 p0.un.1, .int .i64 p0.un.2.1, .int .i64 p0.un.2.2.1, v1])] [row v7 3 (Rp.int .i64) s.1] w) ⟨(v3), F.re ⟨rfl, Aa, Aa, Aa, Aa, Aa, trivial⟩, W⟩ fun s o a w H L3 hR => ?_
  obtain ⟨x4, x5⟩ := s
  obtain ⟨v7, F, W⟩ := hR
  have F : Fr 36 [] [(1, .int .i64 p1), (4, .slice none 0 0), (5, v7), (23, v1), (24, .int .i64 (p0.un.2.2.2.length : Int)), (25, .int .i64 x5)] a := F
  have W : Stw ⟨Y, [], w0⟩ [(b1, [.int .i64 p0.un.1, .int .i64 p0.un.2.1, .int .i64 p0.un.2.2.1, v1])] [row v7 3 (Rp.int .i64) x4] w := W
  rw [Ck] at H
  refine Aj (Ae ?_)
  refine ls F W Aa (Cy F Aa Aa).q fun a w F W => ?_
  refine Ag (Ad (Aj ?_))
  refine Ay F Aa (fun hb => ?_) fun hb => ?_
  ·
   have H := AW (Bm hb) H
   rw [hb] at F
   clear hb
   refine Aw (Ad (Aj (AA (Aj (Ae ?_)))))
   obtain ⟨x6, h3, H⟩ := Am H
   obtain ⟨v8, h4, h5⟩ := DL h1 h3
   have h6 : Fd v8 = [.int .i64 x6.un.1, .int .i64 x6.un.2.1, .int .i64 x6.un.2.2.1, (v8.2.2.2.1)] := congrArg (fun q : Tr31 => ([.int .i64 q.un.1, .int .i64 q.un.2.1, .int .i64 q.un.2.2.1, (v8.2.2.2.1)] : List Value)) h5
   refine ls F W Aa (AG (r := Gm) Ke F Aa Aa (Av h_v1) h4).q fun a w F W => ?_
   refine ls F W Aa (Ax (y := Value.agg #[.int .i64 x6.un.1, .int .i64 x6.un.2.1, .int .i64 x6.un.2.2.1, (v8.2.2.2.1)]) (j := 0) (i := x5) (enc := Fd) F Aa Aa (Av h_v1) h4 IH EA (by rw [h6]; rfl)).q fun a w F W => ?_
   refine CK (cs := [.int .i64 0, .int .i64 0, .int .i64 0, .slice none 0 0]) F W Aa KD Aa fun b2 a w F W => ?_
   refine BN (vs := [.int .i64 x6.un.1, .int .i64 x6.un.2.1, .int .i64 x6.un.2.2.1, (v8.2.2.2.1)]) (M' := [(b2, [.int .i64 x6.un.1, .int .i64 x6.un.2.1, .int .i64 x6.un.2.2.1, (v8.2.2.2.1)]), (b1, [.int .i64 p0.un.1, .int .i64 p0.un.2.1, .int .i64 p0.un.2.2.1, v1])]) 0 F W Aa Aa Aa EA Aa Aa Aa (AB Aa (AB Aa (AB Aa (AB ((CG (Av h_v1) h4 (A5.snd (A5.snd (A5.snd A5.here))) (congrArg (fun q : Tr31 => q.un.2.2.2) h5)) _ W).one CZ)))) Aa fun w W => ?_
   refine Ag (Ad (Ae ?_))
   refine ls F W Aa (Ai F Aa).q fun a w F W => ?_
   refine ls F W Aa (Aq (v := Value.agg #[.int .i64 x6.un.1, .int .i64 x6.un.2.1, .int .i64 x6.un.2.2.1, (v8.2.2.2.1)]) 0 F Aa Aa EA Aa).q fun a w F W => ?_
   refine ls F W Aa (Ai F Aa).q fun a w F W => ?_
   obtain ⟨x7, h7, H⟩ := Am H
   refine BD (Ml := []) (Zl := []) (M := [(b2, [.int .i64 x6.un.1, .int .i64 x6.un.2.1, .int .i64 x6.un.2.2.1, (v8.2.2.2.1)]), (b1, [.int .i64 p0.un.1, .int .i64 p0.un.2.1, .int .i64 p0.un.2.2.1, v1])]) (Z := [row v7 3 (Rp.int .i64) x4]) (β := Value) (rv := fun x => x) (MM := fun x => []) (ZZ := fun x => [row x 3 (Rp.int .i64) x7]) F W SC Aa Aa (fun hL => ih _ w ((v8.2.2.2.1)) x6 p1 _ h7 ((CG (Av h_v1) h4 (A5.snd (A5.snd (A5.snd A5.here))) (congrArg (fun q : Tr31 => q.un.2.2.2) h5)) w W).nx) fun x a w F W => ?_
   obtain ⟨v9, rfl⟩ : ∃ y, y = x := ⟨x, rfl⟩
   have W : Stw ⟨Y, [], w0⟩ [(b2, [.int .i64 x6.un.1, .int .i64 x6.un.2.1, .int .i64 x6.un.2.2.1, (v8.2.2.2.1)]), (b1, [.int .i64 p0.un.1, .int .i64 p0.un.2.1, .int .i64 p0.un.2.2.1, v1])] [row v9 3 (Rp.int .i64) x7, row v7 3 (Rp.int .i64) x4] w := W
   obtain ⟨x8, h8, H⟩ := Am H
   refine E8 (r := (Rp.int .i64)) (i := 1) F W Aa Ds Aa Aa Aa Aa (FN W 0 Aa) h8 Aa fun v10 a w F W => ?_
   have W : Stw ⟨Y, [], w0⟩ [(b2, [.int .i64 x6.un.1, .int .i64 x6.un.2.1, .int .i64 x6.un.2.2.1, (v8.2.2.2.1)]), (b1, [.int .i64 p0.un.1, .int .i64 p0.un.2.1, .int .i64 p0.un.2.2.1, v1])] [row v10 3 (Rp.int .i64) x8, row v9 3 (Rp.int .i64) x7] w := W
   refine ls F W Aa (Ah F Aa).q fun a w F W => ?_
   refine Ag (A8 (Ad (Ae ?_)))
   refine ls F W Aa (BC F Aa Aa Aa).q fun a w F W => ?_
   refine ls F W Aa (Ai F Aa).q fun a w F W => ?_
   refine Ag (Ad ?_)
   have W := W.frontM (i := 1) Aa Aa
   have W := W.sub (M' := [(b1, [.int .i64 p0.un.1, .int .i64 p0.un.2.1, .int .i64 p0.un.2.2.1, v1])]) (Z' := [row v10 3 (Rp.int .i64) x8]) (List.Sublist.cons_cons _ (List.nil_sublist _)) (List.Sublist.cons_cons _ (List.nil_sublist _))
   exact ⟨_, H, (v10), F.re ⟨rfl, Aa, Aa, Aa, Aa, Aa, trivial⟩, W⟩
  have H := AX (Bl hb) H
  rw [hb] at F
  clear hb
  refine Bx ?_
  iterate 2 refine BO ?_
  refine Bz (Ad ?_)
  have H := L3 _ H
  exact ⟨_, (v7), H, F.re ⟨rfl, Aa, trivial⟩, W⟩
 rintro a w ⟨x3, v6, hj, F, W⟩
 have hj := AM hj
 subst hj
 have H := K2
 clear G2 K2
 refine Aj (Ae ?_)
 refine ls F W Aa (Ai F Aa).q fun a w F W => ?_
 refine ls F W Aa (Ah F Aa).q fun a w F W => ?_
 refine Ag (Ad (Az ?_))
 have H := AM H
 subst H
 refine AQ (.inl Aa) F W Aa (AD F Aa) ?_
 have W := W.sub (M' := []) (Z' := [row v6 3 (Rp.int .i64) x3]) (List.nil_sublist _) (List.Sublist.refl _)
 exact ⟨(v6), Aa, W⟩
theorem Jn : ∀ (n : Nat) (Y : Nat → Prop) (w0 : World) (v1 : Value) (p0 : Tr31) (p1 : Int) (r : List Int) (H : Cu n p0 p1 = some r) (h_v1 : Sl w0 (NX []) BJ v1 p0.un.2.2.2), Calls Tryd.prog 41 #[.agg #[.int .i64 p0.un.1, .int .i64 p0.un.2.1, .int .i64 p0.un.2.2.1, v1], .int .i64 p1] w0 fun e w' => ∃ x : Value, e = .returned (x) ∧ Stw ⟨Y, [], w0⟩ [] [row (x) 3 (Rp.int .i64) r] w' := by
  intro n
  induction n with
  | zero => intro Y w0 v1 p0 p1 r H; exact nomatch H
  | succ n ih => intro Y w0 v1 p0 p1 r H h_v1; exact IM (Cu n) ih Y w0 v1 p0 p1 r H h_v1
theorem J0 (Y : Nat → Prop) (w0 : World) (v1 : Value) (p0 : Tr31) (p1 : Int) (r : List Int) (H : GQ p0 p1 = some r) (h_v1 : Sl w0 (NX []) BJ v1 p0.un.2.2.2) :
    Calls Tryd.prog 41 #[.agg #[.int .i64 p0.un.1, .int .i64 p0.un.2.1, .int .i64 p0.un.2.2.1, v1], .int .i64 p1] w0 fun e w' => ∃ x : Value, e = .returned (x) ∧ Stw ⟨Y, [], w0⟩ [] [row (x) 3 (Rp.int .i64) r] w' := by
  obtain ⟨n, H⟩ := Cs H
  exact Jn n Y w0 v1 p0 p1 r H h_v1
theorem RN : type_of% Tryd.underlying3 := Tryd.underlying3
theorem SS : type_of% Tryd.underlying5 := Tryd.underlying5
theorem Sk : type_of% Tryd.underlying9 := Tryd.underlying9
theorem Sq : type_of% Tryd.underlying88 := Tryd.underlying88
noncomputable def Fb (p0 : Int) : Option Int := (if 4294967296 ≤ p0 then some (FU .u64 p0 32, 32) else some (p0, 0)).bind fun (x1, x2) => (if 65536 ≤ x1 then some (FU .u64 x1 16, A1 (x2 + 16)) else some (x1, x2)).bind fun (x3, x4) => (if 256 ≤ x3 then some (FU .u64 x3 8, A1 (x4 + 8)) else some (x3, x4)).bind fun (x5, x6) => (ix ([0, 1, 2, 2, 3, 3, 3, 3, 4, 4, 4, 4, 4, 4, 4, 4, 5, 5, 5, 5, 5, 5, 5, 5, 5, 5, 5, 5, 5, 5, 5, 5, 6, 6, 6, 6, 6, 6, 6, 6, 6, 6, 6, 6, 6, 6, 6, 6, 6, 6, 6, 6, 6, 6, 6, 6, 6, 6, 6, 6, 6, 6, 6, 6, 7, 7, 7, 7, 7, 7, 7, 7, 7, 7, 7, 7, 7, 7, 7, 7, 7, 7, 7, 7, 7, 7, 7, 7, 7, 7, 7, 7, 7, 7, 7, 7, 7, 7, 7, 7, 7, 7, 7, 7, 7, 7, 7, 7, 7, 7, 7, 7, 7, 7, 7, 7, 7, 7, 7, 7, 7, 7, 7, 7, 7, 7, 7, 7, 8, 8, 8, 8, 8, 8, 8, 8, 8, 8, 8, 8, 8, 8, 8, 8, 8, 8, 8, 8, 8, 8, 8, 8, 8, 8, 8, 8, 8, 8, 8, 8, 8, 8, 8, 8, 8, 8, 8, 8, 8, 8, 8, 8, 8, 8, 8, 8, 8, 8, 8, 8, 8, 8, 8, 8, 8, 8, 8, 8, 8, 8, 8, 8, 8, 8, 8, 8, 8, 8, 8, 8, 8, 8, 8, 8, 8, 8, 8, 8, 8, 8, 8, 8, 8, 8, 8, 8, 8, 8, 8, 8, 8, 8, 8, 8, 8, 8, 8, 8, 8, 8, 8, 8, 8, 8, 8, 8, 8, 8, 8, 8, 8, 8, 8, 8, 8, 8, 8, 8, 8, 8, 8, 8, 8, 8, 8, 8] : List UInt8) (IntKind.u8.wrap x5)).bind fun x7 => some (A1 (x6 + (A1 (x7.toNat : Int))))
theorem Jd (Y : Nat → Prop) (w0 : World)  (p0 : Int) (r : Int) (H : Fb p0 = some r)  :
    Calls Tryd.prog 70 #[.int .u64 p0] w0 fun e w' => e = .returned (.int .i64 r) ∧ Below w0.heap.size w0 w' := by
 refine enter Tryd.func70 Aa Tryd.ntmps70 Aa fun a F => ?_
 have W := Stw.start Y w0
 unfold Fb at H
 refine Aj (Ae ?_)
 refine ls F W Aa (Ah F Aa).q fun a w F W => ?_
 refine Ag (Ad ?_)
 obtain ⟨o1, G1, K1⟩ := Am H
 refine AO (fun a w => ∃ x1 : Int, ∃ x2 : Int, some ((x1, x2)) = some o1 ∧ Fr 25 [] [(0, .int .u64 x1), (2, .int .i64 x2)] a ∧ Stw ⟨Y, [], w0⟩ [] [] w) ?_ ?_
 ·
  have H := G1
  clear G1 K1
  refine Aj (Ae ?_)
  refine ls F W Aa (Ai F Aa).q fun a w F W => ?_
  refine ls F W Aa (D6 F Aa Aa).q fun a w F W => ?_
  refine Ag (Ad ?_)
  refine Ay F Aa (fun hb => ?_) fun hb => ?_
  ·
   have H := AW (Bm hb) H
   rw [hb] at F
   clear hb
   refine Aj (Ae ?_)
   refine ls F W Aa (Ai F Aa).q fun a w F W => ?_
   refine ls F W Aa (OE F Aa Aa (by decide)).q fun a w F W => ?_
   refine ls F W Aa (Ah F Aa).q fun a w F W => ?_
   refine Ag (Ad (Ae ?_))
   refine ls F W Aa (Ah F Aa).q fun a w F W => ?_
   refine Ag (Ad ?_)
   exact ⟨_, _, H, F.re ⟨rfl, Aa, trivial⟩, W⟩
  have H := AX (Bl hb) H
  rw [hb] at F
  clear hb
  refine Aw (Ad ?_)
  exact ⟨_, _, H, F.re ⟨rfl, Aa, trivial⟩, W⟩
 rintro a w ⟨x1, x2, hj, F, W⟩
 have hj := AM hj
 subst hj
 have H := K1
 clear G1 K1
 obtain ⟨o2, G2, K2⟩ := Am H
 refine AO (fun a w => ∃ x3 : Int, ∃ x4 : Int, some ((x3, x4)) = some o2 ∧ Fr 25 [] [(0, .int .u64 x3), (2, .int .i64 x4)] a ∧ Stw ⟨Y, [], w0⟩ [] [] w) ?_ ?_
 ·
  have H := G2
  clear G2 K2
  refine Aj (Ae ?_)
  refine ls F W Aa (Ai F Aa).q fun a w F W => ?_
  refine ls F W Aa (D6 F Aa Aa).q fun a w F W => ?_
  refine Ag (Ad ?_)
  refine Ay F Aa (fun hb => ?_) fun hb => ?_
  ·
   have H := AW (Bm hb) H
   rw [hb] at F
   clear hb
   refine Aj (Ae ?_)
   refine ls F W Aa (Ai F Aa).q fun a w F W => ?_
   refine ls F W Aa (OE F Aa Aa (by decide)).q fun a w F W => ?_
   refine ls F W Aa (Ah F Aa).q fun a w F W => ?_
   refine Ag (Ad (Ae ?_))
   refine ls F W Aa (Ai F Aa).q fun a w F W => ?_
   refine ls F W Aa (BC F Aa Aa Aa).q fun a w F W => ?_
   refine ls F W Aa (Ah F Aa).q fun a w F W => ?_
   refine Ag (Ad ?_)
   exact ⟨_, _, H, F.re ⟨rfl, Aa, trivial⟩, W⟩
  have H := AX (Bl hb) H
  rw [hb] at F
  clear hb
  refine Aw (Ad ?_)
  exact ⟨_, _, H, F.re ⟨rfl, Aa, trivial⟩, W⟩
 rintro a w ⟨x3, x4, hj, F, W⟩
 have hj := AM hj
 subst hj
 have H := K2
 clear G2 K2
 obtain ⟨o3, G3, K3⟩ := Am H
 refine AO (fun a w => ∃ x5 : Int, ∃ x6 : Int, some ((x5, x6)) = some o3 ∧ Fr 25 [] [(0, .int .u64 x5), (2, .int .i64 x6)] a ∧ Stw ⟨Y, [], w0⟩ [] [] w) ?_ ?_
 ·
  have H := G3
  clear G3 K3
  refine Aj (Ae ?_)
  refine ls F W Aa (Ai F Aa).q fun a w F W => ?_
  refine ls F W Aa (D6 F Aa Aa).q fun a w F W => ?_
  refine Ag (Ad ?_)
  refine Ay F Aa (fun hb => ?_) fun hb => ?_
  ·
   have H := AW (Bm hb) H
   rw [hb] at F
   clear hb
   refine Aj (Ae ?_)
   refine ls F W Aa (Ai F Aa).q fun a w F W => ?_
   refine ls F W Aa (OE F Aa Aa (by decide)).q fun a w F W => ?_
   refine ls F W Aa (Ah F Aa).q fun a w F W => ?_
   refine Ag (Ad (Ae ?_))
   refine ls F W Aa (Ai F Aa).q fun a w F W => ?_
   refine ls F W Aa (BC F Aa Aa Aa).q fun a w F W => ?_
   refine ls F W Aa (Ah F Aa).q fun a w F W => ?_
   refine Ag (Ad ?_)
   exact ⟨_, _, H, F.re ⟨rfl, Aa, trivial⟩, W⟩
  have H := AX (Bl hb) H
  rw [hb] at F
  clear hb
  refine Aw (Ad ?_)
  exact ⟨_, _, H, F.re ⟨rfl, Aa, trivial⟩, W⟩
 rintro a w ⟨x5, x6, hj, F, W⟩
 have hj := AM hj
 subst hj
 have H := K3
 clear G3 K3
 refine Aj (Ae ?_)
 iterate 2 refine ls F W Aa (Ai F Aa).q fun a w F W => ?_
 refine ls F W Aa (Ic Sq SS F Aa).q fun a w F W => ?_
 obtain ⟨x7, h1, H⟩ := Am H
 refine ls F W Aa (PF (l := ([0, 1, 2, 2, 3, 3, 3, 3, 4, 4, 4, 4, 4, 4, 4, 4, 5, 5, 5, 5, 5, 5, 5, 5, 5, 5, 5, 5, 5, 5, 5, 5, 6, 6, 6, 6, 6, 6, 6, 6, 6, 6, 6, 6, 6, 6, 6, 6, 6, 6, 6, 6, 6, 6, 6, 6, 6, 6, 6, 6, 6, 6, 6, 6, 7, 7, 7, 7, 7, 7, 7, 7, 7, 7, 7, 7, 7, 7, 7, 7, 7, 7, 7, 7, 7, 7, 7, 7, 7, 7, 7, 7, 7, 7, 7, 7, 7, 7, 7, 7, 7, 7, 7, 7, 7, 7, 7, 7, 7, 7, 7, 7, 7, 7, 7, 7, 7, 7, 7, 7, 7, 7, 7, 7, 7, 7, 7, 7, 8, 8, 8, 8, 8, 8, 8, 8, 8, 8, 8, 8, 8, 8, 8, 8, 8, 8, 8, 8, 8, 8, 8, 8, 8, 8, 8, 8, 8, 8, 8, 8, 8, 8, 8, 8, 8, 8, 8, 8, 8, 8, 8, 8, 8, 8, 8, 8, 8, 8, 8, 8, 8, 8, 8, 8, 8, 8, 8, 8, 8, 8, 8, 8, 8, 8, 8, 8, 8, 8, 8, 8, 8, 8, 8, 8, 8, 8, 8, 8, 8, 8, 8, 8, 8, 8, 8, 8, 8, 8, 8, 8, 8, 8, 8, 8, 8, 8, 8, 8, 8, 8, 8, 8, 8, 8, 8, 8, 8, 8, 8, 8, 8, 8, 8, 8, 8, 8, 8, 8, 8, 8, 8, 8, 8, 8, 8, 8] : List UInt8)) Sk F Aa Aa h1).q fun a w F W => ?_
 refine ls F W Aa (Ic SS RN F Aa).q fun a w F W => ?_
 refine ls F W Aa (BC F Aa Aa Aa).q fun a w F W => ?_
 refine ls F W Aa (Ah F Aa).q fun a w F W => ?_
 refine Ag (Ad (Az ?_))
 have H := AM H
 subst H
 refine AQ (.inl Aa) F W Aa (AD F Aa) ?_
 exact ⟨rfl, W.done⟩
theorem Th : Has Tryd.prog 70 := ⟨fun args w => Ao Tryd.func70 rfl (by decide) args w⟩
noncomputable def EL (p0 : Int) : Option Int := (Fb p0).bind fun x1 => some x1
theorem Hs (Y : Nat → Prop) (w0 : World)  (p0 : Int) (r : Int) (H : EL p0 = some r)  :
    Calls Tryd.prog 56 #[.int .u64 p0] w0 fun e w' => e = .returned (.int .i64 r) ∧ Below w0.heap.size w0 w' := by
 refine enter Tryd.func56 Aa Tryd.ntmps56 Aa fun a F => ?_
 have W := Stw.start Y w0
 unfold EL at H
 refine Aj (Ae ?_)
 refine ls F W Aa (Ah F Aa).q fun a w F W => ?_
 refine Ag (Ad (Aj ?_))
 refine PX F Aa ?_
 refine Aw (Ad (Aj (Ae ?_)))
 refine ls F W Aa (Ai F Aa).q fun a w F W => ?_
 obtain ⟨x1, h1, H⟩ := Am H
 refine ls F W Aa (AU (v := Value.int .i64 x1) F Th Aa (fun w W => Jd any w p0 _ h1)) fun a w F W => ?_
 refine ls F W Aa (Ah F Aa).q fun a w F W => ?_
 refine Ag (Ad (Az ?_))
 have H := AM H
 subst H
 refine AQ (.inl Aa) F W Aa (AD F Aa) ?_
 exact ⟨rfl, W.done⟩
theorem SO : Has Tryd.prog 56 := ⟨fun args w => Ao Tryd.func56 rfl (by decide) args w⟩
def BV (p0 : Int) : Bool := decide (p0 ≠ p0)
theorem Ht (Y : Nat → Prop) (w0 : World)  (p0 : Int) (r : Bool) (H : BV p0 = r)  :
    Calls Tryd.prog 80 #[.int .i64 p0] w0 fun e w' => e = .returned (.bool r) ∧ Below w0.heap.size w0 w' := by
 refine enter Tryd.func80 Aa Tryd.ntmps80 Aa fun a F => ?_
 have W := Stw.start Y w0
 unfold BV at H
 refine Aj (Ae ?_)
 refine ls F W Aa (Ah F Aa).q fun a w F W => ?_
 refine Ag (Ad (Aj (Ae ?_)))
 iterate 2 refine ls F W Aa (Ai F Aa).q fun a w F W => ?_
 refine ls F W Aa (E7 F Aa Aa).q fun a w F W => ?_
 refine ls F W Aa (Ah F Aa).q fun a w F W => ?_
 refine Ag (Ad (Az ?_))
 subst H
 refine AQ (.inl Aa) F W Aa (AD F Aa) ?_
 exact ⟨rfl, W.done⟩
theorem ST : Has Tryd.prog 80 := ⟨fun args w => Ao Tryd.func80 rfl (by decide) args w⟩
def Be (p0 : Int) (p1 : Int) : Bool := (bif (BV p0) then (!(BV p1) || decide (p0 < p1)) else decide (p0 < p1))
theorem B9 (Y : Nat → Prop) (w0 : World)  (p0 : Int) (p1 : Int) (r : Bool) (H : Be p0 p1 = r)  :
    Calls Tryd.prog 66 #[.int .i64 p0, .int .i64 p1] w0 fun e w' => e = .returned (.bool r) ∧ Below w0.heap.size w0 w' := by
 refine enter Tryd.func66 Aa Tryd.ntmps66 Aa fun a F => ?_
 have W := Stw.start Y w0
 unfold Be at H
 refine Aj (Ae ?_)
 refine ls F W Aa (Ah F Aa).q fun a w F W => ?_
 refine Ag (Ad ?_)
 refine AO (fun a w => Fr 17 [] [(4, .bool (bif (BV p0) then (!(BV p1) || decide (p0 < p1)) else decide (p0 < p1)))] a ∧ Stw ⟨Y, [], w0⟩ [] [] w) ?_ ?_
 ·
  refine Ae ?_
  refine ls F W Aa (Ai F Aa).q fun a w F W => ?_
  refine ls F W Aa (AU (v := Value.bool (BV p0)) F ST Aa (fun w W => Ht any w p0 _ Aa)) fun a w F W => ?_
  refine ls F W Aa (Ai F Aa).q fun a w F W => ?_
  rcases Bool.eq_false_or_eq_true (BV p0) with hb0 | hb0
  ·
   rw [hb0] at F
   refine AL F W (Af F Aa Aa Aa Aa) Aa (An Aa) (Ai F Aa).q fun a w F W => ?_
   refine Fv (Af F Aa Aa Aa Aa) ?_
   refine ls F W Aa (AU (v := Value.bool (BV p1)) F ST Aa (fun w W => Ht any w p1 _ Aa)) fun a w F W => ?_
   refine AL F W (Af F Aa Aa Aa Aa) Aa (An Aa) (ET F Aa).q fun a w F W => ?_
   refine ls F W Aa (Au F Aa Aa Aa).q fun a w F W => ?_
   refine ls F W Aa (Ai F Aa).q fun a w F W => ?_
   rcases Bool.eq_false_or_eq_true (!(BV p1)) with hb1 | hb1
   ·
    rw [hb1] at F
    iterate 3 refine CD F Aa Aa Aa Aa Aa Aa Aa fun a F => ?_
    refine ls F W Aa (Au F Aa Aa Aa).q fun a w F W => ?_
    refine ls F W Aa (Ah F Aa).q fun a w F W => ?_
    refine Ag (Ad ?_)
    exact ⟨F.re ⟨(by show some (Value.bool true) = some (Value.bool (bif (BV p0) then (!(BV p1) || decide (p0 < p1)) else decide (p0 < p1))); try rw [hb1]; try rw [hb0]; all_goals simp only [Bool.not_true, Bool.not_false, Bool.true_and, Bool.false_and, Bool.true_or, Bool.false_or, Bool.and_true, Bool.or_false, cond_true, cond_false]), trivial⟩, W⟩
   rw [hb1] at F
   iterate 2 refine AL F W (Af F Aa Aa Aa Aa) Aa (An Aa) (Ai F Aa).q fun a w F W => ?_
   refine AL F W (Af F Aa Aa Aa Aa) Aa (An Aa) (Cy F Aa Aa).q fun a w F W => ?_
   refine ls F W Aa (As F Aa Aa Aa).q fun a w F W => ?_
   refine ls F W Aa (Ah F Aa).q fun a w F W => ?_
   refine Ag (Ad ?_)
   exact ⟨F.re ⟨(by show some (Value.bool (decide (p0 < p1))) = some (Value.bool (bif (BV p0) then (!(BV p1) || decide (p0 < p1)) else decide (p0 < p1))); try rw [hb1]; try rw [hb0]; all_goals simp only [Bool.not_true, Bool.not_false, Bool.true_and, Bool.false_and, Bool.true_or, Bool.false_or, Bool.and_true, Bool.or_false, cond_true, cond_false]), trivial⟩, W⟩
  rw [hb0] at F
  iterate 3 refine CD F Aa Aa Aa Aa Aa Aa Aa fun a F => ?_
  refine ls F W Aa (As F Aa Aa Aa).q fun a w F W => ?_
  refine ls F W Aa (Ai F Aa).q fun a w F W => ?_
  iterate 2 refine AL F W (Af F Aa Aa Aa Aa) Aa (An Aa) (Ai F Aa).q fun a w F W => ?_
  refine AL F W (Af F Aa Aa Aa Aa) Aa (An Aa) (Cy F Aa Aa).q fun a w F W => ?_
  refine ls F W Aa (As F Aa Aa Aa).q fun a w F W => ?_
  refine ls F W Aa (Ah F Aa).q fun a w F W => ?_
  refine Ag (Ad ?_)
  exact ⟨F.re ⟨(by show some (Value.bool (decide (p0 < p1))) = some (Value.bool (bif (BV p0) then (!(BV p1) || decide (p0 < p1)) else decide (p0 < p1))); try rw [hb0]; all_goals simp only [Bool.not_true, Bool.not_false, Bool.true_and, Bool.false_and, Bool.true_or, Bool.false_or, Bool.and_true, Bool.or_false, cond_true, cond_false]), trivial⟩, W⟩
 rintro a w ⟨F, W⟩
 refine Az ?_
 subst H
 refine AQ (.inl Aa) F W Aa (AD F Aa) ?_
 exact ⟨rfl, W.done⟩
theorem Om : Has Tryd.prog 66 := ⟨fun args w => Ao Tryd.func66 rfl (by decide) args w⟩
noncomputable def Bn (p1 : Int) : (List Int × Int) → Option ((List Int × Int) ⊕ (List Int))
  | (x4, x5) => (if p1 < x5 then (ix x4 x5).bind fun x7 => (ix x4 (A1 (x5 - 1))).bind fun x8 => some (Be x7 x8) else some false).bind fun x6 => (if x6 = true then (ix x4 (A1 (x5 - 1))).bind fun x9 => (ix x4 x5).bind fun x10 => (ix x4 x5).bind fun x11 => (ix (Bd x4 x5 x9) (A1 (x5 - 1))).bind fun x12 => some (.inl ((Bd (Bd x4 x5 x9) (A1 (x5 - 1)) x10), A1 (x5 - 1))) else some (.inr x4))
noncomputable def BM (p1 : Int) (p2 : Int) : (List Int × Int) → Option ((List Int × Int) ⊕ (List Int))
  | (x1, x2) => (if x2 < p2 then (A3 (Bn p1) (x1, x2)).bind fun x3 => some (.inl (x3, A1 (x2 + 1))) else some (.inr x1))
noncomputable def Cf (p0 : List Int) (p1 : Int) (p2 : Int) : Option (List Int) := A3 (BM p1 p2) (p0, A1 (p1 + 1))
theorem Fk (Y : Nat → Prop) (X : List Nat) (w0 : World) (v1 : Value) (p0 : List Int) (p1 : Int) (p2 : Int) (r : List Int) (H : Cf p0 p1 p2 = some r) (hL : Stw ⟨Y, X, w0⟩ [] [row v1 3 (Rp.int .i64) p0] w0) :
    Calls Tryd.prog 60 #[v1, .int .i64 p1, .int .i64 p2] w0 fun e w' => ∃ x : Unit, e = .returned (.tuple #[]) ∧ Stw ⟨Y, X, w0⟩ [] [row v1 3 (Rp.int .i64) r] w' := by
 refine enter Tryd.func60 Aa Tryd.ntmps60 Aa fun a F => ?_
 have W := hL
 unfold Cf at H
 refine Aj (Ae ?_)
 refine ls F W Aa (Ai F Aa).q fun a w F W => ?_
 refine ls F W Aa (BC F Aa Aa Aa).q fun a w F W => ?_
 refine ls F W Aa (Ah F Aa).q fun a w F W => ?_
 refine Ag (Ad (AA ?_))
 refine BI H (fun s a w => Fr 49 [] [(0, v1), (1, .int .i64 p1), (2, .int .i64 p2), (6, .int .i64 s.2)] a ∧ Stw ⟨Y, X, w0⟩ [] [row v1 3 (Rp.int .i64) s.1] w) ⟨F.re ⟨rfl, Aa, Aa, Aa, trivial⟩, W⟩ fun s o a w H L1 hR => ?_
 obtain ⟨x1, x2⟩ := s
 obtain ⟨F, W⟩ := hR
 have F : Fr 49 [] [(0, v1), (1, .int .i64 p1), (2, .int .i64 p2), (6, .int .i64 x2)] a := F
 have W : Stw ⟨Y, X, w0⟩ [] [row v1 3 (Rp.int .i64) x1] w := W
 rw [BM] at H
 refine Aj (Aj (Ae ?_))
 iterate 2 refine ls F W Aa (Ai F Aa).q fun a w F W => ?_
 refine ls F W Aa (Cy F Aa Aa).q fun a w F W => ?_
 refine Ag (Ad ?_)
 refine Ay F Aa (fun hb => ?_) fun hb => ?_
 ·
  have H := AW (Bm hb) H
  rw [hb] at F
  clear hb
  refine Aw (Ad ?_)
  obtain ⟨o2, G2, K2⟩ := Am H
  refine AO (fun a w => ∃ x3 : List Int, some (x3) = some o2 ∧ Fr 49 [] [(0, v1), (1, .int .i64 p1), (2, .int .i64 p2), (6, .int .i64 x2)] a ∧ Stw ⟨Y, X, w0⟩ [] [row v1 3 (Rp.int .i64) x3] w) ?_ ?_
  ·
   have H := G2
   clear G2 K2
   refine AA (Aj (Ae ?_))
   refine ls F W Aa (Ai F Aa).q fun a w F W => ?_
   refine ls F W Aa (Ah F Aa).q fun a w F W => ?_
   refine Ag (Ad (AA ?_))
   refine BI H (fun s a w => Fr 49 [] [(0, v1), (1, .int .i64 p1), (2, .int .i64 p2), (6, .int .i64 x2), (7, .int .i64 s.2)] a ∧ Stw ⟨Y, X, w0⟩ [] [row v1 3 (Rp.int .i64) s.1] w) ⟨F.re ⟨rfl, Aa, Aa, Aa, Aa, trivial⟩, W⟩ fun s o a w H L3 hR => ?_
   obtain ⟨x4, x5⟩ := s
   obtain ⟨F, W⟩ := hR
   have F : Fr 49 [] [(0, v1), (1, .int .i64 p1), (2, .int .i64 p2), (6, .int .i64 x2), (7, .int .i64 x5)] a := F
   have W : Stw ⟨Y, X, w0⟩ [] [row v1 3 (Rp.int .i64) x4] w := W
   rw [Bn] at H
   refine Aj ?_
   obtain ⟨o4, G4, K4⟩ := Am H
   refine AO (fun a w => ∃ x6 : Bool, some (x6) = some o4 ∧ Fr 49 [] [(0, v1), (1, .int .i64 p1), (2, .int .i64 p2), (6, .int .i64 x2), (7, .int .i64 x5), (30, .bool x6)] a ∧ Stw ⟨Y, X, w0⟩ [] [row v1 3 (Rp.int .i64) x4] w) ?_ ?_
   ·
    have H := G4
    clear G4 K4
    refine BS W MO (by kernel_rfl) ?_
    iterate 2 refine qs F Aa (Ai F Aa).q fun a F => ?_
    refine qs F Aa (EW F Aa Aa).q fun a F => ?_
    refine qs F Aa (Ai F Aa).q fun a F => ?_
    rcases Bool.eq_false_or_eq_true (decide (p1 < x5)) with hb | hb
    ·
     have H := AW (Bm hb) H
     rw [hb] at F
     clear hb
     iterate 2 refine Bi F (Af F Aa Aa Aa Aa) Aa (An Aa) (Ai F Aa).q fun a F => ?_
     obtain ⟨x7, h1, H⟩ := Am H
     refine Bi F (Af F Aa Aa Aa Aa) Aa (An Aa) (AG (r := (Rp.int .i64)) Ds F Aa Aa (Ap 0 Aa) h1).q fun a F => ?_
     refine Bi F (Af F Aa Aa Aa Aa) Aa (An Aa) (Ax (y := Value.int .i64 x7) (j := 0) (i := x5) F Aa Aa (Ap 0 Aa) h1 Fl.int.to T3 Aa).q fun a F => ?_
     iterate 2 refine Bi F (Af F Aa Aa Aa Aa) Aa (An Aa) (Ai F Aa).q fun a F => ?_
     refine Bi F (Af F Aa Aa Aa Aa) Aa (An Aa) (Cn F Aa Aa Aa).q fun a F => ?_
     obtain ⟨x8, h2, H⟩ := Am H
     refine Bi F (Af F Aa Aa Aa Aa) Aa (An Aa) (AG (r := (Rp.int .i64)) Ds F Aa Aa (Ap 0 Aa) h2).q fun a F => ?_
     refine Bi F (Af F Aa Aa Aa Aa) Aa (An Aa) (Ax (y := Value.int .i64 x8) (j := 0) (i := A1 (x5 - 1)) F Aa Aa (Ap 0 Aa) h2 Fl.int.to T3 Aa).q fun a F => ?_
     refine Bi F (Af F Aa Aa Aa Aa) Aa (An Aa) (AU (v := Value.bool (Be x7 x8)) F Om Aa (fun w W => B9 any w x7 x8 _ Aa)) fun a F => ?_
     refine qs F Aa (Au F Aa Aa Aa).q fun a F => ?_
     refine A2 fun w W => ?_
     refine Ad ?_
     exact ⟨_, H, F.re ⟨rfl, Aa, Aa, Aa, Aa, Aa, trivial⟩, W⟩
    have H := AX (Bl hb) H
    rw [hb] at F
    clear hb
    iterate 10 refine Ca F (AH F Aa Aa Aa Aa Aa) Aa Aa fun a F => ?_
    refine qs F Aa (As F Aa Aa Aa).q fun a F => ?_
    refine A2 fun w W => ?_
    refine Ad ?_
    exact ⟨_, H, F.re ⟨rfl, Aa, Aa, Aa, Aa, Aa, trivial⟩, W⟩
   rintro a w ⟨x6, hj, F, W⟩
   have hj := AM hj
   subst hj
   have H := K4
   clear G4 K4
   refine Ay F Aa (fun hb => ?_) fun hb => ?_
   ·
    have H := AW hb H
    rw [hb] at F
    clear hb
    refine Aw (Ad (Aj (AA ?_)))
    refine Eb [(true, 0), (true, 1), (true, 2), (true, 3), (true, 4), (true, 5), (true, 6), (true, 7), (true, 8), (true, 9), (true, 10), (true, 11), (true, 12), (true, 13), (true, 14), (false, 15), (true, 16), (false, 17)] (CN ⟨Y, X, w0⟩ [] [(some 15, row v1 3 (Rp.int .i64) x4)]) (fun ch a d v w h => by cases d <;> exact h) MO (by kernel_rfl) W (fun w W => ⟨_, _, W, Al, (Ab (fun _ => (.head _)) Al)⟩) fun w W => ?_
    iterate 4 refine A6 (R := []) F Aa Aa (yC fun M Z hN hZ => Ai F Aa) Aa Aa fun a F => ?_
    refine A6 (R := []) F Aa Aa (yC fun M Z hN hZ => Cn F Aa Aa Aa) Aa Aa fun a F => ?_
    iterate 2 refine A6 (R := []) F Aa Aa (yC fun M Z hN hZ => Ai F Aa) Aa Aa fun a F => ?_
    refine A6 (R := []) F Aa Aa (yC fun M Z hN hZ => Cn F Aa Aa Aa) Aa Aa fun a F => ?_
    obtain ⟨x9, h3, H⟩ := Am H
    refine A6 (R := []) F Aa Aa (yC fun M Z hN hZ => Ce (r := (Rp.int .i64)) Ds F Aa Aa (D2 W (Ap 0 Aa)) h3) Aa Aa fun a F => ?_
    refine A6 (R := [15]) F Aa Aa (yC fun M Z hN hZ => Ax (y := Value.int .i64 x9) (j := 0) (i := A1 (x5 - 1)) F Aa Aa (DV (hZ ((some 15), row v1 3 (Rp.int .i64) x4) (.head _) Aa)) h3 Fl.int.to T3 Aa) (by kernel_rfl) Aa fun a F => ?_
    iterate 2 refine A6 (R := []) F Aa Aa (yC fun M Z hN hZ => Ai F Aa) Aa Aa fun a F => ?_
    obtain ⟨x10, h4, H⟩ := Am H
    refine A6 (R := []) F Aa Aa (yC fun M Z hN hZ => Ce (r := (Rp.int .i64)) Ds F Aa Aa (D2 W (Ap 0 Aa)) h4) Aa Aa fun a F => ?_
    refine A6 (R := [15]) F Aa Aa (yC fun M Z hN hZ => Ax (y := Value.int .i64 x10) (j := 0) (i := x5) F Aa Aa (DV (hZ ((some 15), row v1 3 (Rp.int .i64) x4) (.head _) Aa)) h4 Fl.int.to T3 Aa) (by kernel_rfl) Aa fun a F => ?_
    obtain ⟨x11, h5, H⟩ := Am H
    refine A6 (R := []) F Aa Aa (yC fun M Z hN hZ => Ce (r := (Rp.int .i64)) Ds F Aa Aa (D2 W (Ap 0 Aa)) h5) Aa Aa fun a F => ?_
    refine BG Aa ?_
    refine Br (i := x5) (j := 0) (vs := [.int .i64 x9]) (x' := x9) F W Aa Aa Aa (k := 0) Aa Aa h5 T3 Aa Aa Aa Aa (fun A cs _ => Fl.int.sto (by rfl) _ _ _) fun w W => ?_
    refine AC (N2 := []) (NZ2 := []) (N3 := []) (NZ3 := [(some 15, row v1 3 (Rp.int .i64) x4)]) W Aa Aa Al (Ab (fun h => Ac (by kernel_rfl) h) Al) ?_
    obtain ⟨x12, h6, H⟩ := Am H
    refine A6 (R := []) F Aa Aa (yC fun M Z hN hZ => Ce (r := (Rp.int .i64)) Ds F Aa Aa (D2 W (Ap 0 Aa)) h6) Aa Aa fun a F => ?_
    refine BG Aa ?_
    refine Br (i := A1 (x5 - 1)) (j := 0) (vs := [.int .i64 x10]) (x' := x10) F W Aa Aa Aa (k := 0) Aa Aa h6 T3 Aa Aa Aa Aa (fun A cs _ => Fl.int.sto (by rfl) _ _ _) fun w W => ?_
    refine AC (N2 := []) (NZ2 := []) (N3 := []) (NZ3 := [(some 15, row v1 3 (Rp.int .i64) x4)]) W Aa Aa Al (Ab (fun h => Ac (by kernel_rfl) h) Al) ?_
    refine DS (A8 (Ad (Ae ?_)))
    refine ls F W Aa (Ai F Aa).q fun a w F W => ?_
    refine ls F W Aa (Cn F Aa Aa Aa).q fun a w F W => ?_
    refine ls F W Aa (Ah F Aa).q fun a w F W => ?_
    refine Ag (Ad ?_)
    exact ⟨_, H, F.re ⟨rfl, Aa, Aa, Aa, Aa, trivial⟩, W⟩
   have H := AX (by rw [hb]; decide) H
   rw [hb] at F
   clear hb
   refine Bx ?_
   iterate 2 refine BO ?_
   refine Bz (A8 (Ad ?_))
   have H := L3 _ H
   exact ⟨_, H, F.re ⟨rfl, Aa, Aa, Aa, trivial⟩, W⟩
  rintro a w ⟨x3, hj, F, W⟩
  have hj := AM hj
  subst hj
  have H := K2
  clear G2 K2
  refine Ae ?_
  refine ls F W Aa (Ai F Aa).q fun a w F W => ?_
  refine ls F W Aa (BC F Aa Aa Aa).q fun a w F W => ?_
  refine ls F W Aa (Ah F Aa).q fun a w F W => ?_
  refine Ag (Ad ?_)
  exact ⟨_, H, F.re ⟨rfl, Aa, Aa, Aa, trivial⟩, W⟩
 have H := AX (Bl hb) H
 rw [hb] at F
 clear hb
 refine Bx ?_
 iterate 2 refine BO ?_
 refine Bz ?_
 have H := L1 _ H
 have H := AM H
 subst H
 refine HQ (.inr Aa) F Aa ?_
 exact ⟨(), Aa, W⟩
theorem Tf : Has Tryd.prog 60 := ⟨fun args w => Ao Tryd.func60 rfl (by decide) args w⟩
noncomputable def Bh (p2 : Int) (p3 : Int) : (List Int × Int) → Option ((List Int × Int) ⊕ (List Int))
  | (x1, x2) => (if p2 ≤ (A1 ((A1 (2 * x2)) + 1)) then some (.inr x1) else ((if (A1 ((A1 ((A1 (2 * x2)) + 1)) + 1)) < p2 then (ix x1 (A1 (p3 + (A1 ((A1 (2 * x2)) + 1))))).bind fun x5 => (ix x1 (A1 ((A1 (p3 + (A1 ((A1 (2 * x2)) + 1)))) + 1))).bind fun x6 => some (Be x5 x6) else some false).bind fun x4 => (if x4 = true then some (A1 ((A1 ((A1 (2 * x2)) + 1)) + 1)) else some (A1 ((A1 (2 * x2)) + 1)))).bind fun x3 => (ix x1 (A1 (p3 + x2))).bind fun x7 => (ix x1 (A1 (p3 + x3))).bind fun x8 => (if (!(Be x7 x8)) = true then some (.inr x1) else (ix x1 (A1 (p3 + x3))).bind fun x9 => (ix x1 (A1 (p3 + x2))).bind fun x10 => (ix x1 (A1 (p3 + x2))).bind fun x11 => (ix (Bd x1 (A1 (p3 + x2)) x9) (A1 (p3 + x3))).bind fun x12 => some (.inl ((Bd (Bd x1 (A1 (p3 + x2)) x9) (A1 (p3 + x3)) x10), x3))))
noncomputable def Cj (p0 : List Int) (p1 : Int) (p2 : Int) (p3 : Int) : Option (List Int) := A3 (Bh p2 p3) (p0, p1)
theorem ED (Y : Nat → Prop) (X : List Nat) (w0 : World) (v1 : Value) (p0 : List Int) (p1 : Int) (p2 : Int) (p3 : Int) (r : List Int) (H : Cj p0 p1 p2 p3 = some r) (hL : Stw ⟨Y, X, w0⟩ [] [row v1 3 (Rp.int .i64) p0] w0) :
    Calls Tryd.prog 75 #[v1, .int .i64 p1, .int .i64 p2, .int .i64 p3] w0 fun e w' => ∃ x : Unit, e = .returned (.tuple #[]) ∧ Stw ⟨Y, X, w0⟩ [] [row v1 3 (Rp.int .i64) r] w' := by
 refine enter Tryd.func75 Aa Tryd.ntmps75 Aa fun a F => ?_
 have W := hL
 unfold Cj at H
 refine Aj (Ae ?_)
 refine ls F W Aa (Ai F Aa).q fun a w F W => ?_
 refine ls F W Aa (Ah F Aa).q fun a w F W => ?_
 refine Ag (Ad (AA ?_))
 refine BI H (fun s a w => Fr 76 [] [(0, v1), (2, .int .i64 p2), (3, .int .i64 p3), (8, .int .i64 s.2)] a ∧ Stw ⟨Y, X, w0⟩ [] [row v1 3 (Rp.int .i64) s.1] w) ⟨F.re ⟨rfl, Aa, Aa, Aa, trivial⟩, W⟩ fun s o a w H L1 hR => ?_
 obtain ⟨x1, x2⟩ := s
 obtain ⟨F, W⟩ := hR
 have F : Fr 76 [] [(0, v1), (2, .int .i64 p2), (3, .int .i64 p3), (8, .int .i64 x2)] a := F
 have W : Stw ⟨Y, X, w0⟩ [] [row v1 3 (Rp.int .i64) x1] w := W
 rw [Bh] at H
 refine AA (Aj (Ae ?_))
 refine ls F W Aa (Ai F Aa).q fun a w F W => ?_
 refine ls F W Aa (LS F Aa Aa Aa).q fun a w F W => ?_
 refine ls F W Aa (BC F Aa Aa Aa).q fun a w F W => ?_
 refine ls F W Aa (Ah F Aa).q fun a w F W => ?_
 refine Ag (Ad (Aj (Aj (Ae ?_))))
 iterate 2 refine ls F W Aa (Ai F Aa).q fun a w F W => ?_
 refine ls F W Aa (D6 F Aa Aa).q fun a w F W => ?_
 refine Ag (Ad ?_)
 refine Ay F Aa (fun hb => ?_) fun hb => ?_
 ·
  have H := AW (Bm hb) H
  rw [hb] at F
  clear hb
  refine Bx (BO ?_)
  refine KK Aa ?_
  refine BO (Bz ?_)
  have H := L1 _ H
  have H := AM H
  subst H
  refine HQ (.inr Aa) F Aa ?_
  exact ⟨(), Aa, W⟩
 have H := AX (Bl hb) H
 rw [hb] at F
 clear hb
 refine Aw (Ad ?_)
 obtain ⟨o2, G2, K2⟩ := Am H
 refine AO (fun a w => ∃ x3 : Int, some (x3) = some o2 ∧ Fr 76 [] [(0, v1), (2, .int .i64 p2), (3, .int .i64 p3), (8, .int .i64 x2), (9, .int .i64 x3)] a ∧ Stw ⟨Y, X, w0⟩ [] [row v1 3 (Rp.int .i64) x1] w) ?_ ?_
 ·
  have H := G2
  clear G2 K2
  obtain ⟨o3, G3, K3⟩ := Am H
  refine AO (fun a w => ∃ x4 : Bool, some (x4) = some o3 ∧ Fr 76 [] [(0, v1), (2, .int .i64 p2), (3, .int .i64 p3), (8, .int .i64 x2), (9, .int .i64 (A1 ((A1 (2 * x2)) + 1))), (36, .bool x4)] a ∧ Stw ⟨Y, X, w0⟩ [] [row v1 3 (Rp.int .i64) x1] w) ?_ ?_
  ·
   have H := G3
   clear G3 K3
   refine BS W MO (by kernel_rfl) ?_
   refine qs F Aa (Ai F Aa).q fun a F => ?_
   refine qs F Aa (BC F Aa Aa Aa).q fun a F => ?_
   refine qs F Aa (Ai F Aa).q fun a F => ?_
   refine qs F Aa (Cy F Aa Aa).q fun a F => ?_
   refine qs F Aa (Ai F Aa).q fun a F => ?_
   rcases Bool.eq_false_or_eq_true (decide ((A1 ((A1 ((A1 (2 * x2)) + 1)) + 1)) < p2)) with hb | hb
   ·
    have H := AW (Bm hb) H
    rw [hb] at F
    clear hb
    iterate 3 refine Bi F (Af F Aa Aa Aa Aa) Aa (An Aa) (Ai F Aa).q fun a F => ?_
    refine Bi F (Af F Aa Aa Aa Aa) Aa (An Aa) (BC F Aa Aa Aa).q fun a F => ?_
    obtain ⟨x5, h1, H⟩ := Am H
    refine Bi F (Af F Aa Aa Aa Aa) Aa (An Aa) (AG (r := (Rp.int .i64)) Ds F Aa Aa (Ap 0 Aa) h1).q fun a F => ?_
    refine Bi F (Af F Aa Aa Aa Aa) Aa (An Aa) (Ax (y := Value.int .i64 x5) (j := 0) (i := A1 (p3 + (A1 ((A1 (2 * x2)) + 1)))) F Aa Aa (Ap 0 Aa) h1 Fl.int.to T3 Aa).q fun a F => ?_
    iterate 3 refine Bi F (Af F Aa Aa Aa Aa) Aa (An Aa) (Ai F Aa).q fun a F => ?_
    iterate 2 refine Bi F (Af F Aa Aa Aa Aa) Aa (An Aa) (BC F Aa Aa Aa).q fun a F => ?_
    obtain ⟨x6, h2, H⟩ := Am H
    refine Bi F (Af F Aa Aa Aa Aa) Aa (An Aa) (AG (r := (Rp.int .i64)) Ds F Aa Aa (Ap 0 Aa) h2).q fun a F => ?_
    refine Bi F (Af F Aa Aa Aa Aa) Aa (An Aa) (Ax (y := Value.int .i64 x6) (j := 0) (i := A1 ((A1 (p3 + (A1 ((A1 (2 * x2)) + 1)))) + 1)) F Aa Aa (Ap 0 Aa) h2 Fl.int.to T3 Aa).q fun a F => ?_
    refine Bi F (Af F Aa Aa Aa Aa) Aa (An Aa) (AU (v := Value.bool (Be x5 x6)) F Om Aa (fun w W => B9 any w x5 x6 _ Aa)) fun a F => ?_
    refine qs F Aa (Au F Aa Aa Aa).q fun a F => ?_
    refine A2 fun w W => ?_
    refine Ad ?_
    exact ⟨_, H, F.re ⟨rfl, Aa, Aa, Aa, Aa, Aa, trivial⟩, W⟩
   have H := AX (Bl hb) H
   rw [hb] at F
   clear hb
   iterate 14 refine Ca F (AH F Aa Aa Aa Aa Aa) Aa Aa fun a F => ?_
   refine qs F Aa (As F Aa Aa Aa).q fun a F => ?_
   refine A2 fun w W => ?_
   refine Ad ?_
   exact ⟨_, H, F.re ⟨rfl, Aa, Aa, Aa, Aa, Aa, trivial⟩, W⟩
  rintro a w ⟨x4, hj, F, W⟩
  have hj := AM hj
  subst hj
  have H := K3
  clear G3 K3
  refine Ay F Aa (fun hb => ?_) fun hb => ?_
  ·
   have H := AW hb H
   rw [hb] at F
   clear hb
   refine Ae ?_
   refine ls F W Aa (Ai F Aa).q fun a w F W => ?_
   refine ls F W Aa (BC F Aa Aa Aa).q fun a w F W => ?_
   refine ls F W Aa (Ah F Aa).q fun a w F W => ?_
   refine Ag (Ad ?_)
   exact ⟨_, H, F.re ⟨rfl, Aa, Aa, Aa, Aa, trivial⟩, W⟩
  have H := AX (by rw [hb]; decide) H
  rw [hb] at F
  clear hb
  refine Aw (Ad ?_)
  exact ⟨_, H, F.re ⟨rfl, Aa, Aa, Aa, Aa, trivial⟩, W⟩
 rintro a w ⟨x3, hj, F, W⟩
 have hj := AM hj
 subst hj
 have H := K2
 clear G2 K2
 iterate 2 refine Aj ?_
 refine BS W MO (by kernel_rfl) ?_
 iterate 3 refine qs F Aa (Ai F Aa).q fun a F => ?_
 refine qs F Aa (BC F Aa Aa Aa).q fun a F => ?_
 obtain ⟨x7, h3, H⟩ := Am H
 refine qs F Aa (AG (r := (Rp.int .i64)) Ds F Aa Aa (Ap 0 Aa) h3).q fun a F => ?_
 refine qs F Aa (Ax (y := Value.int .i64 x7) (j := 0) (i := A1 (p3 + x2)) F Aa Aa (Ap 0 Aa) h3 Fl.int.to T3 Aa).q fun a F => ?_
 iterate 3 refine qs F Aa (Ai F Aa).q fun a F => ?_
 refine qs F Aa (BC F Aa Aa Aa).q fun a F => ?_
 obtain ⟨x8, h4, H⟩ := Am H
 refine qs F Aa (AG (r := (Rp.int .i64)) Ds F Aa Aa (Ap 0 Aa) h4).q fun a F => ?_
 refine qs F Aa (Ax (y := Value.int .i64 x8) (j := 0) (i := A1 (p3 + x3)) F Aa Aa (Ap 0 Aa) h4 Fl.int.to T3 Aa).q fun a F => ?_
 refine qs F Aa (AU (v := Value.bool (Be x7 x8)) F Om Aa (fun w W => B9 any w x7 x8 _ Aa)) fun a F => ?_
 refine qs F Aa (ET F Aa).q fun a F => ?_
 refine A2 fun w W => ?_
 refine Ad ?_
 refine Ay F Aa (fun hb => ?_) fun hb => ?_
 ·
  have H := AW hb H
  rw [hb] at F
  clear hb
  refine Az (AR (Bk (AR (Bk ?_))))
  have H := L1 _ H
  have H := AM H
  subst H
  refine HQ (.inl Aa) F Aa ?_
  exact ⟨(), Aa, W⟩
 have H := AX (by rw [hb]; decide) H
 rw [hb] at F
 clear hb
 refine Aw (Ad (Aj ?_))
 refine Eb [(true, 0), (true, 1), (true, 2), (true, 3), (true, 4), (true, 5), (true, 6), (true, 7), (true, 8), (true, 9), (true, 10), (true, 11), (true, 12), (true, 13), (true, 14), (true, 15), (true, 16), (true, 17), (true, 18), (true, 19), (true, 20), (false, 21), (true, 22), (false, 23)] (CN ⟨Y, X, w0⟩ [] [(some 21, row v1 3 (Rp.int .i64) x1)]) (fun ch a d v w h => by cases d <;> exact h) MO (by kernel_rfl) W (fun w W => ⟨_, _, W, Al, (Ab (fun _ => (.head _)) Al)⟩) fun w W => ?_
 iterate 3 refine A6 (R := []) F Aa Aa (yC fun M Z hN hZ => Ai F Aa) Aa Aa fun a F => ?_
 refine A6 (R := []) F Aa Aa (yC fun M Z hN hZ => BC F Aa Aa Aa) Aa Aa fun a F => ?_
 iterate 3 refine A6 (R := []) F Aa Aa (yC fun M Z hN hZ => Ai F Aa) Aa Aa fun a F => ?_
 refine A6 (R := []) F Aa Aa (yC fun M Z hN hZ => BC F Aa Aa Aa) Aa Aa fun a F => ?_
 iterate 3 refine A6 (R := []) F Aa Aa (yC fun M Z hN hZ => Ai F Aa) Aa Aa fun a F => ?_
 refine A6 (R := []) F Aa Aa (yC fun M Z hN hZ => BC F Aa Aa Aa) Aa Aa fun a F => ?_
 obtain ⟨x9, h5, H⟩ := Am H
 refine A6 (R := []) F Aa Aa (yC fun M Z hN hZ => Ce (r := (Rp.int .i64)) Ds F Aa Aa (D2 W (Ap 0 Aa)) h5) Aa Aa fun a F => ?_
 refine A6 (R := [21]) F Aa Aa (yC fun M Z hN hZ => Ax (y := Value.int .i64 x9) (j := 0) (i := A1 (p3 + x3)) F Aa Aa (DV (hZ ((some 21), row v1 3 (Rp.int .i64) x1) (.head _) Aa)) h5 Fl.int.to T3 Aa) (by kernel_rfl) Aa fun a F => ?_
 iterate 3 refine A6 (R := []) F Aa Aa (yC fun M Z hN hZ => Ai F Aa) Aa Aa fun a F => ?_
 refine A6 (R := []) F Aa Aa (yC fun M Z hN hZ => BC F Aa Aa Aa) Aa Aa fun a F => ?_
 obtain ⟨x10, h6, H⟩ := Am H
 refine A6 (R := []) F Aa Aa (yC fun M Z hN hZ => Ce (r := (Rp.int .i64)) Ds F Aa Aa (D2 W (Ap 0 Aa)) h6) Aa Aa fun a F => ?_
 refine A6 (R := [21]) F Aa Aa (yC fun M Z hN hZ => Ax (y := Value.int .i64 x10) (j := 0) (i := A1 (p3 + x2)) F Aa Aa (DV (hZ ((some 21), row v1 3 (Rp.int .i64) x1) (.head _) Aa)) h6 Fl.int.to T3 Aa) (by kernel_rfl) Aa fun a F => ?_
 obtain ⟨x11, h7, H⟩ := Am H
 refine A6 (R := []) F Aa Aa (yC fun M Z hN hZ => Ce (r := (Rp.int .i64)) Ds F Aa Aa (D2 W (Ap 0 Aa)) h7) Aa Aa fun a F => ?_
 refine BG Aa ?_
 refine Br (i := A1 (p3 + x2)) (j := 0) (vs := [.int .i64 x9]) (x' := x9) F W Aa Aa Aa (k := 0) Aa Aa h7 T3 Aa Aa Aa Aa (fun A cs _ => Fl.int.sto (by rfl) _ _ _) fun w W => ?_
 refine AC (N2 := []) (NZ2 := []) (N3 := []) (NZ3 := [(some 21, row v1 3 (Rp.int .i64) x1)]) W Aa Aa Al (Ab (fun h => Ac (by kernel_rfl) h) Al) ?_
 obtain ⟨x12, h8, H⟩ := Am H
 refine A6 (R := []) F Aa Aa (yC fun M Z hN hZ => Ce (r := (Rp.int .i64)) Ds F Aa Aa (D2 W (Ap 0 Aa)) h8) Aa Aa fun a F => ?_
 refine BG Aa ?_
 refine Br (i := A1 (p3 + x3)) (j := 0) (vs := [.int .i64 x10]) (x' := x10) F W Aa Aa Aa (k := 0) Aa Aa h8 T3 Aa Aa Aa Aa (fun A cs _ => Fl.int.sto (by rfl) _ _ _) fun w W => ?_
 refine AC (N2 := []) (NZ2 := []) (N3 := []) (NZ3 := [(some 21, row v1 3 (Rp.int .i64) x1)]) W Aa Aa Al (Ab (fun h => Ac (by kernel_rfl) h) Al) ?_
 refine DS (Ad (Ae ?_))
 refine ls F W Aa (Ai F Aa).q fun a w F W => ?_
 refine ls F W Aa (Ah F Aa).q fun a w F W => ?_
 refine Ag (A8 (Ad ?_))
 exact ⟨_, H, F.re ⟨rfl, Aa, Aa, Aa, trivial⟩, W⟩
theorem SD : Has Tryd.prog 75 := ⟨fun args w => Ao Tryd.func75 rfl (by decide) args w⟩
noncomputable def B5 (p1 : Int) (p2 : Int) : (List Int × Int) → Option ((List Int × Int) ⊕ (List Int))
  | (x2, x3) => (if 0 ≤ x3 then (Cj x2 x3 (A1 (p2 - p1)) p1).bind fun x4 => some (.inl (x4, A1 (x3 - 1))) else some (.inr x2))
noncomputable def B4 (p1 : Int) : (List Int × Int) → Option ((List Int × Int) ⊕ (List Int))
  | (x5, x6) => (if 0 ≤ x6 then (ix x5 (A1 (p1 + x6))).bind fun x7 => (ix x5 p1).bind fun x8 => (ix x5 p1).bind fun x9 => (ix (Bd x5 p1 x7) (A1 (p1 + x6))).bind fun x10 => (Cj (Bd (Bd x5 p1 x7) (A1 (p1 + x6)) x8) 0 x6 p1).bind fun x11 => some (.inl (x11, A1 (x6 - 1))) else some (.inr x5))
noncomputable def CF (p0 : List Int) (p1 : Int) (p2 : Int) : Option (List Int) := (A3 (B5 p1 p2) (p0, A1 (Int.tdiv (A1 ((A1 (p2 - p1)) - 1)) 2))).bind fun x1 => A3 (B4 p1) (x1, A1 ((A1 (p2 - p1)) - 1))
theorem F5 (Y : Nat → Prop) (X : List Nat) (w0 : World) (v1 : Value) (p0 : List Int) (p1 : Int) (p2 : Int) (r : List Int) (H : CF p0 p1 p2 = some r) (hL : Stw ⟨Y, X, w0⟩ [] [row v1 3 (Rp.int .i64) p0] w0) :
    Calls Tryd.prog 61 #[v1, .int .i64 p1, .int .i64 p2] w0 fun e w' => ∃ x : Unit, e = .returned (.tuple #[]) ∧ Stw ⟨Y, X, w0⟩ [] [row v1 3 (Rp.int .i64) r] w' := by
 refine enter Tryd.func61 Aa Tryd.ntmps61 Aa fun a F => ?_
 have W := hL
 unfold CF at H
 refine Aj (Ae ?_)
 refine ls F W Aa (Ai F Aa).q fun a w F W => ?_
 refine ls F W Aa (Ah F Aa).q fun a w F W => ?_
 refine Ag (Ad (Aj (Ae ?_)))
 refine ls F W Aa (Ah F Aa).q fun a w F W => ?_
 refine Ag (Ad (Aj (Ae ?_)))
 iterate 2 refine ls F W Aa (Ai F Aa).q fun a w F W => ?_
 refine ls F W Aa (Cn F Aa Aa Aa).q fun a w F W => ?_
 refine ls F W Aa (Ah F Aa).q fun a w F W => ?_
 refine Ag (Ad ?_)
 obtain ⟨o1, G1, K1⟩ := Am H
 refine AO (fun a w => ∃ x1 : List Int, some (x1) = some o1 ∧ Fr 56 [] [(0, v1), (6, .int .i64 p1), (7, .int .i64 0), (8, .int .i64 (A1 (p2 - p1)))] a ∧ Stw ⟨Y, X, w0⟩ [] [row v1 3 (Rp.int .i64) x1] w) ?_ ?_
 ·
  have H := G1
  clear G1 K1
  refine Aj (Ae ?_)
  refine ls F W Aa (Ai F Aa).q fun a w F W => ?_
  refine ls F W Aa (Cn F Aa Aa Aa).q fun a w F W => ?_
  refine ls F W Aa (Ja F Aa Aa (by decide) Aa).q fun a w F W => ?_
  refine ls F W Aa (Ah F Aa).q fun a w F W => ?_
  refine Ag (Ad (AA ?_))
  refine BI H (fun s a w => Fr 56 [] [(0, v1), (6, .int .i64 p1), (7, .int .i64 0), (8, .int .i64 (A1 (p2 - p1))), (9, .int .i64 s.2)] a ∧ Stw ⟨Y, X, w0⟩ [] [row v1 3 (Rp.int .i64) s.1] w) ⟨F.re ⟨rfl, Aa, Aa, Aa, Aa, trivial⟩, W⟩ fun s o a w H L2 hR => ?_
  obtain ⟨x2, x3⟩ := s
  obtain ⟨F, W⟩ := hR
  have F : Fr 56 [] [(0, v1), (6, .int .i64 p1), (7, .int .i64 0), (8, .int .i64 (A1 (p2 - p1))), (9, .int .i64 x3)] a := F
  have W : Stw ⟨Y, X, w0⟩ [] [row v1 3 (Rp.int .i64) x2] w := W
  rw [B5] at H
  refine Aj (Aj (Ae ?_))
  refine ls F W Aa (Ai F Aa).q fun a w F W => ?_
  refine ls F W Aa (D6 F Aa Aa).q fun a w F W => ?_
  refine Ag (Ad ?_)
  refine Ay F Aa (fun hb => ?_) fun hb => ?_
  ·
   have H := AW (Bm hb) H
   rw [hb] at F
   clear hb
   refine Aw (Ad (Aj (AA (Ae ?_))))
   iterate 4 refine ls F W Aa (Ai F Aa).q fun a w F W => ?_
   obtain ⟨x4, h1, H⟩ := Am H
   refine BD (Ml := []) (Zl := [row v1 3 (Rp.int .i64) x2]) (M := []) (Z := []) (β := Unit) (rv := fun x => .tuple #[]) (MM := fun x => []) (ZZ := fun x => [row v1 3 (Rp.int .i64) x4]) F W SD Aa Aa (fun hL => ED _ _ w (v1) x2 x3 (A1 (p2 - p1)) p1 _ h1 hL) fun x a w F W => ?_
   have W : Stw ⟨Y, X, w0⟩ [] [row v1 3 (Rp.int .i64) x4] w := W
   refine Ag (A8 (Ad (Ae ?_)))
   refine ls F W Aa (Ai F Aa).q fun a w F W => ?_
   refine ls F W Aa (Cn F Aa Aa Aa).q fun a w F W => ?_
   refine ls F W Aa (Ah F Aa).q fun a w F W => ?_
   refine Ag (Ad ?_)
   exact ⟨_, H, F.re ⟨rfl, Aa, Aa, Aa, Aa, trivial⟩, W⟩
  have H := AX (Bl hb) H
  rw [hb] at F
  clear hb
  refine Bx ?_
  iterate 2 refine BO ?_
  refine Bz (Ad ?_)
  have H := L2 _ H
  exact ⟨_, H, F.re ⟨rfl, Aa, Aa, Aa, trivial⟩, W⟩
 rintro a w ⟨x1, hj, F, W⟩
 have hj := AM hj
 subst hj
 have H := K1
 clear G1 K1
 refine Aj (Ae ?_)
 refine ls F W Aa (Ai F Aa).q fun a w F W => ?_
 refine ls F W Aa (Cn F Aa Aa Aa).q fun a w F W => ?_
 refine ls F W Aa (Ah F Aa).q fun a w F W => ?_
 refine Ag (Ad (AA ?_))
 refine BI H (fun s a w => Fr 56 [] [(0, v1), (6, .int .i64 p1), (7, .int .i64 0), (10, .int .i64 s.2)] a ∧ Stw ⟨Y, X, w0⟩ [] [row v1 3 (Rp.int .i64) s.1] w) ⟨F.re ⟨rfl, Aa, Aa, Aa, trivial⟩, W⟩ fun s o a w H L3 hR => ?_
 obtain ⟨x5, x6⟩ := s
 obtain ⟨F, W⟩ := hR
 have F : Fr 56 [] [(0, v1), (6, .int .i64 p1), (7, .int .i64 0), (10, .int .i64 x6)] a := F
 have W : Stw ⟨Y, X, w0⟩ [] [row v1 3 (Rp.int .i64) x5] w := W
 rw [B4] at H
 refine Aj (Aj (Ae ?_))
 refine ls F W Aa (Ai F Aa).q fun a w F W => ?_
 refine ls F W Aa (D6 F Aa Aa).q fun a w F W => ?_
 refine Ag (Ad ?_)
 refine Ay F Aa (fun hb => ?_) fun hb => ?_
 ·
  have H := AW (Bm hb) H
  rw [hb] at F
  clear hb
  refine Aw (Ad (Aj (AA (Aj ?_))))
  refine Eb [(true, 0), (true, 1), (true, 2), (true, 3), (true, 4), (true, 5), (true, 6), (true, 7), (true, 8), (true, 9), (true, 10), (true, 11), (true, 12), (true, 13), (true, 14), (true, 15), (true, 16), (false, 17), (true, 18), (false, 19)] (CN ⟨Y, X, w0⟩ [] [(some 17, row v1 3 (Rp.int .i64) x5)]) (fun ch a d v w h => by cases d <;> exact h) MO (by kernel_rfl) W (fun w W => ⟨_, _, W, Al, (Ab (fun _ => (.head _)) Al)⟩) fun w W => ?_
  iterate 5 refine A6 (R := []) F Aa Aa (yC fun M Z hN hZ => Ai F Aa) Aa Aa fun a F => ?_
  refine A6 (R := []) F Aa Aa (yC fun M Z hN hZ => BC F Aa Aa Aa) Aa Aa fun a F => ?_
  iterate 3 refine A6 (R := []) F Aa Aa (yC fun M Z hN hZ => Ai F Aa) Aa Aa fun a F => ?_
  refine A6 (R := []) F Aa Aa (yC fun M Z hN hZ => BC F Aa Aa Aa) Aa Aa fun a F => ?_
  obtain ⟨x7, h2, H⟩ := Am H
  refine A6 (R := []) F Aa Aa (yC fun M Z hN hZ => Ce (r := (Rp.int .i64)) Ds F Aa Aa (D2 W (Ap 0 Aa)) h2) Aa Aa fun a F => ?_
  refine A6 (R := [17]) F Aa Aa (yC fun M Z hN hZ => Ax (y := Value.int .i64 x7) (j := 0) (i := A1 (p1 + x6)) F Aa Aa (DV (hZ ((some 17), row v1 3 (Rp.int .i64) x5) (.head _) Aa)) h2 Fl.int.to T3 Aa) (by kernel_rfl) Aa fun a F => ?_
  iterate 2 refine A6 (R := []) F Aa Aa (yC fun M Z hN hZ => Ai F Aa) Aa Aa fun a F => ?_
  obtain ⟨x8, h3, H⟩ := Am H
  refine A6 (R := []) F Aa Aa (yC fun M Z hN hZ => Ce (r := (Rp.int .i64)) Ds F Aa Aa (D2 W (Ap 0 Aa)) h3) Aa Aa fun a F => ?_
  refine A6 (R := [17]) F Aa Aa (yC fun M Z hN hZ => Ax (y := Value.int .i64 x8) (j := 0) (i := p1) F Aa Aa (DV (hZ ((some 17), row v1 3 (Rp.int .i64) x5) (.head _) Aa)) h3 Fl.int.to T3 Aa) (by kernel_rfl) Aa fun a F => ?_
  obtain ⟨x9, h4, H⟩ := Am H
  refine A6 (R := []) F Aa Aa (yC fun M Z hN hZ => Ce (r := (Rp.int .i64)) Ds F Aa Aa (D2 W (Ap 0 Aa)) h4) Aa Aa fun a F => ?_
  refine BG Aa ?_
  refine Br (i := p1) (j := 0) (vs := [.int .i64 x7]) (x' := x7) F W Aa Aa Aa (k := 0) Aa Aa h4 T3 Aa Aa Aa Aa (fun A cs _ => Fl.int.sto (by rfl) _ _ _) fun w W => ?_
  refine AC (N2 := []) (NZ2 := []) (N3 := []) (NZ3 := [(some 17, row v1 3 (Rp.int .i64) x5)]) W Aa Aa Al (Ab (fun h => Ac (by kernel_rfl) h) Al) ?_
  obtain ⟨x10, h5, H⟩ := Am H
  refine A6 (R := []) F Aa Aa (yC fun M Z hN hZ => Ce (r := (Rp.int .i64)) Ds F Aa Aa (D2 W (Ap 0 Aa)) h5) Aa Aa fun a F => ?_
  refine BG Aa ?_
  refine Br (i := A1 (p1 + x6)) (j := 0) (vs := [.int .i64 x8]) (x' := x8) F W Aa Aa Aa (k := 0) Aa Aa h5 T3 Aa Aa Aa Aa (fun A cs _ => Fl.int.sto (by rfl) _ _ _) fun w W => ?_
  refine AC (N2 := []) (NZ2 := []) (N3 := []) (NZ3 := [(some 17, row v1 3 (Rp.int .i64) x5)]) W Aa Aa Al (Ab (fun h => Ac (by kernel_rfl) h) Al) ?_
  refine DS (Ad (Ae ?_))
  iterate 4 refine ls F W Aa (Ai F Aa).q fun a w F W => ?_
  obtain ⟨x11, h6, H⟩ := Am H
  refine BD (Ml := []) (Zl := [row v1 3 (Rp.int .i64) (Bd (Bd x5 p1 x7) (A1 (p1 + x6)) x8)]) (M := []) (Z := []) (β := Unit) (rv := fun x => .tuple #[]) (MM := fun x => []) (ZZ := fun x => [row v1 3 (Rp.int .i64) x11]) F W SD Aa Aa (fun hL => ED _ _ w (v1) (Bd (Bd x5 p1 x7) (A1 (p1 + x6)) x8) 0 x6 p1 _ h6 hL) fun x a w F W => ?_
  have W : Stw ⟨Y, X, w0⟩ [] [row v1 3 (Rp.int .i64) x11] w := W
  refine Ag (A8 (Ad (Ae ?_)))
  refine ls F W Aa (Ai F Aa).q fun a w F W => ?_
  refine ls F W Aa (Cn F Aa Aa Aa).q fun a w F W => ?_
  refine ls F W Aa (Ah F Aa).q fun a w F W => ?_
  refine Ag (Ad ?_)
  exact ⟨_, H, F.re ⟨rfl, Aa, Aa, Aa, trivial⟩, W⟩
 have H := AX (Bl hb) H
 rw [hb] at F
 clear hb
 refine Bx ?_
 iterate 2 refine BO ?_
 refine Bz ?_
 have H := L3 _ H
 have H := AM H
 subst H
 refine HQ (.inr Aa) F Aa ?_
 exact ⟨(), Aa, W⟩
theorem Td : Has Tryd.prog 61 := ⟨fun args w => Ao Tryd.func61 rfl (by decide) args w⟩
noncomputable def Cd (p0 : List Int) (p1 : Int) (p2 : Int) (p3 : Int) : Option (Int × Int × Int) := (ix p0 p2).bind fun x1 => (ix p0 p1).bind fun x2 => (if (Be x1 x2) = true then some (p2, p1, A1 (p3 + 1)) else some (p1, p2, p3))
theorem DO (Y : Nat → Prop) (X : List Nat) (w0 : World) (v1 : Value) (q_p3 : Nat) (p0 : List Int) (p1 : Int) (p2 : Int) (p3 : Int) (r : Int × Int × Int) (H : Cd p0 p1 p2 p3 = some r) (h_v1 : Sl w0 (NX X) (Rp.int .i64) v1 p0) (hL : Stw ⟨Y, X, w0⟩ [(q_p3, [.int .i64 p3])] [] w0) :
    Calls Tryd.prog 87 #[v1, .int .i64 p1, .int .i64 p2, .pointer (some ⟨q_p3, 0, none⟩)] w0 fun e w' => ∃ x : Unit, e = .returned (.tuple #[.int .i64 r.1, .int .i64 r.2.1]) ∧ Stw ⟨Y, X, w0⟩ [(q_p3, [.int .i64 r.2.2])] [] w' := by
 refine enter Tryd.func87 Aa Tryd.ntmps87 Aa fun a F => ?_
 have W := hL
 unfold Cd at H
 refine Aj (Ae ?_)
 iterate 2 refine ls F W Aa (Ah F Aa).q fun a w F W => ?_
 refine Ag (Ad ?_)
 iterate 2 refine Aj ?_
 refine BS W MO (by kernel_rfl) ?_
 iterate 2 refine qs F Aa (Ai F Aa).q fun a F => ?_
 obtain ⟨x1, h1, H⟩ := Am H
 refine qs F Aa (AG (r := (Rp.int .i64)) Ds F Aa Aa (Av h_v1) h1).q fun a F => ?_
 refine qs F Aa (Ax (y := Value.int .i64 x1) (j := 0) (i := p2) F Aa Aa (Av h_v1) h1 Fl.int.to T3 Aa).q fun a F => ?_
 iterate 2 refine qs F Aa (Ai F Aa).q fun a F => ?_
 obtain ⟨x2, h2, H⟩ := Am H
 refine qs F Aa (AG (r := (Rp.int .i64)) Ds F Aa Aa (Av h_v1) h2).q fun a F => ?_
 refine qs F Aa (Ax (y := Value.int .i64 x2) (j := 0) (i := p1) F Aa Aa (Av h_v1) h2 Fl.int.to T3 Aa).q fun a F => ?_
 refine qs F Aa (AU (v := Value.bool (Be x1 x2)) F Om Aa (fun w W => B9 any w x1 x2 _ Aa)) fun a F => ?_
 refine A2 fun w W => ?_
 refine Ad ?_
 refine Ay F Aa (fun hb => ?_) fun hb => ?_
 ·
  have H := AW hb H
  rw [hb] at F
  clear hb
  refine Aj (Ae ?_)
  refine ls F W Aa (Ai F Aa).q fun a w F W => ?_
  refine ls F W Aa (CU F Aa).q fun a w F W => ?_
  refine ls F W Aa (Aq (v := Value.int .i64 p3) 0 F Aa Aa T3 Aa).q fun a w F W => ?_
  refine ls F W Aa (BC F Aa Aa Aa).q fun a w F W => ?_
  refine ls F W Aa (CU F Aa).q fun a w F W => ?_
  refine BN (vs := [.int .i64 (A1 (p3 + 1))]) (M' := [(q_p3, [.int .i64 (A1 (p3 + 1))])]) 0 F W Aa Aa Aa T3 Aa Aa Aa Aa Aa fun w W => ?_
  refine Ag (Ad (Aj (Ae ?_)))
  iterate 2 refine ls F W Aa (Ai F Aa).q fun a w F W => ?_
  iterate 2 refine ls F W Aa (Ah F Aa).q fun a w F W => ?_
  refine Ag (Ad (Az (AR ?_)))
  have H := AM H
  subst H
  refine KR (.inl Aa) F W Aa (AD F Aa) (AD F Aa) ?_
  exact ⟨(), Aa, W⟩
 have H := AX (by rw [hb]; decide) H
 rw [hb] at F
 clear hb
 refine Aw (Ad (Aj (Ae ?_)))
 iterate 2 refine ls F W Aa (Ai F Aa).q fun a w F W => ?_
 iterate 2 refine ls F W Aa (Ah F Aa).q fun a w F W => ?_
 refine Ag (Ad (Az ?_))
 have H := AM H
 subst H
 refine KR (.inl Aa) F W Aa (AD F Aa) (AD F Aa) ?_
 exact ⟨(), Aa, W⟩
theorem Sd : Has Tryd.prog 87 := ⟨fun args w => Ao Tryd.func87 rfl (by decide) args w⟩
noncomputable def Cc (p0 : List Int) (p1 : Int) (p2 : Int) (p3 : Int) (p4 : Int) : Option (Int × Int) := (Cd p0 p1 p2 p4).bind fun x1 => (Cd p0 x1.2.1 p3 x1.2.2).bind fun x2 => (Cd p0 x1.1 x2.1 x2.2.2).bind fun x3 => some (x3.2.1, x3.2.2)
theorem EU (Y : Nat → Prop) (X : List Nat) (w0 : World) (v1 : Value) (q_p4 : Nat) (p0 : List Int) (p1 : Int) (p2 : Int) (p3 : Int) (p4 : Int) (r : Int × Int) (H : Cc p0 p1 p2 p3 p4 = some r) (h_v1 : Sl w0 (NX X) (Rp.int .i64) v1 p0) (hL : Stw ⟨Y, X, w0⟩ [(q_p4, [.int .i64 p4])] [] w0) :
    Calls Tryd.prog 79 #[v1, .int .i64 p1, .int .i64 p2, .int .i64 p3, .pointer (some ⟨q_p4, 0, none⟩)] w0 fun e w' => ∃ x : Unit, e = .returned (.int .i64 r.1) ∧ Stw ⟨Y, X, w0⟩ [(q_p4, [.int .i64 r.2])] [] w' := by
 refine enter Tryd.func79 Aa Tryd.ntmps79 Aa fun a F => ?_
 have W := hL
 unfold Cc at H
 refine Aj (Ae ?_)
 refine ls F W Aa (Ah F Aa).q fun a w F W => ?_
 refine Ag (Ad (Aj (Ae ?_)))
 iterate 4 refine ls F W Aa (Ai F Aa).q fun a w F W => ?_
 obtain ⟨x1, h1, H⟩ := Am H
 refine BD (Ml := [(q_p4, [.int .i64 p4])]) (Zl := []) (M := []) (Z := []) (β := Unit) (rv := fun x => .tuple #[.int .i64 x1.1, .int .i64 x1.2.1]) (MM := fun x => [(q_p4, [.int .i64 x1.2.2])]) (ZZ := fun x => []) F W Sd Aa Aa (fun hL => DO _ _ w (v1) q_p4 p0 p1 p2 p4 _ h1 (W.roX h_v1 (fun g hg => FM hg)) hL) fun x a w F W => ?_
 have W : Stw ⟨Y, X, w0⟩ [(q_p4, [.int .i64 x1.2.2])] [] w := W
 refine ls F W Aa (Ai F Aa).q fun a w F W => ?_
 refine ls F W Aa (EJ (v := Value.int .i64 x1.1) F Aa Aa).q fun a w F W => ?_
 refine ls F W Aa (EJ (v := Value.int .i64 x1.2.1) F Aa Aa).q fun a w F W => ?_
 iterate 2 refine ls F W Aa (Ah F Aa).q fun a w F W => ?_
 refine Ag (Ad (Aj (Ae ?_)))
 iterate 4 refine ls F W Aa (Ai F Aa).q fun a w F W => ?_
 obtain ⟨x2, h2, H⟩ := Am H
 refine BD (Ml := [(q_p4, [.int .i64 x1.2.2])]) (Zl := []) (M := []) (Z := []) (β := Unit) (rv := fun x => .tuple #[.int .i64 x2.1, .int .i64 x2.2.1]) (MM := fun x => [(q_p4, [.int .i64 x2.2.2])]) (ZZ := fun x => []) F W Sd Aa Aa (fun hL => DO _ _ w (v1) q_p4 p0 x1.2.1 p3 x1.2.2 _ h2 (W.roX h_v1 (fun g hg => FM hg)) hL) fun x a w F W => ?_
 have W : Stw ⟨Y, X, w0⟩ [(q_p4, [.int .i64 x2.2.2])] [] w := W
 refine ls F W Aa (Ai F Aa).q fun a w F W => ?_
 refine ls F W Aa (EJ (v := Value.int .i64 x2.1) F Aa Aa).q fun a w F W => ?_
 refine ls F W Aa (EJ (v := Value.int .i64 x2.2.1) F Aa Aa).q fun a w F W => ?_
 iterate 2 refine ls F W Aa (Ah F Aa).q fun a w F W => ?_
 refine Ag (Ad (Aj (Ae ?_)))
 iterate 4 refine ls F W Aa (Ai F Aa).q fun a w F W => ?_
 obtain ⟨x3, h3, H⟩ := Am H
 refine BD (Ml := [(q_p4, [.int .i64 x2.2.2])]) (Zl := []) (M := []) (Z := []) (β := Unit) (rv := fun x => .tuple #[.int .i64 x3.1, .int .i64 x3.2.1]) (MM := fun x => [(q_p4, [.int .i64 x3.2.2])]) (ZZ := fun x => []) F W Sd Aa Aa (fun hL => DO _ _ w (v1) q_p4 p0 x1.1 x2.1 x2.2.2 _ h3 (W.roX h_v1 (fun g hg => FM hg)) hL) fun x a w F W => ?_
 have W : Stw ⟨Y, X, w0⟩ [(q_p4, [.int .i64 x3.2.2])] [] w := W
 refine ls F W Aa (Ai F Aa).q fun a w F W => ?_
 refine ls F W Aa (EJ (v := Value.int .i64 x3.1) F Aa Aa).q fun a w F W => ?_
 refine ls F W Aa (EJ (v := Value.int .i64 x3.2.1) F Aa Aa).q fun a w F W => ?_
 iterate 2 refine ls F W Aa (Ah F Aa).q fun a w F W => ?_
 refine Ag (Ad (Aj (Ae ?_)))
 refine ls F W Aa (Ai F Aa).q fun a w F W => ?_
 refine ls F W Aa (Ah F Aa).q fun a w F W => ?_
 refine Ag (Ad (Az ?_))
 have H := AM H
 subst H
 refine AQ (.inl Aa) F W Aa (AD F Aa) ?_
 exact ⟨(), Aa, W⟩
theorem Sy : Has Tryd.prog 79 := ⟨fun args w => Ao Tryd.func79 rfl (by decide) args w⟩
noncomputable def Bp (p0 : List Int) (p1 : Int) (p2 : Int) : Option (Int × Int) := (Cc p0 (A1 (p1 - 1)) p1 (A1 (p1 + 1)) p2).bind fun x1 => some (x1.1, x1.2)
theorem CW (Y : Nat → Prop) (X : List Nat) (w0 : World) (v1 : Value) (q_p2 : Nat) (p0 : List Int) (p1 : Int) (p2 : Int) (r : Int × Int) (H : Bp p0 p1 p2 = some r) (h_v1 : Sl w0 (NX X) (Rp.int .i64) v1 p0) (hL : Stw ⟨Y, X, w0⟩ [(q_p2, [.int .i64 p2])] [] w0) :
    Calls Tryd.prog 78 #[v1, .int .i64 p1, .pointer (some ⟨q_p2, 0, none⟩)] w0 fun e w' => ∃ x : Unit, e = .returned (.int .i64 r.1) ∧ Stw ⟨Y, X, w0⟩ [(q_p2, [.int .i64 r.2])] [] w' := by
 refine enter Tryd.func78 Aa Tryd.ntmps78 Aa fun a F => ?_
 have W := hL
 unfold Bp at H
 refine Aj (Ae ?_)
 refine ls F W Aa (Ah F Aa).q fun a w F W => ?_
 refine Ag (Ad (Aj (Ae ?_)))
 iterate 2 refine ls F W Aa (Ai F Aa).q fun a w F W => ?_
 refine ls F W Aa (Cn F Aa Aa Aa).q fun a w F W => ?_
 iterate 2 refine ls F W Aa (Ai F Aa).q fun a w F W => ?_
 refine ls F W Aa (BC F Aa Aa Aa).q fun a w F W => ?_
 refine ls F W Aa (Ai F Aa).q fun a w F W => ?_
 obtain ⟨x1, h1, H⟩ := Am H
 refine BD (Ml := [(q_p2, [.int .i64 p2])]) (Zl := []) (M := []) (Z := []) (β := Unit) (rv := fun x => .int .i64 x1.1) (MM := fun x => [(q_p2, [.int .i64 x1.2])]) (ZZ := fun x => []) F W Sy Aa Aa (fun hL => EU _ _ w (v1) q_p2 p0 (A1 (p1 - 1)) p1 (A1 (p1 + 1)) p2 _ h1 (W.roX h_v1 (fun g hg => FM hg)) hL) fun x a w F W => ?_
 have W : Stw ⟨Y, X, w0⟩ [(q_p2, [.int .i64 x1.2])] [] w := W
 refine ls F W Aa (Ah F Aa).q fun a w F W => ?_
 refine Ag (Ad (Az ?_))
 have H := AM H
 subst H
 refine AQ (.inl Aa) F W Aa (AD F Aa) ?_
 exact ⟨(), Aa, W⟩
theorem Sg : Has Tryd.prog 78 := ⟨fun args w => Ao Tryd.func78 rfl (by decide) args w⟩
noncomputable def Cq (p0 : List Int) (p1 : Int) (p2 : Int) : Option (Int × Int) := (if 8 ≤ (A1 (p2 - p1)) then (if 50 ≤ (A1 (p2 - p1)) then (Bp p0 (A1 (p1 + (A1 ((A1 (Int.tdiv (A1 (p2 - p1)) 4)) * 1)))) 0).bind fun x7 => (Bp p0 (A1 (p1 + (A1 ((A1 (Int.tdiv (A1 (p2 - p1)) 4)) * 2)))) x7.2).bind fun x8 => (Bp p0 (A1 (p1 + (A1 ((A1 (Int.tdiv (A1 (p2 - p1)) 4)) * 3)))) x8.2).bind fun x9 => some (x7.1, x8.1, x9.1, x9.2) else some (A1 (p1 + (A1 ((A1 (Int.tdiv (A1 (p2 - p1)) 4)) * 1))), A1 (p1 + (A1 ((A1 (Int.tdiv (A1 (p2 - p1)) 4)) * 2))), A1 (p1 + (A1 ((A1 (Int.tdiv (A1 (p2 - p1)) 4)) * 3))), 0)).bind fun (x3, x4, x5, x6) => (Cc p0 x3 x4 x5 x6).bind fun x10 => some (x10.1, x10.2) else some (A1 (p1 + (A1 ((A1 (Int.tdiv (A1 (p2 - p1)) 4)) * 2))), 0)).bind fun (x1, x2) => (if x2 = 0 then some (x1, 1) else (if x2 = 12 then some (x1, 2) else some (x1, 0)))
theorem Fy (Y : Nat → Prop) (w0 : World) (v1 : Value) (p0 : List Int) (p1 : Int) (p2 : Int) (r : Int × Int) (H : Cq p0 p1 p2 = some r) (h_v1 : Sl w0 (NX []) (Rp.int .i64) v1 p0) :
    Calls Tryd.prog 63 #[v1, .int .i64 p1, .int .i64 p2] w0 fun e w' => e = .returned (.tuple #[.int .i64 r.1, .int .i64 r.2]) ∧ Below w0.heap.size w0 w' := by
 refine enter Tryd.func63 Aa Tryd.ntmps63 Aa fun a F => ?_
 have W := Stw.start Y w0
 unfold Cq at H
 refine Aj (Ae ?_)
 iterate 2 refine ls F W Aa (Ah F Aa).q fun a w F W => ?_
 refine Ag (Ad (Aj (Ae ?_)))
 iterate 2 refine ls F W Aa (Ai F Aa).q fun a w F W => ?_
 refine ls F W Aa (Cn F Aa Aa Aa).q fun a w F W => ?_
 refine ls F W Aa (Ah F Aa).q fun a w F W => ?_
 refine Ag (Ad (Aj (Ae ?_)))
 refine CK (cs := [.int .i64 0]) F W Aa Z3 Aa fun b1 a w F W => ?_
 refine Ag (Ad (Aj (Ae ?_)))
 iterate 2 refine ls F W Aa (Ai F Aa).q fun a w F W => ?_
 refine ls F W Aa (Ja F Aa Aa (by decide) Aa).q fun a w F W => ?_
 refine ls F W Aa (LS F Aa Aa Aa).q fun a w F W => ?_
 refine ls F W Aa (BC F Aa Aa Aa).q fun a w F W => ?_
 refine ls F W Aa (Ah F Aa).q fun a w F W => ?_
 refine Ag (Ad (Aj (Ae ?_)))
 iterate 2 refine ls F W Aa (Ai F Aa).q fun a w F W => ?_
 refine ls F W Aa (Ja F Aa Aa (by decide) Aa).q fun a w F W => ?_
 refine ls F W Aa (LS F Aa Aa Aa).q fun a w F W => ?_
 refine ls F W Aa (BC F Aa Aa Aa).q fun a w F W => ?_
 refine ls F W Aa (Ah F Aa).q fun a w F W => ?_
 refine Ag (Ad (Aj (Ae ?_)))
 iterate 2 refine ls F W Aa (Ai F Aa).q fun a w F W => ?_
 refine ls F W Aa (Ja F Aa Aa (by decide) Aa).q fun a w F W => ?_
 refine ls F W Aa (LS F Aa Aa Aa).q fun a w F W => ?_
 refine ls F W Aa (BC F Aa Aa Aa).q fun a w F W => ?_
 refine ls F W Aa (Ah F Aa).q fun a w F W => ?_
 refine Ag (Ad ?_)
 obtain ⟨o1, G1, K1⟩ := Am H
 refine AO (fun a w => ∃ x1 : Int, ∃ x2 : Int, some ((x1, x2)) = some o1 ∧ Fr 57 [] [(6, .int .i64 0), (7, .int .i64 0), (9, .pointer (some ⟨b1, 0, none⟩)), (11, .int .i64 x1)] a ∧ Stw ⟨Y, [], w0⟩ [(b1, [.int .i64 x2])] [] w) ?_ ?_
 ·
  have H := G1
  clear G1 K1
  refine Aj (Ae ?_)
  refine ls F W Aa (Ai F Aa).q fun a w F W => ?_
  refine ls F W Aa (D6 F Aa Aa).q fun a w F W => ?_
  refine Ag (Ad ?_)
  refine Ay F Aa (fun hb => ?_) fun hb => ?_
  ·
   have H := AW (Bm hb) H
   rw [hb] at F
   clear hb
   obtain ⟨o2, G2, K2⟩ := Am H
   refine AO (fun a w => ∃ x3 : Int, ∃ x4 : Int, ∃ x5 : Int, ∃ x6 : Int, some ((x3, x4, x5, x6)) = some o2 ∧ Fr 57 [] [(0, v1), (6, .int .i64 0), (7, .int .i64 0), (9, .pointer (some ⟨b1, 0, none⟩)), (10, .int .i64 x3), (11, .int .i64 x4), (12, .int .i64 x5)] a ∧ Stw ⟨Y, [], w0⟩ [(b1, [.int .i64 x6])] [] w) ?_ ?_
   ·
    have H := G2
    clear G2 K2
    refine Aj (Ae ?_)
    refine ls F W Aa (Ai F Aa).q fun a w F W => ?_
    refine ls F W Aa (D6 F Aa Aa).q fun a w F W => ?_
    refine Ag (Ad ?_)
    refine Ay F Aa (fun hb => ?_) fun hb => ?_
    ·
     have H := AW (Bm hb) H
     rw [hb] at F
     clear hb
     refine Aj (Ae ?_)
     iterate 2 refine ls F W Aa (Ai F Aa).q fun a w F W => ?_
     obtain ⟨x7, h1, H⟩ := Am H
     refine BD (Ml := [(b1, [.int .i64 0])]) (Zl := []) (M := []) (Z := []) (β := Unit) (rv := fun x => .int .i64 x7.1) (MM := fun x => [(b1, [.int .i64 x7.2])]) (ZZ := fun x => []) F W Sg Aa Aa (fun hL => CW _ _ w (v1) b1 p0 (A1 (p1 + (A1 ((A1 (Int.tdiv (A1 (p2 - p1)) 4)) * 1)))) 0 _ h1 (W.roX h_v1 (fun g hg => FM hg)) hL) fun x a w F W => ?_
     have W : Stw ⟨Y, [], w0⟩ [(b1, [.int .i64 x7.2])] [] w := W
     refine ls F W Aa (Ah F Aa).q fun a w F W => ?_
     refine Ag (Ad (Aj (Ae ?_)))
     iterate 2 refine ls F W Aa (Ai F Aa).q fun a w F W => ?_
     obtain ⟨x8, h2, H⟩ := Am H
     refine BD (Ml := [(b1, [.int .i64 x7.2])]) (Zl := []) (M := []) (Z := []) (β := Unit) (rv := fun x => .int .i64 x8.1) (MM := fun x => [(b1, [.int .i64 x8.2])]) (ZZ := fun x => []) F W Sg Aa Aa (fun hL => CW _ _ w (v1) b1 p0 (A1 (p1 + (A1 ((A1 (Int.tdiv (A1 (p2 - p1)) 4)) * 2)))) x7.2 _ h2 (W.roX h_v1 (fun g hg => FM hg)) hL) fun x a w F W => ?_
     have W : Stw ⟨Y, [], w0⟩ [(b1, [.int .i64 x8.2])] [] w := W
     refine ls F W Aa (Ah F Aa).q fun a w F W => ?_
     refine Ag (Ad (Ae ?_))
     iterate 2 refine ls F W Aa (Ai F Aa).q fun a w F W => ?_
     obtain ⟨x9, h3, H⟩ := Am H
     refine BD (Ml := [(b1, [.int .i64 x8.2])]) (Zl := []) (M := []) (Z := []) (β := Unit) (rv := fun x => .int .i64 x9.1) (MM := fun x => [(b1, [.int .i64 x9.2])]) (ZZ := fun x => []) F W Sg Aa Aa (fun hL => CW _ _ w (v1) b1 p0 (A1 (p1 + (A1 ((A1 (Int.tdiv (A1 (p2 - p1)) 4)) * 3)))) x8.2 _ h3 (W.roX h_v1 (fun g hg => FM hg)) hL) fun x a w F W => ?_
     have W : Stw ⟨Y, [], w0⟩ [(b1, [.int .i64 x9.2])] [] w := W
     refine ls F W Aa (Ah F Aa).q fun a w F W => ?_
     refine Ag (Ad ?_)
     exact ⟨_, _, _, _, H, F.re ⟨rfl, Aa, Aa, Aa, Aa, Aa, Aa, trivial⟩, W⟩
    have H := AX (Bl hb) H
    rw [hb] at F
    clear hb
    refine Aw (Ad ?_)
    exact ⟨_, _, _, _, H, F.re ⟨rfl, Aa, Aa, Aa, Aa, Aa, Aa, trivial⟩, W⟩
   rintro a w ⟨x3, x4, x5, x6, hj, F, W⟩
   have hj := AM hj
   subst hj
   have H := K2
   clear G2 K2
   refine Ae ?_
   iterate 4 refine ls F W Aa (Ai F Aa).q fun a w F W => ?_
   obtain ⟨x10, h4, H⟩ := Am H
   refine BD (Ml := [(b1, [.int .i64 x6])]) (Zl := []) (M := []) (Z := []) (β := Unit) (rv := fun x => .int .i64 x10.1) (MM := fun x => [(b1, [.int .i64 x10.2])]) (ZZ := fun x => []) F W Sy Aa Aa (fun hL => EU _ _ w (v1) b1 p0 x3 x4 x5 x6 _ h4 (W.roX h_v1 (fun g hg => FM hg)) hL) fun x a w F W => ?_
   have W : Stw ⟨Y, [], w0⟩ [(b1, [.int .i64 x10.2])] [] w := W
   refine ls F W Aa (Ah F Aa).q fun a w F W => ?_
   refine Ag (Ad ?_)
   exact ⟨_, _, H, F.re ⟨rfl, Aa, Aa, Aa, trivial⟩, W⟩
  have H := AX (Bl hb) H
  rw [hb] at F
  clear hb
  refine Aw (Ad ?_)
  exact ⟨_, _, H, F.re ⟨rfl, Aa, Aa, Aa, trivial⟩, W⟩
 rintro a w ⟨x1, x2, hj, F, W⟩
 have hj := AM hj
 subst hj
 have H := K1
 clear G1 K1
 refine Aj (Ae ?_)
 refine ls F W Aa (Aq (v := Value.int .i64 x2) 0 F Aa Aa T3 Aa).q fun a w F W => ?_
 refine Ag (Ad (AA (Aj (Ae ?_))))
 refine ls F W Aa (Bq F Aa Aa).q fun a w F W => ?_
 refine ls F W Aa (Ah F Aa).q fun a w F W => ?_
 refine Ag (Ad ?_)
 refine Ay F Aa (fun hb => ?_) fun hb => ?_
 ·
  have H := AW (Bm hb) H
  rw [hb] at F
  clear hb
  refine Aj (Ae ?_)
  refine ls F W Aa (Ai F Aa).q fun a w F W => ?_
  iterate 2 refine ls F W Aa (Ah F Aa).q fun a w F W => ?_
  refine Ag (Ad (Az (Bk ?_)))
  have H := AM H
  subst H
  refine KR (.inl Aa) F W Aa (AD F Aa) (AD F Aa) ?_
  exact ⟨rfl, W.done⟩
 have H := AX (Bl hb) H
 rw [hb] at F
 clear hb
 refine Aj (Ae ?_)
 refine ls F W Aa (Bq F Aa Aa).q fun a w F W => ?_
 refine ls F W Aa (Ah F Aa).q fun a w F W => ?_
 refine Ag (Ad ?_)
 refine Ay F Aa (fun hb => ?_) fun hb => ?_
 ·
  have H := AW (Bm hb) H
  rw [hb] at F
  clear hb
  refine Aj (Ae ?_)
  refine ls F W Aa (Ai F Aa).q fun a w F W => ?_
  iterate 2 refine ls F W Aa (Ah F Aa).q fun a w F W => ?_
  refine Ag (Ad (Az (Bk ?_)))
  have H := AM H
  subst H
  refine KR (.inl Aa) F W Aa (AD F Aa) (AD F Aa) ?_
  exact ⟨rfl, W.done⟩
 have H := AX (Bl hb) H
 rw [hb] at F
 clear hb
 refine Aj (Ae ?_)
 refine ls F W Aa (Ai F Aa).q fun a w F W => ?_
 iterate 2 refine ls F W Aa (Ah F Aa).q fun a w F W => ?_
 refine Ag (Ad (Az (Bk ?_)))
 have H := AM H
 subst H
 refine KR (.inl Aa) F W Aa (AD F Aa) (AD F Aa) ?_
 exact ⟨rfl, W.done⟩
end Go.Proofs.YtepfcpffbabgmaaDoor
