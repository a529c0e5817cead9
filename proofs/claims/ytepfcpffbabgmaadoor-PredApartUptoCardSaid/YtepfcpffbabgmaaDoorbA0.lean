/- The functions of layer 26, EY. Conditions: none. -/
import Derived.Test.YtepfcpffbabgmaaDoorRows
import Derived.Test.YtepfcpffbabgmaaDoorbOT
import Derived.Test.YtepfcpffbabgmaaDoorbQT
import Derived.Test.YtepfcpffbabgmaaDoorbOD
import Derived.Test.YtepfcpffbabgmaaDoorbTR
import Derived.Test.YtepfcpffbabgmaaDoorbOG
import Derived.Test.YtepfcpffbabgmaaDoorbOC
import Derived.Test.YtepfcpffbabgmaaDoorbOX
namespace Go.Proofs.YtepfcpffbabgmaaDoor
open Go Go.RowKit
set_option linter.unusedVariables false
set_option linter.unusedSimpArgs false
set_option maxRecDepth 20000
theorem M4 : type_of% Tryd.underlying22 := Tryd.underlying22
theorem Ko : type_of% Tryd.underlying24 := Tryd.underlying24
theorem GC : type_of% Tryd.underlying29 := Tryd.underlying29
theorem CJ : type_of% Tryd.underlying31 := Tryd.underlying31
inductive Tr24 : Type where
  | mk : Int → Int → Int → (List Tr24) → Tr24
def Tr24.un : Tr24 → Int × Int × Int × List Tr24
  | .mk a0 a1 a2 a3 => (a0, a1, a2, a3)
abbrev Tr24.of (p : Int × Int × Int × List Tr24) : Tr24 := .mk p.1 p.2.1 p.2.2.1 p.2.2.2
def Tr24.cnt : Tr24 → Nat
  | .mk _ _ _ a3 => 1 + ((a3.map Tr24.cnt).sum)
abbrev M3 (r : Rp Tr24) : Rp (Int × Int × Int × List Tr24) := (Rp.pair (Rp.int .i64) (Rp.pair (Rp.int .i64) (Rp.pair (Rp.int .i64) (Rp.slice r))))
theorem Mt : Kt M3 := (Kt.pair (Kt.const _) (Kt.pair (Kt.const _) (Kt.pair (Kt.const _) Kt.hole)))
abbrev J4 : Rp Tr24 := Rp.knot M3 Tr24.un Mt
theorem N9 {w : World} {A : Nat → Prop} {cs : List Value} {a : Tr24} : J4.rep w A cs a ↔ (M3 J4).rep w A cs a.un := F8 Mt
abbrev MA : Rp (Int × Int × Int × (Value × List Tr24)) := (Rp.pair (Rp.int .i64) (Rp.pair (Rp.int .i64) (Rp.pair (Rp.int .i64) (Rp.vsl J4))))
abbrev NP (p : Int × Int × Int × (Value × List Tr24)) : Tr24 := (Tr24.of (p.1, p.2.1, p.2.2.1, p.2.2.2.2))
theorem Js : Ex J4 MA NP := (Ex.knot Mt (of := Tr24.of) (fun _ => rfl) (fun x => by cases x; rfl) (Ex.pair Ex.rfl' (Ex.pair Ex.rfl' (Ex.pair Ex.rfl' Ex.sliceF))))
theorem Nv : Ty Tryd.prog 24 true 4 := ⟨by kernel_rfl, by kernel_rfl⟩
theorem JD : (Tryd.prog.info? 31).bind (·.zero) = some (.agg #[.int .i64 0, .int .i64 0, .int .i64 0, .slice none 0 0]) := by kernel_rfl
theorem T3 : Ty Tryd.prog 3 false 1 := ⟨by kernel_rfl, by kernel_rfl⟩
theorem Mn : Bt Tryd.prog 31 [.int .i64 0, .int .i64 0, .int .i64 0, .slice none 0 0] [(0, 1), (1, 1), (2, 1), (3, 1)] := ⟨⟨.agg #[.int .i64 0, .int .i64 0, .int .i64 0, .slice none 0 0], by kernel_rfl, rfl⟩, ⟨_, CJ, fun w => by kernel_rfl⟩⟩
theorem D7 : Ty Tryd.prog 31 true 4 := ⟨by kernel_rfl, by kernel_rfl⟩
theorem MQ : Ty Tryd.prog 22 false 1 := ⟨by kernel_rfl, by kernel_rfl⟩
theorem MO : Tryd.prog.follows .mixedOrders = true := by kernel_rfl
theorem ET : Ty Tryd.prog 29 false 1 := ⟨by kernel_rfl, by kernel_rfl⟩
abbrev LX (a : Int × Int × Int × (Value × List Tr24)) : List Value := [.int .i64 a.1, .int .i64 a.2.1, .int .i64 a.2.2.1, a.2.2.2.1]
theorem NL : F1 MA LX := (F1.pair Fl.int.to (F1.pair Fl.int.to (F1.pair Fl.int.to F1.vsl)))
theorem Ov : Et Tryd.prog 22 24 4 48 := Et.of M4 (by kernel_rfl) (by kernel_rfl) (by kernel_rfl) (by decide)
inductive Tr31 : Type where
  | mk : Int → Int → Int → (List Tr31) → Tr31
def Tr31.un : Tr31 → Int × Int × Int × List Tr31
  | .mk a0 a1 a2 a3 => (a0, a1, a2, a3)
abbrev Tr31.of (p : Int × Int × Int × List Tr31) : Tr31 := .mk p.1 p.2.1 p.2.2.1 p.2.2.2
def Tr31.cnt : Tr31 → Nat
  | .mk _ _ _ a3 => 1 + ((a3.map Tr31.cnt).sum)
abbrev Nj (r : Rp Tr31) : Rp (Int × Int × Int × List Tr31) := (Rp.pair (Rp.int .i64) (Rp.pair (Rp.int .i64) (Rp.pair (Rp.int .i64) (Rp.slice r))))
theorem Nh : Kt Nj := (Kt.pair (Kt.const _) (Kt.pair (Kt.const _) (Kt.pair (Kt.const _) Kt.hole)))
abbrev B4 : Rp Tr31 := Rp.knot Nj Tr31.un Nh
theorem KD {w : World} {A : Nat → Prop} {cs : List Value} {a : Tr31} : B4.rep w A cs a ↔ (Nj B4).rep w A cs a.un := F8 Nh
theorem H7 : Has Tryd.prog 7 := ⟨fun args w => Ak Tryd.func7 rfl (by decide) args w⟩
theorem Ji : Et Tryd.prog 29 31 4 48 := Et.of GC (by kernel_rfl) (by kernel_rfl) (by kernel_rfl) (by decide)
abbrev FZ : Rp (Int × Int × Int × (Value × List Tr31)) := (Rp.pair (Rp.int .i64) (Rp.pair (Rp.int .i64) (Rp.pair (Rp.int .i64) (Rp.vsl B4))))
abbrev N4 (p : Int × Int × Int × (Value × List Tr31)) : Tr31 := (Tr31.of (p.1, p.2.1, p.2.2.1, p.2.2.2.2))
theorem CA : Ex B4 FZ N4 := (Ex.knot Nh (of := Tr31.of) (fun _ => rfl) (fun x => by cases x; rfl) (Ex.pair Ex.rfl' (Ex.pair Ex.rfl' (Ex.pair Ex.rfl' Ex.sliceF))))
noncomputable def CG (fRec : Tr24 → Option Tr31) (p0 : Tr24) : (Int × List Tr31) → Option ((Int × List Tr31) ⊕ (List Tr31))
  | (x2, x3) => (if x2 < (p0.un.2.2.2.length : Int) then (ix p0.un.2.2.2 x2).bind fun x4 => (fRec x4).bind fun x5 => (HC x3 ([x5] : List Tr31)).bind fun x6 => some (.inl (AJ (x2 + 1), x6)) else some (.inr x3))
noncomputable def Dj (fRec : Tr24 → Option Tr31) (p0 : Tr24) : Option Tr31 := (AZ (CG fRec p0) (0, [])).bind fun x1 => some (Tr31.of (p0.un.1, p0.un.2.1, p0.un.2.2.1, x1))
noncomputable def CT : Nat → Tr24 → Option Tr31
  | 0 => fun _ => none
  | n + 1 => Dj (CT n)
noncomputable def IE (p0 : Tr24) : Option Tr31 := GN fun n => CT n p0
theorem JB (fRec : Tr24 → Option Tr31) (ih : ∀ (Y : Nat → Prop) (w0 : World) (v1 : Value) (p0 : Tr24) (r : Tr31) (H : fRec p0 = some r) (h_v1 : Sl w0 (NX []) J4 v1 p0.un.2.2.2), Calls Tryd.prog 7 #[.agg #[.int .i64 p0.un.1, .int .i64 p0.un.2.1, .int .i64 p0.un.2.2.1, v1]] w0 fun e w' => ∃ x : Value, e = .returned (.agg #[.int .i64 r.un.1, .int .i64 r.un.2.1, .int .i64 r.un.2.2.1, x]) ∧ Stw ⟨Y, [], w0⟩ [] [row (x) 31 B4 r.un.2.2.2] w') (Y : Nat → Prop) (w0 : World) (v1 : Value) (p0 : Tr24) (r : Tr31) (H : Dj fRec p0 = some r) (h_v1 : Sl w0 (NX []) J4 v1 p0.un.2.2.2) :
    Calls Tryd.prog 7 #[.agg #[.int .i64 p0.un.1, .int .i64 p0.un.2.1, .int .i64 p0.un.2.2.1, v1]] w0 fun e w' => ∃ x : Value, e = .returned (.agg #[.int .i64 r.un.1, .int .i64 r.un.2.1, .int .i64 r.un.2.2.1, x]) ∧ Stw ⟨Y, [], w0⟩ [] [row (x) 31 B4 r.un.2.2.2] w' := by
 refine enter Tryd.func7 Aa Tryd.ntmps7 Aa fun a F => ?_
 have W := Stw.start Y w0
 obtain ⟨v2, h1, h_v1⟩ := h_v1.ex Js
 unfold Dj at H
 refine Ag (Ab ?_)
 refine Do (cs := [.int .i64 p0.un.1, .int .i64 p0.un.2.1, .int .i64 p0.un.2.2.1, v1]) F W Aa Aa Aa fun b1 a w F W => ?_
 refine C8 (cs := [.int .i64 0, .int .i64 0, .int .i64 0, .slice none 0 0]) F W Aa JD Aa fun b2 a w F W => ?_
 refine Ae (Ac (Ag (Ab ?_)))
 refine ls F W Aa (Al Ko Aa Aa Aa T3 F Aa 0 Aa).q fun a w F W => ?_
 refine ls F W Aa (As (v := Value.int .i64 p0.un.1) 1 F Aa Aa T3 Aa).q fun a w F W => ?_
 refine ls F W Aa (Al Ko Aa Aa Aa T3 F Aa 1 Aa).q fun a w F W => ?_
 refine ls F W Aa (As (v := Value.int .i64 p0.un.2.1) 1 F Aa Aa T3 Aa).q fun a w F W => ?_
 refine ls F W Aa (Al Ko Aa Aa Aa T3 F Aa 2 Aa).q fun a w F W => ?_
 refine ls F W Aa (As (v := Value.int .i64 p0.un.2.2.1) 1 F Aa Aa T3 Aa).q fun a w F W => ?_
 refine ls F W Aa (D0 (v := Value.agg #[.int .i64 p0.un.1, .int .i64 p0.un.2.1, .int .i64 p0.un.2.2.1, .slice none 0 0]) Mn F Aa Aa Aa).q fun a w F W => ?_
 refine C8 (cs := [.int .i64 0, .int .i64 0, .int .i64 0, .slice none 0 0]) F W Aa JD Aa fun b3 a w F W => ?_
 refine Cl (vs := [.int .i64 p0.un.1, .int .i64 p0.un.2.1, .int .i64 p0.un.2.2.1, .slice none 0 0]) (M' := [(b3, [.int .i64 p0.un.1, .int .i64 p0.un.2.1, .int .i64 p0.un.2.2.1, .slice none 0 0]), (b2, [.int .i64 0, .int .i64 0, .int .i64 0, .slice none 0 0]), (b1, [.int .i64 p0.un.1, .int .i64 p0.un.2.1, .int .i64 p0.un.2.2.1, v1])]) 0 F W Aa Aa Aa D7 Aa Aa Aa Aa Aa fun w W => ?_
 refine Ae (Ac ?_)
 obtain ⟨o1, G1, K1⟩ := Aj H
 refine AW (fun a w => ∃ x1 : List Tr31, ∃ v3 : Value, some (x1) = some o1 ∧ Fr 31 [] [(2, .pointer (some ⟨b2, 0, none⟩)), (3, .pointer (some ⟨b3, 0, none⟩))] a ∧ Stw ⟨Y, [], w0⟩ [(b3, [.int .i64 p0.un.1, .int .i64 p0.un.2.1, .int .i64 p0.un.2.2.1, v3]), (b2, [.int .i64 0, .int .i64 0, .int .i64 0, .slice none 0 0]), (b1, [.int .i64 p0.un.1, .int .i64 p0.un.2.1, .int .i64 p0.un.2.2.1, v1])] [row v3 31 B4 x1] w) ?_ ?_
 ·
  have H := G1
  clear G1 K1
  refine Ag (Ab ?_)
  refine ls F W Aa (Ad F Aa).q fun a w F W => ?_
  refine Ae (Ac (Ap ?_))
  have W := W.nilRow 31 B4
  have W := W.frontM (i := 2) Aa Aa
  have W := W.frontM (i := 2) Aa Aa
  have W := W.frontM (i := 2) Aa Aa
  refine BV H (fun s a w => ∃ v4 : Value, Fr 31 [] [(1, .pointer (some ⟨b1, 0, none⟩)), (2, .pointer (some ⟨b2, 0, none⟩)), (3, .pointer (some ⟨b3, 0, none⟩)), (4, .int .i64 s.1)] a ∧ Stw ⟨Y, [], w0⟩ [(b3, [.int .i64 p0.un.1, .int .i64 p0.un.2.1, .int .i64 p0.un.2.2.1, v4]), (b2, [.int .i64 0, .int .i64 0, .int .i64 0, .slice none 0 0]), (b1, [.int .i64 p0.un.1, .int .i64 p0.un.2.1, .int .i64 p0.un.2.2.1, v1])] [row v4 31 B4 s.2] w) ⟨(Value.slice none 0 0), F.re ⟨rfl, Aa, Aa, Aa, trivial⟩, W⟩ fun s o a w H L2 hR => ?_
  obtain ⟨x2, x3⟩ := s
  obtain ⟨v4, F, W⟩ := hR
  have F : Fr 31 [] [(1, .pointer (some ⟨b1, 0, none⟩)), (2, .pointer (some ⟨b2, 0, none⟩)), (3, .pointer (some ⟨b3, 0, none⟩)), (4, .int .i64 x2)] a := F
  have W : Stw ⟨Y, [], w0⟩ [(b3, [.int .i64 p0.un.1, .int .i64 p0.un.2.1, .int .i64 p0.un.2.2.1, v4]), (b2, [.int .i64 0, .int .i64 0, .int .i64 0, .slice none 0 0]), (b1, [.int .i64 p0.un.1, .int .i64 p0.un.2.1, .int .i64 p0.un.2.2.1, v1])] [row v4 31 B4 x3] w := W
  rw [CG] at H
  refine Ag (Ag (Ab ?_))
  refine ls F W Aa (Af F Aa).q fun a w F W => ?_
  refine ls F W Aa (Al Ko Aa Aa Aa MQ F Aa 3 Aa).q fun a w F W => ?_
  refine ls F W Aa (As (v := v1) 2 F Aa Aa MQ Aa).q fun a w F W => ?_
  refine ls F W Aa (DU (r := J4) (l := p0.un.2.2.2) M4 Aa F Aa (Bn Js h1 (AQ h_v1))).q fun a w F W => ?_
  refine ls F W Aa (Df F Aa Aa).q fun a w F W => ?_
  refine Ae (Ac ?_)
  refine Ao F Aa (fun hb => ?_) fun hb => ?_
  ·
   have H := A5 (Bv hb) H
   rw [hb] at F
   clear hb
   refine Au (Ac (Ag (Ap ?_)))
   obtain ⟨v5, h2, W⟩ := W.exR CA
   refine EC [(true, 0), (true, 1), (true, 2), (true, 3), (true, 4), (true, 5), (true, 6), (false, 7), (false, 8), (false, 9), (true, 10), (false, 11)] (CN ⟨Y, [], w0⟩ [(some 9, b3, [.int .i64 p0.un.1, .int .i64 p0.un.2.1, .int .i64 p0.un.2.2.1, v4]), (some 7, b1, [.int .i64 p0.un.1, .int .i64 p0.un.2.1, .int .i64 p0.un.2.2.1, v1])] []) (fun ch a d v w h => by cases d <;> exact h) MO (by kernel_rfl) W (fun w W => ⟨_, _, W, (BB (fun _ => (.head _)) (BB (fun _ => (.tail _ (.tail _ (.head _)))) A8)), A8⟩) fun w W => ?_
   refine BO (R := []) F Aa Aa (yC fun M Z hN hZ => Al CJ Aa Aa Aa ET F Aa 3 Aa) Aa Aa fun a F => ?_
   refine BO (R := [9]) F Aa Aa (yC fun M Z hN hZ => Kf (cs := [.int .i64 p0.un.1, .int .i64 p0.un.2.1, .int .i64 p0.un.2.2.1, v4]) (v := v4) F Aa (hN ((some 9), b3, [.int .i64 p0.un.1, .int .i64 p0.un.2.1, .int .i64 p0.un.2.2.1, v4]) (.head _) Aa) ET Aa) (by kernel_rfl) Aa fun a F => ?_
   refine BO (R := []) F Aa Aa (yC fun M Z hN hZ => Al Ko Aa Aa Aa MQ F Aa 3 Aa) Aa Aa fun a F => ?_
   refine BO (R := [7, 6, 5]) F Aa Aa (yC fun M Z hN hZ => Kf (cs := [.int .i64 p0.un.1, .int .i64 p0.un.2.1, .int .i64 p0.un.2.2.1, v1]) (v := v1) F Aa (hN ((some 7), b1, [.int .i64 p0.un.1, .int .i64 p0.un.2.1, .int .i64 p0.un.2.2.1, v1]) (.tail _ (.head _)) Aa) MQ Aa) (by kernel_rfl) Aa fun a F => ?_
   refine BO (R := []) F Aa Aa (yC fun M Z hN hZ => Af F Aa) Aa Aa fun a F => ?_
   obtain ⟨x4, h3, H⟩ := Aj H
   obtain ⟨v6, h4, h5⟩ := FV h1 h3
   have h6 : LX v6 = [.int .i64 x4.un.1, .int .i64 x4.un.2.1, .int .i64 x4.un.2.2.1, (v6.2.2.2.1)] := congrArg (fun q : Tr24 => ([.int .i64 q.un.1, .int .i64 q.un.2.1, .int .i64 q.un.2.2.1, (v6.2.2.2.1)] : List Value)) h5
   refine BO (R := []) F Aa Aa (yC fun M Z hN hZ => Ay (r := MA) Ov F Aa Aa (AQ h_v1) h4) Aa Aa fun a F => ?_
   refine BO (R := []) F Aa Aa (yC fun M Z hN hZ => Am (y := Value.agg #[.int .i64 x4.un.1, .int .i64 x4.un.2.1, .int .i64 x4.un.2.2.1, (v6.2.2.2.1)]) (j := 0) (i := x2) (enc := LX) F Aa Aa (AQ h_v1) h4 NL Nv (by rw [h6]; rfl)) Aa Aa fun a F => ?_
   refine FW Aa ?_
   obtain ⟨x5, h7, H⟩ := Aj H
   refine BE (Ml := []) (Zl := []) (M := [(b3, [.int .i64 p0.un.1, .int .i64 p0.un.2.1, .int .i64 p0.un.2.2.1, v4]), (b2, [.int .i64 0, .int .i64 0, .int .i64 0, .slice none 0 0]), (b1, [.int .i64 p0.un.1, .int .i64 p0.un.2.1, .int .i64 p0.un.2.2.1, v1])]) (Z := [row v4 31 FZ v5]) (β := Value) (rv := fun x => .agg #[.int .i64 x5.un.1, .int .i64 x5.un.2.1, .int .i64 x5.un.2.2.1, x]) (MM := fun x => []) (ZZ := fun x => [row x 31 B4 x5.un.2.2.2]) F W H7 Aa Aa (fun hL => ih _ w ((v6.2.2.2.1)) x4 _ h7 ((DV (AQ h_v1) h4 (Cg.snd (Cg.snd (Cg.snd Cg.here))) (congrArg (fun q : Tr24 => q.un.2.2.2) h5)) w W).nx) fun x a w F W => ?_
   obtain ⟨v7, rfl⟩ : ∃ y, y = x := ⟨x, rfl⟩
   have W : Stw ⟨Y, [], w0⟩ [(b3, [.int .i64 p0.un.1, .int .i64 p0.un.2.1, .int .i64 p0.un.2.2.1, v4]), (b2, [.int .i64 0, .int .i64 0, .int .i64 0, .slice none 0 0]), (b1, [.int .i64 p0.un.1, .int .i64 p0.un.2.1, .int .i64 p0.un.2.2.1, v1])] [row v7 31 B4 x5.un.2.2.2, row v4 31 FZ v5] w := W
   refine C1 (N2 := []) (NZ2 := []) (N3 := [(some 9, b3, [.int .i64 p0.un.1, .int .i64 p0.un.2.1, .int .i64 p0.un.2.2.1, v4]), (some 7, b1, [.int .i64 p0.un.1, .int .i64 p0.un.2.1, .int .i64 p0.un.2.2.1, v1])]) (NZ3 := []) W Aa Aa (BB (fun _ => (.head _)) (BB (fun h => Cr (by kernel_rfl) h) A8)) A8 ?_
   refine FW Aa ?_
   have W := W.freeze
   refine Hx (z := Value.agg #[.int .i64 0, .int .i64 0, .int .i64 0, .slice none 0 0]) (cs := [.int .i64 x5.un.1, .int .i64 x5.un.2.1, .int .i64 x5.un.2.2.1, v7]) B4 ([x5] : List Tr31) F W Aa Ji JD Aa Aa Aa (Ct Aa Aa Aa DN) Aa Aa ⟨[Value.int .i64 x5.un.1, Value.int .i64 x5.un.2.1, Value.int .i64 x5.un.2.2.1, v7], _, Aa, (KD.2 ⟨[Value.int .i64 x5.un.1], [Value.int .i64 x5.un.2.1, Value.int .i64 x5.un.2.2.1, v7], Aa, Aa, ⟨[Value.int .i64 x5.un.2.1], [Value.int .i64 x5.un.2.2.1, v7], Aa, Aa, ⟨[Value.int .i64 x5.un.2.2.1], [v7], Aa, Aa, ⟨_, Aa, (W.item (i := 0) Aa)⟩⟩⟩⟩), Aa⟩ fun v8 a w F W => ?_
   refine C1 (N2 := []) (NZ2 := []) (N3 := [(some 9, b3, [.int .i64 p0.un.1, .int .i64 p0.un.2.1, .int .i64 p0.un.2.2.1, v4]), (some 7, b1, [.int .i64 p0.un.1, .int .i64 p0.un.2.1, .int .i64 p0.un.2.2.1, v1])]) (NZ3 := []) W Aa Aa (BB (fun _ => (.head _)) (BB (fun h => Cr (by kernel_rfl) h) A8)) A8 ?_
   refine FW Aa ?_
   have W := W.frontZ (i := 2) Aa Aa
   have W := W.hideR CA h2
   obtain ⟨x6, h8, H⟩ := Aj H
   refine FG (r := B4) (i := 0) F W Aa Ji Aa Aa Aa Aa (Gv W 1 Aa) h8 Aa fun v9 a w F W => ?_
   have W : Stw ⟨Y, [], w0⟩ [(b3, [.int .i64 p0.un.1, .int .i64 p0.un.2.1, .int .i64 p0.un.2.2.1, v4]), (b2, [.int .i64 0, .int .i64 0, .int .i64 0, .slice none 0 0]), (b1, [.int .i64 p0.un.1, .int .i64 p0.un.2.1, .int .i64 p0.un.2.2.1, v1])] [row v9 31 B4 x6, row v8 31 B4 ([x5] : List Tr31), Mx v7 B4 x5.un.2.2.2] w := W
   refine C1 (N2 := []) (NZ2 := []) (N3 := [(some 9, b3, [.int .i64 p0.un.1, .int .i64 p0.un.2.1, .int .i64 p0.un.2.2.1, v4]), (some 7, b1, [.int .i64 p0.un.1, .int .i64 p0.un.2.1, .int .i64 p0.un.2.2.1, v1])]) (NZ3 := []) W Aa Aa (BB (fun h => Cr (by kernel_rfl) h) (BB (fun h => Cr (by kernel_rfl) h) A8)) A8 ?_
   refine BO (R := []) F Aa Aa (yC fun M Z hN hZ => Al CJ Aa Aa Aa ET F Aa 3 Aa) Aa Aa fun a F => ?_
   refine FW Aa ?_
   refine J6 (M' := [(b3, [.int .i64 p0.un.1, .int .i64 p0.un.2.1, .int .i64 p0.un.2.2.1, v9]), (b2, [.int .i64 0, .int .i64 0, .int .i64 0, .slice none 0 0]), (b1, [.int .i64 p0.un.1, .int .i64 p0.un.2.1, .int .i64 p0.un.2.2.1, v1])]) 0 F W Aa Aa Aa ET (W.one (k := 0) Aa) Aa Aa fun w W => ?_
   refine C1 (N2 := []) (NZ2 := []) (N3 := [(some 9, b3, [.int .i64 p0.un.1, .int .i64 p0.un.2.1, .int .i64 p0.un.2.2.1, v4]), (some 7, b1, [.int .i64 p0.un.1, .int .i64 p0.un.2.1, .int .i64 p0.un.2.2.1, v1])]) (NZ3 := []) W Aa Aa (BB (fun h => Cr (by kernel_rfl) h) (BB (fun h => Cr (by kernel_rfl) h) A8)) A8 ?_
   refine Ge (A6 (Ac (Ab ?_)))
   refine ls F W Aa (Af F Aa).q fun a w F W => ?_
   refine ls F W Aa (BM F Aa Aa Aa).q fun a w F W => ?_
   refine ls F W Aa (Ad F Aa).q fun a w F W => ?_
   refine Ae (Ac ?_)
   have W := W.frontM (i := 2) Aa Aa
   have W := W.frontM (i := 2) Aa Aa
   have W := W.frontM (i := 2) Aa Aa
   have W := W.sub (M' := [(b3, [.int .i64 p0.un.1, .int .i64 p0.un.2.1, .int .i64 p0.un.2.2.1, v9]), (b2, [.int .i64 0, .int .i64 0, .int .i64 0, .slice none 0 0]), (b1, [.int .i64 p0.un.1, .int .i64 p0.un.2.1, .int .i64 p0.un.2.2.1, v1])]) (Z' := [row v9 31 B4 x6]) (List.Sublist.refl _) (List.Sublist.cons_cons _ (List.nil_sublist _))
   exact ⟨_, H, (v9), F.re ⟨rfl, Aa, Aa, Aa, trivial⟩, W⟩
  have H := A3 (Bx hb) H
  rw [hb] at F
  clear hb
  refine BK ?_
  iterate 2 refine B7 ?_
  refine BN (Ac ?_)
  have W := W.frontM (i := 2) Aa Aa
  have W := W.frontM (i := 2) Aa Aa
  have W := W.frontM (i := 2) Aa Aa
  have H := L2 _ H
  exact ⟨_, (v4), H, F.re ⟨rfl, Aa, trivial⟩, W⟩
 rintro a w ⟨x1, v3, hj, F, W⟩
 have hj := AV hj
 subst hj
 have H := K1
 clear G1 K1
 refine Ag (Ab ?_)
 refine ls F W Aa (As (v := Value.agg #[.int .i64 p0.un.1, .int .i64 p0.un.2.1, .int .i64 p0.un.2.2.1, v3]) 0 F Aa Aa D7 Aa).q fun a w F W => ?_
 refine Cl (vs := [.int .i64 p0.un.1, .int .i64 p0.un.2.1, .int .i64 p0.un.2.2.1, v3]) (M' := [(b3, [.int .i64 p0.un.1, .int .i64 p0.un.2.1, .int .i64 p0.un.2.2.1, v3]), (b2, [.int .i64 p0.un.1, .int .i64 p0.un.2.1, .int .i64 p0.un.2.2.1, v3]), (b1, [.int .i64 p0.un.1, .int .i64 p0.un.2.1, .int .i64 p0.un.2.2.1, v1])]) 1 F W Aa Aa Aa D7 Aa Aa Aa (AK Aa (AK Aa (AK Aa (AK (W.one (k := 0) Aa) DI)))) Aa fun w W => ?_
 refine Ae (Ac (Aw ?_))
 have H := AV H
 subst H
 refine A2 (.inl Aa) F W Aa (ER 1 F Aa Aa D7 Aa) ?_
 have W := W.sub (M' := []) (Z' := [row v3 31 B4 x1]) (List.nil_sublist _) (List.Sublist.refl _)
 exact ⟨(v3), Aa, W⟩
theorem J3 : ∀ (n : Nat) (Y : Nat → Prop) (w0 : World) (v1 : Value) (p0 : Tr24) (r : Tr31) (H : CT n p0 = some r) (h_v1 : Sl w0 (NX []) J4 v1 p0.un.2.2.2), Calls Tryd.prog 7 #[.agg #[.int .i64 p0.un.1, .int .i64 p0.un.2.1, .int .i64 p0.un.2.2.1, v1]] w0 fun e w' => ∃ x : Value, e = .returned (.agg #[.int .i64 r.un.1, .int .i64 r.un.2.1, .int .i64 r.un.2.2.1, x]) ∧ Stw ⟨Y, [], w0⟩ [] [row (x) 31 B4 r.un.2.2.2] w' := by
  intro n
  induction n with
  | zero => intro Y w0 v1 p0 r H; exact nomatch H
  | succ n ih => intro Y w0 v1 p0 r H h_v1; exact JB (CT n) ih Y w0 v1 p0 r H h_v1
theorem Kz (Y : Nat → Prop) (w0 : World) (v1 : Value) (p0 : Tr24) (r : Tr31) (H : IE p0 = some r) (h_v1 : Sl w0 (NX []) J4 v1 p0.un.2.2.2) :
    Calls Tryd.prog 7 #[.agg #[.int .i64 p0.un.1, .int .i64 p0.un.2.1, .int .i64 p0.un.2.2.1, v1]] w0 fun e w' => ∃ x : Value, e = .returned (.agg #[.int .i64 r.un.1, .int .i64 r.un.2.1, .int .i64 r.un.2.2.1, x]) ∧ Stw ⟨Y, [], w0⟩ [] [row (x) 31 B4 r.un.2.2.2] w' := by
  obtain ⟨n, H⟩ := DC H
  exact J3 n Y w0 v1 p0 r H h_v1
theorem Oe : Has Tryd.prog 11 := ⟨fun args w => Ak Tryd.func11 rfl (by decide) args w⟩
noncomputable def CF (fRec : Tr24 → Option Int) (p0 : Tr24) : (Int × Int) → Option ((Int × Int) ⊕ Int)
  | (x2, x3) => (if x3 < (p0.un.2.2.2.length : Int) then (ix p0.un.2.2.2 x3).bind fun x4 => (fRec x4).bind fun x5 => some (.inl (AJ (x2 + x5), AJ (x3 + 1))) else some (.inr x2))
noncomputable def Dn (fRec : Tr24 → Option Int) (p0 : Tr24) : Option Int := (AZ (CF fRec p0) (1, 0)).bind fun x1 => some x1
noncomputable def CX : Nat → Tr24 → Option Int
  | 0 => fun _ => none
  | n + 1 => Dn (CX n)
noncomputable def IC (p0 : Tr24) : Option Int := GN fun n => CX n p0
theorem Jg (fRec : Tr24 → Option Int) (ih : ∀ (Y : Nat → Prop) (w0 : World) (v1 : Value) (p0 : Tr24) (r : Int) (H : fRec p0 = some r) (h_v1 : Sl w0 (NX []) J4 v1 p0.un.2.2.2), Calls Tryd.prog 11 #[.agg #[.int .i64 p0.un.1, .int .i64 p0.un.2.1, .int .i64 p0.un.2.2.1, v1]] w0 fun e w' => e = .returned (.int .i64 r) ∧ Below w0.heap.size w0 w') (Y : Nat → Prop) (w0 : World) (v1 : Value) (p0 : Tr24) (r : Int) (H : Dn fRec p0 = some r) (h_v1 : Sl w0 (NX []) J4 v1 p0.un.2.2.2) :
    Calls Tryd.prog 11 #[.agg #[.int .i64 p0.un.1, .int .i64 p0.un.2.1, .int .i64 p0.un.2.2.1, v1]] w0 fun e w' => e = .returned (.int .i64 r) ∧ Below w0.heap.size w0 w' := by
 refine enter Tryd.func11 Aa Tryd.ntmps11 Aa fun a F => ?_
 have W := Stw.start Y w0
 obtain ⟨v2, h1, h_v1⟩ := h_v1.ex Js
 unfold Dn at H
 refine Ag (Ab ?_)
 refine Do (cs := [.int .i64 p0.un.1, .int .i64 p0.un.2.1, .int .i64 p0.un.2.2.1, v1]) F W Aa Aa Aa fun b1 a w F W => ?_
 refine ls F W Aa (Ad F Aa).q fun a w F W => ?_
 refine Ae (Ac (Ag (Ab ?_)))
 refine ls F W Aa (Ad F Aa).q fun a w F W => ?_
 refine Ae (Ac ?_)
 obtain ⟨o1, G1, K1⟩ := Aj H
 refine AW (fun a w => ∃ x1 : Int, some (x1) = some o1 ∧ Fr 21 [] [(2, .int .i64 0), (3, .int .i64 x1)] a ∧ Stw ⟨Y, [], w0⟩ [(b1, [.int .i64 p0.un.1, .int .i64 p0.un.2.1, .int .i64 p0.un.2.2.1, v1])] [] w) ?_ ?_
 ·
  have H := G1
  clear G1 K1
  refine Ag (Ab ?_)
  refine ls F W Aa (Ad F Aa).q fun a w F W => ?_
  refine Ae (Ac (Ap ?_))
  refine BV H (fun s a w => Fr 21 [] [(1, .pointer (some ⟨b1, 0, none⟩)), (2, .int .i64 0), (3, .int .i64 s.1), (4, .int .i64 s.2)] a ∧ Stw ⟨Y, [], w0⟩ [(b1, [.int .i64 p0.un.1, .int .i64 p0.un.2.1, .int .i64 p0.un.2.2.1, v1])] [] w) ⟨F.re ⟨rfl, Aa, Aa, Aa, trivial⟩, W⟩ fun s o a w H L2 hR => ?_
  obtain ⟨x2, x3⟩ := s
  obtain ⟨F, W⟩ := hR
  have F : Fr 21 [] [(1, .pointer (some ⟨b1, 0, none⟩)), (2, .int .i64 0), (3, .int .i64 x2), (4, .int .i64 x3)] a := F
  have W : Stw ⟨Y, [], w0⟩ [(b1, [.int .i64 p0.un.1, .int .i64 p0.un.2.1, .int .i64 p0.un.2.2.1, v1])] [] w := W
  rw [CF] at H
  refine Ag (Ag (Ab ?_))
  refine ls F W Aa (Af F Aa).q fun a w F W => ?_
  refine ls F W Aa (Al Ko Aa Aa Aa MQ F Aa 3 Aa).q fun a w F W => ?_
  refine ls F W Aa (As (v := v1) 0 F Aa Aa MQ Aa).q fun a w F W => ?_
  refine ls F W Aa (DU (r := J4) (l := p0.un.2.2.2) M4 Aa F Aa (Bn Js h1 (AQ h_v1))).q fun a w F W => ?_
  refine ls F W Aa (Df F Aa Aa).q fun a w F W => ?_
  refine Ae (Ac ?_)
  refine Ao F Aa (fun hb => ?_) fun hb => ?_
  ·
   have H := A5 (Bv hb) H
   rw [hb] at F
   clear hb
   refine Au (Ac (Ag (Ap (Ab ?_))))
   refine ls F W Aa (Af F Aa).q fun a w F W => ?_
   refine ls F W Aa (Al Ko Aa Aa Aa MQ F Aa 3 Aa).q fun a w F W => ?_
   refine ls F W Aa (As (v := v1) 0 F Aa Aa MQ Aa).q fun a w F W => ?_
   refine ls F W Aa (Af F Aa).q fun a w F W => ?_
   obtain ⟨x4, h2, H⟩ := Aj H
   obtain ⟨v3, h3, h4⟩ := FV h1 h2
   have h5 : LX v3 = [.int .i64 x4.un.1, .int .i64 x4.un.2.1, .int .i64 x4.un.2.2.1, (v3.2.2.2.1)] := congrArg (fun q : Tr24 => ([.int .i64 q.un.1, .int .i64 q.un.2.1, .int .i64 q.un.2.2.1, (v3.2.2.2.1)] : List Value)) h4
   refine ls F W Aa (Ay (r := MA) Ov F Aa Aa (AQ h_v1) h3).q fun a w F W => ?_
   refine ls F W Aa (Am (y := Value.agg #[.int .i64 x4.un.1, .int .i64 x4.un.2.1, .int .i64 x4.un.2.2.1, (v3.2.2.2.1)]) (j := 0) (i := x3) (enc := LX) F Aa Aa (AQ h_v1) h3 NL Nv (by rw [h5]; rfl)).q fun a w F W => ?_
   obtain ⟨x5, h6, H⟩ := Aj H
   refine ls F W Aa (Be (v := Value.int .i64 x5) F Oe Aa (fun w W => ih any w ((v3.2.2.2.1)) x4 _ h6 (((DV (AQ h_v1) h3 (Cg.snd (Cg.snd (Cg.snd Cg.here))) (congrArg (fun q : Tr24 => q.un.2.2.2) h4)) : FB _ _ _ _ _ _) w W).nx)) fun a w F W => ?_
   refine ls F W Aa (BM F Aa Aa Aa).q fun a w F W => ?_
   refine ls F W Aa (Ad F Aa).q fun a w F W => ?_
   refine Ae (A6 (Ac (Ab ?_)))
   refine ls F W Aa (Af F Aa).q fun a w F W => ?_
   refine ls F W Aa (BM F Aa Aa Aa).q fun a w F W => ?_
   refine ls F W Aa (Ad F Aa).q fun a w F W => ?_
   refine Ae (Ac ?_)
   exact ⟨_, H, F.re ⟨rfl, Aa, Aa, Aa, trivial⟩, W⟩
  have H := A3 (Bx hb) H
  rw [hb] at F
  clear hb
  refine BK ?_
  iterate 2 refine B7 ?_
  refine BN (Ac ?_)
  have H := L2 _ H
  exact ⟨_, H, F.re ⟨rfl, Aa, trivial⟩, W⟩
 rintro a w ⟨x1, hj, F, W⟩
 have hj := AV hj
 subst hj
 have H := K1
 clear G1 K1
 refine Ag (Ab ?_)
 refine ls F W Aa (Af F Aa).q fun a w F W => ?_
 refine ls F W Aa (Ad F Aa).q fun a w F W => ?_
 refine Ae (Ac (Aw ?_))
 have H := AV H
 subst H
 refine A2 (.inl Aa) F W Aa (AB F Aa) ?_
 exact ⟨rfl, W.done⟩
theorem J9 : ∀ (n : Nat) (Y : Nat → Prop) (w0 : World) (v1 : Value) (p0 : Tr24) (r : Int) (H : CX n p0 = some r) (h_v1 : Sl w0 (NX []) J4 v1 p0.un.2.2.2), Calls Tryd.prog 11 #[.agg #[.int .i64 p0.un.1, .int .i64 p0.un.2.1, .int .i64 p0.un.2.2.1, v1]] w0 fun e w' => e = .returned (.int .i64 r) ∧ Below w0.heap.size w0 w' := by
  intro n
  induction n with
  | zero => intro Y w0 v1 p0 r H; exact nomatch H
  | succ n ih => intro Y w0 v1 p0 r H h_v1; exact Jg (CX n) ih Y w0 v1 p0 r H h_v1
theorem Kp (Y : Nat → Prop) (w0 : World) (v1 : Value) (p0 : Tr24) (r : Int) (H : IC p0 = some r) (h_v1 : Sl w0 (NX []) J4 v1 p0.un.2.2.2) :
    Calls Tryd.prog 11 #[.agg #[.int .i64 p0.un.1, .int .i64 p0.un.2.1, .int .i64 p0.un.2.2.1, v1]] w0 fun e w' => e = .returned (.int .i64 r) ∧ Below w0.heap.size w0 w' := by
  obtain ⟨n, H⟩ := DC H
  exact J9 n Y w0 v1 p0 r H h_v1
noncomputable def Gu (p0 : Tr24) : Option Bool := (IC p0).bind fun x1 => some (decide (x1 ≤ 100))
theorem JQ (Y : Nat → Prop) (w0 : World) (v1 : Value) (p0 : Tr24) (r : Bool) (H : Gu p0 = some r) (h_v1 : Sl w0 (NX []) J4 v1 p0.un.2.2.2) :
    Calls Tryd.prog 5 #[.agg #[.int .i64 p0.un.1, .int .i64 p0.un.2.1, .int .i64 p0.un.2.2.1, v1]] w0 fun e w' => e = .returned (.bool r) ∧ Below w0.heap.size w0 w' := by
 refine enter Tryd.func5 Aa Tryd.ntmps5 Aa fun a F => ?_
 have W := Stw.start Y w0
 obtain ⟨v2, h1, h_v1⟩ := h_v1.ex Js
 unfold Gu at H
 refine Ag (Ab ?_)
 refine Do (cs := [.int .i64 p0.un.1, .int .i64 p0.un.2.1, .int .i64 p0.un.2.2.1, v1]) F W Aa Aa Aa fun b1 a w F W => ?_
 refine ls F W Aa (Ad F Aa).q fun a w F W => ?_
 refine Ae (Ac (Ag (Ab ?_)))
 refine ls F W Aa (As (v := Value.agg #[.int .i64 p0.un.1, .int .i64 p0.un.2.1, .int .i64 p0.un.2.2.1, v1]) 0 F Aa Aa Nv Aa).q fun a w F W => ?_
 obtain ⟨x1, h2, H⟩ := Aj H
 refine ls F W Aa (Be (v := Value.int .i64 x1) F Oe Aa (fun w W => Kp any w (v1) p0 _ h2 (((Bn Js h1 (AQ h_v1)) : FB _ _ _ _ _ _) w W).nx)) fun a w F W => ?_
 refine ls F W Aa (FC F Aa Aa).q fun a w F W => ?_
 refine ls F W Aa (Ad F Aa).q fun a w F W => ?_
 refine Ae (Ac (Aw ?_))
 have H := AV H
 subst H
 refine A2 (.inl Aa) F W Aa (AB F Aa) ?_
 exact ⟨rfl, W.done⟩
theorem Lp : type_of% Tryd.underlying46 := Tryd.underlying46
theorem H5 : Has Tryd.prog 5 := ⟨fun args w => Ak Tryd.func5 rfl (by decide) args w⟩
theorem Mk : Ty Tryd.prog 26 true 4 := ⟨by kernel_rfl, by kernel_rfl⟩
theorem Z3 : (Tryd.prog.info? 3).bind (·.zero) = some (.int .i64 0) := by kernel_rfl
theorem CK : Et Tryd.prog 46 3 1 8 := Et.of Lp (by kernel_rfl) (by kernel_rfl) (by kernel_rfl) (by decide)
abbrev Fp (a : Int × Int × Int × (Value × List Tr31)) : List Value := [.int .i64 a.1, .int .i64 a.2.1, .int .i64 a.2.2.1, a.2.2.2.1]
theorem IU : F1 FZ Fp := (F1.pair Fl.int.to (F1.pair Fl.int.to (F1.pair Fl.int.to F1.vsl)))
theorem Oz : Has Tryd.prog 41 := ⟨fun args w => Ak Tryd.func41 rfl (by decide) args w⟩
noncomputable def BX (fRec : Tr31 → Int → Option (List Int)) (p0 : Tr31) (p1 : Int) : (List Int × Int) → Option ((List Int × Int) ⊕ (List Int))
  | (x4, x5) => (if x5 < (p0.un.2.2.2.length : Int) then (ix p0.un.2.2.2 x5).bind fun x6 => (fRec x6 p1).bind fun x7 => (HC x4 x7).bind fun x8 => some (.inl (x8, AJ (x5 + 1))) else some (.inr x4))
noncomputable def Cs (fRec : Tr31 → Int → Option (List Int)) (p0 : Tr31) (p1 : Int) : Option (List Int) := (if (decide (p0.un.1 = 3) && decide (p0.un.2.1 = p1)) = true then (HC ([] : List Int) ([p0.un.2.2.1] : List Int)).bind fun x2 => some x2 else some ([])).bind fun x1 => (AZ (BX fRec p0 p1) (x1, 0)).bind fun x3 => some x3
noncomputable def Cf : Nat → Tr31 → Int → Option (List Int)
  | 0 => fun _ _ => none
  | n + 1 => Cs (Cf n)
noncomputable def Fi (p0 : Tr31) (p1 : Int) : Option (List Int) := GN fun n => Cf n p0 p1
theorem Hf (fRec : Tr31 → Int → Option (List Int)) (ih : ∀ (Y : Nat → Prop) (w0 : World) (v1 : Value) (p0 : Tr31) (p1 : Int) (r : List Int) (H : fRec p0 p1 = some r) (h_v1 : Sl w0 (NX []) B4 v1 p0.un.2.2.2), Calls Tryd.prog 41 #[.agg #[.int .i64 p0.un.1, .int .i64 p0.un.2.1, .int .i64 p0.un.2.2.1, v1], .int .i64 p1] w0 fun e w' => ∃ x : Value, e = .returned (x) ∧ Stw ⟨Y, [], w0⟩ [] [row (x) 3 (Rp.int .i64) r] w') (Y : Nat → Prop) (w0 : World) (v1 : Value) (p0 : Tr31) (p1 : Int) (r : List Int) (H : Cs fRec p0 p1 = some r) (h_v1 : Sl w0 (NX []) B4 v1 p0.un.2.2.2) :
    Calls Tryd.prog 41 #[.agg #[.int .i64 p0.un.1, .int .i64 p0.un.2.1, .int .i64 p0.un.2.2.1, v1], .int .i64 p1] w0 fun e w' => ∃ x : Value, e = .returned (x) ∧ Stw ⟨Y, [], w0⟩ [] [row (x) 3 (Rp.int .i64) r] w' := by
 refine enter Tryd.func41 Aa Tryd.ntmps41 Aa fun a F => ?_
 have W := Stw.start Y w0
 obtain ⟨v2, h1, h_v1⟩ := h_v1.ex CA
 unfold Cs at H
 refine Ag (Ab ?_)
 refine Do (cs := [.int .i64 p0.un.1, .int .i64 p0.un.2.1, .int .i64 p0.un.2.2.1, v1]) F W Aa Aa Aa fun b1 a w F W => ?_
 refine ls F W Aa (Ad F Aa).q fun a w F W => ?_
 refine Ae (Ac (Ag (Ab ?_)))
 refine ls F W Aa (Ad F Aa).q fun a w F W => ?_
 refine Ae (Ac ?_)
 obtain ⟨o1, G1, K1⟩ := Aj H
 refine AW (fun a w => ∃ x1 : List Int, ∃ v3 : Value, some (x1) = some o1 ∧ Fr 36 [] [(1, .int .i64 p1), (2, .pointer (some ⟨b1, 0, none⟩)), (4, .slice none 0 0), (5, v3)] a ∧ Stw ⟨Y, [], w0⟩ [(b1, [.int .i64 p0.un.1, .int .i64 p0.un.2.1, .int .i64 p0.un.2.2.1, v1])] [row v3 3 (Rp.int .i64) x1] w) ?_ ?_
 ·
  have H := G1
  clear G1 K1
  refine AW (fun a w => Fr 36 [] [(1, .int .i64 p1), (2, .pointer (some ⟨b1, 0, none⟩)), (4, .slice none 0 0), (5, .slice none 0 0), (16, .bool (decide (p0.un.1 = 3) && decide (p0.un.2.1 = p1)))] a ∧ Stw ⟨Y, [], w0⟩ [(b1, [.int .i64 p0.un.1, .int .i64 p0.un.2.1, .int .i64 p0.un.2.2.1, v1])] [] w) ?_ ?_
  ·
   refine Ab ?_
   refine ls F W Aa (Al CJ Aa Aa Aa T3 F Aa 0 Aa).q fun a w F W => ?_
   refine ls F W Aa (As (v := Value.int .i64 p0.un.1) 0 F Aa Aa T3 Aa).q fun a w F W => ?_
   refine ls F W Aa (BU F Aa Aa).q fun a w F W => ?_
   refine ls F W Aa (Af F Aa).q fun a w F W => ?_
   rcases Bool.eq_false_or_eq_true (decide (p0.un.1 = 3)) with hb0 | hb0
   ·
    rw [hb0] at F
    refine Cm F W (Ah F Aa Aa Aa Aa) Aa (An Aa) (Al CJ Aa Aa Aa T3 F Aa 1 Aa).q fun a w F W => ?_
    refine Cm F W (Ah F Aa Aa Aa Aa) Aa (An Aa) (As (v := Value.int .i64 p0.un.2.1) 0 F Aa Aa T3 Aa).q fun a w F W => ?_
    refine Cm F W (Ah F Aa Aa Aa Aa) Aa (An Aa) (Af F Aa).q fun a w F W => ?_
    refine Cm F W (Ah F Aa Aa Aa Aa) Aa (An Aa) (BU F Aa Aa).q fun a w F W => ?_
    refine ls F W Aa (Bc F Aa Aa Aa).q fun a w F W => ?_
    refine Ae (Ac ?_)
    exact ⟨F.re ⟨rfl, Aa, Aa, Aa, (by show some (Value.bool (decide (p0.un.2.1 = p1))) = some (Value.bool (decide (p0.un.1 = 3) && decide (p0.un.2.1 = p1))); try rw [hb0]; all_goals simp only [Bool.not_true, Bool.not_false, Bool.true_and, Bool.false_and, Bool.true_or, Bool.false_or, Bool.and_true, Bool.or_false, cond_true, cond_false]), trivial⟩, W⟩
   rw [hb0] at F
   iterate 4 refine GD F Aa Aa Aa Aa Aa Aa Aa fun a F => ?_
   refine ls F W Aa (AU F Aa Aa Aa).q fun a w F W => ?_
   refine Ae (Ac ?_)
   exact ⟨F.re ⟨rfl, Aa, Aa, Aa, (by show some (Value.bool false) = some (Value.bool (decide (p0.un.1 = 3) && decide (p0.un.2.1 = p1))); try rw [hb0]; all_goals simp only [Bool.not_true, Bool.not_false, Bool.true_and, Bool.false_and, Bool.true_or, Bool.false_or, Bool.and_true, Bool.or_false, cond_true, cond_false]), trivial⟩, W⟩
  rintro a w ⟨F, W⟩
  refine Ao F Aa (fun hb => ?_) fun hb => ?_
  ·
   have H := A5 hb H
   rw [hb] at F
   clear hb
   refine Ab ?_
   refine ls F W Aa (Af F Aa).q fun a w F W => ?_
   refine ls F W Aa (Al CJ Aa Aa Aa T3 F Aa 2 Aa).q fun a w F W => ?_
   refine ls F W Aa (As (v := Value.int .i64 p0.un.2.2.1) 0 F Aa Aa T3 Aa).q fun a w F W => ?_
   refine Hx (z := Value.int .i64 0) (cs := [.int .i64 p0.un.2.2.1]) (Rp.int .i64) ([p0.un.2.2.1] : List Int) F W Aa CK Z3 Aa Aa Aa Aa Aa Aa (Fl.int.repL _ _ ([p0.un.2.2.1] : List Int)) fun v4 a w F W => ?_
   have W := W.nilRow 3 (Rp.int .i64)
   obtain ⟨x2, h2, H⟩ := Aj H
   refine FG (r := (Rp.int .i64)) (i := 0) F W Aa CK Aa Aa Aa Aa (Gv W 1 Aa) h2 Aa fun v5 a w F W => ?_
   have W : Stw ⟨Y, [], w0⟩ [(b1, [.int .i64 p0.un.1, .int .i64 p0.un.2.1, .int .i64 p0.un.2.2.1, v1])] [row v5 3 (Rp.int .i64) x2, row v4 3 (Rp.int .i64) ([p0.un.2.2.1] : List Int)] w := W
   refine ls F W Aa (Ad F Aa).q fun a w F W => ?_
   refine Ae (Ac ?_)
   have W := W.sub (M' := [(b1, [.int .i64 p0.un.1, .int .i64 p0.un.2.1, .int .i64 p0.un.2.2.1, v1])]) (Z' := [row v5 3 (Rp.int .i64) x2]) (List.Sublist.refl _) (List.Sublist.cons_cons _ (List.nil_sublist _))
   exact ⟨_, (v5), H, F.re ⟨rfl, Aa, Aa, Aa, trivial⟩, W⟩
  have H := A3 (by rw [hb]; decide) H
  rw [hb] at F
  clear hb
  refine Au (Ac ?_)
  have W := W.nilRow 3 (Rp.int .i64)
  exact ⟨_, (Value.slice none 0 0), H, F.re ⟨rfl, Aa, Aa, Aa, trivial⟩, W⟩
 rintro a w ⟨x1, v3, hj, F, W⟩
 have hj := AV hj
 subst hj
 have H := K1
 clear G1 K1
 obtain ⟨o2, G2, K2⟩ := Aj H
 refine AW (fun a w => ∃ x3 : List Int, ∃ v6 : Value, some (x3) = some o2 ∧ Fr 36 [] [(4, .slice none 0 0), (5, v6)] a ∧ Stw ⟨Y, [], w0⟩ [(b1, [.int .i64 p0.un.1, .int .i64 p0.un.2.1, .int .i64 p0.un.2.2.1, v1])] [row v6 3 (Rp.int .i64) x3] w) ?_ ?_
 ·
  have H := G2
  clear G2 K2
  refine Ag (Ab ?_)
  refine ls F W Aa (Al CJ Aa Aa Aa ET F Aa 3 Aa).q fun a w F W => ?_
  refine ls F W Aa (As (v := v1) 0 F Aa Aa ET Aa).q fun a w F W => ?_
  refine ls F W Aa (DU (r := B4) (l := p0.un.2.2.2) GC Aa F Aa (Bn CA h1 (AQ h_v1))).q fun a w F W => ?_
  refine ls F W Aa (Af F Aa).q fun a w F W => ?_
  refine Ae (Ac (Ap ?_))
  refine BV H (fun s a w => ∃ v7 : Value, Fr 36 [] [(1, .int .i64 p1), (4, .slice none 0 0), (5, v7), (23, v1), (24, .int .i64 (p0.un.2.2.2.length : Int)), (25, .int .i64 s.2)] a ∧ Stw ⟨Y, [], w0⟩ [(b1, [.int .i64 p0.un.1, .int .i64 p0.un.2.1, .int .i64 p0.un.2.2.1, v1])] [row v7 3 (Rp.int .i64) s.1] w) ⟨(v3), F.re ⟨rfl, Aa, Aa, Aa, Aa, Aa, trivial⟩, W⟩ fun s o a w H L3 hR => ?_
  obtain ⟨x4, x5⟩ := s
  obtain ⟨v7, F, W⟩ := hR
  have F : Fr 36 [] [(1, .int .i64 p1), (4, .slice none 0 0), (5, v7), (23, v1), (24, .int .i64 (p0.un.2.2.2.length : Int)), (25, .int .i64 x5)] a := F
  have W : Stw ⟨Y, [], w0⟩ [(b1, [.int .i64 p0.un.1, .int .i64 p0.un.2.1, .int .i64 p0.un.2.2.1, v1])] [row v7 3 (Rp.int .i64) x4] w := W
  rw [BX] at H
  refine Ag (Ab ?_)
  refine ls F W Aa (Df F Aa Aa).q fun a w F W => ?_
  refine Ae (Ac (Ag ?_))
  refine Ao F Aa (fun hb => ?_) fun hb => ?_
  ·
   have H := A5 (Bv hb) H
   rw [hb] at F
   clear hb
   refine Au (Ac (Ag (Ap (Ag (Ab ?_)))))
   obtain ⟨x6, h3, H⟩ := Aj H
   obtain ⟨v8, h4, h5⟩ := FV h1 h3
   have h6 : Fp v8 = [.int .i64 x6.un.1, .int .i64 x6.un.2.1, .int .i64 x6.un.2.2.1, (v8.2.2.2.1)] := congrArg (fun q : Tr31 => ([.int .i64 q.un.1, .int .i64 q.un.2.1, .int .i64 q.un.2.2.1, (v8.2.2.2.1)] : List Value)) h5
   refine ls F W Aa (Ay (r := FZ) Ji F Aa Aa (AQ h_v1) h4).q fun a w F W => ?_
   refine ls F W Aa (Am (y := Value.agg #[.int .i64 x6.un.1, .int .i64 x6.un.2.1, .int .i64 x6.un.2.2.1, (v8.2.2.2.1)]) (j := 0) (i := x5) (enc := Fp) F Aa Aa (AQ h_v1) h4 IU D7 (by rw [h6]; rfl)).q fun a w F W => ?_
   refine C8 (cs := [.int .i64 0, .int .i64 0, .int .i64 0, .slice none 0 0]) F W Aa JD Aa fun b2 a w F W => ?_
   refine Cl (vs := [.int .i64 x6.un.1, .int .i64 x6.un.2.1, .int .i64 x6.un.2.2.1, (v8.2.2.2.1)]) (M' := [(b2, [.int .i64 x6.un.1, .int .i64 x6.un.2.1, .int .i64 x6.un.2.2.1, (v8.2.2.2.1)]), (b1, [.int .i64 p0.un.1, .int .i64 p0.un.2.1, .int .i64 p0.un.2.2.1, v1])]) 0 F W Aa Aa Aa D7 Aa Aa Aa (AK Aa (AK Aa (AK Aa (AK ((DV (AQ h_v1) h4 (Cg.snd (Cg.snd (Cg.snd Cg.here))) (congrArg (fun q : Tr31 => q.un.2.2.2) h5)) _ W).one DI)))) Aa fun w W => ?_
   refine Ae (Ac (Ab ?_))
   refine ls F W Aa (Af F Aa).q fun a w F W => ?_
   refine ls F W Aa (As (v := Value.agg #[.int .i64 x6.un.1, .int .i64 x6.un.2.1, .int .i64 x6.un.2.2.1, (v8.2.2.2.1)]) 0 F Aa Aa D7 Aa).q fun a w F W => ?_
   refine ls F W Aa (Af F Aa).q fun a w F W => ?_
   obtain ⟨x7, h7, H⟩ := Aj H
   refine BE (Ml := []) (Zl := []) (M := [(b2, [.int .i64 x6.un.1, .int .i64 x6.un.2.1, .int .i64 x6.un.2.2.1, (v8.2.2.2.1)]), (b1, [.int .i64 p0.un.1, .int .i64 p0.un.2.1, .int .i64 p0.un.2.2.1, v1])]) (Z := [row v7 3 (Rp.int .i64) x4]) (β := Value) (rv := fun x => x) (MM := fun x => []) (ZZ := fun x => [row x 3 (Rp.int .i64) x7]) F W Oz Aa Aa (fun hL => ih _ w ((v8.2.2.2.1)) x6 p1 _ h7 ((DV (AQ h_v1) h4 (Cg.snd (Cg.snd (Cg.snd Cg.here))) (congrArg (fun q : Tr31 => q.un.2.2.2) h5)) w W).nx) fun x a w F W => ?_
   obtain ⟨v9, rfl⟩ : ∃ y, y = x := ⟨x, rfl⟩
   have W : Stw ⟨Y, [], w0⟩ [(b2, [.int .i64 x6.un.1, .int .i64 x6.un.2.1, .int .i64 x6.un.2.2.1, (v8.2.2.2.1)]), (b1, [.int .i64 p0.un.1, .int .i64 p0.un.2.1, .int .i64 p0.un.2.2.1, v1])] [row v9 3 (Rp.int .i64) x7, row v7 3 (Rp.int .i64) x4] w := W
   obtain ⟨x8, h8, H⟩ := Aj H
   refine FG (r := (Rp.int .i64)) (i := 1) F W Aa CK Aa Aa Aa Aa (Gv W 0 Aa) h8 Aa fun v10 a w F W => ?_
   have W : Stw ⟨Y, [], w0⟩ [(b2, [.int .i64 x6.un.1, .int .i64 x6.un.2.1, .int .i64 x6.un.2.2.1, (v8.2.2.2.1)]), (b1, [.int .i64 p0.un.1, .int .i64 p0.un.2.1, .int .i64 p0.un.2.2.1, v1])] [row v10 3 (Rp.int .i64) x8, row v9 3 (Rp.int .i64) x7] w := W
   refine ls F W Aa (Ad F Aa).q fun a w F W => ?_
   refine Ae (A6 (Ac (Ab ?_)))
   refine ls F W Aa (BM F Aa Aa Aa).q fun a w F W => ?_
   refine ls F W Aa (Af F Aa).q fun a w F W => ?_
   refine Ae (Ac ?_)
   have W := W.frontM (i := 1) Aa Aa
   have W := W.sub (M' := [(b1, [.int .i64 p0.un.1, .int .i64 p0.un.2.1, .int .i64 p0.un.2.2.1, v1])]) (Z' := [row v10 3 (Rp.int .i64) x8]) (List.Sublist.cons_cons _ (List.nil_sublist _)) (List.Sublist.cons_cons _ (List.nil_sublist _))
   exact ⟨_, H, (v10), F.re ⟨rfl, Aa, Aa, Aa, Aa, Aa, trivial⟩, W⟩
  have H := A3 (Bx hb) H
  rw [hb] at F
  clear hb
  refine BK ?_
  iterate 2 refine B7 ?_
  refine BN (Ac ?_)
  have H := L3 _ H
  exact ⟨_, (v7), H, F.re ⟨rfl, Aa, trivial⟩, W⟩
 rintro a w ⟨x3, v6, hj, F, W⟩
 have hj := AV hj
 subst hj
 have H := K2
 clear G2 K2
 refine Ag (Ab ?_)
 refine ls F W Aa (Af F Aa).q fun a w F W => ?_
 refine ls F W Aa (Ad F Aa).q fun a w F W => ?_
 refine Ae (Ac (Aw ?_))
 have H := AV H
 subst H
 refine A2 (.inl Aa) F W Aa (AB F Aa) ?_
 have W := W.sub (M' := []) (Z' := [row v6 3 (Rp.int .i64) x3]) (List.nil_sublist _) (List.Sublist.refl _)
 exact ⟨(v6), Aa, W⟩
theorem Hr : ∀ (n : Nat) (Y : Nat → Prop) (w0 : World) (v1 : Value) (p0 : Tr31) (p1 : Int) (r : List Int) (H : Cf n p0 p1 = some r) (h_v1 : Sl w0 (NX []) B4 v1 p0.un.2.2.2), Calls Tryd.prog 41 #[.agg #[.int .i64 p0.un.1, .int .i64 p0.un.2.1, .int .i64 p0.un.2.2.1, v1], .int .i64 p1] w0 fun e w' => ∃ x : Value, e = .returned (x) ∧ Stw ⟨Y, [], w0⟩ [] [row (x) 3 (Rp.int .i64) r] w' := by
  intro n
  induction n with
  | zero => intro Y w0 v1 p0 p1 r H; exact nomatch H
  | succ n ih => intro Y w0 v1 p0 p1 r H h_v1; exact Hf (Cf n) ih Y w0 v1 p0 p1 r H h_v1
theorem H0 (Y : Nat → Prop) (w0 : World) (v1 : Value) (p0 : Tr31) (p1 : Int) (r : List Int) (H : Fi p0 p1 = some r) (h_v1 : Sl w0 (NX []) B4 v1 p0.un.2.2.2) :
    Calls Tryd.prog 41 #[.agg #[.int .i64 p0.un.1, .int .i64 p0.un.2.1, .int .i64 p0.un.2.2.1, v1], .int .i64 p1] w0 fun e w' => ∃ x : Value, e = .returned (x) ∧ Stw ⟨Y, [], w0⟩ [] [row (x) 3 (Rp.int .i64) r] w' := by
  obtain ⟨n, H⟩ := DC H
  exact Hr n Y w0 v1 p0 p1 r H h_v1
theorem NI : type_of% Tryd.underlying3 := Tryd.underlying3
theorem OC : type_of% Tryd.underlying5 := Tryd.underlying5
theorem OS : type_of% Tryd.underlying9 := Tryd.underlying9
theorem N1 : type_of% Tryd.underlying88 := Tryd.underlying88
noncomputable def DX (p0 : Int) : Option Int := (if 4294967296 ≤ p0 then some (EI .u64 p0 32, 32) else some (p0, 0)).bind fun (x1, x2) => (if 65536 ≤ x1 then some (EI .u64 x1 16, AJ (x2 + 16)) else some (x1, x2)).bind fun (x3, x4) => (if 256 ≤ x3 then some (EI .u64 x3 8, AJ (x4 + 8)) else some (x3, x4)).bind fun (x5, x6) => (ix ([0, 1, 2, 2, 3, 3, 3, 3, 4, 4, 4, 4, 4, 4, 4, 4, 5, 5, 5, 5, 5, 5, 5, 5, 5, 5, 5, 5, 5, 5, 5, 5, 6, 6, 6, 6, 6, 6, 6, 6, 6, 6, 6, 6, 6, 6, 6, 6, 6, 6, 6, 6, 6, 6, 6, 6, 6, 6, 6, 6, 6, 6, 6, 6, 7, 7, 7, 7, 7, 7, 7, 7, 7, 7, 7, 7, 7, 7, 7, 7, 7, 7, 7, 7, 7, 7, 7, 7, 7, 7, 7, 7, 7, 7, 7, 7, 7, 7, 7, 7, 7, 7, 7, 7, 7, 7, 7, 7, 7, 7, 7, 7, 7, 7, 7, 7, 7, 7, 7, 7, 7, 7, 7, 7, 7, 7, 7, 7, 8, 8, 8, 8, 8, 8, 8, 8, 8, 8, 8, 8, 8, 8, 8, 8, 8, 8, 8, 8, 8, 8, 8, 8, 8, 8, 8, 8, 8, 8, 8, 8, 8, 8, 8, 8, 8, 8, 8, 8, 8, 8, 8, 8, 8, 8, 8, 8, 8, 8, 8, 8, 8, 8, 8, 8, 8, 8, 8, 8, 8, 8, 8, 8, 8, 8, 8, 8, 8, 8, 8, 8, 8, 8, 8, 8, 8, 8, 8, 8, 8, 8, 8, 8, 8, 8, 8, 8, 8, 8, 8, 8, 8, 8, 8, 8, 8, 8, 8, 8, 8, 8, 8, 8, 8, 8, 8, 8, 8, 8, 8, 8, 8, 8, 8, 8, 8, 8, 8, 8, 8, 8, 8, 8, 8, 8, 8, 8] : List UInt8) (IntKind.u8.wrap x5)).bind fun x7 => some (AJ (x6 + (AJ (x7.toNat : Int))))
theorem GW (Y : Nat → Prop) (w0 : World)  (p0 : Int) (r : Int) (H : DX p0 = some r)  :
    Calls Tryd.prog 70 #[.int .u64 p0] w0 fun e w' => e = .returned (.int .i64 r) ∧ Below w0.heap.size w0 w' := by
 refine enter Tryd.func70 Aa Tryd.ntmps70 Aa fun a F => ?_
 have W := Stw.start Y w0
 unfold DX at H
 refine Ag (Ab ?_)
 refine ls F W Aa (Ad F Aa).q fun a w F W => ?_
 refine Ae (Ac ?_)
 obtain ⟨o1, G1, K1⟩ := Aj H
 refine AW (fun a w => ∃ x1 : Int, ∃ x2 : Int, some ((x1, x2)) = some o1 ∧ Fr 25 [] [(0, .int .u64 x1), (2, .int .i64 x2)] a ∧ Stw ⟨Y, [], w0⟩ [] [] w) ?_ ?_
 ·
  have H := G1
  clear G1 K1
  refine Ag (Ab ?_)
  refine ls F W Aa (Af F Aa).q fun a w F W => ?_
  refine ls F W Aa (DT F Aa Aa).q fun a w F W => ?_
  refine Ae (Ac ?_)
  refine Ao F Aa (fun hb => ?_) fun hb => ?_
  ·
   have H := A5 (Bv hb) H
   rw [hb] at F
   clear hb
   refine Ag (Ab ?_)
   refine ls F W Aa (Af F Aa).q fun a w F W => ?_
   refine ls F W Aa (KM F Aa Aa (by decide)).q fun a w F W => ?_
   refine ls F W Aa (Ad F Aa).q fun a w F W => ?_
   refine Ae (Ac (Ab ?_))
   refine ls F W Aa (Ad F Aa).q fun a w F W => ?_
   refine Ae (Ac ?_)
   exact ⟨_, _, H, F.re ⟨rfl, Aa, trivial⟩, W⟩
  have H := A3 (Bx hb) H
  rw [hb] at F
  clear hb
  refine Au (Ac ?_)
  exact ⟨_, _, H, F.re ⟨rfl, Aa, trivial⟩, W⟩
 rintro a w ⟨x1, x2, hj, F, W⟩
 have hj := AV hj
 subst hj
 have H := K1
 clear G1 K1
 obtain ⟨o2, G2, K2⟩ := Aj H
 refine AW (fun a w => ∃ x3 : Int, ∃ x4 : Int, some ((x3, x4)) = some o2 ∧ Fr 25 [] [(0, .int .u64 x3), (2, .int .i64 x4)] a ∧ Stw ⟨Y, [], w0⟩ [] [] w) ?_ ?_
 ·
  have H := G2
  clear G2 K2
  refine Ag (Ab ?_)
  refine ls F W Aa (Af F Aa).q fun a w F W => ?_
  refine ls F W Aa (DT F Aa Aa).q fun a w F W => ?_
  refine Ae (Ac ?_)
  refine Ao F Aa (fun hb => ?_) fun hb => ?_
  ·
   have H := A5 (Bv hb) H
   rw [hb] at F
   clear hb
   refine Ag (Ab ?_)
   refine ls F W Aa (Af F Aa).q fun a w F W => ?_
   refine ls F W Aa (KM F Aa Aa (by decide)).q fun a w F W => ?_
   refine ls F W Aa (Ad F Aa).q fun a w F W => ?_
   refine Ae (Ac (Ab ?_))
   refine ls F W Aa (Af F Aa).q fun a w F W => ?_
   refine ls F W Aa (BM F Aa Aa Aa).q fun a w F W => ?_
   refine ls F W Aa (Ad F Aa).q fun a w F W => ?_
   refine Ae (Ac ?_)
   exact ⟨_, _, H, F.re ⟨rfl, Aa, trivial⟩, W⟩
  have H := A3 (Bx hb) H
  rw [hb] at F
  clear hb
  refine Au (Ac ?_)
  exact ⟨_, _, H, F.re ⟨rfl, Aa, trivial⟩, W⟩
 rintro a w ⟨x3, x4, hj, F, W⟩
 have hj := AV hj
 subst hj
 have H := K2
 clear G2 K2
 obtain ⟨o3, G3, K3⟩ := Aj H
 refine AW (fun a w => ∃ x5 : Int, ∃ x6 : Int, some ((x5, x6)) = some o3 ∧ Fr 25 [] [(0, .int .u64 x5), (2, .int .i64 x6)] a ∧ Stw ⟨Y, [], w0⟩ [] [] w) ?_ ?_
 ·
  have H := G3
  clear G3 K3
  refine Ag (Ab ?_)
  refine ls F W Aa (Af F Aa).q fun a w F W => ?_
  refine ls F W Aa (DT F Aa Aa).q fun a w F W => ?_
  refine Ae (Ac ?_)
  refine Ao F Aa (fun hb => ?_) fun hb => ?_
  ·
   have H := A5 (Bv hb) H
   rw [hb] at F
   clear hb
   refine Ag (Ab ?_)
   refine ls F W Aa (Af F Aa).q fun a w F W => ?_
   refine ls F W Aa (KM F Aa Aa (by decide)).q fun a w F W => ?_
   refine ls F W Aa (Ad F Aa).q fun a w F W => ?_
   refine Ae (Ac (Ab ?_))
   refine ls F W Aa (Af F Aa).q fun a w F W => ?_
   refine ls F W Aa (BM F Aa Aa Aa).q fun a w F W => ?_
   refine ls F W Aa (Ad F Aa).q fun a w F W => ?_
   refine Ae (Ac ?_)
   exact ⟨_, _, H, F.re ⟨rfl, Aa, trivial⟩, W⟩
  have H := A3 (Bx hb) H
  rw [hb] at F
  clear hb
  refine Au (Ac ?_)
  exact ⟨_, _, H, F.re ⟨rfl, Aa, trivial⟩, W⟩
 rintro a w ⟨x5, x6, hj, F, W⟩
 have hj := AV hj
 subst hj
 have H := K3
 clear G3 K3
 refine Ag (Ab ?_)
 iterate 2 refine ls F W Aa (Af F Aa).q fun a w F W => ?_
 refine ls F W Aa (Gt N1 OC F Aa).q fun a w F W => ?_
 obtain ⟨x7, h1, H⟩ := Aj H
 refine ls F W Aa (Mc (l := ([0, 1, 2, 2, 3, 3, 3, 3, 4, 4, 4, 4, 4, 4, 4, 4, 5, 5, 5, 5, 5, 5, 5, 5, 5, 5, 5, 5, 5, 5, 5, 5, 6, 6, 6, 6, 6, 6, 6, 6, 6, 6, 6, 6, 6, 6, 6, 6, 6, 6, 6, 6, 6, 6, 6, 6, 6, 6, 6, 6, 6, 6, 6, 6, 7, 7, 7, 7, 7, 7, 7, 7, 7, 7, 7, 7, 7, 7, 7, 7, 7, 7, 7, 7, 7, 7, 7, 7, 7, 7, 7, 7, 7, 7, 7, 7, 7, 7, 7, 7, 7, 7, 7, 7, 7, 7, 7, 7, 7, 7, 7, 7, 7, 7, 7, 7, 7, 7, 7, 7, 7, 7, 7, 7, 7, 7, 7, 7, 8, 8, 8, 8, 8, 8, 8, 8, 8, 8, 8, 8, 8, 8, 8, 8, 8, 8, 8, 8, 8, 8, 8, 8, 8, 8, 8, 8, 8, 8, 8, 8, 8, 8, 8, 8, 8, 8, 8, 8, 8, 8, 8, 8, 8, 8, 8, 8, 8, 8, 8, 8, 8, 8, 8, 8, 8, 8, 8, 8, 8, 8, 8, 8, 8, 8, 8, 8, 8, 8, 8, 8, 8, 8, 8, 8, 8, 8, 8, 8, 8, 8, 8, 8, 8, 8, 8, 8, 8, 8, 8, 8, 8, 8, 8, 8, 8, 8, 8, 8, 8, 8, 8, 8, 8, 8, 8, 8, 8, 8, 8, 8, 8, 8, 8, 8, 8, 8, 8, 8, 8, 8, 8, 8, 8, 8, 8, 8] : List UInt8)) OS F Aa Aa h1).q fun a w F W => ?_
 refine ls F W Aa (Gt OC NI F Aa).q fun a w F W => ?_
 refine ls F W Aa (BM F Aa Aa Aa).q fun a w F W => ?_
 refine ls F W Aa (Ad F Aa).q fun a w F W => ?_
 refine Ae (Ac (Aw ?_))
 have H := AV H
 subst H
 refine A2 (.inl Aa) F W Aa (AB F Aa) ?_
 exact ⟨rfl, W.done⟩
theorem O9 : Has Tryd.prog 70 := ⟨fun args w => Ak Tryd.func70 rfl (by decide) args w⟩
noncomputable def DA (p0 : Int) : Option Int := (DX p0).bind fun x1 => some x1
theorem FT (Y : Nat → Prop) (w0 : World)  (p0 : Int) (r : Int) (H : DA p0 = some r)  :
    Calls Tryd.prog 56 #[.int .u64 p0] w0 fun e w' => e = .returned (.int .i64 r) ∧ Below w0.heap.size w0 w' := by
 refine enter Tryd.func56 Aa Tryd.ntmps56 Aa fun a F => ?_
 have W := Stw.start Y w0
 unfold DA at H
 refine Ag (Ab ?_)
 refine ls F W Aa (Ad F Aa).q fun a w F W => ?_
 refine Ae (Ac (Ag ?_))
 refine Lv F Aa ?_
 refine Au (Ac (Ag (Ab ?_)))
 refine ls F W Aa (Af F Aa).q fun a w F W => ?_
 obtain ⟨x1, h1, H⟩ := Aj H
 refine ls F W Aa (Be (v := Value.int .i64 x1) F O9 Aa (fun w W => GW any w p0 _ h1)) fun a w F W => ?_
 refine ls F W Aa (Ad F Aa).q fun a w F W => ?_
 refine Ae (Ac (Aw ?_))
 have H := AV H
 subst H
 refine A2 (.inl Aa) F W Aa (AB F Aa) ?_
 exact ⟨rfl, W.done⟩
theorem Oq : Has Tryd.prog 56 := ⟨fun args w => Ak Tryd.func56 rfl (by decide) args w⟩
def Bu (p0 : Int) : Bool := decide (p0 ≠ p0)
theorem FU (Y : Nat → Prop) (w0 : World)  (p0 : Int) (r : Bool) (H : Bu p0 = r)  :
    Calls Tryd.prog 80 #[.int .i64 p0] w0 fun e w' => e = .returned (.bool r) ∧ Below w0.heap.size w0 w' := by
 refine enter Tryd.func80 Aa Tryd.ntmps80 Aa fun a F => ?_
 have W := Stw.start Y w0
 unfold Bu at H
 refine Ag (Ab ?_)
 refine ls F W Aa (Ad F Aa).q fun a w F W => ?_
 refine Ae (Ac (Ag (Ab ?_)))
 iterate 2 refine ls F W Aa (Af F Aa).q fun a w F W => ?_
 refine ls F W Aa (JT F Aa Aa).q fun a w F W => ?_
 refine ls F W Aa (Ad F Aa).q fun a w F W => ?_
 refine Ae (Ac (Aw ?_))
 subst H
 refine A2 (.inl Aa) F W Aa (AB F Aa) ?_
 exact ⟨rfl, W.done⟩
theorem On : Has Tryd.prog 80 := ⟨fun args w => Ak Tryd.func80 rfl (by decide) args w⟩
def AO (p0 : Int) (p1 : Int) : Bool := (bif (Bu p0) then (!(Bu p1) || decide (p0 < p1)) else decide (p0 < p1))
theorem BL (Y : Nat → Prop) (w0 : World)  (p0 : Int) (p1 : Int) (r : Bool) (H : AO p0 p1 = r)  :
    Calls Tryd.prog 66 #[.int .i64 p0, .int .i64 p1] w0 fun e w' => e = .returned (.bool r) ∧ Below w0.heap.size w0 w' := by
 refine enter Tryd.func66 Aa Tryd.ntmps66 Aa fun a F => ?_
 have W := Stw.start Y w0
 unfold AO at H
 refine Ag (Ab ?_)
 refine ls F W Aa (Ad F Aa).q fun a w F W => ?_
 refine Ae (Ac ?_)
 refine AW (fun a w => Fr 17 [] [(4, .bool (bif (Bu p0) then (!(Bu p1) || decide (p0 < p1)) else decide (p0 < p1)))] a ∧ Stw ⟨Y, [], w0⟩ [] [] w) ?_ ?_
 ·
  refine Ab ?_
  refine ls F W Aa (Af F Aa).q fun a w F W => ?_
  refine ls F W Aa (Be (v := Value.bool (Bu p0)) F On Aa (fun w W => FU any w p0 _ Aa)) fun a w F W => ?_
  refine ls F W Aa (Af F Aa).q fun a w F W => ?_
  rcases Bool.eq_false_or_eq_true (Bu p0) with hb0 | hb0
  ·
   rw [hb0] at F
   refine Cm F W (Ah F Aa Aa Aa Aa) Aa (An Aa) (Af F Aa).q fun a w F W => ?_
   refine Kr (Ah F Aa Aa Aa Aa) ?_
   refine ls F W Aa (Be (v := Value.bool (Bu p1)) F On Aa (fun w W => FU any w p1 _ Aa)) fun a w F W => ?_
   refine Cm F W (Ah F Aa Aa Aa Aa) Aa (An Aa) (Eh F Aa).q fun a w F W => ?_
   refine ls F W Aa (Bc F Aa Aa Aa).q fun a w F W => ?_
   refine ls F W Aa (Af F Aa).q fun a w F W => ?_
   rcases Bool.eq_false_or_eq_true (!(Bu p1)) with hb1 | hb1
   ·
    rw [hb1] at F
    iterate 3 refine GD F Aa Aa Aa Aa Aa Aa Aa fun a F => ?_
    refine ls F W Aa (Bc F Aa Aa Aa).q fun a w F W => ?_
    refine ls F W Aa (Ad F Aa).q fun a w F W => ?_
    refine Ae (Ac ?_)
    exact ⟨F.re ⟨(by show some (Value.bool true) = some (Value.bool (bif (Bu p0) then (!(Bu p1) || decide (p0 < p1)) else decide (p0 < p1))); try rw [hb1]; try rw [hb0]; all_goals simp only [Bool.not_true, Bool.not_false, Bool.true_and, Bool.false_and, Bool.true_or, Bool.false_or, Bool.and_true, Bool.or_false, cond_true, cond_false]), trivial⟩, W⟩
   rw [hb1] at F
   iterate 2 refine Cm F W (Ah F Aa Aa Aa Aa) Aa (An Aa) (Af F Aa).q fun a w F W => ?_
   refine Cm F W (Ah F Aa Aa Aa Aa) Aa (An Aa) (Df F Aa Aa).q fun a w F W => ?_
   refine ls F W Aa (AU F Aa Aa Aa).q fun a w F W => ?_
   refine ls F W Aa (Ad F Aa).q fun a w F W => ?_
   refine Ae (Ac ?_)
   exact ⟨F.re ⟨(by show some (Value.bool (decide (p0 < p1))) = some (Value.bool (bif (Bu p0) then (!(Bu p1) || decide (p0 < p1)) else decide (p0 < p1))); try rw [hb1]; try rw [hb0]; all_goals simp only [Bool.not_true, Bool.not_false, Bool.true_and, Bool.false_and, Bool.true_or, Bool.false_or, Bool.and_true, Bool.or_false, cond_true, cond_false]), trivial⟩, W⟩
  rw [hb0] at F
  iterate 3 refine GD F Aa Aa Aa Aa Aa Aa Aa fun a F => ?_
  refine ls F W Aa (AU F Aa Aa Aa).q fun a w F W => ?_
  refine ls F W Aa (Af F Aa).q fun a w F W => ?_
  iterate 2 refine Cm F W (Ah F Aa Aa Aa Aa) Aa (An Aa) (Af F Aa).q fun a w F W => ?_
  refine Cm F W (Ah F Aa Aa Aa Aa) Aa (An Aa) (Df F Aa Aa).q fun a w F W => ?_
  refine ls F W Aa (AU F Aa Aa Aa).q fun a w F W => ?_
  refine ls F W Aa (Ad F Aa).q fun a w F W => ?_
  refine Ae (Ac ?_)
  exact ⟨F.re ⟨(by show some (Value.bool (decide (p0 < p1))) = some (Value.bool (bif (Bu p0) then (!(Bu p1) || decide (p0 < p1)) else decide (p0 < p1))); try rw [hb0]; all_goals simp only [Bool.not_true, Bool.not_false, Bool.true_and, Bool.false_and, Bool.true_or, Bool.false_or, Bool.and_true, Bool.or_false, cond_true, cond_false]), trivial⟩, W⟩
 rintro a w ⟨F, W⟩
 refine Aw ?_
 subst H
 refine A2 (.inl Aa) F W Aa (AB F Aa) ?_
 exact ⟨rfl, W.done⟩
theorem KW : Has Tryd.prog 66 := ⟨fun args w => Ak Tryd.func66 rfl (by decide) args w⟩
noncomputable def AY (p1 : Int) : (List Int × Int) → Option ((List Int × Int) ⊕ (List Int))
  | (x4, x5) => (if p1 < x5 then (ix x4 x5).bind fun x7 => (ix x4 (AJ (x5 - 1))).bind fun x8 => some (AO x7 x8) else some false).bind fun x6 => (if x6 = true then (ix x4 (AJ (x5 - 1))).bind fun x9 => (ix x4 x5).bind fun x10 => (ix x4 x5).bind fun x11 => (ix (AM x4 x5 x9) (AJ (x5 - 1))).bind fun x12 => some (.inl ((AM (AM x4 x5 x9) (AJ (x5 - 1)) x10), AJ (x5 - 1))) else some (.inr x4))
noncomputable def Bm (p1 : Int) (p2 : Int) : (List Int × Int) → Option ((List Int × Int) ⊕ (List Int))
  | (x1, x2) => (if x2 < p2 then (AZ (AY p1) (x1, x2)).bind fun x3 => some (.inl (x3, AJ (x2 + 1))) else some (.inr x1))
noncomputable def BS (p0 : List Int) (p1 : Int) (p2 : Int) : Option (List Int) := AZ (Bm p1 p2) (p0, AJ (p1 + 1))
theorem D8 (Y : Nat → Prop) (X : List Nat) (w0 : World) (v1 : Value) (p0 : List Int) (p1 : Int) (p2 : Int) (r : List Int) (H : BS p0 p1 p2 = some r) (hL : Stw ⟨Y, X, w0⟩ [] [row v1 3 (Rp.int .i64) p0] w0) :
    Calls Tryd.prog 60 #[v1, .int .i64 p1, .int .i64 p2] w0 fun e w' => ∃ x : Unit, e = .returned (.tuple #[]) ∧ Stw ⟨Y, X, w0⟩ [] [row v1 3 (Rp.int .i64) r] w' := by
 refine enter Tryd.func60 Aa Tryd.ntmps60 Aa fun a F => ?_
 have W := hL
 unfold BS at H
 refine Ag (Ab ?_)
 refine ls F W Aa (Af F Aa).q fun a w F W => ?_
 refine ls F W Aa (BM F Aa Aa Aa).q fun a w F W => ?_
 refine ls F W Aa (Ad F Aa).q fun a w F W => ?_
 refine Ae (Ac (Ap ?_))
 refine BV H (fun s a w => Fr 49 [] [(0, v1), (1, .int .i64 p1), (2, .int .i64 p2), (6, .int .i64 s.2)] a ∧ Stw ⟨Y, X, w0⟩ [] [row v1 3 (Rp.int .i64) s.1] w) ⟨F.re ⟨rfl, Aa, Aa, Aa, trivial⟩, W⟩ fun s o a w H L1 hR => ?_
 obtain ⟨x1, x2⟩ := s
 obtain ⟨F, W⟩ := hR
 have F : Fr 49 [] [(0, v1), (1, .int .i64 p1), (2, .int .i64 p2), (6, .int .i64 x2)] a := F
 have W : Stw ⟨Y, X, w0⟩ [] [row v1 3 (Rp.int .i64) x1] w := W
 rw [Bm] at H
 refine Ag (Ag (Ab ?_))
 iterate 2 refine ls F W Aa (Af F Aa).q fun a w F W => ?_
 refine ls F W Aa (Df F Aa Aa).q fun a w F W => ?_
 refine Ae (Ac ?_)
 refine Ao F Aa (fun hb => ?_) fun hb => ?_
 ·
  have H := A5 (Bv hb) H
  rw [hb] at F
  clear hb
  refine Au (Ac ?_)
  obtain ⟨o2, G2, K2⟩ := Aj H
  refine AW (fun a w => ∃ x3 : List Int, some (x3) = some o2 ∧ Fr 49 [] [(0, v1), (1, .int .i64 p1), (2, .int .i64 p2), (6, .int .i64 x2)] a ∧ Stw ⟨Y, X, w0⟩ [] [row v1 3 (Rp.int .i64) x3] w) ?_ ?_
  ·
   have H := G2
   clear G2 K2
   refine Ap (Ag (Ab ?_))
   refine ls F W Aa (Af F Aa).q fun a w F W => ?_
   refine ls F W Aa (Ad F Aa).q fun a w F W => ?_
   refine Ae (Ac (Ap ?_))
   refine BV H (fun s a w => Fr 49 [] [(0, v1), (1, .int .i64 p1), (2, .int .i64 p2), (6, .int .i64 x2), (7, .int .i64 s.2)] a ∧ Stw ⟨Y, X, w0⟩ [] [row v1 3 (Rp.int .i64) s.1] w) ⟨F.re ⟨rfl, Aa, Aa, Aa, Aa, trivial⟩, W⟩ fun s o a w H L3 hR => ?_
   obtain ⟨x4, x5⟩ := s
   obtain ⟨F, W⟩ := hR
   have F : Fr 49 [] [(0, v1), (1, .int .i64 p1), (2, .int .i64 p2), (6, .int .i64 x2), (7, .int .i64 x5)] a := F
   have W : Stw ⟨Y, X, w0⟩ [] [row v1 3 (Rp.int .i64) x4] w := W
   rw [AY] at H
   refine Ag ?_
   obtain ⟨o4, G4, K4⟩ := Aj H
   refine AW (fun a w => ∃ x6 : Bool, some (x6) = some o4 ∧ Fr 49 [] [(0, v1), (1, .int .i64 p1), (2, .int .i64 p2), (6, .int .i64 x2), (7, .int .i64 x5), (30, .bool x6)] a ∧ Stw ⟨Y, X, w0⟩ [] [row v1 3 (Rp.int .i64) x4] w) ?_ ?_
   ·
    have H := G4
    clear G4 K4
    refine Cb W MO (by kernel_rfl) ?_
    iterate 2 refine qs F Aa (Af F Aa).q fun a F => ?_
    refine qs F Aa (Hw F Aa Aa).q fun a F => ?_
    refine qs F Aa (Af F Aa).q fun a F => ?_
    rcases Bool.eq_false_or_eq_true (decide (p1 < x5)) with hb | hb
    ·
     have H := A5 (Bv hb) H
     rw [hb] at F
     clear hb
     iterate 2 refine Bj F (Ah F Aa Aa Aa Aa) Aa (An Aa) (Af F Aa).q fun a F => ?_
     obtain ⟨x7, h1, H⟩ := Aj H
     refine Bj F (Ah F Aa Aa Aa Aa) Aa (An Aa) (Ay (r := (Rp.int .i64)) CK F Aa Aa (Ai 0 Aa) h1).q fun a F => ?_
     refine Bj F (Ah F Aa Aa Aa Aa) Aa (An Aa) (Am (y := Value.int .i64 x7) (j := 0) (i := x5) F Aa Aa (Ai 0 Aa) h1 Fl.int.to T3 Aa).q fun a F => ?_
     iterate 2 refine Bj F (Ah F Aa Aa Aa Aa) Aa (An Aa) (Af F Aa).q fun a F => ?_
     refine Bj F (Ah F Aa Aa Aa Aa) Aa (An Aa) (Cd F Aa Aa Aa).q fun a F => ?_
     obtain ⟨x8, h2, H⟩ := Aj H
     refine Bj F (Ah F Aa Aa Aa Aa) Aa (An Aa) (Ay (r := (Rp.int .i64)) CK F Aa Aa (Ai 0 Aa) h2).q fun a F => ?_
     refine Bj F (Ah F Aa Aa Aa Aa) Aa (An Aa) (Am (y := Value.int .i64 x8) (j := 0) (i := AJ (x5 - 1)) F Aa Aa (Ai 0 Aa) h2 Fl.int.to T3 Aa).q fun a F => ?_
     refine Bj F (Ah F Aa Aa Aa Aa) Aa (An Aa) (Be (v := Value.bool (AO x7 x8)) F KW Aa (fun w W => BL any w x7 x8 _ Aa)) fun a F => ?_
     refine qs F Aa (Bc F Aa Aa Aa).q fun a F => ?_
     refine AX fun w W => ?_
     refine Ac ?_
     exact ⟨_, H, F.re ⟨rfl, Aa, Aa, Aa, Aa, Aa, trivial⟩, W⟩
    have H := A3 (Bx hb) H
    rw [hb] at F
    clear hb
    iterate 10 refine CS F (Cu F Aa Aa Aa Aa Aa) Aa Aa fun a F => ?_
    refine qs F Aa (AU F Aa Aa Aa).q fun a F => ?_
    refine AX fun w W => ?_
    refine Ac ?_
    exact ⟨_, H, F.re ⟨rfl, Aa, Aa, Aa, Aa, Aa, trivial⟩, W⟩
   rintro a w ⟨x6, hj, F, W⟩
   have hj := AV hj
   subst hj
   have H := K4
   clear G4 K4
   refine Ao F Aa (fun hb => ?_) fun hb => ?_
   ·
    have H := A5 hb H
    rw [hb] at F
    clear hb
    refine Au (Ac (Ag (Ap ?_)))
    refine EC [(true, 0), (true, 1), (true, 2), (true, 3), (true, 4), (true, 5), (true, 6), (true, 7), (true, 8), (true, 9), (true, 10), (true, 11), (true, 12), (true, 13), (true, 14), (false, 15), (true, 16), (false, 17)] (CN ⟨Y, X, w0⟩ [] [(some 15, row v1 3 (Rp.int .i64) x4)]) (fun ch a d v w h => by cases d <;> exact h) MO (by kernel_rfl) W (fun w W => ⟨_, _, W, A8, (BB (fun _ => (.head _)) A8)⟩) fun w W => ?_
    iterate 4 refine BO (R := []) F Aa Aa (yC fun M Z hN hZ => Af F Aa) Aa Aa fun a F => ?_
    refine BO (R := []) F Aa Aa (yC fun M Z hN hZ => Cd F Aa Aa Aa) Aa Aa fun a F => ?_
    iterate 2 refine BO (R := []) F Aa Aa (yC fun M Z hN hZ => Af F Aa) Aa Aa fun a F => ?_
    refine BO (R := []) F Aa Aa (yC fun M Z hN hZ => Cd F Aa Aa Aa) Aa Aa fun a F => ?_
    obtain ⟨x9, h3, H⟩ := Aj H
    refine BO (R := []) F Aa Aa (yC fun M Z hN hZ => BR (r := (Rp.int .i64)) CK F Aa Aa (C7 W (Ai 0 Aa)) h3) Aa Aa fun a F => ?_
    refine BO (R := [15]) F Aa Aa (yC fun M Z hN hZ => Am (y := Value.int .i64 x9) (j := 0) (i := AJ (x5 - 1)) F Aa Aa (C6 (hZ ((some 15), row v1 3 (Rp.int .i64) x4) (.head _) Aa)) h3 Fl.int.to T3 Aa) (by kernel_rfl) Aa fun a F => ?_
    iterate 2 refine BO (R := []) F Aa Aa (yC fun M Z hN hZ => Af F Aa) Aa Aa fun a F => ?_
    obtain ⟨x10, h4, H⟩ := Aj H
    refine BO (R := []) F Aa Aa (yC fun M Z hN hZ => BR (r := (Rp.int .i64)) CK F Aa Aa (C7 W (Ai 0 Aa)) h4) Aa Aa fun a F => ?_
    refine BO (R := [15]) F Aa Aa (yC fun M Z hN hZ => Am (y := Value.int .i64 x10) (j := 0) (i := x5) F Aa Aa (C6 (hZ ((some 15), row v1 3 (Rp.int .i64) x4) (.head _) Aa)) h4 Fl.int.to T3 Aa) (by kernel_rfl) Aa fun a F => ?_
    obtain ⟨x11, h5, H⟩ := Aj H
    refine BO (R := []) F Aa Aa (yC fun M Z hN hZ => BR (r := (Rp.int .i64)) CK F Aa Aa (C7 W (Ai 0 Aa)) h5) Aa Aa fun a F => ?_
    refine FW Aa ?_
    refine A9 (i := x5) (j := 0) (vs := [.int .i64 x9]) (x' := x9) F W Aa Aa Aa (k := 0) Aa Aa h5 T3 Aa Aa Aa Aa (fun A cs _ => Fl.int.sto (by rfl) _ _ _) fun w W => ?_
    refine C1 (N2 := []) (NZ2 := []) (N3 := []) (NZ3 := [(some 15, row v1 3 (Rp.int .i64) x4)]) W Aa Aa A8 (BB (fun h => Cr (by kernel_rfl) h) A8) ?_
    obtain ⟨x12, h6, H⟩ := Aj H
    refine BO (R := []) F Aa Aa (yC fun M Z hN hZ => BR (r := (Rp.int .i64)) CK F Aa Aa (C7 W (Ai 0 Aa)) h6) Aa Aa fun a F => ?_
    refine FW Aa ?_
    refine A9 (i := AJ (x5 - 1)) (j := 0) (vs := [.int .i64 x10]) (x' := x10) F W Aa Aa Aa (k := 0) Aa Aa h6 T3 Aa Aa Aa Aa (fun A cs _ => Fl.int.sto (by rfl) _ _ _) fun w W => ?_
    refine C1 (N2 := []) (NZ2 := []) (N3 := []) (NZ3 := [(some 15, row v1 3 (Rp.int .i64) x4)]) W Aa Aa A8 (BB (fun h => Cr (by kernel_rfl) h) A8) ?_
    refine Ge (A6 (Ac (Ab ?_)))
    refine ls F W Aa (Af F Aa).q fun a w F W => ?_
    refine ls F W Aa (Cd F Aa Aa Aa).q fun a w F W => ?_
    refine ls F W Aa (Ad F Aa).q fun a w F W => ?_
    refine Ae (Ac ?_)
    exact ⟨_, H, F.re ⟨rfl, Aa, Aa, Aa, Aa, trivial⟩, W⟩
   have H := A3 (by rw [hb]; decide) H
   rw [hb] at F
   clear hb
   refine BK ?_
   iterate 2 refine B7 ?_
   refine BN (A6 (Ac ?_))
   have H := L3 _ H
   exact ⟨_, H, F.re ⟨rfl, Aa, Aa, Aa, trivial⟩, W⟩
  rintro a w ⟨x3, hj, F, W⟩
  have hj := AV hj
  subst hj
  have H := K2
  clear G2 K2
  refine Ab ?_
  refine ls F W Aa (Af F Aa).q fun a w F W => ?_
  refine ls F W Aa (BM F Aa Aa Aa).q fun a w F W => ?_
  refine ls F W Aa (Ad F Aa).q fun a w F W => ?_
  refine Ae (Ac ?_)
  exact ⟨_, H, F.re ⟨rfl, Aa, Aa, Aa, trivial⟩, W⟩
 have H := A3 (Bx hb) H
 rw [hb] at F
 clear hb
 refine BK ?_
 iterate 2 refine B7 ?_
 refine BN ?_
 have H := L1 _ H
 have H := AV H
 subst H
 refine Gm (.inr Aa) F Aa ?_
 exact ⟨(), Aa, W⟩
theorem O0 : Has Tryd.prog 60 := ⟨fun args w => Ak Tryd.func60 rfl (by decide) args w⟩
noncomputable def AR (p2 : Int) (p3 : Int) : (List Int × Int) → Option ((List Int × Int) ⊕ (List Int))
  | (x1, x2) => (if p2 ≤ (AJ ((AJ (2 * x2)) + 1)) then some (.inr x1) else ((if (AJ ((AJ ((AJ (2 * x2)) + 1)) + 1)) < p2 then (ix x1 (AJ (p3 + (AJ ((AJ (2 * x2)) + 1))))).bind fun x5 => (ix x1 (AJ ((AJ (p3 + (AJ ((AJ (2 * x2)) + 1)))) + 1))).bind fun x6 => some (AO x5 x6) else some false).bind fun x4 => (if x4 = true then some (AJ ((AJ ((AJ (2 * x2)) + 1)) + 1)) else some (AJ ((AJ (2 * x2)) + 1)))).bind fun x3 => (ix x1 (AJ (p3 + x2))).bind fun x7 => (ix x1 (AJ (p3 + x3))).bind fun x8 => (if (!(AO x7 x8)) = true then some (.inr x1) else (ix x1 (AJ (p3 + x3))).bind fun x9 => (ix x1 (AJ (p3 + x2))).bind fun x10 => (ix x1 (AJ (p3 + x2))).bind fun x11 => (ix (AM x1 (AJ (p3 + x2)) x9) (AJ (p3 + x3))).bind fun x12 => some (.inl ((AM (AM x1 (AJ (p3 + x2)) x9) (AJ (p3 + x3)) x10), x3))))
noncomputable def B0 (p0 : List Int) (p1 : Int) (p2 : Int) (p3 : Int) : Option (List Int) := AZ (AR p2 p3) (p0, p1)
theorem Dw (Y : Nat → Prop) (X : List Nat) (w0 : World) (v1 : Value) (p0 : List Int) (p1 : Int) (p2 : Int) (p3 : Int) (r : List Int) (H : B0 p0 p1 p2 p3 = some r) (hL : Stw ⟨Y, X, w0⟩ [] [row v1 3 (Rp.int .i64) p0] w0) :
    Calls Tryd.prog 75 #[v1, .int .i64 p1, .int .i64 p2, .int .i64 p3] w0 fun e w' => ∃ x : Unit, e = .returned (.tuple #[]) ∧ Stw ⟨Y, X, w0⟩ [] [row v1 3 (Rp.int .i64) r] w' := by
 refine enter Tryd.func75 Aa Tryd.ntmps75 Aa fun a F => ?_
 have W := hL
 unfold B0 at H
 refine Ag (Ab ?_)
 refine ls F W Aa (Af F Aa).q fun a w F W => ?_
 refine ls F W Aa (Ad F Aa).q fun a w F W => ?_
 refine Ae (Ac (Ap ?_))
 refine BV H (fun s a w => Fr 76 [] [(0, v1), (2, .int .i64 p2), (3, .int .i64 p3), (8, .int .i64 s.2)] a ∧ Stw ⟨Y, X, w0⟩ [] [row v1 3 (Rp.int .i64) s.1] w) ⟨F.re ⟨rfl, Aa, Aa, Aa, trivial⟩, W⟩ fun s o a w H L1 hR => ?_
 obtain ⟨x1, x2⟩ := s
 obtain ⟨F, W⟩ := hR
 have F : Fr 76 [] [(0, v1), (2, .int .i64 p2), (3, .int .i64 p3), (8, .int .i64 x2)] a := F
 have W : Stw ⟨Y, X, w0⟩ [] [row v1 3 (Rp.int .i64) x1] w := W
 rw [AR] at H
 refine Ap (Ag (Ab ?_))
 refine ls F W Aa (Af F Aa).q fun a w F W => ?_
 refine ls F W Aa (Jc F Aa Aa Aa).q fun a w F W => ?_
 refine ls F W Aa (BM F Aa Aa Aa).q fun a w F W => ?_
 refine ls F W Aa (Ad F Aa).q fun a w F W => ?_
 refine Ae (Ac (Ag (Ag (Ab ?_))))
 iterate 2 refine ls F W Aa (Af F Aa).q fun a w F W => ?_
 refine ls F W Aa (DT F Aa Aa).q fun a w F W => ?_
 refine Ae (Ac ?_)
 refine Ao F Aa (fun hb => ?_) fun hb => ?_
 ·
  have H := A5 (Bv hb) H
  rw [hb] at F
  clear hb
  refine BK (B7 ?_)
  refine Iu Aa ?_
  refine B7 (BN ?_)
  have H := L1 _ H
  have H := AV H
  subst H
  refine Gm (.inr Aa) F Aa ?_
  exact ⟨(), Aa, W⟩
 have H := A3 (Bx hb) H
 rw [hb] at F
 clear hb
 refine Au (Ac ?_)
 obtain ⟨o2, G2, K2⟩ := Aj H
 refine AW (fun a w => ∃ x3 : Int, some (x3) = some o2 ∧ Fr 76 [] [(0, v1), (2, .int .i64 p2), (3, .int .i64 p3), (8, .int .i64 x2), (9, .int .i64 x3)] a ∧ Stw ⟨Y, X, w0⟩ [] [row v1 3 (Rp.int .i64) x1] w) ?_ ?_
 ·
  have H := G2
  clear G2 K2
  obtain ⟨o3, G3, K3⟩ := Aj H
  refine AW (fun a w => ∃ x4 : Bool, some (x4) = some o3 ∧ Fr 76 [] [(0, v1), (2, .int .i64 p2), (3, .int .i64 p3), (8, .int .i64 x2), (9, .int .i64 (AJ ((AJ (2 * x2)) + 1))), (36, .bool x4)] a ∧ Stw ⟨Y, X, w0⟩ [] [row v1 3 (Rp.int .i64) x1] w) ?_ ?_
  ·
   have H := G3
   clear G3 K3
   refine Cb W MO (by kernel_rfl) ?_
   refine qs F Aa (Af F Aa).q fun a F => ?_
   refine qs F Aa (BM F Aa Aa Aa).q fun a F => ?_
   refine qs F Aa (Af F Aa).q fun a F => ?_
   refine qs F Aa (Df F Aa Aa).q fun a F => ?_
   refine qs F Aa (Af F Aa).q fun a F => ?_
   rcases Bool.eq_false_or_eq_true (decide ((AJ ((AJ ((AJ (2 * x2)) + 1)) + 1)) < p2)) with hb | hb
   ·
    have H := A5 (Bv hb) H
    rw [hb] at F
    clear hb
    iterate 3 refine Bj F (Ah F Aa Aa Aa Aa) Aa (An Aa) (Af F Aa).q fun a F => ?_
    refine Bj F (Ah F Aa Aa Aa Aa) Aa (An Aa) (BM F Aa Aa Aa).q fun a F => ?_
    obtain ⟨x5, h1, H⟩ := Aj H
    refine Bj F (Ah F Aa Aa Aa Aa) Aa (An Aa) (Ay (r := (Rp.int .i64)) CK F Aa Aa (Ai 0 Aa) h1).q fun a F => ?_
    refine Bj F (Ah F Aa Aa Aa Aa) Aa (An Aa) (Am (y := Value.int .i64 x5) (j := 0) (i := AJ (p3 + (AJ ((AJ (2 * x2)) + 1)))) F Aa Aa (Ai 0 Aa) h1 Fl.int.to T3 Aa).q fun a F => ?_
    iterate 3 refine Bj F (Ah F Aa Aa Aa Aa) Aa (An Aa) (Af F Aa).q fun a F => ?_
    iterate 2 refine Bj F (Ah F Aa Aa Aa Aa) Aa (An Aa) (BM F Aa Aa Aa).q fun a F => ?_
    obtain ⟨x6, h2, H⟩ := Aj H
    refine Bj F (Ah F Aa Aa Aa Aa) Aa (An Aa) (Ay (r := (Rp.int .i64)) CK F Aa Aa (Ai 0 Aa) h2).q fun a F => ?_
    refine Bj F (Ah F Aa Aa Aa Aa) Aa (An Aa) (Am (y := Value.int .i64 x6) (j := 0) (i := AJ ((AJ (p3 + (AJ ((AJ (2 * x2)) + 1)))) + 1)) F Aa Aa (Ai 0 Aa) h2 Fl.int.to T3 Aa).q fun a F => ?_
    refine Bj F (Ah F Aa Aa Aa Aa) Aa (An Aa) (Be (v := Value.bool (AO x5 x6)) F KW Aa (fun w W => BL any w x5 x6 _ Aa)) fun a F => ?_
    refine qs F Aa (Bc F Aa Aa Aa).q fun a F => ?_
    refine AX fun w W => ?_
    refine Ac ?_
    exact ⟨_, H, F.re ⟨rfl, Aa, Aa, Aa, Aa, Aa, trivial⟩, W⟩
   have H := A3 (Bx hb) H
   rw [hb] at F
   clear hb
   iterate 14 refine CS F (Cu F Aa Aa Aa Aa Aa) Aa Aa fun a F => ?_
   refine qs F Aa (AU F Aa Aa Aa).q fun a F => ?_
   refine AX fun w W => ?_
   refine Ac ?_
   exact ⟨_, H, F.re ⟨rfl, Aa, Aa, Aa, Aa, Aa, trivial⟩, W⟩
  rintro a w ⟨x4, hj, F, W⟩
  have hj := AV hj
  subst hj
  have H := K3
  clear G3 K3
  refine Ao F Aa (fun hb => ?_) fun hb => ?_
  ·
   have H := A5 hb H
   rw [hb] at F
   clear hb
   refine Ab ?_
   refine ls F W Aa (Af F Aa).q fun a w F W => ?_
   refine ls F W Aa (BM F Aa Aa Aa).q fun a w F W => ?_
   refine ls F W Aa (Ad F Aa).q fun a w F W => ?_
   refine Ae (Ac ?_)
   exact ⟨_, H, F.re ⟨rfl, Aa, Aa, Aa, Aa, trivial⟩, W⟩
  have H := A3 (by rw [hb]; decide) H
  rw [hb] at F
  clear hb
  refine Au (Ac ?_)
  exact ⟨_, H, F.re ⟨rfl, Aa, Aa, Aa, Aa, trivial⟩, W⟩
 rintro a w ⟨x3, hj, F, W⟩
 have hj := AV hj
 subst hj
 have H := K2
 clear G2 K2
 iterate 2 refine Ag ?_
 refine Cb W MO (by kernel_rfl) ?_
 iterate 3 refine qs F Aa (Af F Aa).q fun a F => ?_
 refine qs F Aa (BM F Aa Aa Aa).q fun a F => ?_
 obtain ⟨x7, h3, H⟩ := Aj H
 refine qs F Aa (Ay (r := (Rp.int .i64)) CK F Aa Aa (Ai 0 Aa) h3).q fun a F => ?_
 refine qs F Aa (Am (y := Value.int .i64 x7) (j := 0) (i := AJ (p3 + x2)) F Aa Aa (Ai 0 Aa) h3 Fl.int.to T3 Aa).q fun a F => ?_
 iterate 3 refine qs F Aa (Af F Aa).q fun a F => ?_
 refine qs F Aa (BM F Aa Aa Aa).q fun a F => ?_
 obtain ⟨x8, h4, H⟩ := Aj H
 refine qs F Aa (Ay (r := (Rp.int .i64)) CK F Aa Aa (Ai 0 Aa) h4).q fun a F => ?_
 refine qs F Aa (Am (y := Value.int .i64 x8) (j := 0) (i := AJ (p3 + x3)) F Aa Aa (Ai 0 Aa) h4 Fl.int.to T3 Aa).q fun a F => ?_
 refine qs F Aa (Be (v := Value.bool (AO x7 x8)) F KW Aa (fun w W => BL any w x7 x8 _ Aa)) fun a F => ?_
 refine qs F Aa (Eh F Aa).q fun a F => ?_
 refine AX fun w W => ?_
 refine Ac ?_
 refine Ao F Aa (fun hb => ?_) fun hb => ?_
 ·
  have H := A5 hb H
  rw [hb] at F
  clear hb
  refine Aw (A4 (A0 (A4 (A0 ?_))))
  have H := L1 _ H
  have H := AV H
  subst H
  refine Gm (.inl Aa) F Aa ?_
  exact ⟨(), Aa, W⟩
 have H := A3 (by rw [hb]; decide) H
 rw [hb] at F
 clear hb
 refine Au (Ac (Ag ?_))
 refine EC [(true, 0), (true, 1), (true, 2), (true, 3), (true, 4), (true, 5), (true, 6), (true, 7), (true, 8), (true, 9), (true, 10), (true, 11), (true, 12), (true, 13), (true, 14), (true, 15), (true, 16), (true, 17), (true, 18), (true, 19), (true, 20), (false, 21), (true, 22), (false, 23)] (CN ⟨Y, X, w0⟩ [] [(some 21, row v1 3 (Rp.int .i64) x1)]) (fun ch a d v w h => by cases d <;> exact h) MO (by kernel_rfl) W (fun w W => ⟨_, _, W, A8, (BB (fun _ => (.head _)) A8)⟩) fun w W => ?_
 iterate 3 refine BO (R := []) F Aa Aa (yC fun M Z hN hZ => Af F Aa) Aa Aa fun a F => ?_
 refine BO (R := []) F Aa Aa (yC fun M Z hN hZ => BM F Aa Aa Aa) Aa Aa fun a F => ?_
 iterate 3 refine BO (R := []) F Aa Aa (yC fun M Z hN hZ => Af F Aa) Aa Aa fun a F => ?_
 refine BO (R := []) F Aa Aa (yC fun M Z hN hZ => BM F Aa Aa Aa) Aa Aa fun a F => ?_
 iterate 3 refine BO (R := []) F Aa Aa (yC fun M Z hN hZ => Af F Aa) Aa Aa fun a F => ?_
 refine BO (R := []) F Aa Aa (yC fun M Z hN hZ => BM F Aa Aa Aa) Aa Aa fun a F => ?_
 obtain ⟨x9, h5, H⟩ := Aj H
 refine BO (R := []) F Aa Aa (yC fun M Z hN hZ => BR (r := (Rp.int .i64)) CK F Aa Aa (C7 W (Ai 0 Aa)) h5) Aa Aa fun a F => ?_
 refine BO (R := [21]) F Aa Aa (yC fun M Z hN hZ => Am (y := Value.int .i64 x9) (j := 0) (i := AJ (p3 + x3)) F Aa Aa (C6 (hZ ((some 21), row v1 3 (Rp.int .i64) x1) (.head _) Aa)) h5 Fl.int.to T3 Aa) (by kernel_rfl) Aa fun a F => ?_
 iterate 3 refine BO (R := []) F Aa Aa (yC fun M Z hN hZ => Af F Aa) Aa Aa fun a F => ?_
 refine BO (R := []) F Aa Aa (yC fun M Z hN hZ => BM F Aa Aa Aa) Aa Aa fun a F => ?_
 obtain ⟨x10, h6, H⟩ := Aj H
 refine BO (R := []) F Aa Aa (yC fun M Z hN hZ => BR (r := (Rp.int .i64)) CK F Aa Aa (C7 W (Ai 0 Aa)) h6) Aa Aa fun a F => ?_
 refine BO (R := [21]) F Aa Aa (yC fun M Z hN hZ => Am (y := Value.int .i64 x10) (j := 0) (i := AJ (p3 + x2)) F Aa Aa (C6 (hZ ((some 21), row v1 3 (Rp.int .i64) x1) (.head _) Aa)) h6 Fl.int.to T3 Aa) (by kernel_rfl) Aa fun a F => ?_
 obtain ⟨x11, h7, H⟩ := Aj H
 refine BO (R := []) F Aa Aa (yC fun M Z hN hZ => BR (r := (Rp.int .i64)) CK F Aa Aa (C7 W (Ai 0 Aa)) h7) Aa Aa fun a F => ?_
 refine FW Aa ?_
 refine A9 (i := AJ (p3 + x2)) (j := 0) (vs := [.int .i64 x9]) (x' := x9) F W Aa Aa Aa (k := 0) Aa Aa h7 T3 Aa Aa Aa Aa (fun A cs _ => Fl.int.sto (by rfl) _ _ _) fun w W => ?_
 refine C1 (N2 := []) (NZ2 := []) (N3 := []) (NZ3 := [(some 21, row v1 3 (Rp.int .i64) x1)]) W Aa Aa A8 (BB (fun h => Cr (by kernel_rfl) h) A8) ?_
 obtain ⟨x12, h8, H⟩ := Aj H
 refine BO (R := []) F Aa Aa (yC fun M Z hN hZ => BR (r := (Rp.int .i64)) CK F Aa Aa (C7 W (Ai 0 Aa)) h8) Aa Aa fun a F => ?_
 refine FW Aa ?_
 refine A9 (i := AJ (p3 + x3)) (j := 0) (vs := [.int .i64 x10]) (x' := x10) F W Aa Aa Aa (k := 0) Aa Aa h8 T3 Aa Aa Aa Aa (fun A cs _ => Fl.int.sto (by rfl) _ _ _) fun w W => ?_
 refine C1 (N2 := []) (NZ2 := []) (N3 := []) (NZ3 := [(some 21, row v1 3 (Rp.int .i64) x1)]) W Aa Aa A8 (BB (fun h => Cr (by kernel_rfl) h) A8) ?_
 refine Ge (Ac (Ab ?_))
 refine ls F W Aa (Af F Aa).q fun a w F W => ?_
 refine ls F W Aa (Ad F Aa).q fun a w F W => ?_
 refine Ae (A6 (Ac ?_))
 exact ⟨_, H, F.re ⟨rfl, Aa, Aa, Aa, trivial⟩, W⟩
theorem Ox : Has Tryd.prog 75 := ⟨fun args w => Ak Tryd.func75 rfl (by decide) args w⟩
noncomputable def BF (p1 : Int) (p2 : Int) : (List Int × Int) → Option ((List Int × Int) ⊕ (List Int))
  | (x2, x3) => (if 0 ≤ x3 then (B0 x2 x3 (AJ (p2 - p1)) p1).bind fun x4 => some (.inl (x4, AJ (x3 - 1))) else some (.inr x2))
noncomputable def BG (p1 : Int) : (List Int × Int) → Option ((List Int × Int) ⊕ (List Int))
  | (x5, x6) => (if 0 ≤ x6 then (ix x5 (AJ (p1 + x6))).bind fun x7 => (ix x5 p1).bind fun x8 => (ix x5 p1).bind fun x9 => (ix (AM x5 p1 x7) (AJ (p1 + x6))).bind fun x10 => (B0 (AM (AM x5 p1 x7) (AJ (p1 + x6)) x8) 0 x6 p1).bind fun x11 => some (.inl (x11, AJ (x6 - 1))) else some (.inr x5))
noncomputable def Ck (p0 : List Int) (p1 : Int) (p2 : Int) : Option (List Int) := (AZ (BF p1 p2) (p0, AJ (Int.tdiv (AJ ((AJ (p2 - p1)) - 1)) 2))).bind fun x1 => AZ (BG p1) (x1, AJ ((AJ (p2 - p1)) - 1))
theorem EK (Y : Nat → Prop) (X : List Nat) (w0 : World) (v1 : Value) (p0 : List Int) (p1 : Int) (p2 : Int) (r : List Int) (H : Ck p0 p1 p2 = some r) (hL : Stw ⟨Y, X, w0⟩ [] [row v1 3 (Rp.int .i64) p0] w0) :
    Calls Tryd.prog 61 #[v1, .int .i64 p1, .int .i64 p2] w0 fun e w' => ∃ x : Unit, e = .returned (.tuple #[]) ∧ Stw ⟨Y, X, w0⟩ [] [row v1 3 (Rp.int .i64) r] w' := by
 refine enter Tryd.func61 Aa Tryd.ntmps61 Aa fun a F => ?_
 have W := hL
 unfold Ck at H
 refine Ag (Ab ?_)
 refine ls F W Aa (Af F Aa).q fun a w F W => ?_
 refine ls F W Aa (Ad F Aa).q fun a w F W => ?_
 refine Ae (Ac (Ag (Ab ?_)))
 refine ls F W Aa (Ad F Aa).q fun a w F W => ?_
 refine Ae (Ac (Ag (Ab ?_)))
 iterate 2 refine ls F W Aa (Af F Aa).q fun a w F W => ?_
 refine ls F W Aa (Cd F Aa Aa Aa).q fun a w F W => ?_
 refine ls F W Aa (Ad F Aa).q fun a w F W => ?_
 refine Ae (Ac ?_)
 obtain ⟨o1, G1, K1⟩ := Aj H
 refine AW (fun a w => ∃ x1 : List Int, some (x1) = some o1 ∧ Fr 56 [] [(0, v1), (6, .int .i64 p1), (7, .int .i64 0), (8, .int .i64 (AJ (p2 - p1)))] a ∧ Stw ⟨Y, X, w0⟩ [] [row v1 3 (Rp.int .i64) x1] w) ?_ ?_
 ·
  have H := G1
  clear G1 K1
  refine Ag (Ab ?_)
  refine ls F W Aa (Af F Aa).q fun a w F W => ?_
  refine ls F W Aa (Cd F Aa Aa Aa).q fun a w F W => ?_
  refine ls F W Aa (Il F Aa Aa (by decide) Aa).q fun a w F W => ?_
  refine ls F W Aa (Ad F Aa).q fun a w F W => ?_
  refine Ae (Ac (Ap ?_))
  refine BV H (fun s a w => Fr 56 [] [(0, v1), (6, .int .i64 p1), (7, .int .i64 0), (8, .int .i64 (AJ (p2 - p1))), (9, .int .i64 s.2)] a ∧ Stw ⟨Y, X, w0⟩ [] [row v1 3 (Rp.int .i64) s.1] w) ⟨F.re ⟨rfl, Aa, Aa, Aa, Aa, trivial⟩, W⟩ fun s o a w H L2 hR => ?_
  obtain ⟨x2, x3⟩ := s
  obtain ⟨F, W⟩ := hR
  have F : Fr 56 [] [(0, v1), (6, .int .i64 p1), (7, .int .i64 0), (8, .int .i64 (AJ (p2 - p1))), (9, .int .i64 x3)] a := F
  have W : Stw ⟨Y, X, w0⟩ [] [row v1 3 (Rp.int .i64) x2] w := W
  rw [BF] at H
  refine Ag (Ag (Ab ?_))
  refine ls F W Aa (Af F Aa).q fun a w F W => ?_
  refine ls F W Aa (DT F Aa Aa).q fun a w F W => ?_
  refine Ae (Ac ?_)
  refine Ao F Aa (fun hb => ?_) fun hb => ?_
  ·
   have H := A5 (Bv hb) H
   rw [hb] at F
   clear hb
   refine Au (Ac (Ag (Ap (Ab ?_))))
   iterate 4 refine ls F W Aa (Af F Aa).q fun a w F W => ?_
   obtain ⟨x4, h1, H⟩ := Aj H
   refine BE (Ml := []) (Zl := [row v1 3 (Rp.int .i64) x2]) (M := []) (Z := []) (β := Unit) (rv := fun x => .tuple #[]) (MM := fun x => []) (ZZ := fun x => [row v1 3 (Rp.int .i64) x4]) F W Ox Aa Aa (fun hL => Dw _ _ w (v1) x2 x3 (AJ (p2 - p1)) p1 _ h1 hL) fun x a w F W => ?_
   have W : Stw ⟨Y, X, w0⟩ [] [row v1 3 (Rp.int .i64) x4] w := W
   refine Ae (A6 (Ac (Ab ?_)))
   refine ls F W Aa (Af F Aa).q fun a w F W => ?_
   refine ls F W Aa (Cd F Aa Aa Aa).q fun a w F W => ?_
   refine ls F W Aa (Ad F Aa).q fun a w F W => ?_
   refine Ae (Ac ?_)
   exact ⟨_, H, F.re ⟨rfl, Aa, Aa, Aa, Aa, trivial⟩, W⟩
  have H := A3 (Bx hb) H
  rw [hb] at F
  clear hb
  refine BK ?_
  iterate 2 refine B7 ?_
  refine BN (Ac ?_)
  have H := L2 _ H
  exact ⟨_, H, F.re ⟨rfl, Aa, Aa, Aa, trivial⟩, W⟩
 rintro a w ⟨x1, hj, F, W⟩
 have hj := AV hj
 subst hj
 have H := K1
 clear G1 K1
 refine Ag (Ab ?_)
 refine ls F W Aa (Af F Aa).q fun a w F W => ?_
 refine ls F W Aa (Cd F Aa Aa Aa).q fun a w F W => ?_
 refine ls F W Aa (Ad F Aa).q fun a w F W => ?_
 refine Ae (Ac (Ap ?_))
 refine BV H (fun s a w => Fr 56 [] [(0, v1), (6, .int .i64 p1), (7, .int .i64 0), (10, .int .i64 s.2)] a ∧ Stw ⟨Y, X, w0⟩ [] [row v1 3 (Rp.int .i64) s.1] w) ⟨F.re ⟨rfl, Aa, Aa, Aa, trivial⟩, W⟩ fun s o a w H L3 hR => ?_
 obtain ⟨x5, x6⟩ := s
 obtain ⟨F, W⟩ := hR
 have F : Fr 56 [] [(0, v1), (6, .int .i64 p1), (7, .int .i64 0), (10, .int .i64 x6)] a := F
 have W : Stw ⟨Y, X, w0⟩ [] [row v1 3 (Rp.int .i64) x5] w := W
 rw [BG] at H
 refine Ag (Ag (Ab ?_))
 refine ls F W Aa (Af F Aa).q fun a w F W => ?_
 refine ls F W Aa (DT F Aa Aa).q fun a w F W => ?_
 refine Ae (Ac ?_)
 refine Ao F Aa (fun hb => ?_) fun hb => ?_
 ·
  have H := A5 (Bv hb) H
  rw [hb] at F
  clear hb
  refine Au (Ac (Ag (Ap (Ag ?_))))
  refine EC [(true, 0), (true, 1), (true, 2), (true, 3), (true, 4), (true, 5), (true, 6), (true, 7), (true, 8), (true, 9), (true, 10), (true, 11), (true, 12), (true, 13), (true, 14), (true, 15), (true, 16), (false, 17), (true, 18), (false, 19)] (CN ⟨Y, X, w0⟩ [] [(some 17, row v1 3 (Rp.int .i64) x5)]) (fun ch a d v w h => by cases d <;> exact h) MO (by kernel_rfl) W (fun w W => ⟨_, _, W, A8, (BB (fun _ => (.head _)) A8)⟩) fun w W => ?_
  iterate 5 refine BO (R := []) F Aa Aa (yC fun M Z hN hZ => Af F Aa) Aa Aa fun a F => ?_
  refine BO (R := []) F Aa Aa (yC fun M Z hN hZ => BM F Aa Aa Aa) Aa Aa fun a F => ?_
  iterate 3 refine BO (R := []) F Aa Aa (yC fun M Z hN hZ => Af F Aa) Aa Aa fun a F => ?_
  refine BO (R := []) F Aa Aa (yC fun M Z hN hZ => BM F Aa Aa Aa) Aa Aa fun a F => ?_
  obtain ⟨x7, h2, H⟩ := Aj H
  refine BO (R := []) F Aa Aa (yC fun M Z hN hZ => BR (r := (Rp.int .i64)) CK F Aa Aa (C7 W (Ai 0 Aa)) h2) Aa Aa fun a F => ?_
  refine BO (R := [17]) F Aa Aa (yC fun M Z hN hZ => Am (y := Value.int .i64 x7) (j := 0) (i := AJ (p1 + x6)) F Aa Aa (C6 (hZ ((some 17), row v1 3 (Rp.int .i64) x5) (.head _) Aa)) h2 Fl.int.to T3 Aa) (by kernel_rfl) Aa fun a F => ?_
  iterate 2 refine BO (R := []) F Aa Aa (yC fun M Z hN hZ => Af F Aa) Aa Aa fun a F => ?_
  obtain ⟨x8, h3, H⟩ := Aj H
  refine BO (R := []) F Aa Aa (yC fun M Z hN hZ => BR (r := (Rp.int .i64)) CK F Aa Aa (C7 W (Ai 0 Aa)) h3) Aa Aa fun a F => ?_
  refine BO (R := [17]) F Aa Aa (yC fun M Z hN hZ => Am (y := Value.int .i64 x8) (j := 0) (i := p1) F Aa Aa (C6 (hZ ((some 17), row v1 3 (Rp.int .i64) x5) (.head _) Aa)) h3 Fl.int.to T3 Aa) (by kernel_rfl) Aa fun a F => ?_
  obtain ⟨x9, h4, H⟩ := Aj H
  refine BO (R := []) F Aa Aa (yC fun M Z hN hZ => BR (r := (Rp.int .i64)) CK F Aa Aa (C7 W (Ai 0 Aa)) h4) Aa Aa fun a F => ?_
  refine FW Aa ?_
  refine A9 (i := p1) (j := 0) (vs := [.int .i64 x7]) (x' := x7) F W Aa Aa Aa (k := 0) Aa Aa h4 T3 Aa Aa Aa Aa (fun A cs _ => Fl.int.sto (by rfl) _ _ _) fun w W => ?_
  refine C1 (N2 := []) (NZ2 := []) (N3 := []) (NZ3 := [(some 17, row v1 3 (Rp.int .i64) x5)]) W Aa Aa A8 (BB (fun h => Cr (by kernel_rfl) h) A8) ?_
  obtain ⟨x10, h5, H⟩ := Aj H
  refine BO (R := []) F Aa Aa (yC fun M Z hN hZ => BR (r := (Rp.int .i64)) CK F Aa Aa (C7 W (Ai 0 Aa)) h5) Aa Aa fun a F => ?_
  refine FW Aa ?_
  refine A9 (i := AJ (p1 + x6)) (j := 0) (vs := [.int .i64 x8]) (x' := x8) F W Aa Aa Aa (k := 0) Aa Aa h5 T3 Aa Aa Aa Aa (fun A cs _ => Fl.int.sto (by rfl) _ _ _) fun w W => ?_
  refine C1 (N2 := []) (NZ2 := []) (N3 := []) (NZ3 := [(some 17, row v1 3 (Rp.int .i64) x5)]) W Aa Aa A8 (BB (fun h => Cr (by kernel_rfl) h) A8) ?_
  refine Ge (Ac (Ab ?_))
  iterate 4 refine ls F W Aa (Af F Aa).q fun a w F W => ?_
  obtain ⟨x11, h6, H⟩ := Aj H
  refine BE (Ml := []) (Zl := [row v1 3 (Rp.int .i64) (AM (AM x5 p1 x7) (AJ (p1 + x6)) x8)]) (M := []) (Z := []) (β := Unit) (rv := fun x => .tuple #[]) (MM := fun x => []) (ZZ := fun x => [row v1 3 (Rp.int .i64) x11]) F W Ox Aa Aa (fun hL => Dw _ _ w (v1) (AM (AM x5 p1 x7) (AJ (p1 + x6)) x8) 0 x6 p1 _ h6 hL) fun x a w F W => ?_
  have W : Stw ⟨Y, X, w0⟩ [] [row v1 3 (Rp.int .i64) x11] w := W
  refine Ae (A6 (Ac (Ab ?_)))
  refine ls F W Aa (Af F Aa).q fun a w F W => ?_
  refine ls F W Aa (Cd F Aa Aa Aa).q fun a w F W => ?_
  refine ls F W Aa (Ad F Aa).q fun a w F W => ?_
  refine Ae (Ac ?_)
  exact ⟨_, H, F.re ⟨rfl, Aa, Aa, Aa, trivial⟩, W⟩
 have H := A3 (Bx hb) H
 rw [hb] at F
 clear hb
 refine BK ?_
 iterate 2 refine B7 ?_
 refine BN ?_
 have H := L3 _ H
 have H := AV H
 subst H
 refine Gm (.inr Aa) F Aa ?_
 exact ⟨(), Aa, W⟩
theorem O6 : Has Tryd.prog 61 := ⟨fun args w => Ak Tryd.func61 rfl (by decide) args w⟩
noncomputable def BP (p0 : List Int) (p1 : Int) (p2 : Int) (p3 : Int) : Option (Int × Int × Int) := (ix p0 p2).bind fun x1 => (ix p0 p1).bind fun x2 => (if (AO x1 x2) = true then some (p2, p1, AJ (p3 + 1)) else some (p1, p2, p3))
theorem CZ (Y : Nat → Prop) (X : List Nat) (w0 : World) (v1 : Value) (q_p3 : Nat) (p0 : List Int) (p1 : Int) (p2 : Int) (p3 : Int) (r : Int × Int × Int) (H : BP p0 p1 p2 p3 = some r) (h_v1 : Sl w0 (NX X) (Rp.int .i64) v1 p0) (hL : Stw ⟨Y, X, w0⟩ [(q_p3, [.int .i64 p3])] [] w0) :
    Calls Tryd.prog 87 #[v1, .int .i64 p1, .int .i64 p2, .pointer (some ⟨q_p3, 0, none⟩)] w0 fun e w' => ∃ x : Unit, e = .returned (.tuple #[.int .i64 r.1, .int .i64 r.2.1]) ∧ Stw ⟨Y, X, w0⟩ [(q_p3, [.int .i64 r.2.2])] [] w' := by
 refine enter Tryd.func87 Aa Tryd.ntmps87 Aa fun a F => ?_
 have W := hL
 unfold BP at H
 refine Ag (Ab ?_)
 iterate 2 refine ls F W Aa (Ad F Aa).q fun a w F W => ?_
 refine Ae (Ac ?_)
 iterate 2 refine Ag ?_
 refine Cb W MO (by kernel_rfl) ?_
 iterate 2 refine qs F Aa (Af F Aa).q fun a F => ?_
 obtain ⟨x1, h1, H⟩ := Aj H
 refine qs F Aa (Ay (r := (Rp.int .i64)) CK F Aa Aa (AQ h_v1) h1).q fun a F => ?_
 refine qs F Aa (Am (y := Value.int .i64 x1) (j := 0) (i := p2) F Aa Aa (AQ h_v1) h1 Fl.int.to T3 Aa).q fun a F => ?_
 iterate 2 refine qs F Aa (Af F Aa).q fun a F => ?_
 obtain ⟨x2, h2, H⟩ := Aj H
 refine qs F Aa (Ay (r := (Rp.int .i64)) CK F Aa Aa (AQ h_v1) h2).q fun a F => ?_
 refine qs F Aa (Am (y := Value.int .i64 x2) (j := 0) (i := p1) F Aa Aa (AQ h_v1) h2 Fl.int.to T3 Aa).q fun a F => ?_
 refine qs F Aa (Be (v := Value.bool (AO x1 x2)) F KW Aa (fun w W => BL any w x1 x2 _ Aa)) fun a F => ?_
 refine AX fun w W => ?_
 refine Ac ?_
 refine Ao F Aa (fun hb => ?_) fun hb => ?_
 ·
  have H := A5 hb H
  rw [hb] at F
  clear hb
  refine Ag (Ab ?_)
  refine ls F W Aa (Af F Aa).q fun a w F W => ?_
  refine ls F W Aa (Cq F Aa).q fun a w F W => ?_
  refine ls F W Aa (As (v := Value.int .i64 p3) 0 F Aa Aa T3 Aa).q fun a w F W => ?_
  refine ls F W Aa (BM F Aa Aa Aa).q fun a w F W => ?_
  refine ls F W Aa (Cq F Aa).q fun a w F W => ?_
  refine Cl (vs := [.int .i64 (AJ (p3 + 1))]) (M' := [(q_p3, [.int .i64 (AJ (p3 + 1))])]) 0 F W Aa Aa Aa T3 Aa Aa Aa Aa Aa fun w W => ?_
  refine Ae (Ac (Ag (Ab ?_)))
  iterate 2 refine ls F W Aa (Af F Aa).q fun a w F W => ?_
  iterate 2 refine ls F W Aa (Ad F Aa).q fun a w F W => ?_
  refine Ae (Ac (Aw (A4 ?_)))
  have H := AV H
  subst H
  refine Ix (.inl Aa) F W Aa (AB F Aa) (AB F Aa) ?_
  exact ⟨(), Aa, W⟩
 have H := A3 (by rw [hb]; decide) H
 rw [hb] at F
 clear hb
 refine Au (Ac (Ag (Ab ?_)))
 iterate 2 refine ls F W Aa (Af F Aa).q fun a w F W => ?_
 iterate 2 refine ls F W Aa (Ad F Aa).q fun a w F W => ?_
 refine Ae (Ac (Aw ?_))
 have H := AV H
 subst H
 refine Ix (.inl Aa) F W Aa (AB F Aa) (AB F Aa) ?_
 exact ⟨(), Aa, W⟩
theorem NY : Has Tryd.prog 87 := ⟨fun args w => Ak Tryd.func87 rfl (by decide) args w⟩
noncomputable def BQ (p0 : List Int) (p1 : Int) (p2 : Int) (p3 : Int) (p4 : Int) : Option (Int × Int) := (BP p0 p1 p2 p4).bind fun x1 => (BP p0 x1.2.1 p3 x1.2.2).bind fun x2 => (BP p0 x1.1 x2.1 x2.2.2).bind fun x3 => some (x3.2.1, x3.2.2)
theorem DM (Y : Nat → Prop) (X : List Nat) (w0 : World) (v1 : Value) (q_p4 : Nat) (p0 : List Int) (p1 : Int) (p2 : Int) (p3 : Int) (p4 : Int) (r : Int × Int) (H : BQ p0 p1 p2 p3 p4 = some r) (h_v1 : Sl w0 (NX X) (Rp.int .i64) v1 p0) (hL : Stw ⟨Y, X, w0⟩ [(q_p4, [.int .i64 p4])] [] w0) :
    Calls Tryd.prog 79 #[v1, .int .i64 p1, .int .i64 p2, .int .i64 p3, .pointer (some ⟨q_p4, 0, none⟩)] w0 fun e w' => ∃ x : Unit, e = .returned (.int .i64 r.1) ∧ Stw ⟨Y, X, w0⟩ [(q_p4, [.int .i64 r.2])] [] w' := by
 refine enter Tryd.func79 Aa Tryd.ntmps79 Aa fun a F => ?_
 have W := hL
 unfold BQ at H
 refine Ag (Ab ?_)
 refine ls F W Aa (Ad F Aa).q fun a w F W => ?_
 refine Ae (Ac (Ag (Ab ?_)))
 iterate 4 refine ls F W Aa (Af F Aa).q fun a w F W => ?_
 obtain ⟨x1, h1, H⟩ := Aj H
 refine BE (Ml := [(q_p4, [.int .i64 p4])]) (Zl := []) (M := []) (Z := []) (β := Unit) (rv := fun x => .tuple #[.int .i64 x1.1, .int .i64 x1.2.1]) (MM := fun x => [(q_p4, [.int .i64 x1.2.2])]) (ZZ := fun x => []) F W NY Aa Aa (fun hL => CZ _ _ w (v1) q_p4 p0 p1 p2 p4 _ h1 (W.roX h_v1 (fun g hg => Es hg)) hL) fun x a w F W => ?_
 have W : Stw ⟨Y, X, w0⟩ [(q_p4, [.int .i64 x1.2.2])] [] w := W
 refine ls F W Aa (Af F Aa).q fun a w F W => ?_
 refine ls F W Aa (DB (v := Value.int .i64 x1.1) F Aa Aa).q fun a w F W => ?_
 refine ls F W Aa (DB (v := Value.int .i64 x1.2.1) F Aa Aa).q fun a w F W => ?_
 iterate 2 refine ls F W Aa (Ad F Aa).q fun a w F W => ?_
 refine Ae (Ac (Ag (Ab ?_)))
 iterate 4 refine ls F W Aa (Af F Aa).q fun a w F W => ?_
 obtain ⟨x2, h2, H⟩ := Aj H
 refine BE (Ml := [(q_p4, [.int .i64 x1.2.2])]) (Zl := []) (M := []) (Z := []) (β := Unit) (rv := fun x => .tuple #[.int .i64 x2.1, .int .i64 x2.2.1]) (MM := fun x => [(q_p4, [.int .i64 x2.2.2])]) (ZZ := fun x => []) F W NY Aa Aa (fun hL => CZ _ _ w (v1) q_p4 p0 x1.2.1 p3 x1.2.2 _ h2 (W.roX h_v1 (fun g hg => Es hg)) hL) fun x a w F W => ?_
 have W : Stw ⟨Y, X, w0⟩ [(q_p4, [.int .i64 x2.2.2])] [] w := W
 refine ls F W Aa (Af F Aa).q fun a w F W => ?_
 refine ls F W Aa (DB (v := Value.int .i64 x2.1) F Aa Aa).q fun a w F W => ?_
 refine ls F W Aa (DB (v := Value.int .i64 x2.2.1) F Aa Aa).q fun a w F W => ?_
 iterate 2 refine ls F W Aa (Ad F Aa).q fun a w F W => ?_
 refine Ae (Ac (Ag (Ab ?_)))
 iterate 4 refine ls F W Aa (Af F Aa).q fun a w F W => ?_
 obtain ⟨x3, h3, H⟩ := Aj H
 refine BE (Ml := [(q_p4, [.int .i64 x2.2.2])]) (Zl := []) (M := []) (Z := []) (β := Unit) (rv := fun x => .tuple #[.int .i64 x3.1, .int .i64 x3.2.1]) (MM := fun x => [(q_p4, [.int .i64 x3.2.2])]) (ZZ := fun x => []) F W NY Aa Aa (fun hL => CZ _ _ w (v1) q_p4 p0 x1.1 x2.1 x2.2.2 _ h3 (W.roX h_v1 (fun g hg => Es hg)) hL) fun x a w F W => ?_
 have W : Stw ⟨Y, X, w0⟩ [(q_p4, [.int .i64 x3.2.2])] [] w := W
 refine ls F W Aa (Af F Aa).q fun a w F W => ?_
 refine ls F W Aa (DB (v := Value.int .i64 x3.1) F Aa Aa).q fun a w F W => ?_
 refine ls F W Aa (DB (v := Value.int .i64 x3.2.1) F Aa Aa).q fun a w F W => ?_
 iterate 2 refine ls F W Aa (Ad F Aa).q fun a w F W => ?_
 refine Ae (Ac (Ag (Ab ?_)))
 refine ls F W Aa (Af F Aa).q fun a w F W => ?_
 refine ls F W Aa (Ad F Aa).q fun a w F W => ?_
 refine Ae (Ac (Aw ?_))
 have H := AV H
 subst H
 refine A2 (.inl Aa) F W Aa (AB F Aa) ?_
 exact ⟨(), Aa, W⟩
theorem Ow : Has Tryd.prog 79 := ⟨fun args w => Ak Tryd.func79 rfl (by decide) args w⟩
noncomputable def A7 (p0 : List Int) (p1 : Int) (p2 : Int) : Option (Int × Int) := (BQ p0 (AJ (p1 - 1)) p1 (AJ (p1 + 1)) p2).bind fun x1 => some (x1.1, x1.2)
theorem Cp (Y : Nat → Prop) (X : List Nat) (w0 : World) (v1 : Value) (q_p2 : Nat) (p0 : List Int) (p1 : Int) (p2 : Int) (r : Int × Int) (H : A7 p0 p1 p2 = some r) (h_v1 : Sl w0 (NX X) (Rp.int .i64) v1 p0) (hL : Stw ⟨Y, X, w0⟩ [(q_p2, [.int .i64 p2])] [] w0) :
    Calls Tryd.prog 78 #[v1, .int .i64 p1, .pointer (some ⟨q_p2, 0, none⟩)] w0 fun e w' => ∃ x : Unit, e = .returned (.int .i64 r.1) ∧ Stw ⟨Y, X, w0⟩ [(q_p2, [.int .i64 r.2])] [] w' := by
 refine enter Tryd.func78 Aa Tryd.ntmps78 Aa fun a F => ?_
 have W := hL
 unfold A7 at H
 refine Ag (Ab ?_)
 refine ls F W Aa (Ad F Aa).q fun a w F W => ?_
 refine Ae (Ac (Ag (Ab ?_)))
 iterate 2 refine ls F W Aa (Af F Aa).q fun a w F W => ?_
 refine ls F W Aa (Cd F Aa Aa Aa).q fun a w F W => ?_
 iterate 2 refine ls F W Aa (Af F Aa).q fun a w F W => ?_
 refine ls F W Aa (BM F Aa Aa Aa).q fun a w F W => ?_
 refine ls F W Aa (Af F Aa).q fun a w F W => ?_
 obtain ⟨x1, h1, H⟩ := Aj H
 refine BE (Ml := [(q_p2, [.int .i64 p2])]) (Zl := []) (M := []) (Z := []) (β := Unit) (rv := fun x => .int .i64 x1.1) (MM := fun x => [(q_p2, [.int .i64 x1.2])]) (ZZ := fun x => []) F W Ow Aa Aa (fun hL => DM _ _ w (v1) q_p2 p0 (AJ (p1 - 1)) p1 (AJ (p1 + 1)) p2 _ h1 (W.roX h_v1 (fun g hg => Es hg)) hL) fun x a w F W => ?_
 have W : Stw ⟨Y, X, w0⟩ [(q_p2, [.int .i64 x1.2])] [] w := W
 refine ls F W Aa (Ad F Aa).q fun a w F W => ?_
 refine Ae (Ac (Aw ?_))
 have H := AV H
 subst H
 refine A2 (.inl Aa) F W Aa (AB F Aa) ?_
 exact ⟨(), Aa, W⟩
theorem NW : Has Tryd.prog 78 := ⟨fun args w => Ak Tryd.func78 rfl (by decide) args w⟩
noncomputable def B8 (p0 : List Int) (p1 : Int) (p2 : Int) : Option (Int × Int) := (if 8 ≤ (AJ (p2 - p1)) then (if 50 ≤ (AJ (p2 - p1)) then (A7 p0 (AJ (p1 + (AJ ((AJ (Int.tdiv (AJ (p2 - p1)) 4)) * 1)))) 0).bind fun x7 => (A7 p0 (AJ (p1 + (AJ ((AJ (Int.tdiv (AJ (p2 - p1)) 4)) * 2)))) x7.2).bind fun x8 => (A7 p0 (AJ (p1 + (AJ ((AJ (Int.tdiv (AJ (p2 - p1)) 4)) * 3)))) x8.2).bind fun x9 => some (x7.1, x8.1, x9.1, x9.2) else some (AJ (p1 + (AJ ((AJ (Int.tdiv (AJ (p2 - p1)) 4)) * 1))), AJ (p1 + (AJ ((AJ (Int.tdiv (AJ (p2 - p1)) 4)) * 2))), AJ (p1 + (AJ ((AJ (Int.tdiv (AJ (p2 - p1)) 4)) * 3))), 0)).bind fun (x3, x4, x5, x6) => (BQ p0 x3 x4 x5 x6).bind fun x10 => some (x10.1, x10.2) else some (AJ (p1 + (AJ ((AJ (Int.tdiv (AJ (p2 - p1)) 4)) * 2))), 0)).bind fun (x1, x2) => (if x2 = 0 then some (x1, 1) else (if x2 = 12 then some (x1, 2) else some (x1, 0)))
theorem Eg (Y : Nat → Prop) (w0 : World) (v1 : Value) (p0 : List Int) (p1 : Int) (p2 : Int) (r : Int × Int) (H : B8 p0 p1 p2 = some r) (h_v1 : Sl w0 (NX []) (Rp.int .i64) v1 p0) :
    Calls Tryd.prog 63 #[v1, .int .i64 p1, .int .i64 p2] w0 fun e w' => e = .returned (.tuple #[.int .i64 r.1, .int .i64 r.2]) ∧ Below w0.heap.size w0 w' := by
 refine enter Tryd.func63 Aa Tryd.ntmps63 Aa fun a F => ?_
 have W := Stw.start Y w0
 unfold B8 at H
 refine Ag (Ab ?_)
 iterate 2 refine ls F W Aa (Ad F Aa).q fun a w F W => ?_
 refine Ae (Ac (Ag (Ab ?_)))
 iterate 2 refine ls F W Aa (Af F Aa).q fun a w F W => ?_
 refine ls F W Aa (Cd F Aa Aa Aa).q fun a w F W => ?_
 refine ls F W Aa (Ad F Aa).q fun a w F W => ?_
 refine Ae (Ac (Ag (Ab ?_)))
 refine C8 (cs := [.int .i64 0]) F W Aa Z3 Aa fun b1 a w F W => ?_
 refine Ae (Ac (Ag (Ab ?_)))
 iterate 2 refine ls F W Aa (Af F Aa).q fun a w F W => ?_
 refine ls F W Aa (Il F Aa Aa (by decide) Aa).q fun a w F W => ?_
 refine ls F W Aa (Jc F Aa Aa Aa).q fun a w F W => ?_
 refine ls F W Aa (BM F Aa Aa Aa).q fun a w F W => ?_
 refine ls F W Aa (Ad F Aa).q fun a w F W => ?_
 refine Ae (Ac (Ag (Ab ?_)))
 iterate 2 refine ls F W Aa (Af F Aa).q fun a w F W => ?_
 refine ls F W Aa (Il F Aa Aa (by decide) Aa).q fun a w F W => ?_
 refine ls F W Aa (Jc F Aa Aa Aa).q fun a w F W => ?_
 refine ls F W Aa (BM F Aa Aa Aa).q fun a w F W => ?_
 refine ls F W Aa (Ad F Aa).q fun a w F W => ?_
 refine Ae (Ac (Ag (Ab ?_)))
 iterate 2 refine ls F W Aa (Af F Aa).q fun a w F W => ?_
 refine ls F W Aa (Il F Aa Aa (by decide) Aa).q fun a w F W => ?_
 refine ls F W Aa (Jc F Aa Aa Aa).q fun a w F W => ?_
 refine ls F W Aa (BM F Aa Aa Aa).q fun a w F W => ?_
 refine ls F W Aa (Ad F Aa).q fun a w F W => ?_
 refine Ae (Ac ?_)
 obtain ⟨o1, G1, K1⟩ := Aj H
 refine AW (fun a w => ∃ x1 : Int, ∃ x2 : Int, some ((x1, x2)) = some o1 ∧ Fr 57 [] [(6, .int .i64 0), (7, .int .i64 0), (9, .pointer (some ⟨b1, 0, none⟩)), (11, .int .i64 x1)] a ∧ Stw ⟨Y, [], w0⟩ [(b1, [.int .i64 x2])] [] w) ?_ ?_
 ·
  have H := G1
  clear G1 K1
  refine Ag (Ab ?_)
  refine ls F W Aa (Af F Aa).q fun a w F W => ?_
  refine ls F W Aa (DT F Aa Aa).q fun a w F W => ?_
  refine Ae (Ac ?_)
  refine Ao F Aa (fun hb => ?_) fun hb => ?_
  ·
   have H := A5 (Bv hb) H
   rw [hb] at F
   clear hb
   obtain ⟨o2, G2, K2⟩ := Aj H
   refine AW (fun a w => ∃ x3 : Int, ∃ x4 : Int, ∃ x5 : Int, ∃ x6 : Int, some ((x3, x4, x5, x6)) = some o2 ∧ Fr 57 [] [(0, v1), (6, .int .i64 0), (7, .int .i64 0), (9, .pointer (some ⟨b1, 0, none⟩)), (10, .int .i64 x3), (11, .int .i64 x4), (12, .int .i64 x5)] a ∧ Stw ⟨Y, [], w0⟩ [(b1, [.int .i64 x6])] [] w) ?_ ?_
   ·
    have H := G2
    clear G2 K2
    refine Ag (Ab ?_)
    refine ls F W Aa (Af F Aa).q fun a w F W => ?_
    refine ls F W Aa (DT F Aa Aa).q fun a w F W => ?_
    refine Ae (Ac ?_)
    refine Ao F Aa (fun hb => ?_) fun hb => ?_
    ·
     have H := A5 (Bv hb) H
     rw [hb] at F
     clear hb
     refine Ag (Ab ?_)
     iterate 2 refine ls F W Aa (Af F Aa).q fun a w F W => ?_
     obtain ⟨x7, h1, H⟩ := Aj H
     refine BE (Ml := [(b1, [.int .i64 0])]) (Zl := []) (M := []) (Z := []) (β := Unit) (rv := fun x => .int .i64 x7.1) (MM := fun x => [(b1, [.int .i64 x7.2])]) (ZZ := fun x => []) F W NW Aa Aa (fun hL => Cp _ _ w (v1) b1 p0 (AJ (p1 + (AJ ((AJ (Int.tdiv (AJ (p2 - p1)) 4)) * 1)))) 0 _ h1 (W.roX h_v1 (fun g hg => Es hg)) hL) fun x a w F W => ?_
     have W : Stw ⟨Y, [], w0⟩ [(b1, [.int .i64 x7.2])] [] w := W
     refine ls F W Aa (Ad F Aa).q fun a w F W => ?_
     refine Ae (Ac (Ag (Ab ?_)))
     iterate 2 refine ls F W Aa (Af F Aa).q fun a w F W => ?_
     obtain ⟨x8, h2, H⟩ := Aj H
     refine BE (Ml := [(b1, [.int .i64 x7.2])]) (Zl := []) (M := []) (Z := []) (β := Unit) (rv := fun x => .int .i64 x8.1) (MM := fun x => [(b1, [.int .i64 x8.2])]) (ZZ := fun x => []) F W NW Aa Aa (fun hL => Cp _ _ w (v1) b1 p0 (AJ (p1 + (AJ ((AJ (Int.tdiv (AJ (p2 - p1)) 4)) * 2)))) x7.2 _ h2 (W.roX h_v1 (fun g hg => Es hg)) hL) fun x a w F W => ?_
     have W : Stw ⟨Y, [], w0⟩ [(b1, [.int .i64 x8.2])] [] w := W
     refine ls F W Aa (Ad F Aa).q fun a w F W => ?_
     refine Ae (Ac (Ab ?_))
     iterate 2 refine ls F W Aa (Af F Aa).q fun a w F W => ?_
     obtain ⟨x9, h3, H⟩ := Aj H
     refine BE (Ml := [(b1, [.int .i64 x8.2])]) (Zl := []) (M := []) (Z := []) (β := Unit) (rv := fun x => .int .i64 x9.1) (MM := fun x => [(b1, [.int .i64 x9.2])]) (ZZ := fun x => []) F W NW Aa Aa (fun hL => Cp _ _ w (v1) b1 p0 (AJ (p1 + (AJ ((AJ (Int.tdiv (AJ (p2 - p1)) 4)) * 3)))) x8.2 _ h3 (W.roX h_v1 (fun g hg => Es hg)) hL) fun x a w F W => ?_
     have W : Stw ⟨Y, [], w0⟩ [(b1, [.int .i64 x9.2])] [] w := W
     refine ls F W Aa (Ad F Aa).q fun a w F W => ?_
     refine Ae (Ac ?_)
     exact ⟨_, _, _, _, H, F.re ⟨rfl, Aa, Aa, Aa, Aa, Aa, Aa, trivial⟩, W⟩
    have H := A3 (Bx hb) H
    rw [hb] at F
    clear hb
    refine Au (Ac ?_)
    exact ⟨_, _, _, _, H, F.re ⟨rfl, Aa, Aa, Aa, Aa, Aa, Aa, trivial⟩, W⟩
   rintro a w ⟨x3, x4, x5, x6, hj, F, W⟩
   have hj := AV hj
   subst hj
   have H := K2
   clear G2 K2
   refine Ab ?_
   iterate 4 refine ls F W Aa (Af F Aa).q fun a w F W => ?_
   obtain ⟨x10, h4, H⟩ := Aj H
   refine BE (Ml := [(b1, [.int .i64 x6])]) (Zl := []) (M := []) (Z := []) (β := Unit) (rv := fun x => .int .i64 x10.1) (MM := fun x => [(b1, [.int .i64 x10.2])]) (ZZ := fun x => []) F W Ow Aa Aa (fun hL => DM _ _ w (v1) b1 p0 x3 x4 x5 x6 _ h4 (W.roX h_v1 (fun g hg => Es hg)) hL) fun x a w F W => ?_
   have W : Stw ⟨Y, [], w0⟩ [(b1, [.int .i64 x10.2])] [] w := W
   refine ls F W Aa (Ad F Aa).q fun a w F W => ?_
   refine Ae (Ac ?_)
   exact ⟨_, _, H, F.re ⟨rfl, Aa, Aa, Aa, trivial⟩, W⟩
  have H := A3 (Bx hb) H
  rw [hb] at F
  clear hb
  refine Au (Ac ?_)
  exact ⟨_, _, H, F.re ⟨rfl, Aa, Aa, Aa, trivial⟩, W⟩
 rintro a w ⟨x1, x2, hj, F, W⟩
 have hj := AV hj
 subst hj
 have H := K1
 clear G1 K1
 refine Ag (Ab ?_)
 refine ls F W Aa (As (v := Value.int .i64 x2) 0 F Aa Aa T3 Aa).q fun a w F W => ?_
 refine Ae (Ac (Ap (Ag (Ab ?_))))
 refine ls F W Aa (BU F Aa Aa).q fun a w F W => ?_
 refine ls F W Aa (Ad F Aa).q fun a w F W => ?_
 refine Ae (Ac ?_)
 refine Ao F Aa (fun hb => ?_) fun hb => ?_
 ·
  have H := A5 (Bv hb) H
  rw [hb] at F
  clear hb
  refine Ag (Ab ?_)
  refine ls F W Aa (Af F Aa).q fun a w F W => ?_
  iterate 2 refine ls F W Aa (Ad F Aa).q fun a w F W => ?_
  refine Ae (Ac (Aw (A0 ?_)))
  have H := AV H
  subst H
  refine Ix (.inl Aa) F W Aa (AB F Aa) (AB F Aa) ?_
  exact ⟨rfl, W.done⟩
 have H := A3 (Bx hb) H
 rw [hb] at F
 clear hb
 refine Ag (Ab ?_)
 refine ls F W Aa (BU F Aa Aa).q fun a w F W => ?_
 refine ls F W Aa (Ad F Aa).q fun a w F W => ?_
 refine Ae (Ac ?_)
 refine Ao F Aa (fun hb => ?_) fun hb => ?_
 ·
  have H := A5 (Bv hb) H
  rw [hb] at F
  clear hb
  refine Ag (Ab ?_)
  refine ls F W Aa (Af F Aa).q fun a w F W => ?_
  iterate 2 refine ls F W Aa (Ad F Aa).q fun a w F W => ?_
  refine Ae (Ac (Aw (A0 ?_)))
  have H := AV H
  subst H
  refine Ix (.inl Aa) F W Aa (AB F Aa) (AB F Aa) ?_
  exact ⟨rfl, W.done⟩
 have H := A3 (Bx hb) H
 rw [hb] at F
 clear hb
 refine Ag (Ab ?_)
 refine ls F W Aa (Af F Aa).q fun a w F W => ?_
 iterate 2 refine ls F W Aa (Ad F Aa).q fun a w F W => ?_
 refine Ae (Ac (Aw (A0 ?_)))
 have H := AV H
 subst H
 refine Ix (.inl Aa) F W Aa (AB F Aa) (AB F Aa) ?_
 exact ⟨rfl, W.done⟩
end Go.Proofs.YtepfcpffbabgmaaDoor
