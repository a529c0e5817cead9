/- The functions of layer 40, FH. Conditions: none. -/
import Derived.Test.YthmkgdnnocemmaaDoorRows
import Derived.Test.YthmkgdnnocemmaaDoorcOB
import Derived.Test.YthmkgdnnocemmaaDoorcOG
import Derived.Test.YthmkgdnnocemmaaDoorcOT
import Derived.Test.YthmkgdnnocemmaaDoorcOD
import Derived.Test.YthmkgdnnocemmaaDoorcOY
import Derived.Test.YthmkgdnnocemmaaDoorcOC
import Derived.Test.YthmkgdnnocemmaaDoorcOY
import Derived.Test.YthmkgdnnocemmaaDoorcOX
namespace Go.Proofs.YthmkgdnnocemmaaDoor
open Go Go.RowKit
set_option linter.unusedVariables false
set_option linter.unusedSimpArgs false
set_option maxRecDepth 20000
theorem Lh : type_of% Tryd.underlying22 := Tryd.underlying22
theorem Kr : type_of% Tryd.underlying23 := Tryd.underlying23
theorem F1 : type_of% Tryd.underlying25 := Tryd.underlying25
theorem Ku : type_of% Tryd.underlying26 := Tryd.underlying26
theorem J5 : type_of% Tryd.underlying27 := Tryd.underlying27
theorem CH : type_of% Tryd.underlying29 := Tryd.underlying29
theorem Lm : type_of% Tryd.underlying39 := Tryd.underlying39
abbrev Bu : Rp (Int × Int × Int × Int × Int × Int) := (Rp.pair (Rp.int .i64) (Rp.pair (Rp.int .i64) (Rp.pair (Rp.int .i64) (Rp.pair (Rp.int .i64) (Rp.pair (Rp.int .i64) (Rp.int .i64))))))
abbrev BC : Rp (Int × Int) := (Rp.pair (Rp.int .i64) (Rp.int .i64))
abbrev NC (p : Value × List Int) : List Int := p.2
theorem HC : Ex (Rp.slice (Rp.int .u64)) (Rp.vsl (Rp.int .u64)) NC := Ex.sliceF
theorem Gv : Ty Tryd.prog 29 true 11 := ⟨by kernel_rfl, by kernel_rfl⟩
theorem Lq : Ty Tryd.prog 26 false 1 := ⟨by kernel_rfl, by kernel_rfl⟩
abbrev Jv (a : Value × List Int) : List Value := [a.1]
theorem Mz : HN (Rp.vsl (Rp.int .u64)) Jv := HN.vsl
theorem MU : Et Tryd.prog 26 39 1 24 := Et.of Ku (by kernel_rfl) (by kernel_rfl) (by kernel_rfl) (by decide)
theorem NG : Ty Tryd.prog 39 false 1 := ⟨by kernel_rfl, by kernel_rfl⟩
theorem JC : Ty Tryd.prog 25 true 3 := ⟨by kernel_rfl, by kernel_rfl⟩
theorem Ls : Ty Tryd.prog 22 false 1 := ⟨by kernel_rfl, by kernel_rfl⟩
theorem Lt : Ty Tryd.prog 23 false 1 := ⟨by kernel_rfl, by kernel_rfl⟩
theorem LZ : Ty Tryd.prog 27 false 1 := ⟨by kernel_rfl, by kernel_rfl⟩
abbrev KP (a0 : (Int × (List (Int × Int × Int × Int × Int × Int)) × (List (Int × Int))) × List (List Int) × List Int × Int × Int × Int × Int × Int × Int) (a1 : Value) (a2 : Value) (a3 : Value) (a4 : Value) : List Value := [.int .i64 a0.1.1, a1, a2, a3, a4, .int .i64 a0.2.2.2.1, .int .i64 a0.2.2.2.2.1, .int .i64 a0.2.2.2.2.2.1, .int .i64 a0.2.2.2.2.2.2.1, .int .i64 a0.2.2.2.2.2.2.2.1, .int .i64 a0.2.2.2.2.2.2.2.2]
abbrev C3 (a0 : Nat) (a1 : (Int × (List (Int × Int × Int × Int × Int × Int)) × (List (Int × Int))) × List (List Int) × List Int × Int × Int × Int × Int × Int × Int) (a2 : Value) (a3 : Value) (a4 : Value) (a5 : Value) : List (Nat × List Value) := [(a0, [.int .i64 a1.1.1, a2, a3, a4, a5, .int .i64 a1.2.2.2.1, .int .i64 a1.2.2.2.2.1, .int .i64 a1.2.2.2.2.2.1, .int .i64 a1.2.2.2.2.2.2.1, .int .i64 a1.2.2.2.2.2.2.2.1, .int .i64 a1.2.2.2.2.2.2.2.2])]
theorem T3 : Ty Tryd.prog 3 false 1 := ⟨by kernel_rfl, by kernel_rfl⟩
theorem Z3 : (Tryd.prog.info? 3).bind (·.zero) = some (.int .i64 0) := by kernel_rfl
theorem GZ : Et Tryd.prog 27 3 1 8 := Et.of J5 (by kernel_rfl) (by kernel_rfl) (by kernel_rfl) (by decide)
theorem MW : Et Tryd.prog 22 41 6 48 := Et.of Lh (by kernel_rfl) (by kernel_rfl) (by kernel_rfl) (by decide)
def Oh (a : Int × Int × Int × Int × Int × Int) : List Value := [.int .i64 a.1, .int .i64 a.2.1, .int .i64 a.2.2.1, .int .i64 a.2.2.2.1, .int .i64 a.2.2.2.2.1, .int .i64 a.2.2.2.2.2]
theorem Nl : Fl Bu Oh := (Fl.pair Fl.int (Fl.pair Fl.int (Fl.pair Fl.int (Fl.pair Fl.int (Fl.pair Fl.int Fl.int)))))
theorem Nj : Ty Tryd.prog 41 true 6 := ⟨by kernel_rfl, by kernel_rfl⟩
theorem Ob : (Tryd.prog.info? 41).bind (·.zero) = some (.agg #[.int .i64 0, .int .i64 0, .int .i64 0, .int .i64 0, .int .i64 0, .int .i64 0]) := by kernel_rfl
theorem MO : Tryd.prog.follows .mixedOrders = true := by kernel_rfl
theorem MY : Et Tryd.prog 23 43 2 16 := Et.of Kr (by kernel_rfl) (by kernel_rfl) (by kernel_rfl) (by decide)
def Ok (a : Int × Int) : List Value := [.int .i64 a.1, .int .i64 a.2]
theorem Ns : Fl BC Ok := (Fl.pair Fl.int Fl.int)
theorem IV : type_of% Tryd.underlying41 := Tryd.underlying41
theorem LE : type_of% Tryd.underlying43 := Tryd.underlying43
abbrev Nw  : List Value := [.int .i64 0, .int .i64 0, .int .i64 0, .int .i64 0, .int .i64 0, .int .i64 0]
abbrev M8 (a0 : Int × Int × Int × Int × Int × Int) : List Value := [.int .i64 a0.1, .int .i64 a0.2.1, .int .i64 a0.2.2.1, .int .i64 a0.2.2.2.1, .int .i64 a0.2.2.2.2.1, .int .i64 a0.2.2.2.2.2]
abbrev ML (a0 : Nat) (a1 : Int × Int × Int × Int × Int × Int) (a2 : Nat) (a3 : (Int × (List (Int × Int × Int × Int × Int × Int)) × (List (Int × Int))) × List (List Int) × List Int × Int × Int × Int × Int × Int × Int) (a4 : Value) (a5 : Value) (a6 : Value) (a7 : Value) : List (Nat × List Value) := [(a0, [.int .i64 a1.1, .int .i64 a1.2.1, .int .i64 a1.2.2.1, .int .i64 a1.2.2.2.1, .int .i64 a1.2.2.2.2.1, .int .i64 a1.2.2.2.2.2]), (a2, [.int .i64 a3.1.1, a4, a5, a6, a7, .int .i64 a3.2.2.2.1, .int .i64 a3.2.2.2.2.1, .int .i64 a3.2.2.2.2.2.1, .int .i64 a3.2.2.2.2.2.2.1, .int .i64 a3.2.2.2.2.2.2.2.1, .int .i64 a3.2.2.2.2.2.2.2.2])]
theorem OA : Bt Tryd.prog 25 [.int .i64 0, .slice none 0 0, .slice none 0 0] [(0, 1), (1, 1), (2, 1)] := ⟨⟨.agg #[.int .i64 0, .slice none 0 0, .slice none 0 0], by kernel_rfl, rfl⟩, ⟨_, F1, fun w => by kernel_rfl⟩⟩
theorem NY : (Tryd.prog.info? 45).bind (·.zero) = some (.int .u64 0) := by kernel_rfl
theorem MS : Et Tryd.prog 39 45 1 8 := Et.of Lm (by kernel_rfl) (by kernel_rfl) (by kernel_rfl) (by decide)
theorem NS : (Tryd.prog.info? 39).bind (·.zero) = some (.slice none 0 0) := by kernel_rfl
theorem NE : Bt Tryd.prog 29 [.int .i64 0, .slice none 0 0, .slice none 0 0, .slice none 0 0, .slice none 0 0, .int .i64 0, .int .i64 0, .int .i64 0, .int .i64 0, .int .i64 0, .int .i64 0] [(0, 3), (3, 1), (4, 1), (5, 1), (6, 1), (7, 1), (8, 1), (9, 1), (10, 1)] := ⟨⟨.agg #[.int .i64 0, .slice none 0 0, .slice none 0 0, .slice none 0 0, .slice none 0 0, .int .i64 0, .int .i64 0, .int .i64 0, .int .i64 0, .int .i64 0, .int .i64 0], by kernel_rfl, rfl⟩, ⟨_, CH, fun w => by kernel_rfl⟩⟩
theorem Nn : (Tryd.prog.info? 29).bind (·.zero) = some (.agg #[.int .i64 0, .slice none 0 0, .slice none 0 0, .slice none 0 0, .slice none 0 0, .int .i64 0, .int .i64 0, .int .i64 0, .int .i64 0, .int .i64 0, .int .i64 0]) := by kernel_rfl
theorem Ji : Has Tryd.prog 13 := ⟨fun args w => Am Tryd.func13 rfl (by decide) args w⟩
theorem Oa : Has Tryd.prog 33 := ⟨fun args w => Am Tryd.func33 rfl (by decide) args w⟩
theorem NT : Has Tryd.prog 16 := ⟨fun args w => Am Tryd.func16 rfl (by decide) args w⟩
noncomputable def CW (p1 : List Int) : (Int × List UInt8) → Option ((Int × List UInt8) ⊕ (List UInt8))
  | (x3, x4) => (if x3 < (p1.length : Int) then (ix p1 x3).bind fun x5 => (Hv x5).bind fun x6 => (DB ([32] : List UInt8) x6).bind fun x7 => (DB x4 x7).bind fun x8 => some (.inl (CL (x3 + 1), x8)) else some (.inr x4))
noncomputable def AV (p0 : List UInt8) (p1 : List Int) : Option (List UInt8) := (DB ([] : List UInt8) p0).bind fun x1 => (BB (CW p1) (0, x1)).bind fun x2 => (DB x2 ([10] : List UInt8)).bind fun x9 => (Ip x9).bind fun x10 => some x10
theorem Co (Y : Nat → Prop) (w0 : World) (v1 : Value) (p0 : List UInt8) (p1 : List Int) (r : List UInt8) (H : AV p0 p1 = some r) (h_v1 : Sl w0 (NX []) (Rp.int .i64) v1 p1) (hG : Gk [] w0) :
    Calls Tryd.prog 14 #[.string (bs p0), v1] w0 fun e w' => e = .returned (.string (bs r)) ∧ Below w0.heap.size w0 w' := by
 refine enter Tryd.func14 Aa Tryd.ntmps14 Aa fun a F => ?_
 have W := Stw.start Y w0
 unfold AV at H
 refine Aj (Ac ?_)
 refine ls F W Aa (Ag (v := Value.string (bs ([] : List UInt8))) F Aa).q fun a w F W => ?_
 refine Af (Ad (Aj (Ac ?_)))
 refine IZ F W Aa fun b1 a w F W => ?_
 have W : Stw ⟨Y, [], w0⟩ [] [Bv 49 5 b1 (Value.slice none 0 0) ([] : List UInt8)] w := W
 refine Af (Ad (Aj (Ac ?_)))
 refine ls F W Aa (Ae F Aa).q fun a w F W => ?_
 obtain ⟨x1, h1, H⟩ := An H
 refine AE (Ml := []) (Zl := [Bv 49 5 b1 (Value.slice none 0 0) ([] : List UInt8)]) (M := []) (Z := []) (β := Value) (rv := fun x => .tuple #[.int .i64 (p0.length : Int), .nilIface]) (MM := fun x => []) (ZZ := fun x => [Bv 49 5 b1 x x1]) F W Ji Aa Aa (fun hL => FQ _ _ w b1 (Value.slice none 0 0) ([] : List UInt8) p0 _ h1 hL) fun v2 a w F W => ?_
 have W : Stw ⟨Y, [], w0⟩ [] [Bv 49 5 b1 v2 x1] w := W
 refine Af (Ad ?_)
 obtain ⟨o1, G1, K1⟩ := An H
 refine AX (fun a w => ∃ x2 : List UInt8, ∃ v3 : Value, some (x2) = some o1 ∧ Fr 23 [] [(4, .string (bs ([] : List UInt8))), (5, .pointer (some ⟨b1, 0, none⟩))] a ∧ Stw ⟨Y, [], w0⟩ [] [Bv 49 5 b1 v3 x2] w) ?_ ?_
 ·
  have H := G1
  clear G1 K1
  refine Aj (Ac ?_)
  refine ls F W Aa (Ae F Aa).q fun a w F W => ?_
  refine ls F W Aa (Dg (r := (Rp.int .i64)) (l := p1) J5 Aa F Aa (AK h_v1)).q fun a w F W => ?_
  refine ls F W Aa (Ae F Aa).q fun a w F W => ?_
  refine Af (Ad (AF ?_))
  refine CA H (fun s a w => ∃ v4 : Value, Fr 23 [] [(4, .string (bs ([] : List UInt8))), (5, .pointer (some ⟨b1, 0, none⟩)), (10, v1), (11, .int .i64 (p1.length : Int)), (12, .int .i64 s.1)] a ∧ Stw ⟨Y, [], w0⟩ [] [Bv 49 5 b1 v4 s.2] w) ⟨v2, F.re ⟨rfl, Aa, Aa, Aa, Aa, trivial⟩, W⟩ fun s o a w H L2 hR => ?_
  obtain ⟨x3, x4⟩ := s
  obtain ⟨v4, F, W⟩ := hR
  have F : Fr 23 [] [(4, .string (bs ([] : List UInt8))), (5, .pointer (some ⟨b1, 0, none⟩)), (10, v1), (11, .int .i64 (p1.length : Int)), (12, .int .i64 x3)] a := F
  have W : Stw ⟨Y, [], w0⟩ [] [Bv 49 5 b1 v4 x4] w := W
  rw [CW] at H
  refine Aj (Ac ?_)
  refine ls F W Aa (DM F Aa Aa).q fun a w F W => ?_
  refine Af (Ad (Aj ?_))
  refine AA F Aa (fun hb => ?_) fun hb => ?_
  ·
   have H := AZ (BQ hb) H
   rw [hb] at F
   clear hb
   refine Ax (Ad (Aj (AF (Aj (Ac ?_)))))
   obtain ⟨x5, h2, H⟩ := An H
   refine ls F W Aa (Cv (r := (Rp.int .i64)) GZ F Aa Aa (AK h_v1) h2).q fun a w F W => ?_
   refine ls F W Aa (A3 (y := Value.int .i64 x5) (j := 0) (i := x3) F Aa Aa (AK h_v1) h2 Fl.int.to T3 Aa).q fun a w F W => ?_
   refine ls F W Aa (Ag F Aa).q fun a w F W => ?_
   refine Af (Ad (Ac ?_))
   refine ls F W Aa (Ae F Aa).q fun a w F W => ?_
   obtain ⟨x6, h3, H⟩ := An H
   refine ls F W Aa (Ba (v := Value.string (bs x6)) F Oa Aa (fun w W => Ky any w x5 _ h3 (hG.go0 W))) fun a w F W => ?_
   obtain ⟨x7, h4, H⟩ := An H
   refine ls F W Aa (Jx (l := ([32] : List UInt8)) (m := x6) F Aa Aa h4).q fun a w F W => ?_
   obtain ⟨x8, h5, H⟩ := An H
   refine AE (Ml := []) (Zl := [Bv 49 5 b1 v4 x4]) (M := []) (Z := []) (β := Value) (rv := fun x => .tuple #[.int .i64 (x7.length : Int), .nilIface]) (MM := fun x => []) (ZZ := fun x => [Bv 49 5 b1 x x8]) F W Ji Aa Aa (fun hL => FQ _ _ w b1 v4 x4 x7 _ h5 hL) fun v5 a w F W => ?_
   have W : Stw ⟨Y, [], w0⟩ [] [Bv 49 5 b1 v5 x8] w := W
   refine Af (Bk (Ad (Ac ?_)))
   refine ls F W Aa (DJ F Aa Aa Aa).q fun a w F W => ?_
   refine ls F W Aa (Ae F Aa).q fun a w F W => ?_
   refine Af (Ad ?_)
   exact ⟨_, H, v5, F.re ⟨rfl, Aa, Aa, Aa, Aa, trivial⟩, W⟩
  have H := AY (BR hb) H
  rw [hb] at F
  clear hb
  refine Ci ?_
  iterate 2 refine CM ?_
  refine Cj (Ad ?_)
  have H := L2 _ H
  exact ⟨_, v4, H, F.re ⟨rfl, Aa, trivial⟩, W⟩
 rintro a w ⟨x2, v3, hj, F, W⟩
 have hj := A2 hj
 subst hj
 have H := K1
 clear G1 K1
 refine Aj (Ac ?_)
 obtain ⟨x9, h6, H⟩ := An H
 refine AE (Ml := []) (Zl := [Bv 49 5 b1 v3 x2]) (M := []) (Z := []) (β := Value) (rv := fun x => .tuple #[.int .i64 (([10] : List UInt8).length : Int), .nilIface]) (MM := fun x => []) (ZZ := fun x => [Bv 49 5 b1 x x9]) F W Ji Aa Aa (fun hL => FQ _ _ w b1 v3 x2 ([10] : List UInt8) _ h6 hL) fun v6 a w F W => ?_
 have W : Stw ⟨Y, [], w0⟩ [] [Bv 49 5 b1 v6 x9] w := W
 refine Af (Ad (Aj (Ac ?_)))
 obtain ⟨x10, h7, H⟩ := An H
 refine AE (Ml := []) (Zl := [Bv 49 5 b1 v6 x9]) (M := []) (Z := []) (β := Unit) (rv := fun x => .string (bs x10)) (MM := fun x => []) (ZZ := fun x => [Bv 49 5 b1 v6 x9]) F W NT Aa Aa (fun hL => Ni _ _ w b1 v6 x9 _ h7 hL) fun _ a w F W => ?_
 have W : Stw ⟨Y, [], w0⟩ [] [Bv 49 5 b1 v6 x9] w := W
 refine ls F W Aa (Ag F Aa).q fun a w F W => ?_
 refine Af (Ad (A1 ?_))
 have H := A2 H
 subst H
 refine Ck (.inl Aa) F W Aa (AL F Aa) ?_
 exact ⟨rfl, W.done⟩
theorem Lp : Has Tryd.prog 14 := ⟨fun args w => Am Tryd.func14 rfl (by decide) args w⟩
theorem Nr : Ty Tryd.prog 43 true 2 := ⟨by kernel_rfl, by kernel_rfl⟩
theorem N5 : (Tryd.prog.info? 43).bind (·.zero) = some (.agg #[.int .i64 0, .int .i64 0]) := by kernel_rfl
theorem NK : Ty Tryd.prog 45 false 1 := ⟨by kernel_rfl, by kernel_rfl⟩
theorem I9 : (Tryd.prog.underlying 9).map (fun d => match d with | .interface _ => true | _ => false) = some false := by kernel_rfl
theorem NQ : (Tryd.prog.info? 116).bind (·.zero) = some (.agg #[.int .u8 0, .int .u8 0, .int .u8 0, .int .u8 0, .int .u8 0, .int .u8 0, .int .u8 0, .int .u8 0, .int .u8 0, .int .u8 0, .int .u8 0, .int .u8 0, .int .u8 0, .int .u8 0, .int .u8 0, .int .u8 0, .int .u8 0, .int .u8 0, .int .u8 0, .int .u8 0, .int .u8 0, .int .u8 0, .int .u8 0, .int .u8 0, .int .u8 0, .int .u8 0, .int .u8 0, .int .u8 0, .int .u8 0, .int .u8 0, .int .u8 0, .int .u8 0, .int .u8 0, .int .u8 0, .int .u8 0, .int .u8 0, .int .u8 0, .int .u8 0, .int .u8 0, .int .u8 0, .int .u8 0, .int .u8 0, .int .u8 0, .int .u8 0, .int .u8 0, .int .u8 0, .int .u8 0, .int .u8 0, .int .u8 0, .int .u8 0, .int .u8 0, .int .u8 0, .int .u8 0, .int .u8 0, .int .u8 0, .int .u8 0, .int .u8 0, .int .u8 0, .int .u8 0, .int .u8 0, .int .u8 0, .int .u8 0, .int .u8 0, .int .u8 0, .int .u8 0]) := by kernel_rfl
def Bz (p0 : Int) : Bool := decide ((Jn .i64 p0 (CL (p0 - 1))) = 0)
theorem DH (Y : Nat → Prop) (w0 : World)  (p0 : Int) (r : Bool) (H : Bz p0 = r)  :
    Calls Tryd.prog 76 #[.int .i64 p0] w0 fun e w' => e = .returned (.bool r) ∧ Below w0.heap.size w0 w' := by
 refine enter Tryd.func76 Aa Tryd.ntmps76 Aa fun a F => ?_
 have W := Stw.start Y w0
 unfold Bz at H
 refine Aj (Ac ?_)
 refine ls F W Aa (Ag F Aa).q fun a w F W => ?_
 refine Af (Ad (Aj (Ac ?_)))
 iterate 2 refine ls F W Aa (Ae F Aa).q fun a w F W => ?_
 refine ls F W Aa (Ff F Aa Aa Aa).q fun a w F W => ?_
 refine ls F W Aa (Mt F Aa Aa).q fun a w F W => ?_
 refine ls F W Aa (CC F Aa Aa).q fun a w F W => ?_
 refine ls F W Aa (Ag F Aa).q fun a w F W => ?_
 refine Af (Ad (A1 ?_))
 subst H
 refine Ck (.inl Aa) F W Aa (AL F Aa) ?_
 exact ⟨rfl, W.done⟩
theorem Jc : type_of% Tryd.underlying3 := Tryd.underlying3
theorem Nt : type_of% Tryd.underlying5 := Tryd.underlying5
theorem Fk : type_of% Tryd.underlying9 := Tryd.underlying9
theorem KJ : type_of% Tryd.underlying45 := Tryd.underlying45
theorem LT : type_of% Tryd.underlying47 := Tryd.underlying47
theorem LP : type_of% Tryd.underlying85 := Tryd.underlying85
theorem Nc : type_of% Tryd.underlying116 := Tryd.underlying116
theorem On : Has Tryd.prog 76 := ⟨fun args w => Am Tryd.func76 rfl (by decide) args w⟩
theorem OC : Has Tryd.prog 77 := ⟨fun args w => Am Tryd.func77 rfl (by decide) args w⟩
theorem HY : Ar Tryd.prog 116 65 5 1 := ⟨Nc, by kernel_rfl⟩
theorem T5 : Ty Tryd.prog 5 false 1 := ⟨by kernel_rfl, by kernel_rfl⟩
noncomputable def Az (p2 : Int) (x5 : Int) : (Int × Int × List Int) → Option ((Int × Int × List Int) ⊕ (Int × Int × List Int))
  | (x9, x10, x11) => (if (IntKind.u64.wrap p2) ≤ x9 then (ix ([48, 49, 50, 51, 52, 53, 54, 55, 56, 57, 97, 98, 99, 100, 101, 102, 103, 104, 105, 106, 107, 108, 109, 110, 111, 112, 113, 114, 115, 116, 117, 118, 119, 120, 121, 122] : List UInt8) (Jn .u64 x9 (IntKind.u64.wrap ((IntKind.u64.wrap p2) - 1)))).bind fun x12 => (Jj 65 x11 (CL (x10 - 1))).bind fun x13 => (Mg (Kl .u64 x9 (IntKind.u64.wrap x5)) (IntKind.u64.wrap x5)).bind fun x14 => some (.inl (x14, CL (x10 - 1), (DN x11 (CL (x10 - 1)) (x12.toNat : Int)))) else some (.inr (x9, x10, x11)))
noncomputable def BO (p2 : Int) : (Int × Int × List Int) → Option ((Int × Int × List Int) ⊕ (Int × Int × List Int))
  | (x20, x21, x22) => (if (IntKind.u64.wrap p2) ≤ x20 then (MR .u64 x20 (IntKind.u64.wrap p2)).bind fun x23 => (ix ([48, 49, 50, 51, 52, 53, 54, 55, 56, 57, 97, 98, 99, 100, 101, 102, 103, 104, 105, 106, 107, 108, 109, 110, 111, 112, 113, 114, 115, 116, 117, 118, 119, 120, 121, 122] : List UInt8) (IntKind.u64.wrap (x20 - (IntKind.u64.wrap (x23 * (IntKind.u64.wrap p2)))))).bind fun x24 => (Jj 65 x22 (CL (x21 - 1))).bind fun x25 => some (.inl (x23, CL (x21 - 1), (DN x22 (CL (x21 - 1)) (x24.toNat : Int)))) else some (.inr (x20, x21, x22)))
noncomputable def Br (p0 : List Int) (p1 : Int) (p2 : Int) (p3 : Bool) (p4 : Bool) : Option (List Int × List UInt8) := (if (decide (p2 < 2) || (decide (p2 = 10) || decide (36 < p2))) = true then none else (if p3 = true then some (IntKind.u64.wrap (0 - p1), true) else some (p1, false)).bind fun (x1, x2) => (if (Bz p2) = true then (M3 (IntKind.u64.wrap p2)).bind fun x5 => (BB (Az p2 x5) (x1, 65, (List.replicate 65 (0 : Int)))).bind fun (x6, x7, x8) => (ix ([48, 49, 50, 51, 52, 53, 54, 55, 56, 57, 97, 98, 99, 100, 101, 102, 103, 104, 105, 106, 107, 108, 109, 110, 111, 112, 113, 114, 115, 116, 117, 118, 119, 120, 121, 122] : List UInt8) x6).bind fun x15 => (Jj 65 x8 (CL (x7 - 1))).bind fun x16 => some (CL (x7 - 1), (DN x8 (CL (x7 - 1)) (x15.toNat : Int))) else (BB (BO p2) (x1, 65, (List.replicate 65 (0 : Int)))).bind fun (x17, x18, x19) => (ix ([48, 49, 50, 51, 52, 53, 54, 55, 56, 57, 97, 98, 99, 100, 101, 102, 103, 104, 105, 106, 107, 108, 109, 110, 111, 112, 113, 114, 115, 116, 117, 118, 119, 120, 121, 122] : List UInt8) x17).bind fun x26 => (Jj 65 x19 (CL (x18 - 1))).bind fun x27 => some (CL (x18 - 1), (DN x19 (CL (x18 - 1)) (x26.toNat : Int)))).bind fun (x3, x4) => (if x2 = true then (Jj 65 x4 (CL (x3 - 1))).bind fun x30 => some (CL (x3 - 1), (DN x4 (CL (x3 - 1)) 45)) else some (x3, x4)).bind fun (x28, x29) => (if p4 = true then none else (Ki 65 x29 x28).bind fun x31 => some (([] : List Int), FU x31)))
theorem D2 (Y : Nat → Prop) (w0 : World) (v1 : Value) (p0 : List Int) (p1 : Int) (p2 : Int) (p3 : Bool) (p4 : Bool) (r : List Int × List UInt8) (H : Br p0 p1 p2 p3 p4 = some r) (h_v1 : Sl w0 (NX []) (Rp.int .u8) v1 p0) (hG : Gk [] w0) :
    Calls Tryd.prog 59 #[v1, .int .u64 p1, .int .i64 p2, .bool p3, .bool p4] w0 fun e w' => ∃ x : Value, e = .returned (.tuple #[x, .string (bs r.2)]) ∧ Stw ⟨Y, [], w0⟩ [] [row (x) 5 (Rp.int .u8) r.1] w' := by
 refine enter Tryd.func59 Aa Tryd.ntmps59 Aa fun a F => ?_
 have W := Stw.start Y w0
 unfold Br at H
 refine Aj (Ac ?_)
 refine ls F W Aa (Ag F Aa).q fun a w F W => ?_
 refine ls F W Aa (Ag (v := Value.string (bs ([] : List UInt8))) F Aa).q fun a w F W => ?_
 refine Af (Ad (Aj ?_))
 refine AX (fun a w => Fr 102 [] [(0, v1), (1, .int .u64 p1), (2, .int .i64 p2), (3, .bool p3), (4, .bool p4), (10, .slice none 0 0), (11, .string (bs ([] : List UInt8))), (28, .bool (decide (p2 < 2) || (decide (p2 = 10) || decide (36 < p2))))] a ∧ Stw ⟨Y, [], w0⟩ [] [] w) ?_ ?_
 ·
  refine Ac ?_
  refine ls F W Aa (Ae F Aa).q fun a w F W => ?_
  refine ls F W Aa (DM F Aa Aa).q fun a w F W => ?_
  refine ls F W Aa (Ae F Aa).q fun a w F W => ?_
  rcases Bool.eq_false_or_eq_true (decide (p2 < 2)) with hb0 | hb0
  ·
   rw [hb0] at F
   iterate 2 refine Cm F Aa Aa Aa Aa Aa Aa Aa fun a F => ?_
   refine ls F W Aa (Au F Aa Aa Aa).q fun a w F W => ?_
   refine ls F W Aa (Ae F Aa).q fun a w F W => ?_
   iterate 2 refine Cm F Aa Aa Aa Aa Aa Aa Aa fun a F => ?_
   refine ls F W Aa (Au F Aa Aa Aa).q fun a w F W => ?_
   refine Af (Ad ?_)
   exact ⟨F.re ⟨rfl, Aa, Aa, Aa, Aa, Aa, Aa, (IY (by try rw [hb0]; all_goals simp only [IP])), trivial⟩, W⟩
  rw [hb0] at F
  refine Av F W (Ai F Aa Aa Aa Aa) Aa (Ao Aa) (Ae F Aa).q fun a w F W => ?_
  refine Av F W (Ai F Aa Aa Aa Aa) Aa (Ao Aa) (CC F Aa Aa).q fun a w F W => ?_
  refine ls F W Aa (Al F Aa Aa Aa).q fun a w F W => ?_
  refine ls F W Aa (Ae F Aa).q fun a w F W => ?_
  rcases Bool.eq_false_or_eq_true (decide (p2 = 10)) with hb1 | hb1
  ·
   rw [hb1] at F
   iterate 2 refine Cm F Aa Aa Aa Aa Aa Aa Aa fun a F => ?_
   refine ls F W Aa (Au F Aa Aa Aa).q fun a w F W => ?_
   refine Af (Ad ?_)
   exact ⟨F.re ⟨rfl, Aa, Aa, Aa, Aa, Aa, Aa, (IY (by try rw [hb1]; try rw [hb0]; all_goals simp only [IP])), trivial⟩, W⟩
  rw [hb1] at F
  refine Av F W (Ai F Aa Aa Aa Aa) Aa (Ao Aa) (Ae F Aa).q fun a w F W => ?_
  refine Av F W (Ai F Aa Aa Aa Aa) Aa (Ao Aa) (HV F Aa Aa).q fun a w F W => ?_
  refine ls F W Aa (Al F Aa Aa Aa).q fun a w F W => ?_
  refine Af (Ad ?_)
  exact ⟨F.re ⟨rfl, Aa, Aa, Aa, Aa, Aa, Aa, (IY (by try rw [hb1]; try rw [hb0]; all_goals simp only [IP])), trivial⟩, W⟩
 rintro a w ⟨F, W⟩
 refine AA F Aa (fun hb => ?_) fun hb => ?_
 ·
  have H := AZ hb H
  rw [hb] at F
  clear hb
  refine Ac ?_
  refine ls F W Aa (CD I9 F Aa).q fun a w F W => ?_
  exact nomatch H
 have H := AY (by rw [hb]; decide) H
 rw [hb] at F
 clear hb
 refine Ax (Ad (Aj (Ac ?_)))
 refine KU (r := (Rp.int .u8)) (l := (List.replicate 65 (0 : Int))) (cs := List.replicate 65 (Value.int .u8 0)) F W Aa NQ Aa (fun w A => Id .u8 65) Aa fun b1 a w F W => ?_
 have W : Stw ⟨Y, [], w0⟩ [] [row (Value.slice (some ⟨b1, 0, none⟩) 65 65) 116 (Rp.int .u8) (List.replicate 65 (0 : Int))] w := W
 refine Af (Ad (Aj (Ac ?_)))
 refine ls F W Aa (Ag F Aa).q fun a w F W => ?_
 refine Af (Ad ?_)
 obtain ⟨o1, G1, K1⟩ := An H
 refine AX (fun a w => ∃ x1 : Int, ∃ x2 : Bool, some ((x1, x2)) = some o1 ∧ Fr 102 [] [(0, v1), (1, .int .u64 x1), (2, .int .i64 p2), (3, .bool x2), (4, .bool p4), (10, .slice none 0 0), (11, .string (bs ([] : List UInt8))), (12, .pointer (some ⟨b1, 0, none⟩)), (13, .int .i64 65)] a ∧ Stw ⟨Y, [], w0⟩ [] [row (Value.slice (some ⟨b1, 0, none⟩) 65 65) 116 (Rp.int .u8) (List.replicate 65 (0 : Int))] w) ?_ ?_
 ·
  have H := G1
  clear G1 K1
  refine Aj (Ac ?_)
  refine ls F W Aa (Ae F Aa).q fun a w F W => ?_
  refine Af (Ad ?_)
  refine AA F Aa (fun hb => ?_) fun hb => ?_
  ·
   have H := AZ hb H
   rw [hb] at F
   clear hb
   refine Ac ?_
   refine ls F W Aa (Ae F Aa).q fun a w F W => ?_
   refine ls F W Aa (M9 F Aa Aa).q fun a w F W => ?_
   refine ls F W Aa (Ag F Aa).q fun a w F W => ?_
   refine Af (Ad ?_)
   exact ⟨_, _, H, F.re ⟨rfl, Aa, Aa, Aa, Aa, Aa, Aa, Aa, Aa, trivial⟩, W⟩
  have H := AY (by rw [hb]; decide) H
  rw [hb] at F
  clear hb
  refine Ax (Ad ?_)
  exact ⟨_, _, H, F.re ⟨rfl, Aa, Aa, Aa, Aa, Aa, Aa, Aa, Aa, trivial⟩, W⟩
 rintro a w ⟨x1, x2, hj, F, W⟩
 have hj := A2 hj
 subst hj
 have H := K1
 clear G1 K1
 obtain ⟨o2, G2, K2⟩ := An H
 refine AX (fun a w => ∃ x3 : Int, ∃ x4 : List Int, some ((x3, x4)) = some o2 ∧ Fr 102 [] [(0, v1), (3, .bool x2), (4, .bool p4), (10, .slice none 0 0), (11, .string (bs ([] : List UInt8))), (12, .pointer (some ⟨b1, 0, none⟩)), (13, .int .i64 x3)] a ∧ Stw ⟨Y, [], w0⟩ [] [row (Value.slice (some ⟨b1, 0, none⟩) 65 65) 116 (Rp.int .u8) x4] w) ?_ ?_
 ·
  have H := G2
  clear G2 K2
  refine Aj (Ac ?_)
  refine ls F W Aa (Ae F Aa).q fun a w F W => ?_
  refine ls F W Aa (Ba (v := Value.bool (Bz p2)) F On Aa (fun w W => DH any w p2 _ Aa)) fun a w F W => ?_
  refine Af (Ad ?_)
  refine AA F Aa (fun hb => ?_) fun hb => ?_
  ·
   have H := AZ hb H
   rw [hb] at F
   clear hb
   refine Aj (Ac ?_)
   refine ls F W Aa (Ae F Aa).q fun a w F W => ?_
   refine ls F W Aa (DX Jc LP F Aa).q fun a w F W => ?_
   obtain ⟨x5, h1, H⟩ := An H
   refine ls F W Aa (Ba (v := Value.int .i64 x5) F OC Aa (fun w W => Nv any w (IntKind.u64.wrap p2) _ h1 (hG.go0 W))) fun a w F W => ?_
   refine ls F W Aa (DX Jc LP F Aa).q fun a w F W => ?_
   refine ls F W Aa (Ag F Aa).q fun a w F W => ?_
   refine Af (Ad (Aj (Ac ?_)))
   refine ls F W Aa (Ae F Aa).q fun a w F W => ?_
   refine ls F W Aa (DX Jc KJ F Aa).q fun a w F W => ?_
   refine ls F W Aa (Ag F Aa).q fun a w F W => ?_
   refine Af (Ad (Aj (Ac ?_)))
   refine ls F W Aa (Ae F Aa).q fun a w F W => ?_
   refine ls F W Aa (DX Jc LP F Aa).q fun a w F W => ?_
   refine ls F W Aa (Ff F Aa Aa Aa).q fun a w F W => ?_
   refine ls F W Aa (Ag F Aa).q fun a w F W => ?_
   refine Af (Ad ?_)
   obtain ⟨o3, G3, K3⟩ := An H
   refine AX (fun a w => ∃ x6 : Int, ∃ x7 : Int, ∃ x8 : List Int, some ((x6, x7, x8)) = some o3 ∧ Fr 102 [] [(0, v1), (1, .int .u64 x6), (3, .bool x2), (4, .bool p4), (10, .slice none 0 0), (11, .string (bs ([] : List UInt8))), (12, .pointer (some ⟨b1, 0, none⟩)), (13, .int .i64 x7)] a ∧ Stw ⟨Y, [], w0⟩ [] [row (Value.slice (some ⟨b1, 0, none⟩) 65 65) 116 (Rp.int .u8) x8] w) ?_ ?_
   ·
    have H := G3
    clear G3 K3
    refine AF ?_
    refine CA H (fun s a w => Fr 102 [] [(0, v1), (1, .int .u64 s.1), (3, .bool x2), (4, .bool p4), (10, .slice none 0 0), (11, .string (bs ([] : List UInt8))), (12, .pointer (some ⟨b1, 0, none⟩)), (13, .int .i64 s.2.1), (14, .int .u64 (IntKind.u64.wrap x5)), (15, .int .u64 (IntKind.u64.wrap p2)), (16, .int .u64 (IntKind.u64.wrap ((IntKind.u64.wrap p2) - 1)))] a ∧ Stw ⟨Y, [], w0⟩ [] [row (Value.slice (some ⟨b1, 0, none⟩) 65 65) 116 (Rp.int .u8) s.2.2] w) ⟨F.re ⟨rfl, Aa, Aa, Aa, Aa, Aa, Aa, Aa, Aa, Aa, Aa, trivial⟩, W⟩ fun s o a w H L4 hR => ?_
    obtain ⟨x9, x10, x11⟩ := s
    obtain ⟨F, W⟩ := hR
    have F : Fr 102 [] [(0, v1), (1, .int .u64 x9), (3, .bool x2), (4, .bool p4), (10, .slice none 0 0), (11, .string (bs ([] : List UInt8))), (12, .pointer (some ⟨b1, 0, none⟩)), (13, .int .i64 x10), (14, .int .u64 (IntKind.u64.wrap x5)), (15, .int .u64 (IntKind.u64.wrap p2)), (16, .int .u64 (IntKind.u64.wrap ((IntKind.u64.wrap p2) - 1)))] a := F
    have W : Stw ⟨Y, [], w0⟩ [] [row (Value.slice (some ⟨b1, 0, none⟩) 65 65) 116 (Rp.int .u8) x11] w := W
    rw [Az] at H
    refine Aj (Aj (Ac ?_))
    iterate 2 refine ls F W Aa (Ae F Aa).q fun a w F W => ?_
    refine ls F W Aa (Gr F Aa Aa).q fun a w F W => ?_
    refine Af (Ad ?_)
    refine AA F Aa (fun hb => ?_) fun hb => ?_
    ·
     have H := AZ (BQ hb) H
     rw [hb] at F
     clear hb
     refine Ax (Ad (AF (Aj (Ac ?_))))
     refine ls F W Aa (Ae F Aa).q fun a w F W => ?_
     refine ls F W Aa (Ff F Aa Aa Aa).q fun a w F W => ?_
     refine ls F W Aa (Ag F Aa).q fun a w F W => ?_
     refine Af (Ad (Aj (Ac ?_)))
     iterate 3 refine ls F W Aa (Ae F Aa).q fun a w F W => ?_
     refine ls F W Aa (Mt F Aa Aa).q fun a w F W => ?_
     obtain ⟨x12, h2, H⟩ := An H
     refine ls F W Aa (BP (l := ([48, 49, 50, 51, 52, 53, 54, 55, 56, 57, 97, 98, 99, 100, 101, 102, 103, 104, 105, 106, 107, 108, 109, 110, 111, 112, 113, 114, 115, 116, 117, 118, 119, 120, 121, 122] : List UInt8)) Fk F Aa Aa h2).q fun a w F W => ?_
     obtain ⟨x13, h3, H⟩ := An H
     refine ls F W Aa (FA (0 + (CL (x10 - 1)).toNat * 1) HY F Aa Aa (CK h3).1 (CK h3).2 Aa).q fun a w F W => ?_
     refine EM (i := CL (x10 - 1)) (j := 0) (vs := [.int .u8 (x12.toNat : Int)]) (x' := (x12.toNat : Int)) F W Aa Aa Aa (k := 0) Aa Aa (CK h3).2 T5 Aa Aa Aa Aa (fun A cs _ => Fl.int.sto (by rfl) _ _ _) fun w W => ?_
     refine Af (Ad (Ac ?_))
     iterate 2 refine ls F W Aa (Ae F Aa).q fun a w F W => ?_
     obtain ⟨x14, h4, H⟩ := An H
     refine ls F W Aa (Mf (Gi h4).2 (MZ F Aa Aa (Gi h4).1)).q fun a w F W => ?_
     refine ls F W Aa (Ag F Aa).q fun a w F W => ?_
     refine Af (Bk (Ad ?_))
     exact ⟨_, H, F.re ⟨rfl, Aa, Aa, Aa, Aa, Aa, Aa, Aa, Aa, Aa, Aa, trivial⟩, W⟩
    have H := AY (BR hb) H
    rw [hb] at F
    clear hb
    refine Ci ?_
    iterate 2 refine CM ?_
    refine Cj (Ad ?_)
    have H := L4 _ H
    exact ⟨_, _, _, H, F.re ⟨rfl, Aa, Aa, Aa, Aa, Aa, Aa, Aa, trivial⟩, W⟩
   rintro a w ⟨x6, x7, x8, hj, F, W⟩
   have hj := A2 hj
   subst hj
   have H := K3
   clear G3 K3
   refine Aj (Ac ?_)
   refine ls F W Aa (Ae F Aa).q fun a w F W => ?_
   refine ls F W Aa (Ff F Aa Aa Aa).q fun a w F W => ?_
   refine ls F W Aa (Ag F Aa).q fun a w F W => ?_
   refine Af (Ad (Ac ?_))
   iterate 2 refine ls F W Aa (Ae F Aa).q fun a w F W => ?_
   obtain ⟨x15, h5, H⟩ := An H
   refine ls F W Aa (BP (l := ([48, 49, 50, 51, 52, 53, 54, 55, 56, 57, 97, 98, 99, 100, 101, 102, 103, 104, 105, 106, 107, 108, 109, 110, 111, 112, 113, 114, 115, 116, 117, 118, 119, 120, 121, 122] : List UInt8)) Fk F Aa Aa h5).q fun a w F W => ?_
   obtain ⟨x16, h6, H⟩ := An H
   refine ls F W Aa (FA (0 + (CL (x7 - 1)).toNat * 1) HY F Aa Aa (CK h6).1 (CK h6).2 Aa).q fun a w F W => ?_
   refine EM (i := CL (x7 - 1)) (j := 0) (vs := [.int .u8 (x15.toNat : Int)]) (x' := (x15.toNat : Int)) F W Aa Aa Aa (k := 0) Aa Aa (CK h6).2 T5 Aa Aa Aa Aa (fun A cs _ => Fl.int.sto (by rfl) _ _ _) fun w W => ?_
   refine Af (Ad ?_)
   exact ⟨_, _, H, F.re ⟨rfl, Aa, Aa, Aa, Aa, Aa, Aa, trivial⟩, W⟩
  have H := AY (by rw [hb]; decide) H
  rw [hb] at F
  clear hb
  refine Aj (Ac ?_)
  refine ls F W Aa (Ae F Aa).q fun a w F W => ?_
  refine ls F W Aa (DX Jc KJ F Aa).q fun a w F W => ?_
  refine ls F W Aa (Ag F Aa).q fun a w F W => ?_
  refine Af (Ad ?_)
  obtain ⟨o5, G5, K5⟩ := An H
  refine AX (fun a w => ∃ x17 : Int, ∃ x18 : Int, ∃ x19 : List Int, some ((x17, x18, x19)) = some o5 ∧ Fr 102 [] [(0, v1), (1, .int .u64 x17), (3, .bool x2), (4, .bool p4), (10, .slice none 0 0), (11, .string (bs ([] : List UInt8))), (12, .pointer (some ⟨b1, 0, none⟩)), (13, .int .i64 x18)] a ∧ Stw ⟨Y, [], w0⟩ [] [row (Value.slice (some ⟨b1, 0, none⟩) 65 65) 116 (Rp.int .u8) x19] w) ?_ ?_
  ·
   have H := G5
   clear G5 K5
   refine AF ?_
   refine CA H (fun s a w => Fr 102 [] [(0, v1), (1, .int .u64 s.1), (3, .bool x2), (4, .bool p4), (10, .slice none 0 0), (11, .string (bs ([] : List UInt8))), (12, .pointer (some ⟨b1, 0, none⟩)), (13, .int .i64 s.2.1), (17, .int .u64 (IntKind.u64.wrap p2))] a ∧ Stw ⟨Y, [], w0⟩ [] [row (Value.slice (some ⟨b1, 0, none⟩) 65 65) 116 (Rp.int .u8) s.2.2] w) ⟨F.re ⟨rfl, Aa, Aa, Aa, Aa, Aa, Aa, Aa, Aa, trivial⟩, W⟩ fun s o a w H L6 hR => ?_
   obtain ⟨x20, x21, x22⟩ := s
   obtain ⟨F, W⟩ := hR
   have F : Fr 102 [] [(0, v1), (1, .int .u64 x20), (3, .bool x2), (4, .bool p4), (10, .slice none 0 0), (11, .string (bs ([] : List UInt8))), (12, .pointer (some ⟨b1, 0, none⟩)), (13, .int .i64 x21), (17, .int .u64 (IntKind.u64.wrap p2))] a := F
   have W : Stw ⟨Y, [], w0⟩ [] [row (Value.slice (some ⟨b1, 0, none⟩) 65 65) 116 (Rp.int .u8) x22] w := W
   rw [BO] at H
   refine Aj (Aj (Ac ?_))
   iterate 2 refine ls F W Aa (Ae F Aa).q fun a w F W => ?_
   refine ls F W Aa (Gr F Aa Aa).q fun a w F W => ?_
   refine Af (Ad ?_)
   refine AA F Aa (fun hb => ?_) fun hb => ?_
   ·
    have H := AZ (BQ hb) H
    rw [hb] at F
    clear hb
    refine Ax (Ad (AF (Aj (Ac ?_))))
    refine ls F W Aa (Ae F Aa).q fun a w F W => ?_
    refine ls F W Aa (Ff F Aa Aa Aa).q fun a w F W => ?_
    refine ls F W Aa (Ag F Aa).q fun a w F W => ?_
    refine Af (Ad (Aj (Ac ?_)))
    iterate 2 refine ls F W Aa (Ae F Aa).q fun a w F W => ?_
    obtain ⟨x23, h7, H⟩ := An H
    refine ls F W Aa (Mi F Aa Aa (Gh h7).1 (Gh h7).2).q fun a w F W => ?_
    refine ls F W Aa (Ag F Aa).q fun a w F W => ?_
    refine Af (Ad (Aj (Ac ?_)))
    iterate 4 refine ls F W Aa (Ae F Aa).q fun a w F W => ?_
    refine ls F W Aa (Mn F Aa Aa Aa).q fun a w F W => ?_
    refine ls F W Aa (Ff F Aa Aa Aa).q fun a w F W => ?_
    obtain ⟨x24, h8, H⟩ := An H
    refine ls F W Aa (BP (l := ([48, 49, 50, 51, 52, 53, 54, 55, 56, 57, 97, 98, 99, 100, 101, 102, 103, 104, 105, 106, 107, 108, 109, 110, 111, 112, 113, 114, 115, 116, 117, 118, 119, 120, 121, 122] : List UInt8)) Fk F Aa Aa h8).q fun a w F W => ?_
    obtain ⟨x25, h9, H⟩ := An H
    refine ls F W Aa (FA (0 + (CL (x21 - 1)).toNat * 1) HY F Aa Aa (CK h9).1 (CK h9).2 Aa).q fun a w F W => ?_
    refine EM (i := CL (x21 - 1)) (j := 0) (vs := [.int .u8 (x24.toNat : Int)]) (x' := (x24.toNat : Int)) F W Aa Aa Aa (k := 0) Aa Aa (CK h9).2 T5 Aa Aa Aa Aa (fun A cs _ => Fl.int.sto (by rfl) _ _ _) fun w W => ?_
    refine Af (Ad (Ac ?_))
    refine ls F W Aa (Ae F Aa).q fun a w F W => ?_
    refine ls F W Aa (Ag F Aa).q fun a w F W => ?_
    refine Af (Bk (Ad ?_))
    exact ⟨_, H, F.re ⟨rfl, Aa, Aa, Aa, Aa, Aa, Aa, Aa, Aa, trivial⟩, W⟩
   have H := AY (BR hb) H
   rw [hb] at F
   clear hb
   refine Ci ?_
   iterate 2 refine CM ?_
   refine Cj (Ad ?_)
   have H := L6 _ H
   exact ⟨_, _, _, H, F.re ⟨rfl, Aa, Aa, Aa, Aa, Aa, Aa, Aa, trivial⟩, W⟩
  rintro a w ⟨x17, x18, x19, hj, F, W⟩
  have hj := A2 hj
  subst hj
  have H := K5
  clear G5 K5
  refine Aj (Ac ?_)
  refine ls F W Aa (Ae F Aa).q fun a w F W => ?_
  refine ls F W Aa (Ff F Aa Aa Aa).q fun a w F W => ?_
  refine ls F W Aa (Ag F Aa).q fun a w F W => ?_
  refine Af (Ad (Ac ?_))
  iterate 2 refine ls F W Aa (Ae F Aa).q fun a w F W => ?_
  obtain ⟨x26, h10, H⟩ := An H
  refine ls F W Aa (BP (l := ([48, 49, 50, 51, 52, 53, 54, 55, 56, 57, 97, 98, 99, 100, 101, 102, 103, 104, 105, 106, 107, 108, 109, 110, 111, 112, 113, 114, 115, 116, 117, 118, 119, 120, 121, 122] : List UInt8)) Fk F Aa Aa h10).q fun a w F W => ?_
  obtain ⟨x27, h11, H⟩ := An H
  refine ls F W Aa (FA (0 + (CL (x18 - 1)).toNat * 1) HY F Aa Aa (CK h11).1 (CK h11).2 Aa).q fun a w F W => ?_
  refine EM (i := CL (x18 - 1)) (j := 0) (vs := [.int .u8 (x26.toNat : Int)]) (x' := (x26.toNat : Int)) F W Aa Aa Aa (k := 0) Aa Aa (CK h11).2 T5 Aa Aa Aa Aa (fun A cs _ => Fl.int.sto (by rfl) _ _ _) fun w W => ?_
  refine Af (Ad ?_)
  exact ⟨_, _, H, F.re ⟨rfl, Aa, Aa, Aa, Aa, Aa, Aa, trivial⟩, W⟩
 rintro a w ⟨x3, x4, hj, F, W⟩
 have hj := A2 hj
 subst hj
 have H := K2
 clear G2 K2
 obtain ⟨o7, G7, K7⟩ := An H
 refine AX (fun a w => ∃ x28 : Int, ∃ x29 : List Int, some ((x28, x29)) = some o7 ∧ Fr 102 [] [(0, v1), (4, .bool p4), (10, .slice none 0 0), (11, .string (bs ([] : List UInt8))), (12, .pointer (some ⟨b1, 0, none⟩)), (13, .int .i64 x28)] a ∧ Stw ⟨Y, [], w0⟩ [] [row (Value.slice (some ⟨b1, 0, none⟩) 65 65) 116 (Rp.int .u8) x29] w) ?_ ?_
 ·
  have H := G7
  clear G7 K7
  refine Aj (Ac ?_)
  refine ls F W Aa (Ae F Aa).q fun a w F W => ?_
  refine Af (Ad ?_)
  refine AA F Aa (fun hb => ?_) fun hb => ?_
  ·
   have H := AZ hb H
   rw [hb] at F
   clear hb
   refine Aj (Ac ?_)
   refine ls F W Aa (Ae F Aa).q fun a w F W => ?_
   refine ls F W Aa (Ff F Aa Aa Aa).q fun a w F W => ?_
   refine ls F W Aa (Ag F Aa).q fun a w F W => ?_
   refine Af (Ad (Ac ?_))
   refine ls F W Aa (Ae F Aa).q fun a w F W => ?_
   obtain ⟨x30, h12, H⟩ := An H
   refine ls F W Aa (FA (0 + (CL (x3 - 1)).toNat * 1) HY F Aa Aa (CK h12).1 (CK h12).2 Aa).q fun a w F W => ?_
   refine EM (i := CL (x3 - 1)) (j := 0) (vs := [.int .u8 45]) (x' := 45) F W Aa Aa Aa (k := 0) Aa Aa (CK h12).2 T5 Aa Aa Aa Aa (fun A cs _ => Fl.int.sto (by rfl) _ _ _) fun w W => ?_
   refine Af (Ad ?_)
   exact ⟨_, _, H, F.re ⟨rfl, Aa, Aa, Aa, Aa, Aa, trivial⟩, W⟩
  have H := AY (by rw [hb]; decide) H
  rw [hb] at F
  clear hb
  refine Ax (Ad ?_)
  exact ⟨_, _, H, F.re ⟨rfl, Aa, Aa, Aa, Aa, Aa, trivial⟩, W⟩
 rintro a w ⟨x28, x29, hj, F, W⟩
 have hj := A2 hj
 subst hj
 have H := K7
 clear G7 K7
 refine Aj (Aj (Ac ?_))
 refine ls F W Aa (Ae F Aa).q fun a w F W => ?_
 refine Af (Ad ?_)
 refine AA F Aa (fun hb => ?_) fun hb => ?_
 ·
  have H := AZ hb H
  rw [hb] at F
  clear hb
  exact nomatch H
 have H := AY (by rw [hb]; decide) H
 rw [hb] at F
 clear hb
 refine Ax (Ad (Aj (Ac ?_)))
 refine ls F W Aa (Ae F Aa).q fun a w F W => ?_
 obtain ⟨x31, h13, H⟩ := An H
 refine ls F W Aa (J3 HY F Aa Aa (DS (Gt h13).2).1 (DS (Gt h13).2).2.1).q fun a w F W => ?_
 refine ls F W Aa (LK (ns := x31) LT Nt Fk F Aa (Lz (AO 0 Aa) (Gt h13).2)).q fun a w F W => ?_
 refine ls F W Aa (Ag F Aa).q fun a w F W => ?_
 refine Af (Ad (A1 ?_))
 have H := A2 H
 subst H
 refine Fi (.inl Aa) F W Aa (AL F Aa) (AL F Aa) ?_
 have W := W.nilRow 5 (Rp.int .u8)
 have W := W.sub (M' := []) (Z' := [row (Value.slice none 0 0) 5 (Rp.int .u8) ([])]) (List.Sublist.refl _) (List.Sublist.cons_cons _ (List.nil_sublist _))
 exact ⟨(Value.slice none 0 0), Aa, W⟩
theorem Ol : Has Tryd.prog 59 := ⟨fun args w => Am Tryd.func59 rfl (by decide) args w⟩
noncomputable def Bq (p0 : Int) (p1 : Int) : Option (List UInt8) := (if p1 = 10 then none else (Br ([] : List Int) p0 p1 false false).bind fun x1 => some x1.2)
theorem DZ (Y : Nat → Prop) (w0 : World)  (p0 : Int) (p1 : Int) (r : List UInt8) (H : Bq p0 p1 = some r) (hG : Gk [] w0) :
    Calls Tryd.prog 45 #[.int .u64 p0, .int .i64 p1] w0 fun e w' => e = .returned (.string (bs r)) ∧ Below w0.heap.size w0 w' := by
 refine enter Tryd.func45 Aa Tryd.ntmps45 Aa fun a F => ?_
 have W := Stw.start Y w0
 unfold Bq at H
 refine Aj (Ac ?_)
 refine ls F W Aa (Ag (v := Value.string (bs ([] : List UInt8))) F Aa).q fun a w F W => ?_
 refine Af (Ad (Aj (Aj (Ac ?_))))
 refine ls F W Aa (Ae F Aa).q fun a w F W => ?_
 refine ls F W Aa (CC F Aa Aa).q fun a w F W => ?_
 refine Af (Ad ?_)
 refine AA F Aa (fun hb => ?_) fun hb => ?_
 ·
  have H := AZ (BQ hb) H
  rw [hb] at F
  clear hb
  exact nomatch H
 have H := AY (BR hb) H
 rw [hb] at F
 clear hb
 refine Ax (Ad (Aj (Ac ?_)))
 iterate 2 refine ls F W Aa (Ae F Aa).q fun a w F W => ?_
 obtain ⟨x1, h1, H⟩ := An H
 refine AE (Ml := []) (Zl := []) (M := []) (Z := []) (β := Value) (rv := fun x => .tuple #[x, .string (bs x1.2)]) (MM := fun x => []) (ZZ := fun x => [row x 5 (Rp.int .u8) x1.1]) F W Ol Aa Aa (fun hL => D2 _ w (Value.slice none 0 0) ([] : List Int) p0 p1 false false _ h1 Sl.nil (hG.go0 W)) fun x a w F W => ?_
 obtain ⟨v1, rfl⟩ : ∃ y, y = x := ⟨x, rfl⟩
 have W : Stw ⟨Y, [], w0⟩ [] [row v1 5 (Rp.int .u8) x1.1] w := W
 refine ls F W Aa (Ae F Aa).q fun a w F W => ?_
 refine ls F W Aa (AP (v := v1) F Aa Aa).q fun a w F W => ?_
 refine ls F W Aa (AP (v := Value.string (bs x1.2)) F Aa Aa).q fun a w F W => ?_
 iterate 2 refine ls F W Aa (Ag F Aa).q fun a w F W => ?_
 refine Af (Ad (Aj (Ac ?_)))
 refine ls F W Aa (Ae F Aa).q fun a w F W => ?_
 refine ls F W Aa (Ag F Aa).q fun a w F W => ?_
 refine Af (Ad (A1 ?_))
 have H := A2 H
 subst H
 refine Ck (.inl Aa) F W Aa (AL F Aa) ?_
 exact ⟨rfl, W.done⟩
theorem Oe : Has Tryd.prog 45 := ⟨fun args w => Am Tryd.func45 rfl (by decide) args w⟩
noncomputable def BI (p0 : Int) (p1 : Int) : Option (List UInt8) := (Bq p0 p1).bind fun x1 => some x1
theorem Fu (Y : Nat → Prop) (w0 : World)  (p0 : Int) (p1 : Int) (r : List UInt8) (H : BI p0 p1 = some r) (hG : Gk [] w0) :
    Calls Tryd.prog 34 #[.int .u64 p0, .int .i64 p1] w0 fun e w' => e = .returned (.string (bs r)) ∧ Below w0.heap.size w0 w' := by
 refine enter Tryd.func34 Aa Tryd.ntmps34 Aa fun a F => ?_
 have W := Stw.start Y w0
 unfold BI at H
 refine Aj (Ac ?_)
 refine ls F W Aa (Ag (v := Value.string (bs ([] : List UInt8))) F Aa).q fun a w F W => ?_
 refine Af (Ad (Aj (Ac ?_)))
 iterate 2 refine ls F W Aa (Ae F Aa).q fun a w F W => ?_
 obtain ⟨x1, h1, H⟩ := An H
 refine ls F W Aa (Ba (v := Value.string (bs x1)) F Oe Aa (fun w W => DZ any w p0 p1 _ h1 (hG.go0 W))) fun a w F W => ?_
 refine ls F W Aa (Ag F Aa).q fun a w F W => ?_
 refine Af (Ad (A1 ?_))
 have H := A2 H
 subst H
 refine Ck (.inl Aa) F W Aa (AL F Aa) ?_
 exact ⟨rfl, W.done⟩
theorem Ot : Has Tryd.prog 34 := ⟨fun args w => Am Tryd.func34 rfl (by decide) args w⟩
theorem OI : Has Tryd.prog 35 := ⟨fun args w => Am Tryd.func35 rfl (by decide) args w⟩
noncomputable def Du (p0 : Int) : Option (List UInt8) := (BI p0 16).bind fun x1 => (FN ([48] : List UInt8) (CL (16 - (x1.length : Int)))).bind fun x2 => (DB x2 x1).bind fun x3 => some x3
theorem GJ (Y : Nat → Prop) (w0 : World)  (p0 : Int) (r : List UInt8) (H : Du p0 = some r) (hG : Gk [] w0) :
    Calls Tryd.prog 15 #[.int .u64 p0] w0 fun e w' => e = .returned (.string (bs r)) ∧ Below w0.heap.size w0 w' := by
 refine enter Tryd.func15 Aa Tryd.ntmps15 Aa fun a F => ?_
 have W := Stw.start Y w0
 unfold Du at H
 refine Aj (Ac ?_)
 refine ls F W Aa (Ag (v := Value.string (bs ([] : List UInt8))) F Aa).q fun a w F W => ?_
 refine Af (Ad (Aj (Ac ?_)))
 refine ls F W Aa (Ae F Aa).q fun a w F W => ?_
 obtain ⟨x1, h1, H⟩ := An H
 refine ls F W Aa (Ba (v := Value.string (bs x1)) F Ot Aa (fun w W => Fu any w p0 16 _ h1 (hG.go0 W))) fun a w F W => ?_
 refine ls F W Aa (Ag F Aa).q fun a w F W => ?_
 refine Af (Ad (Aj (Ac ?_)))
 refine ls F W Aa (Ae F Aa).q fun a w F W => ?_
 refine ls F W Aa (Fp (l := x1) Fk Aa F Aa).q fun a w F W => ?_
 refine ls F W Aa (Ff F Aa Aa Aa).q fun a w F W => ?_
 obtain ⟨x2, h2, H⟩ := An H
 refine ls F W Aa (Ba (v := Value.string (bs x2)) F OI Aa (fun w W => La any w ([48] : List UInt8) (CL (16 - (x1.length : Int))) _ h2 (hG.go0 W))) fun a w F W => ?_
 refine ls F W Aa (Ae F Aa).q fun a w F W => ?_
 obtain ⟨x3, h3, H⟩ := An H
 refine ls F W Aa (Jx (l := x2) (m := x1) F Aa Aa h3).q fun a w F W => ?_
 refine ls F W Aa (Ag F Aa).q fun a w F W => ?_
 refine Af (Ad (A1 ?_))
 have H := A2 H
 subst H
 refine Ck (.inl Aa) F W Aa (AL F Aa) ?_
 exact ⟨rfl, W.done⟩
end Go.Proofs.YthmkgdnnocemmaaDoor
