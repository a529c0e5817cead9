/- The functions of layer 35, EV. Conditions: none. -/
import Derived.Test.YtemacefkdopgaaaRows
import Derived.Test.YtemacefkdopgaaabOT
import Derived.Test.YtemacefkdopgaaabQT
import Derived.Test.YtemacefkdopgaaabOD
import Derived.Test.YtemacefkdopgaaabOC
import Derived.Test.YtemacefkdopgaaabOM
import Derived.Test.YtemacefkdopgaaabOX
namespace Go.Proofs.Ytemacefkdopgaaa
open Go Go.RowKit
set_option linter.unusedVariables false
set_option linter.unusedSimpArgs false
set_option maxRecDepth 20000
theorem GZ : type_of% Try.underlying22 := Try.underlying22
theorem Ix : type_of% Try.underlying23 := Try.underlying23
theorem C5 : type_of% Try.underlying25 := Try.underlying25
theorem Cz : type_of% Try.underlying59 := Try.underlying59
theorem Ji : type_of% Try.underlying75 := Try.underlying75
theorem Lp : type_of% Try.underlying81 := Try.underlying81
theorem Ib : type_of% Try.underlying84 := Try.underlying84
abbrev A6 : Rp (Int × Int × Int × Int × Int × Int) := (Rp.pair (Rp.int .i64) (Rp.pair (Rp.int .i64) (Rp.pair (Rp.int .i64) (Rp.pair (Rp.int .i64) (Rp.pair (Rp.int .i64) (Rp.int .i64))))))
abbrev Bg : Rp (Int × Int) := (Rp.pair (Rp.int .i64) (Rp.int .i64))
abbrev Lh : Rp (Int × Int × Int × Int) := (Rp.pair (Rp.int .i64) (Rp.pair (Rp.int .i64) (Rp.pair (Rp.int .i64) (Rp.int .i64))))
abbrev K0 : Rp (Int × Int × Int × Int × Int × Int × (Int × Int × Int × Int)) := (Rp.pair (Rp.int .i64) (Rp.pair (Rp.int .i64) (Rp.pair (Rp.int .i64) (Rp.pair (Rp.int .i64) (Rp.pair (Rp.int .i64) (Rp.pair (Rp.int .i64) Lh))))))
theorem Fn : Ty Try.prog 22 false 1 := ⟨by kernel_rfl, by kernel_rfl⟩
theorem He : Ty Try.prog 23 false 1 := ⟨by kernel_rfl, by kernel_rfl⟩
theorem MQ : Bt Try.prog 59 [.int .i64 0, .int .i64 0, .int .i64 0, .int .i64 0, .int .i64 0, .int .i64 0] [(0, 1), (1, 1), (2, 1), (3, 1), (4, 1), (5, 1)] := ⟨⟨.agg #[.int .i64 0, .int .i64 0, .int .i64 0, .int .i64 0, .int .i64 0, .int .i64 0], by kernel_rfl, rfl⟩, ⟨_, Cz, fun w => by kernel_rfl⟩⟩
theorem KD : (Try.prog.info? 59).bind (·.zero) = some (.agg #[.int .i64 0, .int .i64 0, .int .i64 0, .int .i64 0, .int .i64 0, .int .i64 0]) := by kernel_rfl
def MH (a : Int × Int × Int × Int × Int × Int) : List Value := [.int .i64 a.1, .int .i64 a.2.1, .int .i64 a.2.2.1, .int .i64 a.2.2.2.1, .int .i64 a.2.2.2.2.1, .int .i64 a.2.2.2.2.2]
theorem Jq : Fl A6 MH := (Fl.pair Fl.int (Fl.pair Fl.int (Fl.pair Fl.int (Fl.pair Fl.int (Fl.pair Fl.int Fl.int)))))
theorem Jo : Et Try.prog 22 59 6 48 := Et.of GZ (by kernel_rfl) (by kernel_rfl) (by kernel_rfl) (by decide)
theorem Mu : Bt Try.prog 25 [.int .i64 0, .slice none 0 0, .slice none 0 0] [(0, 1), (1, 1), (2, 1)] := ⟨⟨.agg #[.int .i64 0, .slice none 0 0, .slice none 0 0], by kernel_rfl, rfl⟩, ⟨_, C5, fun w => by kernel_rfl⟩⟩
theorem HT : Ty Try.prog 25 true 3 := ⟨by kernel_rfl, by kernel_rfl⟩
theorem T3 : Ty Try.prog 3 false 1 := ⟨by kernel_rfl, by kernel_rfl⟩
abbrev FS (x : Int × Int) : Value := .agg #[.int .i64 x.1, .int .i64 x.2]
abbrev Gc (x : Unit) : Value := .agg #[]
theorem I1 : Ty Try.prog 59 true 6 := ⟨by kernel_rfl, by kernel_rfl⟩
theorem La : Bt Try.prog 84 [.int .i64 0, .int .i64 0] [(0, 1), (1, 1)] := ⟨⟨.agg #[.int .i64 0, .int .i64 0], by kernel_rfl, rfl⟩, ⟨_, Ib, fun w => by kernel_rfl⟩⟩
theorem LD : (Try.prog.info? 84).bind (·.zero) = some (.agg #[.int .i64 0, .int .i64 0]) := by kernel_rfl
abbrev F6 : Rp (Int × Int) := (Rp.pair (Rp.int .i64) (Rp.int .i64))
def M5 (a : Int × Int) : List Value := [.int .i64 a.1, .int .i64 a.2]
theorem LN : Fl F6 M5 := (Fl.pair Fl.int Fl.int)
theorem Lt : Et Try.prog 81 84 2 16 := Et.of Lp (by kernel_rfl) (by kernel_rfl) (by kernel_rfl) (by decide)
theorem Lu : Et Try.prog 23 75 2 16 := Et.of Ix (by kernel_rfl) (by kernel_rfl) (by kernel_rfl) (by decide)
def M4 (a : Int × Int) : List Value := [.int .i64 a.1, .int .i64 a.2]
theorem Ll : Fl Bg M4 := (Fl.pair Fl.int Fl.int)
theorem Mg : Ty Try.prog 75 true 2 := ⟨by kernel_rfl, by kernel_rfl⟩
theorem MK : (Try.prog.info? 75).bind (·.zero) = some (.agg #[.int .i64 0, .int .i64 0]) := by kernel_rfl
abbrev I5  : List Value := [.int .i64 0, .int .i64 0, .int .i64 0, .int .i64 0, .int .i64 0, .int .i64 0]
abbrev GQ (a0 : Int × Int × Int × Int × Int × Int) : List Value := [.int .i64 a0.1, .int .i64 a0.2.1, .int .i64 a0.2.2.1, .int .i64 a0.2.2.2.1, .int .i64 a0.2.2.2.2.1, .int .i64 a0.2.2.2.2.2]
abbrev GY (a0 : Nat) (a1 : Int × Int × Int × Int × Int × Int) (a2 : Nat) (a3 : Int × (List (Int × Int × Int × Int × Int × Int)) × (List (Int × Int))) (a4 : Value) (a5 : Value) : List (Nat × List Value) := [(a0, [.int .i64 a1.1, .int .i64 a1.2.1, .int .i64 a1.2.2.1, .int .i64 a1.2.2.2.1, .int .i64 a1.2.2.2.2.1, .int .i64 a1.2.2.2.2.2]), (a2, [.int .i64 a3.1, a4, a5])]
noncomputable def Cp (p0 : Int × (List (Int × Int × Int × Int × Int × Int)) × (List (Int × Int))) : ((List (Int × Int)) × Int) → Option (((List (Int × Int)) × Int) ⊕ (List (Int × Int)))
  | (x2, x3) => (if x3 < (p0.2.1.length : Int) then (ix p0.2.1 x3).bind fun x4 => (app x2 ([(x4.1, x4.2.1), (x4.2.2.1, x4.2.2.2.1)] : List (Int × Int))).bind fun x5 => some (.inl (x5, AD (x3 + 1))) else some (.inr x2))
noncomputable def Co (p0 : Int × (List (Int × Int × Int × Int × Int × Int)) × (List (Int × Int))) : ((List (Int × Int)) × Int) → Option (((List (Int × Int)) × Int) ⊕ (List (Int × Int)))
  | (x7, x8) => (if x8 < (p0.2.2.length : Int) then (ix p0.2.2 x8).bind fun x9 => (app x7 ([x9] : List (Int × Int))).bind fun x10 => some (.inl (x10, AD (x8 + 1))) else some (.inr x7))
noncomputable def C3 (p0 : Int × (List (Int × Int × Int × Int × Int × Int)) × (List (Int × Int))) : Option (List (Int × Int)) := (AU (Cp p0) ([], 0)).bind fun x1 => (AU (Co p0) (x1, 0)).bind fun x6 => some x6
theorem Hi (Y : Nat → Prop) (w0 : World) (v1 : Value) (v2 : Value) (p0 : Int × (List (Int × Int × Int × Int × Int × Int)) × (List (Int × Int))) (r : (List (Int × Int))) (H : C3 p0 = some r) (h_v1 : Sl w0 (NX []) A6 v1 p0.2.1) (h_v2 : Sl w0 (NX []) Bg v2 p0.2.2) :
    Calls Try.prog 35 #[.agg #[.int .i64 p0.1, v1, v2]] w0 fun e w' => ∃ x : Value, e = .returned (x) ∧ Stw ⟨Y, [], w0⟩ [] [row (x) 84 F6 r] w' := by
 refine enter Try.func35 Aa Try.ntmps35 Aa fun a F => ?_
 have W := Stw.start Y w0
 unfold C3 at H
 refine Ai (Ab ?_)
 refine Dv (cs := [.int .i64 p0.1, v1, v2]) F W Aa Aa Aa fun b1 a w F W => ?_
 refine ls F W Aa (Af F Aa).q fun a w F W => ?_
 refine Ae (Ac (Ai (Ab ?_)))
 refine ls F W Aa (Af F Aa).q fun a w F W => ?_
 refine Ae (Ac ?_)
 obtain ⟨o1, G1, K1⟩ := An H
 refine AN (fun a w => ∃ x1 : List (Int × Int), ∃ v3 : Value, some (x1) = some o1 ∧ Fr 46 [] [(1, .pointer (some ⟨b1, 0, none⟩)), (2, .slice none 0 0), (3, v3)] a ∧ Stw ⟨Y, [], w0⟩ [(b1, [.int .i64 p0.1, v1, v2])] [row v3 84 F6 x1] w) ?_ ?_
 ·
  have H := G1
  clear G1 K1
  refine Ai (Ab ?_)
  refine ls F W Aa (Ag C5 Aa Aa Aa Fn F Aa 1 Aa).q fun a w F W => ?_
  refine ls F W Aa (Al (v := v1) 0 F Aa Aa Fn Aa).q fun a w F W => ?_
  refine ls F W Aa (Cg (r := A6) (l := p0.2.1) GZ Aa F Aa (Av h_v1)).q fun a w F W => ?_
  refine ls F W Aa (Ad F Aa).q fun a w F W => ?_
  refine Ae (Ac (Ax ?_))
  have W := W.nilRow 84 F6
  refine BA H (fun s a w => ∃ v4 : Value, Fr 46 [] [(1, .pointer (some ⟨b1, 0, none⟩)), (2, .slice none 0 0), (3, v4), (9, v1), (10, .int .i64 (p0.2.1.length : Int)), (11, .int .i64 s.2)] a ∧ Stw ⟨Y, [], w0⟩ [(b1, [.int .i64 p0.1, v1, v2])] [row v4 84 F6 s.1] w) ⟨(Value.slice none 0 0), F.re ⟨rfl, Aa, Aa, Aa, Aa, Aa, trivial⟩, W⟩ fun s o a w H L2 hR => ?_
  obtain ⟨x2, x3⟩ := s
  obtain ⟨v4, F, W⟩ := hR
  have F : Fr 46 [] [(1, .pointer (some ⟨b1, 0, none⟩)), (2, .slice none 0 0), (3, v4), (9, v1), (10, .int .i64 (p0.2.1.length : Int)), (11, .int .i64 x3)] a := F
  have W : Stw ⟨Y, [], w0⟩ [(b1, [.int .i64 p0.1, v1, v2])] [row v4 84 F6 x2] w := W
  rw [Cp] at H
  refine Ai (Ab ?_)
  refine ls F W Aa (BD F Aa Aa).q fun a w F W => ?_
  refine Ae (Ac (Ai ?_))
  refine Ay F Aa (fun hb => ?_) fun hb => ?_
  ·
   have H := A8 (BI hb) H
   rw [hb] at F
   clear hb
   refine Ap (Ac (Ai (Ax (Ai (Ab ?_)))))
   obtain ⟨x4, h1, H⟩ := An H
   refine ls F W Aa (Be (r := A6) Jo F Aa Aa (Av h_v1) h1).q fun a w F W => ?_
   refine ls F W Aa (AE (y := Value.agg #[.int .i64 x4.1, .int .i64 x4.2.1, .int .i64 x4.2.2.1, .int .i64 x4.2.2.2.1, .int .i64 x4.2.2.2.2.1, .int .i64 x4.2.2.2.2.2]) (j := 0) (i := x3) F Aa Aa (Av h_v1) h1 Jq.to I1 Aa).q fun a w F W => ?_
   refine Bx (cs := (I5)) F W Aa KD Aa fun b2 a w F W => ?_
   refine Ba (vs := (GQ x4)) (M' := (GY b2 x4 b1 p0 v1 v2)) 0 F W Aa Aa Aa I1 Aa Aa Aa Aa Aa fun w W => ?_
   refine Ae (Ac (Ab ?_))
   refine ls F W Aa (Ad F Aa).q fun a w F W => ?_
   refine ls F W Aa (Ag Cz Aa Aa Aa T3 F Aa 0 Aa).q fun a w F W => ?_
   refine ls F W Aa (Al (v := Value.int .i64 x4.1) 0 F Aa Aa T3 Aa).q fun a w F W => ?_
   refine ls F W Aa (Ag Cz Aa Aa Aa T3 F Aa 1 Aa).q fun a w F W => ?_
   refine ls F W Aa (Al (v := Value.int .i64 x4.2.1) 0 F Aa Aa T3 Aa).q fun a w F W => ?_
   refine ls F W Aa (Cr (v := Value.agg #[.int .i64 x4.1, .int .i64 x4.2.1]) La F Aa Aa Aa).q fun a w F W => ?_
   refine ls F W Aa (Ag Cz Aa Aa Aa T3 F Aa 2 Aa).q fun a w F W => ?_
   refine ls F W Aa (Al (v := Value.int .i64 x4.2.2.1) 0 F Aa Aa T3 Aa).q fun a w F W => ?_
   refine ls F W Aa (Ag Cz Aa Aa Aa T3 F Aa 3 Aa).q fun a w F W => ?_
   refine ls F W Aa (Al (v := Value.int .i64 x4.2.2.2.1) 0 F Aa Aa T3 Aa).q fun a w F W => ?_
   refine ls F W Aa (Cr (v := Value.agg #[.int .i64 x4.2.2.1, .int .i64 x4.2.2.2.1]) La F Aa Aa Aa).q fun a w F W => ?_
   refine Fy (z := Value.agg #[.int .i64 0, .int .i64 0]) (cs := [.int .i64 x4.1, .int .i64 x4.2.1, .int .i64 x4.2.2.1, .int .i64 x4.2.2.2.1]) F6 ([(x4.1, x4.2.1), (x4.2.2.1, x4.2.2.2.1)] : List (Int × Int)) F W Aa Lt LD Aa Aa Aa Aa Aa Aa (LN.repL _ _ ([(x4.1, x4.2.1), (x4.2.2.1, x4.2.2.2.1)] : List (Int × Int))) fun v5 a w F W => ?_
   obtain ⟨x5, h2, H⟩ := An H
   refine DO (r := F6) (i := 1) F W Aa Lt Aa Aa Aa Aa (Ef W 0 Aa) h2 Aa fun v6 a w F W => ?_
   have W : Stw ⟨Y, [], w0⟩ (GY b2 x4 b1 p0 v1 v2) [row v6 84 F6 x5, row v5 84 F6 ([(x4.1, x4.2.1), (x4.2.2.1, x4.2.2.2.1)] : List (Int × Int))] w := W
   refine ls F W Aa (Af F Aa).q fun a w F W => ?_
   refine Ae (AV (Ac (Ab ?_)))
   refine ls F W Aa (BN F Aa Aa Aa).q fun a w F W => ?_
   refine ls F W Aa (Ad F Aa).q fun a w F W => ?_
   refine Ae (Ac ?_)
   have W := W.frontM (i := 1) Aa Aa
   have W := W.sub (M' := [(b1, [.int .i64 p0.1, v1, v2])]) (Z' := [row v6 84 F6 x5]) (List.Sublist.cons_cons _ (List.nil_sublist _)) (List.Sublist.cons_cons _ (List.nil_sublist _))
   exact ⟨_, H, (v6), F.re ⟨rfl, Aa, Aa, Aa, Aa, Aa, trivial⟩, W⟩
  have H := A9 (BH hb) H
  rw [hb] at F
  clear hb
  refine Bz ?_
  iterate 2 refine B9 ?_
  refine BC (Ac ?_)
  have H := L2 _ H
  exact ⟨_, (v4), H, F.re ⟨rfl, Aa, Aa, trivial⟩, W⟩
 rintro a w ⟨x1, v3, hj, F, W⟩
 have hj := A3 hj
 subst hj
 have H := K1
 clear G1 K1
 obtain ⟨o3, G3, K3⟩ := An H
 refine AN (fun a w => ∃ x6 : List (Int × Int), ∃ v7 : Value, some (x6) = some o3 ∧ Fr 46 [] [(2, .slice none 0 0), (3, v7)] a ∧ Stw ⟨Y, [], w0⟩ [(b1, [.int .i64 p0.1, v1, v2])] [row v7 84 F6 x6] w) ?_ ?_
 ·
  have H := G3
  clear G3 K3
  refine Ai (Ab ?_)
  refine ls F W Aa (Ag C5 Aa Aa Aa He F Aa 2 Aa).q fun a w F W => ?_
  refine ls F W Aa (Al (v := v2) 0 F Aa Aa He Aa).q fun a w F W => ?_
  refine ls F W Aa (Cg (r := Bg) (l := p0.2.2) Ix Aa F Aa (Av h_v2)).q fun a w F W => ?_
  refine ls F W Aa (Ad F Aa).q fun a w F W => ?_
  refine Ae (Ac (Ax ?_))
  refine BA H (fun s a w => ∃ v8 : Value, Fr 46 [] [(2, .slice none 0 0), (3, v8), (30, v2), (31, .int .i64 (p0.2.2.length : Int)), (32, .int .i64 s.2)] a ∧ Stw ⟨Y, [], w0⟩ [(b1, [.int .i64 p0.1, v1, v2])] [row v8 84 F6 s.1] w) ⟨(v3), F.re ⟨rfl, Aa, Aa, Aa, Aa, trivial⟩, W⟩ fun s o a w H L4 hR => ?_
  obtain ⟨x7, x8⟩ := s
  obtain ⟨v8, F, W⟩ := hR
  have F : Fr 46 [] [(2, .slice none 0 0), (3, v8), (30, v2), (31, .int .i64 (p0.2.2.length : Int)), (32, .int .i64 x8)] a := F
  have W : Stw ⟨Y, [], w0⟩ [(b1, [.int .i64 p0.1, v1, v2])] [row v8 84 F6 x7] w := W
  rw [Co] at H
  refine Ai (Ab ?_)
  refine ls F W Aa (BD F Aa Aa).q fun a w F W => ?_
  refine Ae (Ac (Ai ?_))
  refine Ay F Aa (fun hb => ?_) fun hb => ?_
  ·
   have H := A8 (BI hb) H
   rw [hb] at F
   clear hb
   refine Ap (Ac (Ai (Ax (Ai (Ab ?_)))))
   obtain ⟨x9, h3, H⟩ := An H
   refine ls F W Aa (Be (r := Bg) Lu F Aa Aa (Av h_v2) h3).q fun a w F W => ?_
   refine ls F W Aa (AE (y := Value.agg #[.int .i64 x9.1, .int .i64 x9.2]) (j := 0) (i := x8) F Aa Aa (Av h_v2) h3 Ll.to Mg Aa).q fun a w F W => ?_
   refine Bx (cs := [.int .i64 0, .int .i64 0]) F W Aa MK Aa fun b3 a w F W => ?_
   refine Ba (vs := [.int .i64 x9.1, .int .i64 x9.2]) (M' := [(b3, [.int .i64 x9.1, .int .i64 x9.2]), (b1, [.int .i64 p0.1, v1, v2])]) 0 F W Aa Aa Aa Mg Aa Aa Aa Aa Aa fun w W => ?_
   refine Ae (Ac (Ab ?_))
   refine ls F W Aa (Ad F Aa).q fun a w F W => ?_
   refine ls F W Aa (Ag Ji Aa Aa Aa T3 F Aa 0 Aa).q fun a w F W => ?_
   refine ls F W Aa (Al (v := Value.int .i64 x9.1) 0 F Aa Aa T3 Aa).q fun a w F W => ?_
   refine ls F W Aa (Ag Ji Aa Aa Aa T3 F Aa 1 Aa).q fun a w F W => ?_
   refine ls F W Aa (Al (v := Value.int .i64 x9.2) 0 F Aa Aa T3 Aa).q fun a w F W => ?_
   refine ls F W Aa (Cr (v := Value.agg #[.int .i64 x9.1, .int .i64 x9.2]) La F Aa Aa Aa).q fun a w F W => ?_
   refine Fy (z := Value.agg #[.int .i64 0, .int .i64 0]) (cs := [.int .i64 x9.1, .int .i64 x9.2]) F6 ([x9] : List (Int × Int)) F W Aa Lt LD Aa Aa Aa Aa Aa Aa (LN.repL _ _ ([x9] : List (Int × Int))) fun v9 a w F W => ?_
   obtain ⟨x10, h4, H⟩ := An H
   refine DO (r := F6) (i := 1) F W Aa Lt Aa Aa Aa Aa (Ef W 0 Aa) h4 Aa fun v10 a w F W => ?_
   have W : Stw ⟨Y, [], w0⟩ [(b3, [.int .i64 x9.1, .int .i64 x9.2]), (b1, [.int .i64 p0.1, v1, v2])] [row v10 84 F6 x10, row v9 84 F6 ([x9] : List (Int × Int))] w := W
   refine ls F W Aa (Af F Aa).q fun a w F W => ?_
   refine Ae (AV (Ac (Ab ?_)))
   refine ls F W Aa (BN F Aa Aa Aa).q fun a w F W => ?_
   refine ls F W Aa (Ad F Aa).q fun a w F W => ?_
   refine Ae (Ac ?_)
   have W := W.frontM (i := 1) Aa Aa
   have W := W.sub (M' := [(b1, [.int .i64 p0.1, v1, v2])]) (Z' := [row v10 84 F6 x10]) (List.Sublist.cons_cons _ (List.nil_sublist _)) (List.Sublist.cons_cons _ (List.nil_sublist _))
   exact ⟨_, H, (v10), F.re ⟨rfl, Aa, Aa, Aa, Aa, trivial⟩, W⟩
  have H := A9 (BH hb) H
  rw [hb] at F
  clear hb
  refine Bz ?_
  iterate 2 refine B9 ?_
  refine BC (Ac ?_)
  have H := L4 _ H
  exact ⟨_, (v8), H, F.re ⟨rfl, Aa, trivial⟩, W⟩
 rintro a w ⟨x6, v7, hj, F, W⟩
 have hj := A3 hj
 subst hj
 have H := K3
 clear G3 K3
 refine Ai (Ab ?_)
 refine ls F W Aa (Ad F Aa).q fun a w F W => ?_
 refine ls F W Aa (Af F Aa).q fun a w F W => ?_
 refine Ae (Ac (AB ?_))
 have H := A3 H
 subst H
 refine Bh (.inl Aa) F W Aa (Aq F Aa) ?_
 have W := W.sub (M' := []) (Z' := [row v7 84 F6 x6]) (List.nil_sublist _) (List.Sublist.refl _)
 exact ⟨(v7), Aa, W⟩
theorem Jl : type_of% Try.underlying3 := Try.underlying3
theorem LL : type_of% Try.underlying85 := Try.underlying85
theorem M9 : Has Try.prog 35 := ⟨fun args w => Ak Try.func35 rfl (by decide) args w⟩
theorem KK : Ty Try.prog 84 true 2 := ⟨by kernel_rfl, by kernel_rfl⟩
theorem LH (dd : Nat) (x0 : Int) (x1 : Int) (y0 : Int) (y1 : Int) (w : World) : (Op.equalIn (dd + 2) 84 (.agg #[.int .i64 x0, .int .i64 x1]) (.agg #[.int .i64 y0, .int .i64 y1])).run Try.prog w = .ok (decide (x0 = y0 ∧ x1 = y1)) w :=
  Jj (d := dd + 1) (rs := [decide (x0 = y0), decide (x1 = y1)]) Ib (by kernel_rfl) ⟨rfl, IQ (d := dd + 0) rfl rfl Jl T3 rfl rfl, rfl, IQ (d := dd + 0) rfl rfl Jl T3 rfl rfl, trivial⟩ (by simp) w
theorem Mc : Try.prog.eqGuardType Try.prog.depth 84 = false := by kernel_rfl
theorem LM (x0 : Int) (x1 : Int) (y0 : Int) (y1 : Int) (w : World) : (Op.equalIn 10000 84 (.agg #[.int .i64 x0, .int .i64 x1]) (.agg #[.int .i64 y0, .int .i64 y1])).run Try.prog w = .ok (decide (x0 = y0 ∧ x1 = y1)) w := LH 9998 x0 x1 y0 y1 w
theorem Lr : KeyEnc Try.prog 84 FS := ⟨⟨_, Ib, .inl fun _ _ => rfl⟩, fun x y w => (LM x.1 x.2 y.1 y.2 w).trans (by congr 1; exact decide_eq_decide.2 (by simp only [Prod.ext_iff])), fun b x w => GE (m := 9999) (cs := List.toArray [.int .i64 x.1, .int .i64 x.2]) Ib ⟨⟨_, HX T3 rfl, FZ (m := 9998) Jl⟩, ⟨_, HX T3 rfl, FZ (m := 9998) Jl⟩, trivial⟩ b w, fun x => by simp [Instr.sameBits]⟩
theorem Mh : (Try.prog.info? 85).bind (·.zero) = some (.agg #[]) := by kernel_rfl
theorem Mr : Ty Try.prog 85 true 0 := ⟨by kernel_rfl, by kernel_rfl⟩
theorem Mt : Bt Try.prog 85 [] [] := ⟨⟨.agg #[], by kernel_rfl, rfl⟩, ⟨_, LL, fun w => by kernel_rfl⟩⟩
def Bo (p0 : Int × Int × Int × Int × Int × Int) : Bool := (decide (p0.1 = p0.2.2.1) || (decide (p0.2.2.2.2.1 < 1) || (decide (p0.2.2.2.2.2 < p0.2.2.2.2.1) || decide (1000 < p0.2.2.2.2.2))))
theorem Gd (Y : Nat → Prop) (w0 : World)  (p0 : Int × Int × Int × Int × Int × Int) (r : Bool) (H : Bo p0 = r)  :
    Calls Try.prog 37 #[.agg #[.int .i64 p0.1, .int .i64 p0.2.1, .int .i64 p0.2.2.1, .int .i64 p0.2.2.2.1, .int .i64 p0.2.2.2.2.1, .int .i64 p0.2.2.2.2.2]] w0 fun e w' => e = .returned (.bool r) ∧ Below w0.heap.size w0 w' := by
 refine enter Try.func37 Aa Try.ntmps37 Aa fun a F => ?_
 have W := Stw.start Y w0
 unfold Bo at H
 refine Ai (Ab ?_)
 refine Dv (cs := (GQ p0)) F W Aa Aa Aa fun b1 a w F W => ?_
 refine ls F W Aa (Af F Aa).q fun a w F W => ?_
 refine Ae (Ac ?_)
 refine AN (fun a w => Fr 25 [] [(2, .bool (decide (p0.1 = p0.2.2.1) || (decide (p0.2.2.2.2.1 < 1) || (decide (p0.2.2.2.2.2 < p0.2.2.2.2.1) || decide (1000 < p0.2.2.2.2.2)))))] a ∧ Stw ⟨Y, [], w0⟩ [(b1, [.int .i64 p0.1, .int .i64 p0.2.1, .int .i64 p0.2.2.1, .int .i64 p0.2.2.2.1, .int .i64 p0.2.2.2.2.1, .int .i64 p0.2.2.2.2.2])] [] w) ?_ ?_
 ·
  refine Ab ?_
  refine ls F W Aa (Ag Cz Aa Aa Aa T3 F Aa 0 Aa).q fun a w F W => ?_
  refine ls F W Aa (Al (v := Value.int .i64 p0.1) 0 F Aa Aa T3 Aa).q fun a w F W => ?_
  refine ls F W Aa (Ag Cz Aa Aa Aa T3 F Aa 2 Aa).q fun a w F W => ?_
  refine ls F W Aa (Al (v := Value.int .i64 p0.2.2.1) 0 F Aa Aa T3 Aa).q fun a w F W => ?_
  refine ls F W Aa (BQ F Aa Aa).q fun a w F W => ?_
  refine ls F W Aa (Ad F Aa).q fun a w F W => ?_
  rcases Bool.eq_false_or_eq_true (decide (p0.1 = p0.2.2.1)) with hb0 | hb0
  ·
   rw [hb0] at F
   iterate 3 refine BX F Aa Aa Aa Aa Aa Aa Aa fun a F => ?_
   refine ls F W Aa (Ao F Aa Aa Aa).q fun a w F W => ?_
   refine ls F W Aa (Ad F Aa).q fun a w F W => ?_
   iterate 5 refine BX F Aa Aa Aa Aa Aa Aa Aa fun a F => ?_
   refine ls F W Aa (Ao F Aa Aa Aa).q fun a w F W => ?_
   refine ls F W Aa (Ad F Aa).q fun a w F W => ?_
   iterate 3 refine BX F Aa Aa Aa Aa Aa Aa Aa fun a F => ?_
   refine ls F W Aa (Ao F Aa Aa Aa).q fun a w F W => ?_
   refine ls F W Aa (Af F Aa).q fun a w F W => ?_
   refine Ae (Ac ?_)
   exact ⟨F.re ⟨(DZ (by try rw [hb0]; all_goals simp only [DT])), trivial⟩, W⟩
  rw [hb0] at F
  refine Az F W (Ah F Aa Aa Aa Aa) Aa (Am Aa) (Ag Cz Aa Aa Aa T3 F Aa 4 Aa).q fun a w F W => ?_
  refine Az F W (Ah F Aa Aa Aa Aa) Aa (Am Aa) (Al (v := Value.int .i64 p0.2.2.2.2.1) 0 F Aa Aa T3 Aa).q fun a w F W => ?_
  refine Az F W (Ah F Aa Aa Aa Aa) Aa (Am Aa) (BD F Aa Aa).q fun a w F W => ?_
  refine ls F W Aa (Aj F Aa Aa Aa).q fun a w F W => ?_
  refine ls F W Aa (Ad F Aa).q fun a w F W => ?_
  rcases Bool.eq_false_or_eq_true (decide (p0.2.2.2.2.1 < 1)) with hb1 | hb1
  ·
   rw [hb1] at F
   iterate 5 refine BX F Aa Aa Aa Aa Aa Aa Aa fun a F => ?_
   refine ls F W Aa (Ao F Aa Aa Aa).q fun a w F W => ?_
   refine ls F W Aa (Ad F Aa).q fun a w F W => ?_
   iterate 3 refine BX F Aa Aa Aa Aa Aa Aa Aa fun a F => ?_
   refine ls F W Aa (Ao F Aa Aa Aa).q fun a w F W => ?_
   refine ls F W Aa (Af F Aa).q fun a w F W => ?_
   refine Ae (Ac ?_)
   exact ⟨F.re ⟨(DZ (by try rw [hb1]; try rw [hb0]; all_goals simp only [DT])), trivial⟩, W⟩
  rw [hb1] at F
  refine Az F W (Ah F Aa Aa Aa Aa) Aa (Am Aa) (Ag Cz Aa Aa Aa T3 F Aa 5 Aa).q fun a w F W => ?_
  refine Az F W (Ah F Aa Aa Aa Aa) Aa (Am Aa) (Al (v := Value.int .i64 p0.2.2.2.2.2) 0 F Aa Aa T3 Aa).q fun a w F W => ?_
  refine Az F W (Ah F Aa Aa Aa Aa) Aa (Am Aa) (Ag Cz Aa Aa Aa T3 F Aa 4 Aa).q fun a w F W => ?_
  refine Az F W (Ah F Aa Aa Aa Aa) Aa (Am Aa) (Al (v := Value.int .i64 p0.2.2.2.2.1) 0 F Aa Aa T3 Aa).q fun a w F W => ?_
  refine Az F W (Ah F Aa Aa Aa Aa) Aa (Am Aa) (BD F Aa Aa).q fun a w F W => ?_
  refine ls F W Aa (Aj F Aa Aa Aa).q fun a w F W => ?_
  refine ls F W Aa (Ad F Aa).q fun a w F W => ?_
  rcases Bool.eq_false_or_eq_true (decide (p0.2.2.2.2.2 < p0.2.2.2.2.1)) with hb2 | hb2
  ·
   rw [hb2] at F
   iterate 3 refine BX F Aa Aa Aa Aa Aa Aa Aa fun a F => ?_
   refine ls F W Aa (Ao F Aa Aa Aa).q fun a w F W => ?_
   refine ls F W Aa (Af F Aa).q fun a w F W => ?_
   refine Ae (Ac ?_)
   exact ⟨F.re ⟨(DZ (by try rw [hb2]; try rw [hb1]; try rw [hb0]; all_goals simp only [DT])), trivial⟩, W⟩
  rw [hb2] at F
  refine Az F W (Ah F Aa Aa Aa Aa) Aa (Am Aa) (Ag Cz Aa Aa Aa T3 F Aa 5 Aa).q fun a w F W => ?_
  refine Az F W (Ah F Aa Aa Aa Aa) Aa (Am Aa) (Al (v := Value.int .i64 p0.2.2.2.2.2) 0 F Aa Aa T3 Aa).q fun a w F W => ?_
  refine Az F W (Ah F Aa Aa Aa Aa) Aa (Am Aa) (DF F Aa Aa).q fun a w F W => ?_
  refine ls F W Aa (Aj F Aa Aa Aa).q fun a w F W => ?_
  refine ls F W Aa (Af F Aa).q fun a w F W => ?_
  refine Ae (Ac ?_)
  exact ⟨F.re ⟨(DZ (by try rw [hb2]; try rw [hb1]; try rw [hb0]; all_goals simp only [DT])), trivial⟩, W⟩
 rintro a w ⟨F, W⟩
 refine AB ?_
 subst H
 refine Bh (.inl Aa) F W Aa (Aq F Aa) ?_
 exact ⟨rfl, W.done⟩
theorem Ms : Has Try.prog 37 := ⟨fun args w => Ak Try.func37 rfl (by decide) args w⟩
noncomputable def Au (p0 : List (Int × Int × Int × Int × Int × Int)) : Int → Option (Int ⊕ (Unit ⊕ Int))
  | x1 => (if x1 < (p0.length : Int) then (ix p0 x1).bind fun x2 => (if (Bo x2) = true then some (.inr (.inr x1)) else some (.inl (AD (x1 + 1)))) else some (.inr (.inl ())))
noncomputable def A7 (p0 : List (Int × Int × Int × Int × Int × Int)) : Option Int := Hd (AU (Au p0) 0) fun _ => some (-1)
theorem Dg (Y : Nat → Prop) (w0 : World) (v1 : Value) (p0 : List (Int × Int × Int × Int × Int × Int)) (r : Int) (H : A7 p0 = some r) (h_v1 : Sl w0 (NX []) A6 v1 p0) :
    Calls Try.prog 41 #[v1, .func (.func 37) #[] #[]] w0 fun e w' => e = .returned (.int .i64 r) ∧ Below w0.heap.size w0 w' := by
 refine enter Try.func41 Aa Try.ntmps41 Aa fun a F => ?_
 have W := Stw.start Y w0
 unfold A7 at H
 refine Ai (Ab ?_)
 refine ls F W Aa (Af F Aa).q fun a w F W => ?_
 refine Ae (Ac ?_)
 obtain ⟨o1, G1, K1, L1⟩ := J2 H
 refine AN (fun a w => some (Sum.inl ()) = some o1 ∧ Fr 19 [] [(4, .int .i64 0)] a ∧ Stw ⟨Y, [], w0⟩ [] [] w) ?_ ?_
 ·
  have H := G1
  clear G1 K1
  refine Ai (Ab ?_)
  refine ls F W Aa (Ad F Aa).q fun a w F W => ?_
  refine ls F W Aa (Cg (r := A6) (l := p0) GZ Aa F Aa (Av h_v1)).q fun a w F W => ?_
  refine ls F W Aa (Ad F Aa).q fun a w F W => ?_
  refine Ae (Ac (Ax ?_))
  refine BA H (fun s a w => Fr 19 [] [(0, v1), (1, .func (.func 37) #[] #[]), (4, .int .i64 0), (7, .int .i64 (p0.length : Int)), (8, .int .i64 s)] a ∧ Stw ⟨Y, [], w0⟩ [] [] w) ⟨F.re ⟨rfl, Aa, Aa, Aa, Aa, trivial⟩, W⟩ fun s o a w H L2 hR => ?_
  obtain ⟨x1, rfl⟩ : ∃ x, x = s := ⟨s, rfl⟩
  obtain ⟨F, W⟩ := hR
  have F : Fr 19 [] [(0, v1), (1, .func (.func 37) #[] #[]), (4, .int .i64 0), (7, .int .i64 (p0.length : Int)), (8, .int .i64 x1)] a := F
  have W : Stw ⟨Y, [], w0⟩ [] [] w := W
  rw [Au] at H
  refine Ai (Ab ?_)
  refine ls F W Aa (BD F Aa Aa).q fun a w F W => ?_
  refine Ae (Ac (Ai ?_))
  refine Ay F Aa (fun hb => ?_) fun hb => ?_
  ·
   have H := A8 (BI hb) H
   rw [hb] at F
   clear hb
   refine Ap (Ac (Ai (Ax (Ai (Ab ?_)))))
   refine ls F W Aa (Ad F Aa).q fun a w F W => ?_
   refine ls F W Aa (Af F Aa).q fun a w F W => ?_
   refine Ae (Ac (Ai (Ab ?_)))
   iterate 3 refine ls F W Aa (Ad F Aa).q fun a w F W => ?_
   obtain ⟨x2, h1, H⟩ := An H
   refine ls F W Aa (Be (r := A6) Jo F Aa Aa (Av h_v1) h1).q fun a w F W => ?_
   refine ls F W Aa (AE (y := Value.agg #[.int .i64 x2.1, .int .i64 x2.2.1, .int .i64 x2.2.2.1, .int .i64 x2.2.2.2.1, .int .i64 x2.2.2.2.2.1, .int .i64 x2.2.2.2.2.2]) (j := 0) (i := x1) F Aa Aa (Av h_v1) h1 Jq.to I1 Aa).q fun a w F W => ?_
   refine ls F W Aa (Fu (ws := [.agg #[.int .i64 x2.1, .int .i64 x2.2.1, .int .i64 x2.2.2.1, .int .i64 x2.2.2.2.1, .int .i64 x2.2.2.2.2.1, .int .i64 x2.2.2.2.2.2]]) (v := Value.bool (Bo x2)) F Ms Aa (fun w W => Gd any w x2 _ Aa)) fun a w F W => ?_
   refine Ae (Ac ?_)
   refine Ay F Aa (fun hb => ?_) fun hb => ?_
   ·
    have H := A8 hb H
    rw [hb] at F
    clear hb
    refine Ai (Ab ?_)
    refine ls F W Aa (Ad F Aa).q fun a w F W => ?_
    refine ls F W Aa (Af F Aa).q fun a w F W => ?_
    refine Ae (Ac (AB (BG ?_)))
    iterate 2 refine AQ ?_
    refine BG (AQ ?_)
    have H := L2 _ H
    have H := L1 _ H
    have H := A3 H
    subst H
    refine Bh (.inl Aa) F W Aa (Aq F Aa) ?_
    exact ⟨rfl, W.done⟩
   have H := A9 (by rw [hb]; decide) H
   rw [hb] at F
   clear hb
   refine Ap (AV (Ac (Ab ?_)))
   refine ls F W Aa (BN F Aa Aa Aa).q fun a w F W => ?_
   refine ls F W Aa (Ad F Aa).q fun a w F W => ?_
   refine Ae (Ac ?_)
   exact ⟨_, H, F.re ⟨rfl, Aa, Aa, Aa, Aa, trivial⟩, W⟩
  have H := A9 (BH hb) H
  rw [hb] at F
  clear hb
  refine Bz ?_
  iterate 2 refine B9 ?_
  refine BC (Ac ?_)
  have H := L2 _ H
  exact ⟨H, F.re ⟨rfl, trivial⟩, W⟩
 rintro a w ⟨hj, F, W⟩
 have H := K1 _ hj
 clear hj G1 K1 L1
 refine Ai (Ab ?_)
 refine ls F W Aa (Af F Aa).q fun a w F W => ?_
 refine Ae (Ac (AB ?_))
 have H := A3 H
 subst H
 refine Bh (.inl Aa) F W Aa (Aq F Aa) ?_
 exact ⟨rfl, W.done⟩
theorem MN : Has Try.prog 41 := ⟨fun args w => Ak Try.func41 rfl (by decide) args w⟩
noncomputable def AL (p0 : List (Int × Int × Int × Int × Int × Int)) : Option Bool := (A7 p0).bind fun x1 => some (decide (0 ≤ x1))
theorem CX (Y : Nat → Prop) (w0 : World) (v1 : Value) (p0 : List (Int × Int × Int × Int × Int × Int)) (r : Bool) (H : AL p0 = some r) (h_v1 : Sl w0 (NX []) A6 v1 p0) :
    Calls Try.prog 36 #[v1, .func (.func 37) #[] #[]] w0 fun e w' => e = .returned (.bool r) ∧ Below w0.heap.size w0 w' := by
 refine enter Try.func36 Aa Try.ntmps36 Aa fun a F => ?_
 have W := Stw.start Y w0
 unfold AL at H
 refine Ai (Ab ?_)
 refine ls F W Aa (Af F Aa).q fun a w F W => ?_
 refine Ae (Ac (Ai (Ab ?_)))
 iterate 2 refine ls F W Aa (Ad F Aa).q fun a w F W => ?_
 obtain ⟨x1, h1, H⟩ := An H
 refine ls F W Aa (Bv (v := Value.int .i64 x1) F MN Aa (fun w W => Dg any w (v1) p0 _ h1 (((Av h_v1) : CY _ _ _ _ _ _) w W).nx)) fun a w F W => ?_
 refine ls F W Aa (FC F Aa Aa).q fun a w F W => ?_
 refine ls F W Aa (Af F Aa).q fun a w F W => ?_
 refine Ae (Ac (AB ?_))
 have H := A3 H
 subst H
 refine Bh (.inl Aa) F W Aa (Aq F Aa) ?_
 exact ⟨rfl, W.done⟩
theorem Lz : type_of% Try.underlying80 := Try.underlying80
theorem MY : Has Try.prog 36 := ⟨fun args w => Ak Try.func36 rfl (by decide) args w⟩
noncomputable def BZ (p0 : Int × (List (Int × Int × Int × Int × Int × Int)) × (List (Int × Int))) (x2 : (List (Int × Int))) : (Int × (List ((Int × Int) × Unit))) → Option ((Int × (List ((Int × Int) × Unit))) ⊕ ((List ((Int × Int) × Unit)) ⊕ Bool))
  | (x3, x4) => (if x3 < (x2.length : Int) then (ix x2 x3).bind fun x5 => (if (decide (x5.1 < 0) || (decide (p0.1 ≤ x5.1) || (decide (x5.2 < 0) || decide (8 ≤ x5.2)))) = true then some (.inr (.inr false)) else (if ((Gi x4 x5).isSome) = true then some (.inr (.inr false)) else some (.inl (AD (x3 + 1), Gj x4 x5 ())))) else some (.inr (.inl x4)))
noncomputable def Du (p0 : Int × (List (Int × Int × Int × Int × Int × Int)) × (List (Int × Int))) : Option Bool := (if (decide (p0.1 < 1) || (decide (8 < p0.1) || (decide (24 < (p0.2.1.length : Int)) || decide (8 < (p0.2.2.length : Int))))) = true then some false else Hd ((C3 p0).bind fun x2 => AU (BZ p0 x2) (0, ([] : List ((Int × Int) × Unit)))) fun x1 => (AL p0.2.1).bind fun x6 => some (!x6))
theorem HP (Y : Nat → Prop) (w0 : World) (v1 : Value) (v2 : Value) (p0 : Int × (List (Int × Int × Int × Int × Int × Int)) × (List (Int × Int))) (r : Bool) (H : Du p0 = some r) (h_v1 : Sl w0 (NX []) A6 v1 p0.2.1) (h_v2 : Sl w0 (NX []) Bg v2 p0.2.2) :
    Calls Try.prog 20 #[.agg #[.int .i64 p0.1, v1, v2]] w0 fun e w' => e = .returned (.bool r) ∧ Below w0.heap.size w0 w' := by
 refine enter Try.func20 Aa Try.ntmps20 Aa fun a F => ?_
 have W := Stw.start Y w0
 unfold Du at H
 refine Ai (Ab ?_)
 refine Dv (cs := [.int .i64 p0.1, v1, v2]) F W Aa Aa Aa fun b1 a w F W => ?_
 refine ls F W Aa (Af F Aa).q fun a w F W => ?_
 refine Ae (Ac (Ai ?_))
 refine AN (fun a w => Fr 71 [] [(1, .pointer (some ⟨b1, 0, none⟩)), (2, .bool false), (27, .bool (decide (p0.1 < 1) || (decide (8 < p0.1) || (decide (24 < (p0.2.1.length : Int)) || decide (8 < (p0.2.2.length : Int))))))] a ∧ Stw ⟨Y, [], w0⟩ [(b1, [.int .i64 p0.1, v1, v2])] [] w) ?_ ?_
 ·
  refine Ab ?_
  refine ls F W Aa (Ag C5 Aa Aa Aa T3 F Aa 0 Aa).q fun a w F W => ?_
  refine ls F W Aa (Al (v := Value.int .i64 p0.1) 0 F Aa Aa T3 Aa).q fun a w F W => ?_
  refine ls F W Aa (BD F Aa Aa).q fun a w F W => ?_
  refine ls F W Aa (Ad F Aa).q fun a w F W => ?_
  rcases Bool.eq_false_or_eq_true (decide (p0.1 < 1)) with hb0 | hb0
  ·
   rw [hb0] at F
   iterate 3 refine BX F Aa Aa Aa Aa Aa Aa Aa fun a F => ?_
   refine ls F W Aa (Ao F Aa Aa Aa).q fun a w F W => ?_
   refine ls F W Aa (Ad F Aa).q fun a w F W => ?_
   iterate 4 refine BX F Aa Aa Aa Aa Aa Aa Aa fun a F => ?_
   refine ls F W Aa (Ao F Aa Aa Aa).q fun a w F W => ?_
   refine ls F W Aa (Ad F Aa).q fun a w F W => ?_
   iterate 4 refine BX F Aa Aa Aa Aa Aa Aa Aa fun a F => ?_
   refine ls F W Aa (Ao F Aa Aa Aa).q fun a w F W => ?_
   refine Ae (Ac ?_)
   exact ⟨F.re ⟨rfl, Aa, (DZ (by try rw [hb0]; all_goals simp only [DT])), trivial⟩, W⟩
  rw [hb0] at F
  refine Az F W (Ah F Aa Aa Aa Aa) Aa (Am Aa) (Ag C5 Aa Aa Aa T3 F Aa 0 Aa).q fun a w F W => ?_
  refine Az F W (Ah F Aa Aa Aa Aa) Aa (Am Aa) (Al (v := Value.int .i64 p0.1) 0 F Aa Aa T3 Aa).q fun a w F W => ?_
  refine Az F W (Ah F Aa Aa Aa Aa) Aa (Am Aa) (DF F Aa Aa).q fun a w F W => ?_
  refine ls F W Aa (Aj F Aa Aa Aa).q fun a w F W => ?_
  refine ls F W Aa (Ad F Aa).q fun a w F W => ?_
  rcases Bool.eq_false_or_eq_true (decide (8 < p0.1)) with hb1 | hb1
  ·
   rw [hb1] at F
   iterate 4 refine BX F Aa Aa Aa Aa Aa Aa Aa fun a F => ?_
   refine ls F W Aa (Ao F Aa Aa Aa).q fun a w F W => ?_
   refine ls F W Aa (Ad F Aa).q fun a w F W => ?_
   iterate 4 refine BX F Aa Aa Aa Aa Aa Aa Aa fun a F => ?_
   refine ls F W Aa (Ao F Aa Aa Aa).q fun a w F W => ?_
   refine Ae (Ac ?_)
   exact ⟨F.re ⟨rfl, Aa, (DZ (by try rw [hb0]; try rw [hb1]; all_goals simp only [DT])), trivial⟩, W⟩
  rw [hb1] at F
  refine Az F W (Ah F Aa Aa Aa Aa) Aa (Am Aa) (Ag C5 Aa Aa Aa Fn F Aa 1 Aa).q fun a w F W => ?_
  refine Az F W (Ah F Aa Aa Aa Aa) Aa (Am Aa) (Al (v := v1) 0 F Aa Aa Fn Aa).q fun a w F W => ?_
  refine Az F W (Ah F Aa Aa Aa Aa) Aa (Am Aa) (Cg (r := A6) (l := p0.2.1) GZ Aa F Aa (Av h_v1)).q fun a w F W => ?_
  refine Az F W (Ah F Aa Aa Aa Aa) Aa (Am Aa) (DF F Aa Aa).q fun a w F W => ?_
  refine ls F W Aa (Aj F Aa Aa Aa).q fun a w F W => ?_
  refine ls F W Aa (Ad F Aa).q fun a w F W => ?_
  rcases Bool.eq_false_or_eq_true (decide (24 < (p0.2.1.length : Int))) with hb2 | hb2
  ·
   rw [hb2] at F
   iterate 4 refine BX F Aa Aa Aa Aa Aa Aa Aa fun a F => ?_
   refine ls F W Aa (Ao F Aa Aa Aa).q fun a w F W => ?_
   refine Ae (Ac ?_)
   exact ⟨F.re ⟨rfl, Aa, (DZ (by try rw [hb2]; try rw [hb0]; try rw [hb1]; all_goals simp only [DT])), trivial⟩, W⟩
  rw [hb2] at F
  refine Az F W (Ah F Aa Aa Aa Aa) Aa (Am Aa) (Ag C5 Aa Aa Aa He F Aa 2 Aa).q fun a w F W => ?_
  refine Az F W (Ah F Aa Aa Aa Aa) Aa (Am Aa) (Al (v := v2) 0 F Aa Aa He Aa).q fun a w F W => ?_
  refine Az F W (Ah F Aa Aa Aa Aa) Aa (Am Aa) (Cg (r := Bg) (l := p0.2.2) Ix Aa F Aa (Av h_v2)).q fun a w F W => ?_
  refine Az F W (Ah F Aa Aa Aa Aa) Aa (Am Aa) (DF F Aa Aa).q fun a w F W => ?_
  refine ls F W Aa (Aj F Aa Aa Aa).q fun a w F W => ?_
  refine Ae (Ac ?_)
  exact ⟨F.re ⟨rfl, Aa, (DZ (by try rw [hb2]; try rw [hb0]; try rw [hb1]; all_goals simp only [DT])), trivial⟩, W⟩
 rintro a w ⟨F, W⟩
 refine Ay F Aa (fun hb => ?_) fun hb => ?_
 ·
  have H := A8 hb H
  rw [hb] at F
  clear hb
  refine Ai (Ab ?_)
  refine ls F W Aa (Af F Aa).q fun a w F W => ?_
  refine Ae (Ac (AB (AQ ?_)))
  have H := A3 H
  subst H
  refine Bh (.inl Aa) F W Aa (Aq F Aa) ?_
  exact ⟨rfl, W.done⟩
 have H := A9 (by rw [hb]; decide) H
 rw [hb] at F
 clear hb
 refine Ap (Ac (Ai (Ab ?_)))
 refine I4 FS Gc F W Aa fun b2 a w F W => ?_
 have W : Stw ⟨Y, [], w0⟩ [(b1, [.int .i64 p0.1, v1, v2])] [mp b2 FS Gc ([] : List ((Int × Int) × Unit))] w := W
 refine ls F W Aa (Af F Aa).q fun a w F W => ?_
 refine Ae (Ac ?_)
 obtain ⟨o1, G1, K1, L1⟩ := J2 H
 refine AN (fun a w => ∃ x1 : List ((Int × Int) × Unit), some (Sum.inl x1) = some o1 ∧ Fr 71 [] [(1, .pointer (some ⟨b1, 0, none⟩)), (2, .bool false)] a ∧ Stw ⟨Y, [], w0⟩ [(b1, [.int .i64 p0.1, v1, v2])] [mp b2 FS Gc x1] w) ?_ ?_
 ·
  have H := G1
  clear G1 K1
  refine Ai (Ab ?_)
  refine ls F W Aa (Al (v := Value.agg #[.int .i64 p0.1, v1, v2]) 0 F Aa Aa HT Aa).q fun a w F W => ?_
  obtain ⟨x2, h1, H⟩ := An H
  refine Bq (Ml := []) (Zl := []) (M := [(b1, [.int .i64 p0.1, v1, v2])]) (Z := [mp b2 FS Gc ([] : List ((Int × Int) × Unit))]) (β := Value) (rv := fun x => x) (MM := fun x => []) (ZZ := fun x => [row x 84 F6 x2]) F W M9 Aa Aa (fun hL => Hi _ w (v1) (v2) p0 _ h1 ((Av h_v1) w W).nx ((Av h_v2) w W).nx) fun x a w F W => ?_
  obtain ⟨v3, rfl⟩ : ∃ y, y = x := ⟨x, rfl⟩
  have W : Stw ⟨Y, [], w0⟩ [(b1, [.int .i64 p0.1, v1, v2])] [row v3 84 F6 x2, mp b2 FS Gc ([] : List ((Int × Int) × Unit))] w := W
  refine ls F W Aa (Cg (r := F6) (l := x2) Lp Aa F Aa (AA 0 Aa)).q fun a w F W => ?_
  refine ls F W Aa (Ad F Aa).q fun a w F W => ?_
  refine Ae (Ac (Ax ?_))
  have W := W.frontZ (i := 1) Aa Aa
  have W := W.frontZ (i := 1) Aa Aa
  refine BA H (fun s a w => Fr 71 [] [(1, .pointer (some ⟨b1, 0, none⟩)), (2, .bool false), (3, .map (some b2)), (30, v3), (31, .int .i64 (x2.length : Int)), (32, .int .i64 s.1)] a ∧ Stw ⟨Y, [], w0⟩ [(b1, [.int .i64 p0.1, v1, v2])] [row v3 84 F6 x2, mp b2 FS Gc s.2] w) ⟨F.re ⟨rfl, Aa, Aa, Aa, Aa, Aa, trivial⟩, W⟩ fun s o a w H L2 hR => ?_
  obtain ⟨x3, x4⟩ := s
  obtain ⟨F, W⟩ := hR
  have F : Fr 71 [] [(1, .pointer (some ⟨b1, 0, none⟩)), (2, .bool false), (3, .map (some b2)), (30, v3), (31, .int .i64 (x2.length : Int)), (32, .int .i64 x3)] a := F
  have W : Stw ⟨Y, [], w0⟩ [(b1, [.int .i64 p0.1, v1, v2])] [row v3 84 F6 x2, mp b2 FS Gc x4] w := W
  rw [BZ] at H
  refine Ai (Ab ?_)
  refine ls F W Aa (BD F Aa Aa).q fun a w F W => ?_
  refine Ae (Ac (Ai ?_))
  refine Ay F Aa (fun hb => ?_) fun hb => ?_
  ·
   have H := A8 (BI hb) H
   rw [hb] at F
   clear hb
   refine Ap (Ac (Ai (Ax (Ai (Ab ?_)))))
   obtain ⟨x5, h2, H⟩ := An H
   refine ls F W Aa (Be (r := F6) Lt F Aa Aa (AA 0 Aa) h2).q fun a w F W => ?_
   refine ls F W Aa (AE (y := Value.agg #[.int .i64 x5.1, .int .i64 x5.2]) (j := 0) (i := x3) F Aa Aa (AA 0 Aa) h2 LN.to KK Aa).q fun a w F W => ?_
   refine Bx (cs := [.int .i64 0, .int .i64 0]) F W Aa LD Aa fun b3 a w F W => ?_
   refine Ba (vs := [.int .i64 x5.1, .int .i64 x5.2]) (M' := [(b3, [.int .i64 x5.1, .int .i64 x5.2]), (b1, [.int .i64 p0.1, v1, v2])]) 0 F W Aa Aa Aa KK Aa Aa Aa Aa Aa fun w W => ?_
   refine Ae (Ac (Ai ?_))
   refine AN (fun a w => Fr 71 [] [(1, .pointer (some ⟨b1, 0, none⟩)), (2, .bool false), (3, .map (some b2)), (5, .pointer (some ⟨b3, 0, none⟩)), (30, v3), (31, .int .i64 (x2.length : Int)), (32, .int .i64 x3), (55, .bool (decide (x5.1 < 0) || (decide (p0.1 ≤ x5.1) || (decide (x5.2 < 0) || decide (8 ≤ x5.2)))))] a ∧ Stw ⟨Y, [], w0⟩ [(b3, [.int .i64 x5.1, .int .i64 x5.2]), (b1, [.int .i64 p0.1, v1, v2])] [row v3 84 F6 x2, mp b2 FS Gc x4] w) ?_ ?_
   ·
    refine Ab ?_
    refine ls F W Aa (Ag Ib Aa Aa Aa T3 F Aa 0 Aa).q fun a w F W => ?_
    refine ls F W Aa (Al (v := Value.int .i64 x5.1) 0 F Aa Aa T3 Aa).q fun a w F W => ?_
    refine ls F W Aa (BD F Aa Aa).q fun a w F W => ?_
    refine ls F W Aa (Ad F Aa).q fun a w F W => ?_
    rcases Bool.eq_false_or_eq_true (decide (x5.1 < 0)) with hb0 | hb0
    ·
     rw [hb0] at F
     iterate 5 refine BX F Aa Aa Aa Aa Aa Aa Aa fun a F => ?_
     refine ls F W Aa (Ao F Aa Aa Aa).q fun a w F W => ?_
     refine ls F W Aa (Ad F Aa).q fun a w F W => ?_
     iterate 3 refine BX F Aa Aa Aa Aa Aa Aa Aa fun a F => ?_
     refine ls F W Aa (Ao F Aa Aa Aa).q fun a w F W => ?_
     refine ls F W Aa (Ad F Aa).q fun a w F W => ?_
     iterate 3 refine BX F Aa Aa Aa Aa Aa Aa Aa fun a F => ?_
     refine ls F W Aa (Ao F Aa Aa Aa).q fun a w F W => ?_
     refine Ae (Ac ?_)
     exact ⟨F.re ⟨rfl, Aa, Aa, Aa, Aa, Aa, Aa, (DZ (by try rw [hb0]; all_goals simp only [DT])), trivial⟩, W⟩
    rw [hb0] at F
    refine Az F W (Ah F Aa Aa Aa Aa) Aa (Am Aa) (Ag Ib Aa Aa Aa T3 F Aa 0 Aa).q fun a w F W => ?_
    refine Az F W (Ah F Aa Aa Aa Aa) Aa (Am Aa) (Al (v := Value.int .i64 x5.1) 0 F Aa Aa T3 Aa).q fun a w F W => ?_
    refine Az F W (Ah F Aa Aa Aa Aa) Aa (Am Aa) (Ag C5 Aa Aa Aa T3 F Aa 0 Aa).q fun a w F W => ?_
    refine Az F W (Ah F Aa Aa Aa Aa) Aa (Am Aa) (Al (v := Value.int .i64 p0.1) 1 F Aa Aa T3 Aa).q fun a w F W => ?_
    refine Az F W (Ah F Aa Aa Aa Aa) Aa (Am Aa) (FC F Aa Aa).q fun a w F W => ?_
    refine ls F W Aa (Aj F Aa Aa Aa).q fun a w F W => ?_
    refine ls F W Aa (Ad F Aa).q fun a w F W => ?_
    rcases Bool.eq_false_or_eq_true (decide (p0.1 ≤ x5.1)) with hb1 | hb1
    ·
     rw [hb1] at F
     iterate 3 refine BX F Aa Aa Aa Aa Aa Aa Aa fun a F => ?_
     refine ls F W Aa (Ao F Aa Aa Aa).q fun a w F W => ?_
     refine ls F W Aa (Ad F Aa).q fun a w F W => ?_
     iterate 3 refine BX F Aa Aa Aa Aa Aa Aa Aa fun a F => ?_
     refine ls F W Aa (Ao F Aa Aa Aa).q fun a w F W => ?_
     refine Ae (Ac ?_)
     exact ⟨F.re ⟨rfl, Aa, Aa, Aa, Aa, Aa, Aa, (DZ (by try rw [hb1]; try rw [hb0]; all_goals simp only [DT])), trivial⟩, W⟩
    rw [hb1] at F
    refine Az F W (Ah F Aa Aa Aa Aa) Aa (Am Aa) (Ag Ib Aa Aa Aa T3 F Aa 1 Aa).q fun a w F W => ?_
    refine Az F W (Ah F Aa Aa Aa Aa) Aa (Am Aa) (Al (v := Value.int .i64 x5.2) 0 F Aa Aa T3 Aa).q fun a w F W => ?_
    refine Az F W (Ah F Aa Aa Aa Aa) Aa (Am Aa) (BD F Aa Aa).q fun a w F W => ?_
    refine ls F W Aa (Aj F Aa Aa Aa).q fun a w F W => ?_
    refine ls F W Aa (Ad F Aa).q fun a w F W => ?_
    rcases Bool.eq_false_or_eq_true (decide (x5.2 < 0)) with hb2 | hb2
    ·
     rw [hb2] at F
     iterate 3 refine BX F Aa Aa Aa Aa Aa Aa Aa fun a F => ?_
     refine ls F W Aa (Ao F Aa Aa Aa).q fun a w F W => ?_
     refine Ae (Ac ?_)
     exact ⟨F.re ⟨rfl, Aa, Aa, Aa, Aa, Aa, Aa, (DZ (by try rw [hb1]; try rw [hb0]; try rw [hb2]; all_goals simp only [DT])), trivial⟩, W⟩
    rw [hb2] at F
    refine Az F W (Ah F Aa Aa Aa Aa) Aa (Am Aa) (Ag Ib Aa Aa Aa T3 F Aa 1 Aa).q fun a w F W => ?_
    refine Az F W (Ah F Aa Aa Aa Aa) Aa (Am Aa) (Al (v := Value.int .i64 x5.2) 0 F Aa Aa T3 Aa).q fun a w F W => ?_
    refine Az F W (Ah F Aa Aa Aa Aa) Aa (Am Aa) (FC F Aa Aa).q fun a w F W => ?_
    refine ls F W Aa (Aj F Aa Aa Aa).q fun a w F W => ?_
    refine Ae (Ac ?_)
    exact ⟨F.re ⟨rfl, Aa, Aa, Aa, Aa, Aa, Aa, (DZ (by try rw [hb1]; try rw [hb0]; try rw [hb2]; all_goals simp only [DT])), trivial⟩, W⟩
   rintro a w ⟨F, W⟩
   refine Ay F Aa (fun hb => ?_) fun hb => ?_
   ·
    have H := A8 hb H
    rw [hb] at F
    clear hb
    refine Ai (Ab ?_)
    refine ls F W Aa (Af F Aa).q fun a w F W => ?_
    refine Ae (Ac (AB (AQ (BG ?_))))
    iterate 2 refine AQ ?_
    refine BG (AQ ?_)
    have H := L2 _ H
    have H := L1 _ H
    have H := A3 H
    subst H
    refine Bh (.inl Aa) F W Aa (Aq F Aa) ?_
    exact ⟨rfl, W.done⟩
   have H := A9 (by rw [hb]; decide) H
   rw [hb] at F
   clear hb
   refine Ap (Ac (Ai (Ai (Ab ?_))))
   refine ls F W Aa (Ad F Aa).q fun a w F W => ?_
   refine ls F W Aa (Al (v := Value.agg #[.int .i64 x5.1, .int .i64 x5.2]) 0 F Aa Aa KK Aa).q fun a w F W => ?_
   refine ls F W Aa (I2 (zv := (() : Unit)) (kx := (x5 : Int × Int)) (q := 1) (E := FS) (V := Gc) F Aa Aa Aa Lr Lz Mh).q fun a w F W => ?_
   refine ls F W Aa (Ad F Aa).q fun a w F W => ?_
   refine ls F W Aa (AK (v := Value.agg #[]) F Aa Aa).q fun a w F W => ?_
   refine ls F W Aa (AK (v := Value.bool ((Gi x4 x5).isSome)) F Aa Aa).q fun a w F W => ?_
   refine Bx (cs := []) F W Aa Mh Aa fun b4 a w F W => ?_
   refine Ba (vs := []) (M' := [(b4, []), (b3, [.int .i64 x5.1, .int .i64 x5.2]), (b1, [.int .i64 p0.1, v1, v2])]) 0 F W Aa Aa Aa Mr Aa Aa Aa Aa Aa fun w W => ?_
   refine ls F W Aa (Af F Aa).q fun a w F W => ?_
   refine Ae (Ac (Ai (Ab ?_)))
   refine ls F W Aa (Ad F Aa).q fun a w F W => ?_
   refine Ae (Ac ?_)
   refine Ay F Aa (fun hb => ?_) fun hb => ?_
   ·
    have H := A8 hb H
    rw [hb] at F
    clear hb
    refine Ai (Ab ?_)
    refine ls F W Aa (Af F Aa).q fun a w F W => ?_
    refine Ae (Ac (AB (AQ (BG ?_))))
    iterate 2 refine AQ ?_
    refine BG (AQ ?_)
    have H := L2 _ H
    have H := L1 _ H
    have H := A3 H
    subst H
    refine Bh (.inl Aa) F W Aa (Aq F Aa) ?_
    exact ⟨rfl, W.done⟩
   have H := A9 (by rw [hb]; decide) H
   rw [hb] at F
   clear hb
   refine Ap (Ac (Ab ?_))
   refine ls F W Aa (Ad F Aa).q fun a w F W => ?_
   refine ls F W Aa (Al (v := Value.agg #[.int .i64 x5.1, .int .i64 x5.2]) 1 F Aa Aa KK Aa).q fun a w F W => ?_
   refine ls F W Aa (Cr (v := Value.agg #[]) Mt F Aa Aa Aa).q fun a w F W => ?_
   refine Jt (q := 1) (kx := (x5 : Int × Int)) (vx := (() : Unit)) (E := FS) (V := Gc) F W Aa Aa Aa Aa Aa Lr Lz fun w W => ?_
   have W : Stw ⟨Y, [], w0⟩ [(b4, []), (b3, [.int .i64 x5.1, .int .i64 x5.2]), (b1, [.int .i64 p0.1, v1, v2])] [mp b2 FS Gc (Gj x4 x5 ()), row v3 84 F6 x2] w := W
   refine Ae (AV (Ac (Ab ?_)))
   refine ls F W Aa (BN F Aa Aa Aa).q fun a w F W => ?_
   refine ls F W Aa (Ad F Aa).q fun a w F W => ?_
   refine Ae (Ac ?_)
   have W := W.frontZ (i := 1) Aa Aa
   have W := W.frontM (i := 2) Aa Aa
   have W := W.sub (M' := [(b1, [.int .i64 p0.1, v1, v2])]) (Z' := [row v3 84 F6 x2, mp b2 FS Gc (Gj x4 x5 ())]) (List.Sublist.cons_cons _ (List.nil_sublist _)) (List.Sublist.refl _)
   exact ⟨_, H, F.re ⟨rfl, Aa, Aa, Aa, Aa, Aa, trivial⟩, W⟩
  have H := A9 (BH hb) H
  rw [hb] at F
  clear hb
  refine Bz ?_
  iterate 2 refine B9 ?_
  refine BC (Ac ?_)
  have W := W.frontZ (i := 1) Aa Aa
  have W := W.sub (M' := [(b1, [.int .i64 p0.1, v1, v2])]) (Z' := [mp b2 FS Gc x4]) (List.Sublist.refl _) (List.Sublist.cons_cons _ (List.nil_sublist _))
  have H := L2 _ H
  exact ⟨_, H, F.re ⟨rfl, Aa, trivial⟩, W⟩
 rintro a w ⟨x1, hj, F, W⟩
 have H := K1 _ hj
 clear hj G1 K1 L1
 refine Ai (Ab ?_)
 refine ls F W Aa (Ag C5 Aa Aa Aa Fn F Aa 1 Aa).q fun a w F W => ?_
 refine ls F W Aa (Al (v := v1) 0 F Aa Aa Fn Aa).q fun a w F W => ?_
 obtain ⟨x6, h3, H⟩ := An H
 refine ls F W Aa (Bv (v := Value.bool x6) F MY Aa (fun w W => CX any w (v1) p0.2.1 _ h3 (((Av h_v1) : CY _ _ _ _ _ _) w W).nx)) fun a w F W => ?_
 refine ls F W Aa (EL F Aa).q fun a w F W => ?_
 refine ls F W Aa (Af F Aa).q fun a w F W => ?_
 refine Ae (Ac (AB ?_))
 have H := A3 H
 subst H
 refine Bh (.inl Aa) F W Aa (Aq F Aa) ?_
 exact ⟨rfl, W.done⟩
theorem MR : Has Try.prog 20 := ⟨fun args w => Ak Try.func20 rfl (by decide) args w⟩
noncomputable def Bf (p0 : List (Int × Int × Int × Int × Int × Int)) : Option (List (Int × Int × Int × Int × Int × Int)) := (app ([] : List (Int × Int × Int × Int × Int × Int)) p0).bind fun x1 => some x1
theorem DK (Y : Nat → Prop) (w0 : World) (v1 : Value) (p0 : List (Int × Int × Int × Int × Int × Int)) (r : (List (Int × Int × Int × Int × Int × Int))) (H : Bf p0 = some r) (s_v1 : Sl w0 Y A6 v1 p0) :
    Calls Try.prog 21 #[v1] w0 fun e w' => ∃ x : Value, e = .returned (x) ∧ Stw ⟨Y, [], w0⟩ [] [row (x) 59 A6 r] w' := by
 refine enter Try.func21 Aa Try.ntmps21 Aa fun a F => ?_
 have W := Stw.start Y w0
 have h_v1 := W.nx s_v1
 unfold Bf at H
 refine Ai (Ab ?_)
 refine ls F W Aa (Af F Aa).q fun a w F W => ?_
 refine Ae (Ac (Ai (Ai (Ab ?_))))
 refine ls F W Aa (Ad F Aa).q fun a w F W => ?_
 refine ls F W Aa (JT (r := A6) GZ F Aa (Av h_v1)).q fun a w F W => ?_
 refine Ae (Ac ?_)
 rcases Jk (Av h_v1) W with ⟨hb, hl⟩ | hb
 ·
  rw [hl] at H
  change some ([] : List (Int × Int × Int × Int × Int × Int)) = _ at H
  rw [hb] at F
  refine DL F Aa ?_
  refine Ai (Ab ?_)
  refine ls F W Aa (Af F Aa).q fun a w F W => ?_
  refine Ae (Ac (AB (AQ ?_)))
  have H := A3 H
  subst H
  refine Bh (.inl Aa) F W Aa (Aq F Aa) ?_
  have W := W.nilRow 59 A6
  exact ⟨(Value.slice none 0 0), Aa, W⟩
 rw [hb] at F
 refine D6 F Aa ?_
 refine Ap (Ac (Ai (Ab ?_)))
 refine Fy (z := Value.agg #[.int .i64 0, .int .i64 0, .int .i64 0, .int .i64 0, .int .i64 0, .int .i64 0]) (cs := []) A6 ([] : List (Int × Int × Int × Int × Int × Int)) F W Aa Jo KD Aa Aa Aa Aa Aa Aa (Jq.repL _ _ ([] : List (Int × Int × Int × Int × Int × Int))) fun v2 a w F W => ?_
 refine ls F W Aa (Ad F Aa).q fun a w F W => ?_
 obtain ⟨x1, h1, H⟩ := An H
 refine DO (r := A6) (i := 0) F W Aa Jo Aa Aa Aa Aa (Ku W s_v1) h1 Aa fun v3 a w F W => ?_
 have W : Stw ⟨Y, [], w0⟩ [] [row v3 59 A6 x1] w := W
 refine ls F W Aa (Af F Aa).q fun a w F W => ?_
 refine Ae (Ac (AB ?_))
 have H := A3 H
 subst H
 refine Bh (.inl Aa) F W Aa (Aq F Aa) ?_
 exact ⟨(v3), Aa, W⟩
theorem FY : type_of% Try.underlying62 := Try.underlying62
theorem MW : Has Try.prog 21 := ⟨fun args w => Ak Try.func21 rfl (by decide) args w⟩
theorem Mx : Bt Try.prog 62 [.int .i64 0, .slice none 0 0, .slice none 0 0, .slice none 0 0] [(0, 3), (3, 1)] := ⟨⟨.agg #[.int .i64 0, .slice none 0 0, .slice none 0 0, .slice none 0 0], by kernel_rfl, rfl⟩, ⟨_, FY, fun w => by kernel_rfl⟩⟩
abbrev AF : Rp (Int × Int × Int × (Int × Int × Int × Int) × Int × Int) := (Rp.pair (Rp.int .i64) (Rp.pair (Rp.int .i64) (Rp.pair (Rp.int .i64) (Rp.pair Lh (Rp.pair (Rp.int .i64) (Rp.int .i64))))))
noncomputable def D5 (p0 : Int × (List (Int × Int × Int × Int × Int × Int)) × (List (Int × Int))) : Option (((Int × (List (Int × Int × Int × Int × Int × Int)) × (List (Int × Int))) × (List (Int × Int × Int × (Int × Int × Int × Int) × Int × Int))) ⊕ Unit) := (Du p0).bind fun x1 => (if (!x1) = true then some (.inr ()) else (Bf p0.2.1).bind fun x2 => some (.inl ((p0.1, x2, ([] : List (Int × Int))), ([] : List (Int × Int × Int × (Int × Int × Int × Int) × Int × Int)))))
theorem EU (Y : Nat → Prop) (w0 : World) (v1 : Value) (v2 : Value) (p0 : Int × (List (Int × Int × Int × Int × Int × Int)) × (List (Int × Int))) (r : ((Int × (List (Int × Int × Int × Int × Int × Int)) × (List (Int × Int))) × (List (Int × Int × Int × (Int × Int × Int × Int) × Int × Int))) ⊕ Unit) (H : D5 p0 = some r) (s_v1 : Sl w0 Y A6 v1 p0.2.1) (h_v2 : Sl w0 (NX []) Bg v2 p0.2.2) :
    Calls Try.prog 7 #[.agg #[.int .i64 p0.1, v1, v2]] w0 fun e w' => Ly r (fun r => ∃ x : Nat × Value × Value × Value, e = .returned (.tuple #[.pointer (some ⟨x.1, 0, none⟩), .int .i64 0]) ∧ Stw ⟨Y, [], w0⟩ [(x.1, [.int .i64 r.1.1, x.2.1, x.2.2.1, x.2.2.2])] [AC (x.2.1) A6 r.1.2.1, AC (x.2.2.1) Bg r.1.2.2, row (x.2.2.2) 51 AF r.2] w') (fun r => ∃ x : Unit, e = .returned (.tuple #[.pointer none, .int .i64 2]) ∧ Stw ⟨Y, [], w0⟩ [] [] w') := by
 refine enter Try.func7 Aa Try.ntmps7 Aa fun a F => ?_
 have W := Stw.start Y w0
 have h_v1 := W.nx s_v1
 unfold D5 at H
 refine Ai (Ab ?_)
 refine Dv (cs := [.int .i64 p0.1, v1, v2]) F W Aa Aa Aa fun b1 a w F W => ?_
 iterate 2 refine ls F W Aa (Af F Aa).q fun a w F W => ?_
 refine Ae (Ac (Ai (Ai (Ab ?_))))
 refine ls F W Aa (Al (v := Value.agg #[.int .i64 p0.1, v1, v2]) 0 F Aa Aa HT Aa).q fun a w F W => ?_
 obtain ⟨x1, h1, H⟩ := An H
 refine ls F W Aa (Bv (v := Value.bool x1) F MR Aa (fun w W => HP any w (v1) (v2) p0 _ h1 (((Av h_v1) : CY _ _ _ _ _ _) w W).nx (((Av h_v2) : CY _ _ _ _ _ _) w W).nx)) fun a w F W => ?_
 refine ls F W Aa (EL F Aa).q fun a w F W => ?_
 refine Ae (Ac ?_)
 refine Ay F Aa (fun hb => ?_) fun hb => ?_
 ·
  have H := A8 hb H
  rw [hb] at F
  clear hb
  refine Ai (Ab ?_)
  iterate 2 refine ls F W Aa (Af F Aa).q fun a w F W => ?_
  refine Ae (Ac (AB (AQ ?_)))
  have H := A3 H
  subst H
  refine Ez (.inl Aa) F W Aa (Aq F Aa) (Aq F Aa) ?_
  have W := W.sub (M' := []) (Z' := []) (List.nil_sublist _) (List.Sublist.refl _)
  exact ⟨(), Aa, W⟩
 have H := A9 (by rw [hb]; decide) H
 rw [hb] at F
 clear hb
 refine Ap (Ac (Ai (Ab ?_)))
 refine ls F W Aa (Ag C5 Aa Aa Aa Fn F Aa 1 Aa).q fun a w F W => ?_
 refine ls F W Aa (Al (v := v1) 0 F Aa Aa Fn Aa).q fun a w F W => ?_
 obtain ⟨x2, h2, H⟩ := An H
 refine Bq (Ml := []) (Zl := []) (M := [(b1, [.int .i64 p0.1, v1, v2])]) (Z := []) (β := Value) (rv := fun x => x) (MM := fun x => []) (ZZ := fun x => [row x 59 A6 x2]) F W MW Aa Aa (fun hL => DK _ w (v1) p0.2.1 _ h2 (W.old s_v1)) fun x a w F W => ?_
 obtain ⟨v3, rfl⟩ : ∃ y, y = x := ⟨x, rfl⟩
 have W : Stw ⟨Y, [], w0⟩ [(b1, [.int .i64 p0.1, v1, v2])] [row v3 59 A6 x2] w := W
 refine ls F W Aa (Ag C5 Aa Aa Aa Fn F Aa 1 Aa).q fun a w F W => ?_
 refine EM (M' := [(b1, [.int .i64 p0.1, v3, v2])]) 0 F W Aa Aa Aa Fn (W.one (k := 0) Aa) Aa Aa fun w W => ?_
 refine Ae (Ac (Ai (Ab ?_)))
 refine ls F W Aa (Ag C5 Aa Aa Aa He F Aa 2 Aa).q fun a w F W => ?_
 refine Ba (vs := [.slice none 0 0]) (M' := [(b1, [.int .i64 p0.1, v3, .slice none 0 0])]) 0 F W Aa Aa Aa He Aa Aa Aa Aa Aa fun w W => ?_
 refine Ae (Ac (Ai (Ab ?_)))
 refine ls F W Aa (Al (v := Value.agg #[.int .i64 p0.1, v3, .slice none 0 0]) 0 F Aa Aa HT Aa).q fun a w F W => ?_
 refine ls F W Aa (Cr (v := Value.agg #[.int .i64 p0.1, v3, .slice none 0 0, .slice none 0 0]) Mx F Aa (Fs Aa Aa Aa GV) Aa).q fun a w F W => ?_
 refine Dv (cs := [.int .i64 p0.1, v3, .slice none 0 0, .slice none 0 0]) F W Aa Aa Aa fun b2 a w F W => ?_
 iterate 2 refine ls F W Aa (Af F Aa).q fun a w F W => ?_
 refine Ae (Ac (AB ?_))
 have H := A3 H
 subst H
 refine Ez (.inl Aa) F W Aa (Aq F Aa) (Aq F Aa) ?_
 have W := W.freeze
 have W := W.note (Sl.nil (r := Bg))
 have W := W.nilRow 51 AF
 have W := W.frontZ (i := 1) Aa Aa
 have W := W.frontZ (i := 2) Aa Aa
 have W := W.sub (M' := [(b2, [.int .i64 p0.1, v3, .slice none 0 0, .slice none 0 0])]) (Z' := [AC v3 A6 x2, AC (Value.slice none 0 0) Bg ([]), row (Value.slice none 0 0) 51 AF ([])]) (List.Sublist.cons_cons _ (List.nil_sublist _)) (List.Sublist.refl _)
 exact ⟨(b2, (v3), (Value.slice none 0 0), (Value.slice none 0 0)), Aa, W⟩
theorem LS : type_of% Try.underlying36 := Try.underlying36
theorem H7 : Has Try.prog 7 := ⟨fun args w => Ak Try.func7 rfl (by decide) args w⟩
theorem Li : ∃ z, (Try.prog.info? 36).bind (·.zero) = some z ∧ z.cells = [.int .i64 0, .int .i64 0, .int .i64 0, .int .i64 0].toArray := ⟨.agg #[.int .i64 0, .int .i64 0, .int .i64 0, .int .i64 0], by kernel_rfl, rfl⟩
theorem KR : Ar Try.prog 36 4 3 1 := ⟨LS, by kernel_rfl⟩
theorem MO : Try.prog.follows .mixedOrders = true := by kernel_rfl
noncomputable def B3 (p0 : Int × (List (Int × Int × Int × Int × Int × Int)) × (List (Int × Int))) (p1 : Int) (p2 : Int) : Int → Option (Int ⊕ (Unit ⊕ (Int × Int × Int × Bool)))
  | x1 => (if x1 < (p0.2.1.length : Int) then (ix p0.2.1 x1).bind fun x2 => (if p1 = x2.1 ∧ p2 = x2.2.1 then some (.inr (.inr (x2.2.2.1, x2.2.2.2.1, x1, true))) else (if p1 = x2.2.2.1 ∧ p2 = x2.2.2.2.1 then some (.inr (.inr (x2.1, x2.2.1, x1, true))) else some (.inl (AD (x1 + 1))))) else some (.inr (.inl ())))
noncomputable def Da (p0 : Int × (List (Int × Int × Int × Int × Int × Int)) × (List (Int × Int))) (p1 : Int) (p2 : Int) : Option (Int × Int × Int × Bool) := Hd (AU (B3 p0 p1 p2) 0) fun _ => some (0, 0, 0, false)
theorem Ih (Y : Nat → Prop) (w0 : World) (v1 : Value) (v2 : Value) (p0 : Int × (List (Int × Int × Int × Int × Int × Int)) × (List (Int × Int))) (p1 : Int) (p2 : Int) (r : Int × Int × Int × Bool) (H : Da p0 p1 p2 = some r) (h_v1 : Sl w0 (NX []) A6 v1 p0.2.1) (h_v2 : Sl w0 (NX []) Bg v2 p0.2.2) :
    Calls Try.prog 34 #[.agg #[.int .i64 p0.1, v1, v2], .int .i64 p1, .int .i64 p2] w0 fun e w' => e = .returned (.tuple #[.int .i64 r.1, .int .i64 r.2.1, .int .i64 r.2.2.1, .bool r.2.2.2]) ∧ Below w0.heap.size w0 w' := by
 refine enter Try.func34 Aa Try.ntmps34 Aa fun a F => ?_
 have W := Stw.start Y w0
 unfold Da at H
 refine Ai (Ab ?_)
 refine Dv (cs := [.int .i64 p0.1, v1, v2]) F W Aa Aa Aa fun b1 a w F W => ?_
 iterate 4 refine ls F W Aa (Af F Aa).q fun a w F W => ?_
 refine Ae (Ac (Ai (Ab ?_)))
 iterate 2 refine ls F W Aa (Ad F Aa).q fun a w F W => ?_
 refine ls F W Aa (Cr (v := Value.agg #[.int .i64 p1, .int .i64 p2]) La F Aa Aa Aa).q fun a w F W => ?_
 refine Bx (cs := [.int .i64 0, .int .i64 0]) F W Aa LD Aa fun b2 a w F W => ?_
 refine Ba (vs := [.int .i64 p1, .int .i64 p2]) (M' := [(b2, [.int .i64 p1, .int .i64 p2]), (b1, [.int .i64 p0.1, v1, v2])]) 0 F W Aa Aa Aa KK Aa Aa Aa Aa Aa fun w W => ?_
 refine Ae (Ac ?_)
 obtain ⟨o1, G1, K1, L1⟩ := J2 H
 refine AN (fun a w => some (Sum.inl ()) = some o1 ∧ Fr 49 [] [(6, .int .i64 0), (7, .int .i64 0), (8, .int .i64 0), (9, .bool false)] a ∧ Stw ⟨Y, [], w0⟩ [(b2, [.int .i64 p1, .int .i64 p2]), (b1, [.int .i64 p0.1, v1, v2])] [] w) ?_ ?_
 ·
  have H := G1
  clear G1 K1
  refine Ai (Ab ?_)
  refine ls F W Aa (Ag C5 Aa Aa Aa Fn F Aa 1 Aa).q fun a w F W => ?_
  refine ls F W Aa (Al (v := v1) 1 F Aa Aa Fn Aa).q fun a w F W => ?_
  refine ls F W Aa (Cg (r := A6) (l := p0.2.1) GZ Aa F Aa (Av h_v1)).q fun a w F W => ?_
  refine ls F W Aa (Ad F Aa).q fun a w F W => ?_
  refine Ae (Ac (Ax ?_))
  have W := W.frontM (i := 1) Aa Aa
  have W := W.frontM (i := 1) Aa Aa
  refine BA H (fun s a w => Fr 49 [] [(6, .int .i64 0), (7, .int .i64 0), (8, .int .i64 0), (9, .bool false), (10, .pointer (some ⟨b2, 0, none⟩)), (17, v1), (18, .int .i64 (p0.2.1.length : Int)), (19, .int .i64 s)] a ∧ Stw ⟨Y, [], w0⟩ [(b2, [.int .i64 p1, .int .i64 p2]), (b1, [.int .i64 p0.1, v1, v2])] [] w) ⟨F.re ⟨rfl, Aa, Aa, Aa, Aa, Aa, Aa, Aa, trivial⟩, W⟩ fun s o a w H L2 hR => ?_
  obtain ⟨x1, rfl⟩ : ∃ x, x = s := ⟨s, rfl⟩
  obtain ⟨F, W⟩ := hR
  have F : Fr 49 [] [(6, .int .i64 0), (7, .int .i64 0), (8, .int .i64 0), (9, .bool false), (10, .pointer (some ⟨b2, 0, none⟩)), (17, v1), (18, .int .i64 (p0.2.1.length : Int)), (19, .int .i64 x1)] a := F
  have W : Stw ⟨Y, [], w0⟩ [(b2, [.int .i64 p1, .int .i64 p2]), (b1, [.int .i64 p0.1, v1, v2])] [] w := W
  rw [B3] at H
  refine Ai (Ab ?_)
  refine ls F W Aa (BD F Aa Aa).q fun a w F W => ?_
  refine Ae (Ac (Ai ?_))
  refine Ay F Aa (fun hb => ?_) fun hb => ?_
  ·
   have H := A8 (BI hb) H
   rw [hb] at F
   clear hb
   refine Ap (Ac (Ai (Ax (Ai (Ab ?_)))))
   refine ls F W Aa (Ad F Aa).q fun a w F W => ?_
   obtain ⟨x2, h1, H⟩ := An H
   refine ls F W Aa (Be (r := A6) Jo F Aa Aa (Av h_v1) h1).q fun a w F W => ?_
   refine ls F W Aa (AE (y := Value.agg #[.int .i64 x2.1, .int .i64 x2.2.1, .int .i64 x2.2.2.1, .int .i64 x2.2.2.2.1, .int .i64 x2.2.2.2.2.1, .int .i64 x2.2.2.2.2.2]) (j := 0) (i := x1) F Aa Aa (Av h_v1) h1 Jq.to I1 Aa).q fun a w F W => ?_
   refine Bx (cs := (I5)) F W Aa KD Aa fun b3 a w F W => ?_
   refine ls F W Aa (Af F Aa).q fun a w F W => ?_
   refine Ba (vs := (GQ x2)) (M' := [(b3, [.int .i64 x2.1, .int .i64 x2.2.1, .int .i64 x2.2.2.1, .int .i64 x2.2.2.2.1, .int .i64 x2.2.2.2.2.1, .int .i64 x2.2.2.2.2.2]), (b2, [.int .i64 p1, .int .i64 p2]), (b1, [.int .i64 p0.1, v1, v2])]) 0 F W Aa Aa Aa I1 Aa Aa Aa Aa Aa fun w W => ?_
   refine Ae (Ac (Ai (Ai (Ab ?_))))
   refine ls F W Aa (Al (v := Value.agg #[.int .i64 p1, .int .i64 p2]) 1 F Aa Aa KK Aa).q fun a w F W => ?_
   refine ls F W Aa (Ag Cz Aa Aa Aa T3 F Aa 0 Aa).q fun a w F W => ?_
   refine ls F W Aa (Al (v := Value.int .i64 x2.1) 0 F Aa Aa T3 Aa).q fun a w F W => ?_
   refine ls F W Aa (Ag Cz Aa Aa Aa T3 F Aa 1 Aa).q fun a w F W => ?_
   refine ls F W Aa (Al (v := Value.int .i64 x2.2.1) 0 F Aa Aa T3 Aa).q fun a w F W => ?_
   refine ls F W Aa (Cr (v := Value.agg #[.int .i64 x2.1, .int .i64 x2.2.1]) La F Aa Aa Aa).q fun a w F W => ?_
   refine ls F W Aa (JY (t := decide (p1 = x2.1 ∧ p2 = x2.2.1)) Mc (LM _ _ _ _) F Aa Aa).q fun a w F W => ?_
   refine Ae (Ac ?_)
   refine Ay F Aa (fun hb => ?_) fun hb => ?_
   ·
    have H := A8 (BI hb) H
    rw [hb] at F
    clear hb
    refine Ai ?_
    refine CF W MO (by kernel_rfl) ?_
    refine qs F Aa (Ag Cz Aa Aa Aa T3 F Aa 2 Aa).q fun a F => ?_
    refine qs F Aa (Al (v := Value.int .i64 x2.2.2.1) 0 F Aa Aa T3 Aa).q fun a F => ?_
    refine qs F Aa (Ag Cz Aa Aa Aa T3 F Aa 3 Aa).q fun a F => ?_
    refine qs F Aa (Al (v := Value.int .i64 x2.2.2.2.1) 0 F Aa Aa T3 Aa).q fun a F => ?_
    refine qs F Aa (Ad F Aa).q fun a F => ?_
    iterate 4 refine qs F Aa (Af F Aa).q fun a F => ?_
    refine Cw fun w W => ?_
    refine Ac (AB (AQ (BG ?_)))
    iterate 2 refine AQ ?_
    refine BG (AQ ?_)
    have H := L2 _ H
    have H := L1 _ H
    have H := A3 H
    subst H
    refine Hv (.inl Aa) F W Aa (Aq F Aa) (Aq F Aa) (Aq F Aa) (Aq F Aa) ?_
    exact ⟨rfl, W.done⟩
   have H := A9 (BH hb) H
   rw [hb] at F
   clear hb
   refine Ap (Ac (Ai (Ab ?_)))
   refine ls F W Aa (Al (v := Value.agg #[.int .i64 p1, .int .i64 p2]) 1 F Aa Aa KK Aa).q fun a w F W => ?_
   refine ls F W Aa (Ag Cz Aa Aa Aa T3 F Aa 2 Aa).q fun a w F W => ?_
   refine ls F W Aa (Al (v := Value.int .i64 x2.2.2.1) 0 F Aa Aa T3 Aa).q fun a w F W => ?_
   refine ls F W Aa (Ag Cz Aa Aa Aa T3 F Aa 3 Aa).q fun a w F W => ?_
   refine ls F W Aa (Al (v := Value.int .i64 x2.2.2.2.1) 0 F Aa Aa T3 Aa).q fun a w F W => ?_
   refine ls F W Aa (Cr (v := Value.agg #[.int .i64 x2.2.2.1, .int .i64 x2.2.2.2.1]) La F Aa Aa Aa).q fun a w F W => ?_
   refine ls F W Aa (JY (t := decide (p1 = x2.2.2.1 ∧ p2 = x2.2.2.2.1)) Mc (LM _ _ _ _) F Aa Aa).q fun a w F W => ?_
   refine Ae (Ac ?_)
   refine Ay F Aa (fun hb => ?_) fun hb => ?_
   ·
    have H := A8 (BI hb) H
    rw [hb] at F
    clear hb
    refine Ai ?_
    refine CF W MO (by kernel_rfl) ?_
    refine qs F Aa (Ag Cz Aa Aa Aa T3 F Aa 0 Aa).q fun a F => ?_
    refine qs F Aa (Al (v := Value.int .i64 x2.1) 0 F Aa Aa T3 Aa).q fun a F => ?_
    refine qs F Aa (Ag Cz Aa Aa Aa T3 F Aa 1 Aa).q fun a F => ?_
    refine qs F Aa (Al (v := Value.int .i64 x2.2.1) 0 F Aa Aa T3 Aa).q fun a F => ?_
    refine qs F Aa (Ad F Aa).q fun a F => ?_
    iterate 4 refine qs F Aa (Af F Aa).q fun a F => ?_
    refine Cw fun w W => ?_
    refine Ac (AB (BG ?_))
    iterate 2 refine AQ ?_
    refine BG (AQ ?_)
    have H := L2 _ H
    have H := L1 _ H
    have H := A3 H
    subst H
    refine Hv (.inl Aa) F W Aa (Aq F Aa) (Aq F Aa) (Aq F Aa) (Aq F Aa) ?_
    exact ⟨rfl, W.done⟩
   have H := A9 (BH hb) H
   rw [hb] at F
   clear hb
   refine Ap (AV (Ac (Ab ?_)))
   refine ls F W Aa (BN F Aa Aa Aa).q fun a w F W => ?_
   refine ls F W Aa (Ad F Aa).q fun a w F W => ?_
   refine Ae (Ac ?_)
   have W := W.frontM (i := 2) Aa Aa
   have W := W.frontM (i := 2) Aa Aa
   have W := W.sub (M' := [(b2, [.int .i64 p1, .int .i64 p2]), (b1, [.int .i64 p0.1, v1, v2])]) (Z' := []) (List.Sublist.cons_cons _ (List.Sublist.cons_cons _ (List.nil_sublist _))) (List.Sublist.refl _)
   exact ⟨_, H, F.re ⟨rfl, Aa, Aa, Aa, Aa, Aa, Aa, Aa, trivial⟩, W⟩
  have H := A9 (BH hb) H
  rw [hb] at F
  clear hb
  refine Bz ?_
  iterate 2 refine B9 ?_
  refine BC (Ac ?_)
  have W := W.frontM (i := 1) Aa Aa
  have W := W.frontM (i := 1) Aa Aa
  have H := L2 _ H
  exact ⟨H, F.re ⟨rfl, Aa, Aa, Aa, trivial⟩, W⟩
 rintro a w ⟨hj, F, W⟩
 have H := K1 _ hj
 clear hj G1 K1 L1
 refine Ai (Ab ?_)
 iterate 4 refine ls F W Aa (Af F Aa).q fun a w F W => ?_
 refine Ae (Ac (AB ?_))
 have H := A3 H
 subst H
 refine Hv (.inl Aa) F W Aa (Aq F Aa) (Aq F Aa) (Aq F Aa) (Aq F Aa) ?_
 exact ⟨rfl, W.done⟩
theorem HK : type_of% Try.underlying28 := Try.underlying28
theorem Gf : type_of% Try.underlying48 := Try.underlying48
theorem FL : type_of% Try.underlying51 := Try.underlying51
theorem M3 : Has Try.prog 34 := ⟨fun args w => Ak Try.func34 rfl (by decide) args w⟩
theorem Hf : Ty Try.prog 48 false 1 := ⟨by kernel_rfl, by kernel_rfl⟩
theorem J1 : Ty Try.prog 36 true 4 := ⟨by kernel_rfl, by kernel_rfl⟩
theorem Lc : Bt Try.prog 51 [.int .i64 0, .int .i64 0, .int .i64 0, .int .i64 0, .int .i64 0, .int .i64 0, .int .i64 0, .int .i64 0, .int .i64 0] [(0, 1), (1, 1), (2, 1), (3, 4), (7, 1), (8, 1)] := ⟨⟨.agg #[.int .i64 0, .int .i64 0, .int .i64 0, .int .i64 0, .int .i64 0, .int .i64 0, .int .i64 0, .int .i64 0, .int .i64 0], by kernel_rfl, rfl⟩, ⟨_, FL, fun w => by kernel_rfl⟩⟩
theorem HQ : (Try.prog.info? 51).bind (·.zero) = some (.agg #[.int .i64 0, .int .i64 0, .int .i64 0, .int .i64 0, .int .i64 0, .int .i64 0, .int .i64 0, .int .i64 0, .int .i64 0]) := by kernel_rfl
def Mz (a : Int × Int × Int × Int) : List Value := [.int .i64 a.1, .int .i64 a.2.1, .int .i64 a.2.2.1, .int .i64 a.2.2.2]
theorem Ma : Fl Lh Mz := (Fl.pair Fl.int (Fl.pair Fl.int (Fl.pair Fl.int Fl.int)))
def Mv (a : Int × Int × Int × (Int × Int × Int × Int) × Int × Int) : List Value := [.int .i64 a.1, .int .i64 a.2.1, .int .i64 a.2.2.1, .int .i64 a.2.2.2.1.1, .int .i64 a.2.2.2.1.2.1, .int .i64 a.2.2.2.1.2.2.1, .int .i64 a.2.2.2.1.2.2.2, .int .i64 a.2.2.2.2.1, .int .i64 a.2.2.2.2.2]
theorem Ft : Fl AF Mv := (Fl.pair Fl.int (Fl.pair Fl.int (Fl.pair Fl.int (Fl.pair Ma (Fl.pair Fl.int Fl.int)))))
theorem EJ : Et Try.prog 48 51 9 72 := Et.of Gf (by kernel_rfl) (by kernel_rfl) (by kernel_rfl) (by decide)
abbrev FB (a0 : Int × Int × Int × Int) : List Value := [.int .i64 a0.1, .int .i64 a0.2.1, .int .i64 a0.2.2.1, .int .i64 a0.2.2.2]
abbrev JH (a0 : Nat) (a1 : Int × Int × Int × Int × Int × Int) (a2 : Nat) (a3 : Int × Int × Int × Int) (a4 : Nat) (a5 : (Int × (List (Int × Int × Int × Int × Int × Int)) × (List (Int × Int))) × (List (Int × Int × Int × (Int × Int × Int × Int) × Int × Int))) (a6 : Value) (a7 : Value) (a8 : Value) : List (Nat × List Value) := [(a0, [.int .i64 a1.1, .int .i64 a1.2.1, .int .i64 a1.2.2.1, .int .i64 a1.2.2.2.1, .int .i64 a1.2.2.2.2.1, .int .i64 a1.2.2.2.2.2]), (a2, [.int .i64 a3.1, .int .i64 a3.2.1, .int .i64 a3.2.2.1, .int .i64 a3.2.2.2]), (a4, [.int .i64 a5.1.1, a6, a7, a8])]
noncomputable def Cn (p0 : (Int × (List (Int × Int × Int × Int × Int × Int)) × (List (Int × Int))) × (List (Int × Int × Int × (Int × Int × Int × Int) × Int × Int))) (p1 : Int) (p2 : Int) (p3 : Int) (p4 : Int) (p5 : Int × Int × Int × Int) : Option (Int × ((Int × (List (Int × Int × Int × Int × Int × Int)) × (List (Int × Int))) × (List (Int × Int × Int × (Int × Int × Int × Int) × Int × Int)))) := (Da p0.1 p2 p3).bind fun x1 => (if (!x1.2.2.2) = true then some (7, p0) else (if 256 ≤ (p0.2.length : Int) then some (6, p0) else (ix p0.1.2.1 x1.2.2.1).bind fun x2 => (app p0.2 ([(p4, x1.1, x1.2.1, p5, AD (p1 + x2.2.2.2.2.1), AD (p1 + x2.2.2.2.2.2))] : List (Int × Int × Int × (Int × Int × Int × Int) × Int × Int))).bind fun x3 => some (0, (p0.1, x3))))
theorem EN (Y : Nat → Prop) (X : List Nat) (w0 : World) (q_p0 : Nat) (v1 : Value) (v2 : Value) (v3 : Value) (p0 : (Int × (List (Int × Int × Int × Int × Int × Int)) × (List (Int × Int))) × (List (Int × Int × Int × (Int × Int × Int × Int) × Int × Int))) (p1 : Int) (p2 : Int) (p3 : Int) (p4 : Int) (p5 : Int × Int × Int × Int) (r : Int × ((Int × (List (Int × Int × Int × Int × Int × Int)) × (List (Int × Int))) × (List (Int × Int × Int × (Int × Int × Int × Int) × Int × Int)))) (H : Cn p0 p1 p2 p3 p4 p5 = some r) (hL : Stw ⟨Y, X, w0⟩ [(q_p0, [.int .i64 p0.1.1, v1, v2, v3])] [AC v1 A6 p0.1.2.1, AC v2 Bg p0.1.2.2, row v3 51 AF p0.2] w0) :
    Calls Try.prog 18 #[.pointer (some ⟨q_p0, 0, none⟩), .int .i64 p1, .int .i64 p2, .int .i64 p3, .int .i64 p4, .agg #[.int .i64 p5.1, .int .i64 p5.2.1, .int .i64 p5.2.2.1, .int .i64 p5.2.2.2]] w0 fun e w' => ∃ x : Value × Value × Value, e = .returned (.int .i64 r.1) ∧ Stw ⟨Y, X, w0⟩ [(q_p0, [.int .i64 r.2.1.1, x.1, x.2.1, x.2.2])] [AC (x.1) A6 r.2.1.2.1, AC (x.2.1) Bg r.2.1.2.2, row (x.2.2) 51 AF r.2.2] w' := by
 refine enter Try.func18 Aa Try.ntmps18 Aa fun a F => ?_
 have W := hL
 unfold Cn at H
 refine Ai (Ab ?_)
 refine Dv (cs := (FB p5)) F W Aa Aa Aa fun b1 a w F W => ?_
 refine ls F W Aa (Af F Aa).q fun a w F W => ?_
 refine Ae (Ac (Ai (Ai (Ab ?_))))
 refine ls F W Aa (Ad F Aa).q fun a w F W => ?_
 refine ls F W Aa (Cx HK F Aa Aa).q fun a w F W => ?_
 refine Ae (Ac ?_)
 refine D6 F Aa ?_
 refine Ap (Ac (Ai (Ab ?_)))
 refine ls F W Aa (Ad F Aa).q fun a w F W => ?_
 refine ls F W Aa (AM F Aa).q fun a w F W => ?_
 refine ls F W Aa (Ag FY Aa Aa Aa HT F Aa 0 Aa).q fun a w F W => ?_
 refine ls F W Aa (Al (v := Value.agg #[.int .i64 p0.1.1, v1, v2]) 1 F Aa Aa HT Aa).q fun a w F W => ?_
 iterate 2 refine ls F W Aa (Ad F Aa).q fun a w F W => ?_
 obtain ⟨x1, h1, H⟩ := An H
 refine ls F W Aa (Bv (v := Value.tuple #[.int .i64 x1.1, .int .i64 x1.2.1, .int .i64 x1.2.2.1, .bool x1.2.2.2]) F M3 Aa (fun w W => Ih any w (v1) (v2) p0.1 p2 p3 _ h1 (((Br 0 Aa) : CY _ _ _ _ _ _) w W).nx (((Br 1 Aa) : CY _ _ _ _ _ _) w W).nx)) fun a w F W => ?_
 refine ls F W Aa (Ad F Aa).q fun a w F W => ?_
 refine ls F W Aa (AK (v := Value.int .i64 x1.1) F Aa Aa).q fun a w F W => ?_
 refine ls F W Aa (AK (v := Value.int .i64 x1.2.1) F Aa Aa).q fun a w F W => ?_
 refine ls F W Aa (AK (v := Value.int .i64 x1.2.2.1) F Aa Aa).q fun a w F W => ?_
 refine ls F W Aa (AK (v := Value.bool x1.2.2.2) F Aa Aa).q fun a w F W => ?_
 iterate 4 refine ls F W Aa (Af F Aa).q fun a w F W => ?_
 refine Ae (Ac (Ai (Ai (Ab ?_))))
 refine ls F W Aa (Ad F Aa).q fun a w F W => ?_
 refine ls F W Aa (EL F Aa).q fun a w F W => ?_
 refine Ae (Ac ?_)
 refine Ay F Aa (fun hb => ?_) fun hb => ?_
 ·
  have H := A8 hb H
  rw [hb] at F
  clear hb
  refine Ai (Ab ?_)
  refine ls F W Aa (Af F Aa).q fun a w F W => ?_
  refine Ae (Ac (AB (AQ ?_)))
  have H := A3 H
  subst H
  refine Bh (.inl Aa) F W Aa (Aq F Aa) ?_
  have W := W.frontZ (i := 2) Aa Aa
  have W := W.frontZ (i := 2) Aa Aa
  have W := W.frontZ (i := 2) Aa Aa
  have W := W.frontM (i := 1) Aa Aa
  have W := W.sub (M' := [(q_p0, [.int .i64 p0.1.1, v1, v2, v3])]) (Z' := [AC v1 A6 p0.1.2.1, AC v2 Bg p0.1.2.2, row v3 51 AF p0.2]) (List.Sublist.cons_cons _ (List.nil_sublist _)) (List.Sublist.refl _)
  exact ⟨((v1), (v2), (v3)), Aa, W⟩
 have H := A9 (by rw [hb]; decide) H
 rw [hb] at F
 clear hb
 refine Ap (Ac (Ai (Ai (Ab ?_))))
 refine ls F W Aa (Ad F Aa).q fun a w F W => ?_
 refine ls F W Aa (AM F Aa).q fun a w F W => ?_
 refine ls F W Aa (Ag FY Aa Aa Aa Hf F Aa 3 Aa).q fun a w F W => ?_
 refine ls F W Aa (Al (v := v3) 1 F Aa Aa Hf Aa).q fun a w F W => ?_
 refine ls F W Aa (Cg (r := AF) (l := p0.2) Gf Aa F Aa (AA 2 Aa)).q fun a w F W => ?_
 refine ls F W Aa (FC F Aa Aa).q fun a w F W => ?_
 refine Ae (Ac ?_)
 refine Ay F Aa (fun hb => ?_) fun hb => ?_
 ·
  have H := A8 (BI hb) H
  rw [hb] at F
  clear hb
  refine Ai (Ab ?_)
  refine ls F W Aa (Af F Aa).q fun a w F W => ?_
  refine Ae (Ac (AB (AQ ?_)))
  have H := A3 H
  subst H
  refine Bh (.inl Aa) F W Aa (Aq F Aa) ?_
  have W := W.frontZ (i := 2) Aa Aa
  have W := W.frontZ (i := 2) Aa Aa
  have W := W.frontZ (i := 2) Aa Aa
  have W := W.frontM (i := 1) Aa Aa
  have W := W.sub (M' := [(q_p0, [.int .i64 p0.1.1, v1, v2, v3])]) (Z' := [AC v1 A6 p0.1.2.1, AC v2 Bg p0.1.2.2, row v3 51 AF p0.2]) (List.Sublist.cons_cons _ (List.nil_sublist _)) (List.Sublist.refl _)
  exact ⟨((v1), (v2), (v3)), Aa, W⟩
 have H := A9 (BH hb) H
 rw [hb] at F
 clear hb
 refine Ap (Ac (Ai (Ab ?_)))
 refine ls F W Aa (Ad F Aa).q fun a w F W => ?_
 refine ls F W Aa (AM F Aa).q fun a w F W => ?_
 refine ls F W Aa (Ag FY Aa Aa Aa HT F Aa 0 Aa).q fun a w F W => ?_
 refine ls F W Aa (Ag C5 Aa Aa Aa Fn F Aa 1 Aa).q fun a w F W => ?_
 refine ls F W Aa (Al (v := v1) 1 F Aa Aa Fn Aa).q fun a w F W => ?_
 refine ls F W Aa (Ad F Aa).q fun a w F W => ?_
 obtain ⟨x2, h2, H⟩ := An H
 refine ls F W Aa (Be (r := A6) Jo F Aa Aa (Br 0 Aa) h2).q fun a w F W => ?_
 refine ls F W Aa (AE (y := Value.agg #[.int .i64 x2.1, .int .i64 x2.2.1, .int .i64 x2.2.2.1, .int .i64 x2.2.2.2.1, .int .i64 x2.2.2.2.2.1, .int .i64 x2.2.2.2.2.2]) (j := 0) (i := x1.2.2.1) F Aa Aa (Br 0 Aa) h2 Jq.to I1 Aa).q fun a w F W => ?_
 refine Bx (cs := (I5)) F W Aa KD Aa fun b2 a w F W => ?_
 refine Ba (vs := (GQ x2)) (M' := (JH b2 x2 b1 p5 q_p0 p0 v1 v2 v3)) 0 F W Aa Aa Aa I1 Aa Aa Aa Aa Aa fun w W => ?_
 refine Ae (Ac (Ai ?_))
 refine DJ [(true, 0), (true, 1), (true, 2), (true, 3), (true, 4), (true, 5), (true, 6), (true, 7), (true, 8), (true, 9), (true, 10), (true, 11), (true, 12), (true, 13), (true, 14), (true, 15), (true, 16), (true, 17), (false, 18), (false, 19), (true, 20), (true, 21), (false, 22)] (CN ⟨Y, X, w0⟩ [(some 19, q_p0, [.int .i64 p0.1.1, v1, v2, v3]), (some 18, b1, [.int .i64 p5.1, .int .i64 p5.2.1, .int .i64 p5.2.2.1, .int .i64 p5.2.2.2]), (some 18, b2, [.int .i64 x2.1, .int .i64 x2.2.1, .int .i64 x2.2.2.1, .int .i64 x2.2.2.2.1, .int .i64 x2.2.2.2.2.1, .int .i64 x2.2.2.2.2.2])] []) (fun ch a d v w h => by cases d <;> exact h) MO (by kernel_rfl) W (fun w W => ⟨_, _, W, (all_cons (fun _ => (.tail _ (.tail _ (.head _)))) (all_cons (fun _ => (.tail _ (.head _))) (all_cons (fun _ => (.head _)) As))), As⟩) fun w W => ?_
 iterate 2 refine A5 (R := []) F Aa Aa (yC fun M Z hN hZ => Ad F Aa) Aa Aa fun a F => ?_
 refine A5 (R := []) F Aa Aa (yC fun M Z hN hZ => AM F Aa) Aa Aa fun a F => ?_
 refine A5 (R := []) F Aa Aa (yC fun M Z hN hZ => Ag FY Aa Aa Aa Hf F Aa 3 Aa) Aa Aa fun a F => ?_
 refine A5 (R := [19]) F Aa Aa (yC fun M Z hN hZ => Cc (cs := [.int .i64 p0.1.1, v1, v2, v3]) (v := v3) F Aa (hN ((some 19), q_p0, [.int .i64 p0.1.1, v1, v2, v3]) (.head _) Aa) Hf Aa) (by kernel_rfl) Aa fun a F => ?_
 iterate 3 refine A5 (R := []) F Aa Aa (yC fun M Z hN hZ => Ad F Aa) Aa Aa fun a F => ?_
 refine A5 (R := [18, 17]) F Aa Aa (yC fun M Z hN hZ => Cc (cs := (FB p5)) (v := Value.agg #[.int .i64 p5.1, .int .i64 p5.2.1, .int .i64 p5.2.2.1, .int .i64 p5.2.2.2]) F Aa (hN ((some 18), b1, (FB p5)) (.tail _ (.head _)) Aa) J1 Aa) (by kernel_rfl) Aa fun a F => ?_
 refine A5 (R := []) F Aa Aa (yC fun M Z hN hZ => Ad F Aa) Aa Aa fun a F => ?_
 refine A5 (R := []) F Aa Aa (yC fun M Z hN hZ => Ag Cz Aa Aa Aa T3 F Aa 4 Aa) Aa Aa fun a F => ?_
 refine A5 (R := [18, 17, 12]) F Aa Aa (yC fun M Z hN hZ => Cc (cs := (GQ x2)) (v := Value.int .i64 x2.2.2.2.2.1) F Aa (hN ((some 18), b2, (GQ x2)) (.tail _ (.tail _ (.head _))) Aa) T3 Aa) (by kernel_rfl) Aa fun a F => ?_
 refine A5 (R := []) F Aa Aa (yC fun M Z hN hZ => BN F Aa Aa Aa) Aa Aa fun a F => ?_
 refine A5 (R := []) F Aa Aa (yC fun M Z hN hZ => Ad F Aa) Aa Aa fun a F => ?_
 refine A5 (R := []) F Aa Aa (yC fun M Z hN hZ => Ag Cz Aa Aa Aa T3 F Aa 5 Aa) Aa Aa fun a F => ?_
 refine A5 (R := [18, 17, 16]) F Aa Aa (yC fun M Z hN hZ => Cc (cs := (GQ x2)) (v := Value.int .i64 x2.2.2.2.2.2) F Aa (hN ((some 18), b2, (GQ x2)) (.tail _ (.tail _ (.head _))) Aa) T3 Aa) (by kernel_rfl) Aa fun a F => ?_
 refine A5 (R := []) F Aa Aa (yC fun M Z hN hZ => BN F Aa Aa Aa) Aa Aa fun a F => ?_
 refine A5 (R := []) F Aa Aa (yC fun M Z hN hZ => Cr (v := Value.agg #[.int .i64 p4, .int .i64 x1.1, .int .i64 x1.2.1, .int .i64 p5.1, .int .i64 p5.2.1, .int .i64 p5.2.2.1, .int .i64 p5.2.2.2, .int .i64 (AD (p1 + x2.2.2.2.2.1)), .int .i64 (AD (p1 + x2.2.2.2.2.2))]) Lc F Aa Aa Aa) Aa Aa fun a F => ?_
 refine DB Aa ?_
 refine Fy (z := Value.agg #[.int .i64 0, .int .i64 0, .int .i64 0, .int .i64 0, .int .i64 0, .int .i64 0, .int .i64 0, .int .i64 0, .int .i64 0]) (cs := [.int .i64 p4, .int .i64 x1.1, .int .i64 x1.2.1, .int .i64 p5.1, .int .i64 p5.2.1, .int .i64 p5.2.2.1, .int .i64 p5.2.2.2, .int .i64 (AD (p1 + x2.2.2.2.2.1)), .int .i64 (AD (p1 + x2.2.2.2.2.2))]) AF ([(p4, x1.1, x1.2.1, p5, AD (p1 + x2.2.2.2.2.1), AD (p1 + x2.2.2.2.2.2))] : List (Int × Int × Int × (Int × Int × Int × Int) × Int × Int)) F W Aa EJ HQ Aa Aa Aa Aa Aa Aa (Ft.repL _ _ ([(p4, x1.1, x1.2.1, p5, AD (p1 + x2.2.2.2.2.1), AD (p1 + x2.2.2.2.2.2))] : List (Int × Int × Int × (Int × Int × Int × Int) × Int × Int))) fun v4 a w F W => ?_
 refine BB (N2 := []) (NZ2 := []) (N3 := [(some 19, q_p0, [.int .i64 p0.1.1, v1, v2, v3]), (some 18, b1, [.int .i64 p5.1, .int .i64 p5.2.1, .int .i64 p5.2.2.1, .int .i64 p5.2.2.2]), (some 18, b2, [.int .i64 x2.1, .int .i64 x2.2.1, .int .i64 x2.2.2.1, .int .i64 x2.2.2.2.1, .int .i64 x2.2.2.2.2.1, .int .i64 x2.2.2.2.2.2])]) (NZ3 := []) W Aa Aa (all_cons (fun _ => (.tail _ (.tail _ (.head _)))) (all_cons (fun h => AO (by kernel_rfl) h) (all_cons (fun h => AO (by kernel_rfl) h) As))) As ?_
 refine DB Aa ?_
 obtain ⟨x3, h3, H⟩ := An H
 refine DO (r := AF) (i := 3) F W Aa EJ Aa Aa Aa Aa (Ef W 0 Aa) h3 Aa fun v5 a w F W => ?_
 have W : Stw ⟨Y, X, w0⟩ (JH b2 x2 b1 p5 q_p0 p0 v1 v2 v3) [row v5 51 AF x3, row v4 51 AF ([(p4, x1.1, x1.2.1, p5, AD (p1 + x2.2.2.2.2.1), AD (p1 + x2.2.2.2.2.2))] : List (Int × Int × Int × (Int × Int × Int × Int) × Int × Int)), AC v1 A6 p0.1.2.1, AC v2 Bg p0.1.2.2] w := W
 refine BB (N2 := []) (NZ2 := []) (N3 := [(some 19, q_p0, [.int .i64 p0.1.1, v1, v2, v3]), (some 18, b1, [.int .i64 p5.1, .int .i64 p5.2.1, .int .i64 p5.2.2.1, .int .i64 p5.2.2.2]), (some 18, b2, [.int .i64 x2.1, .int .i64 x2.2.1, .int .i64 x2.2.2.1, .int .i64 x2.2.2.2.1, .int .i64 x2.2.2.2.2.1, .int .i64 x2.2.2.2.2.2])]) (NZ3 := []) W Aa Aa (all_cons (fun h => AO (by kernel_rfl) h) (all_cons (fun h => AO (by kernel_rfl) h) (all_cons (fun h => AO (by kernel_rfl) h) As))) As ?_
 refine A5 (R := []) F Aa Aa (yC fun M Z hN hZ => AM F Aa) Aa Aa fun a F => ?_
 refine A5 (R := []) F Aa Aa (yC fun M Z hN hZ => Ag FY Aa Aa Aa Hf F Aa 3 Aa) Aa Aa fun a F => ?_
 refine DB Aa ?_
 refine EM (M' := (JH b2 x2 b1 p5 q_p0 p0 v1 v2 v5)) 2 F W Aa Aa Aa Hf (W.one (k := 0) Aa) Aa Aa fun w W => ?_
 refine BB (N2 := []) (NZ2 := []) (N3 := [(some 19, q_p0, [.int .i64 p0.1.1, v1, v2, v3]), (some 18, b1, [.int .i64 p5.1, .int .i64 p5.2.1, .int .i64 p5.2.2.1, .int .i64 p5.2.2.2]), (some 18, b2, [.int .i64 x2.1, .int .i64 x2.2.1, .int .i64 x2.2.2.1, .int .i64 x2.2.2.2.1, .int .i64 x2.2.2.2.2.1, .int .i64 x2.2.2.2.2.2])]) (NZ3 := []) W Aa Aa (all_cons (fun h => AO (by kernel_rfl) h) (all_cons (fun h => AO (by kernel_rfl) h) (all_cons (fun h => AO (by kernel_rfl) h) As))) As ?_
 refine Ej (Ac (Ai (Ab ?_)))
 refine ls F W Aa (Af F Aa).q fun a w F W => ?_
 refine Ae (Ac (AB ?_))
 have H := A3 H
 subst H
 refine Bh (.inl Aa) F W Aa (Aq F Aa) ?_
 have W := W.frontZ (i := 3) Aa Aa
 have W := W.frontZ (i := 3) Aa Aa
 have W := W.frontM (i := 2) Aa Aa
 have W := W.sub (M' := [(q_p0, [.int .i64 p0.1.1, v1, v2, v5])]) (Z' := [AC v1 A6 p0.1.2.1, AC v2 Bg p0.1.2.2, row v5 51 AF x3]) (List.Sublist.cons_cons _ (List.nil_sublist _)) (List.Sublist.cons_cons _ (List.Sublist.cons_cons _ (List.Sublist.cons_cons _ (List.nil_sublist _))))
 exact ⟨((v1), (v2), (v5)), Aa, W⟩
theorem LT : Has Try.prog 18 := ⟨fun args w => Ak Try.func18 rfl (by decide) args w⟩
theorem Do : Ty Try.prog 51 true 9 := ⟨by kernel_rfl, by kernel_rfl⟩
abbrev Cm  : List Value := [.int .i64 0, .int .i64 0, .int .i64 0, .int .i64 0, .int .i64 0, .int .i64 0, .int .i64 0, .int .i64 0, .int .i64 0]
abbrev Hs (a0 : Nat) : List (Nat × List Value) := [(a0, [.int .i64 0, .int .i64 0, .int .i64 0, .int .i64 0, .int .i64 0, .int .i64 0, .int .i64 0, .int .i64 0, .int .i64 0])]
abbrev Dl (a0 : Int × Int × Int × (Int × Int × Int × Int) × Int × Int) : List Value := [.int .i64 a0.1, .int .i64 a0.2.1, .int .i64 a0.2.2.1, .int .i64 a0.2.2.2.1.1, .int .i64 a0.2.2.2.1.2.1, .int .i64 a0.2.2.2.1.2.2.1, .int .i64 a0.2.2.2.1.2.2.2, .int .i64 a0.2.2.2.2.1, .int .i64 a0.2.2.2.2.2]
abbrev KB (a0 : Nat) (a1 : Int × Int × Int × (Int × Int × Int × Int) × Int × Int) : List (Nat × List Value) := [(a0, [.int .i64 a1.1, .int .i64 a1.2.1, .int .i64 a1.2.2.1, .int .i64 a1.2.2.2.1.1, .int .i64 a1.2.2.2.1.2.1, .int .i64 a1.2.2.2.1.2.2.1, .int .i64 a1.2.2.2.1.2.2.2, .int .i64 a1.2.2.2.2.1, .int .i64 a1.2.2.2.2.2])]
noncomputable def BP (p0 : (Int × (List (Int × Int × Int × Int × Int × Int)) × (List (Int × Int))) × (List (Int × Int × Int × (Int × Int × Int × Int) × Int × Int))) (p1 : Int) : Option ((Int × Int × Int × (Int × Int × Int × Int) × Int × Int) × Int) := (if (decide (p1 < 0) || decide ((p0.2.length : Int) ≤ p1)) = true then some ((0, 0, 0, (0, 0, 0, 0), 0, 0), 7) else (ix p0.2 p1).bind fun x1 => some (x1, 0))
theorem Ew (Y : Nat → Prop) (w0 : World) (q_p0 : Nat) (v1 : Value) (v2 : Value) (v3 : Value) (p0 : (Int × (List (Int × Int × Int × Int × Int × Int)) × (List (Int × Int))) × (List (Int × Int × Int × (Int × Int × Int × Int) × Int × Int))) (p1 : Int) (r : (Int × Int × Int × (Int × Int × Int × Int) × Int × Int) × Int) (H : BP p0 p1 = some r) (h_v1 : Sl w0 (NX []) A6 v1 p0.1.2.1) (h_v2 : Sl w0 (NX []) Bg v2 p0.1.2.2) (h_v3 : Sl w0 (NX []) AF v3 p0.2) (a_q_p0 : At ⟨Y, [], w0⟩ q_p0 0 [.int .i64 p0.1.1, v1, v2, v3]) :
    Calls Try.prog 19 #[.pointer (some ⟨q_p0, 0, none⟩), .int .i64 p1] w0 fun e w' => e = .returned (.tuple #[.agg #[.int .i64 r.1.1, .int .i64 r.1.2.1, .int .i64 r.1.2.2.1, .int .i64 r.1.2.2.2.1.1, .int .i64 r.1.2.2.2.1.2.1, .int .i64 r.1.2.2.2.1.2.2.1, .int .i64 r.1.2.2.2.1.2.2.2, .int .i64 r.1.2.2.2.2.1, .int .i64 r.1.2.2.2.2.2], .int .i64 r.2]) ∧ Below w0.heap.size w0 w' := by
 refine enter Try.func19 Aa Try.ntmps19 Aa fun a F => ?_
 have W := Stw.start Y w0
 unfold BP at H
 refine Ai (Ab ?_)
 refine Bx (cs := (Cm)) F W Aa HQ Aa fun b1 a w F W => ?_
 refine ls F W Aa (Af F Aa).q fun a w F W => ?_
 refine Ae (Ac (Ai (Ai (Ab ?_))))
 refine ls F W Aa (Ad F Aa).q fun a w F W => ?_
 refine ls F W Aa (Cx HK F Aa Aa).q fun a w F W => ?_
 refine Ae (Ac ?_)
 refine D6 F Aa ?_
 refine Ap (Ac (Ai ?_))
 refine AN (fun a w => Fr 28 [] [(0, .pointer (some ⟨q_p0, 0, none⟩)), (1, .int .i64 p1), (4, .pointer (some ⟨b1, 0, none⟩)), (5, .int .i64 0), (19, .bool (decide (p1 < 0) || decide ((p0.2.length : Int) ≤ p1)))] a ∧ Stw ⟨Y, [], w0⟩ (Hs b1) [] w) ?_ ?_
 ·
  refine Ab ?_
  refine ls F W Aa (Ad F Aa).q fun a w F W => ?_
  refine ls F W Aa (BD F Aa Aa).q fun a w F W => ?_
  refine ls F W Aa (Ad F Aa).q fun a w F W => ?_
  rcases Bool.eq_false_or_eq_true (decide (p1 < 0)) with hb0 | hb0
  ·
   rw [hb0] at F
   iterate 7 refine BX F Aa Aa Aa Aa Aa Aa Aa fun a F => ?_
   refine ls F W Aa (Ao F Aa Aa Aa).q fun a w F W => ?_
   refine Ae (Ac ?_)
   exact ⟨F.re ⟨rfl, Aa, Aa, Aa, (DZ (by try rw [hb0]; all_goals simp only [DT])), trivial⟩, W⟩
  rw [hb0] at F
  iterate 2 refine Az F W (Ah F Aa Aa Aa Aa) Aa (Am Aa) (Ad F Aa).q fun a w F W => ?_
  refine Az F W (Ah F Aa Aa Aa Aa) Aa (Am Aa) (AM F Aa).q fun a w F W => ?_
  refine Az F W (Ah F Aa Aa Aa Aa) Aa (Am Aa) (Ag FY Aa Aa Aa Hf F Aa 3 Aa).q fun a w F W => ?_
  refine Az F W (Ah F Aa Aa Aa Aa) Aa (Am Aa) (CD (y := v3) (j := 3) F Aa (Nat.zero_add _).symm a_q_p0 Hf Aa).q fun a w F W => ?_
  refine Az F W (Ah F Aa Aa Aa Aa) Aa (Am Aa) (Cg (r := AF) (l := p0.2) Gf Aa F Aa (Av h_v3)).q fun a w F W => ?_
  refine Az F W (Ah F Aa Aa Aa Aa) Aa (Am Aa) (FC F Aa Aa).q fun a w F W => ?_
  refine ls F W Aa (Aj F Aa Aa Aa).q fun a w F W => ?_
  refine Ae (Ac ?_)
  exact ⟨F.re ⟨rfl, Aa, Aa, Aa, (DZ (by try rw [hb0]; all_goals simp only [DT])), trivial⟩, W⟩
 rintro a w ⟨F, W⟩
 refine Ay F Aa (fun hb => ?_) fun hb => ?_
 ·
  have H := A8 hb H
  rw [hb] at F
  clear hb
  refine Ai (Ab ?_)
  refine ls F W Aa (Cr (v := Value.agg #[.int .i64 0, .int .i64 0, .int .i64 0, .int .i64 0, .int .i64 0, .int .i64 0, .int .i64 0, .int .i64 0, .int .i64 0]) Lc F Aa Aa Aa).q fun a w F W => ?_
  refine Ba (vs := (Cm)) (M' := (Hs b1)) 0 F W Aa Aa Aa Do Aa Aa Aa Aa Aa fun w W => ?_
  refine ls F W Aa (Af F Aa).q fun a w F W => ?_
  refine Ae (Ac (AB (AQ ?_)))
  have H := A3 H
  subst H
  refine Ez (.inl Aa) F W Aa (Dc 0 F Aa Aa Do Aa) (Aq F Aa) ?_
  exact ⟨rfl, W.done⟩
 have H := A9 (by rw [hb]; decide) H
 rw [hb] at F
 clear hb
 refine Ap (Ac (Ai (Ab ?_)))
 refine ls F W Aa (Ad F Aa).q fun a w F W => ?_
 refine ls F W Aa (AM F Aa).q fun a w F W => ?_
 refine ls F W Aa (Ag FY Aa Aa Aa Hf F Aa 3 Aa).q fun a w F W => ?_
 refine ls F W Aa (CD (y := v3) (j := 3) F Aa (Nat.zero_add _).symm a_q_p0 Hf Aa).q fun a w F W => ?_
 refine ls F W Aa (Ad F Aa).q fun a w F W => ?_
 obtain ⟨x1, h1, H⟩ := An H
 refine ls F W Aa (Be (r := AF) EJ F Aa Aa (Av h_v3) h1).q fun a w F W => ?_
 refine ls F W Aa (AE (y := Value.agg #[.int .i64 x1.1, .int .i64 x1.2.1, .int .i64 x1.2.2.1, .int .i64 x1.2.2.2.1.1, .int .i64 x1.2.2.2.1.2.1, .int .i64 x1.2.2.2.1.2.2.1, .int .i64 x1.2.2.2.1.2.2.2, .int .i64 x1.2.2.2.2.1, .int .i64 x1.2.2.2.2.2]) (j := 0) (i := p1) F Aa Aa (Av h_v3) h1 Ft.to Do Aa).q fun a w F W => ?_
 refine Ba (vs := (Dl x1)) (M' := (KB b1 x1)) 0 F W Aa Aa Aa Do Aa Aa Aa Aa Aa fun w W => ?_
 refine ls F W Aa (Af F Aa).q fun a w F W => ?_
 refine Ae (Ac (AB ?_))
 have H := A3 H
 subst H
 refine Ez (.inl Aa) F W Aa (Dc 0 F Aa Aa Do Aa) (Aq F Aa) ?_
 exact ⟨rfl, W.done⟩
theorem LQ : Has Try.prog 19 := ⟨fun args w => Ak Try.func19 rfl (by decide) args w⟩
noncomputable def Bc (p0 : List (Int × Int × Int × (Int × Int × Int × Int) × Int × Int)) (p1 : Int) (p2 : Int) : Option (List (Int × Int × Int × (Int × Int × Int × Int) × Int × Int)) := (Dd p0 p1 p2).bind fun x1 => (if p1 = p2 then some p0 else (Dd p0 0 p1).bind fun x2 => (Dd p0 p2 (p0.length : Int)).bind fun x3 => (Iq p0 (x2.length : Int) x3).bind fun x4 => (Dd x4 0 ((x2.length : Int) + (x3.length : Int))).bind fun x5 => (Dd x4 (x5.length : Int) (p0.length : Int)).bind fun x6 => (Iq x4 (x5.length : Int) (List.replicate (x6.length) ((0, 0, 0, (0, 0, 0, 0), 0, 0) : Int × Int × Int × (Int × Int × Int × Int) × Int × Int))).bind fun x7 => some x5)
theorem Dz (Y : Nat → Prop) (X : List Nat) (w0 : World) (v1 : Value) (p0 : List (Int × Int × Int × (Int × Int × Int × Int) × Int × Int)) (p1 : Int) (p2 : Int) (r : (List (Int × Int × Int × (Int × Int × Int × Int) × Int × Int))) (H : Bc p0 p1 p2 = some r) (hL : Stw ⟨Y, X, w0⟩ [] [row v1 51 AF p0] w0) :
    Calls Try.prog 32 #[v1, .int .i64 p1, .int .i64 p2] w0 fun e w' => ∃ x : Value, e = .returned (x) ∧ Stw ⟨Y, X, w0⟩ [] [row (x) 51 AF r] w' := by
 refine enter Try.func32 Aa Try.ntmps32 Aa fun a F => ?_
 have W := hL
 unfold Bc at H
 refine Ai (Ab ?_)
 refine ls F W Aa (Af F Aa).q fun a w F W => ?_
 refine Ae (Ac (Ai (Ab ?_)))
 iterate 4 refine ls F W Aa (Ad F Aa).q fun a w F W => ?_
 refine ls F W Aa (Cg (r := AF) (l := p0) Gf Aa F Aa (AA 0 Aa)).q fun a w F W => ?_
 obtain ⟨x1, h1, H⟩ := An H
 refine ls F W Aa (Jv (r := AF) EJ F Aa Aa Aa Aa Aa (AA 0 Aa) h1).q fun a w F W => ?_
 refine Ae (Ac (Ai (Ai (Ab ?_))))
 iterate 2 refine ls F W Aa (Ad F Aa).q fun a w F W => ?_
 refine ls F W Aa (BQ F Aa Aa).q fun a w F W => ?_
 refine Ae (Ac ?_)
 refine Ay F Aa (fun hb => ?_) fun hb => ?_
 ·
  have H := A8 (BI hb) H
  rw [hb] at F
  clear hb
  refine Ai (Ab ?_)
  refine ls F W Aa (Ad F Aa).q fun a w F W => ?_
  refine ls F W Aa (Af F Aa).q fun a w F W => ?_
  refine Ae (Ac (AB (AQ ?_)))
  have H := A3 H
  subst H
  refine Bh (.inl Aa) F W Aa (Aq F Aa) ?_
  exact ⟨(v1), Aa, W⟩
 have H := A9 (BH hb) H
 rw [hb] at F
 clear hb
 refine Ap (Ac (Ai (Ab ?_)))
 refine ls F W Aa (Ad F Aa).q fun a w F W => ?_
 refine ls F W Aa (Cg (r := AF) (l := p0) Gf Aa F Aa (AA 0 Aa)).q fun a w F W => ?_
 refine ls F W Aa (Af F Aa).q fun a w F W => ?_
 refine Ae (Ac (Ai ?_))
 refine JO 6 W MO (by kernel_rfl) ?_
 iterate 2 refine qs F Aa (Ad F Aa).q fun a F => ?_
 obtain ⟨x2, h2, H⟩ := An H
 refine qs F Aa (IE (r := AF) EJ F Aa Aa Aa (AA 0 Aa) h2).q fun a F => ?_
 iterate 2 refine qs F Aa (Ad F Aa).q fun a F => ?_
 obtain ⟨x3, h3, H⟩ := An H
 refine qs F Aa (IE (r := AF) EJ F Aa Aa Aa (AA 0 Aa) h3).q fun a F => ?_
 refine Cw fun w W => ?_
 obtain ⟨x4, h4, H⟩ := An H
 obtain ⟨x5, h5, H⟩ := An H
 refine Id (r := AF) (v := v1) (k := 0) F W Aa EJ Aa Aa Aa Aa h2 (HS.sub (Ef W 0 Aa) h3) h4 fun a w F W => ?_
 have W : Stw ⟨Y, X, w0⟩ [] [row v1 51 AF x4] w := W
 refine ls F W Aa (Af F Aa).q fun a w F W => ?_
 refine Ae (Ac (Ai (Ab ?_)))
 iterate 2 refine ls F W Aa (Ad F Aa).q fun a w F W => ?_
 refine ls F W Aa (Cg (r := AF) (l := x5) Gf Aa F Aa (KA (AA 0 Aa) h5)).q fun a w F W => ?_
 refine ls F W Aa (Ad F Aa).q fun a w F W => ?_
 obtain ⟨x6, h6, H⟩ := An H
 refine ls F W Aa (Ic (r := AF) EJ F Aa Aa Aa (AA 0 Aa) h6).q fun a w F W => ?_
 obtain ⟨x7, h7, H⟩ := An H
 refine Kv (r := AF) (v := v1) (k := 0) ((0, 0, 0, (0, 0, 0, 0), 0, 0) : Int × Int × Int × (Int × Int × Int × Int) × Int × Int) F W EJ HQ Aa Aa Aa h6 (fun w A => Ft.mk' w A ((0, 0, 0, (0, 0, 0, 0), 0, 0) : Int × Int × Int × (Int × Int × Int × Int) × Int × Int)) h7 fun w W => ?_
 have h8 := Kg h7 (Int.le_of_eq (JP h5).symm) h5
 have W : Stw ⟨Y, X, w0⟩ [] [row v1 51 AF x7] w := W
 refine Ae (Ac (Ai (Ab ?_)))
 refine ls F W Aa (Ad F Aa).q fun a w F W => ?_
 refine ls F W Aa (Af F Aa).q fun a w F W => ?_
 refine Ae (Ac (AB ?_))
 have H := A3 H
 subst H
 refine Bh (.inl Aa) F W Aa (Aq F Aa) ?_
 have W := W.subRow (k := 0) Aa Aa h8
 exact ⟨((BU v1 (0 : Int) ((x2.length : Int) + (x3.length : Int)) 9)), Aa, W⟩
theorem M7 : Has Try.prog 32 := ⟨fun args w => Ak Try.func32 rfl (by decide) args w⟩
abbrev El (a0 : (Int × Int × Int × (Int × Int × Int × Int) × Int × Int) × Int) : List Value := [.int .i64 a0.1.1, .int .i64 a0.1.2.1, .int .i64 a0.1.2.2.1, .int .i64 a0.1.2.2.2.1.1, .int .i64 a0.1.2.2.2.1.2.1, .int .i64 a0.1.2.2.2.1.2.2.1, .int .i64 a0.1.2.2.2.1.2.2.2, .int .i64 a0.1.2.2.2.2.1, .int .i64 a0.1.2.2.2.2.2]
abbrev Gm (a0 : Nat) (a1 : (Int × Int × Int × (Int × Int × Int × Int) × Int × Int) × Int) (a2 : Nat) (a3 : Nat) (a4 : (Int × (List (Int × Int × Int × Int × Int × Int)) × (List (Int × Int))) × (List (Int × Int × Int × (Int × Int × Int × Int) × Int × Int))) (a5 : Value) (a6 : Value) (a7 : Value) : List (Nat × List Value) := [(a0, [.int .i64 a1.1.1, .int .i64 a1.1.2.1, .int .i64 a1.1.2.2.1, .int .i64 a1.1.2.2.2.1.1, .int .i64 a1.1.2.2.2.1.2.1, .int .i64 a1.1.2.2.2.1.2.2.1, .int .i64 a1.1.2.2.2.1.2.2.2, .int .i64 a1.1.2.2.2.2.1, .int .i64 a1.1.2.2.2.2.2]), (a2, [.int .i64 0, .int .i64 0, .int .i64 0, .int .i64 0, .int .i64 0, .int .i64 0, .int .i64 0, .int .i64 0, .int .i64 0]), (a3, [.int .i64 a4.1.1, a5, a6, a7])]
abbrev KF (a0 : Nat) (a1 : (Int × Int × Int × (Int × Int × Int × Int) × Int × Int) × Int) (a2 : Nat) (a3 : Nat) (a4 : (Int × (List (Int × Int × Int × Int × Int × Int)) × (List (Int × Int))) × (List (Int × Int × Int × (Int × Int × Int × Int) × Int × Int))) (a5 : Value) (a6 : Value) (a7 : Value) : List (Nat × List Value) := [(a0, [.int .i64 a1.1.1, .int .i64 a1.1.2.1, .int .i64 a1.1.2.2.1, .int .i64 a1.1.2.2.2.1.1, .int .i64 a1.1.2.2.2.1.2.1, .int .i64 a1.1.2.2.2.1.2.2.1, .int .i64 a1.1.2.2.2.1.2.2.2, .int .i64 a1.1.2.2.2.2.1, .int .i64 a1.1.2.2.2.2.2]), (a2, [.int .i64 a1.1.1, .int .i64 a1.1.2.1, .int .i64 a1.1.2.2.1, .int .i64 a1.1.2.2.2.1.1, .int .i64 a1.1.2.2.2.1.2.1, .int .i64 a1.1.2.2.2.1.2.2.1, .int .i64 a1.1.2.2.2.1.2.2.2, .int .i64 a1.1.2.2.2.2.1, .int .i64 a1.1.2.2.2.2.2]), (a3, [.int .i64 a4.1.1, a5, a6, a7])]
noncomputable def B4 (p0 : (Int × (List (Int × Int × Int × Int × Int × Int)) × (List (Int × Int))) × (List (Int × Int × Int × (Int × Int × Int × Int) × Int × Int))) (p1 : Int) (p2 : Int) : Option ((Int × Int × Int × (Int × Int × Int × Int) × Int × Int) × Int × ((Int × (List (Int × Int × Int × Int × Int × Int)) × (List (Int × Int))) × (List (Int × Int × Int × (Int × Int × Int × Int) × Int × Int)))) := (BP p0 p2).bind fun x1 => (if x1.2 ≠ 0 then some ((0, 0, 0, (0, 0, 0, 0), 0, 0), x1.2, p0) else (if p1 < x1.1.2.2.2.2.1 then some ((0, 0, 0, (0, 0, 0, 0), 0, 0), 15, p0) else (Bc p0.2 p2 (AD (p2 + 1))).bind fun x2 => some (x1.1, 0, (p0.1, x2))))
theorem DN (Y : Nat → Prop) (X : List Nat) (w0 : World) (q_p0 : Nat) (v1 : Value) (v2 : Value) (v3 : Value) (p0 : (Int × (List (Int × Int × Int × Int × Int × Int)) × (List (Int × Int))) × (List (Int × Int × Int × (Int × Int × Int × Int) × Int × Int))) (p1 : Int) (p2 : Int) (r : (Int × Int × Int × (Int × Int × Int × Int) × Int × Int) × Int × ((Int × (List (Int × Int × Int × Int × Int × Int)) × (List (Int × Int))) × (List (Int × Int × Int × (Int × Int × Int × Int) × Int × Int)))) (H : B4 p0 p1 p2 = some r) (hL : Stw ⟨Y, X, w0⟩ [(q_p0, [.int .i64 p0.1.1, v1, v2, v3])] [AC v1 A6 p0.1.2.1, AC v2 Bg p0.1.2.2, row v3 51 AF p0.2] w0) :
    Calls Try.prog 16 #[.pointer (some ⟨q_p0, 0, none⟩), .int .i64 p1, .int .i64 p2] w0 fun e w' => ∃ x : Value × Value × Value, e = .returned (.tuple #[.agg #[.int .i64 r.1.1, .int .i64 r.1.2.1, .int .i64 r.1.2.2.1, .int .i64 r.1.2.2.2.1.1, .int .i64 r.1.2.2.2.1.2.1, .int .i64 r.1.2.2.2.1.2.2.1, .int .i64 r.1.2.2.2.1.2.2.2, .int .i64 r.1.2.2.2.2.1, .int .i64 r.1.2.2.2.2.2], .int .i64 r.2.1]) ∧ Stw ⟨Y, X, w0⟩ [(q_p0, [.int .i64 r.2.2.1.1, x.1, x.2.1, x.2.2])] [AC (x.1) A6 r.2.2.1.2.1, AC (x.2.1) Bg r.2.2.1.2.2, row (x.2.2) 51 AF r.2.2.2] w' := by
 refine enter Try.func16 Aa Try.ntmps16 Aa fun a F => ?_
 have W := hL
 unfold B4 at H
 refine Ai (Ab ?_)
 refine Bx (cs := (Cm)) F W Aa HQ Aa fun b1 a w F W => ?_
 refine ls F W Aa (Af F Aa).q fun a w F W => ?_
 refine Ae (Ac (Ai (Ab ?_)))
 iterate 2 refine ls F W Aa (Ad F Aa).q fun a w F W => ?_
 obtain ⟨x1, h1, H⟩ := An H
 refine ls F W Aa (Bv (v := Value.tuple #[.agg #[.int .i64 x1.1.1, .int .i64 x1.1.2.1, .int .i64 x1.1.2.2.1, .int .i64 x1.1.2.2.2.1.1, .int .i64 x1.1.2.2.2.1.2.1, .int .i64 x1.1.2.2.2.1.2.2.1, .int .i64 x1.1.2.2.2.1.2.2.2, .int .i64 x1.1.2.2.2.2.1, .int .i64 x1.1.2.2.2.2.2], .int .i64 x1.2]) F LQ Aa (fun w W => Ew any w q_p0 (v1) (v2) (v3) p0 p2 _ h1 (((Br 0 Aa) : CY _ _ _ _ _ _) w W).nx (((Br 1 Aa) : CY _ _ _ _ _ _) w W).nx (((AA 2 Aa) : CY _ _ _ _ _ _) w W).nx (GD W 1 Aa))) fun a w F W => ?_
 refine ls F W Aa (Ad F Aa).q fun a w F W => ?_
 refine ls F W Aa (AK (v := Value.agg #[.int .i64 x1.1.1, .int .i64 x1.1.2.1, .int .i64 x1.1.2.2.1, .int .i64 x1.1.2.2.2.1.1, .int .i64 x1.1.2.2.2.1.2.1, .int .i64 x1.1.2.2.2.1.2.2.1, .int .i64 x1.1.2.2.2.1.2.2.2, .int .i64 x1.1.2.2.2.2.1, .int .i64 x1.1.2.2.2.2.2]) F Aa Aa).q fun a w F W => ?_
 refine ls F W Aa (AK (v := Value.int .i64 x1.2) F Aa Aa).q fun a w F W => ?_
 refine Bx (cs := (Cm)) F W Aa HQ Aa fun b2 a w F W => ?_
 refine Ba (vs := (El x1)) (M' := (Gm b2 x1 b1 q_p0 p0 v1 v2 v3)) 0 F W Aa Aa Aa Do Aa Aa Aa Aa Aa fun w W => ?_
 refine ls F W Aa (Af F Aa).q fun a w F W => ?_
 refine Ae (Ac (Ai (Ai (Ab ?_))))
 refine ls F W Aa (Ad F Aa).q fun a w F W => ?_
 refine ls F W Aa (Fk F Aa Aa).q fun a w F W => ?_
 refine Ae (Ac ?_)
 refine Ay F Aa (fun hb => ?_) fun hb => ?_
 ·
  have H := A8 (BI hb) H
  rw [hb] at F
  clear hb
  refine Ai (Ab ?_)
  refine ls F W Aa (Cr (v := Value.agg #[.int .i64 0, .int .i64 0, .int .i64 0, .int .i64 0, .int .i64 0, .int .i64 0, .int .i64 0, .int .i64 0, .int .i64 0]) Lc F Aa Aa Aa).q fun a w F W => ?_
  refine ls F W Aa (Ad F Aa).q fun a w F W => ?_
  refine Ba (vs := (Cm)) (M' := (Gm b2 x1 b1 q_p0 p0 v1 v2 v3)) 1 F W Aa Aa Aa Do Aa Aa Aa Aa Aa fun w W => ?_
  refine ls F W Aa (Af F Aa).q fun a w F W => ?_
  refine Ae (Ac (AB (AQ ?_)))
  have H := A3 H
  subst H
  refine Ez (.inl Aa) F W Aa (Dc 1 F Aa Aa Do Aa) (Aq F Aa) ?_
  have W := W.frontZ (i := 2) Aa Aa
  have W := W.frontZ (i := 2) Aa Aa
  have W := W.frontZ (i := 2) Aa Aa
  have W := W.frontM (i := 2) Aa Aa
  have W := W.sub (M' := [(q_p0, [.int .i64 p0.1.1, v1, v2, v3])]) (Z' := [AC v1 A6 p0.1.2.1, AC v2 Bg p0.1.2.2, row v3 51 AF p0.2]) (List.Sublist.cons_cons _ (List.nil_sublist _)) (List.Sublist.refl _)
  exact ⟨((v1), (v2), (v3)), Aa, W⟩
 have H := A9 (BH hb) H
 rw [hb] at F
 clear hb
 refine Ap (Ac (Ai (Ai (Ab ?_))))
 refine ls F W Aa (Ad F Aa).q fun a w F W => ?_
 refine ls F W Aa (Ag FL Aa Aa Aa T3 F Aa 7 Aa).q fun a w F W => ?_
 refine ls F W Aa (Al (v := Value.int .i64 x1.1.2.2.2.2.1) 0 F Aa Aa T3 Aa).q fun a w F W => ?_
 refine ls F W Aa (BD F Aa Aa).q fun a w F W => ?_
 refine Ae (Ac ?_)
 refine Ay F Aa (fun hb => ?_) fun hb => ?_
 ·
  have H := A8 (BI hb) H
  rw [hb] at F
  clear hb
  refine Ai (Ab ?_)
  refine ls F W Aa (Cr (v := Value.agg #[.int .i64 0, .int .i64 0, .int .i64 0, .int .i64 0, .int .i64 0, .int .i64 0, .int .i64 0, .int .i64 0, .int .i64 0]) Lc F Aa Aa Aa).q fun a w F W => ?_
  refine Ba (vs := (Cm)) (M' := (Gm b2 x1 b1 q_p0 p0 v1 v2 v3)) 1 F W Aa Aa Aa Do Aa Aa Aa Aa Aa fun w W => ?_
  refine ls F W Aa (Af F Aa).q fun a w F W => ?_
  refine Ae (Ac (AB (AQ ?_)))
  have H := A3 H
  subst H
  refine Ez (.inl Aa) F W Aa (Dc 1 F Aa Aa Do Aa) (Aq F Aa) ?_
  have W := W.frontZ (i := 2) Aa Aa
  have W := W.frontZ (i := 2) Aa Aa
  have W := W.frontZ (i := 2) Aa Aa
  have W := W.frontM (i := 2) Aa Aa
  have W := W.sub (M' := [(q_p0, [.int .i64 p0.1.1, v1, v2, v3])]) (Z' := [AC v1 A6 p0.1.2.1, AC v2 Bg p0.1.2.2, row v3 51 AF p0.2]) (List.Sublist.cons_cons _ (List.nil_sublist _)) (List.Sublist.refl _)
  exact ⟨((v1), (v2), (v3)), Aa, W⟩
 have H := A9 (BH hb) H
 rw [hb] at F
 clear hb
 refine Ap (Ac (Ai (Ab ?_)))
 iterate 2 refine ls F W Aa (Ad F Aa).q fun a w F W => ?_
 refine ls F W Aa (AM F Aa).q fun a w F W => ?_
 refine ls F W Aa (Ag FY Aa Aa Aa Hf F Aa 3 Aa).q fun a w F W => ?_
 refine ls F W Aa (Al (v := v3) 2 F Aa Aa Hf Aa).q fun a w F W => ?_
 iterate 2 refine ls F W Aa (Ad F Aa).q fun a w F W => ?_
 refine ls F W Aa (BN F Aa Aa Aa).q fun a w F W => ?_
 obtain ⟨x2, h2, H⟩ := An H
 have W := W.frontZ (i := 2) Aa Aa
 refine Bq (Ml := []) (Zl := [row v3 51 AF p0.2]) (M := (Gm b2 x1 b1 q_p0 p0 v1 v2 v3)) (Z := [AC v1 A6 p0.1.2.1, AC v2 Bg p0.1.2.2]) (β := Value) (rv := fun x => x) (MM := fun x => []) (ZZ := fun x => [row x 51 AF x2]) F W M7 Aa Aa (fun hL => Dz _ _ w (v3) p0.2 p2 (AD (p2 + 1)) _ h2 hL) fun x a w F W => ?_
 obtain ⟨v4, rfl⟩ : ∃ y, y = x := ⟨x, rfl⟩
 have W : Stw ⟨Y, X, w0⟩ (Gm b2 x1 b1 q_p0 p0 v1 v2 v3) [row v4 51 AF x2, AC v1 A6 p0.1.2.1, AC v2 Bg p0.1.2.2] w := W
 refine ls F W Aa (AM F Aa).q fun a w F W => ?_
 refine ls F W Aa (Ag FY Aa Aa Aa Hf F Aa 3 Aa).q fun a w F W => ?_
 refine EM (M' := (Gm b2 x1 b1 q_p0 p0 v1 v2 v4)) 2 F W Aa Aa Aa Hf (W.one (k := 0) Aa) Aa Aa fun w W => ?_
 refine Ae (Ac (Ai (Ab ?_)))
 refine ls F W Aa (Al (v := Value.agg #[.int .i64 x1.1.1, .int .i64 x1.1.2.1, .int .i64 x1.1.2.2.1, .int .i64 x1.1.2.2.2.1.1, .int .i64 x1.1.2.2.2.1.2.1, .int .i64 x1.1.2.2.2.1.2.2.1, .int .i64 x1.1.2.2.2.1.2.2.2, .int .i64 x1.1.2.2.2.2.1, .int .i64 x1.1.2.2.2.2.2]) 0 F Aa Aa Do Aa).q fun a w F W => ?_
 refine Ba (vs := (El x1)) (M' := (KF b2 x1 b1 q_p0 p0 v1 v2 v4)) 1 F W Aa Aa Aa Do Aa Aa Aa Aa Aa fun w W => ?_
 refine ls F W Aa (Af F Aa).q fun a w F W => ?_
 refine Ae (Ac (AB ?_))
 have H := A3 H
 subst H
 refine Ez (.inl Aa) F W Aa (Dc 1 F Aa Aa Do Aa) (Aq F Aa) ?_
 have W := W.frontZ (i := 2) Aa Aa
 have W := W.frontZ (i := 2) Aa Aa
 have W := W.frontM (i := 2) Aa Aa
 have W := W.sub (M' := [(q_p0, [.int .i64 p0.1.1, v1, v2, v4])]) (Z' := [AC v1 A6 p0.1.2.1, AC v2 Bg p0.1.2.2, row v4 51 AF x2]) (List.Sublist.cons_cons _ (List.nil_sublist _)) (List.Sublist.refl _)
 exact ⟨((v1), (v2), (v4)), Aa, W⟩
theorem Lj : Has Try.prog 16 := ⟨fun args w => Ak Try.func16 rfl (by decide) args w⟩
def Bp (p0 : (Int × (List (Int × Int × Int × Int × Int × Int)) × (List (Int × Int))) × (List (Int × Int × Int × (Int × Int × Int × Int) × Int × Int))) : Int := (p0.2.length : Int)
theorem DX (Y : Nat → Prop) (w0 : World) (q_p0 : Nat) (v1 : Value) (v2 : Value) (v3 : Value) (p0 : (Int × (List (Int × Int × Int × Int × Int × Int)) × (List (Int × Int))) × (List (Int × Int × Int × (Int × Int × Int × Int) × Int × Int))) (r : Int) (H : Bp p0 = r) (h_v1 : Sl w0 (NX []) A6 v1 p0.1.2.1) (h_v2 : Sl w0 (NX []) Bg v2 p0.1.2.2) (h_v3 : Sl w0 (NX []) AF v3 p0.2) (a_q_p0 : At ⟨Y, [], w0⟩ q_p0 0 [.int .i64 p0.1.1, v1, v2, v3]) :
    Calls Try.prog 11 #[.pointer (some ⟨q_p0, 0, none⟩)] w0 fun e w' => e = .returned (.int .i64 r) ∧ Below w0.heap.size w0 w' := by
 refine enter Try.func11 Aa Try.ntmps11 Aa fun a F => ?_
 have W := Stw.start Y w0
 unfold Bp at H
 refine Ai (Ab ?_)
 refine ls F W Aa (Af F Aa).q fun a w F W => ?_
 refine Ae (Ac (Ai (Ai (Ab ?_))))
 refine ls F W Aa (Ad F Aa).q fun a w F W => ?_
 refine ls F W Aa (Cx HK F Aa Aa).q fun a w F W => ?_
 refine Ae (Ac ?_)
 refine D6 F Aa ?_
 refine Ap (Ac (Ai (Ab ?_)))
 refine ls F W Aa (Ad F Aa).q fun a w F W => ?_
 refine ls F W Aa (AM F Aa).q fun a w F W => ?_
 refine ls F W Aa (Ag FY Aa Aa Aa Hf F Aa 3 Aa).q fun a w F W => ?_
 refine ls F W Aa (CD (y := v3) (j := 3) F Aa (Nat.zero_add _).symm a_q_p0 Hf Aa).q fun a w F W => ?_
 refine ls F W Aa (Cg (r := AF) (l := p0.2) Gf Aa F Aa (Av h_v3)).q fun a w F W => ?_
 refine ls F W Aa (Af F Aa).q fun a w F W => ?_
 refine Ae (Ac (AB ?_))
 subst H
 refine Bh (.inl Aa) F W Aa (Aq F Aa) ?_
 exact ⟨rfl, W.done⟩
theorem LC : Has Try.prog 11 := ⟨fun args w => Ak Try.func11 rfl (by decide) args w⟩
theorem I9 : (Try.prog.underlying 9).map (fun d => match d with | .interface _ => true | _ => false) = some false := by kernel_rfl
def Cv (p0 : Int) : Bool := decide (p0 ≠ p0)
theorem E0 (Y : Nat → Prop) (w0 : World)  (p0 : Int) (r : Bool) (H : Cv p0 = r)  :
    Calls Try.prog 42 #[.int .i64 p0] w0 fun e w' => e = .returned (.bool r) ∧ Below w0.heap.size w0 w' := by
 refine enter Try.func42 Aa Try.ntmps42 Aa fun a F => ?_
 have W := Stw.start Y w0
 unfold Cv at H
 refine Ai (Ab ?_)
 refine ls F W Aa (Af F Aa).q fun a w F W => ?_
 refine Ae (Ac (Ai (Ab ?_)))
 iterate 2 refine ls F W Aa (Ad F Aa).q fun a w F W => ?_
 refine ls F W Aa (Fk F Aa Aa).q fun a w F W => ?_
 refine ls F W Aa (Af F Aa).q fun a w F W => ?_
 refine Ae (Ac (AB ?_))
 subst H
 refine Bh (.inl Aa) F W Aa (Aq F Aa) ?_
 exact ⟨rfl, W.done⟩
end Go.Proofs.Ytemacefkdopgaaa
