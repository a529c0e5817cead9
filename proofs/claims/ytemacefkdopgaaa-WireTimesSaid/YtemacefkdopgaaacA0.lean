/- The functions of layer 35, EJ. Conditions: none. -/
import Derived.Test.YtemacefkdopgaaaRows
import Derived.Test.YtemacefkdopgaaacOT
import Derived.Test.YtemacefkdopgaaacQT
import Derived.Test.YtemacefkdopgaaacOD
import Derived.Test.YtemacefkdopgaaacOC
import Derived.Test.YtemacefkdopgaaacOM
import Derived.Test.YtemacefkdopgaaacOX
namespace Go.Proofs.Ytemacefkdopgaaa
open Go Go.RowKit
set_option linter.unusedVariables false
set_option linter.unusedSimpArgs false
set_option maxRecDepth 20000
theorem Gx : type_of% Try.underlying22 := Try.underlying22
theorem HX : type_of% Try.underlying23 := Try.underlying23
theorem CZ : type_of% Try.underlying25 := Try.underlying25
theorem Cs : type_of% Try.underlying59 := Try.underlying59
theorem IC : type_of% Try.underlying75 := Try.underlying75
theorem KY : type_of% Try.underlying81 := Try.underlying81
theorem HP : type_of% Try.underlying84 := Try.underlying84
abbrev Bx : Rp (Int × Int × Int × Int × Int × Int) := (Rp.pair (Rp.int .i64) (Rp.pair (Rp.int .i64) (Rp.pair (Rp.int .i64) (Rp.pair (Rp.int .i64) (Rp.pair (Rp.int .i64) (Rp.int .i64))))))
abbrev Cb : Rp (Int × Int) := (Rp.pair (Rp.int .i64) (Rp.int .i64))
abbrev Lf : Rp (Int × Int × Int × Int) := (Rp.pair (Rp.int .i64) (Rp.pair (Rp.int .i64) (Rp.pair (Rp.int .i64) (Rp.int .i64))))
abbrev HY : Rp (Int × Int × Int × Int × Int × Int × (Int × Int × Int × Int)) := (Rp.pair (Rp.int .i64) (Rp.pair (Rp.int .i64) (Rp.pair (Rp.int .i64) (Rp.pair (Rp.int .i64) (Rp.pair (Rp.int .i64) (Rp.pair (Rp.int .i64) Lf))))))
theorem E5 : Ty Try.prog 22 false 1 := ⟨by kernel_rfl, by kernel_rfl⟩
theorem GH : Ty Try.prog 23 false 1 := ⟨by kernel_rfl, by kernel_rfl⟩
theorem My : Bt Try.prog 59 [.int .i64 0, .int .i64 0, .int .i64 0, .int .i64 0, .int .i64 0, .int .i64 0] [(0, 1), (1, 1), (2, 1), (3, 1), (4, 1), (5, 1)] := ⟨⟨.agg #[.int .i64 0, .int .i64 0, .int .i64 0, .int .i64 0, .int .i64 0, .int .i64 0], by kernel_rfl, rfl⟩, ⟨_, Cs, fun w => by kernel_rfl⟩⟩
theorem Ka : (Try.prog.info? 59).bind (·.zero) = some (.agg #[.int .i64 0, .int .i64 0, .int .i64 0, .int .i64 0, .int .i64 0, .int .i64 0]) := by kernel_rfl
def Mc (a : Int × Int × Int × Int × Int × Int) : List Value := [.int .i64 a.1, .int .i64 a.2.1, .int .i64 a.2.2.1, .int .i64 a.2.2.2.1, .int .i64 a.2.2.2.2.1, .int .i64 a.2.2.2.2.2]
theorem Jo : Fl Bx Mc := (Fl.pair Fl.int (Fl.pair Fl.int (Fl.pair Fl.int (Fl.pair Fl.int (Fl.pair Fl.int Fl.int)))))
theorem I0 : Et Try.prog 22 59 6 48 := Et.of Gx (by kernel_rfl) (by kernel_rfl) (by kernel_rfl) (by decide)
theorem Mo : Bt Try.prog 25 [.int .i64 0, .slice none 0 0, .slice none 0 0] [(0, 1), (1, 1), (2, 1)] := ⟨⟨.agg #[.int .i64 0, .slice none 0 0, .slice none 0 0], by kernel_rfl, rfl⟩, ⟨_, CZ, fun w => by kernel_rfl⟩⟩
theorem IB : Ty Try.prog 25 true 3 := ⟨by kernel_rfl, by kernel_rfl⟩
theorem T3 : Ty Try.prog 3 false 1 := ⟨by kernel_rfl, by kernel_rfl⟩
abbrev FJ (x : Int × Int) : Value := .agg #[.int .i64 x.1, .int .i64 x.2]
abbrev FS (x : Unit) : Value := .agg #[]
theorem IA : Ty Try.prog 59 true 6 := ⟨by kernel_rfl, by kernel_rfl⟩
theorem KB : Bt Try.prog 84 [.int .i64 0, .int .i64 0] [(0, 1), (1, 1)] := ⟨⟨.agg #[.int .i64 0, .int .i64 0], by kernel_rfl, rfl⟩, ⟨_, HP, fun w => by kernel_rfl⟩⟩
theorem Ld : (Try.prog.info? 84).bind (·.zero) = some (.agg #[.int .i64 0, .int .i64 0]) := by kernel_rfl
abbrev FI : Rp (Int × Int) := (Rp.pair (Rp.int .i64) (Rp.int .i64))
def Mn (a : Int × Int) : List Value := [.int .i64 a.1, .int .i64 a.2]
theorem Lw : Fl FI Mn := (Fl.pair Fl.int Fl.int)
theorem KX : Et Try.prog 81 84 2 16 := Et.of KY (by kernel_rfl) (by kernel_rfl) (by kernel_rfl) (by decide)
theorem KM : Et Try.prog 23 75 2 16 := Et.of HX (by kernel_rfl) (by kernel_rfl) (by kernel_rfl) (by decide)
def Mt (a : Int × Int) : List Value := [.int .i64 a.1, .int .i64 a.2]
theorem KV : Fl Cb Mt := (Fl.pair Fl.int Fl.int)
theorem LI : Ty Try.prog 75 true 2 := ⟨by kernel_rfl, by kernel_rfl⟩
theorem LV : (Try.prog.info? 75).bind (·.zero) = some (.agg #[.int .i64 0, .int .i64 0]) := by kernel_rfl
abbrev IU  : List Value := [.int .i64 0, .int .i64 0, .int .i64 0, .int .i64 0, .int .i64 0, .int .i64 0]
abbrev Gv (a0 : Int × Int × Int × Int × Int × Int) : List Value := [.int .i64 a0.1, .int .i64 a0.2.1, .int .i64 a0.2.2.1, .int .i64 a0.2.2.2.1, .int .i64 a0.2.2.2.2.1, .int .i64 a0.2.2.2.2.2]
abbrev Gy (a0 : Nat) (a1 : Int × Int × Int × Int × Int × Int) (a2 : Nat) (a3 : Int × (List (Int × Int × Int × Int × Int × Int)) × (List (Int × Int))) (a4 : Value) (a5 : Value) : List (Nat × List Value) := [(a0, [.int .i64 a1.1, .int .i64 a1.2.1, .int .i64 a1.2.2.1, .int .i64 a1.2.2.2.1, .int .i64 a1.2.2.2.2.1, .int .i64 a1.2.2.2.2.2]), (a2, [.int .i64 a3.1, a4, a5])]
noncomputable def Ce (p0 : Int × (List (Int × Int × Int × Int × Int × Int)) × (List (Int × Int))) : ((List (Int × Int)) × Int) → Option (((List (Int × Int)) × Int) ⊕ (List (Int × Int)))
  | (x2, x3) => (if x3 < (p0.2.1.length : Int) then (ix p0.2.1 x3).bind fun x4 => (app x2 ([(x4.1, x4.2.1), (x4.2.2.1, x4.2.2.2.1)] : List (Int × Int))).bind fun x5 => some (.inl (x5, Ay (x3 + 1))) else some (.inr x2))
noncomputable def Cg (p0 : Int × (List (Int × Int × Int × Int × Int × Int)) × (List (Int × Int))) : ((List (Int × Int)) × Int) → Option (((List (Int × Int)) × Int) ⊕ (List (Int × Int)))
  | (x7, x8) => (if x8 < (p0.2.2.length : Int) then (ix p0.2.2 x8).bind fun x9 => (app x7 ([x9] : List (Int × Int))).bind fun x10 => some (.inl (x10, Ay (x8 + 1))) else some (.inr x7))
noncomputable def CU (p0 : Int × (List (Int × Int × Int × Int × Int × Int)) × (List (Int × Int))) : Option (List (Int × Int)) := (AM (Ce p0) ([], 0)).bind fun x1 => (AM (Cg p0) (x1, 0)).bind fun x6 => some x6
theorem GK (Y : Nat → Prop) (w0 : World) (v1 : Value) (v2 : Value) (p0 : Int × (List (Int × Int × Int × Int × Int × Int)) × (List (Int × Int))) (r : (List (Int × Int))) (H : CU p0 = some r) (h_v1 : Sl w0 (NX []) Bx v1 p0.2.1) (h_v2 : Sl w0 (NX []) Cb v2 p0.2.2) :
    Calls Try.prog 35 #[.agg #[.int .i64 p0.1, v1, v2]] w0 fun e w' => ∃ x : Value, e = .returned (x) ∧ Stw ⟨Y, [], w0⟩ [] [row (x) 84 FI r] w' := by
 refine enter Try.func35 Aa Try.ntmps35 Aa fun a F => ?_
 have W := Stw.start Y w0
 unfold CU at H
 refine Ai (Ac ?_)
 refine DW (cs := [.int .i64 p0.1, v1, v2]) F W Aa Aa Aa fun b1 a w F W => ?_
 refine ls F W Aa (Ag F Aa).q fun a w F W => ?_
 refine Ae (Ab (Ai (Ac ?_)))
 refine ls F W Aa (Ag F Aa).q fun a w F W => ?_
 refine Ae (Ab ?_)
 obtain ⟨o1, G1, K1⟩ := Al H
 refine AO (fun a w => ∃ x1 : List (Int × Int), ∃ v3 : Value, some (x1) = some o1 ∧ Fr 46 [] [(1, .pointer (some ⟨b1, 0, none⟩)), (2, .slice none 0 0), (3, v3)] a ∧ Stw ⟨Y, [], w0⟩ [(b1, [.int .i64 p0.1, v1, v2])] [row v3 84 FI x1] w) ?_ ?_
 ·
  have H := G1
  clear G1 K1
  refine Ai (Ac ?_)
  refine ls F W Aa (Ah CZ Aa Aa Aa E5 F Aa 1 Aa).q fun a w F W => ?_
  refine ls F W Aa (Ao (v := v1) 0 F Aa Aa E5 Aa).q fun a w F W => ?_
  refine ls F W Aa (Cp (r := Bx) (l := p0.2.1) Gx Aa F Aa (Ap h_v1)).q fun a w F W => ?_
  refine ls F W Aa (Ad F Aa).q fun a w F W => ?_
  refine Ae (Ab (AA ?_))
  have W := W.nilRow 84 FI
  refine BG H (fun s a w => ∃ v4 : Value, Fr 46 [] [(1, .pointer (some ⟨b1, 0, none⟩)), (2, .slice none 0 0), (3, v4), (9, v1), (10, .int .i64 (p0.2.1.length : Int)), (11, .int .i64 s.2)] a ∧ Stw ⟨Y, [], w0⟩ [(b1, [.int .i64 p0.1, v1, v2])] [row v4 84 FI s.1] w) ⟨(Value.slice none 0 0), F.re ⟨rfl, Aa, Aa, Aa, Aa, Aa, trivial⟩, W⟩ fun s o a w H L2 hR => ?_
  obtain ⟨x2, x3⟩ := s
  obtain ⟨v4, F, W⟩ := hR
  have F : Fr 46 [] [(1, .pointer (some ⟨b1, 0, none⟩)), (2, .slice none 0 0), (3, v4), (9, v1), (10, .int .i64 (p0.2.1.length : Int)), (11, .int .i64 x3)] a := F
  have W : Stw ⟨Y, [], w0⟩ [(b1, [.int .i64 p0.1, v1, v2])] [row v4 84 FI x2] w := W
  rw [Ce] at H
  refine Ai (Ac ?_)
  refine ls F W Aa (Bm F Aa Aa).q fun a w F W => ?_
  refine Ae (Ab (Ai ?_))
  refine AC F Aa (fun hb => ?_) fun hb => ?_
  ·
   have H := A5 (BJ hb) H
   rw [hb] at F
   clear hb
   refine As (Ab (Ai (AA (Ai (Ac ?_)))))
   obtain ⟨x4, h1, H⟩ := Al H
   refine ls F W Aa (AW (r := Bx) I0 F Aa Aa (Ap h_v1) h1).q fun a w F W => ?_
   refine ls F W Aa (Av (y := Value.agg #[.int .i64 x4.1, .int .i64 x4.2.1, .int .i64 x4.2.2.1, .int .i64 x4.2.2.2.1, .int .i64 x4.2.2.2.2.1, .int .i64 x4.2.2.2.2.2]) (j := 0) (i := x3) F Aa Aa (Ap h_v1) h1 Jo.to IA Aa).q fun a w F W => ?_
   refine BZ (cs := (IU)) F W Aa Ka Aa fun b2 a w F W => ?_
   refine Bl (vs := (Gv x4)) (M' := (Gy b2 x4 b1 p0 v1 v2)) 0 F W Aa Aa Aa IA Aa Aa Aa Aa Aa fun w W => ?_
   refine Ae (Ab (Ac ?_))
   refine ls F W Aa (Ad F Aa).q fun a w F W => ?_
   refine ls F W Aa (Ah Cs Aa Aa Aa T3 F Aa 0 Aa).q fun a w F W => ?_
   refine ls F W Aa (Ao (v := Value.int .i64 x4.1) 0 F Aa Aa T3 Aa).q fun a w F W => ?_
   refine ls F W Aa (Ah Cs Aa Aa Aa T3 F Aa 1 Aa).q fun a w F W => ?_
   refine ls F W Aa (Ao (v := Value.int .i64 x4.2.1) 0 F Aa Aa T3 Aa).q fun a w F W => ?_
   refine ls F W Aa (Cx (v := Value.agg #[.int .i64 x4.1, .int .i64 x4.2.1]) KB F Aa Aa Aa).q fun a w F W => ?_
   refine ls F W Aa (Ah Cs Aa Aa Aa T3 F Aa 2 Aa).q fun a w F W => ?_
   refine ls F W Aa (Ao (v := Value.int .i64 x4.2.2.1) 0 F Aa Aa T3 Aa).q fun a w F W => ?_
   refine ls F W Aa (Ah Cs Aa Aa Aa T3 F Aa 3 Aa).q fun a w F W => ?_
   refine ls F W Aa (Ao (v := Value.int .i64 x4.2.2.2.1) 0 F Aa Aa T3 Aa).q fun a w F W => ?_
   refine ls F W Aa (Cx (v := Value.agg #[.int .i64 x4.2.2.1, .int .i64 x4.2.2.2.1]) KB F Aa Aa Aa).q fun a w F W => ?_
   refine EU (z := Value.agg #[.int .i64 0, .int .i64 0]) (cs := [.int .i64 x4.1, .int .i64 x4.2.1, .int .i64 x4.2.2.1, .int .i64 x4.2.2.2.1]) FI ([(x4.1, x4.2.1), (x4.2.2.1, x4.2.2.2.1)] : List (Int × Int)) F W Aa KX Ld Aa Aa Aa Aa Aa Aa (Lw.repL _ _ ([(x4.1, x4.2.1), (x4.2.2.1, x4.2.2.2.1)] : List (Int × Int))) fun v5 a w F W => ?_
   obtain ⟨x5, h2, H⟩ := Al H
   refine C9 (r := FI) (i := 1) F W Aa KX Aa Aa Aa Aa (DN W 0 Aa) h2 Aa fun v6 a w F W => ?_
   have W : Stw ⟨Y, [], w0⟩ (Gy b2 x4 b1 p0 v1 v2) [row v6 84 FI x5, row v5 84 FI ([(x4.1, x4.2.1), (x4.2.2.1, x4.2.2.2.1)] : List (Int × Int))] w := W
   refine ls F W Aa (Ag F Aa).q fun a w F W => ?_
   refine Ae (AZ (Ab (Ac ?_)))
   refine ls F W Aa (BE F Aa Aa Aa).q fun a w F W => ?_
   refine ls F W Aa (Ad F Aa).q fun a w F W => ?_
   refine Ae (Ab ?_)
   have W := W.frontM (i := 1) Aa Aa
   have W := W.sub (M' := [(b1, [.int .i64 p0.1, v1, v2])]) (Z' := [row v6 84 FI x5]) (List.Sublist.cons_cons _ (List.nil_sublist _)) (List.Sublist.cons_cons _ (List.nil_sublist _))
   exact ⟨_, H, (v6), F.re ⟨rfl, Aa, Aa, Aa, Aa, Aa, trivial⟩, W⟩
  have H := A6 (BK hb) H
  rw [hb] at F
  clear hb
  refine BF ?_
  iterate 2 refine Cf ?_
  refine BI (Ab ?_)
  have H := L2 _ H
  exact ⟨_, (v4), H, F.re ⟨rfl, Aa, Aa, trivial⟩, W⟩
 rintro a w ⟨x1, v3, hj, F, W⟩
 have hj := Bg hj
 subst hj
 have H := K1
 clear G1 K1
 obtain ⟨o3, G3, K3⟩ := Al H
 refine AO (fun a w => ∃ x6 : List (Int × Int), ∃ v7 : Value, some (x6) = some o3 ∧ Fr 46 [] [(2, .slice none 0 0), (3, v7)] a ∧ Stw ⟨Y, [], w0⟩ [(b1, [.int .i64 p0.1, v1, v2])] [row v7 84 FI x6] w) ?_ ?_
 ·
  have H := G3
  clear G3 K3
  refine Ai (Ac ?_)
  refine ls F W Aa (Ah CZ Aa Aa Aa GH F Aa 2 Aa).q fun a w F W => ?_
  refine ls F W Aa (Ao (v := v2) 0 F Aa Aa GH Aa).q fun a w F W => ?_
  refine ls F W Aa (Cp (r := Cb) (l := p0.2.2) HX Aa F Aa (Ap h_v2)).q fun a w F W => ?_
  refine ls F W Aa (Ad F Aa).q fun a w F W => ?_
  refine Ae (Ab (AA ?_))
  refine BG H (fun s a w => ∃ v8 : Value, Fr 46 [] [(2, .slice none 0 0), (3, v8), (30, v2), (31, .int .i64 (p0.2.2.length : Int)), (32, .int .i64 s.2)] a ∧ Stw ⟨Y, [], w0⟩ [(b1, [.int .i64 p0.1, v1, v2])] [row v8 84 FI s.1] w) ⟨(v3), F.re ⟨rfl, Aa, Aa, Aa, Aa, trivial⟩, W⟩ fun s o a w H L4 hR => ?_
  obtain ⟨x7, x8⟩ := s
  obtain ⟨v8, F, W⟩ := hR
  have F : Fr 46 [] [(2, .slice none 0 0), (3, v8), (30, v2), (31, .int .i64 (p0.2.2.length : Int)), (32, .int .i64 x8)] a := F
  have W : Stw ⟨Y, [], w0⟩ [(b1, [.int .i64 p0.1, v1, v2])] [row v8 84 FI x7] w := W
  rw [Cg] at H
  refine Ai (Ac ?_)
  refine ls F W Aa (Bm F Aa Aa).q fun a w F W => ?_
  refine Ae (Ab (Ai ?_))
  refine AC F Aa (fun hb => ?_) fun hb => ?_
  ·
   have H := A5 (BJ hb) H
   rw [hb] at F
   clear hb
   refine As (Ab (Ai (AA (Ai (Ac ?_)))))
   obtain ⟨x9, h3, H⟩ := Al H
   refine ls F W Aa (AW (r := Cb) KM F Aa Aa (Ap h_v2) h3).q fun a w F W => ?_
   refine ls F W Aa (Av (y := Value.agg #[.int .i64 x9.1, .int .i64 x9.2]) (j := 0) (i := x8) F Aa Aa (Ap h_v2) h3 KV.to LI Aa).q fun a w F W => ?_
   refine BZ (cs := [.int .i64 0, .int .i64 0]) F W Aa LV Aa fun b3 a w F W => ?_
   refine Bl (vs := [.int .i64 x9.1, .int .i64 x9.2]) (M' := [(b3, [.int .i64 x9.1, .int .i64 x9.2]), (b1, [.int .i64 p0.1, v1, v2])]) 0 F W Aa Aa Aa LI Aa Aa Aa Aa Aa fun w W => ?_
   refine Ae (Ab (Ac ?_))
   refine ls F W Aa (Ad F Aa).q fun a w F W => ?_
   refine ls F W Aa (Ah IC Aa Aa Aa T3 F Aa 0 Aa).q fun a w F W => ?_
   refine ls F W Aa (Ao (v := Value.int .i64 x9.1) 0 F Aa Aa T3 Aa).q fun a w F W => ?_
   refine ls F W Aa (Ah IC Aa Aa Aa T3 F Aa 1 Aa).q fun a w F W => ?_
   refine ls F W Aa (Ao (v := Value.int .i64 x9.2) 0 F Aa Aa T3 Aa).q fun a w F W => ?_
   refine ls F W Aa (Cx (v := Value.agg #[.int .i64 x9.1, .int .i64 x9.2]) KB F Aa Aa Aa).q fun a w F W => ?_
   refine EU (z := Value.agg #[.int .i64 0, .int .i64 0]) (cs := [.int .i64 x9.1, .int .i64 x9.2]) FI ([x9] : List (Int × Int)) F W Aa KX Ld Aa Aa Aa Aa Aa Aa (Lw.repL _ _ ([x9] : List (Int × Int))) fun v9 a w F W => ?_
   obtain ⟨x10, h4, H⟩ := Al H
   refine C9 (r := FI) (i := 1) F W Aa KX Aa Aa Aa Aa (DN W 0 Aa) h4 Aa fun v10 a w F W => ?_
   have W : Stw ⟨Y, [], w0⟩ [(b3, [.int .i64 x9.1, .int .i64 x9.2]), (b1, [.int .i64 p0.1, v1, v2])] [row v10 84 FI x10, row v9 84 FI ([x9] : List (Int × Int))] w := W
   refine ls F W Aa (Ag F Aa).q fun a w F W => ?_
   refine Ae (AZ (Ab (Ac ?_)))
   refine ls F W Aa (BE F Aa Aa Aa).q fun a w F W => ?_
   refine ls F W Aa (Ad F Aa).q fun a w F W => ?_
   refine Ae (Ab ?_)
   have W := W.frontM (i := 1) Aa Aa
   have W := W.sub (M' := [(b1, [.int .i64 p0.1, v1, v2])]) (Z' := [row v10 84 FI x10]) (List.Sublist.cons_cons _ (List.nil_sublist _)) (List.Sublist.cons_cons _ (List.nil_sublist _))
   exact ⟨_, H, (v10), F.re ⟨rfl, Aa, Aa, Aa, Aa, trivial⟩, W⟩
  have H := A6 (BK hb) H
  rw [hb] at F
  clear hb
  refine BF ?_
  iterate 2 refine Cf ?_
  refine BI (Ab ?_)
  have H := L4 _ H
  exact ⟨_, (v8), H, F.re ⟨rfl, Aa, trivial⟩, W⟩
 rintro a w ⟨x6, v7, hj, F, W⟩
 have hj := Bg hj
 subst hj
 have H := K3
 clear G3 K3
 refine Ai (Ac ?_)
 refine ls F W Aa (Ad F Aa).q fun a w F W => ?_
 refine ls F W Aa (Ag F Aa).q fun a w F W => ?_
 refine Ae (Ab (AN ?_))
 have H := Bg H
 subst H
 refine Bz (.inl Aa) F W Aa (Az F Aa) ?_
 have W := W.sub (M' := []) (Z' := [row v7 84 FI x6]) (List.nil_sublist _) (List.Sublist.refl _)
 exact ⟨(v7), Aa, W⟩
theorem I1 : type_of% Try.underlying3 := Try.underlying3
theorem Lu : type_of% Try.underlying85 := Try.underlying85
theorem LT : Has Try.prog 35 := ⟨fun args w => An Try.func35 rfl (by decide) args w⟩
theorem Kl : Ty Try.prog 84 true 2 := ⟨by kernel_rfl, by kernel_rfl⟩
theorem Lt (dd : Nat) (x0 : Int) (x1 : Int) (y0 : Int) (y1 : Int) (w : World) : (Op.equalIn (dd + 2) 84 (.agg #[.int .i64 x0, .int .i64 x1]) (.agg #[.int .i64 y0, .int .i64 y1])).run Try.prog w = .ok (decide (x0 = y0 ∧ x1 = y1)) w :=
  IJ (d := dd + 1) (rs := [decide (x0 = y0), decide (x1 = y1)]) HP (by kernel_rfl) ⟨rfl, Ih (d := dd + 0) rfl rfl I1 T3 rfl rfl, rfl, Ih (d := dd + 0) rfl rfl I1 T3 rfl rfl, trivial⟩ (by simp) w
theorem LG : Try.prog.eqGuardType Try.prog.depth 84 = false := by kernel_rfl
theorem Lm (x0 : Int) (x1 : Int) (y0 : Int) (y1 : Int) (w : World) : (Op.equalIn 10000 84 (.agg #[.int .i64 x0, .int .i64 x1]) (.agg #[.int .i64 y0, .int .i64 y1])).run Try.prog w = .ok (decide (x0 = y0 ∧ x1 = y1)) w := Lt 9998 x0 x1 y0 y1 w
theorem KI : KeyEnc Try.prog 84 FJ := ⟨⟨_, HP, .inl fun _ _ => rfl⟩, fun x y w => (Lm x.1 x.2 y.1 y.2 w).trans (by congr 1; exact decide_eq_decide.2 (by simp only [Prod.ext_iff])), fun b x w => Gh (m := 9999) (cs := List.toArray [.int .i64 x.1, .int .i64 x.2]) HP ⟨⟨_, HM T3 rfl, Fu (m := 9998) I1⟩, ⟨_, HM T3 rfl, Fu (m := 9998) I1⟩, trivial⟩ b w, fun x => by simp [Instr.sameBits]⟩
theorem LE : (Try.prog.info? 85).bind (·.zero) = some (.agg #[]) := by kernel_rfl
theorem LY : Ty Try.prog 85 true 0 := ⟨by kernel_rfl, by kernel_rfl⟩
theorem L7 : Bt Try.prog 85 [] [] := ⟨⟨.agg #[], by kernel_rfl, rfl⟩, ⟨_, Lu, fun w => by kernel_rfl⟩⟩
def Bf (p0 : Int × Int × Int × Int × Int × Int) : Bool := (decide (p0.1 = p0.2.2.1) || (decide (p0.2.2.2.2.1 < 1) || (decide (p0.2.2.2.2.2 < p0.2.2.2.2.1) || decide (1000 < p0.2.2.2.2.2))))
theorem FT (Y : Nat → Prop) (w0 : World)  (p0 : Int × Int × Int × Int × Int × Int) (r : Bool) (H : Bf p0 = r)  :
    Calls Try.prog 37 #[.agg #[.int .i64 p0.1, .int .i64 p0.2.1, .int .i64 p0.2.2.1, .int .i64 p0.2.2.2.1, .int .i64 p0.2.2.2.2.1, .int .i64 p0.2.2.2.2.2]] w0 fun e w' => e = .returned (.bool r) ∧ Below w0.heap.size w0 w' := by
 refine enter Try.func37 Aa Try.ntmps37 Aa fun a F => ?_
 have W := Stw.start Y w0
 unfold Bf at H
 refine Ai (Ac ?_)
 refine DW (cs := (Gv p0)) F W Aa Aa Aa fun b1 a w F W => ?_
 refine ls F W Aa (Ag F Aa).q fun a w F W => ?_
 refine Ae (Ab ?_)
 refine AO (fun a w => Fr 25 [] [(2, .bool (decide (p0.1 = p0.2.2.1) || (decide (p0.2.2.2.2.1 < 1) || (decide (p0.2.2.2.2.2 < p0.2.2.2.2.1) || decide (1000 < p0.2.2.2.2.2)))))] a ∧ Stw ⟨Y, [], w0⟩ [(b1, [.int .i64 p0.1, .int .i64 p0.2.1, .int .i64 p0.2.2.1, .int .i64 p0.2.2.2.1, .int .i64 p0.2.2.2.2.1, .int .i64 p0.2.2.2.2.2])] [] w) ?_ ?_
 ·
  refine Ac ?_
  refine ls F W Aa (Ah Cs Aa Aa Aa T3 F Aa 0 Aa).q fun a w F W => ?_
  refine ls F W Aa (Ao (v := Value.int .i64 p0.1) 0 F Aa Aa T3 Aa).q fun a w F W => ?_
  refine ls F W Aa (Ah Cs Aa Aa Aa T3 F Aa 2 Aa).q fun a w F W => ?_
  refine ls F W Aa (Ao (v := Value.int .i64 p0.2.2.1) 0 F Aa Aa T3 Aa).q fun a w F W => ?_
  refine ls F W Aa (Cm F Aa Aa).q fun a w F W => ?_
  refine ls F W Aa (Ad F Aa).q fun a w F W => ?_
  rcases Bool.eq_false_or_eq_true (decide (p0.1 = p0.2.2.1)) with hb0 | hb0
  ·
   rw [hb0] at F
   iterate 3 refine B7 F Aa Aa Aa Aa Aa Aa Aa fun a F => ?_
   refine ls F W Aa (Am F Aa Aa Aa).q fun a w F W => ?_
   refine ls F W Aa (Ad F Aa).q fun a w F W => ?_
   iterate 5 refine B7 F Aa Aa Aa Aa Aa Aa Aa fun a F => ?_
   refine ls F W Aa (Am F Aa Aa Aa).q fun a w F W => ?_
   refine ls F W Aa (Ad F Aa).q fun a w F W => ?_
   iterate 3 refine B7 F Aa Aa Aa Aa Aa Aa Aa fun a F => ?_
   refine ls F W Aa (Am F Aa Aa Aa).q fun a w F W => ?_
   refine ls F W Aa (Ag F Aa).q fun a w F W => ?_
   refine Ae (Ab ?_)
   exact ⟨F.re ⟨(Ev (by try rw [hb0]; all_goals simp only [Ez])), trivial⟩, W⟩
  rw [hb0] at F
  refine Ax F W (Af F Aa Aa Aa Aa) Aa (Aj Aa) (Ah Cs Aa Aa Aa T3 F Aa 4 Aa).q fun a w F W => ?_
  refine Ax F W (Af F Aa Aa Aa Aa) Aa (Aj Aa) (Ao (v := Value.int .i64 p0.2.2.2.2.1) 0 F Aa Aa T3 Aa).q fun a w F W => ?_
  refine Ax F W (Af F Aa Aa Aa Aa) Aa (Aj Aa) (Bm F Aa Aa).q fun a w F W => ?_
  refine ls F W Aa (Ak F Aa Aa Aa).q fun a w F W => ?_
  refine ls F W Aa (Ad F Aa).q fun a w F W => ?_
  rcases Bool.eq_false_or_eq_true (decide (p0.2.2.2.2.1 < 1)) with hb1 | hb1
  ·
   rw [hb1] at F
   iterate 5 refine B7 F Aa Aa Aa Aa Aa Aa Aa fun a F => ?_
   refine ls F W Aa (Am F Aa Aa Aa).q fun a w F W => ?_
   refine ls F W Aa (Ad F Aa).q fun a w F W => ?_
   iterate 3 refine B7 F Aa Aa Aa Aa Aa Aa Aa fun a F => ?_
   refine ls F W Aa (Am F Aa Aa Aa).q fun a w F W => ?_
   refine ls F W Aa (Ag F Aa).q fun a w F W => ?_
   refine Ae (Ab ?_)
   exact ⟨F.re ⟨(Ev (by try rw [hb1]; try rw [hb0]; all_goals simp only [Ez])), trivial⟩, W⟩
  rw [hb1] at F
  refine Ax F W (Af F Aa Aa Aa Aa) Aa (Aj Aa) (Ah Cs Aa Aa Aa T3 F Aa 5 Aa).q fun a w F W => ?_
  refine Ax F W (Af F Aa Aa Aa Aa) Aa (Aj Aa) (Ao (v := Value.int .i64 p0.2.2.2.2.2) 0 F Aa Aa T3 Aa).q fun a w F W => ?_
  refine Ax F W (Af F Aa Aa Aa Aa) Aa (Aj Aa) (Ah Cs Aa Aa Aa T3 F Aa 4 Aa).q fun a w F W => ?_
  refine Ax F W (Af F Aa Aa Aa Aa) Aa (Aj Aa) (Ao (v := Value.int .i64 p0.2.2.2.2.1) 0 F Aa Aa T3 Aa).q fun a w F W => ?_
  refine Ax F W (Af F Aa Aa Aa Aa) Aa (Aj Aa) (Bm F Aa Aa).q fun a w F W => ?_
  refine ls F W Aa (Ak F Aa Aa Aa).q fun a w F W => ?_
  refine ls F W Aa (Ad F Aa).q fun a w F W => ?_
  rcases Bool.eq_false_or_eq_true (decide (p0.2.2.2.2.2 < p0.2.2.2.2.1)) with hb2 | hb2
  ·
   rw [hb2] at F
   iterate 3 refine B7 F Aa Aa Aa Aa Aa Aa Aa fun a F => ?_
   refine ls F W Aa (Am F Aa Aa Aa).q fun a w F W => ?_
   refine ls F W Aa (Ag F Aa).q fun a w F W => ?_
   refine Ae (Ab ?_)
   exact ⟨F.re ⟨(Ev (by try rw [hb2]; try rw [hb1]; try rw [hb0]; all_goals simp only [Ez])), trivial⟩, W⟩
  rw [hb2] at F
  refine Ax F W (Af F Aa Aa Aa Aa) Aa (Aj Aa) (Ah Cs Aa Aa Aa T3 F Aa 5 Aa).q fun a w F W => ?_
  refine Ax F W (Af F Aa Aa Aa Aa) Aa (Aj Aa) (Ao (v := Value.int .i64 p0.2.2.2.2.2) 0 F Aa Aa T3 Aa).q fun a w F W => ?_
  refine Ax F W (Af F Aa Aa Aa Aa) Aa (Aj Aa) (DP F Aa Aa).q fun a w F W => ?_
  refine ls F W Aa (Ak F Aa Aa Aa).q fun a w F W => ?_
  refine ls F W Aa (Ag F Aa).q fun a w F W => ?_
  refine Ae (Ab ?_)
  exact ⟨F.re ⟨(Ev (by try rw [hb2]; try rw [hb1]; try rw [hb0]; all_goals simp only [Ez])), trivial⟩, W⟩
 rintro a w ⟨F, W⟩
 refine AN ?_
 subst H
 refine Bz (.inl Aa) F W Aa (Az F Aa) ?_
 exact ⟨rfl, W.done⟩
theorem Mh : Has Try.prog 37 := ⟨fun args w => An Try.func37 rfl (by decide) args w⟩
noncomputable def Aq (p0 : List (Int × Int × Int × Int × Int × Int)) : Int → Option (Int ⊕ (Unit ⊕ Int))
  | x1 => (if x1 < (p0.length : Int) then (ix p0 x1).bind fun x2 => (if (Bf x2) = true then some (.inr (.inr x1)) else some (.inl (Ay (x1 + 1)))) else some (.inr (.inl ())))
noncomputable def AX (p0 : List (Int × Int × Int × Int × Int × Int)) : Option Int := F3 (AM (Aq p0) 0) fun _ => some (-1)
theorem C7 (Y : Nat → Prop) (w0 : World) (v1 : Value) (p0 : List (Int × Int × Int × Int × Int × Int)) (r : Int) (H : AX p0 = some r) (h_v1 : Sl w0 (NX []) Bx v1 p0) :
    Calls Try.prog 41 #[v1, .func (.func 37) #[] #[]] w0 fun e w' => e = .returned (.int .i64 r) ∧ Below w0.heap.size w0 w' := by
 refine enter Try.func41 Aa Try.ntmps41 Aa fun a F => ?_
 have W := Stw.start Y w0
 unfold AX at H
 refine Ai (Ac ?_)
 refine ls F W Aa (Ag F Aa).q fun a w F W => ?_
 refine Ae (Ab ?_)
 obtain ⟨o1, G1, K1, L1⟩ := Jh H
 refine AO (fun a w => some (Sum.inl ()) = some o1 ∧ Fr 19 [] [(4, .int .i64 0)] a ∧ Stw ⟨Y, [], w0⟩ [] [] w) ?_ ?_
 ·
  have H := G1
  clear G1 K1
  refine Ai (Ac ?_)
  refine ls F W Aa (Ad F Aa).q fun a w F W => ?_
  refine ls F W Aa (Cp (r := Bx) (l := p0) Gx Aa F Aa (Ap h_v1)).q fun a w F W => ?_
  refine ls F W Aa (Ad F Aa).q fun a w F W => ?_
  refine Ae (Ab (AA ?_))
  refine BG H (fun s a w => Fr 19 [] [(0, v1), (1, .func (.func 37) #[] #[]), (4, .int .i64 0), (7, .int .i64 (p0.length : Int)), (8, .int .i64 s)] a ∧ Stw ⟨Y, [], w0⟩ [] [] w) ⟨F.re ⟨rfl, Aa, Aa, Aa, Aa, trivial⟩, W⟩ fun s o a w H L2 hR => ?_
  obtain ⟨x1, rfl⟩ : ∃ x, x = s := ⟨s, rfl⟩
  obtain ⟨F, W⟩ := hR
  have F : Fr 19 [] [(0, v1), (1, .func (.func 37) #[] #[]), (4, .int .i64 0), (7, .int .i64 (p0.length : Int)), (8, .int .i64 x1)] a := F
  have W : Stw ⟨Y, [], w0⟩ [] [] w := W
  rw [Aq] at H
  refine Ai (Ac ?_)
  refine ls F W Aa (Bm F Aa Aa).q fun a w F W => ?_
  refine Ae (Ab (Ai ?_))
  refine AC F Aa (fun hb => ?_) fun hb => ?_
  ·
   have H := A5 (BJ hb) H
   rw [hb] at F
   clear hb
   refine As (Ab (Ai (AA (Ai (Ac ?_)))))
   refine ls F W Aa (Ad F Aa).q fun a w F W => ?_
   refine ls F W Aa (Ag F Aa).q fun a w F W => ?_
   refine Ae (Ab (Ai (Ac ?_)))
   iterate 3 refine ls F W Aa (Ad F Aa).q fun a w F W => ?_
   obtain ⟨x2, h1, H⟩ := Al H
   refine ls F W Aa (AW (r := Bx) I0 F Aa Aa (Ap h_v1) h1).q fun a w F W => ?_
   refine ls F W Aa (Av (y := Value.agg #[.int .i64 x2.1, .int .i64 x2.2.1, .int .i64 x2.2.2.1, .int .i64 x2.2.2.2.1, .int .i64 x2.2.2.2.2.1, .int .i64 x2.2.2.2.2.2]) (j := 0) (i := x1) F Aa Aa (Ap h_v1) h1 Jo.to IA Aa).q fun a w F W => ?_
   refine ls F W Aa (E7 (ws := [.agg #[.int .i64 x2.1, .int .i64 x2.2.1, .int .i64 x2.2.2.1, .int .i64 x2.2.2.2.1, .int .i64 x2.2.2.2.2.1, .int .i64 x2.2.2.2.2.2]]) (v := Value.bool (Bf x2)) F Mh Aa (fun w W => FT any w x2 _ Aa)) fun a w F W => ?_
   refine Ae (Ab ?_)
   refine AC F Aa (fun hb => ?_) fun hb => ?_
   ·
    have H := A5 hb H
    rw [hb] at F
    clear hb
    refine Ai (Ac ?_)
    refine ls F W Aa (Ad F Aa).q fun a w F W => ?_
    refine ls F W Aa (Ag F Aa).q fun a w F W => ?_
    refine Ae (Ab (AN (BX ?_)))
    iterate 2 refine AY ?_
    refine BX (AY ?_)
    have H := L2 _ H
    have H := L1 _ H
    have H := Bg H
    subst H
    refine Bz (.inl Aa) F W Aa (Az F Aa) ?_
    exact ⟨rfl, W.done⟩
   have H := A6 (by rw [hb]; decide) H
   rw [hb] at F
   clear hb
   refine As (AZ (Ab (Ac ?_)))
   refine ls F W Aa (BE F Aa Aa Aa).q fun a w F W => ?_
   refine ls F W Aa (Ad F Aa).q fun a w F W => ?_
   refine Ae (Ab ?_)
   exact ⟨_, H, F.re ⟨rfl, Aa, Aa, Aa, Aa, trivial⟩, W⟩
  have H := A6 (BK hb) H
  rw [hb] at F
  clear hb
  refine BF ?_
  iterate 2 refine Cf ?_
  refine BI (Ab ?_)
  have H := L2 _ H
  exact ⟨H, F.re ⟨rfl, trivial⟩, W⟩
 rintro a w ⟨hj, F, W⟩
 have H := K1 _ hj
 clear hj G1 K1 L1
 refine Ai (Ac ?_)
 refine ls F W Aa (Ag F Aa).q fun a w F W => ?_
 refine Ae (Ab (AN ?_))
 have H := Bg H
 subst H
 refine Bz (.inl Aa) F W Aa (Az F Aa) ?_
 exact ⟨rfl, W.done⟩
theorem Mw : Has Try.prog 41 := ⟨fun args w => An Try.func41 rfl (by decide) args w⟩
noncomputable def AG (p0 : List (Int × Int × Int × Int × Int × Int)) : Option Bool := (AX p0).bind fun x1 => some (decide (0 ≤ x1))
theorem CS (Y : Nat → Prop) (w0 : World) (v1 : Value) (p0 : List (Int × Int × Int × Int × Int × Int)) (r : Bool) (H : AG p0 = some r) (h_v1 : Sl w0 (NX []) Bx v1 p0) :
    Calls Try.prog 36 #[v1, .func (.func 37) #[] #[]] w0 fun e w' => e = .returned (.bool r) ∧ Below w0.heap.size w0 w' := by
 refine enter Try.func36 Aa Try.ntmps36 Aa fun a F => ?_
 have W := Stw.start Y w0
 unfold AG at H
 refine Ai (Ac ?_)
 refine ls F W Aa (Ag F Aa).q fun a w F W => ?_
 refine Ae (Ab (Ai (Ac ?_)))
 iterate 2 refine ls F W Aa (Ad F Aa).q fun a w F W => ?_
 obtain ⟨x1, h1, H⟩ := Al H
 refine ls F W Aa (B3 (v := Value.int .i64 x1) F Mw Aa (fun w W => C7 any w (v1) p0 _ h1 (((Ap h_v1) : DT _ _ _ _ _ _) w W).nx)) fun a w F W => ?_
 refine ls F W Aa (Fe F Aa Aa).q fun a w F W => ?_
 refine ls F W Aa (Ag F Aa).q fun a w F W => ?_
 refine Ae (Ab (AN ?_))
 have H := Bg H
 subst H
 refine Bz (.inl Aa) F W Aa (Az F Aa) ?_
 exact ⟨rfl, W.done⟩
theorem KO : type_of% Try.underlying80 := Try.underlying80
theorem LS : Has Try.prog 36 := ⟨fun args w => An Try.func36 rfl (by decide) args w⟩
noncomputable def BM (p0 : Int × (List (Int × Int × Int × Int × Int × Int)) × (List (Int × Int))) (x2 : (List (Int × Int))) : (Int × (List ((Int × Int) × Unit))) → Option ((Int × (List ((Int × Int) × Unit))) ⊕ ((List ((Int × Int) × Unit)) ⊕ Bool))
  | (x3, x4) => (if x3 < (x2.length : Int) then (ix x2 x3).bind fun x5 => (if (decide (x5.1 < 0) || (decide (p0.1 ≤ x5.1) || (decide (x5.2 < 0) || decide (8 ≤ x5.2)))) = true then some (.inr (.inr false)) else (if ((FW x4 x5).isSome) = true then some (.inr (.inr false)) else some (.inl (Ay (x3 + 1), FU x4 x5 ())))) else some (.inr (.inl x4)))
noncomputable def De (p0 : Int × (List (Int × Int × Int × Int × Int × Int)) × (List (Int × Int))) : Option Bool := (if (decide (p0.1 < 1) || (decide (8 < p0.1) || (decide (24 < (p0.2.1.length : Int)) || decide (8 < (p0.2.2.length : Int))))) = true then some false else F3 ((CU p0).bind fun x2 => AM (BM p0 x2) (0, ([] : List ((Int × Int) × Unit)))) fun x1 => (AG p0.2.1).bind fun x6 => some (!x6))
theorem Hm (Y : Nat → Prop) (w0 : World) (v1 : Value) (v2 : Value) (p0 : Int × (List (Int × Int × Int × Int × Int × Int)) × (List (Int × Int))) (r : Bool) (H : De p0 = some r) (h_v1 : Sl w0 (NX []) Bx v1 p0.2.1) (h_v2 : Sl w0 (NX []) Cb v2 p0.2.2) :
    Calls Try.prog 20 #[.agg #[.int .i64 p0.1, v1, v2]] w0 fun e w' => e = .returned (.bool r) ∧ Below w0.heap.size w0 w' := by
 refine enter Try.func20 Aa Try.ntmps20 Aa fun a F => ?_
 have W := Stw.start Y w0
 unfold De at H
 refine Ai (Ac ?_)
 refine DW (cs := [.int .i64 p0.1, v1, v2]) F W Aa Aa Aa fun b1 a w F W => ?_
 refine ls F W Aa (Ag F Aa).q fun a w F W => ?_
 refine Ae (Ab (Ai ?_))
 refine AO (fun a w => Fr 71 [] [(1, .pointer (some ⟨b1, 0, none⟩)), (2, .bool false), (27, .bool (decide (p0.1 < 1) || (decide (8 < p0.1) || (decide (24 < (p0.2.1.length : Int)) || decide (8 < (p0.2.2.length : Int))))))] a ∧ Stw ⟨Y, [], w0⟩ [(b1, [.int .i64 p0.1, v1, v2])] [] w) ?_ ?_
 ·
  refine Ac ?_
  refine ls F W Aa (Ah CZ Aa Aa Aa T3 F Aa 0 Aa).q fun a w F W => ?_
  refine ls F W Aa (Ao (v := Value.int .i64 p0.1) 0 F Aa Aa T3 Aa).q fun a w F W => ?_
  refine ls F W Aa (Bm F Aa Aa).q fun a w F W => ?_
  refine ls F W Aa (Ad F Aa).q fun a w F W => ?_
  rcases Bool.eq_false_or_eq_true (decide (p0.1 < 1)) with hb0 | hb0
  ·
   rw [hb0] at F
   iterate 3 refine B7 F Aa Aa Aa Aa Aa Aa Aa fun a F => ?_
   refine ls F W Aa (Am F Aa Aa Aa).q fun a w F W => ?_
   refine ls F W Aa (Ad F Aa).q fun a w F W => ?_
   iterate 4 refine B7 F Aa Aa Aa Aa Aa Aa Aa fun a F => ?_
   refine ls F W Aa (Am F Aa Aa Aa).q fun a w F W => ?_
   refine ls F W Aa (Ad F Aa).q fun a w F W => ?_
   iterate 4 refine B7 F Aa Aa Aa Aa Aa Aa Aa fun a F => ?_
   refine ls F W Aa (Am F Aa Aa Aa).q fun a w F W => ?_
   refine Ae (Ab ?_)
   exact ⟨F.re ⟨rfl, Aa, (Ev (by try rw [hb0]; all_goals simp only [Ez])), trivial⟩, W⟩
  rw [hb0] at F
  refine Ax F W (Af F Aa Aa Aa Aa) Aa (Aj Aa) (Ah CZ Aa Aa Aa T3 F Aa 0 Aa).q fun a w F W => ?_
  refine Ax F W (Af F Aa Aa Aa Aa) Aa (Aj Aa) (Ao (v := Value.int .i64 p0.1) 0 F Aa Aa T3 Aa).q fun a w F W => ?_
  refine Ax F W (Af F Aa Aa Aa Aa) Aa (Aj Aa) (DP F Aa Aa).q fun a w F W => ?_
  refine ls F W Aa (Ak F Aa Aa Aa).q fun a w F W => ?_
  refine ls F W Aa (Ad F Aa).q fun a w F W => ?_
  rcases Bool.eq_false_or_eq_true (decide (8 < p0.1)) with hb1 | hb1
  ·
   rw [hb1] at F
   iterate 4 refine B7 F Aa Aa Aa Aa Aa Aa Aa fun a F => ?_
   refine ls F W Aa (Am F Aa Aa Aa).q fun a w F W => ?_
   refine ls F W Aa (Ad F Aa).q fun a w F W => ?_
   iterate 4 refine B7 F Aa Aa Aa Aa Aa Aa Aa fun a F => ?_
   refine ls F W Aa (Am F Aa Aa Aa).q fun a w F W => ?_
   refine Ae (Ab ?_)
   exact ⟨F.re ⟨rfl, Aa, (Ev (by try rw [hb0]; try rw [hb1]; all_goals simp only [Ez])), trivial⟩, W⟩
  rw [hb1] at F
  refine Ax F W (Af F Aa Aa Aa Aa) Aa (Aj Aa) (Ah CZ Aa Aa Aa E5 F Aa 1 Aa).q fun a w F W => ?_
  refine Ax F W (Af F Aa Aa Aa Aa) Aa (Aj Aa) (Ao (v := v1) 0 F Aa Aa E5 Aa).q fun a w F W => ?_
  refine Ax F W (Af F Aa Aa Aa Aa) Aa (Aj Aa) (Cp (r := Bx) (l := p0.2.1) Gx Aa F Aa (Ap h_v1)).q fun a w F W => ?_
  refine Ax F W (Af F Aa Aa Aa Aa) Aa (Aj Aa) (DP F Aa Aa).q fun a w F W => ?_
  refine ls F W Aa (Ak F Aa Aa Aa).q fun a w F W => ?_
  refine ls F W Aa (Ad F Aa).q fun a w F W => ?_
  rcases Bool.eq_false_or_eq_true (decide (24 < (p0.2.1.length : Int))) with hb2 | hb2
  ·
   rw [hb2] at F
   iterate 4 refine B7 F Aa Aa Aa Aa Aa Aa Aa fun a F => ?_
   refine ls F W Aa (Am F Aa Aa Aa).q fun a w F W => ?_
   refine Ae (Ab ?_)
   exact ⟨F.re ⟨rfl, Aa, (Ev (by try rw [hb2]; try rw [hb0]; try rw [hb1]; all_goals simp only [Ez])), trivial⟩, W⟩
  rw [hb2] at F
  refine Ax F W (Af F Aa Aa Aa Aa) Aa (Aj Aa) (Ah CZ Aa Aa Aa GH F Aa 2 Aa).q fun a w F W => ?_
  refine Ax F W (Af F Aa Aa Aa Aa) Aa (Aj Aa) (Ao (v := v2) 0 F Aa Aa GH Aa).q fun a w F W => ?_
  refine Ax F W (Af F Aa Aa Aa Aa) Aa (Aj Aa) (Cp (r := Cb) (l := p0.2.2) HX Aa F Aa (Ap h_v2)).q fun a w F W => ?_
  refine Ax F W (Af F Aa Aa Aa Aa) Aa (Aj Aa) (DP F Aa Aa).q fun a w F W => ?_
  refine ls F W Aa (Ak F Aa Aa Aa).q fun a w F W => ?_
  refine Ae (Ab ?_)
  exact ⟨F.re ⟨rfl, Aa, (Ev (by try rw [hb2]; try rw [hb0]; try rw [hb1]; all_goals simp only [Ez])), trivial⟩, W⟩
 rintro a w ⟨F, W⟩
 refine AC F Aa (fun hb => ?_) fun hb => ?_
 ·
  have H := A5 hb H
  rw [hb] at F
  clear hb
  refine Ai (Ac ?_)
  refine ls F W Aa (Ag F Aa).q fun a w F W => ?_
  refine Ae (Ab (AN (AY ?_)))
  have H := Bg H
  subst H
  refine Bz (.inl Aa) F W Aa (Az F Aa) ?_
  exact ⟨rfl, W.done⟩
 have H := A6 (by rw [hb]; decide) H
 rw [hb] at F
 clear hb
 refine As (Ab (Ai (Ac ?_)))
 refine IX FJ FS F W Aa fun b2 a w F W => ?_
 have W : Stw ⟨Y, [], w0⟩ [(b1, [.int .i64 p0.1, v1, v2])] [mp b2 FJ FS ([] : List ((Int × Int) × Unit))] w := W
 refine ls F W Aa (Ag F Aa).q fun a w F W => ?_
 refine Ae (Ab ?_)
 obtain ⟨o1, G1, K1, L1⟩ := Jh H
 refine AO (fun a w => ∃ x1 : List ((Int × Int) × Unit), some (Sum.inl x1) = some o1 ∧ Fr 71 [] [(1, .pointer (some ⟨b1, 0, none⟩)), (2, .bool false)] a ∧ Stw ⟨Y, [], w0⟩ [(b1, [.int .i64 p0.1, v1, v2])] [mp b2 FJ FS x1] w) ?_ ?_
 ·
  have H := G1
  clear G1 K1
  refine Ai (Ac ?_)
  refine ls F W Aa (Ao (v := Value.agg #[.int .i64 p0.1, v1, v2]) 0 F Aa Aa IB Aa).q fun a w F W => ?_
  obtain ⟨x2, h1, H⟩ := Al H
  refine BT (Ml := []) (Zl := []) (M := [(b1, [.int .i64 p0.1, v1, v2])]) (Z := [mp b2 FJ FS ([] : List ((Int × Int) × Unit))]) (β := Value) (rv := fun x => x) (MM := fun x => []) (ZZ := fun x => [row x 84 FI x2]) F W LT Aa Aa (fun hL => GK _ w (v1) (v2) p0 _ h1 ((Ap h_v1) w W).nx ((Ap h_v2) w W).nx) fun x a w F W => ?_
  obtain ⟨v3, rfl⟩ : ∃ y, y = x := ⟨x, rfl⟩
  have W : Stw ⟨Y, [], w0⟩ [(b1, [.int .i64 p0.1, v1, v2])] [row v3 84 FI x2, mp b2 FJ FS ([] : List ((Int × Int) × Unit))] w := W
  refine ls F W Aa (Cp (r := FI) (l := x2) KY Aa F Aa (Aw 0 Aa)).q fun a w F W => ?_
  refine ls F W Aa (Ad F Aa).q fun a w F W => ?_
  refine Ae (Ab (AA ?_))
  have W := W.frontZ (i := 1) Aa Aa
  have W := W.frontZ (i := 1) Aa Aa
  refine BG H (fun s a w => Fr 71 [] [(1, .pointer (some ⟨b1, 0, none⟩)), (2, .bool false), (3, .map (some b2)), (30, v3), (31, .int .i64 (x2.length : Int)), (32, .int .i64 s.1)] a ∧ Stw ⟨Y, [], w0⟩ [(b1, [.int .i64 p0.1, v1, v2])] [row v3 84 FI x2, mp b2 FJ FS s.2] w) ⟨F.re ⟨rfl, Aa, Aa, Aa, Aa, Aa, trivial⟩, W⟩ fun s o a w H L2 hR => ?_
  obtain ⟨x3, x4⟩ := s
  obtain ⟨F, W⟩ := hR
  have F : Fr 71 [] [(1, .pointer (some ⟨b1, 0, none⟩)), (2, .bool false), (3, .map (some b2)), (30, v3), (31, .int .i64 (x2.length : Int)), (32, .int .i64 x3)] a := F
  have W : Stw ⟨Y, [], w0⟩ [(b1, [.int .i64 p0.1, v1, v2])] [row v3 84 FI x2, mp b2 FJ FS x4] w := W
  rw [BM] at H
  refine Ai (Ac ?_)
  refine ls F W Aa (Bm F Aa Aa).q fun a w F W => ?_
  refine Ae (Ab (Ai ?_))
  refine AC F Aa (fun hb => ?_) fun hb => ?_
  ·
   have H := A5 (BJ hb) H
   rw [hb] at F
   clear hb
   refine As (Ab (Ai (AA (Ai (Ac ?_)))))
   obtain ⟨x5, h2, H⟩ := Al H
   refine ls F W Aa (AW (r := FI) KX F Aa Aa (Aw 0 Aa) h2).q fun a w F W => ?_
   refine ls F W Aa (Av (y := Value.agg #[.int .i64 x5.1, .int .i64 x5.2]) (j := 0) (i := x3) F Aa Aa (Aw 0 Aa) h2 Lw.to Kl Aa).q fun a w F W => ?_
   refine BZ (cs := [.int .i64 0, .int .i64 0]) F W Aa Ld Aa fun b3 a w F W => ?_
   refine Bl (vs := [.int .i64 x5.1, .int .i64 x5.2]) (M' := [(b3, [.int .i64 x5.1, .int .i64 x5.2]), (b1, [.int .i64 p0.1, v1, v2])]) 0 F W Aa Aa Aa Kl Aa Aa Aa Aa Aa fun w W => ?_
   refine Ae (Ab (Ai ?_))
   refine AO (fun a w => Fr 71 [] [(1, .pointer (some ⟨b1, 0, none⟩)), (2, .bool false), (3, .map (some b2)), (5, .pointer (some ⟨b3, 0, none⟩)), (30, v3), (31, .int .i64 (x2.length : Int)), (32, .int .i64 x3), (55, .bool (decide (x5.1 < 0) || (decide (p0.1 ≤ x5.1) || (decide (x5.2 < 0) || decide (8 ≤ x5.2)))))] a ∧ Stw ⟨Y, [], w0⟩ [(b3, [.int .i64 x5.1, .int .i64 x5.2]), (b1, [.int .i64 p0.1, v1, v2])] [row v3 84 FI x2, mp b2 FJ FS x4] w) ?_ ?_
   ·
    refine Ac ?_
    refine ls F W Aa (Ah HP Aa Aa Aa T3 F Aa 0 Aa).q fun a w F W => ?_
    refine ls F W Aa (Ao (v := Value.int .i64 x5.1) 0 F Aa Aa T3 Aa).q fun a w F W => ?_
    refine ls F W Aa (Bm F Aa Aa).q fun a w F W => ?_
    refine ls F W Aa (Ad F Aa).q fun a w F W => ?_
    rcases Bool.eq_false_or_eq_true (decide (x5.1 < 0)) with hb0 | hb0
    ·
     rw [hb0] at F
     iterate 5 refine B7 F Aa Aa Aa Aa Aa Aa Aa fun a F => ?_
     refine ls F W Aa (Am F Aa Aa Aa).q fun a w F W => ?_
     refine ls F W Aa (Ad F Aa).q fun a w F W => ?_
     iterate 3 refine B7 F Aa Aa Aa Aa Aa Aa Aa fun a F => ?_
     refine ls F W Aa (Am F Aa Aa Aa).q fun a w F W => ?_
     refine ls F W Aa (Ad F Aa).q fun a w F W => ?_
     iterate 3 refine B7 F Aa Aa Aa Aa Aa Aa Aa fun a F => ?_
     refine ls F W Aa (Am F Aa Aa Aa).q fun a w F W => ?_
     refine Ae (Ab ?_)
     exact ⟨F.re ⟨rfl, Aa, Aa, Aa, Aa, Aa, Aa, (Ev (by try rw [hb0]; all_goals simp only [Ez])), trivial⟩, W⟩
    rw [hb0] at F
    refine Ax F W (Af F Aa Aa Aa Aa) Aa (Aj Aa) (Ah HP Aa Aa Aa T3 F Aa 0 Aa).q fun a w F W => ?_
    refine Ax F W (Af F Aa Aa Aa Aa) Aa (Aj Aa) (Ao (v := Value.int .i64 x5.1) 0 F Aa Aa T3 Aa).q fun a w F W => ?_
    refine Ax F W (Af F Aa Aa Aa Aa) Aa (Aj Aa) (Ah CZ Aa Aa Aa T3 F Aa 0 Aa).q fun a w F W => ?_
    refine Ax F W (Af F Aa Aa Aa Aa) Aa (Aj Aa) (Ao (v := Value.int .i64 p0.1) 1 F Aa Aa T3 Aa).q fun a w F W => ?_
    refine Ax F W (Af F Aa Aa Aa Aa) Aa (Aj Aa) (Fe F Aa Aa).q fun a w F W => ?_
    refine ls F W Aa (Ak F Aa Aa Aa).q fun a w F W => ?_
    refine ls F W Aa (Ad F Aa).q fun a w F W => ?_
    rcases Bool.eq_false_or_eq_true (decide (p0.1 ≤ x5.1)) with hb1 | hb1
    ·
     rw [hb1] at F
     iterate 3 refine B7 F Aa Aa Aa Aa Aa Aa Aa fun a F => ?_
     refine ls F W Aa (Am F Aa Aa Aa).q fun a w F W => ?_
     refine ls F W Aa (Ad F Aa).q fun a w F W => ?_
     iterate 3 refine B7 F Aa Aa Aa Aa Aa Aa Aa fun a F => ?_
     refine ls F W Aa (Am F Aa Aa Aa).q fun a w F W => ?_
     refine Ae (Ab ?_)
     exact ⟨F.re ⟨rfl, Aa, Aa, Aa, Aa, Aa, Aa, (Ev (by try rw [hb1]; try rw [hb0]; all_goals simp only [Ez])), trivial⟩, W⟩
    rw [hb1] at F
    refine Ax F W (Af F Aa Aa Aa Aa) Aa (Aj Aa) (Ah HP Aa Aa Aa T3 F Aa 1 Aa).q fun a w F W => ?_
    refine Ax F W (Af F Aa Aa Aa Aa) Aa (Aj Aa) (Ao (v := Value.int .i64 x5.2) 0 F Aa Aa T3 Aa).q fun a w F W => ?_
    refine Ax F W (Af F Aa Aa Aa Aa) Aa (Aj Aa) (Bm F Aa Aa).q fun a w F W => ?_
    refine ls F W Aa (Ak F Aa Aa Aa).q fun a w F W => ?_
    refine ls F W Aa (Ad F Aa).q fun a w F W => ?_
    rcases Bool.eq_false_or_eq_true (decide (x5.2 < 0)) with hb2 | hb2
    ·
     rw [hb2] at F
     iterate 3 refine B7 F Aa Aa Aa Aa Aa Aa Aa fun a F => ?_
     refine ls F W Aa (Am F Aa Aa Aa).q fun a w F W => ?_
     refine Ae (Ab ?_)
     exact ⟨F.re ⟨rfl, Aa, Aa, Aa, Aa, Aa, Aa, (Ev (by try rw [hb1]; try rw [hb0]; try rw [hb2]; all_goals simp only [Ez])), trivial⟩, W⟩
    rw [hb2] at F
    refine Ax F W (Af F Aa Aa Aa Aa) Aa (Aj Aa) (Ah HP Aa Aa Aa T3 F Aa 1 Aa).q fun a w F W => ?_
    refine Ax F W (Af F Aa Aa Aa Aa) Aa (Aj Aa) (Ao (v := Value.int .i64 x5.2) 0 F Aa Aa T3 Aa).q fun a w F W => ?_
    refine Ax F W (Af F Aa Aa Aa Aa) Aa (Aj Aa) (Fe F Aa Aa).q fun a w F W => ?_
    refine ls F W Aa (Ak F Aa Aa Aa).q fun a w F W => ?_
    refine Ae (Ab ?_)
    exact ⟨F.re ⟨rfl, Aa, Aa, Aa, Aa, Aa, Aa, (Ev (by try rw [hb1]; try rw [hb0]; try rw [hb2]; all_goals simp only [Ez])), trivial⟩, W⟩
   rintro a w ⟨F, W⟩
   refine AC F Aa (fun hb => ?_) fun hb => ?_
   ·
    have H := A5 hb H
    rw [hb] at F
    clear hb
    refine Ai (Ac ?_)
    refine ls F W Aa (Ag F Aa).q fun a w F W => ?_
    refine Ae (Ab (AN (AY (BX ?_))))
    iterate 2 refine AY ?_
    refine BX (AY ?_)
    have H := L2 _ H
    have H := L1 _ H
    have H := Bg H
    subst H
    refine Bz (.inl Aa) F W Aa (Az F Aa) ?_
    exact ⟨rfl, W.done⟩
   have H := A6 (by rw [hb]; decide) H
   rw [hb] at F
   clear hb
   refine As (Ab (Ai (Ai (Ac ?_))))
   refine ls F W Aa (Ad F Aa).q fun a w F W => ?_
   refine ls F W Aa (Ao (v := Value.agg #[.int .i64 x5.1, .int .i64 x5.2]) 0 F Aa Aa Kl Aa).q fun a w F W => ?_
   refine ls F W Aa (II (zv := (() : Unit)) (kx := (x5 : Int × Int)) (q := 1) (E := FJ) (V := FS) F Aa Aa Aa KI KO LE).q fun a w F W => ?_
   refine ls F W Aa (Ad F Aa).q fun a w F W => ?_
   refine ls F W Aa (AU (v := Value.agg #[]) F Aa Aa).q fun a w F W => ?_
   refine ls F W Aa (AU (v := Value.bool ((FW x4 x5).isSome)) F Aa Aa).q fun a w F W => ?_
   refine BZ (cs := []) F W Aa LE Aa fun b4 a w F W => ?_
   refine Bl (vs := []) (M' := [(b4, []), (b3, [.int .i64 x5.1, .int .i64 x5.2]), (b1, [.int .i64 p0.1, v1, v2])]) 0 F W Aa Aa Aa LY Aa Aa Aa Aa Aa fun w W => ?_
   refine ls F W Aa (Ag F Aa).q fun a w F W => ?_
   refine Ae (Ab (Ai (Ac ?_)))
   refine ls F W Aa (Ad F Aa).q fun a w F W => ?_
   refine Ae (Ab ?_)
   refine AC F Aa (fun hb => ?_) fun hb => ?_
   ·
    have H := A5 hb H
    rw [hb] at F
    clear hb
    refine Ai (Ac ?_)
    refine ls F W Aa (Ag F Aa).q fun a w F W => ?_
    refine Ae (Ab (AN (AY (BX ?_))))
    iterate 2 refine AY ?_
    refine BX (AY ?_)
    have H := L2 _ H
    have H := L1 _ H
    have H := Bg H
    subst H
    refine Bz (.inl Aa) F W Aa (Az F Aa) ?_
    exact ⟨rfl, W.done⟩
   have H := A6 (by rw [hb]; decide) H
   rw [hb] at F
   clear hb
   refine As (Ab (Ac ?_))
   refine ls F W Aa (Ad F Aa).q fun a w F W => ?_
   refine ls F W Aa (Ao (v := Value.agg #[.int .i64 x5.1, .int .i64 x5.2]) 1 F Aa Aa Kl Aa).q fun a w F W => ?_
   refine ls F W Aa (Cx (v := Value.agg #[]) L7 F Aa Aa Aa).q fun a w F W => ?_
   refine I6 (q := 1) (kx := (x5 : Int × Int)) (vx := (() : Unit)) (E := FJ) (V := FS) F W Aa Aa Aa Aa Aa KI KO fun w W => ?_
   have W : Stw ⟨Y, [], w0⟩ [(b4, []), (b3, [.int .i64 x5.1, .int .i64 x5.2]), (b1, [.int .i64 p0.1, v1, v2])] [mp b2 FJ FS (FU x4 x5 ()), row v3 84 FI x2] w := W
   refine Ae (AZ (Ab (Ac ?_)))
   refine ls F W Aa (BE F Aa Aa Aa).q fun a w F W => ?_
   refine ls F W Aa (Ad F Aa).q fun a w F W => ?_
   refine Ae (Ab ?_)
   have W := W.frontZ (i := 1) Aa Aa
   have W := W.frontM (i := 2) Aa Aa
   have W := W.sub (M' := [(b1, [.int .i64 p0.1, v1, v2])]) (Z' := [row v3 84 FI x2, mp b2 FJ FS (FU x4 x5 ())]) (List.Sublist.cons_cons _ (List.nil_sublist _)) (List.Sublist.refl _)
   exact ⟨_, H, F.re ⟨rfl, Aa, Aa, Aa, Aa, Aa, trivial⟩, W⟩
  have H := A6 (BK hb) H
  rw [hb] at F
  clear hb
  refine BF ?_
  iterate 2 refine Cf ?_
  refine BI (Ab ?_)
  have W := W.frontZ (i := 1) Aa Aa
  have W := W.sub (M' := [(b1, [.int .i64 p0.1, v1, v2])]) (Z' := [mp b2 FJ FS x4]) (List.Sublist.refl _) (List.Sublist.cons_cons _ (List.nil_sublist _))
  have H := L2 _ H
  exact ⟨_, H, F.re ⟨rfl, Aa, trivial⟩, W⟩
 rintro a w ⟨x1, hj, F, W⟩
 have H := K1 _ hj
 clear hj G1 K1 L1
 refine Ai (Ac ?_)
 refine ls F W Aa (Ah CZ Aa Aa Aa E5 F Aa 1 Aa).q fun a w F W => ?_
 refine ls F W Aa (Ao (v := v1) 0 F Aa Aa E5 Aa).q fun a w F W => ?_
 obtain ⟨x6, h3, H⟩ := Al H
 refine ls F W Aa (B3 (v := Value.bool x6) F LS Aa (fun w W => CS any w (v1) p0.2.1 _ h3 (((Ap h_v1) : DT _ _ _ _ _ _) w W).nx)) fun a w F W => ?_
 refine ls F W Aa (Fc F Aa).q fun a w F W => ?_
 refine ls F W Aa (Ag F Aa).q fun a w F W => ?_
 refine Ae (Ab (AN ?_))
 have H := Bg H
 subst H
 refine Bz (.inl Aa) F W Aa (Az F Aa) ?_
 exact ⟨rfl, W.done⟩
theorem Mi : Has Try.prog 20 := ⟨fun args w => An Try.func20 rfl (by decide) args w⟩
noncomputable def A7 (p0 : List (Int × Int × Int × Int × Int × Int)) : Option (List (Int × Int × Int × Int × Int × Int)) := (app ([] : List (Int × Int × Int × Int × Int × Int)) p0).bind fun x1 => some x1
theorem Dr (Y : Nat → Prop) (w0 : World) (v1 : Value) (p0 : List (Int × Int × Int × Int × Int × Int)) (r : (List (Int × Int × Int × Int × Int × Int))) (H : A7 p0 = some r) (s_v1 : Sl w0 Y Bx v1 p0) :
    Calls Try.prog 21 #[v1] w0 fun e w' => ∃ x : Value, e = .returned (x) ∧ Stw ⟨Y, [], w0⟩ [] [row (x) 59 Bx r] w' := by
 refine enter Try.func21 Aa Try.ntmps21 Aa fun a F => ?_
 have W := Stw.start Y w0
 have h_v1 := W.nx s_v1
 unfold A7 at H
 refine Ai (Ac ?_)
 refine ls F W Aa (Ag F Aa).q fun a w F W => ?_
 refine Ae (Ab (Ai (Ai (Ac ?_))))
 refine ls F W Aa (Ad F Aa).q fun a w F W => ?_
 refine ls F W Aa (Jc (r := Bx) Gx F Aa (Ap h_v1)).q fun a w F W => ?_
 refine Ae (Ab ?_)
 rcases IW (Ap h_v1) W with ⟨hb, hl⟩ | hb
 ·
  rw [hl] at H
  change some ([] : List (Int × Int × Int × Int × Int × Int)) = _ at H
  rw [hb] at F
  refine D6 F Aa ?_
  refine Ai (Ac ?_)
  refine ls F W Aa (Ag F Aa).q fun a w F W => ?_
  refine Ae (Ab (AN (AY ?_)))
  have H := Bg H
  subst H
  refine Bz (.inl Aa) F W Aa (Az F Aa) ?_
  have W := W.nilRow 59 Bx
  exact ⟨(Value.slice none 0 0), Aa, W⟩
 rw [hb] at F
 refine EB F Aa ?_
 refine As (Ab (Ai (Ac ?_)))
 refine EU (z := Value.agg #[.int .i64 0, .int .i64 0, .int .i64 0, .int .i64 0, .int .i64 0, .int .i64 0]) (cs := []) Bx ([] : List (Int × Int × Int × Int × Int × Int)) F W Aa I0 Ka Aa Aa Aa Aa Aa Aa (Jo.repL _ _ ([] : List (Int × Int × Int × Int × Int × Int))) fun v2 a w F W => ?_
 refine ls F W Aa (Ad F Aa).q fun a w F W => ?_
 obtain ⟨x1, h1, H⟩ := Al H
 refine C9 (r := Bx) (i := 0) F W Aa I0 Aa Aa Aa Aa (JN W s_v1) h1 Aa fun v3 a w F W => ?_
 have W : Stw ⟨Y, [], w0⟩ [] [row v3 59 Bx x1] w := W
 refine ls F W Aa (Ag F Aa).q fun a w F W => ?_
 refine Ae (Ab (AN ?_))
 have H := Bg H
 subst H
 refine Bz (.inl Aa) F W Aa (Az F Aa) ?_
 exact ⟨(v3), Aa, W⟩
theorem FM : type_of% Try.underlying62 := Try.underlying62
theorem LN : Has Try.prog 21 := ⟨fun args w => An Try.func21 rfl (by decide) args w⟩
theorem Mb : Bt Try.prog 62 [.int .i64 0, .slice none 0 0, .slice none 0 0, .slice none 0 0] [(0, 3), (3, 1)] := ⟨⟨.agg #[.int .i64 0, .slice none 0 0, .slice none 0 0, .slice none 0 0], by kernel_rfl, rfl⟩, ⟨_, FM, fun w => by kernel_rfl⟩⟩
abbrev AB : Rp (Int × Int × Int × (Int × Int × Int × Int) × Int × Int) := (Rp.pair (Rp.int .i64) (Rp.pair (Rp.int .i64) (Rp.pair (Rp.int .i64) (Rp.pair Lf (Rp.pair (Rp.int .i64) (Rp.int .i64))))))
noncomputable def DR (p0 : Int × (List (Int × Int × Int × Int × Int × Int)) × (List (Int × Int))) : Option (((Int × (List (Int × Int × Int × Int × Int × Int)) × (List (Int × Int))) × (List (Int × Int × Int × (Int × Int × Int × Int) × Int × Int))) ⊕ Unit) := (De p0).bind fun x1 => (if (!x1) = true then some (.inr ()) else (A7 p0.2.1).bind fun x2 => some (.inl ((p0.1, x2, ([] : List (Int × Int))), ([] : List (Int × Int × Int × (Int × Int × Int × Int) × Int × Int)))))
theorem EI (Y : Nat → Prop) (w0 : World) (v1 : Value) (v2 : Value) (p0 : Int × (List (Int × Int × Int × Int × Int × Int)) × (List (Int × Int))) (r : ((Int × (List (Int × Int × Int × Int × Int × Int)) × (List (Int × Int))) × (List (Int × Int × Int × (Int × Int × Int × Int) × Int × Int))) ⊕ Unit) (H : DR p0 = some r) (s_v1 : Sl w0 Y Bx v1 p0.2.1) (h_v2 : Sl w0 (NX []) Cb v2 p0.2.2) :
    Calls Try.prog 7 #[.agg #[.int .i64 p0.1, v1, v2]] w0 fun e w' => Lg r (fun r => ∃ x : Nat × Value × Value × Value, e = .returned (.tuple #[.pointer (some ⟨x.1, 0, none⟩), .int .i64 0]) ∧ Stw ⟨Y, [], w0⟩ [(x.1, [.int .i64 r.1.1, x.2.1, x.2.2.1, x.2.2.2])] [Be (x.2.1) Bx r.1.2.1, Be (x.2.2.1) Cb r.1.2.2, row (x.2.2.2) 51 AB r.2] w') (fun r => ∃ x : Unit, e = .returned (.tuple #[.pointer none, .int .i64 2]) ∧ Stw ⟨Y, [], w0⟩ [] [] w') := by
 refine enter Try.func7 Aa Try.ntmps7 Aa fun a F => ?_
 have W := Stw.start Y w0
 have h_v1 := W.nx s_v1
 unfold DR at H
 refine Ai (Ac ?_)
 refine DW (cs := [.int .i64 p0.1, v1, v2]) F W Aa Aa Aa fun b1 a w F W => ?_
 iterate 2 refine ls F W Aa (Ag F Aa).q fun a w F W => ?_
 refine Ae (Ab (Ai (Ai (Ac ?_))))
 refine ls F W Aa (Ao (v := Value.agg #[.int .i64 p0.1, v1, v2]) 0 F Aa Aa IB Aa).q fun a w F W => ?_
 obtain ⟨x1, h1, H⟩ := Al H
 refine ls F W Aa (B3 (v := Value.bool x1) F Mi Aa (fun w W => Hm any w (v1) (v2) p0 _ h1 (((Ap h_v1) : DT _ _ _ _ _ _) w W).nx (((Ap h_v2) : DT _ _ _ _ _ _) w W).nx)) fun a w F W => ?_
 refine ls F W Aa (Fc F Aa).q fun a w F W => ?_
 refine Ae (Ab ?_)
 refine AC F Aa (fun hb => ?_) fun hb => ?_
 ·
  have H := A5 hb H
  rw [hb] at F
  clear hb
  refine Ai (Ac ?_)
  iterate 2 refine ls F W Aa (Ag F Aa).q fun a w F W => ?_
  refine Ae (Ab (AN (AY ?_)))
  have H := Bg H
  subst H
  refine FP (.inl Aa) F W Aa (Az F Aa) (Az F Aa) ?_
  have W := W.sub (M' := []) (Z' := []) (List.nil_sublist _) (List.Sublist.refl _)
  exact ⟨(), Aa, W⟩
 have H := A6 (by rw [hb]; decide) H
 rw [hb] at F
 clear hb
 refine As (Ab (Ai (Ac ?_)))
 refine ls F W Aa (Ah CZ Aa Aa Aa E5 F Aa 1 Aa).q fun a w F W => ?_
 refine ls F W Aa (Ao (v := v1) 0 F Aa Aa E5 Aa).q fun a w F W => ?_
 obtain ⟨x2, h2, H⟩ := Al H
 refine BT (Ml := []) (Zl := []) (M := [(b1, [.int .i64 p0.1, v1, v2])]) (Z := []) (β := Value) (rv := fun x => x) (MM := fun x => []) (ZZ := fun x => [row x 59 Bx x2]) F W LN Aa Aa (fun hL => Dr _ w (v1) p0.2.1 _ h2 (W.old s_v1)) fun x a w F W => ?_
 obtain ⟨v3, rfl⟩ : ∃ y, y = x := ⟨x, rfl⟩
 have W : Stw ⟨Y, [], w0⟩ [(b1, [.int .i64 p0.1, v1, v2])] [row v3 59 Bx x2] w := W
 refine ls F W Aa (Ah CZ Aa Aa Aa E5 F Aa 1 Aa).q fun a w F W => ?_
 refine Fv (M' := [(b1, [.int .i64 p0.1, v3, v2])]) 0 F W Aa Aa Aa E5 (W.one (k := 0) Aa) Aa Aa fun w W => ?_
 refine Ae (Ab (Ai (Ac ?_)))
 refine ls F W Aa (Ah CZ Aa Aa Aa GH F Aa 2 Aa).q fun a w F W => ?_
 refine Bl (vs := [.slice none 0 0]) (M' := [(b1, [.int .i64 p0.1, v3, .slice none 0 0])]) 0 F W Aa Aa Aa GH Aa Aa Aa Aa Aa fun w W => ?_
 refine Ae (Ab (Ai (Ac ?_)))
 refine ls F W Aa (Ao (v := Value.agg #[.int .i64 p0.1, v3, .slice none 0 0]) 0 F Aa Aa IB Aa).q fun a w F W => ?_
 refine ls F W Aa (Cx (v := Value.agg #[.int .i64 p0.1, v3, .slice none 0 0, .slice none 0 0]) Mb F Aa (FX Aa Aa Aa HH) Aa).q fun a w F W => ?_
 refine DW (cs := [.int .i64 p0.1, v3, .slice none 0 0, .slice none 0 0]) F W Aa Aa Aa fun b2 a w F W => ?_
 iterate 2 refine ls F W Aa (Ag F Aa).q fun a w F W => ?_
 refine Ae (Ab (AN ?_))
 have H := Bg H
 subst H
 refine FP (.inl Aa) F W Aa (Az F Aa) (Az F Aa) ?_
 have W := W.freeze
 have W := W.note (Sl.nil (r := Cb))
 have W := W.nilRow 51 AB
 have W := W.frontZ (i := 1) Aa Aa
 have W := W.frontZ (i := 2) Aa Aa
 have W := W.sub (M' := [(b2, [.int .i64 p0.1, v3, .slice none 0 0, .slice none 0 0])]) (Z' := [Be v3 Bx x2, Be (Value.slice none 0 0) Cb ([]), row (Value.slice none 0 0) 51 AB ([])]) (List.Sublist.cons_cons _ (List.nil_sublist _)) (List.Sublist.refl _)
 exact ⟨(b2, (v3), (Value.slice none 0 0), (Value.slice none 0 0)), Aa, W⟩
theorem Ln : type_of% Try.underlying36 := Try.underlying36
theorem H7 : Has Try.prog 7 := ⟨fun args w => An Try.func7 rfl (by decide) args w⟩
theorem KD : ∃ z, (Try.prog.info? 36).bind (·.zero) = some z ∧ z.cells = [.int .i64 0, .int .i64 0, .int .i64 0, .int .i64 0].toArray := ⟨.agg #[.int .i64 0, .int .i64 0, .int .i64 0, .int .i64 0], by kernel_rfl, rfl⟩
theorem KP : Ar Try.prog 36 4 3 1 := ⟨Ln, by kernel_rfl⟩
theorem MO : Try.prog.follows .mixedOrders = true := by kernel_rfl
noncomputable def BR (p0 : Int × (List (Int × Int × Int × Int × Int × Int)) × (List (Int × Int))) (p1 : Int) (p2 : Int) : Int → Option (Int ⊕ (Unit ⊕ (Int × Int × Int × Bool)))
  | x1 => (if x1 < (p0.2.1.length : Int) then (ix p0.2.1 x1).bind fun x2 => (if p1 = x2.1 ∧ p2 = x2.2.1 then some (.inr (.inr (x2.2.2.1, x2.2.2.2.1, x1, true))) else (if p1 = x2.2.2.1 ∧ p2 = x2.2.2.2.1 then some (.inr (.inr (x2.1, x2.2.1, x1, true))) else some (.inl (Ay (x1 + 1))))) else some (.inr (.inl ())))
noncomputable def Cu (p0 : Int × (List (Int × Int × Int × Int × Int × Int)) × (List (Int × Int))) (p1 : Int) (p2 : Int) : Option (Int × Int × Int × Bool) := F3 (AM (BR p0 p1 p2) 0) fun _ => some (0, 0, 0, false)
theorem Hx (Y : Nat → Prop) (w0 : World) (v1 : Value) (v2 : Value) (p0 : Int × (List (Int × Int × Int × Int × Int × Int)) × (List (Int × Int))) (p1 : Int) (p2 : Int) (r : Int × Int × Int × Bool) (H : Cu p0 p1 p2 = some r) (h_v1 : Sl w0 (NX []) Bx v1 p0.2.1) (h_v2 : Sl w0 (NX []) Cb v2 p0.2.2) :
    Calls Try.prog 34 #[.agg #[.int .i64 p0.1, v1, v2], .int .i64 p1, .int .i64 p2] w0 fun e w' => e = .returned (.tuple #[.int .i64 r.1, .int .i64 r.2.1, .int .i64 r.2.2.1, .bool r.2.2.2]) ∧ Below w0.heap.size w0 w' := by
 refine enter Try.func34 Aa Try.ntmps34 Aa fun a F => ?_
 have W := Stw.start Y w0
 unfold Cu at H
 refine Ai (Ac ?_)
 refine DW (cs := [.int .i64 p0.1, v1, v2]) F W Aa Aa Aa fun b1 a w F W => ?_
 iterate 4 refine ls F W Aa (Ag F Aa).q fun a w F W => ?_
 refine Ae (Ab (Ai (Ac ?_)))
 iterate 2 refine ls F W Aa (Ad F Aa).q fun a w F W => ?_
 refine ls F W Aa (Cx (v := Value.agg #[.int .i64 p1, .int .i64 p2]) KB F Aa Aa Aa).q fun a w F W => ?_
 refine BZ (cs := [.int .i64 0, .int .i64 0]) F W Aa Ld Aa fun b2 a w F W => ?_
 refine Bl (vs := [.int .i64 p1, .int .i64 p2]) (M' := [(b2, [.int .i64 p1, .int .i64 p2]), (b1, [.int .i64 p0.1, v1, v2])]) 0 F W Aa Aa Aa Kl Aa Aa Aa Aa Aa fun w W => ?_
 refine Ae (Ab ?_)
 obtain ⟨o1, G1, K1, L1⟩ := Jh H
 refine AO (fun a w => some (Sum.inl ()) = some o1 ∧ Fr 49 [] [(6, .int .i64 0), (7, .int .i64 0), (8, .int .i64 0), (9, .bool false)] a ∧ Stw ⟨Y, [], w0⟩ [(b2, [.int .i64 p1, .int .i64 p2]), (b1, [.int .i64 p0.1, v1, v2])] [] w) ?_ ?_
 ·
  have H := G1
  clear G1 K1
  refine Ai (Ac ?_)
  refine ls F W Aa (Ah CZ Aa Aa Aa E5 F Aa 1 Aa).q fun a w F W => ?_
  refine ls F W Aa (Ao (v := v1) 1 F Aa Aa E5 Aa).q fun a w F W => ?_
  refine ls F W Aa (Cp (r := Bx) (l := p0.2.1) Gx Aa F Aa (Ap h_v1)).q fun a w F W => ?_
  refine ls F W Aa (Ad F Aa).q fun a w F W => ?_
  refine Ae (Ab (AA ?_))
  have W := W.frontM (i := 1) Aa Aa
  have W := W.frontM (i := 1) Aa Aa
  refine BG H (fun s a w => Fr 49 [] [(6, .int .i64 0), (7, .int .i64 0), (8, .int .i64 0), (9, .bool false), (10, .pointer (some ⟨b2, 0, none⟩)), (17, v1), (18, .int .i64 (p0.2.1.length : Int)), (19, .int .i64 s)] a ∧ Stw ⟨Y, [], w0⟩ [(b2, [.int .i64 p1, .int .i64 p2]), (b1, [.int .i64 p0.1, v1, v2])] [] w) ⟨F.re ⟨rfl, Aa, Aa, Aa, Aa, Aa, Aa, Aa, trivial⟩, W⟩ fun s o a w H L2 hR => ?_
  obtain ⟨x1, rfl⟩ : ∃ x, x = s := ⟨s, rfl⟩
  obtain ⟨F, W⟩ := hR
  have F : Fr 49 [] [(6, .int .i64 0), (7, .int .i64 0), (8, .int .i64 0), (9, .bool false), (10, .pointer (some ⟨b2, 0, none⟩)), (17, v1), (18, .int .i64 (p0.2.1.length : Int)), (19, .int .i64 x1)] a := F
  have W : Stw ⟨Y, [], w0⟩ [(b2, [.int .i64 p1, .int .i64 p2]), (b1, [.int .i64 p0.1, v1, v2])] [] w := W
  rw [BR] at H
  refine Ai (Ac ?_)
  refine ls F W Aa (Bm F Aa Aa).q fun a w F W => ?_
  refine Ae (Ab (Ai ?_))
  refine AC F Aa (fun hb => ?_) fun hb => ?_
  ·
   have H := A5 (BJ hb) H
   rw [hb] at F
   clear hb
   refine As (Ab (Ai (AA (Ai (Ac ?_)))))
   refine ls F W Aa (Ad F Aa).q fun a w F W => ?_
   obtain ⟨x2, h1, H⟩ := Al H
   refine ls F W Aa (AW (r := Bx) I0 F Aa Aa (Ap h_v1) h1).q fun a w F W => ?_
   refine ls F W Aa (Av (y := Value.agg #[.int .i64 x2.1, .int .i64 x2.2.1, .int .i64 x2.2.2.1, .int .i64 x2.2.2.2.1, .int .i64 x2.2.2.2.2.1, .int .i64 x2.2.2.2.2.2]) (j := 0) (i := x1) F Aa Aa (Ap h_v1) h1 Jo.to IA Aa).q fun a w F W => ?_
   refine BZ (cs := (IU)) F W Aa Ka Aa fun b3 a w F W => ?_
   refine ls F W Aa (Ag F Aa).q fun a w F W => ?_
   refine Bl (vs := (Gv x2)) (M' := [(b3, [.int .i64 x2.1, .int .i64 x2.2.1, .int .i64 x2.2.2.1, .int .i64 x2.2.2.2.1, .int .i64 x2.2.2.2.2.1, .int .i64 x2.2.2.2.2.2]), (b2, [.int .i64 p1, .int .i64 p2]), (b1, [.int .i64 p0.1, v1, v2])]) 0 F W Aa Aa Aa IA Aa Aa Aa Aa Aa fun w W => ?_
   refine Ae (Ab (Ai (Ai (Ac ?_))))
   refine ls F W Aa (Ao (v := Value.agg #[.int .i64 p1, .int .i64 p2]) 1 F Aa Aa Kl Aa).q fun a w F W => ?_
   refine ls F W Aa (Ah Cs Aa Aa Aa T3 F Aa 0 Aa).q fun a w F W => ?_
   refine ls F W Aa (Ao (v := Value.int .i64 x2.1) 0 F Aa Aa T3 Aa).q fun a w F W => ?_
   refine ls F W Aa (Ah Cs Aa Aa Aa T3 F Aa 1 Aa).q fun a w F W => ?_
   refine ls F W Aa (Ao (v := Value.int .i64 x2.2.1) 0 F Aa Aa T3 Aa).q fun a w F W => ?_
   refine ls F W Aa (Cx (v := Value.agg #[.int .i64 x2.1, .int .i64 x2.2.1]) KB F Aa Aa Aa).q fun a w F W => ?_
   refine ls F W Aa (J9 (t := decide (p1 = x2.1 ∧ p2 = x2.2.1)) LG (Lm _ _ _ _) F Aa Aa).q fun a w F W => ?_
   refine Ae (Ab ?_)
   refine AC F Aa (fun hb => ?_) fun hb => ?_
   ·
    have H := A5 (BJ hb) H
    rw [hb] at F
    clear hb
    refine Ai ?_
    refine CB W MO (by kernel_rfl) ?_
    refine qs F Aa (Ah Cs Aa Aa Aa T3 F Aa 2 Aa).q fun a F => ?_
    refine qs F Aa (Ao (v := Value.int .i64 x2.2.2.1) 0 F Aa Aa T3 Aa).q fun a F => ?_
    refine qs F Aa (Ah Cs Aa Aa Aa T3 F Aa 3 Aa).q fun a F => ?_
    refine qs F Aa (Ao (v := Value.int .i64 x2.2.2.2.1) 0 F Aa Aa T3 Aa).q fun a F => ?_
    refine qs F Aa (Ad F Aa).q fun a F => ?_
    iterate 4 refine qs F Aa (Ag F Aa).q fun a F => ?_
    refine BL fun w W => ?_
    refine Ab (AN (AY (BX ?_)))
    iterate 2 refine AY ?_
    refine BX (AY ?_)
    have H := L2 _ H
    have H := L1 _ H
    have H := Bg H
    subst H
    refine GS (.inl Aa) F W Aa (Az F Aa) (Az F Aa) (Az F Aa) (Az F Aa) ?_
    exact ⟨rfl, W.done⟩
   have H := A6 (BK hb) H
   rw [hb] at F
   clear hb
   refine As (Ab (Ai (Ac ?_)))
   refine ls F W Aa (Ao (v := Value.agg #[.int .i64 p1, .int .i64 p2]) 1 F Aa Aa Kl Aa).q fun a w F W => ?_
   refine ls F W Aa (Ah Cs Aa Aa Aa T3 F Aa 2 Aa).q fun a w F W => ?_
   refine ls F W Aa (Ao (v := Value.int .i64 x2.2.2.1) 0 F Aa Aa T3 Aa).q fun a w F W => ?_
   refine ls F W Aa (Ah Cs Aa Aa Aa T3 F Aa 3 Aa).q fun a w F W => ?_
   refine ls F W Aa (Ao (v := Value.int .i64 x2.2.2.2.1) 0 F Aa Aa T3 Aa).q fun a w F W => ?_
   refine ls F W Aa (Cx (v := Value.agg #[.int .i64 x2.2.2.1, .int .i64 x2.2.2.2.1]) KB F Aa Aa Aa).q fun a w F W => ?_
   refine ls F W Aa (J9 (t := decide (p1 = x2.2.2.1 ∧ p2 = x2.2.2.2.1)) LG (Lm _ _ _ _) F Aa Aa).q fun a w F W => ?_
   refine Ae (Ab ?_)
   refine AC F Aa (fun hb => ?_) fun hb => ?_
   ·
    have H := A5 (BJ hb) H
    rw [hb] at F
    clear hb
    refine Ai ?_
    refine CB W MO (by kernel_rfl) ?_
    refine qs F Aa (Ah Cs Aa Aa Aa T3 F Aa 0 Aa).q fun a F => ?_
    refine qs F Aa (Ao (v := Value.int .i64 x2.1) 0 F Aa Aa T3 Aa).q fun a F => ?_
    refine qs F Aa (Ah Cs Aa Aa Aa T3 F Aa 1 Aa).q fun a F => ?_
    refine qs F Aa (Ao (v := Value.int .i64 x2.2.1) 0 F Aa Aa T3 Aa).q fun a F => ?_
    refine qs F Aa (Ad F Aa).q fun a F => ?_
    iterate 4 refine qs F Aa (Ag F Aa).q fun a F => ?_
    refine BL fun w W => ?_
    refine Ab (AN (BX ?_))
    iterate 2 refine AY ?_
    refine BX (AY ?_)
    have H := L2 _ H
    have H := L1 _ H
    have H := Bg H
    subst H
    refine GS (.inl Aa) F W Aa (Az F Aa) (Az F Aa) (Az F Aa) (Az F Aa) ?_
    exact ⟨rfl, W.done⟩
   have H := A6 (BK hb) H
   rw [hb] at F
   clear hb
   refine As (AZ (Ab (Ac ?_)))
   refine ls F W Aa (BE F Aa Aa Aa).q fun a w F W => ?_
   refine ls F W Aa (Ad F Aa).q fun a w F W => ?_
   refine Ae (Ab ?_)
   have W := W.frontM (i := 2) Aa Aa
   have W := W.frontM (i := 2) Aa Aa
   have W := W.sub (M' := [(b2, [.int .i64 p1, .int .i64 p2]), (b1, [.int .i64 p0.1, v1, v2])]) (Z' := []) (List.Sublist.cons_cons _ (List.Sublist.cons_cons _ (List.nil_sublist _))) (List.Sublist.refl _)
   exact ⟨_, H, F.re ⟨rfl, Aa, Aa, Aa, Aa, Aa, Aa, Aa, trivial⟩, W⟩
  have H := A6 (BK hb) H
  rw [hb] at F
  clear hb
  refine BF ?_
  iterate 2 refine Cf ?_
  refine BI (Ab ?_)
  have W := W.frontM (i := 1) Aa Aa
  have W := W.frontM (i := 1) Aa Aa
  have H := L2 _ H
  exact ⟨H, F.re ⟨rfl, Aa, Aa, Aa, trivial⟩, W⟩
 rintro a w ⟨hj, F, W⟩
 have H := K1 _ hj
 clear hj G1 K1 L1
 refine Ai (Ac ?_)
 iterate 4 refine ls F W Aa (Ag F Aa).q fun a w F W => ?_
 refine Ae (Ab (AN ?_))
 have H := Bg H
 subst H
 refine GS (.inl Aa) F W Aa (Az F Aa) (Az F Aa) (Az F Aa) (Az F Aa) ?_
 exact ⟨rfl, W.done⟩
theorem HT : type_of% Try.underlying28 := Try.underlying28
theorem Gf : type_of% Try.underlying48 := Try.underlying48
theorem Ge : type_of% Try.underlying51 := Try.underlying51
theorem LO : Has Try.prog 34 := ⟨fun args w => An Try.func34 rfl (by decide) args w⟩
theorem GI : Ty Try.prog 48 false 1 := ⟨by kernel_rfl, by kernel_rfl⟩
theorem Lp : Ty Try.prog 36 true 4 := ⟨by kernel_rfl, by kernel_rfl⟩
theorem KC : Bt Try.prog 51 [.int .i64 0, .int .i64 0, .int .i64 0, .int .i64 0, .int .i64 0, .int .i64 0, .int .i64 0, .int .i64 0, .int .i64 0] [(0, 1), (1, 1), (2, 1), (3, 4), (7, 1), (8, 1)] := ⟨⟨.agg #[.int .i64 0, .int .i64 0, .int .i64 0, .int .i64 0, .int .i64 0, .int .i64 0, .int .i64 0, .int .i64 0, .int .i64 0], by kernel_rfl, rfl⟩, ⟨_, Ge, fun w => by kernel_rfl⟩⟩
theorem Hg : (Try.prog.info? 51).bind (·.zero) = some (.agg #[.int .i64 0, .int .i64 0, .int .i64 0, .int .i64 0, .int .i64 0, .int .i64 0, .int .i64 0, .int .i64 0, .int .i64 0]) := by kernel_rfl
def Mr (a : Int × Int × Int × Int) : List Value := [.int .i64 a.1, .int .i64 a.2.1, .int .i64 a.2.2.1, .int .i64 a.2.2.2]
theorem LH : Fl Lf Mr := (Fl.pair Fl.int (Fl.pair Fl.int (Fl.pair Fl.int Fl.int)))
def Ma (a : Int × Int × Int × (Int × Int × Int × Int) × Int × Int) : List Value := [.int .i64 a.1, .int .i64 a.2.1, .int .i64 a.2.2.1, .int .i64 a.2.2.2.1.1, .int .i64 a.2.2.2.1.2.1, .int .i64 a.2.2.2.1.2.2.1, .int .i64 a.2.2.2.1.2.2.2, .int .i64 a.2.2.2.2.1, .int .i64 a.2.2.2.2.2]
theorem EM : Fl AB Ma := (Fl.pair Fl.int (Fl.pair Fl.int (Fl.pair Fl.int (Fl.pair LH (Fl.pair Fl.int Fl.int)))))
theorem Ea : Et Try.prog 48 51 9 72 := Et.of Gf (by kernel_rfl) (by kernel_rfl) (by kernel_rfl) (by decide)
abbrev Iv (a0 : Int × Int × Int × Int) : List Value := [.int .i64 a0.1, .int .i64 a0.2.1, .int .i64 a0.2.2.1, .int .i64 a0.2.2.2]
abbrev Jz (a0 : Nat) (a1 : Int × Int × Int × Int × Int × Int) (a2 : Nat) (a3 : Int × Int × Int × Int) (a4 : Nat) (a5 : (Int × (List (Int × Int × Int × Int × Int × Int)) × (List (Int × Int))) × (List (Int × Int × Int × (Int × Int × Int × Int) × Int × Int))) (a6 : Value) (a7 : Value) (a8 : Value) : List (Nat × List Value) := [(a0, [.int .i64 a1.1, .int .i64 a1.2.1, .int .i64 a1.2.2.1, .int .i64 a1.2.2.2.1, .int .i64 a1.2.2.2.2.1, .int .i64 a1.2.2.2.2.2]), (a2, [.int .i64 a3.1, .int .i64 a3.2.1, .int .i64 a3.2.2.1, .int .i64 a3.2.2.2]), (a4, [.int .i64 a5.1.1, a6, a7, a8])]
noncomputable def B5 (p0 : (Int × (List (Int × Int × Int × Int × Int × Int)) × (List (Int × Int))) × (List (Int × Int × Int × (Int × Int × Int × Int) × Int × Int))) (p1 : Int) (p2 : Int) (p3 : Int) (p4 : Int) (p5 : Int × Int × Int × Int) : Option (Int × ((Int × (List (Int × Int × Int × Int × Int × Int)) × (List (Int × Int))) × (List (Int × Int × Int × (Int × Int × Int × Int) × Int × Int)))) := (Cu p0.1 p2 p3).bind fun x1 => (if (!x1.2.2.2) = true then some (7, p0) else (if 256 ≤ (p0.2.length : Int) then some (6, p0) else (ix p0.1.2.1 x1.2.2.1).bind fun x2 => (app p0.2 ([(p4, x1.1, x1.2.1, p5, Ay (p1 + x2.2.2.2.2.1), Ay (p1 + x2.2.2.2.2.2))] : List (Int × Int × Int × (Int × Int × Int × Int) × Int × Int))).bind fun x3 => some (0, (p0.1, x3))))
theorem Er (Y : Nat → Prop) (X : List Nat) (w0 : World) (q_p0 : Nat) (v1 : Value) (v2 : Value) (v3 : Value) (p0 : (Int × (List (Int × Int × Int × Int × Int × Int)) × (List (Int × Int))) × (List (Int × Int × Int × (Int × Int × Int × Int) × Int × Int))) (p1 : Int) (p2 : Int) (p3 : Int) (p4 : Int) (p5 : Int × Int × Int × Int) (r : Int × ((Int × (List (Int × Int × Int × Int × Int × Int)) × (List (Int × Int))) × (List (Int × Int × Int × (Int × Int × Int × Int) × Int × Int)))) (H : B5 p0 p1 p2 p3 p4 p5 = some r) (hL : Stw ⟨Y, X, w0⟩ [(q_p0, [.int .i64 p0.1.1, v1, v2, v3])] [Be v1 Bx p0.1.2.1, Be v2 Cb p0.1.2.2, row v3 51 AB p0.2] w0) :
    Calls Try.prog 18 #[.pointer (some ⟨q_p0, 0, none⟩), .int .i64 p1, .int .i64 p2, .int .i64 p3, .int .i64 p4, .agg #[.int .i64 p5.1, .int .i64 p5.2.1, .int .i64 p5.2.2.1, .int .i64 p5.2.2.2]] w0 fun e w' => ∃ x : Value × Value × Value, e = .returned (.int .i64 r.1) ∧ Stw ⟨Y, X, w0⟩ [(q_p0, [.int .i64 r.2.1.1, x.1, x.2.1, x.2.2])] [Be (x.1) Bx r.2.1.2.1, Be (x.2.1) Cb r.2.1.2.2, row (x.2.2) 51 AB r.2.2] w' := by
 refine enter Try.func18 Aa Try.ntmps18 Aa fun a F => ?_
 have W := hL
 unfold B5 at H
 refine Ai (Ac ?_)
 refine DW (cs := (Iv p5)) F W Aa Aa Aa fun b1 a w F W => ?_
 refine ls F W Aa (Ag F Aa).q fun a w F W => ?_
 refine Ae (Ab (Ai (Ai (Ac ?_))))
 refine ls F W Aa (Ad F Aa).q fun a w F W => ?_
 refine ls F W Aa (Dq HT F Aa Aa).q fun a w F W => ?_
 refine Ae (Ab ?_)
 refine EB F Aa ?_
 refine As (Ab (Ai (Ac ?_)))
 refine ls F W Aa (Ad F Aa).q fun a w F W => ?_
 refine ls F W Aa (Ca F Aa).q fun a w F W => ?_
 refine ls F W Aa (Ah FM Aa Aa Aa IB F Aa 0 Aa).q fun a w F W => ?_
 refine ls F W Aa (Ao (v := Value.agg #[.int .i64 p0.1.1, v1, v2]) 1 F Aa Aa IB Aa).q fun a w F W => ?_
 iterate 2 refine ls F W Aa (Ad F Aa).q fun a w F W => ?_
 obtain ⟨x1, h1, H⟩ := Al H
 refine ls F W Aa (B3 (v := Value.tuple #[.int .i64 x1.1, .int .i64 x1.2.1, .int .i64 x1.2.2.1, .bool x1.2.2.2]) F LO Aa (fun w W => Hx any w (v1) (v2) p0.1 p2 p3 _ h1 (((CP 0 Aa) : DT _ _ _ _ _ _) w W).nx (((CP 1 Aa) : DT _ _ _ _ _ _) w W).nx)) fun a w F W => ?_
 refine ls F W Aa (Ad F Aa).q fun a w F W => ?_
 refine ls F W Aa (AU (v := Value.int .i64 x1.1) F Aa Aa).q fun a w F W => ?_
 refine ls F W Aa (AU (v := Value.int .i64 x1.2.1) F Aa Aa).q fun a w F W => ?_
 refine ls F W Aa (AU (v := Value.int .i64 x1.2.2.1) F Aa Aa).q fun a w F W => ?_
 refine ls F W Aa (AU (v := Value.bool x1.2.2.2) F Aa Aa).q fun a w F W => ?_
 iterate 4 refine ls F W Aa (Ag F Aa).q fun a w F W => ?_
 refine Ae (Ab (Ai (Ai (Ac ?_))))
 refine ls F W Aa (Ad F Aa).q fun a w F W => ?_
 refine ls F W Aa (Fc F Aa).q fun a w F W => ?_
 refine Ae (Ab ?_)
 refine AC F Aa (fun hb => ?_) fun hb => ?_
 ·
  have H := A5 hb H
  rw [hb] at F
  clear hb
  refine Ai (Ac ?_)
  refine ls F W Aa (Ag F Aa).q fun a w F W => ?_
  refine Ae (Ab (AN (AY ?_)))
  have H := Bg H
  subst H
  refine Bz (.inl Aa) F W Aa (Az F Aa) ?_
  have W := W.frontZ (i := 2) Aa Aa
  have W := W.frontZ (i := 2) Aa Aa
  have W := W.frontZ (i := 2) Aa Aa
  have W := W.frontM (i := 1) Aa Aa
  have W := W.sub (M' := [(q_p0, [.int .i64 p0.1.1, v1, v2, v3])]) (Z' := [Be v1 Bx p0.1.2.1, Be v2 Cb p0.1.2.2, row v3 51 AB p0.2]) (List.Sublist.cons_cons _ (List.nil_sublist _)) (List.Sublist.refl _)
  exact ⟨((v1), (v2), (v3)), Aa, W⟩
 have H := A6 (by rw [hb]; decide) H
 rw [hb] at F
 clear hb
 refine As (Ab (Ai (Ai (Ac ?_))))
 refine ls F W Aa (Ad F Aa).q fun a w F W => ?_
 refine ls F W Aa (Ca F Aa).q fun a w F W => ?_
 refine ls F W Aa (Ah FM Aa Aa Aa GI F Aa 3 Aa).q fun a w F W => ?_
 refine ls F W Aa (Ao (v := v3) 1 F Aa Aa GI Aa).q fun a w F W => ?_
 refine ls F W Aa (Cp (r := AB) (l := p0.2) Gf Aa F Aa (Aw 2 Aa)).q fun a w F W => ?_
 refine ls F W Aa (Fe F Aa Aa).q fun a w F W => ?_
 refine Ae (Ab ?_)
 refine AC F Aa (fun hb => ?_) fun hb => ?_
 ·
  have H := A5 (BJ hb) H
  rw [hb] at F
  clear hb
  refine Ai (Ac ?_)
  refine ls F W Aa (Ag F Aa).q fun a w F W => ?_
  refine Ae (Ab (AN (AY ?_)))
  have H := Bg H
  subst H
  refine Bz (.inl Aa) F W Aa (Az F Aa) ?_
  have W := W.frontZ (i := 2) Aa Aa
  have W := W.frontZ (i := 2) Aa Aa
  have W := W.frontZ (i := 2) Aa Aa
  have W := W.frontM (i := 1) Aa Aa
  have W := W.sub (M' := [(q_p0, [.int .i64 p0.1.1, v1, v2, v3])]) (Z' := [Be v1 Bx p0.1.2.1, Be v2 Cb p0.1.2.2, row v3 51 AB p0.2]) (List.Sublist.cons_cons _ (List.nil_sublist _)) (List.Sublist.refl _)
  exact ⟨((v1), (v2), (v3)), Aa, W⟩
 have H := A6 (BK hb) H
 rw [hb] at F
 clear hb
 refine As (Ab (Ai (Ac ?_)))
 refine ls F W Aa (Ad F Aa).q fun a w F W => ?_
 refine ls F W Aa (Ca F Aa).q fun a w F W => ?_
 refine ls F W Aa (Ah FM Aa Aa Aa IB F Aa 0 Aa).q fun a w F W => ?_
 refine ls F W Aa (Ah CZ Aa Aa Aa E5 F Aa 1 Aa).q fun a w F W => ?_
 refine ls F W Aa (Ao (v := v1) 1 F Aa Aa E5 Aa).q fun a w F W => ?_
 refine ls F W Aa (Ad F Aa).q fun a w F W => ?_
 obtain ⟨x2, h2, H⟩ := Al H
 refine ls F W Aa (AW (r := Bx) I0 F Aa Aa (CP 0 Aa) h2).q fun a w F W => ?_
 refine ls F W Aa (Av (y := Value.agg #[.int .i64 x2.1, .int .i64 x2.2.1, .int .i64 x2.2.2.1, .int .i64 x2.2.2.2.1, .int .i64 x2.2.2.2.2.1, .int .i64 x2.2.2.2.2.2]) (j := 0) (i := x1.2.2.1) F Aa Aa (CP 0 Aa) h2 Jo.to IA Aa).q fun a w F W => ?_
 refine BZ (cs := (IU)) F W Aa Ka Aa fun b2 a w F W => ?_
 refine Bl (vs := (Gv x2)) (M' := (Jz b2 x2 b1 p5 q_p0 p0 v1 v2 v3)) 0 F W Aa Aa Aa IA Aa Aa Aa Aa Aa fun w W => ?_
 refine Ae (Ab (Ai ?_))
 refine ET [(true, 0), (true, 1), (true, 2), (true, 3), (true, 4), (true, 5), (true, 6), (true, 7), (true, 8), (true, 9), (true, 10), (true, 11), (true, 12), (true, 13), (true, 14), (true, 15), (true, 16), (true, 17), (false, 18), (false, 19), (true, 20), (true, 21), (false, 22)] (CN ⟨Y, X, w0⟩ [(some 19, q_p0, [.int .i64 p0.1.1, v1, v2, v3]), (some 18, b1, [.int .i64 p5.1, .int .i64 p5.2.1, .int .i64 p5.2.2.1, .int .i64 p5.2.2.2]), (some 18, b2, [.int .i64 x2.1, .int .i64 x2.2.1, .int .i64 x2.2.2.1, .int .i64 x2.2.2.2.1, .int .i64 x2.2.2.2.2.1, .int .i64 x2.2.2.2.2.2])] []) (fun ch a d v w h => by cases d <;> exact h) MO (by kernel_rfl) W (fun w W => ⟨_, _, W, (Bq (fun _ => (.tail _ (.tail _ (.head _)))) (Bq (fun _ => (.tail _ (.head _))) (Bq (fun _ => (.head _)) Bi))), Bi⟩) fun w W => ?_
 iterate 2 refine BP (R := []) F Aa Aa (yC fun M Z hN hZ => Ad F Aa) Aa Aa fun a F => ?_
 refine BP (R := []) F Aa Aa (yC fun M Z hN hZ => Ca F Aa) Aa Aa fun a F => ?_
 refine BP (R := []) F Aa Aa (yC fun M Z hN hZ => Ah FM Aa Aa Aa GI F Aa 3 Aa) Aa Aa fun a F => ?_
 refine BP (R := [19]) F Aa Aa (yC fun M Z hN hZ => FB (cs := [.int .i64 p0.1.1, v1, v2, v3]) (v := v3) F Aa (hN ((some 19), q_p0, [.int .i64 p0.1.1, v1, v2, v3]) (.head _) Aa) GI Aa) (by kernel_rfl) Aa fun a F => ?_
 iterate 3 refine BP (R := []) F Aa Aa (yC fun M Z hN hZ => Ad F Aa) Aa Aa fun a F => ?_
 refine BP (R := [18, 17]) F Aa Aa (yC fun M Z hN hZ => FB (cs := (Iv p5)) (v := Value.agg #[.int .i64 p5.1, .int .i64 p5.2.1, .int .i64 p5.2.2.1, .int .i64 p5.2.2.2]) F Aa (hN ((some 18), b1, (Iv p5)) (.tail _ (.head _)) Aa) Lp Aa) (by kernel_rfl) Aa fun a F => ?_
 refine BP (R := []) F Aa Aa (yC fun M Z hN hZ => Ad F Aa) Aa Aa fun a F => ?_
 refine BP (R := []) F Aa Aa (yC fun M Z hN hZ => Ah Cs Aa Aa Aa T3 F Aa 4 Aa) Aa Aa fun a F => ?_
 refine BP (R := [18, 17, 12]) F Aa Aa (yC fun M Z hN hZ => FB (cs := (Gv x2)) (v := Value.int .i64 x2.2.2.2.2.1) F Aa (hN ((some 18), b2, (Gv x2)) (.tail _ (.tail _ (.head _))) Aa) T3 Aa) (by kernel_rfl) Aa fun a F => ?_
 refine BP (R := []) F Aa Aa (yC fun M Z hN hZ => BE F Aa Aa Aa) Aa Aa fun a F => ?_
 refine BP (R := []) F Aa Aa (yC fun M Z hN hZ => Ad F Aa) Aa Aa fun a F => ?_
 refine BP (R := []) F Aa Aa (yC fun M Z hN hZ => Ah Cs Aa Aa Aa T3 F Aa 5 Aa) Aa Aa fun a F => ?_
 refine BP (R := [18, 17, 16]) F Aa Aa (yC fun M Z hN hZ => FB (cs := (Gv x2)) (v := Value.int .i64 x2.2.2.2.2.2) F Aa (hN ((some 18), b2, (Gv x2)) (.tail _ (.tail _ (.head _))) Aa) T3 Aa) (by kernel_rfl) Aa fun a F => ?_
 refine BP (R := []) F Aa Aa (yC fun M Z hN hZ => BE F Aa Aa Aa) Aa Aa fun a F => ?_
 refine BP (R := []) F Aa Aa (yC fun M Z hN hZ => Cx (v := Value.agg #[.int .i64 p4, .int .i64 x1.1, .int .i64 x1.2.1, .int .i64 p5.1, .int .i64 p5.2.1, .int .i64 p5.2.2.1, .int .i64 p5.2.2.2, .int .i64 (Ay (p1 + x2.2.2.2.2.1)), .int .i64 (Ay (p1 + x2.2.2.2.2.2))]) KC F Aa Aa Aa) Aa Aa fun a F => ?_
 refine GA Aa ?_
 refine EU (z := Value.agg #[.int .i64 0, .int .i64 0, .int .i64 0, .int .i64 0, .int .i64 0, .int .i64 0, .int .i64 0, .int .i64 0, .int .i64 0]) (cs := [.int .i64 p4, .int .i64 x1.1, .int .i64 x1.2.1, .int .i64 p5.1, .int .i64 p5.2.1, .int .i64 p5.2.2.1, .int .i64 p5.2.2.2, .int .i64 (Ay (p1 + x2.2.2.2.2.1)), .int .i64 (Ay (p1 + x2.2.2.2.2.2))]) AB ([(p4, x1.1, x1.2.1, p5, Ay (p1 + x2.2.2.2.2.1), Ay (p1 + x2.2.2.2.2.2))] : List (Int × Int × Int × (Int × Int × Int × Int) × Int × Int)) F W Aa Ea Hg Aa Aa Aa Aa Aa Aa (EM.repL _ _ ([(p4, x1.1, x1.2.1, p5, Ay (p1 + x2.2.2.2.2.1), Ay (p1 + x2.2.2.2.2.2))] : List (Int × Int × Int × (Int × Int × Int × Int) × Int × Int))) fun v4 a w F W => ?_
 refine Du (N2 := []) (NZ2 := []) (N3 := [(some 19, q_p0, [.int .i64 p0.1.1, v1, v2, v3]), (some 18, b1, [.int .i64 p5.1, .int .i64 p5.2.1, .int .i64 p5.2.2.1, .int .i64 p5.2.2.2]), (some 18, b2, [.int .i64 x2.1, .int .i64 x2.2.1, .int .i64 x2.2.2.1, .int .i64 x2.2.2.2.1, .int .i64 x2.2.2.2.2.1, .int .i64 x2.2.2.2.2.2])]) (NZ3 := []) W Aa Aa (Bq (fun _ => (.tail _ (.tail _ (.head _)))) (Bq (fun h => Cl (by kernel_rfl) h) (Bq (fun h => Cl (by kernel_rfl) h) Bi))) Bi ?_
 refine GA Aa ?_
 obtain ⟨x3, h3, H⟩ := Al H
 refine C9 (r := AB) (i := 3) F W Aa Ea Aa Aa Aa Aa (DN W 0 Aa) h3 Aa fun v5 a w F W => ?_
 have W : Stw ⟨Y, X, w0⟩ (Jz b2 x2 b1 p5 q_p0 p0 v1 v2 v3) [row v5 51 AB x3, row v4 51 AB ([(p4, x1.1, x1.2.1, p5, Ay (p1 + x2.2.2.2.2.1), Ay (p1 + x2.2.2.2.2.2))] : List (Int × Int × Int × (Int × Int × Int × Int) × Int × Int)), Be v1 Bx p0.1.2.1, Be v2 Cb p0.1.2.2] w := W
 refine Du (N2 := []) (NZ2 := []) (N3 := [(some 19, q_p0, [.int .i64 p0.1.1, v1, v2, v3]), (some 18, b1, [.int .i64 p5.1, .int .i64 p5.2.1, .int .i64 p5.2.2.1, .int .i64 p5.2.2.2]), (some 18, b2, [.int .i64 x2.1, .int .i64 x2.2.1, .int .i64 x2.2.2.1, .int .i64 x2.2.2.2.1, .int .i64 x2.2.2.2.2.1, .int .i64 x2.2.2.2.2.2])]) (NZ3 := []) W Aa Aa (Bq (fun h => Cl (by kernel_rfl) h) (Bq (fun h => Cl (by kernel_rfl) h) (Bq (fun h => Cl (by kernel_rfl) h) Bi))) Bi ?_
 refine BP (R := []) F Aa Aa (yC fun M Z hN hZ => Ca F Aa) Aa Aa fun a F => ?_
 refine BP (R := []) F Aa Aa (yC fun M Z hN hZ => Ah FM Aa Aa Aa GI F Aa 3 Aa) Aa Aa fun a F => ?_
 refine GA Aa ?_
 refine Fv (M' := (Jz b2 x2 b1 p5 q_p0 p0 v1 v2 v5)) 2 F W Aa Aa Aa GI (W.one (k := 0) Aa) Aa Aa fun w W => ?_
 refine Du (N2 := []) (NZ2 := []) (N3 := [(some 19, q_p0, [.int .i64 p0.1.1, v1, v2, v3]), (some 18, b1, [.int .i64 p5.1, .int .i64 p5.2.1, .int .i64 p5.2.2.1, .int .i64 p5.2.2.2]), (some 18, b2, [.int .i64 x2.1, .int .i64 x2.2.1, .int .i64 x2.2.2.1, .int .i64 x2.2.2.2.1, .int .i64 x2.2.2.2.2.1, .int .i64 x2.2.2.2.2.2])]) (NZ3 := []) W Aa Aa (Bq (fun h => Cl (by kernel_rfl) h) (Bq (fun h => Cl (by kernel_rfl) h) (Bq (fun h => Cl (by kernel_rfl) h) Bi))) Bi ?_
 refine Gu (Ab (Ai (Ac ?_)))
 refine ls F W Aa (Ag F Aa).q fun a w F W => ?_
 refine Ae (Ab (AN ?_))
 have H := Bg H
 subst H
 refine Bz (.inl Aa) F W Aa (Az F Aa) ?_
 have W := W.frontZ (i := 3) Aa Aa
 have W := W.frontZ (i := 3) Aa Aa
 have W := W.frontM (i := 2) Aa Aa
 have W := W.sub (M' := [(q_p0, [.int .i64 p0.1.1, v1, v2, v5])]) (Z' := [Be v1 Bx p0.1.2.1, Be v2 Cb p0.1.2.2, row v5 51 AB x3]) (List.Sublist.cons_cons _ (List.nil_sublist _)) (List.Sublist.cons_cons _ (List.Sublist.cons_cons _ (List.Sublist.cons_cons _ (List.nil_sublist _))))
 exact ⟨((v1), (v2), (v5)), Aa, W⟩
theorem LB : Has Try.prog 18 := ⟨fun args w => An Try.func18 rfl (by decide) args w⟩
theorem Dk : Ty Try.prog 51 true 9 := ⟨by kernel_rfl, by kernel_rfl⟩
abbrev CD  : List Value := [.int .i64 0, .int .i64 0, .int .i64 0, .int .i64 0, .int .i64 0, .int .i64 0, .int .i64 0, .int .i64 0, .int .i64 0]
abbrev Id (a0 : Nat) : List (Nat × List Value) := [(a0, [.int .i64 0, .int .i64 0, .int .i64 0, .int .i64 0, .int .i64 0, .int .i64 0, .int .i64 0, .int .i64 0, .int .i64 0])]
abbrev DQ (a0 : Int × Int × Int × (Int × Int × Int × Int) × Int × Int) : List Value := [.int .i64 a0.1, .int .i64 a0.2.1, .int .i64 a0.2.2.1, .int .i64 a0.2.2.2.1.1, .int .i64 a0.2.2.2.1.2.1, .int .i64 a0.2.2.2.1.2.2.1, .int .i64 a0.2.2.2.1.2.2.2, .int .i64 a0.2.2.2.2.1, .int .i64 a0.2.2.2.2.2]
abbrev KR (a0 : Nat) (a1 : Int × Int × Int × (Int × Int × Int × Int) × Int × Int) : List (Nat × List Value) := [(a0, [.int .i64 a1.1, .int .i64 a1.2.1, .int .i64 a1.2.2.1, .int .i64 a1.2.2.2.1.1, .int .i64 a1.2.2.2.1.2.1, .int .i64 a1.2.2.2.1.2.2.1, .int .i64 a1.2.2.2.1.2.2.2, .int .i64 a1.2.2.2.2.1, .int .i64 a1.2.2.2.2.2])]
noncomputable def BQ (p0 : (Int × (List (Int × Int × Int × Int × Int × Int)) × (List (Int × Int))) × (List (Int × Int × Int × (Int × Int × Int × Int) × Int × Int))) (p1 : Int) : Option ((Int × Int × Int × (Int × Int × Int × Int) × Int × Int) × Int) := (if (decide (p1 < 0) || decide ((p0.2.length : Int) ≤ p1)) = true then some ((0, 0, 0, (0, 0, 0, 0), 0, 0), 7) else (ix p0.2 p1).bind fun x1 => some (x1, 0))
theorem FO (Y : Nat → Prop) (w0 : World) (q_p0 : Nat) (v1 : Value) (v2 : Value) (v3 : Value) (p0 : (Int × (List (Int × Int × Int × Int × Int × Int)) × (List (Int × Int))) × (List (Int × Int × Int × (Int × Int × Int × Int) × Int × Int))) (p1 : Int) (r : (Int × Int × Int × (Int × Int × Int × Int) × Int × Int) × Int) (H : BQ p0 p1 = some r) (h_v1 : Sl w0 (NX []) Bx v1 p0.1.2.1) (h_v2 : Sl w0 (NX []) Cb v2 p0.1.2.2) (h_v3 : Sl w0 (NX []) AB v3 p0.2) (a_q_p0 : At ⟨Y, [], w0⟩ q_p0 0 [.int .i64 p0.1.1, v1, v2, v3]) :
    Calls Try.prog 19 #[.pointer (some ⟨q_p0, 0, none⟩), .int .i64 p1] w0 fun e w' => e = .returned (.tuple #[.agg #[.int .i64 r.1.1, .int .i64 r.1.2.1, .int .i64 r.1.2.2.1, .int .i64 r.1.2.2.2.1.1, .int .i64 r.1.2.2.2.1.2.1, .int .i64 r.1.2.2.2.1.2.2.1, .int .i64 r.1.2.2.2.1.2.2.2, .int .i64 r.1.2.2.2.2.1, .int .i64 r.1.2.2.2.2.2], .int .i64 r.2]) ∧ Below w0.heap.size w0 w' := by
 refine enter Try.func19 Aa Try.ntmps19 Aa fun a F => ?_
 have W := Stw.start Y w0
 unfold BQ at H
 refine Ai (Ac ?_)
 refine BZ (cs := (CD)) F W Aa Hg Aa fun b1 a w F W => ?_
 refine ls F W Aa (Ag F Aa).q fun a w F W => ?_
 refine Ae (Ab (Ai (Ai (Ac ?_))))
 refine ls F W Aa (Ad F Aa).q fun a w F W => ?_
 refine ls F W Aa (Dq HT F Aa Aa).q fun a w F W => ?_
 refine Ae (Ab ?_)
 refine EB F Aa ?_
 refine As (Ab (Ai ?_))
 refine AO (fun a w => Fr 28 [] [(0, .pointer (some ⟨q_p0, 0, none⟩)), (1, .int .i64 p1), (4, .pointer (some ⟨b1, 0, none⟩)), (5, .int .i64 0), (19, .bool (decide (p1 < 0) || decide ((p0.2.length : Int) ≤ p1)))] a ∧ Stw ⟨Y, [], w0⟩ (Id b1) [] w) ?_ ?_
 ·
  refine Ac ?_
  refine ls F W Aa (Ad F Aa).q fun a w F W => ?_
  refine ls F W Aa (Bm F Aa Aa).q fun a w F W => ?_
  refine ls F W Aa (Ad F Aa).q fun a w F W => ?_
  rcases Bool.eq_false_or_eq_true (decide (p1 < 0)) with hb0 | hb0
  ·
   rw [hb0] at F
   iterate 7 refine B7 F Aa Aa Aa Aa Aa Aa Aa fun a F => ?_
   refine ls F W Aa (Am F Aa Aa Aa).q fun a w F W => ?_
   refine Ae (Ab ?_)
   exact ⟨F.re ⟨rfl, Aa, Aa, Aa, (Ev (by try rw [hb0]; all_goals simp only [Ez])), trivial⟩, W⟩
  rw [hb0] at F
  iterate 2 refine Ax F W (Af F Aa Aa Aa Aa) Aa (Aj Aa) (Ad F Aa).q fun a w F W => ?_
  refine Ax F W (Af F Aa Aa Aa Aa) Aa (Aj Aa) (Ca F Aa).q fun a w F W => ?_
  refine Ax F W (Af F Aa Aa Aa Aa) Aa (Aj Aa) (Ah FM Aa Aa Aa GI F Aa 3 Aa).q fun a w F W => ?_
  refine Ax F W (Af F Aa Aa Aa Aa) Aa (Aj Aa) (E6 (y := v3) (j := 3) F Aa (Nat.zero_add _).symm a_q_p0 GI Aa).q fun a w F W => ?_
  refine Ax F W (Af F Aa Aa Aa Aa) Aa (Aj Aa) (Cp (r := AB) (l := p0.2) Gf Aa F Aa (Ap h_v3)).q fun a w F W => ?_
  refine Ax F W (Af F Aa Aa Aa Aa) Aa (Aj Aa) (Fe F Aa Aa).q fun a w F W => ?_
  refine ls F W Aa (Ak F Aa Aa Aa).q fun a w F W => ?_
  refine Ae (Ab ?_)
  exact ⟨F.re ⟨rfl, Aa, Aa, Aa, (Ev (by try rw [hb0]; all_goals simp only [Ez])), trivial⟩, W⟩
 rintro a w ⟨F, W⟩
 refine AC F Aa (fun hb => ?_) fun hb => ?_
 ·
  have H := A5 hb H
  rw [hb] at F
  clear hb
  refine Ai (Ac ?_)
  refine ls F W Aa (Cx (v := Value.agg #[.int .i64 0, .int .i64 0, .int .i64 0, .int .i64 0, .int .i64 0, .int .i64 0, .int .i64 0, .int .i64 0, .int .i64 0]) KC F Aa Aa Aa).q fun a w F W => ?_
  refine Bl (vs := (CD)) (M' := (Id b1)) 0 F W Aa Aa Aa Dk Aa Aa Aa Aa Aa fun w W => ?_
  refine ls F W Aa (Ag F Aa).q fun a w F W => ?_
  refine Ae (Ab (AN (AY ?_)))
  have H := Bg H
  subst H
  refine FP (.inl Aa) F W Aa (Ei 0 F Aa Aa Dk Aa) (Az F Aa) ?_
  exact ⟨rfl, W.done⟩
 have H := A6 (by rw [hb]; decide) H
 rw [hb] at F
 clear hb
 refine As (Ab (Ai (Ac ?_)))
 refine ls F W Aa (Ad F Aa).q fun a w F W => ?_
 refine ls F W Aa (Ca F Aa).q fun a w F W => ?_
 refine ls F W Aa (Ah FM Aa Aa Aa GI F Aa 3 Aa).q fun a w F W => ?_
 refine ls F W Aa (E6 (y := v3) (j := 3) F Aa (Nat.zero_add _).symm a_q_p0 GI Aa).q fun a w F W => ?_
 refine ls F W Aa (Ad F Aa).q fun a w F W => ?_
 obtain ⟨x1, h1, H⟩ := Al H
 refine ls F W Aa (AW (r := AB) Ea F Aa Aa (Ap h_v3) h1).q fun a w F W => ?_
 refine ls F W Aa (Av (y := Value.agg #[.int .i64 x1.1, .int .i64 x1.2.1, .int .i64 x1.2.2.1, .int .i64 x1.2.2.2.1.1, .int .i64 x1.2.2.2.1.2.1, .int .i64 x1.2.2.2.1.2.2.1, .int .i64 x1.2.2.2.1.2.2.2, .int .i64 x1.2.2.2.2.1, .int .i64 x1.2.2.2.2.2]) (j := 0) (i := p1) F Aa Aa (Ap h_v3) h1 EM.to Dk Aa).q fun a w F W => ?_
 refine Bl (vs := (DQ x1)) (M' := (KR b1 x1)) 0 F W Aa Aa Aa Dk Aa Aa Aa Aa Aa fun w W => ?_
 refine ls F W Aa (Ag F Aa).q fun a w F W => ?_
 refine Ae (Ab (AN ?_))
 have H := Bg H
 subst H
 refine FP (.inl Aa) F W Aa (Ei 0 F Aa Aa Dk Aa) (Az F Aa) ?_
 exact ⟨rfl, W.done⟩
theorem LF : Has Try.prog 19 := ⟨fun args w => An Try.func19 rfl (by decide) args w⟩
noncomputable def A3 (p0 : List (Int × Int × Int × (Int × Int × Int × Int) × Int × Int)) (p1 : Int) (p2 : Int) : Option (List (Int × Int × Int × (Int × Int × Int × Int) × Int × Int)) := (C3 p0 p1 p2).bind fun x1 => (if p1 = p2 then some p0 else (C3 p0 0 p1).bind fun x2 => (C3 p0 p2 (p0.length : Int)).bind fun x3 => (HS p0 (x2.length : Int) x3).bind fun x4 => (C3 x4 0 ((x2.length : Int) + (x3.length : Int))).bind fun x5 => (C3 x4 (x5.length : Int) (p0.length : Int)).bind fun x6 => (HS x4 (x5.length : Int) (List.replicate (x6.length) ((0, 0, 0, (0, 0, 0, 0), 0, 0) : Int × Int × Int × (Int × Int × Int × Int) × Int × Int))).bind fun x7 => some x5)
theorem Do (Y : Nat → Prop) (X : List Nat) (w0 : World) (v1 : Value) (p0 : List (Int × Int × Int × (Int × Int × Int × Int) × Int × Int)) (p1 : Int) (p2 : Int) (r : (List (Int × Int × Int × (Int × Int × Int × Int) × Int × Int))) (H : A3 p0 p1 p2 = some r) (hL : Stw ⟨Y, X, w0⟩ [] [row v1 51 AB p0] w0) :
    Calls Try.prog 32 #[v1, .int .i64 p1, .int .i64 p2] w0 fun e w' => ∃ x : Value, e = .returned (x) ∧ Stw ⟨Y, X, w0⟩ [] [row (x) 51 AB r] w' := by
 refine enter Try.func32 Aa Try.ntmps32 Aa fun a F => ?_
 have W := hL
 unfold A3 at H
 refine Ai (Ac ?_)
 refine ls F W Aa (Ag F Aa).q fun a w F W => ?_
 refine Ae (Ab (Ai (Ac ?_)))
 iterate 4 refine ls F W Aa (Ad F Aa).q fun a w F W => ?_
 refine ls F W Aa (Cp (r := AB) (l := p0) Gf Aa F Aa (Aw 0 Aa)).q fun a w F W => ?_
 obtain ⟨x1, h1, H⟩ := Al H
 refine ls F W Aa (I3 (r := AB) Ea F Aa Aa Aa Aa Aa (Aw 0 Aa) h1).q fun a w F W => ?_
 refine Ae (Ab (Ai (Ai (Ac ?_))))
 iterate 2 refine ls F W Aa (Ad F Aa).q fun a w F W => ?_
 refine ls F W Aa (Cm F Aa Aa).q fun a w F W => ?_
 refine Ae (Ab ?_)
 refine AC F Aa (fun hb => ?_) fun hb => ?_
 ·
  have H := A5 (BJ hb) H
  rw [hb] at F
  clear hb
  refine Ai (Ac ?_)
  refine ls F W Aa (Ad F Aa).q fun a w F W => ?_
  refine ls F W Aa (Ag F Aa).q fun a w F W => ?_
  refine Ae (Ab (AN (AY ?_)))
  have H := Bg H
  subst H
  refine Bz (.inl Aa) F W Aa (Az F Aa) ?_
  exact ⟨(v1), Aa, W⟩
 have H := A6 (BK hb) H
 rw [hb] at F
 clear hb
 refine As (Ab (Ai (Ac ?_)))
 refine ls F W Aa (Ad F Aa).q fun a w F W => ?_
 refine ls F W Aa (Cp (r := AB) (l := p0) Gf Aa F Aa (Aw 0 Aa)).q fun a w F W => ?_
 refine ls F W Aa (Ag F Aa).q fun a w F W => ?_
 refine Ae (Ab (Ai ?_))
 refine HL 6 W MO (by kernel_rfl) ?_
 iterate 2 refine qs F Aa (Ad F Aa).q fun a F => ?_
 obtain ⟨x2, h2, H⟩ := Al H
 refine qs F Aa (Ig (r := AB) Ea F Aa Aa Aa (Aw 0 Aa) h2).q fun a F => ?_
 iterate 2 refine qs F Aa (Ad F Aa).q fun a F => ?_
 obtain ⟨x3, h3, H⟩ := Al H
 refine qs F Aa (Ig (r := AB) Ea F Aa Aa Aa (Aw 0 Aa) h3).q fun a F => ?_
 refine BL fun w W => ?_
 obtain ⟨x4, h4, H⟩ := Al H
 obtain ⟨x5, h5, H⟩ := Al H
 refine HG (r := AB) (v := v1) (k := 0) F W Aa Ea Aa Aa Aa Aa h2 (Hs.sub (DN W 0 Aa) h3) h4 fun a w F W => ?_
 have W : Stw ⟨Y, X, w0⟩ [] [row v1 51 AB x4] w := W
 refine ls F W Aa (Ag F Aa).q fun a w F W => ?_
 refine Ae (Ab (Ai (Ac ?_)))
 iterate 2 refine ls F W Aa (Ad F Aa).q fun a w F W => ?_
 refine ls F W Aa (Cp (r := AB) (l := x5) Gf Aa F Aa (JO (Aw 0 Aa) h5)).q fun a w F W => ?_
 refine ls F W Aa (Ad F Aa).q fun a w F W => ?_
 obtain ⟨x6, h6, H⟩ := Al H
 refine ls F W Aa (HF (r := AB) Ea F Aa Aa Aa (Aw 0 Aa) h6).q fun a w F W => ?_
 obtain ⟨x7, h7, H⟩ := Al H
 refine JQ (r := AB) (v := v1) (k := 0) ((0, 0, 0, (0, 0, 0, 0), 0, 0) : Int × Int × Int × (Int × Int × Int × Int) × Int × Int) F W Ea Hg Aa Aa Aa h6 (fun w A => EM.mk' w A ((0, 0, 0, (0, 0, 0, 0), 0, 0) : Int × Int × Int × (Int × Int × Int × Int) × Int × Int)) h7 fun w W => ?_
 have h8 := JL h7 (Int.le_of_eq (Jw h5).symm) h5
 have W : Stw ⟨Y, X, w0⟩ [] [row v1 51 AB x7] w := W
 refine Ae (Ab (Ai (Ac ?_)))
 refine ls F W Aa (Ad F Aa).q fun a w F W => ?_
 refine ls F W Aa (Ag F Aa).q fun a w F W => ?_
 refine Ae (Ab (AN ?_))
 have H := Bg H
 subst H
 refine Bz (.inl Aa) F W Aa (Az F Aa) ?_
 have W := W.subRow (k := 0) Aa Aa h8
 exact ⟨((BH v1 (0 : Int) ((x2.length : Int) + (x3.length : Int)) 9)), Aa, W⟩
theorem LR : Has Try.prog 32 := ⟨fun args w => An Try.func32 rfl (by decide) args w⟩
abbrev Kb (a0 : (Int × Int × Int × (Int × Int × Int × Int) × Int × Int) × Int) : List Value := [.int .i64 a0.1.1, .int .i64 a0.1.2.1, .int .i64 a0.1.2.2.1, .int .i64 a0.1.2.2.2.1.1, .int .i64 a0.1.2.2.2.1.2.1, .int .i64 a0.1.2.2.2.1.2.2.1, .int .i64 a0.1.2.2.2.1.2.2.2, .int .i64 a0.1.2.2.2.2.1, .int .i64 a0.1.2.2.2.2.2]
abbrev GV (a0 : Nat) (a1 : (Int × Int × Int × (Int × Int × Int × Int) × Int × Int) × Int) (a2 : Nat) (a3 : Nat) (a4 : (Int × (List (Int × Int × Int × Int × Int × Int)) × (List (Int × Int))) × (List (Int × Int × Int × (Int × Int × Int × Int) × Int × Int))) (a5 : Value) (a6 : Value) (a7 : Value) : List (Nat × List Value) := [(a0, [.int .i64 a1.1.1, .int .i64 a1.1.2.1, .int .i64 a1.1.2.2.1, .int .i64 a1.1.2.2.2.1.1, .int .i64 a1.1.2.2.2.1.2.1, .int .i64 a1.1.2.2.2.1.2.2.1, .int .i64 a1.1.2.2.2.1.2.2.2, .int .i64 a1.1.2.2.2.2.1, .int .i64 a1.1.2.2.2.2.2]), (a2, [.int .i64 0, .int .i64 0, .int .i64 0, .int .i64 0, .int .i64 0, .int .i64 0, .int .i64 0, .int .i64 0, .int .i64 0]), (a3, [.int .i64 a4.1.1, a5, a6, a7])]
abbrev KJ (a0 : Nat) (a1 : (Int × Int × Int × (Int × Int × Int × Int) × Int × Int) × Int) (a2 : Nat) (a3 : Nat) (a4 : (Int × (List (Int × Int × Int × Int × Int × Int)) × (List (Int × Int))) × (List (Int × Int × Int × (Int × Int × Int × Int) × Int × Int))) (a5 : Value) (a6 : Value) (a7 : Value) : List (Nat × List Value) := [(a0, [.int .i64 a1.1.1, .int .i64 a1.1.2.1, .int .i64 a1.1.2.2.1, .int .i64 a1.1.2.2.2.1.1, .int .i64 a1.1.2.2.2.1.2.1, .int .i64 a1.1.2.2.2.1.2.2.1, .int .i64 a1.1.2.2.2.1.2.2.2, .int .i64 a1.1.2.2.2.2.1, .int .i64 a1.1.2.2.2.2.2]), (a2, [.int .i64 a1.1.1, .int .i64 a1.1.2.1, .int .i64 a1.1.2.2.1, .int .i64 a1.1.2.2.2.1.1, .int .i64 a1.1.2.2.2.1.2.1, .int .i64 a1.1.2.2.2.1.2.2.1, .int .i64 a1.1.2.2.2.1.2.2.2, .int .i64 a1.1.2.2.2.2.1, .int .i64 a1.1.2.2.2.2.2]), (a3, [.int .i64 a4.1.1, a5, a6, a7])]
noncomputable def Bv (p0 : (Int × (List (Int × Int × Int × Int × Int × Int)) × (List (Int × Int))) × (List (Int × Int × Int × (Int × Int × Int × Int) × Int × Int))) (p1 : Int) (p2 : Int) : Option ((Int × Int × Int × (Int × Int × Int × Int) × Int × Int) × Int × ((Int × (List (Int × Int × Int × Int × Int × Int)) × (List (Int × Int))) × (List (Int × Int × Int × (Int × Int × Int × Int) × Int × Int)))) := (BQ p0 p2).bind fun x1 => (if x1.2 ≠ 0 then some ((0, 0, 0, (0, 0, 0, 0), 0, 0), x1.2, p0) else (if p1 < x1.1.2.2.2.2.1 then some ((0, 0, 0, (0, 0, 0, 0), 0, 0), 15, p0) else (A3 p0.2 p2 (Ay (p2 + 1))).bind fun x2 => some (x1.1, 0, (p0.1, x2))))
theorem DB (Y : Nat → Prop) (X : List Nat) (w0 : World) (q_p0 : Nat) (v1 : Value) (v2 : Value) (v3 : Value) (p0 : (Int × (List (Int × Int × Int × Int × Int × Int)) × (List (Int × Int))) × (List (Int × Int × Int × (Int × Int × Int × Int) × Int × Int))) (p1 : Int) (p2 : Int) (r : (Int × Int × Int × (Int × Int × Int × Int) × Int × Int) × Int × ((Int × (List (Int × Int × Int × Int × Int × Int)) × (List (Int × Int))) × (List (Int × Int × Int × (Int × Int × Int × Int) × Int × Int)))) (H : Bv p0 p1 p2 = some r) (hL : Stw ⟨Y, X, w0⟩ [(q_p0, [.int .i64 p0.1.1, v1, v2, v3])] [Be v1 Bx p0.1.2.1, Be v2 Cb p0.1.2.2, row v3 51 AB p0.2] w0) :
    Calls Try.prog 16 #[.pointer (some ⟨q_p0, 0, none⟩), .int .i64 p1, .int .i64 p2] w0 fun e w' => ∃ x : Value × Value × Value, e = .returned (.tuple #[.agg #[.int .i64 r.1.1, .int .i64 r.1.2.1, .int .i64 r.1.2.2.1, .int .i64 r.1.2.2.2.1.1, .int .i64 r.1.2.2.2.1.2.1, .int .i64 r.1.2.2.2.1.2.2.1, .int .i64 r.1.2.2.2.1.2.2.2, .int .i64 r.1.2.2.2.2.1, .int .i64 r.1.2.2.2.2.2], .int .i64 r.2.1]) ∧ Stw ⟨Y, X, w0⟩ [(q_p0, [.int .i64 r.2.2.1.1, x.1, x.2.1, x.2.2])] [Be (x.1) Bx r.2.2.1.2.1, Be (x.2.1) Cb r.2.2.1.2.2, row (x.2.2) 51 AB r.2.2.2] w' := by
 refine enter Try.func16 Aa Try.ntmps16 Aa fun a F => ?_
 have W := hL
 unfold Bv at H
 refine Ai (Ac ?_)
 refine BZ (cs := (CD)) F W Aa Hg Aa fun b1 a w F W => ?_
 refine ls F W Aa (Ag F Aa).q fun a w F W => ?_
 refine Ae (Ab (Ai (Ac ?_)))
 iterate 2 refine ls F W Aa (Ad F Aa).q fun a w F W => ?_
 obtain ⟨x1, h1, H⟩ := Al H
 refine ls F W Aa (B3 (v := Value.tuple #[.agg #[.int .i64 x1.1.1, .int .i64 x1.1.2.1, .int .i64 x1.1.2.2.1, .int .i64 x1.1.2.2.2.1.1, .int .i64 x1.1.2.2.2.1.2.1, .int .i64 x1.1.2.2.2.1.2.2.1, .int .i64 x1.1.2.2.2.1.2.2.2, .int .i64 x1.1.2.2.2.2.1, .int .i64 x1.1.2.2.2.2.2], .int .i64 x1.2]) F LF Aa (fun w W => FO any w q_p0 (v1) (v2) (v3) p0 p2 _ h1 (((CP 0 Aa) : DT _ _ _ _ _ _) w W).nx (((CP 1 Aa) : DT _ _ _ _ _ _) w W).nx (((Aw 2 Aa) : DT _ _ _ _ _ _) w W).nx (I7 W 1 Aa))) fun a w F W => ?_
 refine ls F W Aa (Ad F Aa).q fun a w F W => ?_
 refine ls F W Aa (AU (v := Value.agg #[.int .i64 x1.1.1, .int .i64 x1.1.2.1, .int .i64 x1.1.2.2.1, .int .i64 x1.1.2.2.2.1.1, .int .i64 x1.1.2.2.2.1.2.1, .int .i64 x1.1.2.2.2.1.2.2.1, .int .i64 x1.1.2.2.2.1.2.2.2, .int .i64 x1.1.2.2.2.2.1, .int .i64 x1.1.2.2.2.2.2]) F Aa Aa).q fun a w F W => ?_
 refine ls F W Aa (AU (v := Value.int .i64 x1.2) F Aa Aa).q fun a w F W => ?_
 refine BZ (cs := (CD)) F W Aa Hg Aa fun b2 a w F W => ?_
 refine Bl (vs := (Kb x1)) (M' := (GV b2 x1 b1 q_p0 p0 v1 v2 v3)) 0 F W Aa Aa Aa Dk Aa Aa Aa Aa Aa fun w W => ?_
 refine ls F W Aa (Ag F Aa).q fun a w F W => ?_
 refine Ae (Ab (Ai (Ai (Ac ?_))))
 refine ls F W Aa (Ad F Aa).q fun a w F W => ?_
 refine ls F W Aa (G0 F Aa Aa).q fun a w F W => ?_
 refine Ae (Ab ?_)
 refine AC F Aa (fun hb => ?_) fun hb => ?_
 ·
  have H := A5 (BJ hb) H
  rw [hb] at F
  clear hb
  refine Ai (Ac ?_)
  refine ls F W Aa (Cx (v := Value.agg #[.int .i64 0, .int .i64 0, .int .i64 0, .int .i64 0, .int .i64 0, .int .i64 0, .int .i64 0, .int .i64 0, .int .i64 0]) KC F Aa Aa Aa).q fun a w F W => ?_
  refine ls F W Aa (Ad F Aa).q fun a w F W => ?_
  refine Bl (vs := (CD)) (M' := (GV b2 x1 b1 q_p0 p0 v1 v2 v3)) 1 F W Aa Aa Aa Dk Aa Aa Aa Aa Aa fun w W => ?_
  refine ls F W Aa (Ag F Aa).q fun a w F W => ?_
  refine Ae (Ab (AN (AY ?_)))
  have H := Bg H
  subst H
  refine FP (.inl Aa) F W Aa (Ei 1 F Aa Aa Dk Aa) (Az F Aa) ?_
  have W := W.frontZ (i := 2) Aa Aa
  have W := W.frontZ (i := 2) Aa Aa
  have W := W.frontZ (i := 2) Aa Aa
  have W := W.frontM (i := 2) Aa Aa
  have W := W.sub (M' := [(q_p0, [.int .i64 p0.1.1, v1, v2, v3])]) (Z' := [Be v1 Bx p0.1.2.1, Be v2 Cb p0.1.2.2, row v3 51 AB p0.2]) (List.Sublist.cons_cons _ (List.nil_sublist _)) (List.Sublist.refl _)
  exact ⟨((v1), (v2), (v3)), Aa, W⟩
 have H := A6 (BK hb) H
 rw [hb] at F
 clear hb
 refine As (Ab (Ai (Ai (Ac ?_))))
 refine ls F W Aa (Ad F Aa).q fun a w F W => ?_
 refine ls F W Aa (Ah Ge Aa Aa Aa T3 F Aa 7 Aa).q fun a w F W => ?_
 refine ls F W Aa (Ao (v := Value.int .i64 x1.1.2.2.2.2.1) 0 F Aa Aa T3 Aa).q fun a w F W => ?_
 refine ls F W Aa (Bm F Aa Aa).q fun a w F W => ?_
 refine Ae (Ab ?_)
 refine AC F Aa (fun hb => ?_) fun hb => ?_
 ·
  have H := A5 (BJ hb) H
  rw [hb] at F
  clear hb
  refine Ai (Ac ?_)
  refine ls F W Aa (Cx (v := Value.agg #[.int .i64 0, .int .i64 0, .int .i64 0, .int .i64 0, .int .i64 0, .int .i64 0, .int .i64 0, .int .i64 0, .int .i64 0]) KC F Aa Aa Aa).q fun a w F W => ?_
  refine Bl (vs := (CD)) (M' := (GV b2 x1 b1 q_p0 p0 v1 v2 v3)) 1 F W Aa Aa Aa Dk Aa Aa Aa Aa Aa fun w W => ?_
  refine ls F W Aa (Ag F Aa).q fun a w F W => ?_
  refine Ae (Ab (AN (AY ?_)))
  have H := Bg H
  subst H
  refine FP (.inl Aa) F W Aa (Ei 1 F Aa Aa Dk Aa) (Az F Aa) ?_
  have W := W.frontZ (i := 2) Aa Aa
  have W := W.frontZ (i := 2) Aa Aa
  have W := W.frontZ (i := 2) Aa Aa
  have W := W.frontM (i := 2) Aa Aa
  have W := W.sub (M' := [(q_p0, [.int .i64 p0.1.1, v1, v2, v3])]) (Z' := [Be v1 Bx p0.1.2.1, Be v2 Cb p0.1.2.2, row v3 51 AB p0.2]) (List.Sublist.cons_cons _ (List.nil_sublist _)) (List.Sublist.refl _)
  exact ⟨((v1), (v2), (v3)), Aa, W⟩
 have H := A6 (BK hb) H
 rw [hb] at F
 clear hb
 refine As (Ab (Ai (Ac ?_)))
 iterate 2 refine ls F W Aa (Ad F Aa).q fun a w F W => ?_
 refine ls F W Aa (Ca F Aa).q fun a w F W => ?_
 refine ls F W Aa (Ah FM Aa Aa Aa GI F Aa 3 Aa).q fun a w F W => ?_
 refine ls F W Aa (Ao (v := v3) 2 F Aa Aa GI Aa).q fun a w F W => ?_
 iterate 2 refine ls F W Aa (Ad F Aa).q fun a w F W => ?_
 refine ls F W Aa (BE F Aa Aa Aa).q fun a w F W => ?_
 obtain ⟨x2, h2, H⟩ := Al H
 have W := W.frontZ (i := 2) Aa Aa
 refine BT (Ml := []) (Zl := [row v3 51 AB p0.2]) (M := (GV b2 x1 b1 q_p0 p0 v1 v2 v3)) (Z := [Be v1 Bx p0.1.2.1, Be v2 Cb p0.1.2.2]) (β := Value) (rv := fun x => x) (MM := fun x => []) (ZZ := fun x => [row x 51 AB x2]) F W LR Aa Aa (fun hL => Do _ _ w (v3) p0.2 p2 (Ay (p2 + 1)) _ h2 hL) fun x a w F W => ?_
 obtain ⟨v4, rfl⟩ : ∃ y, y = x := ⟨x, rfl⟩
 have W : Stw ⟨Y, X, w0⟩ (GV b2 x1 b1 q_p0 p0 v1 v2 v3) [row v4 51 AB x2, Be v1 Bx p0.1.2.1, Be v2 Cb p0.1.2.2] w := W
 refine ls F W Aa (Ca F Aa).q fun a w F W => ?_
 refine ls F W Aa (Ah FM Aa Aa Aa GI F Aa 3 Aa).q fun a w F W => ?_
 refine Fv (M' := (GV b2 x1 b1 q_p0 p0 v1 v2 v4)) 2 F W Aa Aa Aa GI (W.one (k := 0) Aa) Aa Aa fun w W => ?_
 refine Ae (Ab (Ai (Ac ?_)))
 refine ls F W Aa (Ao (v := Value.agg #[.int .i64 x1.1.1, .int .i64 x1.1.2.1, .int .i64 x1.1.2.2.1, .int .i64 x1.1.2.2.2.1.1, .int .i64 x1.1.2.2.2.1.2.1, .int .i64 x1.1.2.2.2.1.2.2.1, .int .i64 x1.1.2.2.2.1.2.2.2, .int .i64 x1.1.2.2.2.2.1, .int .i64 x1.1.2.2.2.2.2]) 0 F Aa Aa Dk Aa).q fun a w F W => ?_
 refine Bl (vs := (Kb x1)) (M' := (KJ b2 x1 b1 q_p0 p0 v1 v2 v4)) 1 F W Aa Aa Aa Dk Aa Aa Aa Aa Aa fun w W => ?_
 refine ls F W Aa (Ag F Aa).q fun a w F W => ?_
 refine Ae (Ab (AN ?_))
 have H := Bg H
 subst H
 refine FP (.inl Aa) F W Aa (Ei 1 F Aa Aa Dk Aa) (Az F Aa) ?_
 have W := W.frontZ (i := 2) Aa Aa
 have W := W.frontZ (i := 2) Aa Aa
 have W := W.frontM (i := 2) Aa Aa
 have W := W.sub (M' := [(q_p0, [.int .i64 p0.1.1, v1, v2, v4])]) (Z' := [Be v1 Bx p0.1.2.1, Be v2 Cb p0.1.2.2, row v4 51 AB x2]) (List.Sublist.cons_cons _ (List.nil_sublist _)) (List.Sublist.refl _)
 exact ⟨((v1), (v2), (v4)), Aa, W⟩
theorem KQ : Has Try.prog 16 := ⟨fun args w => An Try.func16 rfl (by decide) args w⟩
def BN (p0 : (Int × (List (Int × Int × Int × Int × Int × Int)) × (List (Int × Int))) × (List (Int × Int × Int × (Int × Int × Int × Int) × Int × Int))) : Int := (p0.2.length : Int)
theorem Ew (Y : Nat → Prop) (w0 : World) (q_p0 : Nat) (v1 : Value) (v2 : Value) (v3 : Value) (p0 : (Int × (List (Int × Int × Int × Int × Int × Int)) × (List (Int × Int))) × (List (Int × Int × Int × (Int × Int × Int × Int) × Int × Int))) (r : Int) (H : BN p0 = r) (h_v1 : Sl w0 (NX []) Bx v1 p0.1.2.1) (h_v2 : Sl w0 (NX []) Cb v2 p0.1.2.2) (h_v3 : Sl w0 (NX []) AB v3 p0.2) (a_q_p0 : At ⟨Y, [], w0⟩ q_p0 0 [.int .i64 p0.1.1, v1, v2, v3]) :
    Calls Try.prog 11 #[.pointer (some ⟨q_p0, 0, none⟩)] w0 fun e w' => e = .returned (.int .i64 r) ∧ Below w0.heap.size w0 w' := by
 refine enter Try.func11 Aa Try.ntmps11 Aa fun a F => ?_
 have W := Stw.start Y w0
 unfold BN at H
 refine Ai (Ac ?_)
 refine ls F W Aa (Ag F Aa).q fun a w F W => ?_
 refine Ae (Ab (Ai (Ai (Ac ?_))))
 refine ls F W Aa (Ad F Aa).q fun a w F W => ?_
 refine ls F W Aa (Dq HT F Aa Aa).q fun a w F W => ?_
 refine Ae (Ab ?_)
 refine EB F Aa ?_
 refine As (Ab (Ai (Ac ?_)))
 refine ls F W Aa (Ad F Aa).q fun a w F W => ?_
 refine ls F W Aa (Ca F Aa).q fun a w F W => ?_
 refine ls F W Aa (Ah FM Aa Aa Aa GI F Aa 3 Aa).q fun a w F W => ?_
 refine ls F W Aa (E6 (y := v3) (j := 3) F Aa (Nat.zero_add _).symm a_q_p0 GI Aa).q fun a w F W => ?_
 refine ls F W Aa (Cp (r := AB) (l := p0.2) Gf Aa F Aa (Ap h_v3)).q fun a w F W => ?_
 refine ls F W Aa (Ag F Aa).q fun a w F W => ?_
 refine Ae (Ab (AN ?_))
 subst H
 refine Bz (.inl Aa) F W Aa (Az F Aa) ?_
 exact ⟨rfl, W.done⟩
theorem Lx : Has Try.prog 11 := ⟨fun args w => An Try.func11 rfl (by decide) args w⟩
theorem I9 : (Try.prog.underlying 9).map (fun d => match d with | .interface _ => true | _ => false) = some false := by kernel_rfl
def Co (p0 : Int) : Bool := decide (p0 ≠ p0)
theorem EK (Y : Nat → Prop) (w0 : World)  (p0 : Int) (r : Bool) (H : Co p0 = r)  :
    Calls Try.prog 42 #[.int .i64 p0] w0 fun e w' => e = .returned (.bool r) ∧ Below w0.heap.size w0 w' := by
 refine enter Try.func42 Aa Try.ntmps42 Aa fun a F => ?_
 have W := Stw.start Y w0
 unfold Co at H
 refine Ai (Ac ?_)
 refine ls F W Aa (Ag F Aa).q fun a w F W => ?_
 refine Ae (Ab (Ai (Ac ?_)))
 iterate 2 refine ls F W Aa (Ad F Aa).q fun a w F W => ?_
 refine ls F W Aa (G0 F Aa Aa).q fun a w F W => ?_
 refine ls F W Aa (Ag F Aa).q fun a w F W => ?_
 refine Ae (Ab (AN ?_))
 subst H
 refine Bz (.inl Aa) F W Aa (Az F Aa) ?_
 exact ⟨rfl, W.done⟩
end Go.Proofs.Ytemacefkdopgaaa
