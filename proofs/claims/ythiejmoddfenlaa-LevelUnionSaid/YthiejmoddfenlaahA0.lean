/- The functions of layer 23, HZ. Conditions: none. -/
import Derived.Test.YthiejmoddfenlaaRows
import Derived.Test.YthiejmoddfenlaahQT
import Derived.Test.YthiejmoddfenlaahOT
import Derived.Test.YthiejmoddfenlaahOD
import Derived.Test.YthiejmoddfenlaahOC
import Derived.Test.YthiejmoddfenlaahOM
import Derived.Test.YthiejmoddfenlaahOX
namespace Go.Proofs.Ythiejmoddfenlaa
open Go Go.RowKit
set_option linter.unusedVariables false
set_option linter.unusedSimpArgs false
set_option maxRecDepth 20000
theorem Md : type_of% Try.underlying22 := Try.underlying22
theorem JG : type_of% Try.underlying23 := Try.underlying23
theorem D1 : type_of% Try.underlying25 := Try.underlying25
theorem KZ : type_of% Try.underlying43 := Try.underlying43
theorem EW : type_of% Try.underlying69 := Try.underlying69
theorem Rm : type_of% Try.underlying115 := Try.underlying115
theorem KD : type_of% Try.underlying118 := Try.underlying118
abbrev Hu : Rp (Int × Int × Int × Int × Int × Int) := (Rp.pair (Rp.int .i64) (Rp.pair (Rp.int .i64) (Rp.pair (Rp.int .i64) (Rp.pair (Rp.int .i64) (Rp.pair (Rp.int .i64) (Rp.int .i64))))))
abbrev Gz : Rp (Int × Int) := (Rp.pair (Rp.int .i64) (Rp.int .i64))
abbrev SD (p : Value × List Int) : List Int := p.2
theorem Do : Ex (Rp.slice (Rp.int .i64)) (Rp.vsl (Rp.int .i64)) SD := Ex.sliceF
theorem JE : Ty Try.prog 25 true 3 := ⟨by kernel_rfl, by kernel_rfl⟩
theorem T3 : Ty Try.prog 3 false 1 := ⟨by kernel_rfl, by kernel_rfl⟩
theorem Lp : Ty Try.prog 22 false 1 := ⟨by kernel_rfl, by kernel_rfl⟩
theorem H4 : Ty Try.prog 23 false 1 := ⟨by kernel_rfl, by kernel_rfl⟩
abbrev Ig (x : Int × Int) : Value := .agg #[.int .i64 x.1, .int .i64 x.2]
abbrev IR (x : Unit) : Value := .agg #[]
theorem RF : Et Try.prog 22 69 6 48 := Et.of Md (by kernel_rfl) (by kernel_rfl) (by kernel_rfl) (by decide)
def To (a : Int × Int × Int × Int × Int × Int) : List Value := [.int .i64 a.1, .int .i64 a.2.1, .int .i64 a.2.2.1, .int .i64 a.2.2.2.1, .int .i64 a.2.2.2.2.1, .int .i64 a.2.2.2.2.2]
theorem RN : Fl Hu To := (Fl.pair Fl.int (Fl.pair Fl.int (Fl.pair Fl.int (Fl.pair Fl.int (Fl.pair Fl.int Fl.int)))))
theorem PO : Ty Try.prog 69 true 6 := ⟨by kernel_rfl, by kernel_rfl⟩
theorem RW : (Try.prog.info? 69).bind (·.zero) = some (.agg #[.int .i64 0, .int .i64 0, .int .i64 0, .int .i64 0, .int .i64 0, .int .i64 0]) := by kernel_rfl
theorem O3 : Bt Try.prog 118 [.int .i64 0, .int .i64 0] [(0, 1), (1, 1)] := ⟨⟨.agg #[.int .i64 0, .int .i64 0], by kernel_rfl, rfl⟩, ⟨_, KD, fun w => by kernel_rfl⟩⟩
theorem QT : (Try.prog.info? 118).bind (·.zero) = some (.agg #[.int .i64 0, .int .i64 0]) := by kernel_rfl
abbrev GE : Rp (Int × Int) := (Rp.pair (Rp.int .i64) (Rp.int .i64))
def SL (a : Int × Int) : List Value := [.int .i64 a.1, .int .i64 a.2]
theorem RP : Fl GE SL := (Fl.pair Fl.int Fl.int)
theorem P0 : Et Try.prog 115 118 2 16 := Et.of Rm (by kernel_rfl) (by kernel_rfl) (by kernel_rfl) (by decide)
theorem Py : Et Try.prog 23 43 2 16 := Et.of JG (by kernel_rfl) (by kernel_rfl) (by kernel_rfl) (by decide)
def Tk (a : Int × Int) : List Value := [.int .i64 a.1, .int .i64 a.2]
theorem Pw : Fl Gz Tk := (Fl.pair Fl.int Fl.int)
theorem St : Ty Try.prog 43 true 2 := ⟨by kernel_rfl, by kernel_rfl⟩
theorem Td : (Try.prog.info? 43).bind (·.zero) = some (.agg #[.int .i64 0, .int .i64 0]) := by kernel_rfl
noncomputable def DV (p0 : Int × (List (Int × Int × Int × Int × Int × Int)) × (List (Int × Int))) : ((List (Int × Int)) × Int) → Option (((List (Int × Int)) × Int) ⊕ (List (Int × Int)))
  | (x2, x3) => (if x3 < (p0.2.1.length : Int) then (ix p0.2.1 x3).bind fun x4 => (Ld x2 ([(x4.1, x4.2.1), (x4.2.2.1, x4.2.2.2.1)] : List (Int × Int))).bind fun x5 => some (.inl (x5, AB (x3 + 1))) else some (.inr x2))
noncomputable def DS (p0 : Int × (List (Int × Int × Int × Int × Int × Int)) × (List (Int × Int))) : ((List (Int × Int)) × Int) → Option (((List (Int × Int)) × Int) ⊕ (List (Int × Int)))
  | (x7, x8) => (if x8 < (p0.2.2.length : Int) then (ix p0.2.2 x8).bind fun x9 => (Ld x7 ([x9] : List (Int × Int))).bind fun x10 => some (.inl (x10, AB (x8 + 1))) else some (.inr x7))
noncomputable def FR (p0 : Int × (List (Int × Int × Int × Int × Int × Int)) × (List (Int × Int))) : Option (List (Int × Int)) := (AG (DV p0) ([], 0)).bind fun x1 => (AG (DS p0) (x1, 0)).bind fun x6 => some x6
theorem Mr (Y : Nat → Prop) (w0 : World) (v1 : Value) (v2 : Value) (p0 : Int × (List (Int × Int × Int × Int × Int × Int)) × (List (Int × Int))) (r : (List (Int × Int))) (H : FR p0 = some r) (h_v1 : Sl w0 (NX []) Hu v1 p0.2.1) (h_v2 : Sl w0 (NX []) Gz v2 p0.2.2) :
    Calls Try.prog 69 #[.agg #[.int .i64 p0.1, v1, v2]] w0 fun e w' => ∃ x : Value, e = .returned (x) ∧ Stw ⟨Y, [], w0⟩ [] [row (x) 118 GE r] w' := by
 refine enter Try.func69 Aa Try.ntmps69 Aa fun a F => ?_
 have W := Stw.start Y w0
 unfold FR at H
 refine Ah (Ac ?_)
 refine E5 (cs := [.int .i64 p0.1, v1, v2]) F W Aa Aa Aa fun b1 a w F W => ?_
 refine ls F W Aa (Ag F Aa).q fun a w F W => ?_
 refine Ae (Ab (Ah (Ac ?_)))
 refine ls F W Aa (Ag F Aa).q fun a w F W => ?_
 refine Ae (Ab ?_)
 obtain ⟨o1, G1, K1⟩ := Ak H
 refine AM (fun a w => ∃ x1 : List (Int × Int), ∃ v3 : Value, some (x1) = some o1 ∧ Fr 46 [] [(1, .pointer (some ⟨b1, 0, none⟩)), (2, .slice none 0 0), (3, v3)] a ∧ Stw ⟨Y, [], w0⟩ [(b1, [.int .i64 p0.1, v1, v2])] [row v3 118 GE x1] w) ?_ ?_
 ·
  have H := G1
  clear G1 K1
  refine Ah (Ac ?_)
  refine ls F W Aa (Aj D1 Aa Aa Aa Lp F Aa 1 Aa).q fun a w F W => ?_
  refine ls F W Aa (Aw (v := v1) 0 F Aa Aa Lp Aa).q fun a w F W => ?_
  refine ls F W Aa (B0 (r := Hu) (l := p0.2.1) Md Aa F Aa (Am h_v1)).q fun a w F W => ?_
  refine ls F W Aa (Ad F Aa).q fun a w F W => ?_
  refine Ae (Ab (As ?_))
  have W := W.nilRow 118 GE
  refine Bb H (fun s a w => ∃ v4 : Value, Fr 46 [] [(1, .pointer (some ⟨b1, 0, none⟩)), (2, .slice none 0 0), (3, v4), (9, v1), (10, .int .i64 (p0.2.1.length : Int)), (11, .int .i64 s.2)] a ∧ Stw ⟨Y, [], w0⟩ [(b1, [.int .i64 p0.1, v1, v2])] [row v4 118 GE s.1] w) ⟨(Value.slice none 0 0), F.re ⟨rfl, Aa, Aa, Aa, Aa, Aa, trivial⟩, W⟩ fun s o a w H L2 hR => ?_
  obtain ⟨x2, x3⟩ := s
  obtain ⟨v4, F, W⟩ := hR
  have F : Fr 46 [] [(1, .pointer (some ⟨b1, 0, none⟩)), (2, .slice none 0 0), (3, v4), (9, v1), (10, .int .i64 (p0.2.1.length : Int)), (11, .int .i64 x3)] a := F
  have W : Stw ⟨Y, [], w0⟩ [(b1, [.int .i64 p0.1, v1, v2])] [row v4 118 GE x2] w := W
  rw [DV] at H
  refine Ah (Ac ?_)
  refine ls F W Aa (Bu F Aa Aa).q fun a w F W => ?_
  refine Ae (Ab (Ah ?_))
  refine AA F Aa (fun hb => ?_) fun hb => ?_
  ·
   have H := AS (BD hb) H
   rw [hb] at F
   clear hb
   refine Av (Ab (Ah (As (Ah (Ac ?_)))))
   obtain ⟨x4, h1, H⟩ := Ak H
   refine ls F W Aa (Ax (r := Hu) RF F Aa Aa (Am h_v1) h1).q fun a w F W => ?_
   refine ls F W Aa (Ao (y := Value.agg #[.int .i64 x4.1, .int .i64 x4.2.1, .int .i64 x4.2.2.1, .int .i64 x4.2.2.2.1, .int .i64 x4.2.2.2.2.1, .int .i64 x4.2.2.2.2.2]) (j := 0) (i := x3) F Aa Aa (Am h_v1) h1 RN.to PO Aa).q fun a w F W => ?_
   refine DX (cs := [.int .i64 0, .int .i64 0, .int .i64 0, .int .i64 0, .int .i64 0, .int .i64 0]) F W Aa RW Aa fun b2 a w F W => ?_
   refine DC (vs := [.int .i64 x4.1, .int .i64 x4.2.1, .int .i64 x4.2.2.1, .int .i64 x4.2.2.2.1, .int .i64 x4.2.2.2.2.1, .int .i64 x4.2.2.2.2.2]) (M' := [(b2, [.int .i64 x4.1, .int .i64 x4.2.1, .int .i64 x4.2.2.1, .int .i64 x4.2.2.2.1, .int .i64 x4.2.2.2.2.1, .int .i64 x4.2.2.2.2.2]), (b1, [.int .i64 p0.1, v1, v2])]) 0 F W Aa Aa Aa PO Aa Aa Aa Aa Aa fun w W => ?_
   refine Ae (Ab (Ac ?_))
   refine ls F W Aa (Ad F Aa).q fun a w F W => ?_
   refine ls F W Aa (Aj EW Aa Aa Aa T3 F Aa 0 Aa).q fun a w F W => ?_
   refine ls F W Aa (Aw (v := Value.int .i64 x4.1) 0 F Aa Aa T3 Aa).q fun a w F W => ?_
   refine ls F W Aa (Aj EW Aa Aa Aa T3 F Aa 1 Aa).q fun a w F W => ?_
   refine ls F W Aa (Aw (v := Value.int .i64 x4.2.1) 0 F Aa Aa T3 Aa).q fun a w F W => ?_
   refine ls F W Aa (ET (v := Value.agg #[.int .i64 x4.1, .int .i64 x4.2.1]) O3 F Aa Aa Aa).q fun a w F W => ?_
   refine ls F W Aa (Aj EW Aa Aa Aa T3 F Aa 2 Aa).q fun a w F W => ?_
   refine ls F W Aa (Aw (v := Value.int .i64 x4.2.2.1) 0 F Aa Aa T3 Aa).q fun a w F W => ?_
   refine ls F W Aa (Aj EW Aa Aa Aa T3 F Aa 3 Aa).q fun a w F W => ?_
   refine ls F W Aa (Aw (v := Value.int .i64 x4.2.2.2.1) 0 F Aa Aa T3 Aa).q fun a w F W => ?_
   refine ls F W Aa (ET (v := Value.agg #[.int .i64 x4.2.2.1, .int .i64 x4.2.2.2.1]) O3 F Aa Aa Aa).q fun a w F W => ?_
   refine Fm (z := Value.agg #[.int .i64 0, .int .i64 0]) (cs := [.int .i64 x4.1, .int .i64 x4.2.1, .int .i64 x4.2.2.1, .int .i64 x4.2.2.2.1]) GE ([(x4.1, x4.2.1), (x4.2.2.1, x4.2.2.2.1)] : List (Int × Int)) F W Aa P0 QT Aa Aa Aa Aa Aa Aa (RP.repL _ _ ([(x4.1, x4.2.1), (x4.2.2.1, x4.2.2.2.1)] : List (Int × Int))) fun v5 a w F W => ?_
   obtain ⟨x5, h2, H⟩ := Ak H
   refine Fj (r := GE) (i := 1) F W Aa P0 Aa Aa Aa Aa (GP W 0 Aa) h2 Aa fun v6 a w F W => ?_
   have W : Stw ⟨Y, [], w0⟩ [(b2, [.int .i64 x4.1, .int .i64 x4.2.1, .int .i64 x4.2.2.1, .int .i64 x4.2.2.2.1, .int .i64 x4.2.2.2.2.1, .int .i64 x4.2.2.2.2.2]), (b1, [.int .i64 p0.1, v1, v2])] [row v6 118 GE x5, row v5 118 GE ([(x4.1, x4.2.1), (x4.2.2.1, x4.2.2.2.1)] : List (Int × Int))] w := W
   refine ls F W Aa (Ag F Aa).q fun a w F W => ?_
   refine Ae (AP (Ab (Ac ?_)))
   refine ls F W Aa (BC F Aa Aa Aa).q fun a w F W => ?_
   refine ls F W Aa (Ad F Aa).q fun a w F W => ?_
   refine Ae (Ab ?_)
   have W := W.frontM (i := 1) Aa Aa
   have W := W.sub (M' := [(b1, [.int .i64 p0.1, v1, v2])]) (Z' := [row v6 118 GE x5]) (List.Sublist.cons_cons _ (List.nil_sublist _)) (List.Sublist.cons_cons _ (List.nil_sublist _))
   exact ⟨_, H, (v6), F.re ⟨rfl, Aa, Aa, Aa, Aa, Aa, trivial⟩, W⟩
  have H := AR (BB hb) H
  rw [hb] at F
  clear hb
  refine A8 ?_
  iterate 2 refine Bq ?_
  refine A9 (Ab ?_)
  have H := L2 _ H
  exact ⟨_, (v4), H, F.re ⟨rfl, Aa, Aa, trivial⟩, W⟩
 rintro a w ⟨x1, v3, hj, F, W⟩
 have hj := AV hj
 subst hj
 have H := K1
 clear G1 K1
 obtain ⟨o3, G3, K3⟩ := Ak H
 refine AM (fun a w => ∃ x6 : List (Int × Int), ∃ v7 : Value, some (x6) = some o3 ∧ Fr 46 [] [(2, .slice none 0 0), (3, v7)] a ∧ Stw ⟨Y, [], w0⟩ [(b1, [.int .i64 p0.1, v1, v2])] [row v7 118 GE x6] w) ?_ ?_
 ·
  have H := G3
  clear G3 K3
  refine Ah (Ac ?_)
  refine ls F W Aa (Aj D1 Aa Aa Aa H4 F Aa 2 Aa).q fun a w F W => ?_
  refine ls F W Aa (Aw (v := v2) 0 F Aa Aa H4 Aa).q fun a w F W => ?_
  refine ls F W Aa (B0 (r := Gz) (l := p0.2.2) JG Aa F Aa (Am h_v2)).q fun a w F W => ?_
  refine ls F W Aa (Ad F Aa).q fun a w F W => ?_
  refine Ae (Ab (As ?_))
  refine Bb H (fun s a w => ∃ v8 : Value, Fr 46 [] [(2, .slice none 0 0), (3, v8), (30, v2), (31, .int .i64 (p0.2.2.length : Int)), (32, .int .i64 s.2)] a ∧ Stw ⟨Y, [], w0⟩ [(b1, [.int .i64 p0.1, v1, v2])] [row v8 118 GE s.1] w) ⟨(v3), F.re ⟨rfl, Aa, Aa, Aa, Aa, trivial⟩, W⟩ fun s o a w H L4 hR => ?_
  obtain ⟨x7, x8⟩ := s
  obtain ⟨v8, F, W⟩ := hR
  have F : Fr 46 [] [(2, .slice none 0 0), (3, v8), (30, v2), (31, .int .i64 (p0.2.2.length : Int)), (32, .int .i64 x8)] a := F
  have W : Stw ⟨Y, [], w0⟩ [(b1, [.int .i64 p0.1, v1, v2])] [row v8 118 GE x7] w := W
  rw [DS] at H
  refine Ah (Ac ?_)
  refine ls F W Aa (Bu F Aa Aa).q fun a w F W => ?_
  refine Ae (Ab (Ah ?_))
  refine AA F Aa (fun hb => ?_) fun hb => ?_
  ·
   have H := AS (BD hb) H
   rw [hb] at F
   clear hb
   refine Av (Ab (Ah (As (Ah (Ac ?_)))))
   obtain ⟨x9, h3, H⟩ := Ak H
   refine ls F W Aa (Ax (r := Gz) Py F Aa Aa (Am h_v2) h3).q fun a w F W => ?_
   refine ls F W Aa (Ao (y := Value.agg #[.int .i64 x9.1, .int .i64 x9.2]) (j := 0) (i := x8) F Aa Aa (Am h_v2) h3 Pw.to St Aa).q fun a w F W => ?_
   refine DX (cs := [.int .i64 0, .int .i64 0]) F W Aa Td Aa fun b3 a w F W => ?_
   refine DC (vs := [.int .i64 x9.1, .int .i64 x9.2]) (M' := [(b3, [.int .i64 x9.1, .int .i64 x9.2]), (b1, [.int .i64 p0.1, v1, v2])]) 0 F W Aa Aa Aa St Aa Aa Aa Aa Aa fun w W => ?_
   refine Ae (Ab (Ac ?_))
   refine ls F W Aa (Ad F Aa).q fun a w F W => ?_
   refine ls F W Aa (Aj KZ Aa Aa Aa T3 F Aa 0 Aa).q fun a w F W => ?_
   refine ls F W Aa (Aw (v := Value.int .i64 x9.1) 0 F Aa Aa T3 Aa).q fun a w F W => ?_
   refine ls F W Aa (Aj KZ Aa Aa Aa T3 F Aa 1 Aa).q fun a w F W => ?_
   refine ls F W Aa (Aw (v := Value.int .i64 x9.2) 0 F Aa Aa T3 Aa).q fun a w F W => ?_
   refine ls F W Aa (ET (v := Value.agg #[.int .i64 x9.1, .int .i64 x9.2]) O3 F Aa Aa Aa).q fun a w F W => ?_
   refine Fm (z := Value.agg #[.int .i64 0, .int .i64 0]) (cs := [.int .i64 x9.1, .int .i64 x9.2]) GE ([x9] : List (Int × Int)) F W Aa P0 QT Aa Aa Aa Aa Aa Aa (RP.repL _ _ ([x9] : List (Int × Int))) fun v9 a w F W => ?_
   obtain ⟨x10, h4, H⟩ := Ak H
   refine Fj (r := GE) (i := 1) F W Aa P0 Aa Aa Aa Aa (GP W 0 Aa) h4 Aa fun v10 a w F W => ?_
   have W : Stw ⟨Y, [], w0⟩ [(b3, [.int .i64 x9.1, .int .i64 x9.2]), (b1, [.int .i64 p0.1, v1, v2])] [row v10 118 GE x10, row v9 118 GE ([x9] : List (Int × Int))] w := W
   refine ls F W Aa (Ag F Aa).q fun a w F W => ?_
   refine Ae (AP (Ab (Ac ?_)))
   refine ls F W Aa (BC F Aa Aa Aa).q fun a w F W => ?_
   refine ls F W Aa (Ad F Aa).q fun a w F W => ?_
   refine Ae (Ab ?_)
   have W := W.frontM (i := 1) Aa Aa
   have W := W.sub (M' := [(b1, [.int .i64 p0.1, v1, v2])]) (Z' := [row v10 118 GE x10]) (List.Sublist.cons_cons _ (List.nil_sublist _)) (List.Sublist.cons_cons _ (List.nil_sublist _))
   exact ⟨_, H, (v10), F.re ⟨rfl, Aa, Aa, Aa, Aa, trivial⟩, W⟩
  have H := AR (BB hb) H
  rw [hb] at F
  clear hb
  refine A8 ?_
  iterate 2 refine Bq ?_
  refine A9 (Ab ?_)
  have H := L4 _ H
  exact ⟨_, (v8), H, F.re ⟨rfl, Aa, trivial⟩, W⟩
 rintro a w ⟨x6, v7, hj, F, W⟩
 have hj := AV hj
 subst hj
 have H := K3
 clear G3 K3
 refine Ah (Ac ?_)
 refine ls F W Aa (Ad F Aa).q fun a w F W => ?_
 refine ls F W Aa (Ag F Aa).q fun a w F W => ?_
 refine Ae (Ab (AF ?_))
 have H := AV H
 subst H
 refine BK (.inl Aa) F W Aa (Ay F Aa) ?_
 have W := W.sub (M' := []) (Z' := [row v7 118 GE x6]) (List.nil_sublist _) (List.Sublist.refl _)
 exact ⟨(v7), Aa, W⟩
theorem NV : type_of% Try.underlying3 := Try.underlying3
theorem Sc : type_of% Try.underlying119 := Try.underlying119
theorem T1 : Has Try.prog 69 := ⟨fun args w => Al Try.func69 rfl (by decide) args w⟩
theorem Oi : Ty Try.prog 118 true 2 := ⟨by kernel_rfl, by kernel_rfl⟩
theorem Sa (dd : Nat) (x0 : Int) (x1 : Int) (y0 : Int) (y1 : Int) (w : World) : (Op.equalIn (dd + 2) 118 (.agg #[.int .i64 x0, .int .i64 x1]) (.agg #[.int .i64 y0, .int .i64 y1])).run Try.prog w = .ok (decide (x0 = y0 ∧ x1 = y1)) w :=
  Ku (d := dd + 1) (rs := [decide (x0 = y0), decide (x1 = y1)]) KD (by kernel_rfl) ⟨rfl, Ih (d := dd + 0) rfl rfl NV T3 rfl rfl, rfl, Ih (d := dd + 0) rfl rfl NV T3 rfl rfl, trivial⟩ (by simp) w
theorem R4 : Try.prog.eqGuardType Try.prog.depth 118 = false := by kernel_rfl
theorem Rs (x0 : Int) (x1 : Int) (y0 : Int) (y1 : Int) (w : World) : (Op.equalIn 10000 118 (.agg #[.int .i64 x0, .int .i64 x1]) (.agg #[.int .i64 y0, .int .i64 y1])).run Try.prog w = .ok (decide (x0 = y0 ∧ x1 = y1)) w := Sa 9998 x0 x1 y0 y1 w
theorem Rf : KeyEnc Try.prog 118 Ig := ⟨⟨_, KD, .inl fun _ _ => rfl⟩, fun x y w => (Rs x.1 x.2 y.1 y.2 w).trans (by congr 1; exact decide_eq_decide.2 (by simp only [Prod.ext_iff])), fun b x w => KW (m := 9999) (cs := List.toArray [.int .i64 x.1, .int .i64 x.2]) KD ⟨⟨_, Ny T3 rfl, I4 (m := 9998) NV⟩, ⟨_, Ny T3 rfl, I4 (m := 9998) NV⟩, trivial⟩ b w, fun x => by simp [Instr.sameBits]⟩
theorem Sk : (Try.prog.info? 119).bind (·.zero) = some (.agg #[]) := by kernel_rfl
theorem SK : Ty Try.prog 119 true 0 := ⟨by kernel_rfl, by kernel_rfl⟩
theorem SJ : Bt Try.prog 119 [] [] := ⟨⟨.agg #[], by kernel_rfl, rfl⟩, ⟨_, Sc, fun w => by kernel_rfl⟩⟩
def Cr (p0 : Int × Int × Int × Int × Int × Int) : Bool := (decide (p0.1 = p0.2.2.1) || (decide (p0.2.2.2.2.1 < 1) || (decide (p0.2.2.2.2.2 < p0.2.2.2.2.1) || decide (1000 < p0.2.2.2.2.2))))
theorem Kz (Y : Nat → Prop) (w0 : World)  (p0 : Int × Int × Int × Int × Int × Int) (r : Bool) (H : Cr p0 = r)  :
    Calls Try.prog 71 #[.agg #[.int .i64 p0.1, .int .i64 p0.2.1, .int .i64 p0.2.2.1, .int .i64 p0.2.2.2.1, .int .i64 p0.2.2.2.2.1, .int .i64 p0.2.2.2.2.2]] w0 fun e w' => e = .returned (.bool r) ∧ Below w0.heap.size w0 w' := by
 refine enter Try.func71 Aa Try.ntmps71 Aa fun a F => ?_
 have W := Stw.start Y w0
 unfold Cr at H
 refine Ah (Ac ?_)
 refine E5 (cs := [.int .i64 p0.1, .int .i64 p0.2.1, .int .i64 p0.2.2.1, .int .i64 p0.2.2.2.1, .int .i64 p0.2.2.2.2.1, .int .i64 p0.2.2.2.2.2]) F W Aa Aa Aa fun b1 a w F W => ?_
 refine ls F W Aa (Ag F Aa).q fun a w F W => ?_
 refine Ae (Ab ?_)
 refine AM (fun a w => Fr 25 [] [(2, .bool (decide (p0.1 = p0.2.2.1) || (decide (p0.2.2.2.2.1 < 1) || (decide (p0.2.2.2.2.2 < p0.2.2.2.2.1) || decide (1000 < p0.2.2.2.2.2)))))] a ∧ Stw ⟨Y, [], w0⟩ [(b1, [.int .i64 p0.1, .int .i64 p0.2.1, .int .i64 p0.2.2.1, .int .i64 p0.2.2.2.1, .int .i64 p0.2.2.2.2.1, .int .i64 p0.2.2.2.2.2])] [] w) ?_ ?_
 ·
  refine Ac ?_
  refine ls F W Aa (Aj EW Aa Aa Aa T3 F Aa 0 Aa).q fun a w F W => ?_
  refine ls F W Aa (Aw (v := Value.int .i64 p0.1) 0 F Aa Aa T3 Aa).q fun a w F W => ?_
  refine ls F W Aa (Aj EW Aa Aa Aa T3 F Aa 2 Aa).q fun a w F W => ?_
  refine ls F W Aa (Aw (v := Value.int .i64 p0.2.2.1) 0 F Aa Aa T3 Aa).q fun a w F W => ?_
  refine ls F W Aa (DP F Aa Aa).q fun a w F W => ?_
  refine ls F W Aa (Ad F Aa).q fun a w F W => ?_
  rcases Bool.eq_false_or_eq_true (decide (p0.1 = p0.2.2.1)) with hb0 | hb0
  ·
   rw [hb0] at F
   iterate 3 refine Dd F Aa Aa Aa Aa Aa Aa Aa fun a F => ?_
   refine ls F W Aa (Aq F Aa Aa Aa).q fun a w F W => ?_
   refine ls F W Aa (Ad F Aa).q fun a w F W => ?_
   iterate 5 refine Dd F Aa Aa Aa Aa Aa Aa Aa fun a F => ?_
   refine ls F W Aa (Aq F Aa Aa Aa).q fun a w F W => ?_
   refine ls F W Aa (Ad F Aa).q fun a w F W => ?_
   iterate 3 refine Dd F Aa Aa Aa Aa Aa Aa Aa fun a F => ?_
   refine ls F W Aa (Aq F Aa Aa Aa).q fun a w F W => ?_
   refine ls F W Aa (Ag F Aa).q fun a w F W => ?_
   refine Ae (Ab ?_)
   exact ⟨F.re ⟨(by show some (Value.bool true) = some (Value.bool (decide (p0.1 = p0.2.2.1) || (decide (p0.2.2.2.2.1 < 1) || (decide (p0.2.2.2.2.2 < p0.2.2.2.2.1) || decide (1000 < p0.2.2.2.2.2))))); try rw [hb0]; all_goals simp only [Bool.not_true, Bool.not_false, Bool.true_and, Bool.false_and, Bool.true_or, Bool.false_or, Bool.and_true, Bool.or_false, cond_true, cond_false]), trivial⟩, W⟩
  rw [hb0] at F
  refine AJ F W (Af F Aa Aa Aa Aa) Aa (Ai Aa) (Aj EW Aa Aa Aa T3 F Aa 4 Aa).q fun a w F W => ?_
  refine AJ F W (Af F Aa Aa Aa Aa) Aa (Ai Aa) (Aw (v := Value.int .i64 p0.2.2.2.2.1) 0 F Aa Aa T3 Aa).q fun a w F W => ?_
  refine AJ F W (Af F Aa Aa Aa Aa) Aa (Ai Aa) (Bu F Aa Aa).q fun a w F W => ?_
  refine ls F W Aa (Az F Aa Aa Aa).q fun a w F W => ?_
  refine ls F W Aa (Ad F Aa).q fun a w F W => ?_
  rcases Bool.eq_false_or_eq_true (decide (p0.2.2.2.2.1 < 1)) with hb1 | hb1
  ·
   rw [hb1] at F
   iterate 5 refine Dd F Aa Aa Aa Aa Aa Aa Aa fun a F => ?_
   refine ls F W Aa (Aq F Aa Aa Aa).q fun a w F W => ?_
   refine ls F W Aa (Ad F Aa).q fun a w F W => ?_
   iterate 3 refine Dd F Aa Aa Aa Aa Aa Aa Aa fun a F => ?_
   refine ls F W Aa (Aq F Aa Aa Aa).q fun a w F W => ?_
   refine ls F W Aa (Ag F Aa).q fun a w F W => ?_
   refine Ae (Ab ?_)
   exact ⟨F.re ⟨(by show some (Value.bool true) = some (Value.bool (decide (p0.1 = p0.2.2.1) || (decide (p0.2.2.2.2.1 < 1) || (decide (p0.2.2.2.2.2 < p0.2.2.2.2.1) || decide (1000 < p0.2.2.2.2.2))))); try rw [hb1]; try rw [hb0]; all_goals simp only [Bool.not_true, Bool.not_false, Bool.true_and, Bool.false_and, Bool.true_or, Bool.false_or, Bool.and_true, Bool.or_false, cond_true, cond_false]), trivial⟩, W⟩
  rw [hb1] at F
  refine AJ F W (Af F Aa Aa Aa Aa) Aa (Ai Aa) (Aj EW Aa Aa Aa T3 F Aa 5 Aa).q fun a w F W => ?_
  refine AJ F W (Af F Aa Aa Aa Aa) Aa (Ai Aa) (Aw (v := Value.int .i64 p0.2.2.2.2.2) 0 F Aa Aa T3 Aa).q fun a w F W => ?_
  refine AJ F W (Af F Aa Aa Aa Aa) Aa (Ai Aa) (Aj EW Aa Aa Aa T3 F Aa 4 Aa).q fun a w F W => ?_
  refine AJ F W (Af F Aa Aa Aa Aa) Aa (Ai Aa) (Aw (v := Value.int .i64 p0.2.2.2.2.1) 0 F Aa Aa T3 Aa).q fun a w F W => ?_
  refine AJ F W (Af F Aa Aa Aa Aa) Aa (Ai Aa) (Bu F Aa Aa).q fun a w F W => ?_
  refine ls F W Aa (Az F Aa Aa Aa).q fun a w F W => ?_
  refine ls F W Aa (Ad F Aa).q fun a w F W => ?_
  rcases Bool.eq_false_or_eq_true (decide (p0.2.2.2.2.2 < p0.2.2.2.2.1)) with hb2 | hb2
  ·
   rw [hb2] at F
   iterate 3 refine Dd F Aa Aa Aa Aa Aa Aa Aa fun a F => ?_
   refine ls F W Aa (Aq F Aa Aa Aa).q fun a w F W => ?_
   refine ls F W Aa (Ag F Aa).q fun a w F W => ?_
   refine Ae (Ab ?_)
   exact ⟨F.re ⟨(by show some (Value.bool true) = some (Value.bool (decide (p0.1 = p0.2.2.1) || (decide (p0.2.2.2.2.1 < 1) || (decide (p0.2.2.2.2.2 < p0.2.2.2.2.1) || decide (1000 < p0.2.2.2.2.2))))); try rw [hb2]; try rw [hb1]; try rw [hb0]; all_goals simp only [Bool.not_true, Bool.not_false, Bool.true_and, Bool.false_and, Bool.true_or, Bool.false_or, Bool.and_true, Bool.or_false, cond_true, cond_false]), trivial⟩, W⟩
  rw [hb2] at F
  refine AJ F W (Af F Aa Aa Aa Aa) Aa (Ai Aa) (Aj EW Aa Aa Aa T3 F Aa 5 Aa).q fun a w F W => ?_
  refine AJ F W (Af F Aa Aa Aa Aa) Aa (Ai Aa) (Aw (v := Value.int .i64 p0.2.2.2.2.2) 0 F Aa Aa T3 Aa).q fun a w F W => ?_
  refine AJ F W (Af F Aa Aa Aa Aa) Aa (Ai Aa) (Ga F Aa Aa).q fun a w F W => ?_
  refine ls F W Aa (Az F Aa Aa Aa).q fun a w F W => ?_
  refine ls F W Aa (Ag F Aa).q fun a w F W => ?_
  refine Ae (Ab ?_)
  exact ⟨F.re ⟨(by show some (Value.bool (decide (1000 < p0.2.2.2.2.2))) = some (Value.bool (decide (p0.1 = p0.2.2.1) || (decide (p0.2.2.2.2.1 < 1) || (decide (p0.2.2.2.2.2 < p0.2.2.2.2.1) || decide (1000 < p0.2.2.2.2.2))))); try rw [hb2]; try rw [hb1]; try rw [hb0]; all_goals simp only [Bool.not_true, Bool.not_false, Bool.true_and, Bool.false_and, Bool.true_or, Bool.false_or, Bool.and_true, Bool.or_false, cond_true, cond_false]), trivial⟩, W⟩
 rintro a w ⟨F, W⟩
 refine AF ?_
 subst H
 refine BK (.inl Aa) F W Aa (Ay F Aa) ?_
 exact ⟨rfl, W.done⟩
theorem T6 : Has Try.prog 71 := ⟨fun args w => Al Try.func71 rfl (by decide) args w⟩
noncomputable def A1 (p0 : List (Int × Int × Int × Int × Int × Int)) : Int → Option (Int ⊕ (Unit ⊕ Int))
  | x1 => (if x1 < (p0.length : Int) then (ix p0 x1).bind fun x2 => (if (Cr x2) = true then some (.inr (.inr x1)) else some (.inl (AB (x1 + 1)))) else some (.inr (.inl ())))
noncomputable def BZ (p0 : List (Int × Int × Int × Int × Int × Int)) : Option Int := FB (AG (A1 p0) 0) fun _ => some (-1)
theorem F9 (Y : Nat → Prop) (w0 : World) (v1 : Value) (p0 : List (Int × Int × Int × Int × Int × Int)) (r : Int) (H : BZ p0 = some r) (h_v1 : Sl w0 (NX []) Hu v1 p0) :
    Calls Try.prog 83 #[v1, .func (.func 71) #[] #[]] w0 fun e w' => e = .returned (.int .i64 r) ∧ Below w0.heap.size w0 w' := by
 refine enter Try.func83 Aa Try.ntmps83 Aa fun a F => ?_
 have W := Stw.start Y w0
 unfold BZ at H
 refine Ah (Ac ?_)
 refine ls F W Aa (Ag F Aa).q fun a w F W => ?_
 refine Ae (Ab ?_)
 obtain ⟨o1, G1, K1, L1⟩ := Jx H
 refine AM (fun a w => some (Sum.inl ()) = some o1 ∧ Fr 19 [] [(4, .int .i64 0)] a ∧ Stw ⟨Y, [], w0⟩ [] [] w) ?_ ?_
 ·
  have H := G1
  clear G1 K1
  refine Ah (Ac ?_)
  refine ls F W Aa (Ad F Aa).q fun a w F W => ?_
  refine ls F W Aa (B0 (r := Hu) (l := p0) Md Aa F Aa (Am h_v1)).q fun a w F W => ?_
  refine ls F W Aa (Ad F Aa).q fun a w F W => ?_
  refine Ae (Ab (As ?_))
  refine Bb H (fun s a w => Fr 19 [] [(0, v1), (1, .func (.func 71) #[] #[]), (4, .int .i64 0), (7, .int .i64 (p0.length : Int)), (8, .int .i64 s)] a ∧ Stw ⟨Y, [], w0⟩ [] [] w) ⟨F.re ⟨rfl, Aa, Aa, Aa, Aa, trivial⟩, W⟩ fun s o a w H L2 hR => ?_
  obtain ⟨x1, rfl⟩ : ∃ x, x = s := ⟨s, rfl⟩
  obtain ⟨F, W⟩ := hR
  have F : Fr 19 [] [(0, v1), (1, .func (.func 71) #[] #[]), (4, .int .i64 0), (7, .int .i64 (p0.length : Int)), (8, .int .i64 x1)] a := F
  have W : Stw ⟨Y, [], w0⟩ [] [] w := W
  rw [A1] at H
  refine Ah (Ac ?_)
  refine ls F W Aa (Bu F Aa Aa).q fun a w F W => ?_
  refine Ae (Ab (Ah ?_))
  refine AA F Aa (fun hb => ?_) fun hb => ?_
  ·
   have H := AS (BD hb) H
   rw [hb] at F
   clear hb
   refine Av (Ab (Ah (As (Ah (Ac ?_)))))
   refine ls F W Aa (Ad F Aa).q fun a w F W => ?_
   refine ls F W Aa (Ag F Aa).q fun a w F W => ?_
   refine Ae (Ab (Ah (Ac ?_)))
   iterate 3 refine ls F W Aa (Ad F Aa).q fun a w F W => ?_
   obtain ⟨x2, h1, H⟩ := Ak H
   refine ls F W Aa (Ax (r := Hu) RF F Aa Aa (Am h_v1) h1).q fun a w F W => ?_
   refine ls F W Aa (Ao (y := Value.agg #[.int .i64 x2.1, .int .i64 x2.2.1, .int .i64 x2.2.2.1, .int .i64 x2.2.2.2.1, .int .i64 x2.2.2.2.2.1, .int .i64 x2.2.2.2.2.2]) (j := 0) (i := x1) F Aa Aa (Am h_v1) h1 RN.to PO Aa).q fun a w F W => ?_
   refine ls F W Aa (EU (ws := [.agg #[.int .i64 x2.1, .int .i64 x2.2.1, .int .i64 x2.2.2.1, .int .i64 x2.2.2.2.1, .int .i64 x2.2.2.2.2.1, .int .i64 x2.2.2.2.2.2]]) (v := Value.bool (Cr x2)) F T6 Aa (fun w W => Kz any w x2 _ Aa)) fun a w F W => ?_
   refine Ae (Ab ?_)
   refine AA F Aa (fun hb => ?_) fun hb => ?_
   ·
    have H := AS hb H
    rw [hb] at F
    clear hb
    refine Ah (Ac ?_)
    refine ls F W Aa (Ad F Aa).q fun a w F W => ?_
    refine ls F W Aa (Ag F Aa).q fun a w F W => ?_
    refine Ae (Ab (AF (AQ ?_)))
    iterate 2 refine AH ?_
    refine AQ (AH ?_)
    have H := L2 _ H
    have H := L1 _ H
    have H := AV H
    subst H
    refine BK (.inl Aa) F W Aa (Ay F Aa) ?_
    exact ⟨rfl, W.done⟩
   have H := AR (by rw [hb]; decide) H
   rw [hb] at F
   clear hb
   refine Av (AP (Ab (Ac ?_)))
   refine ls F W Aa (BC F Aa Aa Aa).q fun a w F W => ?_
   refine ls F W Aa (Ad F Aa).q fun a w F W => ?_
   refine Ae (Ab ?_)
   exact ⟨_, H, F.re ⟨rfl, Aa, Aa, Aa, Aa, trivial⟩, W⟩
  have H := AR (BB hb) H
  rw [hb] at F
  clear hb
  refine A8 ?_
  iterate 2 refine Bq ?_
  refine A9 (Ab ?_)
  have H := L2 _ H
  exact ⟨H, F.re ⟨rfl, trivial⟩, W⟩
 rintro a w ⟨hj, F, W⟩
 have H := K1 _ hj
 clear hj G1 K1 L1
 refine Ah (Ac ?_)
 refine ls F W Aa (Ag F Aa).q fun a w F W => ?_
 refine Ae (Ab (AF ?_))
 have H := AV H
 subst H
 refine BK (.inl Aa) F W Aa (Ay F Aa) ?_
 exact ⟨rfl, W.done⟩
theorem Un : Has Try.prog 83 := ⟨fun args w => Al Try.func83 rfl (by decide) args w⟩
noncomputable def BF (p0 : List (Int × Int × Int × Int × Int × Int)) : Option Bool := (BZ p0).bind fun x1 => some (decide (0 ≤ x1))
theorem FE (Y : Nat → Prop) (w0 : World) (v1 : Value) (p0 : List (Int × Int × Int × Int × Int × Int)) (r : Bool) (H : BF p0 = some r) (h_v1 : Sl w0 (NX []) Hu v1 p0) :
    Calls Try.prog 70 #[v1, .func (.func 71) #[] #[]] w0 fun e w' => e = .returned (.bool r) ∧ Below w0.heap.size w0 w' := by
 refine enter Try.func70 Aa Try.ntmps70 Aa fun a F => ?_
 have W := Stw.start Y w0
 unfold BF at H
 refine Ah (Ac ?_)
 refine ls F W Aa (Ag F Aa).q fun a w F W => ?_
 refine Ae (Ab (Ah (Ac ?_)))
 iterate 2 refine ls F W Aa (Ad F Aa).q fun a w F W => ?_
 obtain ⟨x1, h1, H⟩ := Ak H
 refine ls F W Aa (BX (v := Value.int .i64 x1) F Un Aa (fun w W => F9 any w (v1) p0 _ h1 (((Am h_v1) : D4 _ _ _ _ _ _) w W).nx)) fun a w F W => ?_
 refine ls F W Aa (DH F Aa Aa).q fun a w F W => ?_
 refine ls F W Aa (Ag F Aa).q fun a w F W => ?_
 refine Ae (Ab (AF ?_))
 have H := AV H
 subst H
 refine BK (.inl Aa) F W Aa (Ay F Aa) ?_
 exact ⟨rfl, W.done⟩
theorem Rn : type_of% Try.underlying114 := Try.underlying114
theorem T7 : Has Try.prog 70 := ⟨fun args w => Al Try.func70 rfl (by decide) args w⟩
noncomputable def Dj (p0 : Int × (List (Int × Int × Int × Int × Int × Int)) × (List (Int × Int))) (x2 : (List (Int × Int))) : (Int × (List ((Int × Int) × Unit))) → Option ((Int × (List ((Int × Int) × Unit))) ⊕ ((List ((Int × Int) × Unit)) ⊕ Bool))
  | (x3, x4) => (if x3 < (x2.length : Int) then (ix x2 x3).bind fun x5 => (if (decide (x5.1 < 0) || (decide (p0.1 ≤ x5.1) || (decide (x5.2 < 0) || decide (8 ≤ x5.2)))) = true then some (.inr (.inr false)) else (if ((KC x4 x5).isSome) = true then some (.inr (.inr false)) else some (.inl (AB (x3 + 1), Ko x4 x5 ())))) else some (.inr (.inl x4)))
noncomputable def Gp (p0 : Int × (List (Int × Int × Int × Int × Int × Int)) × (List (Int × Int))) : Option Bool := (if (decide (p0.1 < 1) || (decide (8 < p0.1) || (decide (24 < (p0.2.1.length : Int)) || decide (8 < (p0.2.2.length : Int))))) = true then some false else FB ((FR p0).bind fun x2 => AG (Dj p0 x2) (0, ([] : List ((Int × Int) × Unit)))) fun x1 => (BF p0.2.1).bind fun x6 => some (!x6))
theorem M9 (Y : Nat → Prop) (w0 : World) (v1 : Value) (v2 : Value) (p0 : Int × (List (Int × Int × Int × Int × Int × Int)) × (List (Int × Int))) (r : Bool) (H : Gp p0 = some r) (h_v1 : Sl w0 (NX []) Hu v1 p0.2.1) (h_v2 : Sl w0 (NX []) Gz v2 p0.2.2) :
    Calls Try.prog 45 #[.agg #[.int .i64 p0.1, v1, v2]] w0 fun e w' => e = .returned (.bool r) ∧ Below w0.heap.size w0 w' := by
 refine enter Try.func45 Aa Try.ntmps45 Aa fun a F => ?_
 have W := Stw.start Y w0
 unfold Gp at H
 refine Ah (Ac ?_)
 refine E5 (cs := [.int .i64 p0.1, v1, v2]) F W Aa Aa Aa fun b1 a w F W => ?_
 refine ls F W Aa (Ag F Aa).q fun a w F W => ?_
 refine Ae (Ab (Ah ?_))
 refine AM (fun a w => Fr 71 [] [(1, .pointer (some ⟨b1, 0, none⟩)), (2, .bool false), (27, .bool (decide (p0.1 < 1) || (decide (8 < p0.1) || (decide (24 < (p0.2.1.length : Int)) || decide (8 < (p0.2.2.length : Int))))))] a ∧ Stw ⟨Y, [], w0⟩ [(b1, [.int .i64 p0.1, v1, v2])] [] w) ?_ ?_
 ·
  refine Ac ?_
  refine ls F W Aa (Aj D1 Aa Aa Aa T3 F Aa 0 Aa).q fun a w F W => ?_
  refine ls F W Aa (Aw (v := Value.int .i64 p0.1) 0 F Aa Aa T3 Aa).q fun a w F W => ?_
  refine ls F W Aa (Bu F Aa Aa).q fun a w F W => ?_
  refine ls F W Aa (Ad F Aa).q fun a w F W => ?_
  rcases Bool.eq_false_or_eq_true (decide (p0.1 < 1)) with hb0 | hb0
  ·
   rw [hb0] at F
   iterate 3 refine Dd F Aa Aa Aa Aa Aa Aa Aa fun a F => ?_
   refine ls F W Aa (Aq F Aa Aa Aa).q fun a w F W => ?_
   refine ls F W Aa (Ad F Aa).q fun a w F W => ?_
   iterate 4 refine Dd F Aa Aa Aa Aa Aa Aa Aa fun a F => ?_
   refine ls F W Aa (Aq F Aa Aa Aa).q fun a w F W => ?_
   refine ls F W Aa (Ad F Aa).q fun a w F W => ?_
   iterate 4 refine Dd F Aa Aa Aa Aa Aa Aa Aa fun a F => ?_
   refine ls F W Aa (Aq F Aa Aa Aa).q fun a w F W => ?_
   refine Ae (Ab ?_)
   exact ⟨F.re ⟨rfl, Aa, (by show some (Value.bool true) = some (Value.bool (decide (p0.1 < 1) || (decide (8 < p0.1) || (decide (24 < (p0.2.1.length : Int)) || decide (8 < (p0.2.2.length : Int)))))); try rw [hb0]; all_goals simp only [Bool.not_true, Bool.not_false, Bool.true_and, Bool.false_and, Bool.true_or, Bool.false_or, Bool.and_true, Bool.or_false, cond_true, cond_false]), trivial⟩, W⟩
  rw [hb0] at F
  refine AJ F W (Af F Aa Aa Aa Aa) Aa (Ai Aa) (Aj D1 Aa Aa Aa T3 F Aa 0 Aa).q fun a w F W => ?_
  refine AJ F W (Af F Aa Aa Aa Aa) Aa (Ai Aa) (Aw (v := Value.int .i64 p0.1) 0 F Aa Aa T3 Aa).q fun a w F W => ?_
  refine AJ F W (Af F Aa Aa Aa Aa) Aa (Ai Aa) (Ga F Aa Aa).q fun a w F W => ?_
  refine ls F W Aa (Az F Aa Aa Aa).q fun a w F W => ?_
  refine ls F W Aa (Ad F Aa).q fun a w F W => ?_
  rcases Bool.eq_false_or_eq_true (decide (8 < p0.1)) with hb1 | hb1
  ·
   rw [hb1] at F
   iterate 4 refine Dd F Aa Aa Aa Aa Aa Aa Aa fun a F => ?_
   refine ls F W Aa (Aq F Aa Aa Aa).q fun a w F W => ?_
   refine ls F W Aa (Ad F Aa).q fun a w F W => ?_
   iterate 4 refine Dd F Aa Aa Aa Aa Aa Aa Aa fun a F => ?_
   refine ls F W Aa (Aq F Aa Aa Aa).q fun a w F W => ?_
   refine Ae (Ab ?_)
   exact ⟨F.re ⟨rfl, Aa, (by show some (Value.bool true) = some (Value.bool (decide (p0.1 < 1) || (decide (8 < p0.1) || (decide (24 < (p0.2.1.length : Int)) || decide (8 < (p0.2.2.length : Int)))))); try rw [hb0]; try rw [hb1]; all_goals simp only [Bool.not_true, Bool.not_false, Bool.true_and, Bool.false_and, Bool.true_or, Bool.false_or, Bool.and_true, Bool.or_false, cond_true, cond_false]), trivial⟩, W⟩
  rw [hb1] at F
  refine AJ F W (Af F Aa Aa Aa Aa) Aa (Ai Aa) (Aj D1 Aa Aa Aa Lp F Aa 1 Aa).q fun a w F W => ?_
  refine AJ F W (Af F Aa Aa Aa Aa) Aa (Ai Aa) (Aw (v := v1) 0 F Aa Aa Lp Aa).q fun a w F W => ?_
  refine AJ F W (Af F Aa Aa Aa Aa) Aa (Ai Aa) (B0 (r := Hu) (l := p0.2.1) Md Aa F Aa (Am h_v1)).q fun a w F W => ?_
  refine AJ F W (Af F Aa Aa Aa Aa) Aa (Ai Aa) (Ga F Aa Aa).q fun a w F W => ?_
  refine ls F W Aa (Az F Aa Aa Aa).q fun a w F W => ?_
  refine ls F W Aa (Ad F Aa).q fun a w F W => ?_
  rcases Bool.eq_false_or_eq_true (decide (24 < (p0.2.1.length : Int))) with hb2 | hb2
  ·
   rw [hb2] at F
   iterate 4 refine Dd F Aa Aa Aa Aa Aa Aa Aa fun a F => ?_
   refine ls F W Aa (Aq F Aa Aa Aa).q fun a w F W => ?_
   refine Ae (Ab ?_)
   exact ⟨F.re ⟨rfl, Aa, (by show some (Value.bool true) = some (Value.bool (decide (p0.1 < 1) || (decide (8 < p0.1) || (decide (24 < (p0.2.1.length : Int)) || decide (8 < (p0.2.2.length : Int)))))); try rw [hb2]; try rw [hb0]; try rw [hb1]; all_goals simp only [Bool.not_true, Bool.not_false, Bool.true_and, Bool.false_and, Bool.true_or, Bool.false_or, Bool.and_true, Bool.or_false, cond_true, cond_false]), trivial⟩, W⟩
  rw [hb2] at F
  refine AJ F W (Af F Aa Aa Aa Aa) Aa (Ai Aa) (Aj D1 Aa Aa Aa H4 F Aa 2 Aa).q fun a w F W => ?_
  refine AJ F W (Af F Aa Aa Aa Aa) Aa (Ai Aa) (Aw (v := v2) 0 F Aa Aa H4 Aa).q fun a w F W => ?_
  refine AJ F W (Af F Aa Aa Aa Aa) Aa (Ai Aa) (B0 (r := Gz) (l := p0.2.2) JG Aa F Aa (Am h_v2)).q fun a w F W => ?_
  refine AJ F W (Af F Aa Aa Aa Aa) Aa (Ai Aa) (Ga F Aa Aa).q fun a w F W => ?_
  refine ls F W Aa (Az F Aa Aa Aa).q fun a w F W => ?_
  refine Ae (Ab ?_)
  exact ⟨F.re ⟨rfl, Aa, (by show some (Value.bool (decide (8 < (p0.2.2.length : Int)))) = some (Value.bool (decide (p0.1 < 1) || (decide (8 < p0.1) || (decide (24 < (p0.2.1.length : Int)) || decide (8 < (p0.2.2.length : Int)))))); try rw [hb2]; try rw [hb0]; try rw [hb1]; all_goals simp only [Bool.not_true, Bool.not_false, Bool.true_and, Bool.false_and, Bool.true_or, Bool.false_or, Bool.and_true, Bool.or_false, cond_true, cond_false]), trivial⟩, W⟩
 rintro a w ⟨F, W⟩
 refine AA F Aa (fun hb => ?_) fun hb => ?_
 ·
  have H := AS hb H
  rw [hb] at F
  clear hb
  refine Ah (Ac ?_)
  refine ls F W Aa (Ag F Aa).q fun a w F W => ?_
  refine Ae (Ab (AF (AH ?_)))
  have H := AV H
  subst H
  refine BK (.inl Aa) F W Aa (Ay F Aa) ?_
  exact ⟨rfl, W.done⟩
 have H := AR (by rw [hb]; decide) H
 rw [hb] at F
 clear hb
 refine Av (Ab (Ah (Ac ?_)))
 refine O7 Ig IR F W Aa fun b2 a w F W => ?_
 have W : Stw ⟨Y, [], w0⟩ [(b1, [.int .i64 p0.1, v1, v2])] [mp b2 Ig IR ([] : List ((Int × Int) × Unit))] w := W
 refine ls F W Aa (Ag F Aa).q fun a w F W => ?_
 refine Ae (Ab ?_)
 obtain ⟨o1, G1, K1, L1⟩ := Jx H
 refine AM (fun a w => ∃ x1 : List ((Int × Int) × Unit), some (Sum.inl x1) = some o1 ∧ Fr 71 [] [(1, .pointer (some ⟨b1, 0, none⟩)), (2, .bool false)] a ∧ Stw ⟨Y, [], w0⟩ [(b1, [.int .i64 p0.1, v1, v2])] [mp b2 Ig IR x1] w) ?_ ?_
 ·
  have H := G1
  clear G1 K1
  refine Ah (Ac ?_)
  refine ls F W Aa (Aw (v := Value.agg #[.int .i64 p0.1, v1, v2]) 0 F Aa Aa JE Aa).q fun a w F W => ?_
  obtain ⟨x2, h1, H⟩ := Ak H
  refine B7 (Ml := []) (Zl := []) (M := [(b1, [.int .i64 p0.1, v1, v2])]) (Z := [mp b2 Ig IR ([] : List ((Int × Int) × Unit))]) (β := Value) (rv := fun x => x) (MM := fun x => []) (ZZ := fun x => [row x 118 GE x2]) F W T1 Aa Aa (fun hL => Mr _ w (v1) (v2) p0 _ h1 ((Am h_v1) w W).nx ((Am h_v2) w W).nx) fun x a w F W => ?_
  obtain ⟨v3, rfl⟩ : ∃ y, y = x := ⟨x, rfl⟩
  have W : Stw ⟨Y, [], w0⟩ [(b1, [.int .i64 p0.1, v1, v2])] [row v3 118 GE x2, mp b2 Ig IR ([] : List ((Int × Int) × Unit))] w := W
  refine ls F W Aa (B0 (r := GE) (l := x2) Rm Aa F Aa (An 0 Aa)).q fun a w F W => ?_
  refine ls F W Aa (Ad F Aa).q fun a w F W => ?_
  refine Ae (Ab (As ?_))
  have W := W.frontZ (i := 1) Aa Aa
  have W := W.frontZ (i := 1) Aa Aa
  refine Bb H (fun s a w => Fr 71 [] [(1, .pointer (some ⟨b1, 0, none⟩)), (2, .bool false), (3, .map (some b2)), (30, v3), (31, .int .i64 (x2.length : Int)), (32, .int .i64 s.1)] a ∧ Stw ⟨Y, [], w0⟩ [(b1, [.int .i64 p0.1, v1, v2])] [row v3 118 GE x2, mp b2 Ig IR s.2] w) ⟨F.re ⟨rfl, Aa, Aa, Aa, Aa, Aa, trivial⟩, W⟩ fun s o a w H L2 hR => ?_
  obtain ⟨x3, x4⟩ := s
  obtain ⟨F, W⟩ := hR
  have F : Fr 71 [] [(1, .pointer (some ⟨b1, 0, none⟩)), (2, .bool false), (3, .map (some b2)), (30, v3), (31, .int .i64 (x2.length : Int)), (32, .int .i64 x3)] a := F
  have W : Stw ⟨Y, [], w0⟩ [(b1, [.int .i64 p0.1, v1, v2])] [row v3 118 GE x2, mp b2 Ig IR x4] w := W
  rw [Dj] at H
  refine Ah (Ac ?_)
  refine ls F W Aa (Bu F Aa Aa).q fun a w F W => ?_
  refine Ae (Ab (Ah ?_))
  refine AA F Aa (fun hb => ?_) fun hb => ?_
  ·
   have H := AS (BD hb) H
   rw [hb] at F
   clear hb
   refine Av (Ab (Ah (As (Ah (Ac ?_)))))
   obtain ⟨x5, h2, H⟩ := Ak H
   refine ls F W Aa (Ax (r := GE) P0 F Aa Aa (An 0 Aa) h2).q fun a w F W => ?_
   refine ls F W Aa (Ao (y := Value.agg #[.int .i64 x5.1, .int .i64 x5.2]) (j := 0) (i := x3) F Aa Aa (An 0 Aa) h2 RP.to Oi Aa).q fun a w F W => ?_
   refine DX (cs := [.int .i64 0, .int .i64 0]) F W Aa QT Aa fun b3 a w F W => ?_
   refine DC (vs := [.int .i64 x5.1, .int .i64 x5.2]) (M' := [(b3, [.int .i64 x5.1, .int .i64 x5.2]), (b1, [.int .i64 p0.1, v1, v2])]) 0 F W Aa Aa Aa Oi Aa Aa Aa Aa Aa fun w W => ?_
   refine Ae (Ab (Ah ?_))
   refine AM (fun a w => Fr 71 [] [(1, .pointer (some ⟨b1, 0, none⟩)), (2, .bool false), (3, .map (some b2)), (5, .pointer (some ⟨b3, 0, none⟩)), (30, v3), (31, .int .i64 (x2.length : Int)), (32, .int .i64 x3), (55, .bool (decide (x5.1 < 0) || (decide (p0.1 ≤ x5.1) || (decide (x5.2 < 0) || decide (8 ≤ x5.2)))))] a ∧ Stw ⟨Y, [], w0⟩ [(b3, [.int .i64 x5.1, .int .i64 x5.2]), (b1, [.int .i64 p0.1, v1, v2])] [row v3 118 GE x2, mp b2 Ig IR x4] w) ?_ ?_
   ·
    refine Ac ?_
    refine ls F W Aa (Aj KD Aa Aa Aa T3 F Aa 0 Aa).q fun a w F W => ?_
    refine ls F W Aa (Aw (v := Value.int .i64 x5.1) 0 F Aa Aa T3 Aa).q fun a w F W => ?_
    refine ls F W Aa (Bu F Aa Aa).q fun a w F W => ?_
    refine ls F W Aa (Ad F Aa).q fun a w F W => ?_
    rcases Bool.eq_false_or_eq_true (decide (x5.1 < 0)) with hb0 | hb0
    ·
     rw [hb0] at F
     iterate 5 refine Dd F Aa Aa Aa Aa Aa Aa Aa fun a F => ?_
     refine ls F W Aa (Aq F Aa Aa Aa).q fun a w F W => ?_
     refine ls F W Aa (Ad F Aa).q fun a w F W => ?_
     iterate 3 refine Dd F Aa Aa Aa Aa Aa Aa Aa fun a F => ?_
     refine ls F W Aa (Aq F Aa Aa Aa).q fun a w F W => ?_
     refine ls F W Aa (Ad F Aa).q fun a w F W => ?_
     iterate 3 refine Dd F Aa Aa Aa Aa Aa Aa Aa fun a F => ?_
     refine ls F W Aa (Aq F Aa Aa Aa).q fun a w F W => ?_
     refine Ae (Ab ?_)
     exact ⟨F.re ⟨rfl, Aa, Aa, Aa, Aa, Aa, Aa, (by show some (Value.bool true) = some (Value.bool (decide (x5.1 < 0) || (decide (p0.1 ≤ x5.1) || (decide (x5.2 < 0) || decide (8 ≤ x5.2))))); try rw [hb0]; all_goals simp only [Bool.not_true, Bool.not_false, Bool.true_and, Bool.false_and, Bool.true_or, Bool.false_or, Bool.and_true, Bool.or_false, cond_true, cond_false]), trivial⟩, W⟩
    rw [hb0] at F
    refine AJ F W (Af F Aa Aa Aa Aa) Aa (Ai Aa) (Aj KD Aa Aa Aa T3 F Aa 0 Aa).q fun a w F W => ?_
    refine AJ F W (Af F Aa Aa Aa Aa) Aa (Ai Aa) (Aw (v := Value.int .i64 x5.1) 0 F Aa Aa T3 Aa).q fun a w F W => ?_
    refine AJ F W (Af F Aa Aa Aa Aa) Aa (Ai Aa) (Aj D1 Aa Aa Aa T3 F Aa 0 Aa).q fun a w F W => ?_
    refine AJ F W (Af F Aa Aa Aa Aa) Aa (Ai Aa) (Aw (v := Value.int .i64 p0.1) 1 F Aa Aa T3 Aa).q fun a w F W => ?_
    refine AJ F W (Af F Aa Aa Aa Aa) Aa (Ai Aa) (DH F Aa Aa).q fun a w F W => ?_
    refine ls F W Aa (Az F Aa Aa Aa).q fun a w F W => ?_
    refine ls F W Aa (Ad F Aa).q fun a w F W => ?_
    rcases Bool.eq_false_or_eq_true (decide (p0.1 ≤ x5.1)) with hb1 | hb1
    ·
     rw [hb1] at F
     iterate 3 refine Dd F Aa Aa Aa Aa Aa Aa Aa fun a F => ?_
     refine ls F W Aa (Aq F Aa Aa Aa).q fun a w F W => ?_
     refine ls F W Aa (Ad F Aa).q fun a w F W => ?_
     iterate 3 refine Dd F Aa Aa Aa Aa Aa Aa Aa fun a F => ?_
     refine ls F W Aa (Aq F Aa Aa Aa).q fun a w F W => ?_
     refine Ae (Ab ?_)
     exact ⟨F.re ⟨rfl, Aa, Aa, Aa, Aa, Aa, Aa, (by show some (Value.bool true) = some (Value.bool (decide (x5.1 < 0) || (decide (p0.1 ≤ x5.1) || (decide (x5.2 < 0) || decide (8 ≤ x5.2))))); try rw [hb1]; try rw [hb0]; all_goals simp only [Bool.not_true, Bool.not_false, Bool.true_and, Bool.false_and, Bool.true_or, Bool.false_or, Bool.and_true, Bool.or_false, cond_true, cond_false]), trivial⟩, W⟩
    rw [hb1] at F
    refine AJ F W (Af F Aa Aa Aa Aa) Aa (Ai Aa) (Aj KD Aa Aa Aa T3 F Aa 1 Aa).q fun a w F W => ?_
    refine AJ F W (Af F Aa Aa Aa Aa) Aa (Ai Aa) (Aw (v := Value.int .i64 x5.2) 0 F Aa Aa T3 Aa).q fun a w F W => ?_
    refine AJ F W (Af F Aa Aa Aa Aa) Aa (Ai Aa) (Bu F Aa Aa).q fun a w F W => ?_
    refine ls F W Aa (Az F Aa Aa Aa).q fun a w F W => ?_
    refine ls F W Aa (Ad F Aa).q fun a w F W => ?_
    rcases Bool.eq_false_or_eq_true (decide (x5.2 < 0)) with hb2 | hb2
    ·
     rw [hb2] at F
     iterate 3 refine Dd F Aa Aa Aa Aa Aa Aa Aa fun a F => ?_
     refine ls F W Aa (Aq F Aa Aa Aa).q fun a w F W => ?_
     refine Ae (Ab ?_)
     exact ⟨F.re ⟨rfl, Aa, Aa, Aa, Aa, Aa, Aa, (by show some (Value.bool true) = some (Value.bool (decide (x5.1 < 0) || (decide (p0.1 ≤ x5.1) || (decide (x5.2 < 0) || decide (8 ≤ x5.2))))); try rw [hb1]; try rw [hb0]; try rw [hb2]; all_goals simp only [Bool.not_true, Bool.not_false, Bool.true_and, Bool.false_and, Bool.true_or, Bool.false_or, Bool.and_true, Bool.or_false, cond_true, cond_false]), trivial⟩, W⟩
    rw [hb2] at F
    refine AJ F W (Af F Aa Aa Aa Aa) Aa (Ai Aa) (Aj KD Aa Aa Aa T3 F Aa 1 Aa).q fun a w F W => ?_
    refine AJ F W (Af F Aa Aa Aa Aa) Aa (Ai Aa) (Aw (v := Value.int .i64 x5.2) 0 F Aa Aa T3 Aa).q fun a w F W => ?_
    refine AJ F W (Af F Aa Aa Aa Aa) Aa (Ai Aa) (DH F Aa Aa).q fun a w F W => ?_
    refine ls F W Aa (Az F Aa Aa Aa).q fun a w F W => ?_
    refine Ae (Ab ?_)
    exact ⟨F.re ⟨rfl, Aa, Aa, Aa, Aa, Aa, Aa, (by show some (Value.bool (decide (8 ≤ x5.2))) = some (Value.bool (decide (x5.1 < 0) || (decide (p0.1 ≤ x5.1) || (decide (x5.2 < 0) || decide (8 ≤ x5.2))))); try rw [hb1]; try rw [hb0]; try rw [hb2]; all_goals simp only [Bool.not_true, Bool.not_false, Bool.true_and, Bool.false_and, Bool.true_or, Bool.false_or, Bool.and_true, Bool.or_false, cond_true, cond_false]), trivial⟩, W⟩
   rintro a w ⟨F, W⟩
   refine AA F Aa (fun hb => ?_) fun hb => ?_
   ·
    have H := AS hb H
    rw [hb] at F
    clear hb
    refine Ah (Ac ?_)
    refine ls F W Aa (Ag F Aa).q fun a w F W => ?_
    refine Ae (Ab (AF (AH (AQ ?_))))
    iterate 2 refine AH ?_
    refine AQ (AH ?_)
    have H := L2 _ H
    have H := L1 _ H
    have H := AV H
    subst H
    refine BK (.inl Aa) F W Aa (Ay F Aa) ?_
    exact ⟨rfl, W.done⟩
   have H := AR (by rw [hb]; decide) H
   rw [hb] at F
   clear hb
   refine Av (Ab (Ah (Ah (Ac ?_))))
   refine ls F W Aa (Ad F Aa).q fun a w F W => ?_
   refine ls F W Aa (Aw (v := Value.agg #[.int .i64 x5.1, .int .i64 x5.2]) 0 F Aa Aa Oi Aa).q fun a w F W => ?_
   refine ls F W Aa (Pg (zv := (() : Unit)) (kx := (x5 : Int × Int)) (q := 1) (E := Ig) (V := IR) F Aa Aa Aa Rf Rn Sk).q fun a w F W => ?_
   refine ls F W Aa (Ad F Aa).q fun a w F W => ?_
   refine ls F W Aa (Bi (v := Value.agg #[]) F Aa Aa).q fun a w F W => ?_
   refine ls F W Aa (Bi (v := Value.bool ((KC x4 x5).isSome)) F Aa Aa).q fun a w F W => ?_
   refine DX (cs := []) F W Aa Sk Aa fun b4 a w F W => ?_
   refine DC (vs := []) (M' := [(b4, []), (b3, [.int .i64 x5.1, .int .i64 x5.2]), (b1, [.int .i64 p0.1, v1, v2])]) 0 F W Aa Aa Aa SK Aa Aa Aa Aa Aa fun w W => ?_
   refine ls F W Aa (Ag F Aa).q fun a w F W => ?_
   refine Ae (Ab (Ah (Ac ?_)))
   refine ls F W Aa (Ad F Aa).q fun a w F W => ?_
   refine Ae (Ab ?_)
   refine AA F Aa (fun hb => ?_) fun hb => ?_
   ·
    have H := AS hb H
    rw [hb] at F
    clear hb
    refine Ah (Ac ?_)
    refine ls F W Aa (Ag F Aa).q fun a w F W => ?_
    refine Ae (Ab (AF (AH (AQ ?_))))
    iterate 2 refine AH ?_
    refine AQ (AH ?_)
    have H := L2 _ H
    have H := L1 _ H
    have H := AV H
    subst H
    refine BK (.inl Aa) F W Aa (Ay F Aa) ?_
    exact ⟨rfl, W.done⟩
   have H := AR (by rw [hb]; decide) H
   rw [hb] at F
   clear hb
   refine Av (Ab (Ac ?_))
   refine ls F W Aa (Ad F Aa).q fun a w F W => ?_
   refine ls F W Aa (Aw (v := Value.agg #[.int .i64 x5.1, .int .i64 x5.2]) 1 F Aa Aa Oi Aa).q fun a w F W => ?_
   refine ls F W Aa (ET (v := Value.agg #[]) SJ F Aa Aa Aa).q fun a w F W => ?_
   refine Qg (q := 1) (kx := (x5 : Int × Int)) (vx := (() : Unit)) (E := Ig) (V := IR) F W Aa Aa Aa Aa Aa Rf Rn fun w W => ?_
   have W : Stw ⟨Y, [], w0⟩ [(b4, []), (b3, [.int .i64 x5.1, .int .i64 x5.2]), (b1, [.int .i64 p0.1, v1, v2])] [mp b2 Ig IR (Ko x4 x5 ()), row v3 118 GE x2] w := W
   refine Ae (AP (Ab (Ac ?_)))
   refine ls F W Aa (BC F Aa Aa Aa).q fun a w F W => ?_
   refine ls F W Aa (Ad F Aa).q fun a w F W => ?_
   refine Ae (Ab ?_)
   have W := W.frontZ (i := 1) Aa Aa
   have W := W.frontM (i := 2) Aa Aa
   have W := W.sub (M' := [(b1, [.int .i64 p0.1, v1, v2])]) (Z' := [row v3 118 GE x2, mp b2 Ig IR (Ko x4 x5 ())]) (List.Sublist.cons_cons _ (List.nil_sublist _)) (List.Sublist.refl _)
   exact ⟨_, H, F.re ⟨rfl, Aa, Aa, Aa, Aa, Aa, trivial⟩, W⟩
  have H := AR (BB hb) H
  rw [hb] at F
  clear hb
  refine A8 ?_
  iterate 2 refine Bq ?_
  refine A9 (Ab ?_)
  have W := W.frontZ (i := 1) Aa Aa
  have W := W.sub (M' := [(b1, [.int .i64 p0.1, v1, v2])]) (Z' := [mp b2 Ig IR x4]) (List.Sublist.refl _) (List.Sublist.cons_cons _ (List.nil_sublist _))
  have H := L2 _ H
  exact ⟨_, H, F.re ⟨rfl, Aa, trivial⟩, W⟩
 rintro a w ⟨x1, hj, F, W⟩
 have H := K1 _ hj
 clear hj G1 K1 L1
 refine Ah (Ac ?_)
 refine ls F W Aa (Aj D1 Aa Aa Aa Lp F Aa 1 Aa).q fun a w F W => ?_
 refine ls F W Aa (Aw (v := v1) 0 F Aa Aa Lp Aa).q fun a w F W => ?_
 obtain ⟨x6, h3, H⟩ := Ak H
 refine ls F W Aa (BX (v := Value.bool x6) F T7 Aa (fun w W => FE any w (v1) p0.2.1 _ h3 (((Am h_v1) : D4 _ _ _ _ _ _) w W).nx)) fun a w F W => ?_
 refine ls F W Aa (Eb F Aa).q fun a w F W => ?_
 refine ls F W Aa (Ag F Aa).q fun a w F W => ?_
 refine Ae (Ab (AF ?_))
 have H := AV H
 subst H
 refine BK (.inl Aa) F W Aa (Ay F Aa) ?_
 exact ⟨rfl, W.done⟩
theorem Ju : type_of% Try.underlying27 := Try.underlying27
theorem Hr : type_of% Try.underlying28 := Try.underlying28
theorem TN : Has Try.prog 45 := ⟨fun args w => Al Try.func45 rfl (by decide) args w⟩
abbrev EN (a : Value × List Int) : List Value := [a.1]
theorem Im : LN (Rp.vsl (Rp.int .i64)) EN := LN.vsl
theorem Lm : Et Try.prog 27 28 1 24 := Et.of Ju (by kernel_rfl) (by kernel_rfl) (by kernel_rfl) (by decide)
theorem JO : Ty Try.prog 28 false 1 := ⟨by kernel_rfl, by kernel_rfl⟩
theorem GD : Et Try.prog 28 3 1 8 := Et.of Hr (by kernel_rfl) (by kernel_rfl) (by kernel_rfl) (by decide)
def DD (p0 : Int) : Bool := (decide (p0 < 0) || decide (8 ≤ p0))
theorem J7 (Y : Nat → Prop) (w0 : World)  (p0 : Int) (r : Bool) (H : DD p0 = r)  :
    Calls Try.prog 47 #[.int .i64 p0] w0 fun e w' => e = .returned (.bool r) ∧ Below w0.heap.size w0 w' := by
 refine enter Try.func47 Aa Try.ntmps47 Aa fun a F => ?_
 have W := Stw.start Y w0
 unfold DD at H
 refine Ah (Ac ?_)
 refine ls F W Aa (Ag F Aa).q fun a w F W => ?_
 refine Ae (Ab ?_)
 refine AM (fun a w => Fr 9 [] [(2, .bool (decide (p0 < 0) || decide (8 ≤ p0)))] a ∧ Stw ⟨Y, [], w0⟩ [] [] w) ?_ ?_
 ·
  refine Ac ?_
  refine ls F W Aa (Ad F Aa).q fun a w F W => ?_
  refine ls F W Aa (Bu F Aa Aa).q fun a w F W => ?_
  refine ls F W Aa (Ad F Aa).q fun a w F W => ?_
  rcases Bool.eq_false_or_eq_true (decide (p0 < 0)) with hb0 | hb0
  ·
   rw [hb0] at F
   iterate 2 refine Dd F Aa Aa Aa Aa Aa Aa Aa fun a F => ?_
   refine ls F W Aa (Aq F Aa Aa Aa).q fun a w F W => ?_
   refine ls F W Aa (Ag F Aa).q fun a w F W => ?_
   refine Ae (Ab ?_)
   exact ⟨F.re ⟨(by show some (Value.bool true) = some (Value.bool (decide (p0 < 0) || decide (8 ≤ p0))); try rw [hb0]; all_goals simp only [Bool.not_true, Bool.not_false, Bool.true_and, Bool.false_and, Bool.true_or, Bool.false_or, Bool.and_true, Bool.or_false, cond_true, cond_false]), trivial⟩, W⟩
  rw [hb0] at F
  refine AJ F W (Af F Aa Aa Aa Aa) Aa (Ai Aa) (Ad F Aa).q fun a w F W => ?_
  refine AJ F W (Af F Aa Aa Aa Aa) Aa (Ai Aa) (DH F Aa Aa).q fun a w F W => ?_
  refine ls F W Aa (Az F Aa Aa Aa).q fun a w F W => ?_
  refine ls F W Aa (Ag F Aa).q fun a w F W => ?_
  refine Ae (Ab ?_)
  exact ⟨F.re ⟨(by show some (Value.bool (decide (8 ≤ p0))) = some (Value.bool (decide (p0 < 0) || decide (8 ≤ p0))); try rw [hb0]; all_goals simp only [Bool.not_true, Bool.not_false, Bool.true_and, Bool.false_and, Bool.true_or, Bool.false_or, Bool.and_true, Bool.or_false, cond_true, cond_false]), trivial⟩, W⟩
 rintro a w ⟨F, W⟩
 refine AF ?_
 subst H
 refine BK (.inl Aa) F W Aa (Ay F Aa) ?_
 exact ⟨rfl, W.done⟩
theorem Us : Has Try.prog 47 := ⟨fun args w => Al Try.func47 rfl (by decide) args w⟩
noncomputable def BM (p0 : List Int) : Int → Option (Int ⊕ (Unit ⊕ Int))
  | x1 => (if x1 < (p0.length : Int) then (ix p0 x1).bind fun x2 => (if (DD x2) = true then some (.inr (.inr x1)) else some (.inl (AB (x1 + 1)))) else some (.inr (.inl ())))
noncomputable def CH (p0 : List Int) : Option Int := FB (AG (BM p0) 0) fun _ => some (-1)
theorem HU (Y : Nat → Prop) (w0 : World) (v1 : Value) (p0 : List Int) (r : Int) (H : CH p0 = some r) (h_v1 : Sl w0 (NX []) (Rp.int .i64) v1 p0) :
    Calls Try.prog 72 #[v1, .func (.func 47) #[] #[]] w0 fun e w' => e = .returned (.int .i64 r) ∧ Below w0.heap.size w0 w' := by
 refine enter Try.func72 Aa Try.ntmps72 Aa fun a F => ?_
 have W := Stw.start Y w0
 unfold CH at H
 refine Ah (Ac ?_)
 refine ls F W Aa (Ag F Aa).q fun a w F W => ?_
 refine Ae (Ab ?_)
 obtain ⟨o1, G1, K1, L1⟩ := Jx H
 refine AM (fun a w => some (Sum.inl ()) = some o1 ∧ Fr 19 [] [(4, .int .i64 0)] a ∧ Stw ⟨Y, [], w0⟩ [] [] w) ?_ ?_
 ·
  have H := G1
  clear G1 K1
  refine Ah (Ac ?_)
  refine ls F W Aa (Ad F Aa).q fun a w F W => ?_
  refine ls F W Aa (B0 (r := (Rp.int .i64)) (l := p0) Hr Aa F Aa (Am h_v1)).q fun a w F W => ?_
  refine ls F W Aa (Ad F Aa).q fun a w F W => ?_
  refine Ae (Ab (As ?_))
  refine Bb H (fun s a w => Fr 19 [] [(0, v1), (1, .func (.func 47) #[] #[]), (4, .int .i64 0), (7, .int .i64 (p0.length : Int)), (8, .int .i64 s)] a ∧ Stw ⟨Y, [], w0⟩ [] [] w) ⟨F.re ⟨rfl, Aa, Aa, Aa, Aa, trivial⟩, W⟩ fun s o a w H L2 hR => ?_
  obtain ⟨x1, rfl⟩ : ∃ x, x = s := ⟨s, rfl⟩
  obtain ⟨F, W⟩ := hR
  have F : Fr 19 [] [(0, v1), (1, .func (.func 47) #[] #[]), (4, .int .i64 0), (7, .int .i64 (p0.length : Int)), (8, .int .i64 x1)] a := F
  have W : Stw ⟨Y, [], w0⟩ [] [] w := W
  rw [BM] at H
  refine Ah (Ac ?_)
  refine ls F W Aa (Bu F Aa Aa).q fun a w F W => ?_
  refine Ae (Ab (Ah ?_))
  refine AA F Aa (fun hb => ?_) fun hb => ?_
  ·
   have H := AS (BD hb) H
   rw [hb] at F
   clear hb
   refine Av (Ab (Ah (As (Ah (Ac ?_)))))
   refine ls F W Aa (Ad F Aa).q fun a w F W => ?_
   refine ls F W Aa (Ag F Aa).q fun a w F W => ?_
   refine Ae (Ab (Ah (Ac ?_)))
   iterate 3 refine ls F W Aa (Ad F Aa).q fun a w F W => ?_
   obtain ⟨x2, h1, H⟩ := Ak H
   refine ls F W Aa (Ax (r := (Rp.int .i64)) GD F Aa Aa (Am h_v1) h1).q fun a w F W => ?_
   refine ls F W Aa (Ao (y := Value.int .i64 x2) (j := 0) (i := x1) F Aa Aa (Am h_v1) h1 Fl.int.to T3 Aa).q fun a w F W => ?_
   refine ls F W Aa (EU (ws := [.int .i64 x2]) (v := Value.bool (DD x2)) F Us Aa (fun w W => J7 any w x2 _ Aa)) fun a w F W => ?_
   refine Ae (Ab ?_)
   refine AA F Aa (fun hb => ?_) fun hb => ?_
   ·
    have H := AS hb H
    rw [hb] at F
    clear hb
    refine Ah (Ac ?_)
    refine ls F W Aa (Ad F Aa).q fun a w F W => ?_
    refine ls F W Aa (Ag F Aa).q fun a w F W => ?_
    refine Ae (Ab (AF (AQ ?_)))
    iterate 2 refine AH ?_
    refine AQ (AH ?_)
    have H := L2 _ H
    have H := L1 _ H
    have H := AV H
    subst H
    refine BK (.inl Aa) F W Aa (Ay F Aa) ?_
    exact ⟨rfl, W.done⟩
   have H := AR (by rw [hb]; decide) H
   rw [hb] at F
   clear hb
   refine Av (AP (Ab (Ac ?_)))
   refine ls F W Aa (BC F Aa Aa Aa).q fun a w F W => ?_
   refine ls F W Aa (Ad F Aa).q fun a w F W => ?_
   refine Ae (Ab ?_)
   exact ⟨_, H, F.re ⟨rfl, Aa, Aa, Aa, Aa, trivial⟩, W⟩
  have H := AR (BB hb) H
  rw [hb] at F
  clear hb
  refine A8 ?_
  iterate 2 refine Bq ?_
  refine A9 (Ab ?_)
  have H := L2 _ H
  exact ⟨H, F.re ⟨rfl, trivial⟩, W⟩
 rintro a w ⟨hj, F, W⟩
 have H := K1 _ hj
 clear hj G1 K1 L1
 refine Ah (Ac ?_)
 refine ls F W Aa (Ag F Aa).q fun a w F W => ?_
 refine Ae (Ab (AF ?_))
 have H := AV H
 subst H
 refine BK (.inl Aa) F W Aa (Ay F Aa) ?_
 exact ⟨rfl, W.done⟩
theorem Ul : Has Try.prog 72 := ⟨fun args w => Al Try.func72 rfl (by decide) args w⟩
noncomputable def Cd (p0 : List Int) : Option Bool := (CH p0).bind fun x1 => some (decide (0 ≤ x1))
theorem Hs (Y : Nat → Prop) (w0 : World) (v1 : Value) (p0 : List Int) (r : Bool) (H : Cd p0 = some r) (h_v1 : Sl w0 (NX []) (Rp.int .i64) v1 p0) :
    Calls Try.prog 46 #[v1, .func (.func 47) #[] #[]] w0 fun e w' => e = .returned (.bool r) ∧ Below w0.heap.size w0 w' := by
 refine enter Try.func46 Aa Try.ntmps46 Aa fun a F => ?_
 have W := Stw.start Y w0
 unfold Cd at H
 refine Ah (Ac ?_)
 refine ls F W Aa (Ag F Aa).q fun a w F W => ?_
 refine Ae (Ab (Ah (Ac ?_)))
 iterate 2 refine ls F W Aa (Ad F Aa).q fun a w F W => ?_
 obtain ⟨x1, h1, H⟩ := Ak H
 refine ls F W Aa (BX (v := Value.int .i64 x1) F Ul Aa (fun w W => HU any w (v1) p0 _ h1 (((Am h_v1) : D4 _ _ _ _ _ _) w W).nx)) fun a w F W => ?_
 refine ls F W Aa (DH F Aa Aa).q fun a w F W => ?_
 refine ls F W Aa (Ag F Aa).q fun a w F W => ?_
 refine Ae (Ab (AF ?_))
 have H := AV H
 subst H
 refine BK (.inl Aa) F W Aa (Ay F Aa) ?_
 exact ⟨rfl, W.done⟩
theorem TS : Has Try.prog 46 := ⟨fun args w => Al Try.func46 rfl (by decide) args w⟩
noncomputable def Ei (p0 : Int × (List (Int × Int × Int × Int × Int × Int)) × (List (Int × Int))) (p1 : List (List Int)) : Int → Option (Int ⊕ (Unit ⊕ Bool))
  | x3 => (if x3 < (p1.length : Int) then (ix p1 x3).bind fun x4 => (if (x4.length : Int) ≠ (p0.2.2.length : Int) then some true else (Cd x4).bind fun x6 => some x6).bind fun x5 => (if x5 = true then some (.inr (.inr false)) else some (.inl (AB (x3 + 1)))) else some (.inr (.inl ())))
noncomputable def EH (p0 : Int × (List (Int × Int × Int × Int × Int × Int)) × (List (Int × Int))) (p1 : List (List Int)) : Option Bool := ((Gp p0).bind fun x2 => (if (!x2) = true then some true else some (decide ((p1.length : Int) ≠ p0.1)))).bind fun x1 => (if x1 = true then some false else FB (AG (Ei p0 p1) 0) fun _ => some true)
theorem Iu (Y : Nat → Prop) (w0 : World) (v1 : Value) (v2 : Value) (v3 : Value) (p0 : Int × (List (Int × Int × Int × Int × Int × Int)) × (List (Int × Int))) (p1 : List (List Int)) (r : Bool) (H : EH p0 p1 = some r) (h_v1 : Sl w0 (NX []) Hu v1 p0.2.1) (h_v2 : Sl w0 (NX []) Gz v2 p0.2.2) (h_v3 : Sl w0 (NX []) (Rp.slice (Rp.int .i64)) v3 p1) :
    Calls Try.prog 29 #[.agg #[.int .i64 p0.1, v1, v2], v3] w0 fun e w' => e = .returned (.bool r) ∧ Below w0.heap.size w0 w' := by
 refine enter Try.func29 Aa Try.ntmps29 Aa fun a F => ?_
 have W := Stw.start Y w0
 obtain ⟨v4, h1, h_v3⟩ := h_v3.ex Do
 unfold EH at H
 refine Ah (Ac ?_)
 refine E5 (cs := [.int .i64 p0.1, v1, v2]) F W Aa Aa Aa fun b1 a w F W => ?_
 refine ls F W Aa (Ag F Aa).q fun a w F W => ?_
 refine Ae (Ab (Ah ?_))
 obtain ⟨o1, G1, K1⟩ := Ak H
 refine AM (fun a w => ∃ x1 : Bool, some (x1) = some o1 ∧ Fr 34 [] [(1, v3), (2, .pointer (some ⟨b1, 0, none⟩)), (4, .bool false), (16, .bool x1)] a ∧ Stw ⟨Y, [], w0⟩ [(b1, [.int .i64 p0.1, v1, v2])] [] w) ?_ ?_
 ·
  have H := G1
  clear G1 K1
  refine Ac ?_
  refine ls F W Aa (Aw (v := Value.agg #[.int .i64 p0.1, v1, v2]) 0 F Aa Aa JE Aa).q fun a w F W => ?_
  obtain ⟨x2, h2, H⟩ := Ak H
  refine ls F W Aa (BX (v := Value.bool x2) F TN Aa (fun w W => M9 any w (v1) (v2) p0 _ h2 (((Am h_v1) : D4 _ _ _ _ _ _) w W).nx (((Am h_v2) : D4 _ _ _ _ _ _) w W).nx)) fun a w F W => ?_
  refine ls F W Aa (Eb F Aa).q fun a w F W => ?_
  refine ls F W Aa (Ad F Aa).q fun a w F W => ?_
  rcases Bool.eq_false_or_eq_true (!x2) with hb | hb
  ·
   have H := AS hb H
   rw [hb] at F
   clear hb
   iterate 5 refine Dd F Aa Aa Aa Aa Aa Aa Aa fun a F => ?_
   refine ls F W Aa (Aq F Aa Aa Aa).q fun a w F W => ?_
   refine Ae (Ab ?_)
   exact ⟨_, H, F.re ⟨rfl, Aa, Aa, Aa, trivial⟩, W⟩
  have H := AR (by rw [hb]; decide) H
  rw [hb] at F
  clear hb
  refine AJ F W (Af F Aa Aa Aa Aa) Aa (Ai Aa) (Ad F Aa).q fun a w F W => ?_
  refine AJ F W (Af F Aa Aa Aa Aa) Aa (Ai Aa) (B0 (r := (Rp.slice (Rp.int .i64))) (l := p1) Ju Aa F Aa (B8 Do h1 (Am h_v3))).q fun a w F W => ?_
  refine AJ F W (Af F Aa Aa Aa Aa) Aa (Ai Aa) (Aj D1 Aa Aa Aa T3 F Aa 0 Aa).q fun a w F W => ?_
  refine AJ F W (Af F Aa Aa Aa Aa) Aa (Ai Aa) (Aw (v := Value.int .i64 p0.1) 0 F Aa Aa T3 Aa).q fun a w F W => ?_
  refine AJ F W (Af F Aa Aa Aa Aa) Aa (Ai Aa) (HL F Aa Aa).q fun a w F W => ?_
  refine ls F W Aa (Az F Aa Aa Aa).q fun a w F W => ?_
  refine Ae (Ab ?_)
  exact ⟨_, H, F.re ⟨rfl, Aa, Aa, Aa, trivial⟩, W⟩
 rintro a w ⟨x1, hj, F, W⟩
 have hj := AV hj
 subst hj
 have H := K1
 clear G1 K1
 refine AA F Aa (fun hb => ?_) fun hb => ?_
 ·
  have H := AS hb H
  rw [hb] at F
  clear hb
  refine Ah (Ac ?_)
  refine ls F W Aa (Ag F Aa).q fun a w F W => ?_
  refine Ae (Ab (AF (AH ?_)))
  have H := AV H
  subst H
  refine BK (.inl Aa) F W Aa (Ay F Aa) ?_
  exact ⟨rfl, W.done⟩
 have H := AR (by rw [hb]; decide) H
 rw [hb] at F
 clear hb
 refine Av (Ab ?_)
 obtain ⟨o2, G2, K2, L2⟩ := Jx H
 refine AM (fun a w => some (Sum.inl ()) = some o2 ∧ Fr 34 [] [(4, .bool false)] a ∧ Stw ⟨Y, [], w0⟩ [(b1, [.int .i64 p0.1, v1, v2])] [] w) ?_ ?_
 ·
  have H := G2
  clear G2 K2
  refine Ah (Ac ?_)
  refine ls F W Aa (Ad F Aa).q fun a w F W => ?_
  refine ls F W Aa (B0 (r := (Rp.slice (Rp.int .i64))) (l := p1) Ju Aa F Aa (B8 Do h1 (Am h_v3))).q fun a w F W => ?_
  refine ls F W Aa (Ad F Aa).q fun a w F W => ?_
  refine Ae (Ab (As ?_))
  refine Bb H (fun s a w => Fr 34 [] [(2, .pointer (some ⟨b1, 0, none⟩)), (4, .bool false), (17, v3), (18, .int .i64 (p1.length : Int)), (19, .int .i64 s)] a ∧ Stw ⟨Y, [], w0⟩ [(b1, [.int .i64 p0.1, v1, v2])] [] w) ⟨F.re ⟨rfl, Aa, Aa, Aa, Aa, trivial⟩, W⟩ fun s o a w H L3 hR => ?_
  obtain ⟨x3, rfl⟩ : ∃ x, x = s := ⟨s, rfl⟩
  obtain ⟨F, W⟩ := hR
  have F : Fr 34 [] [(2, .pointer (some ⟨b1, 0, none⟩)), (4, .bool false), (17, v3), (18, .int .i64 (p1.length : Int)), (19, .int .i64 x3)] a := F
  have W : Stw ⟨Y, [], w0⟩ [(b1, [.int .i64 p0.1, v1, v2])] [] w := W
  rw [Ei] at H
  refine Ah (Ac ?_)
  refine ls F W Aa (Bu F Aa Aa).q fun a w F W => ?_
  refine Ae (Ab (Ah ?_))
  refine AA F Aa (fun hb => ?_) fun hb => ?_
  ·
   have H := AS (BD hb) H
   rw [hb] at F
   clear hb
   refine Av (Ab (Ah (As (Ah (Ac ?_)))))
   obtain ⟨x4, h3, H⟩ := Ak H
   obtain ⟨v5, h4, h5⟩ := DQ h1 h3
   have h6 : EN v5 = [(v5.1)] := congrArg (fun q : List Int => ([(v5.1)] : List Value)) h5
   refine ls F W Aa (Ax (r := (Rp.vsl (Rp.int .i64))) Lm F Aa Aa (Am h_v3) h4).q fun a w F W => ?_
   refine ls F W Aa (Ao (y := (v5.1)) (j := 0) (i := x3) (enc := EN) F Aa Aa (Am h_v3) h4 Im JO (by rw [h6]; rfl)).q fun a w F W => ?_
   refine ls F W Aa (Ag F Aa).q fun a w F W => ?_
   refine Ae (Ab ?_)
   obtain ⟨o4, G4, K4⟩ := Ak H
   refine AM (fun a w => ∃ x5 : Bool, some (x5) = some o4 ∧ Fr 34 [] [(2, .pointer (some ⟨b1, 0, none⟩)), (4, .bool false), (17, v3), (18, .int .i64 (p1.length : Int)), (19, .int .i64 x3), (32, .bool x5)] a ∧ Stw ⟨Y, [], w0⟩ [(b1, [.int .i64 p0.1, v1, v2])] [] w) ?_ ?_
   ·
    have H := G4
    clear G4 K4
    refine Ac ?_
    refine ls F W Aa (Ad F Aa).q fun a w F W => ?_
    refine ls F W Aa (B0 (r := (Rp.int .i64)) (l := x4) Hr Aa F Aa (Du (Am h_v3) h4 EK.here (congrArg (fun q : List Int => q) h5))).q fun a w F W => ?_
    refine ls F W Aa (Aj D1 Aa Aa Aa H4 F Aa 2 Aa).q fun a w F W => ?_
    refine ls F W Aa (Aw (v := v2) 0 F Aa Aa H4 Aa).q fun a w F W => ?_
    refine ls F W Aa (B0 (r := Gz) (l := p0.2.2) JG Aa F Aa (Am h_v2)).q fun a w F W => ?_
    refine ls F W Aa (HL F Aa Aa).q fun a w F W => ?_
    refine ls F W Aa (Ad F Aa).q fun a w F W => ?_
    rcases Bool.eq_false_or_eq_true (decide ((x4.length : Int) ≠ (p0.2.2.length : Int))) with hb | hb
    ·
     have H := AS (BD hb) H
     rw [hb] at F
     clear hb
     iterate 2 refine Dd F Aa Aa Aa Aa Aa Aa Aa fun a F => ?_
     refine ls F W Aa (Aq F Aa Aa Aa).q fun a w F W => ?_
     refine Ae (Ab ?_)
     exact ⟨_, H, F.re ⟨rfl, Aa, Aa, Aa, Aa, Aa, trivial⟩, W⟩
    have H := AR (BB hb) H
    rw [hb] at F
    clear hb
    refine AJ F W (Af F Aa Aa Aa Aa) Aa (Ai Aa) (Ad F Aa).q fun a w F W => ?_
    refine Kr (Af F Aa Aa Aa Aa) ?_
    obtain ⟨x6, h7, H⟩ := Ak H
    refine ls F W Aa (BX (v := Value.bool x6) F TS Aa (fun w W => Hs any w ((v5.1)) x4 _ h7 (((Du (Am h_v3) h4 EK.here (congrArg (fun q : List Int => q) h5)) : D4 _ _ _ _ _ _) w W).nx)) fun a w F W => ?_
    refine ls F W Aa (Az F Aa Aa Aa).q fun a w F W => ?_
    refine Ae (Ab ?_)
    exact ⟨_, H, F.re ⟨rfl, Aa, Aa, Aa, Aa, Aa, trivial⟩, W⟩
   rintro a w ⟨x5, hj, F, W⟩
   have hj := AV hj
   subst hj
   have H := K4
   clear G4 K4
   refine AA F Aa (fun hb => ?_) fun hb => ?_
   ·
    have H := AS hb H
    rw [hb] at F
    clear hb
    refine Ah (Ac ?_)
    refine ls F W Aa (Ag F Aa).q fun a w F W => ?_
    refine Ae (Ab (AF (AQ ?_)))
    iterate 2 refine AH ?_
    refine AQ (AH ?_)
    have H := L3 _ H
    have H := L2 _ H
    have H := AV H
    subst H
    refine BK (.inl Aa) F W Aa (Ay F Aa) ?_
    exact ⟨rfl, W.done⟩
   have H := AR (by rw [hb]; decide) H
   rw [hb] at F
   clear hb
   refine Av (AP (Ab (Ac ?_)))
   refine ls F W Aa (BC F Aa Aa Aa).q fun a w F W => ?_
   refine ls F W Aa (Ad F Aa).q fun a w F W => ?_
   refine Ae (Ab ?_)
   exact ⟨_, H, F.re ⟨rfl, Aa, Aa, Aa, Aa, trivial⟩, W⟩
  have H := AR (BB hb) H
  rw [hb] at F
  clear hb
  refine A8 ?_
  iterate 2 refine Bq ?_
  refine A9 (Ab ?_)
  have H := L3 _ H
  exact ⟨H, F.re ⟨rfl, trivial⟩, W⟩
 rintro a w ⟨hj, F, W⟩
 have H := K2 _ hj
 clear hj G2 K2 L2
 refine Ah (Ac ?_)
 refine ls F W Aa (Ag F Aa).q fun a w F W => ?_
 refine Ae (Ab (AF ?_))
 have H := AV H
 subst H
 refine BK (.inl Aa) F W Aa (Ay F Aa) ?_
 exact ⟨rfl, W.done⟩
theorem SG : Has Try.prog 29 := ⟨fun args w => Al Try.func29 rfl (by decide) args w⟩
theorem Z3 : (Try.prog.info? 3).bind (·.zero) = some (.int .i64 0) := by kernel_rfl
theorem MO : Try.prog.follows .mixedOrders = true := by kernel_rfl
theorem Ta : Bt Try.prog 43 [.int .i64 0, .int .i64 0] [(0, 1), (1, 1)] := ⟨⟨.agg #[.int .i64 0, .int .i64 0], by kernel_rfl, rfl⟩, ⟨_, KZ, fun w => by kernel_rfl⟩⟩
theorem SA (dd : Nat) (x0 : Int) (x1 : Int) (y0 : Int) (y1 : Int) (w : World) : (Op.equalIn (dd + 2) 43 (.agg #[.int .i64 x0, .int .i64 x1]) (.agg #[.int .i64 y0, .int .i64 y1])).run Try.prog w = .ok (decide (x0 = y0 ∧ x1 = y1)) w :=
  Ku (d := dd + 1) (rs := [decide (x0 = y0), decide (x1 = y1)]) KZ (by kernel_rfl) ⟨rfl, Ih (d := dd + 0) rfl rfl NV T3 rfl rfl, rfl, Ih (d := dd + 0) rfl rfl NV T3 rfl rfl, trivial⟩ (by simp) w
theorem Ud : Try.prog.eqGuardType Try.prog.depth 43 = false := by kernel_rfl
theorem Uq (x0 : Int) (x1 : Int) (y0 : Int) (y1 : Int) (w : World) : (Op.equalIn 10000 43 (.agg #[.int .i64 x0, .int .i64 x1]) (.agg #[.int .i64 y0, .int .i64 y1])).run Try.prog w = .ok (decide (x0 = y0 ∧ x1 = y1)) w := SA 9998 x0 x1 y0 y1 w
noncomputable def Ba (p0 : List (Int × Int)) (p1 : Int × Int) : Int → Option (Int ⊕ (Unit ⊕ Int))
  | x1 => (if x1 < (p0.length : Int) then (ix p0 x1).bind fun x2 => (if p1.1 = x2.1 ∧ p1.2 = x2.2 then some (.inr (.inr x1)) else some (.inl (AB (x1 + 1)))) else some (.inr (.inl ())))
noncomputable def Cf (p0 : List (Int × Int)) (p1 : Int × Int) : Option Int := FB (AG (Ba p0 p1) 0) fun _ => some (-1)
theorem GL (Y : Nat → Prop) (w0 : World) (v1 : Value) (p0 : List (Int × Int)) (p1 : Int × Int) (r : Int) (H : Cf p0 p1 = some r) (h_v1 : Sl w0 (NX []) Gz v1 p0) :
    Calls Try.prog 73 #[v1, .agg #[.int .i64 p1.1, .int .i64 p1.2]] w0 fun e w' => e = .returned (.int .i64 r) ∧ Below w0.heap.size w0 w' := by
 refine enter Try.func73 Aa Try.ntmps73 Aa fun a F => ?_
 have W := Stw.start Y w0
 unfold Cf at H
 refine Ah (Ac ?_)
 refine E5 (cs := [.int .i64 p1.1, .int .i64 p1.2]) F W Aa Aa Aa fun b1 a w F W => ?_
 refine ls F W Aa (Ag F Aa).q fun a w F W => ?_
 refine Ae (Ab ?_)
 obtain ⟨o1, G1, K1, L1⟩ := Jx H
 refine AM (fun a w => some (Sum.inl ()) = some o1 ∧ Fr 19 [] [(4, .int .i64 0)] a ∧ Stw ⟨Y, [], w0⟩ [(b1, [.int .i64 p1.1, .int .i64 p1.2])] [] w) ?_ ?_
 ·
  have H := G1
  clear G1 K1
  refine Ah (Ac ?_)
  refine ls F W Aa (Ad F Aa).q fun a w F W => ?_
  refine ls F W Aa (B0 (r := Gz) (l := p0) JG Aa F Aa (Am h_v1)).q fun a w F W => ?_
  refine ls F W Aa (Ad F Aa).q fun a w F W => ?_
  refine Ae (Ab (As ?_))
  refine Bb H (fun s a w => Fr 19 [] [(0, v1), (3, .pointer (some ⟨b1, 0, none⟩)), (4, .int .i64 0), (7, .int .i64 (p0.length : Int)), (8, .int .i64 s)] a ∧ Stw ⟨Y, [], w0⟩ [(b1, [.int .i64 p1.1, .int .i64 p1.2])] [] w) ⟨F.re ⟨rfl, Aa, Aa, Aa, Aa, trivial⟩, W⟩ fun s o a w H L2 hR => ?_
  obtain ⟨x1, rfl⟩ : ∃ x, x = s := ⟨s, rfl⟩
  obtain ⟨F, W⟩ := hR
  have F : Fr 19 [] [(0, v1), (3, .pointer (some ⟨b1, 0, none⟩)), (4, .int .i64 0), (7, .int .i64 (p0.length : Int)), (8, .int .i64 x1)] a := F
  have W : Stw ⟨Y, [], w0⟩ [(b1, [.int .i64 p1.1, .int .i64 p1.2])] [] w := W
  rw [Ba] at H
  refine Ah (Ac ?_)
  refine ls F W Aa (Bu F Aa Aa).q fun a w F W => ?_
  refine Ae (Ab (Ah ?_))
  refine AA F Aa (fun hb => ?_) fun hb => ?_
  ·
   have H := AS (BD hb) H
   rw [hb] at F
   clear hb
   refine Av (Ab (Ah (As (Ah (Ac ?_)))))
   refine ls F W Aa (Ad F Aa).q fun a w F W => ?_
   refine ls F W Aa (Ag F Aa).q fun a w F W => ?_
   refine Ae (Ab (Ah ?_))
   refine BV W MO (by kernel_rfl) ?_
   refine qs F Aa (Aw (v := Value.agg #[.int .i64 p1.1, .int .i64 p1.2]) 0 F Aa Aa St Aa).q fun a F => ?_
   iterate 2 refine qs F Aa (Ad F Aa).q fun a F => ?_
   obtain ⟨x2, h1, H⟩ := Ak H
   refine qs F Aa (Ax (r := Gz) Py F Aa Aa (Am h_v1) h1).q fun a F => ?_
   refine qs F Aa (Ao (y := Value.agg #[.int .i64 x2.1, .int .i64 x2.2]) (j := 0) (i := x1) F Aa Aa (Am h_v1) h1 Pw.to St Aa).q fun a F => ?_
   refine qs F Aa (OX (t := decide (p1.1 = x2.1 ∧ p1.2 = x2.2)) Ud (Uq _ _ _ _) F Aa Aa).q fun a F => ?_
   refine AY fun w W => ?_
   refine Ab ?_
   refine AA F Aa (fun hb => ?_) fun hb => ?_
   ·
    have H := AS (BD hb) H
    rw [hb] at F
    clear hb
    refine Ah (Ac ?_)
    refine ls F W Aa (Ad F Aa).q fun a w F W => ?_
    refine ls F W Aa (Ag F Aa).q fun a w F W => ?_
    refine Ae (Ab (AF (AQ ?_)))
    iterate 2 refine AH ?_
    refine AQ (AH ?_)
    have H := L2 _ H
    have H := L1 _ H
    have H := AV H
    subst H
    refine BK (.inl Aa) F W Aa (Ay F Aa) ?_
    exact ⟨rfl, W.done⟩
   have H := AR (BB hb) H
   rw [hb] at F
   clear hb
   refine Av (AP (Ab (Ac ?_)))
   refine ls F W Aa (BC F Aa Aa Aa).q fun a w F W => ?_
   refine ls F W Aa (Ad F Aa).q fun a w F W => ?_
   refine Ae (Ab ?_)
   exact ⟨_, H, F.re ⟨rfl, Aa, Aa, Aa, Aa, trivial⟩, W⟩
  have H := AR (BB hb) H
  rw [hb] at F
  clear hb
  refine A8 ?_
  iterate 2 refine Bq ?_
  refine A9 (Ab ?_)
  have H := L2 _ H
  exact ⟨H, F.re ⟨rfl, trivial⟩, W⟩
 rintro a w ⟨hj, F, W⟩
 have H := K1 _ hj
 clear hj G1 K1 L1
 refine Ah (Ac ?_)
 refine ls F W Aa (Ag F Aa).q fun a w F W => ?_
 refine Ae (Ab (AF ?_))
 have H := AV H
 subst H
 refine BK (.inl Aa) F W Aa (Ay F Aa) ?_
 exact ⟨rfl, W.done⟩
theorem T0 : Has Try.prog 73 := ⟨fun args w => Al Try.func73 rfl (by decide) args w⟩
noncomputable def E7 (p0 : Int × (List (Int × Int × Int × Int × Int × Int)) × (List (Int × Int))) (p1 : Int) (p2 : Int) : Option Int := (Cf p0.2.2 (p1, p2)).bind fun x1 => some x1
theorem Mm (Y : Nat → Prop) (w0 : World) (v1 : Value) (v2 : Value) (p0 : Int × (List (Int × Int × Int × Int × Int × Int)) × (List (Int × Int))) (p1 : Int) (p2 : Int) (r : Int) (H : E7 p0 p1 p2 = some r) (h_v1 : Sl w0 (NX []) Hu v1 p0.2.1) (h_v2 : Sl w0 (NX []) Gz v2 p0.2.2) :
    Calls Try.prog 48 #[.agg #[.int .i64 p0.1, v1, v2], .int .i64 p1, .int .i64 p2] w0 fun e w' => e = .returned (.int .i64 r) ∧ Below w0.heap.size w0 w' := by
 refine enter Try.func48 Aa Try.ntmps48 Aa fun a F => ?_
 have W := Stw.start Y w0
 unfold E7 at H
 refine Ah (Ac ?_)
 refine E5 (cs := [.int .i64 p0.1, v1, v2]) F W Aa Aa Aa fun b1 a w F W => ?_
 refine ls F W Aa (Ag F Aa).q fun a w F W => ?_
 refine Ae (Ab (Ah (Ac ?_)))
 refine ls F W Aa (Aj D1 Aa Aa Aa H4 F Aa 2 Aa).q fun a w F W => ?_
 refine ls F W Aa (Aw (v := v2) 0 F Aa Aa H4 Aa).q fun a w F W => ?_
 iterate 2 refine ls F W Aa (Ad F Aa).q fun a w F W => ?_
 refine ls F W Aa (ET (v := Value.agg #[.int .i64 p1, .int .i64 p2]) Ta F Aa Aa Aa).q fun a w F W => ?_
 obtain ⟨x1, h1, H⟩ := Ak H
 refine ls F W Aa (BX (v := Value.int .i64 x1) F T0 Aa (fun w W => GL any w (v2) p0.2.2 (p1, p2) _ h1 (((Am h_v2) : D4 _ _ _ _ _ _) w W).nx)) fun a w F W => ?_
 refine ls F W Aa (Ag F Aa).q fun a w F W => ?_
 refine Ae (Ab (AF ?_))
 have H := AV H
 subst H
 refine BK (.inl Aa) F W Aa (Ay F Aa) ?_
 exact ⟨rfl, W.done⟩
theorem Ut : Has Try.prog 48 := ⟨fun args w => Al Try.func48 rfl (by decide) args w⟩
noncomputable def Dl (p0 : Int × (List (Int × Int × Int × Int × Int × Int)) × (List (Int × Int))) (p1 : Int) (p2 : Int) : Int → Option (Int ⊕ (Unit ⊕ (Int × Int × Int × Bool)))
  | x1 => (if x1 < (p0.2.1.length : Int) then (ix p0.2.1 x1).bind fun x2 => (if p1 = x2.1 ∧ p2 = x2.2.1 then some (.inr (.inr (x2.2.2.1, x2.2.2.2.1, x1, true))) else (if p1 = x2.2.2.1 ∧ p2 = x2.2.2.2.1 then some (.inr (.inr (x2.1, x2.2.1, x1, true))) else some (.inl (AB (x1 + 1))))) else some (.inr (.inl ())))
noncomputable def E0 (p0 : Int × (List (Int × Int × Int × Int × Int × Int)) × (List (Int × Int))) (p1 : Int) (p2 : Int) : Option (Int × Int × Int × Bool) := FB (AG (Dl p0 p1 p2) 0) fun _ => some (0, 0, 0, false)
theorem ND (Y : Nat → Prop) (w0 : World) (v1 : Value) (v2 : Value) (p0 : Int × (List (Int × Int × Int × Int × Int × Int)) × (List (Int × Int))) (p1 : Int) (p2 : Int) (r : Int × Int × Int × Bool) (H : E0 p0 p1 p2 = some r) (h_v1 : Sl w0 (NX []) Hu v1 p0.2.1) (h_v2 : Sl w0 (NX []) Gz v2 p0.2.2) :
    Calls Try.prog 74 #[.agg #[.int .i64 p0.1, v1, v2], .int .i64 p1, .int .i64 p2] w0 fun e w' => e = .returned (.tuple #[.int .i64 r.1, .int .i64 r.2.1, .int .i64 r.2.2.1, .bool r.2.2.2]) ∧ Below w0.heap.size w0 w' := by
 refine enter Try.func74 Aa Try.ntmps74 Aa fun a F => ?_
 have W := Stw.start Y w0
 unfold E0 at H
 refine Ah (Ac ?_)
 refine E5 (cs := [.int .i64 p0.1, v1, v2]) F W Aa Aa Aa fun b1 a w F W => ?_
 iterate 4 refine ls F W Aa (Ag F Aa).q fun a w F W => ?_
 refine Ae (Ab (Ah (Ac ?_)))
 iterate 2 refine ls F W Aa (Ad F Aa).q fun a w F W => ?_
 refine ls F W Aa (ET (v := Value.agg #[.int .i64 p1, .int .i64 p2]) O3 F Aa Aa Aa).q fun a w F W => ?_
 refine DX (cs := [.int .i64 0, .int .i64 0]) F W Aa QT Aa fun b2 a w F W => ?_
 refine DC (vs := [.int .i64 p1, .int .i64 p2]) (M' := [(b2, [.int .i64 p1, .int .i64 p2]), (b1, [.int .i64 p0.1, v1, v2])]) 0 F W Aa Aa Aa Oi Aa Aa Aa Aa Aa fun w W => ?_
 refine Ae (Ab ?_)
 obtain ⟨o1, G1, K1, L1⟩ := Jx H
 refine AM (fun a w => some (Sum.inl ()) = some o1 ∧ Fr 49 [] [(6, .int .i64 0), (7, .int .i64 0), (8, .int .i64 0), (9, .bool false)] a ∧ Stw ⟨Y, [], w0⟩ [(b2, [.int .i64 p1, .int .i64 p2]), (b1, [.int .i64 p0.1, v1, v2])] [] w) ?_ ?_
 ·
  have H := G1
  clear G1 K1
  refine Ah (Ac ?_)
  refine ls F W Aa (Aj D1 Aa Aa Aa Lp F Aa 1 Aa).q fun a w F W => ?_
  refine ls F W Aa (Aw (v := v1) 1 F Aa Aa Lp Aa).q fun a w F W => ?_
  refine ls F W Aa (B0 (r := Hu) (l := p0.2.1) Md Aa F Aa (Am h_v1)).q fun a w F W => ?_
  refine ls F W Aa (Ad F Aa).q fun a w F W => ?_
  refine Ae (Ab (As ?_))
  have W := W.frontM (i := 1) Aa Aa
  have W := W.frontM (i := 1) Aa Aa
  refine Bb H (fun s a w => Fr 49 [] [(6, .int .i64 0), (7, .int .i64 0), (8, .int .i64 0), (9, .bool false), (10, .pointer (some ⟨b2, 0, none⟩)), (17, v1), (18, .int .i64 (p0.2.1.length : Int)), (19, .int .i64 s)] a ∧ Stw ⟨Y, [], w0⟩ [(b2, [.int .i64 p1, .int .i64 p2]), (b1, [.int .i64 p0.1, v1, v2])] [] w) ⟨F.re ⟨rfl, Aa, Aa, Aa, Aa, Aa, Aa, Aa, trivial⟩, W⟩ fun s o a w H L2 hR => ?_
  obtain ⟨x1, rfl⟩ : ∃ x, x = s := ⟨s, rfl⟩
  obtain ⟨F, W⟩ := hR
  have F : Fr 49 [] [(6, .int .i64 0), (7, .int .i64 0), (8, .int .i64 0), (9, .bool false), (10, .pointer (some ⟨b2, 0, none⟩)), (17, v1), (18, .int .i64 (p0.2.1.length : Int)), (19, .int .i64 x1)] a := F
  have W : Stw ⟨Y, [], w0⟩ [(b2, [.int .i64 p1, .int .i64 p2]), (b1, [.int .i64 p0.1, v1, v2])] [] w := W
  rw [Dl] at H
  refine Ah (Ac ?_)
  refine ls F W Aa (Bu F Aa Aa).q fun a w F W => ?_
  refine Ae (Ab (Ah ?_))
  refine AA F Aa (fun hb => ?_) fun hb => ?_
  ·
   have H := AS (BD hb) H
   rw [hb] at F
   clear hb
   refine Av (Ab (Ah (As (Ah (Ac ?_)))))
   refine ls F W Aa (Ad F Aa).q fun a w F W => ?_
   obtain ⟨x2, h1, H⟩ := Ak H
   refine ls F W Aa (Ax (r := Hu) RF F Aa Aa (Am h_v1) h1).q fun a w F W => ?_
   refine ls F W Aa (Ao (y := Value.agg #[.int .i64 x2.1, .int .i64 x2.2.1, .int .i64 x2.2.2.1, .int .i64 x2.2.2.2.1, .int .i64 x2.2.2.2.2.1, .int .i64 x2.2.2.2.2.2]) (j := 0) (i := x1) F Aa Aa (Am h_v1) h1 RN.to PO Aa).q fun a w F W => ?_
   refine DX (cs := [.int .i64 0, .int .i64 0, .int .i64 0, .int .i64 0, .int .i64 0, .int .i64 0]) F W Aa RW Aa fun b3 a w F W => ?_
   refine ls F W Aa (Ag F Aa).q fun a w F W => ?_
   refine DC (vs := [.int .i64 x2.1, .int .i64 x2.2.1, .int .i64 x2.2.2.1, .int .i64 x2.2.2.2.1, .int .i64 x2.2.2.2.2.1, .int .i64 x2.2.2.2.2.2]) (M' := [(b3, [.int .i64 x2.1, .int .i64 x2.2.1, .int .i64 x2.2.2.1, .int .i64 x2.2.2.2.1, .int .i64 x2.2.2.2.2.1, .int .i64 x2.2.2.2.2.2]), (b2, [.int .i64 p1, .int .i64 p2]), (b1, [.int .i64 p0.1, v1, v2])]) 0 F W Aa Aa Aa PO Aa Aa Aa Aa Aa fun w W => ?_
   refine Ae (Ab (Ah (Ah (Ac ?_))))
   refine ls F W Aa (Aw (v := Value.agg #[.int .i64 p1, .int .i64 p2]) 1 F Aa Aa Oi Aa).q fun a w F W => ?_
   refine ls F W Aa (Aj EW Aa Aa Aa T3 F Aa 0 Aa).q fun a w F W => ?_
   refine ls F W Aa (Aw (v := Value.int .i64 x2.1) 0 F Aa Aa T3 Aa).q fun a w F W => ?_
   refine ls F W Aa (Aj EW Aa Aa Aa T3 F Aa 1 Aa).q fun a w F W => ?_
   refine ls F W Aa (Aw (v := Value.int .i64 x2.2.1) 0 F Aa Aa T3 Aa).q fun a w F W => ?_
   refine ls F W Aa (ET (v := Value.agg #[.int .i64 x2.1, .int .i64 x2.2.1]) O3 F Aa Aa Aa).q fun a w F W => ?_
   refine ls F W Aa (OX (t := decide (p1 = x2.1 ∧ p2 = x2.2.1)) R4 (Rs _ _ _ _) F Aa Aa).q fun a w F W => ?_
   refine Ae (Ab ?_)
   refine AA F Aa (fun hb => ?_) fun hb => ?_
   ·
    have H := AS (BD hb) H
    rw [hb] at F
    clear hb
    refine Ah ?_
    refine BV W MO (by kernel_rfl) ?_
    refine qs F Aa (Aj EW Aa Aa Aa T3 F Aa 2 Aa).q fun a F => ?_
    refine qs F Aa (Aw (v := Value.int .i64 x2.2.2.1) 0 F Aa Aa T3 Aa).q fun a F => ?_
    refine qs F Aa (Aj EW Aa Aa Aa T3 F Aa 3 Aa).q fun a F => ?_
    refine qs F Aa (Aw (v := Value.int .i64 x2.2.2.2.1) 0 F Aa Aa T3 Aa).q fun a F => ?_
    refine qs F Aa (Ad F Aa).q fun a F => ?_
    iterate 4 refine qs F Aa (Ag F Aa).q fun a F => ?_
    refine AY fun w W => ?_
    refine Ab (AF (AH (AQ ?_)))
    iterate 2 refine AH ?_
    refine AQ (AH ?_)
    have H := L2 _ H
    have H := L1 _ H
    have H := AV H
    subst H
    refine MD (.inl Aa) F W Aa (Ay F Aa) (Ay F Aa) (Ay F Aa) (Ay F Aa) ?_
    exact ⟨rfl, W.done⟩
   have H := AR (BB hb) H
   rw [hb] at F
   clear hb
   refine Av (Ab (Ah (Ac ?_)))
   refine ls F W Aa (Aw (v := Value.agg #[.int .i64 p1, .int .i64 p2]) 1 F Aa Aa Oi Aa).q fun a w F W => ?_
   refine ls F W Aa (Aj EW Aa Aa Aa T3 F Aa 2 Aa).q fun a w F W => ?_
   refine ls F W Aa (Aw (v := Value.int .i64 x2.2.2.1) 0 F Aa Aa T3 Aa).q fun a w F W => ?_
   refine ls F W Aa (Aj EW Aa Aa Aa T3 F Aa 3 Aa).q fun a w F W => ?_
   refine ls F W Aa (Aw (v := Value.int .i64 x2.2.2.2.1) 0 F Aa Aa T3 Aa).q fun a w F W => ?_
   refine ls F W Aa (ET (v := Value.agg #[.int .i64 x2.2.2.1, .int .i64 x2.2.2.2.1]) O3 F Aa Aa Aa).q fun a w F W => ?_
   refine ls F W Aa (OX (t := decide (p1 = x2.2.2.1 ∧ p2 = x2.2.2.2.1)) R4 (Rs _ _ _ _) F Aa Aa).q fun a w F W => ?_
   refine Ae (Ab ?_)
   refine AA F Aa (fun hb => ?_) fun hb => ?_
   ·
    have H := AS (BD hb) H
    rw [hb] at F
    clear hb
    refine Ah ?_
    refine BV W MO (by kernel_rfl) ?_
    refine qs F Aa (Aj EW Aa Aa Aa T3 F Aa 0 Aa).q fun a F => ?_
    refine qs F Aa (Aw (v := Value.int .i64 x2.1) 0 F Aa Aa T3 Aa).q fun a F => ?_
    refine qs F Aa (Aj EW Aa Aa Aa T3 F Aa 1 Aa).q fun a F => ?_
    refine qs F Aa (Aw (v := Value.int .i64 x2.2.1) 0 F Aa Aa T3 Aa).q fun a F => ?_
    refine qs F Aa (Ad F Aa).q fun a F => ?_
    iterate 4 refine qs F Aa (Ag F Aa).q fun a F => ?_
    refine AY fun w W => ?_
    refine Ab (AF (AQ ?_))
    iterate 2 refine AH ?_
    refine AQ (AH ?_)
    have H := L2 _ H
    have H := L1 _ H
    have H := AV H
    subst H
    refine MD (.inl Aa) F W Aa (Ay F Aa) (Ay F Aa) (Ay F Aa) (Ay F Aa) ?_
    exact ⟨rfl, W.done⟩
   have H := AR (BB hb) H
   rw [hb] at F
   clear hb
   refine Av (AP (Ab (Ac ?_)))
   refine ls F W Aa (BC F Aa Aa Aa).q fun a w F W => ?_
   refine ls F W Aa (Ad F Aa).q fun a w F W => ?_
   refine Ae (Ab ?_)
   have W := W.frontM (i := 2) Aa Aa
   have W := W.frontM (i := 2) Aa Aa
   have W := W.sub (M' := [(b2, [.int .i64 p1, .int .i64 p2]), (b1, [.int .i64 p0.1, v1, v2])]) (Z' := []) (List.Sublist.cons_cons _ (List.Sublist.cons_cons _ (List.nil_sublist _))) (List.Sublist.refl _)
   exact ⟨_, H, F.re ⟨rfl, Aa, Aa, Aa, Aa, Aa, Aa, Aa, trivial⟩, W⟩
  have H := AR (BB hb) H
  rw [hb] at F
  clear hb
  refine A8 ?_
  iterate 2 refine Bq ?_
  refine A9 (Ab ?_)
  have W := W.frontM (i := 1) Aa Aa
  have W := W.frontM (i := 1) Aa Aa
  have H := L2 _ H
  exact ⟨H, F.re ⟨rfl, Aa, Aa, Aa, trivial⟩, W⟩
 rintro a w ⟨hj, F, W⟩
 have H := K1 _ hj
 clear hj G1 K1 L1
 refine Ah (Ac ?_)
 iterate 4 refine ls F W Aa (Ag F Aa).q fun a w F W => ?_
 refine Ae (Ab (AF ?_))
 have H := AV H
 subst H
 refine MD (.inl Aa) F W Aa (Ay F Aa) (Ay F Aa) (Ay F Aa) (Ay F Aa) ?_
 exact ⟨rfl, W.done⟩
theorem Ub : Has Try.prog 74 := ⟨fun args w => Al Try.func74 rfl (by decide) args w⟩
noncomputable def Gk (p0 : Int × (List (Int × Int × Int × Int × Int × Int)) × (List (Int × Int))) (p1 : List (List Int)) (p2 : Int) (p3 : Int) : Option (Int × Bool) := (if p2 < 0 then some true else (if (p1.length : Int) ≤ p2 then some true else (if p3 < 0 then some true else (ix p1 p2).bind fun x2 => some (decide ((x2.length : Int) ≤ p3))))).bind fun x1 => (if x1 = true then some (0, false) else (ix p1 p2).bind fun x3 => (ix x3 p3).bind fun x4 => (E0 p0 p2 x4).bind fun x5 => some (x5.1, x5.2.2.2))
theorem Nc (Y : Nat → Prop) (w0 : World) (v1 : Value) (v2 : Value) (v3 : Value) (p0 : Int × (List (Int × Int × Int × Int × Int × Int)) × (List (Int × Int))) (p1 : List (List Int)) (p2 : Int) (p3 : Int) (r : Int × Bool) (H : Gk p0 p1 p2 p3 = some r) (h_v1 : Sl w0 (NX []) Hu v1 p0.2.1) (h_v2 : Sl w0 (NX []) Gz v2 p0.2.2) (h_v3 : Sl w0 (NX []) (Rp.slice (Rp.int .i64)) v3 p1) :
    Calls Try.prog 49 #[.agg #[.int .i64 p0.1, v1, v2], v3, .int .i64 p2, .int .i64 p3] w0 fun e w' => e = .returned (.tuple #[.int .i64 r.1, .bool r.2]) ∧ Below w0.heap.size w0 w' := by
 refine enter Try.func49 Aa Try.ntmps49 Aa fun a F => ?_
 have W := Stw.start Y w0
 obtain ⟨v4, h1, h_v3⟩ := h_v3.ex Do
 unfold Gk at H
 refine Ah (Ac ?_)
 refine E5 (cs := [.int .i64 p0.1, v1, v2]) F W Aa Aa Aa fun b1 a w F W => ?_
 iterate 2 refine ls F W Aa (Ag F Aa).q fun a w F W => ?_
 refine Ae (Ab (Ah ?_))
 obtain ⟨o1, G1, K1⟩ := Ak H
 refine AM (fun a w => ∃ x1 : Bool, some (x1) = some o1 ∧ Fr 52 [] [(1, v3), (2, .int .i64 p2), (3, .int .i64 p3), (4, .pointer (some ⟨b1, 0, none⟩)), (8, .int .i64 0), (9, .bool false), (34, .bool x1)] a ∧ Stw ⟨Y, [], w0⟩ [(b1, [.int .i64 p0.1, v1, v2])] [] w) ?_ ?_
 ·
  have H := G1
  clear G1 K1
  refine Ac ?_
  refine ls F W Aa (Ad F Aa).q fun a w F W => ?_
  refine ls F W Aa (Bu F Aa Aa).q fun a w F W => ?_
  refine ls F W Aa (Ad F Aa).q fun a w F W => ?_
  rcases Bool.eq_false_or_eq_true (decide (p2 < 0)) with hb | hb
  ·
   have H := AS (BD hb) H
   rw [hb] at F
   clear hb
   iterate 4 refine Dd F Aa Aa Aa Aa Aa Aa Aa fun a F => ?_
   refine ls F W Aa (Aq F Aa Aa Aa).q fun a w F W => ?_
   refine ls F W Aa (Ad F Aa).q fun a w F W => ?_
   iterate 2 refine Dd F Aa Aa Aa Aa Aa Aa Aa fun a F => ?_
   refine ls F W Aa (Aq F Aa Aa Aa).q fun a w F W => ?_
   refine ls F W Aa (Ad F Aa).q fun a w F W => ?_
   iterate 7 refine Dd F Aa Aa Aa Aa Aa Aa Aa fun a F => ?_
   refine ls F W Aa (Aq F Aa Aa Aa).q fun a w F W => ?_
   refine Ae (Ab ?_)
   exact ⟨_, H, F.re ⟨rfl, Aa, Aa, Aa, Aa, Aa, Aa, trivial⟩, W⟩
  have H := AR (BB hb) H
  rw [hb] at F
  clear hb
  iterate 2 refine AJ F W (Af F Aa Aa Aa Aa) Aa (Ai Aa) (Ad F Aa).q fun a w F W => ?_
  refine AJ F W (Af F Aa Aa Aa Aa) Aa (Ai Aa) (B0 (r := (Rp.slice (Rp.int .i64))) (l := p1) Ju Aa F Aa (B8 Do h1 (Am h_v3))).q fun a w F W => ?_
  refine AJ F W (Af F Aa Aa Aa Aa) Aa (Ai Aa) (DH F Aa Aa).q fun a w F W => ?_
  refine ls F W Aa (Az F Aa Aa Aa).q fun a w F W => ?_
  refine ls F W Aa (Ad F Aa).q fun a w F W => ?_
  rcases Bool.eq_false_or_eq_true (decide ((p1.length : Int) ≤ p2)) with hb | hb
  ·
   have H := AS (BD hb) H
   rw [hb] at F
   clear hb
   iterate 2 refine Dd F Aa Aa Aa Aa Aa Aa Aa fun a F => ?_
   refine ls F W Aa (Aq F Aa Aa Aa).q fun a w F W => ?_
   refine ls F W Aa (Ad F Aa).q fun a w F W => ?_
   iterate 7 refine Dd F Aa Aa Aa Aa Aa Aa Aa fun a F => ?_
   refine ls F W Aa (Aq F Aa Aa Aa).q fun a w F W => ?_
   refine Ae (Ab ?_)
   exact ⟨_, H, F.re ⟨rfl, Aa, Aa, Aa, Aa, Aa, Aa, trivial⟩, W⟩
  have H := AR (BB hb) H
  rw [hb] at F
  clear hb
  refine AJ F W (Af F Aa Aa Aa Aa) Aa (Ai Aa) (Ad F Aa).q fun a w F W => ?_
  refine AJ F W (Af F Aa Aa Aa Aa) Aa (Ai Aa) (Bu F Aa Aa).q fun a w F W => ?_
  refine ls F W Aa (Az F Aa Aa Aa).q fun a w F W => ?_
  refine ls F W Aa (Ad F Aa).q fun a w F W => ?_
  rcases Bool.eq_false_or_eq_true (decide (p3 < 0)) with hb | hb
  ·
   have H := AS (BD hb) H
   rw [hb] at F
   clear hb
   iterate 7 refine Dd F Aa Aa Aa Aa Aa Aa Aa fun a F => ?_
   refine ls F W Aa (Aq F Aa Aa Aa).q fun a w F W => ?_
   refine Ae (Ab ?_)
   exact ⟨_, H, F.re ⟨rfl, Aa, Aa, Aa, Aa, Aa, Aa, trivial⟩, W⟩
  have H := AR (BB hb) H
  rw [hb] at F
  clear hb
  iterate 3 refine AJ F W (Af F Aa Aa Aa Aa) Aa (Ai Aa) (Ad F Aa).q fun a w F W => ?_
  obtain ⟨x2, h2, H⟩ := Ak H
  obtain ⟨v5, h3, h4⟩ := DQ h1 h2
  have h5 : EN v5 = [(v5.1)] := congrArg (fun q : List Int => ([(v5.1)] : List Value)) h4
  refine AJ F W (Af F Aa Aa Aa Aa) Aa (Ai Aa) (Ax (r := (Rp.vsl (Rp.int .i64))) Lm F Aa Aa (Am h_v3) h3).q fun a w F W => ?_
  refine AJ F W (Af F Aa Aa Aa Aa) Aa (Ai Aa) (Ao (y := (v5.1)) (j := 0) (i := p2) (enc := EN) F Aa Aa (Am h_v3) h3 Im JO (by rw [h5]; rfl)).q fun a w F W => ?_
  refine AJ F W (Af F Aa Aa Aa Aa) Aa (Ai Aa) (B0 (r := (Rp.int .i64)) (l := x2) Hr Aa F Aa (Du (Am h_v3) h3 EK.here (congrArg (fun q : List Int => q) h4))).q fun a w F W => ?_
  refine AJ F W (Af F Aa Aa Aa Aa) Aa (Ai Aa) (DH F Aa Aa).q fun a w F W => ?_
  refine ls F W Aa (Az F Aa Aa Aa).q fun a w F W => ?_
  refine Ae (Ab ?_)
  exact ⟨_, H, F.re ⟨rfl, Aa, Aa, Aa, Aa, Aa, Aa, trivial⟩, W⟩
 rintro a w ⟨x1, hj, F, W⟩
 have hj := AV hj
 subst hj
 have H := K1
 clear G1 K1
 refine AA F Aa (fun hb => ?_) fun hb => ?_
 ·
  have H := AS hb H
  rw [hb] at F
  clear hb
  refine Ah (Ac ?_)
  iterate 2 refine ls F W Aa (Ag F Aa).q fun a w F W => ?_
  refine Ae (Ab (AF (AH ?_)))
  have H := AV H
  subst H
  refine EO (.inl Aa) F W Aa (Ay F Aa) (Ay F Aa) ?_
  exact ⟨rfl, W.done⟩
 have H := AR (by rw [hb]; decide) H
 rw [hb] at F
 clear hb
 refine Av (Ab (Ah ?_))
 refine BV W MO (by kernel_rfl) ?_
 refine qs F Aa (Aw (v := Value.agg #[.int .i64 p0.1, v1, v2]) 0 F Aa Aa JE Aa).q fun a F => ?_
 iterate 3 refine qs F Aa (Ad F Aa).q fun a F => ?_
 obtain ⟨x3, h6, H⟩ := Ak H
 obtain ⟨v6, h7, h8⟩ := DQ h1 h6
 have h9 : EN v6 = [(v6.1)] := congrArg (fun q : List Int => ([(v6.1)] : List Value)) h8
 refine qs F Aa (Ax (r := (Rp.vsl (Rp.int .i64))) Lm F Aa Aa (Am h_v3) h7).q fun a F => ?_
 refine qs F Aa (Ao (y := (v6.1)) (j := 0) (i := p2) (enc := EN) F Aa Aa (Am h_v3) h7 Im JO (by rw [h9]; rfl)).q fun a F => ?_
 refine qs F Aa (Ad F Aa).q fun a F => ?_
 obtain ⟨x4, h10, H⟩ := Ak H
 refine qs F Aa (Ax (r := (Rp.int .i64)) GD F Aa Aa (Du (Am h_v3) h7 EK.here (congrArg (fun q : List Int => q) h8)) h10).q fun a F => ?_
 refine qs F Aa (Ao (y := Value.int .i64 x4) (j := 0) (i := p3) F Aa Aa (Du (Am h_v3) h7 EK.here (congrArg (fun q : List Int => q) h8)) h10 Fl.int.to T3 Aa).q fun a F => ?_
 obtain ⟨x5, h11, H⟩ := Ak H
 refine qs F Aa (BX (v := Value.tuple #[.int .i64 x5.1, .int .i64 x5.2.1, .int .i64 x5.2.2.1, .bool x5.2.2.2]) F Ub Aa (fun w W => ND any w (v1) (v2) p0 p2 x4 _ h11 (((Am h_v1) : D4 _ _ _ _ _ _) w W).nx (((Am h_v2) : D4 _ _ _ _ _ _) w W).nx)) fun a F => ?_
 refine qs F Aa (Ad F Aa).q fun a F => ?_
 refine qs F Aa (Bi (v := Value.int .i64 x5.1) F Aa Aa).q fun a F => ?_
 refine qs F Aa (Bi (v := Value.int .i64 x5.2.1) F Aa Aa).q fun a F => ?_
 refine qs F Aa (Bi (v := Value.int .i64 x5.2.2.1) F Aa Aa).q fun a F => ?_
 refine qs F Aa (Bi (v := Value.bool x5.2.2.2) F Aa Aa).q fun a F => ?_
 iterate 4 refine qs F Aa (Ag F Aa).q fun a F => ?_
 refine AY fun w W => ?_
 refine Ab (Ah (Ac ?_))
 iterate 2 refine ls F W Aa (Ad F Aa).q fun a w F W => ?_
 iterate 2 refine ls F W Aa (Ag F Aa).q fun a w F W => ?_
 refine Ae (Ab (AF ?_))
 have H := AV H
 subst H
 refine EO (.inl Aa) F W Aa (Ay F Aa) (Ay F Aa) ?_
 exact ⟨rfl, W.done⟩
theorem TV : Has Try.prog 49 := ⟨fun args w => Al Try.func49 rfl (by decide) args w⟩
noncomputable def CI (p0 : List Int) (p1 : Int) : Int → Option (Int ⊕ (Unit ⊕ Bool))
  | x1 => (if x1 < (p0.length : Int) then (ix p0 x1).bind fun x2 => (if p1 = x2 then some (.inr (.inr true)) else some (.inl (AB (x1 + 1)))) else some (.inr (.inl ())))
noncomputable def Dm (p0 : List Int) (p1 : Int) : Option Bool := FB (AG (CI p0 p1) 0) fun _ => some false
theorem Jn (Y : Nat → Prop) (w0 : World) (v1 : Value) (p0 : List Int) (p1 : Int) (r : Bool) (H : Dm p0 p1 = some r) (h_v1 : Sl w0 (NX []) (Rp.int .i64) v1 p0) :
    Calls Try.prog 50 #[v1, .int .i64 p1] w0 fun e w' => e = .returned (.bool r) ∧ Below w0.heap.size w0 w' := by
 refine enter Try.func50 Aa Try.ntmps50 Aa fun a F => ?_
 have W := Stw.start Y w0
 unfold Dm at H
 refine Ah (Ac ?_)
 refine ls F W Aa (Ag F Aa).q fun a w F W => ?_
 refine Ae (Ab ?_)
 obtain ⟨o1, G1, K1, L1⟩ := Jx H
 refine AM (fun a w => some (Sum.inl ()) = some o1 ∧ Fr 17 [] [(4, .bool false)] a ∧ Stw ⟨Y, [], w0⟩ [] [] w) ?_ ?_
 ·
  have H := G1
  clear G1 K1
  refine Ah (Ac ?_)
  refine ls F W Aa (Ad F Aa).q fun a w F W => ?_
  refine ls F W Aa (B0 (r := (Rp.int .i64)) (l := p0) Hr Aa F Aa (Am h_v1)).q fun a w F W => ?_
  refine ls F W Aa (Ad F Aa).q fun a w F W => ?_
  refine Ae (Ab (As ?_))
  refine Bb H (fun s a w => Fr 17 [] [(1, .int .i64 p1), (4, .bool false), (7, v1), (8, .int .i64 (p0.length : Int)), (9, .int .i64 s)] a ∧ Stw ⟨Y, [], w0⟩ [] [] w) ⟨F.re ⟨rfl, Aa, Aa, Aa, Aa, trivial⟩, W⟩ fun s o a w H L2 hR => ?_
  obtain ⟨x1, rfl⟩ : ∃ x, x = s := ⟨s, rfl⟩
  obtain ⟨F, W⟩ := hR
  have F : Fr 17 [] [(1, .int .i64 p1), (4, .bool false), (7, v1), (8, .int .i64 (p0.length : Int)), (9, .int .i64 x1)] a := F
  have W : Stw ⟨Y, [], w0⟩ [] [] w := W
  rw [CI] at H
  refine Ah (Ac ?_)
  refine ls F W Aa (Bu F Aa Aa).q fun a w F W => ?_
  refine Ae (Ab (Ah ?_))
  refine AA F Aa (fun hb => ?_) fun hb => ?_
  ·
   have H := AS (BD hb) H
   rw [hb] at F
   clear hb
   refine Av (Ab (Ah (As (Ah (Ac ?_)))))
   obtain ⟨x2, h1, H⟩ := Ak H
   refine ls F W Aa (Ax (r := (Rp.int .i64)) GD F Aa Aa (Am h_v1) h1).q fun a w F W => ?_
   refine ls F W Aa (Ao (y := Value.int .i64 x2) (j := 0) (i := x1) F Aa Aa (Am h_v1) h1 Fl.int.to T3 Aa).q fun a w F W => ?_
   refine ls F W Aa (Ag F Aa).q fun a w F W => ?_
   refine Ae (Ab (Ah (Ac ?_)))
   iterate 2 refine ls F W Aa (Ad F Aa).q fun a w F W => ?_
   refine ls F W Aa (DP F Aa Aa).q fun a w F W => ?_
   refine Ae (Ab ?_)
   refine AA F Aa (fun hb => ?_) fun hb => ?_
   ·
    have H := AS (BD hb) H
    rw [hb] at F
    clear hb
    refine Ah (Ac ?_)
    refine ls F W Aa (Ag F Aa).q fun a w F W => ?_
    refine Ae (Ab (AF (AQ ?_)))
    iterate 2 refine AH ?_
    refine AQ (AH ?_)
    have H := L2 _ H
    have H := L1 _ H
    have H := AV H
    subst H
    refine BK (.inl Aa) F W Aa (Ay F Aa) ?_
    exact ⟨rfl, W.done⟩
   have H := AR (BB hb) H
   rw [hb] at F
   clear hb
   refine Av (AP (Ab (Ac ?_)))
   refine ls F W Aa (BC F Aa Aa Aa).q fun a w F W => ?_
   refine ls F W Aa (Ad F Aa).q fun a w F W => ?_
   refine Ae (Ab ?_)
   exact ⟨_, H, F.re ⟨rfl, Aa, Aa, Aa, Aa, trivial⟩, W⟩
  have H := AR (BB hb) H
  rw [hb] at F
  clear hb
  refine A8 ?_
  iterate 2 refine Bq ?_
  refine A9 (Ab ?_)
  have H := L2 _ H
  exact ⟨H, F.re ⟨rfl, trivial⟩, W⟩
 rintro a w ⟨hj, F, W⟩
 have H := K1 _ hj
 clear hj G1 K1 L1
 refine Ah (Ac ?_)
 refine ls F W Aa (Ag F Aa).q fun a w F W => ?_
 refine Ae (Ab (AF ?_))
 have H := AV H
 subst H
 refine BK (.inl Aa) F W Aa (Ay F Aa) ?_
 exact ⟨rfl, W.done⟩
end Go.Proofs.Ythiejmoddfenlaa
