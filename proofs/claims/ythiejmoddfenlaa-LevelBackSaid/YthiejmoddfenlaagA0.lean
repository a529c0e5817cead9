/- The functions of layer 23, HM. Conditions: none. -/
import Derived.Test.YthiejmoddfenlaaRows
import Derived.Test.YthiejmoddfenlaagQT
import Derived.Test.YthiejmoddfenlaagOT
import Derived.Test.YthiejmoddfenlaagOD
import Derived.Test.YthiejmoddfenlaagOC
import Derived.Test.YthiejmoddfenlaagOM
import Derived.Test.YthiejmoddfenlaagOX
namespace Go.Proofs.Ythiejmoddfenlaa
open Go Go.RowKit
set_option linter.unusedVariables false
set_option linter.unusedSimpArgs false
set_option maxRecDepth 20000
theorem LC : type_of% Try.underlying22 := Try.underlying22
theorem Jy : type_of% Try.underlying23 := Try.underlying23
theorem Ek : type_of% Try.underlying25 := Try.underlying25
theorem Lv : type_of% Try.underlying43 := Try.underlying43
theorem EN : type_of% Try.underlying69 := Try.underlying69
theorem Qh : type_of% Try.underlying115 := Try.underlying115
theorem Ko : type_of% Try.underlying118 := Try.underlying118
abbrev Hu : Rp (Int × Int × Int × Int × Int × Int) := (Rp.pair (Rp.int .i64) (Rp.pair (Rp.int .i64) (Rp.pair (Rp.int .i64) (Rp.pair (Rp.int .i64) (Rp.pair (Rp.int .i64) (Rp.int .i64))))))
abbrev GH : Rp (Int × Int) := (Rp.pair (Rp.int .i64) (Rp.int .i64))
abbrev RC (p : Value × List Int) : List Int := p.2
theorem CR : Ex (Rp.slice (Rp.int .i64)) (Rp.vsl (Rp.int .i64)) RC := Ex.sliceF
theorem JB : Ty Try.prog 25 true 3 := ⟨by kernel_rfl, by kernel_rfl⟩
theorem T3 : Ty Try.prog 3 false 1 := ⟨by kernel_rfl, by kernel_rfl⟩
theorem KJ : Ty Try.prog 22 false 1 := ⟨by kernel_rfl, by kernel_rfl⟩
theorem Iv : Ty Try.prog 23 false 1 := ⟨by kernel_rfl, by kernel_rfl⟩
abbrev HY (x : Int × Int) : Value := .agg #[.int .i64 x.1, .int .i64 x.2]
abbrev Ik (x : Unit) : Value := .agg #[]
theorem QI : Et Try.prog 22 69 6 48 := Et.of LC (by kernel_rfl) (by kernel_rfl) (by kernel_rfl) (by decide)
def SR (a : Int × Int × Int × Int × Int × Int) : List Value := [.int .i64 a.1, .int .i64 a.2.1, .int .i64 a.2.2.1, .int .i64 a.2.2.2.1, .int .i64 a.2.2.2.2.1, .int .i64 a.2.2.2.2.2]
theorem Qq : Fl Hu SR := (Fl.pair Fl.int (Fl.pair Fl.int (Fl.pair Fl.int (Fl.pair Fl.int (Fl.pair Fl.int Fl.int)))))
theorem OH : Ty Try.prog 69 true 6 := ⟨by kernel_rfl, by kernel_rfl⟩
theorem QO : (Try.prog.info? 69).bind (·.zero) = some (.agg #[.int .i64 0, .int .i64 0, .int .i64 0, .int .i64 0, .int .i64 0, .int .i64 0]) := by kernel_rfl
theorem Og : Bt Try.prog 118 [.int .i64 0, .int .i64 0] [(0, 1), (1, 1)] := ⟨⟨.agg #[.int .i64 0, .int .i64 0], by kernel_rfl, rfl⟩, ⟨_, Ko, fun w => by kernel_rfl⟩⟩
theorem P4 : (Try.prog.info? 118).bind (·.zero) = some (.agg #[.int .i64 0, .int .i64 0]) := by kernel_rfl
abbrev Gt : Rp (Int × Int) := (Rp.pair (Rp.int .i64) (Rp.int .i64))
def RQ (a : Int × Int) : List Value := [.int .i64 a.1, .int .i64 a.2]
theorem Qn : Fl Gt RQ := (Fl.pair Fl.int Fl.int)
theorem OK : Et Try.prog 115 118 2 16 := Et.of Qh (by kernel_rfl) (by kernel_rfl) (by kernel_rfl) (by decide)
theorem Pu : Et Try.prog 23 43 2 16 := Et.of Jy (by kernel_rfl) (by kernel_rfl) (by kernel_rfl) (by decide)
def SZ (a : Int × Int) : List Value := [.int .i64 a.1, .int .i64 a.2]
theorem Pv : Fl GH SZ := (Fl.pair Fl.int Fl.int)
theorem Rm : Ty Try.prog 43 true 2 := ⟨by kernel_rfl, by kernel_rfl⟩
theorem Sa : (Try.prog.info? 43).bind (·.zero) = some (.agg #[.int .i64 0, .int .i64 0]) := by kernel_rfl
noncomputable def DN (p0 : Int × (List (Int × Int × Int × Int × Int × Int)) × (List (Int × Int))) : ((List (Int × Int)) × Int) → Option (((List (Int × Int)) × Int) ⊕ (List (Int × Int)))
  | (x2, x3) => (if x3 < (p0.2.1.length : Int) then (ix p0.2.1 x3).bind fun x4 => (LZ x2 ([(x4.1, x4.2.1), (x4.2.2.1, x4.2.2.2.1)] : List (Int × Int))).bind fun x5 => some (.inl (x5, AC (x3 + 1))) else some (.inr x2))
noncomputable def DH (p0 : Int × (List (Int × Int × Int × Int × Int × Int)) × (List (Int × Int))) : ((List (Int × Int)) × Int) → Option (((List (Int × Int)) × Int) ⊕ (List (Int × Int)))
  | (x7, x8) => (if x8 < (p0.2.2.length : Int) then (ix p0.2.2 x8).bind fun x9 => (LZ x7 ([x9] : List (Int × Int))).bind fun x10 => some (.inl (x10, AC (x8 + 1))) else some (.inr x7))
noncomputable def FF (p0 : Int × (List (Int × Int × Int × Int × Int × Int)) × (List (Int × Int))) : Option (List (Int × Int)) := (AO (DN p0) ([], 0)).bind fun x1 => (AO (DH p0) (x1, 0)).bind fun x6 => some x6
theorem LD (Y : Nat → Prop) (w0 : World) (v1 : Value) (v2 : Value) (p0 : Int × (List (Int × Int × Int × Int × Int × Int)) × (List (Int × Int))) (r : (List (Int × Int))) (H : FF p0 = some r) (h_v1 : Sl w0 (NX []) Hu v1 p0.2.1) (h_v2 : Sl w0 (NX []) GH v2 p0.2.2) :
    Calls Try.prog 69 #[.agg #[.int .i64 p0.1, v1, v2]] w0 fun e w' => ∃ x : Value, e = .returned (x) ∧ Stw ⟨Y, [], w0⟩ [] [row (x) 118 Gt r] w' := by
 refine enter Try.func69 Aa Try.ntmps69 Aa fun a F => ?_
 have W := Stw.start Y w0
 unfold FF at H
 refine Ah (Ac ?_)
 refine E0 (cs := [.int .i64 p0.1, v1, v2]) F W Aa Aa Aa fun b1 a w F W => ?_
 refine ls F W Aa (Ag F Aa).q fun a w F W => ?_
 refine Ae (Ab (Ah (Ac ?_)))
 refine ls F W Aa (Ag F Aa).q fun a w F W => ?_
 refine Ae (Ab ?_)
 obtain ⟨o1, G1, K1⟩ := Al H
 refine AM (fun a w => ∃ x1 : List (Int × Int), ∃ v3 : Value, some (x1) = some o1 ∧ Fr 46 [] [(1, .pointer (some ⟨b1, 0, none⟩)), (2, .slice none 0 0), (3, v3)] a ∧ Stw ⟨Y, [], w0⟩ [(b1, [.int .i64 p0.1, v1, v2])] [row v3 118 Gt x1] w) ?_ ?_
 ·
  have H := G1
  clear G1 K1
  refine Ah (Ac ?_)
  refine ls F W Aa (Ak Ek Aa Aa Aa KJ F Aa 1 Aa).q fun a w F W => ?_
  refine ls F W Aa (Az (v := v1) 0 F Aa Aa KJ Aa).q fun a w F W => ?_
  refine ls F W Aa (B0 (r := Hu) (l := p0.2.1) LC Aa F Aa (Ao h_v1)).q fun a w F W => ?_
  refine ls F W Aa (Ad F Aa).q fun a w F W => ?_
  refine Ae (Ab (Av ?_))
  have W := W.nilRow 118 Gt
  refine Bk H (fun s a w => ∃ v4 : Value, Fr 46 [] [(1, .pointer (some ⟨b1, 0, none⟩)), (2, .slice none 0 0), (3, v4), (9, v1), (10, .int .i64 (p0.2.1.length : Int)), (11, .int .i64 s.2)] a ∧ Stw ⟨Y, [], w0⟩ [(b1, [.int .i64 p0.1, v1, v2])] [row v4 118 Gt s.1] w) ⟨(Value.slice none 0 0), F.re ⟨rfl, Aa, Aa, Aa, Aa, Aa, trivial⟩, W⟩ fun s o a w H L2 hR => ?_
  obtain ⟨x2, x3⟩ := s
  obtain ⟨v4, F, W⟩ := hR
  have F : Fr 46 [] [(1, .pointer (some ⟨b1, 0, none⟩)), (2, .slice none 0 0), (3, v4), (9, v1), (10, .int .i64 (p0.2.1.length : Int)), (11, .int .i64 x3)] a := F
  have W : Stw ⟨Y, [], w0⟩ [(b1, [.int .i64 p0.1, v1, v2])] [row v4 118 Gt x2] w := W
  rw [DN] at H
  refine Ah (Ac ?_)
  refine ls F W Aa (BM F Aa Aa).q fun a w F W => ?_
  refine Ae (Ab (Ah ?_))
  refine AB F Aa (fun hb => ?_) fun hb => ?_
  ·
   have H := AR (Br hb) H
   rw [hb] at F
   clear hb
   refine Au (Ab (Ah (Av (Ah (Ac ?_)))))
   obtain ⟨x4, h1, H⟩ := Al H
   refine ls F W Aa (Ax (r := Hu) QI F Aa Aa (Ao h_v1) h1).q fun a w F W => ?_
   refine ls F W Aa (Ap (y := Value.agg #[.int .i64 x4.1, .int .i64 x4.2.1, .int .i64 x4.2.2.1, .int .i64 x4.2.2.2.1, .int .i64 x4.2.2.2.2.1, .int .i64 x4.2.2.2.2.2]) (j := 0) (i := x3) F Aa Aa (Ao h_v1) h1 Qq.to OH Aa).q fun a w F W => ?_
   refine DZ (cs := [.int .i64 0, .int .i64 0, .int .i64 0, .int .i64 0, .int .i64 0, .int .i64 0]) F W Aa QO Aa fun b2 a w F W => ?_
   refine Dk (vs := [.int .i64 x4.1, .int .i64 x4.2.1, .int .i64 x4.2.2.1, .int .i64 x4.2.2.2.1, .int .i64 x4.2.2.2.2.1, .int .i64 x4.2.2.2.2.2]) (M' := [(b2, [.int .i64 x4.1, .int .i64 x4.2.1, .int .i64 x4.2.2.1, .int .i64 x4.2.2.2.1, .int .i64 x4.2.2.2.2.1, .int .i64 x4.2.2.2.2.2]), (b1, [.int .i64 p0.1, v1, v2])]) 0 F W Aa Aa Aa OH Aa Aa Aa Aa Aa fun w W => ?_
   refine Ae (Ab (Ac ?_))
   refine ls F W Aa (Ad F Aa).q fun a w F W => ?_
   refine ls F W Aa (Ak EN Aa Aa Aa T3 F Aa 0 Aa).q fun a w F W => ?_
   refine ls F W Aa (Az (v := Value.int .i64 x4.1) 0 F Aa Aa T3 Aa).q fun a w F W => ?_
   refine ls F W Aa (Ak EN Aa Aa Aa T3 F Aa 1 Aa).q fun a w F W => ?_
   refine ls F W Aa (Az (v := Value.int .i64 x4.2.1) 0 F Aa Aa T3 Aa).q fun a w F W => ?_
   refine ls F W Aa (D0 (v := Value.agg #[.int .i64 x4.1, .int .i64 x4.2.1]) Og F Aa Aa Aa).q fun a w F W => ?_
   refine ls F W Aa (Ak EN Aa Aa Aa T3 F Aa 2 Aa).q fun a w F W => ?_
   refine ls F W Aa (Az (v := Value.int .i64 x4.2.2.1) 0 F Aa Aa T3 Aa).q fun a w F W => ?_
   refine ls F W Aa (Ak EN Aa Aa Aa T3 F Aa 3 Aa).q fun a w F W => ?_
   refine ls F W Aa (Az (v := Value.int .i64 x4.2.2.2.1) 0 F Aa Aa T3 Aa).q fun a w F W => ?_
   refine ls F W Aa (D0 (v := Value.agg #[.int .i64 x4.2.2.1, .int .i64 x4.2.2.2.1]) Og F Aa Aa Aa).q fun a w F W => ?_
   refine Fo (z := Value.agg #[.int .i64 0, .int .i64 0]) (cs := [.int .i64 x4.1, .int .i64 x4.2.1, .int .i64 x4.2.2.1, .int .i64 x4.2.2.2.1]) Gt ([(x4.1, x4.2.1), (x4.2.2.1, x4.2.2.2.1)] : List (Int × Int)) F W Aa OK P4 Aa Aa Aa Aa Aa Aa (Qn.repL _ _ ([(x4.1, x4.2.1), (x4.2.2.1, x4.2.2.2.1)] : List (Int × Int))) fun v5 a w F W => ?_
   obtain ⟨x5, h2, H⟩ := Al H
   refine GD (r := Gt) (i := 1) F W Aa OK Aa Aa Aa Aa (HV W 0 Aa) h2 Aa fun v6 a w F W => ?_
   have W : Stw ⟨Y, [], w0⟩ [(b2, [.int .i64 x4.1, .int .i64 x4.2.1, .int .i64 x4.2.2.1, .int .i64 x4.2.2.2.1, .int .i64 x4.2.2.2.2.1, .int .i64 x4.2.2.2.2.2]), (b1, [.int .i64 p0.1, v1, v2])] [row v6 118 Gt x5, row v5 118 Gt ([(x4.1, x4.2.1), (x4.2.2.1, x4.2.2.2.1)] : List (Int × Int))] w := W
   refine ls F W Aa (Ag F Aa).q fun a w F W => ?_
   refine Ae (AP (Ab (Ac ?_)))
   refine ls F W Aa (BL F Aa Aa Aa).q fun a w F W => ?_
   refine ls F W Aa (Ad F Aa).q fun a w F W => ?_
   refine Ae (Ab ?_)
   have W := W.frontM (i := 1) Aa Aa
   have W := W.sub (M' := [(b1, [.int .i64 p0.1, v1, v2])]) (Z' := [row v6 118 Gt x5]) (List.Sublist.cons_cons _ (List.nil_sublist _)) (List.Sublist.cons_cons _ (List.nil_sublist _))
   exact ⟨_, H, (v6), F.re ⟨rfl, Aa, Aa, Aa, Aa, Aa, trivial⟩, W⟩
  have H := AS (Bq hb) H
  rw [hb] at F
  clear hb
  refine Bh ?_
  iterate 2 refine BK ?_
  refine Bj (Ab ?_)
  have H := L2 _ H
  exact ⟨_, (v4), H, F.re ⟨rfl, Aa, Aa, trivial⟩, W⟩
 rintro a w ⟨x1, v3, hj, F, W⟩
 have hj := AX hj
 subst hj
 have H := K1
 clear G1 K1
 obtain ⟨o3, G3, K3⟩ := Al H
 refine AM (fun a w => ∃ x6 : List (Int × Int), ∃ v7 : Value, some (x6) = some o3 ∧ Fr 46 [] [(2, .slice none 0 0), (3, v7)] a ∧ Stw ⟨Y, [], w0⟩ [(b1, [.int .i64 p0.1, v1, v2])] [row v7 118 Gt x6] w) ?_ ?_
 ·
  have H := G3
  clear G3 K3
  refine Ah (Ac ?_)
  refine ls F W Aa (Ak Ek Aa Aa Aa Iv F Aa 2 Aa).q fun a w F W => ?_
  refine ls F W Aa (Az (v := v2) 0 F Aa Aa Iv Aa).q fun a w F W => ?_
  refine ls F W Aa (B0 (r := GH) (l := p0.2.2) Jy Aa F Aa (Ao h_v2)).q fun a w F W => ?_
  refine ls F W Aa (Ad F Aa).q fun a w F W => ?_
  refine Ae (Ab (Av ?_))
  refine Bk H (fun s a w => ∃ v8 : Value, Fr 46 [] [(2, .slice none 0 0), (3, v8), (30, v2), (31, .int .i64 (p0.2.2.length : Int)), (32, .int .i64 s.2)] a ∧ Stw ⟨Y, [], w0⟩ [(b1, [.int .i64 p0.1, v1, v2])] [row v8 118 Gt s.1] w) ⟨(v3), F.re ⟨rfl, Aa, Aa, Aa, Aa, trivial⟩, W⟩ fun s o a w H L4 hR => ?_
  obtain ⟨x7, x8⟩ := s
  obtain ⟨v8, F, W⟩ := hR
  have F : Fr 46 [] [(2, .slice none 0 0), (3, v8), (30, v2), (31, .int .i64 (p0.2.2.length : Int)), (32, .int .i64 x8)] a := F
  have W : Stw ⟨Y, [], w0⟩ [(b1, [.int .i64 p0.1, v1, v2])] [row v8 118 Gt x7] w := W
  rw [DH] at H
  refine Ah (Ac ?_)
  refine ls F W Aa (BM F Aa Aa).q fun a w F W => ?_
  refine Ae (Ab (Ah ?_))
  refine AB F Aa (fun hb => ?_) fun hb => ?_
  ·
   have H := AR (Br hb) H
   rw [hb] at F
   clear hb
   refine Au (Ab (Ah (Av (Ah (Ac ?_)))))
   obtain ⟨x9, h3, H⟩ := Al H
   refine ls F W Aa (Ax (r := GH) Pu F Aa Aa (Ao h_v2) h3).q fun a w F W => ?_
   refine ls F W Aa (Ap (y := Value.agg #[.int .i64 x9.1, .int .i64 x9.2]) (j := 0) (i := x8) F Aa Aa (Ao h_v2) h3 Pv.to Rm Aa).q fun a w F W => ?_
   refine DZ (cs := [.int .i64 0, .int .i64 0]) F W Aa Sa Aa fun b3 a w F W => ?_
   refine Dk (vs := [.int .i64 x9.1, .int .i64 x9.2]) (M' := [(b3, [.int .i64 x9.1, .int .i64 x9.2]), (b1, [.int .i64 p0.1, v1, v2])]) 0 F W Aa Aa Aa Rm Aa Aa Aa Aa Aa fun w W => ?_
   refine Ae (Ab (Ac ?_))
   refine ls F W Aa (Ad F Aa).q fun a w F W => ?_
   refine ls F W Aa (Ak Lv Aa Aa Aa T3 F Aa 0 Aa).q fun a w F W => ?_
   refine ls F W Aa (Az (v := Value.int .i64 x9.1) 0 F Aa Aa T3 Aa).q fun a w F W => ?_
   refine ls F W Aa (Ak Lv Aa Aa Aa T3 F Aa 1 Aa).q fun a w F W => ?_
   refine ls F W Aa (Az (v := Value.int .i64 x9.2) 0 F Aa Aa T3 Aa).q fun a w F W => ?_
   refine ls F W Aa (D0 (v := Value.agg #[.int .i64 x9.1, .int .i64 x9.2]) Og F Aa Aa Aa).q fun a w F W => ?_
   refine Fo (z := Value.agg #[.int .i64 0, .int .i64 0]) (cs := [.int .i64 x9.1, .int .i64 x9.2]) Gt ([x9] : List (Int × Int)) F W Aa OK P4 Aa Aa Aa Aa Aa Aa (Qn.repL _ _ ([x9] : List (Int × Int))) fun v9 a w F W => ?_
   obtain ⟨x10, h4, H⟩ := Al H
   refine GD (r := Gt) (i := 1) F W Aa OK Aa Aa Aa Aa (HV W 0 Aa) h4 Aa fun v10 a w F W => ?_
   have W : Stw ⟨Y, [], w0⟩ [(b3, [.int .i64 x9.1, .int .i64 x9.2]), (b1, [.int .i64 p0.1, v1, v2])] [row v10 118 Gt x10, row v9 118 Gt ([x9] : List (Int × Int))] w := W
   refine ls F W Aa (Ag F Aa).q fun a w F W => ?_
   refine Ae (AP (Ab (Ac ?_)))
   refine ls F W Aa (BL F Aa Aa Aa).q fun a w F W => ?_
   refine ls F W Aa (Ad F Aa).q fun a w F W => ?_
   refine Ae (Ab ?_)
   have W := W.frontM (i := 1) Aa Aa
   have W := W.sub (M' := [(b1, [.int .i64 p0.1, v1, v2])]) (Z' := [row v10 118 Gt x10]) (List.Sublist.cons_cons _ (List.nil_sublist _)) (List.Sublist.cons_cons _ (List.nil_sublist _))
   exact ⟨_, H, (v10), F.re ⟨rfl, Aa, Aa, Aa, Aa, trivial⟩, W⟩
  have H := AS (Bq hb) H
  rw [hb] at F
  clear hb
  refine Bh ?_
  iterate 2 refine BK ?_
  refine Bj (Ab ?_)
  have H := L4 _ H
  exact ⟨_, (v8), H, F.re ⟨rfl, Aa, trivial⟩, W⟩
 rintro a w ⟨x6, v7, hj, F, W⟩
 have hj := AX hj
 subst hj
 have H := K3
 clear G3 K3
 refine Ah (Ac ?_)
 refine ls F W Aa (Ad F Aa).q fun a w F W => ?_
 refine ls F W Aa (Ag F Aa).q fun a w F W => ?_
 refine Ae (Ab (AF ?_))
 have H := AX H
 subst H
 refine BA (.inl Aa) F W Aa (Ay F Aa) ?_
 have W := W.sub (M' := []) (Z' := [row v7 118 Gt x6]) (List.nil_sublist _) (List.Sublist.refl _)
 exact ⟨(v7), Aa, W⟩
theorem Nd : type_of% Try.underlying3 := Try.underlying3
theorem Rf : type_of% Try.underlying119 := Try.underlying119
theorem Tt : Has Try.prog 69 := ⟨fun args w => Am Try.func69 rfl (by decide) args w⟩
theorem NF : Ty Try.prog 118 true 2 := ⟨by kernel_rfl, by kernel_rfl⟩
theorem Q2 (dd : Nat) (x0 : Int) (x1 : Int) (y0 : Int) (y1 : Int) (w : World) : (Op.equalIn (dd + 2) 118 (.agg #[.int .i64 x0, .int .i64 x1]) (.agg #[.int .i64 y0, .int .i64 y1])).run Try.prog w = .ok (decide (x0 = y0 ∧ x1 = y1)) w :=
  J8 (d := dd + 1) (rs := [decide (x0 = y0), decide (x1 = y1)]) Ko (by kernel_rfl) ⟨rfl, HW (d := dd + 0) rfl rfl Nd T3 rfl rfl, rfl, HW (d := dd + 0) rfl rfl Nd T3 rfl rfl, trivial⟩ (by simp) w
theorem QT : Try.prog.eqGuardType Try.prog.depth 118 = false := by kernel_rfl
theorem QA (x0 : Int) (x1 : Int) (y0 : Int) (y1 : Int) (w : World) : (Op.equalIn 10000 118 (.agg #[.int .i64 x0, .int .i64 x1]) (.agg #[.int .i64 y0, .int .i64 y1])).run Try.prog w = .ok (decide (x0 = y0 ∧ x1 = y1)) w := Q2 9998 x0 x1 y0 y1 w
theorem Qb : KeyEnc Try.prog 118 HY := ⟨⟨_, Ko, .inl fun _ _ => rfl⟩, fun x y w => (QA x.1 x.2 y.1 y.2 w).trans (by congr 1; exact decide_eq_decide.2 (by simp only [Prod.ext_iff])), fun b x w => KB (m := 9999) (cs := List.toArray [.int .i64 x.1, .int .i64 x.2]) Ko ⟨⟨_, MH T3 rfl, Ix (m := 9998) Nd⟩, ⟨_, MH T3 rfl, Ix (m := 9998) Nd⟩, trivial⟩ b w, fun x => by simp [Instr.sameBits]⟩
theorem QS : (Try.prog.info? 119).bind (·.zero) = some (.agg #[]) := by kernel_rfl
theorem RB : Ty Try.prog 119 true 0 := ⟨by kernel_rfl, by kernel_rfl⟩
theorem RR : Bt Try.prog 119 [] [] := ⟨⟨.agg #[], by kernel_rfl, rfl⟩, ⟨_, Rf, fun w => by kernel_rfl⟩⟩
def Ci (p0 : Int × Int × Int × Int × Int × Int) : Bool := (decide (p0.1 = p0.2.2.1) || (decide (p0.2.2.2.2.1 < 1) || (decide (p0.2.2.2.2.2 < p0.2.2.2.2.1) || decide (1000 < p0.2.2.2.2.2))))
theorem J7 (Y : Nat → Prop) (w0 : World)  (p0 : Int × Int × Int × Int × Int × Int) (r : Bool) (H : Ci p0 = r)  :
    Calls Try.prog 71 #[.agg #[.int .i64 p0.1, .int .i64 p0.2.1, .int .i64 p0.2.2.1, .int .i64 p0.2.2.2.1, .int .i64 p0.2.2.2.2.1, .int .i64 p0.2.2.2.2.2]] w0 fun e w' => e = .returned (.bool r) ∧ Below w0.heap.size w0 w' := by
 refine enter Try.func71 Aa Try.ntmps71 Aa fun a F => ?_
 have W := Stw.start Y w0
 unfold Ci at H
 refine Ah (Ac ?_)
 refine E0 (cs := [.int .i64 p0.1, .int .i64 p0.2.1, .int .i64 p0.2.2.1, .int .i64 p0.2.2.2.1, .int .i64 p0.2.2.2.2.1, .int .i64 p0.2.2.2.2.2]) F W Aa Aa Aa fun b1 a w F W => ?_
 refine ls F W Aa (Ag F Aa).q fun a w F W => ?_
 refine Ae (Ab ?_)
 refine AM (fun a w => Fr 25 [] [(2, .bool (decide (p0.1 = p0.2.2.1) || (decide (p0.2.2.2.2.1 < 1) || (decide (p0.2.2.2.2.2 < p0.2.2.2.2.1) || decide (1000 < p0.2.2.2.2.2)))))] a ∧ Stw ⟨Y, [], w0⟩ [(b1, [.int .i64 p0.1, .int .i64 p0.2.1, .int .i64 p0.2.2.1, .int .i64 p0.2.2.2.1, .int .i64 p0.2.2.2.2.1, .int .i64 p0.2.2.2.2.2])] [] w) ?_ ?_
 ·
  refine Ac ?_
  refine ls F W Aa (Ak EN Aa Aa Aa T3 F Aa 0 Aa).q fun a w F W => ?_
  refine ls F W Aa (Az (v := Value.int .i64 p0.1) 0 F Aa Aa T3 Aa).q fun a w F W => ?_
  refine ls F W Aa (Ak EN Aa Aa Aa T3 F Aa 2 Aa).q fun a w F W => ?_
  refine ls F W Aa (Az (v := Value.int .i64 p0.2.2.1) 0 F Aa Aa T3 Aa).q fun a w F W => ?_
  refine ls F W Aa (Dx F Aa Aa).q fun a w F W => ?_
  refine ls F W Aa (Ad F Aa).q fun a w F W => ?_
  rcases Bool.eq_false_or_eq_true (decide (p0.1 = p0.2.2.1)) with hb0 | hb0
  ·
   rw [hb0] at F
   iterate 3 refine CX F Aa Aa Aa Aa Aa Aa Aa fun a F => ?_
   refine ls F W Aa (Aq F Aa Aa Aa).q fun a w F W => ?_
   refine ls F W Aa (Ad F Aa).q fun a w F W => ?_
   iterate 5 refine CX F Aa Aa Aa Aa Aa Aa Aa fun a F => ?_
   refine ls F W Aa (Aq F Aa Aa Aa).q fun a w F W => ?_
   refine ls F W Aa (Ad F Aa).q fun a w F W => ?_
   iterate 3 refine CX F Aa Aa Aa Aa Aa Aa Aa fun a F => ?_
   refine ls F W Aa (Aq F Aa Aa Aa).q fun a w F W => ?_
   refine ls F W Aa (Ag F Aa).q fun a w F W => ?_
   refine Ae (Ab ?_)
   exact ⟨F.re ⟨(by show some (Value.bool true) = some (Value.bool (decide (p0.1 = p0.2.2.1) || (decide (p0.2.2.2.2.1 < 1) || (decide (p0.2.2.2.2.2 < p0.2.2.2.2.1) || decide (1000 < p0.2.2.2.2.2))))); try rw [hb0]; all_goals simp only [Bool.not_true, Bool.not_false, Bool.true_and, Bool.false_and, Bool.true_or, Bool.false_or, Bool.and_true, Bool.or_false, cond_true, cond_false]), trivial⟩, W⟩
  rw [hb0] at F
  refine AL F W (Af F Aa Aa Aa Aa) Aa (Aj Aa) (Ak EN Aa Aa Aa T3 F Aa 4 Aa).q fun a w F W => ?_
  refine AL F W (Af F Aa Aa Aa Aa) Aa (Aj Aa) (Az (v := Value.int .i64 p0.2.2.2.2.1) 0 F Aa Aa T3 Aa).q fun a w F W => ?_
  refine AL F W (Af F Aa Aa Aa Aa) Aa (Aj Aa) (BM F Aa Aa).q fun a w F W => ?_
  refine ls F W Aa (AA F Aa Aa Aa).q fun a w F W => ?_
  refine ls F W Aa (Ad F Aa).q fun a w F W => ?_
  rcases Bool.eq_false_or_eq_true (decide (p0.2.2.2.2.1 < 1)) with hb1 | hb1
  ·
   rw [hb1] at F
   iterate 5 refine CX F Aa Aa Aa Aa Aa Aa Aa fun a F => ?_
   refine ls F W Aa (Aq F Aa Aa Aa).q fun a w F W => ?_
   refine ls F W Aa (Ad F Aa).q fun a w F W => ?_
   iterate 3 refine CX F Aa Aa Aa Aa Aa Aa Aa fun a F => ?_
   refine ls F W Aa (Aq F Aa Aa Aa).q fun a w F W => ?_
   refine ls F W Aa (Ag F Aa).q fun a w F W => ?_
   refine Ae (Ab ?_)
   exact ⟨F.re ⟨(by show some (Value.bool true) = some (Value.bool (decide (p0.1 = p0.2.2.1) || (decide (p0.2.2.2.2.1 < 1) || (decide (p0.2.2.2.2.2 < p0.2.2.2.2.1) || decide (1000 < p0.2.2.2.2.2))))); try rw [hb1]; try rw [hb0]; all_goals simp only [Bool.not_true, Bool.not_false, Bool.true_and, Bool.false_and, Bool.true_or, Bool.false_or, Bool.and_true, Bool.or_false, cond_true, cond_false]), trivial⟩, W⟩
  rw [hb1] at F
  refine AL F W (Af F Aa Aa Aa Aa) Aa (Aj Aa) (Ak EN Aa Aa Aa T3 F Aa 5 Aa).q fun a w F W => ?_
  refine AL F W (Af F Aa Aa Aa Aa) Aa (Aj Aa) (Az (v := Value.int .i64 p0.2.2.2.2.2) 0 F Aa Aa T3 Aa).q fun a w F W => ?_
  refine AL F W (Af F Aa Aa Aa Aa) Aa (Aj Aa) (Ak EN Aa Aa Aa T3 F Aa 4 Aa).q fun a w F W => ?_
  refine AL F W (Af F Aa Aa Aa Aa) Aa (Aj Aa) (Az (v := Value.int .i64 p0.2.2.2.2.1) 0 F Aa Aa T3 Aa).q fun a w F W => ?_
  refine AL F W (Af F Aa Aa Aa Aa) Aa (Aj Aa) (BM F Aa Aa).q fun a w F W => ?_
  refine ls F W Aa (AA F Aa Aa Aa).q fun a w F W => ?_
  refine ls F W Aa (Ad F Aa).q fun a w F W => ?_
  rcases Bool.eq_false_or_eq_true (decide (p0.2.2.2.2.2 < p0.2.2.2.2.1)) with hb2 | hb2
  ·
   rw [hb2] at F
   iterate 3 refine CX F Aa Aa Aa Aa Aa Aa Aa fun a F => ?_
   refine ls F W Aa (Aq F Aa Aa Aa).q fun a w F W => ?_
   refine ls F W Aa (Ag F Aa).q fun a w F W => ?_
   refine Ae (Ab ?_)
   exact ⟨F.re ⟨(by show some (Value.bool true) = some (Value.bool (decide (p0.1 = p0.2.2.1) || (decide (p0.2.2.2.2.1 < 1) || (decide (p0.2.2.2.2.2 < p0.2.2.2.2.1) || decide (1000 < p0.2.2.2.2.2))))); try rw [hb2]; try rw [hb1]; try rw [hb0]; all_goals simp only [Bool.not_true, Bool.not_false, Bool.true_and, Bool.false_and, Bool.true_or, Bool.false_or, Bool.and_true, Bool.or_false, cond_true, cond_false]), trivial⟩, W⟩
  rw [hb2] at F
  refine AL F W (Af F Aa Aa Aa Aa) Aa (Aj Aa) (Ak EN Aa Aa Aa T3 F Aa 5 Aa).q fun a w F W => ?_
  refine AL F W (Af F Aa Aa Aa Aa) Aa (Aj Aa) (Az (v := Value.int .i64 p0.2.2.2.2.2) 0 F Aa Aa T3 Aa).q fun a w F W => ?_
  refine AL F W (Af F Aa Aa Aa Aa) Aa (Aj Aa) (Gf F Aa Aa).q fun a w F W => ?_
  refine ls F W Aa (AA F Aa Aa Aa).q fun a w F W => ?_
  refine ls F W Aa (Ag F Aa).q fun a w F W => ?_
  refine Ae (Ab ?_)
  exact ⟨F.re ⟨(by show some (Value.bool (decide (1000 < p0.2.2.2.2.2))) = some (Value.bool (decide (p0.1 = p0.2.2.1) || (decide (p0.2.2.2.2.1 < 1) || (decide (p0.2.2.2.2.2 < p0.2.2.2.2.1) || decide (1000 < p0.2.2.2.2.2))))); try rw [hb2]; try rw [hb1]; try rw [hb0]; all_goals simp only [Bool.not_true, Bool.not_false, Bool.true_and, Bool.false_and, Bool.true_or, Bool.false_or, Bool.and_true, Bool.or_false, cond_true, cond_false]), trivial⟩, W⟩
 rintro a w ⟨F, W⟩
 refine AF ?_
 subst H
 refine BA (.inl Aa) F W Aa (Ay F Aa) ?_
 exact ⟨rfl, W.done⟩
theorem ST : Has Try.prog 71 := ⟨fun args w => Am Try.func71 rfl (by decide) args w⟩
noncomputable def A2 (p0 : List (Int × Int × Int × Int × Int × Int)) : Int → Option (Int ⊕ (Unit ⊕ Int))
  | x1 => (if x1 < (p0.length : Int) then (ix p0 x1).bind fun x2 => (if (Ci x2) = true then some (.inr (.inr x1)) else some (.inl (AC (x1 + 1)))) else some (.inr (.inl ())))
noncomputable def BW (p0 : List (Int × Int × Int × Int × Int × Int)) : Option Int := FN (AO (A2 p0) 0) fun _ => some (-1)
theorem FY (Y : Nat → Prop) (w0 : World) (v1 : Value) (p0 : List (Int × Int × Int × Int × Int × Int)) (r : Int) (H : BW p0 = some r) (h_v1 : Sl w0 (NX []) Hu v1 p0) :
    Calls Try.prog 83 #[v1, .func (.func 71) #[] #[]] w0 fun e w' => e = .returned (.int .i64 r) ∧ Below w0.heap.size w0 w' := by
 refine enter Try.func83 Aa Try.ntmps83 Aa fun a F => ?_
 have W := Stw.start Y w0
 unfold BW at H
 refine Ah (Ac ?_)
 refine ls F W Aa (Ag F Aa).q fun a w F W => ?_
 refine Ae (Ab ?_)
 obtain ⟨o1, G1, K1, L1⟩ := Jq H
 refine AM (fun a w => some (Sum.inl ()) = some o1 ∧ Fr 19 [] [(4, .int .i64 0)] a ∧ Stw ⟨Y, [], w0⟩ [] [] w) ?_ ?_
 ·
  have H := G1
  clear G1 K1
  refine Ah (Ac ?_)
  refine ls F W Aa (Ad F Aa).q fun a w F W => ?_
  refine ls F W Aa (B0 (r := Hu) (l := p0) LC Aa F Aa (Ao h_v1)).q fun a w F W => ?_
  refine ls F W Aa (Ad F Aa).q fun a w F W => ?_
  refine Ae (Ab (Av ?_))
  refine Bk H (fun s a w => Fr 19 [] [(0, v1), (1, .func (.func 71) #[] #[]), (4, .int .i64 0), (7, .int .i64 (p0.length : Int)), (8, .int .i64 s)] a ∧ Stw ⟨Y, [], w0⟩ [] [] w) ⟨F.re ⟨rfl, Aa, Aa, Aa, Aa, trivial⟩, W⟩ fun s o a w H L2 hR => ?_
  obtain ⟨x1, rfl⟩ : ∃ x, x = s := ⟨s, rfl⟩
  obtain ⟨F, W⟩ := hR
  have F : Fr 19 [] [(0, v1), (1, .func (.func 71) #[] #[]), (4, .int .i64 0), (7, .int .i64 (p0.length : Int)), (8, .int .i64 x1)] a := F
  have W : Stw ⟨Y, [], w0⟩ [] [] w := W
  rw [A2] at H
  refine Ah (Ac ?_)
  refine ls F W Aa (BM F Aa Aa).q fun a w F W => ?_
  refine Ae (Ab (Ah ?_))
  refine AB F Aa (fun hb => ?_) fun hb => ?_
  ·
   have H := AR (Br hb) H
   rw [hb] at F
   clear hb
   refine Au (Ab (Ah (Av (Ah (Ac ?_)))))
   refine ls F W Aa (Ad F Aa).q fun a w F W => ?_
   refine ls F W Aa (Ag F Aa).q fun a w F W => ?_
   refine Ae (Ab (Ah (Ac ?_)))
   iterate 3 refine ls F W Aa (Ad F Aa).q fun a w F W => ?_
   obtain ⟨x2, h1, H⟩ := Al H
   refine ls F W Aa (Ax (r := Hu) QI F Aa Aa (Ao h_v1) h1).q fun a w F W => ?_
   refine ls F W Aa (Ap (y := Value.agg #[.int .i64 x2.1, .int .i64 x2.2.1, .int .i64 x2.2.2.1, .int .i64 x2.2.2.2.1, .int .i64 x2.2.2.2.2.1, .int .i64 x2.2.2.2.2.2]) (j := 0) (i := x1) F Aa Aa (Ao h_v1) h1 Qq.to OH Aa).q fun a w F W => ?_
   refine ls F W Aa (EG (ws := [.agg #[.int .i64 x2.1, .int .i64 x2.2.1, .int .i64 x2.2.2.1, .int .i64 x2.2.2.2.1, .int .i64 x2.2.2.2.2.1, .int .i64 x2.2.2.2.2.2]]) (v := Value.bool (Ci x2)) F ST Aa (fun w W => J7 any w x2 _ Aa)) fun a w F W => ?_
   refine Ae (Ab ?_)
   refine AB F Aa (fun hb => ?_) fun hb => ?_
   ·
    have H := AR hb H
    rw [hb] at F
    clear hb
    refine Ah (Ac ?_)
    refine ls F W Aa (Ad F Aa).q fun a w F W => ?_
    refine ls F W Aa (Ag F Aa).q fun a w F W => ?_
    refine Ae (Ab (AF (AU ?_)))
    iterate 2 refine AK ?_
    refine AU (AK ?_)
    have H := L2 _ H
    have H := L1 _ H
    have H := AX H
    subst H
    refine BA (.inl Aa) F W Aa (Ay F Aa) ?_
    exact ⟨rfl, W.done⟩
   have H := AS (by rw [hb]; decide) H
   rw [hb] at F
   clear hb
   refine Au (AP (Ab (Ac ?_)))
   refine ls F W Aa (BL F Aa Aa Aa).q fun a w F W => ?_
   refine ls F W Aa (Ad F Aa).q fun a w F W => ?_
   refine Ae (Ab ?_)
   exact ⟨_, H, F.re ⟨rfl, Aa, Aa, Aa, Aa, trivial⟩, W⟩
  have H := AS (Bq hb) H
  rw [hb] at F
  clear hb
  refine Bh ?_
  iterate 2 refine BK ?_
  refine Bj (Ab ?_)
  have H := L2 _ H
  exact ⟨H, F.re ⟨rfl, trivial⟩, W⟩
 rintro a w ⟨hj, F, W⟩
 have H := K1 _ hj
 clear hj G1 K1 L1
 refine Ah (Ac ?_)
 refine ls F W Aa (Ag F Aa).q fun a w F W => ?_
 refine Ae (Ab (AF ?_))
 have H := AX H
 subst H
 refine BA (.inl Aa) F W Aa (Ay F Aa) ?_
 exact ⟨rfl, W.done⟩
theorem Te : Has Try.prog 83 := ⟨fun args w => Am Try.func83 rfl (by decide) args w⟩
noncomputable def BF (p0 : List (Int × Int × Int × Int × Int × Int)) : Option Bool := (BW p0).bind fun x1 => some (decide (0 ≤ x1))
theorem Fp (Y : Nat → Prop) (w0 : World) (v1 : Value) (p0 : List (Int × Int × Int × Int × Int × Int)) (r : Bool) (H : BF p0 = some r) (h_v1 : Sl w0 (NX []) Hu v1 p0) :
    Calls Try.prog 70 #[v1, .func (.func 71) #[] #[]] w0 fun e w' => e = .returned (.bool r) ∧ Below w0.heap.size w0 w' := by
 refine enter Try.func70 Aa Try.ntmps70 Aa fun a F => ?_
 have W := Stw.start Y w0
 unfold BF at H
 refine Ah (Ac ?_)
 refine ls F W Aa (Ag F Aa).q fun a w F W => ?_
 refine Ae (Ab (Ah (Ac ?_)))
 iterate 2 refine ls F W Aa (Ad F Aa).q fun a w F W => ?_
 obtain ⟨x1, h1, H⟩ := Al H
 refine ls F W Aa (BV (v := Value.int .i64 x1) F Te Aa (fun w W => FY any w (v1) p0 _ h1 (((Ao h_v1) : Ec _ _ _ _ _ _) w W).nx)) fun a w F W => ?_
 refine ls F W Aa (DL F Aa Aa).q fun a w F W => ?_
 refine ls F W Aa (Ag F Aa).q fun a w F W => ?_
 refine Ae (Ab (AF ?_))
 have H := AX H
 subst H
 refine BA (.inl Aa) F W Aa (Ay F Aa) ?_
 exact ⟨rfl, W.done⟩
theorem Qd : type_of% Try.underlying114 := Try.underlying114
theorem SC : Has Try.prog 70 := ⟨fun args w => Am Try.func70 rfl (by decide) args w⟩
noncomputable def Da (p0 : Int × (List (Int × Int × Int × Int × Int × Int)) × (List (Int × Int))) (x2 : (List (Int × Int))) : (Int × (List ((Int × Int) × Unit))) → Option ((Int × (List ((Int × Int) × Unit))) ⊕ ((List ((Int × Int) × Unit)) ⊕ Bool))
  | (x3, x4) => (if x3 < (x2.length : Int) then (ix x2 x3).bind fun x5 => (if (decide (x5.1 < 0) || (decide (p0.1 ≤ x5.1) || (decide (x5.2 < 0) || decide (8 ≤ x5.2)))) = true then some (.inr (.inr false)) else (if ((Kb x4 x5).isSome) = true then some (.inr (.inr false)) else some (.inl (AC (x3 + 1), J6 x4 x5 ())))) else some (.inr (.inl x4)))
noncomputable def F8 (p0 : Int × (List (Int × Int × Int × Int × Int × Int)) × (List (Int × Int))) : Option Bool := (if (decide (p0.1 < 1) || (decide (8 < p0.1) || (decide (24 < (p0.2.1.length : Int)) || decide (8 < (p0.2.2.length : Int))))) = true then some false else FN ((FF p0).bind fun x2 => AO (Da p0 x2) (0, ([] : List ((Int × Int) × Unit)))) fun x1 => (BF p0.2.1).bind fun x6 => some (!x6))
theorem Mk (Y : Nat → Prop) (w0 : World) (v1 : Value) (v2 : Value) (p0 : Int × (List (Int × Int × Int × Int × Int × Int)) × (List (Int × Int))) (r : Bool) (H : F8 p0 = some r) (h_v1 : Sl w0 (NX []) Hu v1 p0.2.1) (h_v2 : Sl w0 (NX []) GH v2 p0.2.2) :
    Calls Try.prog 45 #[.agg #[.int .i64 p0.1, v1, v2]] w0 fun e w' => e = .returned (.bool r) ∧ Below w0.heap.size w0 w' := by
 refine enter Try.func45 Aa Try.ntmps45 Aa fun a F => ?_
 have W := Stw.start Y w0
 unfold F8 at H
 refine Ah (Ac ?_)
 refine E0 (cs := [.int .i64 p0.1, v1, v2]) F W Aa Aa Aa fun b1 a w F W => ?_
 refine ls F W Aa (Ag F Aa).q fun a w F W => ?_
 refine Ae (Ab (Ah ?_))
 refine AM (fun a w => Fr 71 [] [(1, .pointer (some ⟨b1, 0, none⟩)), (2, .bool false), (27, .bool (decide (p0.1 < 1) || (decide (8 < p0.1) || (decide (24 < (p0.2.1.length : Int)) || decide (8 < (p0.2.2.length : Int))))))] a ∧ Stw ⟨Y, [], w0⟩ [(b1, [.int .i64 p0.1, v1, v2])] [] w) ?_ ?_
 ·
  refine Ac ?_
  refine ls F W Aa (Ak Ek Aa Aa Aa T3 F Aa 0 Aa).q fun a w F W => ?_
  refine ls F W Aa (Az (v := Value.int .i64 p0.1) 0 F Aa Aa T3 Aa).q fun a w F W => ?_
  refine ls F W Aa (BM F Aa Aa).q fun a w F W => ?_
  refine ls F W Aa (Ad F Aa).q fun a w F W => ?_
  rcases Bool.eq_false_or_eq_true (decide (p0.1 < 1)) with hb0 | hb0
  ·
   rw [hb0] at F
   iterate 3 refine CX F Aa Aa Aa Aa Aa Aa Aa fun a F => ?_
   refine ls F W Aa (Aq F Aa Aa Aa).q fun a w F W => ?_
   refine ls F W Aa (Ad F Aa).q fun a w F W => ?_
   iterate 4 refine CX F Aa Aa Aa Aa Aa Aa Aa fun a F => ?_
   refine ls F W Aa (Aq F Aa Aa Aa).q fun a w F W => ?_
   refine ls F W Aa (Ad F Aa).q fun a w F W => ?_
   iterate 4 refine CX F Aa Aa Aa Aa Aa Aa Aa fun a F => ?_
   refine ls F W Aa (Aq F Aa Aa Aa).q fun a w F W => ?_
   refine Ae (Ab ?_)
   exact ⟨F.re ⟨rfl, Aa, (by show some (Value.bool true) = some (Value.bool (decide (p0.1 < 1) || (decide (8 < p0.1) || (decide (24 < (p0.2.1.length : Int)) || decide (8 < (p0.2.2.length : Int)))))); try rw [hb0]; all_goals simp only [Bool.not_true, Bool.not_false, Bool.true_and, Bool.false_and, Bool.true_or, Bool.false_or, Bool.and_true, Bool.or_false, cond_true, cond_false]), trivial⟩, W⟩
  rw [hb0] at F
  refine AL F W (Af F Aa Aa Aa Aa) Aa (Aj Aa) (Ak Ek Aa Aa Aa T3 F Aa 0 Aa).q fun a w F W => ?_
  refine AL F W (Af F Aa Aa Aa Aa) Aa (Aj Aa) (Az (v := Value.int .i64 p0.1) 0 F Aa Aa T3 Aa).q fun a w F W => ?_
  refine AL F W (Af F Aa Aa Aa Aa) Aa (Aj Aa) (Gf F Aa Aa).q fun a w F W => ?_
  refine ls F W Aa (AA F Aa Aa Aa).q fun a w F W => ?_
  refine ls F W Aa (Ad F Aa).q fun a w F W => ?_
  rcases Bool.eq_false_or_eq_true (decide (8 < p0.1)) with hb1 | hb1
  ·
   rw [hb1] at F
   iterate 4 refine CX F Aa Aa Aa Aa Aa Aa Aa fun a F => ?_
   refine ls F W Aa (Aq F Aa Aa Aa).q fun a w F W => ?_
   refine ls F W Aa (Ad F Aa).q fun a w F W => ?_
   iterate 4 refine CX F Aa Aa Aa Aa Aa Aa Aa fun a F => ?_
   refine ls F W Aa (Aq F Aa Aa Aa).q fun a w F W => ?_
   refine Ae (Ab ?_)
   exact ⟨F.re ⟨rfl, Aa, (by show some (Value.bool true) = some (Value.bool (decide (p0.1 < 1) || (decide (8 < p0.1) || (decide (24 < (p0.2.1.length : Int)) || decide (8 < (p0.2.2.length : Int)))))); try rw [hb0]; try rw [hb1]; all_goals simp only [Bool.not_true, Bool.not_false, Bool.true_and, Bool.false_and, Bool.true_or, Bool.false_or, Bool.and_true, Bool.or_false, cond_true, cond_false]), trivial⟩, W⟩
  rw [hb1] at F
  refine AL F W (Af F Aa Aa Aa Aa) Aa (Aj Aa) (Ak Ek Aa Aa Aa KJ F Aa 1 Aa).q fun a w F W => ?_
  refine AL F W (Af F Aa Aa Aa Aa) Aa (Aj Aa) (Az (v := v1) 0 F Aa Aa KJ Aa).q fun a w F W => ?_
  refine AL F W (Af F Aa Aa Aa Aa) Aa (Aj Aa) (B0 (r := Hu) (l := p0.2.1) LC Aa F Aa (Ao h_v1)).q fun a w F W => ?_
  refine AL F W (Af F Aa Aa Aa Aa) Aa (Aj Aa) (Gf F Aa Aa).q fun a w F W => ?_
  refine ls F W Aa (AA F Aa Aa Aa).q fun a w F W => ?_
  refine ls F W Aa (Ad F Aa).q fun a w F W => ?_
  rcases Bool.eq_false_or_eq_true (decide (24 < (p0.2.1.length : Int))) with hb2 | hb2
  ·
   rw [hb2] at F
   iterate 4 refine CX F Aa Aa Aa Aa Aa Aa Aa fun a F => ?_
   refine ls F W Aa (Aq F Aa Aa Aa).q fun a w F W => ?_
   refine Ae (Ab ?_)
   exact ⟨F.re ⟨rfl, Aa, (by show some (Value.bool true) = some (Value.bool (decide (p0.1 < 1) || (decide (8 < p0.1) || (decide (24 < (p0.2.1.length : Int)) || decide (8 < (p0.2.2.length : Int)))))); try rw [hb2]; try rw [hb0]; try rw [hb1]; all_goals simp only [Bool.not_true, Bool.not_false, Bool.true_and, Bool.false_and, Bool.true_or, Bool.false_or, Bool.and_true, Bool.or_false, cond_true, cond_false]), trivial⟩, W⟩
  rw [hb2] at F
  refine AL F W (Af F Aa Aa Aa Aa) Aa (Aj Aa) (Ak Ek Aa Aa Aa Iv F Aa 2 Aa).q fun a w F W => ?_
  refine AL F W (Af F Aa Aa Aa Aa) Aa (Aj Aa) (Az (v := v2) 0 F Aa Aa Iv Aa).q fun a w F W => ?_
  refine AL F W (Af F Aa Aa Aa Aa) Aa (Aj Aa) (B0 (r := GH) (l := p0.2.2) Jy Aa F Aa (Ao h_v2)).q fun a w F W => ?_
  refine AL F W (Af F Aa Aa Aa Aa) Aa (Aj Aa) (Gf F Aa Aa).q fun a w F W => ?_
  refine ls F W Aa (AA F Aa Aa Aa).q fun a w F W => ?_
  refine Ae (Ab ?_)
  exact ⟨F.re ⟨rfl, Aa, (by show some (Value.bool (decide (8 < (p0.2.2.length : Int)))) = some (Value.bool (decide (p0.1 < 1) || (decide (8 < p0.1) || (decide (24 < (p0.2.1.length : Int)) || decide (8 < (p0.2.2.length : Int)))))); try rw [hb2]; try rw [hb0]; try rw [hb1]; all_goals simp only [Bool.not_true, Bool.not_false, Bool.true_and, Bool.false_and, Bool.true_or, Bool.false_or, Bool.and_true, Bool.or_false, cond_true, cond_false]), trivial⟩, W⟩
 rintro a w ⟨F, W⟩
 refine AB F Aa (fun hb => ?_) fun hb => ?_
 ·
  have H := AR hb H
  rw [hb] at F
  clear hb
  refine Ah (Ac ?_)
  refine ls F W Aa (Ag F Aa).q fun a w F W => ?_
  refine Ae (Ab (AF (AK ?_)))
  have H := AX H
  subst H
  refine BA (.inl Aa) F W Aa (Ay F Aa) ?_
  exact ⟨rfl, W.done⟩
 have H := AS (by rw [hb]; decide) H
 rw [hb] at F
 clear hb
 refine Au (Ab (Ah (Ac ?_)))
 refine Oy HY Ik F W Aa fun b2 a w F W => ?_
 have W : Stw ⟨Y, [], w0⟩ [(b1, [.int .i64 p0.1, v1, v2])] [mp b2 HY Ik ([] : List ((Int × Int) × Unit))] w := W
 refine ls F W Aa (Ag F Aa).q fun a w F W => ?_
 refine Ae (Ab ?_)
 obtain ⟨o1, G1, K1, L1⟩ := Jq H
 refine AM (fun a w => ∃ x1 : List ((Int × Int) × Unit), some (Sum.inl x1) = some o1 ∧ Fr 71 [] [(1, .pointer (some ⟨b1, 0, none⟩)), (2, .bool false)] a ∧ Stw ⟨Y, [], w0⟩ [(b1, [.int .i64 p0.1, v1, v2])] [mp b2 HY Ik x1] w) ?_ ?_
 ·
  have H := G1
  clear G1 K1
  refine Ah (Ac ?_)
  refine ls F W Aa (Az (v := Value.agg #[.int .i64 p0.1, v1, v2]) 0 F Aa Aa JB Aa).q fun a w F W => ?_
  obtain ⟨x2, h1, H⟩ := Al H
  refine BZ (Ml := []) (Zl := []) (M := [(b1, [.int .i64 p0.1, v1, v2])]) (Z := [mp b2 HY Ik ([] : List ((Int × Int) × Unit))]) (β := Value) (rv := fun x => x) (MM := fun x => []) (ZZ := fun x => [row x 118 Gt x2]) F W Tt Aa Aa (fun hL => LD _ w (v1) (v2) p0 _ h1 ((Ao h_v1) w W).nx ((Ao h_v2) w W).nx) fun x a w F W => ?_
  obtain ⟨v3, rfl⟩ : ∃ y, y = x := ⟨x, rfl⟩
  have W : Stw ⟨Y, [], w0⟩ [(b1, [.int .i64 p0.1, v1, v2])] [row v3 118 Gt x2, mp b2 HY Ik ([] : List ((Int × Int) × Unit))] w := W
  refine ls F W Aa (B0 (r := Gt) (l := x2) Qh Aa F Aa (An 0 Aa)).q fun a w F W => ?_
  refine ls F W Aa (Ad F Aa).q fun a w F W => ?_
  refine Ae (Ab (Av ?_))
  have W := W.frontZ (i := 1) Aa Aa
  have W := W.frontZ (i := 1) Aa Aa
  refine Bk H (fun s a w => Fr 71 [] [(1, .pointer (some ⟨b1, 0, none⟩)), (2, .bool false), (3, .map (some b2)), (30, v3), (31, .int .i64 (x2.length : Int)), (32, .int .i64 s.1)] a ∧ Stw ⟨Y, [], w0⟩ [(b1, [.int .i64 p0.1, v1, v2])] [row v3 118 Gt x2, mp b2 HY Ik s.2] w) ⟨F.re ⟨rfl, Aa, Aa, Aa, Aa, Aa, trivial⟩, W⟩ fun s o a w H L2 hR => ?_
  obtain ⟨x3, x4⟩ := s
  obtain ⟨F, W⟩ := hR
  have F : Fr 71 [] [(1, .pointer (some ⟨b1, 0, none⟩)), (2, .bool false), (3, .map (some b2)), (30, v3), (31, .int .i64 (x2.length : Int)), (32, .int .i64 x3)] a := F
  have W : Stw ⟨Y, [], w0⟩ [(b1, [.int .i64 p0.1, v1, v2])] [row v3 118 Gt x2, mp b2 HY Ik x4] w := W
  rw [Da] at H
  refine Ah (Ac ?_)
  refine ls F W Aa (BM F Aa Aa).q fun a w F W => ?_
  refine Ae (Ab (Ah ?_))
  refine AB F Aa (fun hb => ?_) fun hb => ?_
  ·
   have H := AR (Br hb) H
   rw [hb] at F
   clear hb
   refine Au (Ab (Ah (Av (Ah (Ac ?_)))))
   obtain ⟨x5, h2, H⟩ := Al H
   refine ls F W Aa (Ax (r := Gt) OK F Aa Aa (An 0 Aa) h2).q fun a w F W => ?_
   refine ls F W Aa (Ap (y := Value.agg #[.int .i64 x5.1, .int .i64 x5.2]) (j := 0) (i := x3) F Aa Aa (An 0 Aa) h2 Qn.to NF Aa).q fun a w F W => ?_
   refine DZ (cs := [.int .i64 0, .int .i64 0]) F W Aa P4 Aa fun b3 a w F W => ?_
   refine Dk (vs := [.int .i64 x5.1, .int .i64 x5.2]) (M' := [(b3, [.int .i64 x5.1, .int .i64 x5.2]), (b1, [.int .i64 p0.1, v1, v2])]) 0 F W Aa Aa Aa NF Aa Aa Aa Aa Aa fun w W => ?_
   refine Ae (Ab (Ah ?_))
   refine AM (fun a w => Fr 71 [] [(1, .pointer (some ⟨b1, 0, none⟩)), (2, .bool false), (3, .map (some b2)), (5, .pointer (some ⟨b3, 0, none⟩)), (30, v3), (31, .int .i64 (x2.length : Int)), (32, .int .i64 x3), (55, .bool (decide (x5.1 < 0) || (decide (p0.1 ≤ x5.1) || (decide (x5.2 < 0) || decide (8 ≤ x5.2)))))] a ∧ Stw ⟨Y, [], w0⟩ [(b3, [.int .i64 x5.1, .int .i64 x5.2]), (b1, [.int .i64 p0.1, v1, v2])] [row v3 118 Gt x2, mp b2 HY Ik x4] w) ?_ ?_
   ·
    refine Ac ?_
    refine ls F W Aa (Ak Ko Aa Aa Aa T3 F Aa 0 Aa).q fun a w F W => ?_
    refine ls F W Aa (Az (v := Value.int .i64 x5.1) 0 F Aa Aa T3 Aa).q fun a w F W => ?_
    refine ls F W Aa (BM F Aa Aa).q fun a w F W => ?_
    refine ls F W Aa (Ad F Aa).q fun a w F W => ?_
    rcases Bool.eq_false_or_eq_true (decide (x5.1 < 0)) with hb0 | hb0
    ·
     rw [hb0] at F
     iterate 5 refine CX F Aa Aa Aa Aa Aa Aa Aa fun a F => ?_
     refine ls F W Aa (Aq F Aa Aa Aa).q fun a w F W => ?_
     refine ls F W Aa (Ad F Aa).q fun a w F W => ?_
     iterate 3 refine CX F Aa Aa Aa Aa Aa Aa Aa fun a F => ?_
     refine ls F W Aa (Aq F Aa Aa Aa).q fun a w F W => ?_
     refine ls F W Aa (Ad F Aa).q fun a w F W => ?_
     iterate 3 refine CX F Aa Aa Aa Aa Aa Aa Aa fun a F => ?_
     refine ls F W Aa (Aq F Aa Aa Aa).q fun a w F W => ?_
     refine Ae (Ab ?_)
     exact ⟨F.re ⟨rfl, Aa, Aa, Aa, Aa, Aa, Aa, (by show some (Value.bool true) = some (Value.bool (decide (x5.1 < 0) || (decide (p0.1 ≤ x5.1) || (decide (x5.2 < 0) || decide (8 ≤ x5.2))))); try rw [hb0]; all_goals simp only [Bool.not_true, Bool.not_false, Bool.true_and, Bool.false_and, Bool.true_or, Bool.false_or, Bool.and_true, Bool.or_false, cond_true, cond_false]), trivial⟩, W⟩
    rw [hb0] at F
    refine AL F W (Af F Aa Aa Aa Aa) Aa (Aj Aa) (Ak Ko Aa Aa Aa T3 F Aa 0 Aa).q fun a w F W => ?_
    refine AL F W (Af F Aa Aa Aa Aa) Aa (Aj Aa) (Az (v := Value.int .i64 x5.1) 0 F Aa Aa T3 Aa).q fun a w F W => ?_
    refine AL F W (Af F Aa Aa Aa Aa) Aa (Aj Aa) (Ak Ek Aa Aa Aa T3 F Aa 0 Aa).q fun a w F W => ?_
    refine AL F W (Af F Aa Aa Aa Aa) Aa (Aj Aa) (Az (v := Value.int .i64 p0.1) 1 F Aa Aa T3 Aa).q fun a w F W => ?_
    refine AL F W (Af F Aa Aa Aa Aa) Aa (Aj Aa) (DL F Aa Aa).q fun a w F W => ?_
    refine ls F W Aa (AA F Aa Aa Aa).q fun a w F W => ?_
    refine ls F W Aa (Ad F Aa).q fun a w F W => ?_
    rcases Bool.eq_false_or_eq_true (decide (p0.1 ≤ x5.1)) with hb1 | hb1
    ·
     rw [hb1] at F
     iterate 3 refine CX F Aa Aa Aa Aa Aa Aa Aa fun a F => ?_
     refine ls F W Aa (Aq F Aa Aa Aa).q fun a w F W => ?_
     refine ls F W Aa (Ad F Aa).q fun a w F W => ?_
     iterate 3 refine CX F Aa Aa Aa Aa Aa Aa Aa fun a F => ?_
     refine ls F W Aa (Aq F Aa Aa Aa).q fun a w F W => ?_
     refine Ae (Ab ?_)
     exact ⟨F.re ⟨rfl, Aa, Aa, Aa, Aa, Aa, Aa, (by show some (Value.bool true) = some (Value.bool (decide (x5.1 < 0) || (decide (p0.1 ≤ x5.1) || (decide (x5.2 < 0) || decide (8 ≤ x5.2))))); try rw [hb1]; try rw [hb0]; all_goals simp only [Bool.not_true, Bool.not_false, Bool.true_and, Bool.false_and, Bool.true_or, Bool.false_or, Bool.and_true, Bool.or_false, cond_true, cond_false]), trivial⟩, W⟩
    rw [hb1] at F
    refine AL F W (Af F Aa Aa Aa Aa) Aa (Aj Aa) (Ak Ko Aa Aa Aa T3 F Aa 1 Aa).q fun a w F W => ?_
    refine AL F W (Af F Aa Aa Aa Aa) Aa (Aj Aa) (Az (v := Value.int .i64 x5.2) 0 F Aa Aa T3 Aa).q fun a w F W => ?_
    refine AL F W (Af F Aa Aa Aa Aa) Aa (Aj Aa) (BM F Aa Aa).q fun a w F W => ?_
    refine ls F W Aa (AA F Aa Aa Aa).q fun a w F W => ?_
    refine ls F W Aa (Ad F Aa).q fun a w F W => ?_
    rcases Bool.eq_false_or_eq_true (decide (x5.2 < 0)) with hb2 | hb2
    ·
     rw [hb2] at F
     iterate 3 refine CX F Aa Aa Aa Aa Aa Aa Aa fun a F => ?_
     refine ls F W Aa (Aq F Aa Aa Aa).q fun a w F W => ?_
     refine Ae (Ab ?_)
     exact ⟨F.re ⟨rfl, Aa, Aa, Aa, Aa, Aa, Aa, (by show some (Value.bool true) = some (Value.bool (decide (x5.1 < 0) || (decide (p0.1 ≤ x5.1) || (decide (x5.2 < 0) || decide (8 ≤ x5.2))))); try rw [hb1]; try rw [hb0]; try rw [hb2]; all_goals simp only [Bool.not_true, Bool.not_false, Bool.true_and, Bool.false_and, Bool.true_or, Bool.false_or, Bool.and_true, Bool.or_false, cond_true, cond_false]), trivial⟩, W⟩
    rw [hb2] at F
    refine AL F W (Af F Aa Aa Aa Aa) Aa (Aj Aa) (Ak Ko Aa Aa Aa T3 F Aa 1 Aa).q fun a w F W => ?_
    refine AL F W (Af F Aa Aa Aa Aa) Aa (Aj Aa) (Az (v := Value.int .i64 x5.2) 0 F Aa Aa T3 Aa).q fun a w F W => ?_
    refine AL F W (Af F Aa Aa Aa Aa) Aa (Aj Aa) (DL F Aa Aa).q fun a w F W => ?_
    refine ls F W Aa (AA F Aa Aa Aa).q fun a w F W => ?_
    refine Ae (Ab ?_)
    exact ⟨F.re ⟨rfl, Aa, Aa, Aa, Aa, Aa, Aa, (by show some (Value.bool (decide (8 ≤ x5.2))) = some (Value.bool (decide (x5.1 < 0) || (decide (p0.1 ≤ x5.1) || (decide (x5.2 < 0) || decide (8 ≤ x5.2))))); try rw [hb1]; try rw [hb0]; try rw [hb2]; all_goals simp only [Bool.not_true, Bool.not_false, Bool.true_and, Bool.false_and, Bool.true_or, Bool.false_or, Bool.and_true, Bool.or_false, cond_true, cond_false]), trivial⟩, W⟩
   rintro a w ⟨F, W⟩
   refine AB F Aa (fun hb => ?_) fun hb => ?_
   ·
    have H := AR hb H
    rw [hb] at F
    clear hb
    refine Ah (Ac ?_)
    refine ls F W Aa (Ag F Aa).q fun a w F W => ?_
    refine Ae (Ab (AF (AK (AU ?_))))
    iterate 2 refine AK ?_
    refine AU (AK ?_)
    have H := L2 _ H
    have H := L1 _ H
    have H := AX H
    subst H
    refine BA (.inl Aa) F W Aa (Ay F Aa) ?_
    exact ⟨rfl, W.done⟩
   have H := AS (by rw [hb]; decide) H
   rw [hb] at F
   clear hb
   refine Au (Ab (Ah (Ah (Ac ?_))))
   refine ls F W Aa (Ad F Aa).q fun a w F W => ?_
   refine ls F W Aa (Az (v := Value.agg #[.int .i64 x5.1, .int .i64 x5.2]) 0 F Aa Aa NF Aa).q fun a w F W => ?_
   refine ls F W Aa (On (zv := (() : Unit)) (kx := (x5 : Int × Int)) (q := 1) (E := HY) (V := Ik) F Aa Aa Aa Qb Qd QS).q fun a w F W => ?_
   refine ls F W Aa (Ad F Aa).q fun a w F W => ?_
   refine ls F W Aa (BI (v := Value.agg #[]) F Aa Aa).q fun a w F W => ?_
   refine ls F W Aa (BI (v := Value.bool ((Kb x4 x5).isSome)) F Aa Aa).q fun a w F W => ?_
   refine DZ (cs := []) F W Aa QS Aa fun b4 a w F W => ?_
   refine Dk (vs := []) (M' := [(b4, []), (b3, [.int .i64 x5.1, .int .i64 x5.2]), (b1, [.int .i64 p0.1, v1, v2])]) 0 F W Aa Aa Aa RB Aa Aa Aa Aa Aa fun w W => ?_
   refine ls F W Aa (Ag F Aa).q fun a w F W => ?_
   refine Ae (Ab (Ah (Ac ?_)))
   refine ls F W Aa (Ad F Aa).q fun a w F W => ?_
   refine Ae (Ab ?_)
   refine AB F Aa (fun hb => ?_) fun hb => ?_
   ·
    have H := AR hb H
    rw [hb] at F
    clear hb
    refine Ah (Ac ?_)
    refine ls F W Aa (Ag F Aa).q fun a w F W => ?_
    refine Ae (Ab (AF (AK (AU ?_))))
    iterate 2 refine AK ?_
    refine AU (AK ?_)
    have H := L2 _ H
    have H := L1 _ H
    have H := AX H
    subst H
    refine BA (.inl Aa) F W Aa (Ay F Aa) ?_
    exact ⟨rfl, W.done⟩
   have H := AS (by rw [hb]; decide) H
   rw [hb] at F
   clear hb
   refine Au (Ab (Ac ?_))
   refine ls F W Aa (Ad F Aa).q fun a w F W => ?_
   refine ls F W Aa (Az (v := Value.agg #[.int .i64 x5.1, .int .i64 x5.2]) 1 F Aa Aa NF Aa).q fun a w F W => ?_
   refine ls F W Aa (D0 (v := Value.agg #[]) RR F Aa Aa Aa).q fun a w F W => ?_
   refine OR (q := 1) (kx := (x5 : Int × Int)) (vx := (() : Unit)) (E := HY) (V := Ik) F W Aa Aa Aa Aa Aa Qb Qd fun w W => ?_
   have W : Stw ⟨Y, [], w0⟩ [(b4, []), (b3, [.int .i64 x5.1, .int .i64 x5.2]), (b1, [.int .i64 p0.1, v1, v2])] [mp b2 HY Ik (J6 x4 x5 ()), row v3 118 Gt x2] w := W
   refine Ae (AP (Ab (Ac ?_)))
   refine ls F W Aa (BL F Aa Aa Aa).q fun a w F W => ?_
   refine ls F W Aa (Ad F Aa).q fun a w F W => ?_
   refine Ae (Ab ?_)
   have W := W.frontZ (i := 1) Aa Aa
   have W := W.frontM (i := 2) Aa Aa
   have W := W.sub (M' := [(b1, [.int .i64 p0.1, v1, v2])]) (Z' := [row v3 118 Gt x2, mp b2 HY Ik (J6 x4 x5 ())]) (List.Sublist.cons_cons _ (List.nil_sublist _)) (List.Sublist.refl _)
   exact ⟨_, H, F.re ⟨rfl, Aa, Aa, Aa, Aa, Aa, trivial⟩, W⟩
  have H := AS (Bq hb) H
  rw [hb] at F
  clear hb
  refine Bh ?_
  iterate 2 refine BK ?_
  refine Bj (Ab ?_)
  have W := W.frontZ (i := 1) Aa Aa
  have W := W.sub (M' := [(b1, [.int .i64 p0.1, v1, v2])]) (Z' := [mp b2 HY Ik x4]) (List.Sublist.refl _) (List.Sublist.cons_cons _ (List.nil_sublist _))
  have H := L2 _ H
  exact ⟨_, H, F.re ⟨rfl, Aa, trivial⟩, W⟩
 rintro a w ⟨x1, hj, F, W⟩
 have H := K1 _ hj
 clear hj G1 K1 L1
 refine Ah (Ac ?_)
 refine ls F W Aa (Ak Ek Aa Aa Aa KJ F Aa 1 Aa).q fun a w F W => ?_
 refine ls F W Aa (Az (v := v1) 0 F Aa Aa KJ Aa).q fun a w F W => ?_
 obtain ⟨x6, h3, H⟩ := Al H
 refine ls F W Aa (BV (v := Value.bool x6) F SC Aa (fun w W => Fp any w (v1) p0.2.1 _ h3 (((Ao h_v1) : Ec _ _ _ _ _ _) w W).nx)) fun a w F W => ?_
 refine ls F W Aa (En F Aa).q fun a w F W => ?_
 refine ls F W Aa (Ag F Aa).q fun a w F W => ?_
 refine Ae (Ab (AF ?_))
 have H := AX H
 subst H
 refine BA (.inl Aa) F W Aa (Ay F Aa) ?_
 exact ⟨rfl, W.done⟩
theorem H2 : type_of% Try.underlying27 := Try.underlying27
theorem HG : type_of% Try.underlying28 := Try.underlying28
theorem TA : Has Try.prog 45 := ⟨fun args w => Am Try.func45 rfl (by decide) args w⟩
abbrev EJ (a : Value × List Int) : List Value := [a.1]
theorem Ij : I6 (Rp.vsl (Rp.int .i64)) EJ := I6.vsl
theorem J0 : Et Try.prog 27 28 1 24 := Et.of H2 (by kernel_rfl) (by kernel_rfl) (by kernel_rfl) (by decide)
theorem KG : Ty Try.prog 28 false 1 := ⟨by kernel_rfl, by kernel_rfl⟩
theorem GP : Et Try.prog 28 3 1 8 := Et.of HG (by kernel_rfl) (by kernel_rfl) (by kernel_rfl) (by decide)
def Dw (p0 : Int) : Bool := (decide (p0 < 0) || decide (8 ≤ p0))
theorem JS (Y : Nat → Prop) (w0 : World)  (p0 : Int) (r : Bool) (H : Dw p0 = r)  :
    Calls Try.prog 47 #[.int .i64 p0] w0 fun e w' => e = .returned (.bool r) ∧ Below w0.heap.size w0 w' := by
 refine enter Try.func47 Aa Try.ntmps47 Aa fun a F => ?_
 have W := Stw.start Y w0
 unfold Dw at H
 refine Ah (Ac ?_)
 refine ls F W Aa (Ag F Aa).q fun a w F W => ?_
 refine Ae (Ab ?_)
 refine AM (fun a w => Fr 9 [] [(2, .bool (decide (p0 < 0) || decide (8 ≤ p0)))] a ∧ Stw ⟨Y, [], w0⟩ [] [] w) ?_ ?_
 ·
  refine Ac ?_
  refine ls F W Aa (Ad F Aa).q fun a w F W => ?_
  refine ls F W Aa (BM F Aa Aa).q fun a w F W => ?_
  refine ls F W Aa (Ad F Aa).q fun a w F W => ?_
  rcases Bool.eq_false_or_eq_true (decide (p0 < 0)) with hb0 | hb0
  ·
   rw [hb0] at F
   iterate 2 refine CX F Aa Aa Aa Aa Aa Aa Aa fun a F => ?_
   refine ls F W Aa (Aq F Aa Aa Aa).q fun a w F W => ?_
   refine ls F W Aa (Ag F Aa).q fun a w F W => ?_
   refine Ae (Ab ?_)
   exact ⟨F.re ⟨(by show some (Value.bool true) = some (Value.bool (decide (p0 < 0) || decide (8 ≤ p0))); try rw [hb0]; all_goals simp only [Bool.not_true, Bool.not_false, Bool.true_and, Bool.false_and, Bool.true_or, Bool.false_or, Bool.and_true, Bool.or_false, cond_true, cond_false]), trivial⟩, W⟩
  rw [hb0] at F
  refine AL F W (Af F Aa Aa Aa Aa) Aa (Aj Aa) (Ad F Aa).q fun a w F W => ?_
  refine AL F W (Af F Aa Aa Aa Aa) Aa (Aj Aa) (DL F Aa Aa).q fun a w F W => ?_
  refine ls F W Aa (AA F Aa Aa Aa).q fun a w F W => ?_
  refine ls F W Aa (Ag F Aa).q fun a w F W => ?_
  refine Ae (Ab ?_)
  exact ⟨F.re ⟨(by show some (Value.bool (decide (8 ≤ p0))) = some (Value.bool (decide (p0 < 0) || decide (8 ≤ p0))); try rw [hb0]; all_goals simp only [Bool.not_true, Bool.not_false, Bool.true_and, Bool.false_and, Bool.true_or, Bool.false_or, Bool.and_true, Bool.or_false, cond_true, cond_false]), trivial⟩, W⟩
 rintro a w ⟨F, W⟩
 refine AF ?_
 subst H
 refine BA (.inl Aa) F W Aa (Ay F Aa) ?_
 exact ⟨rfl, W.done⟩
theorem Tn : Has Try.prog 47 := ⟨fun args w => Am Try.func47 rfl (by decide) args w⟩
noncomputable def BH (p0 : List Int) : Int → Option (Int ⊕ (Unit ⊕ Int))
  | x1 => (if x1 < (p0.length : Int) then (ix p0 x1).bind fun x2 => (if (Dw x2) = true then some (.inr (.inr x1)) else some (.inl (AC (x1 + 1)))) else some (.inr (.inl ())))
noncomputable def CB (p0 : List Int) : Option Int := FN (AO (BH p0) 0) fun _ => some (-1)
theorem HI (Y : Nat → Prop) (w0 : World) (v1 : Value) (p0 : List Int) (r : Int) (H : CB p0 = some r) (h_v1 : Sl w0 (NX []) (Rp.int .i64) v1 p0) :
    Calls Try.prog 72 #[v1, .func (.func 47) #[] #[]] w0 fun e w' => e = .returned (.int .i64 r) ∧ Below w0.heap.size w0 w' := by
 refine enter Try.func72 Aa Try.ntmps72 Aa fun a F => ?_
 have W := Stw.start Y w0
 unfold CB at H
 refine Ah (Ac ?_)
 refine ls F W Aa (Ag F Aa).q fun a w F W => ?_
 refine Ae (Ab ?_)
 obtain ⟨o1, G1, K1, L1⟩ := Jq H
 refine AM (fun a w => some (Sum.inl ()) = some o1 ∧ Fr 19 [] [(4, .int .i64 0)] a ∧ Stw ⟨Y, [], w0⟩ [] [] w) ?_ ?_
 ·
  have H := G1
  clear G1 K1
  refine Ah (Ac ?_)
  refine ls F W Aa (Ad F Aa).q fun a w F W => ?_
  refine ls F W Aa (B0 (r := (Rp.int .i64)) (l := p0) HG Aa F Aa (Ao h_v1)).q fun a w F W => ?_
  refine ls F W Aa (Ad F Aa).q fun a w F W => ?_
  refine Ae (Ab (Av ?_))
  refine Bk H (fun s a w => Fr 19 [] [(0, v1), (1, .func (.func 47) #[] #[]), (4, .int .i64 0), (7, .int .i64 (p0.length : Int)), (8, .int .i64 s)] a ∧ Stw ⟨Y, [], w0⟩ [] [] w) ⟨F.re ⟨rfl, Aa, Aa, Aa, Aa, trivial⟩, W⟩ fun s o a w H L2 hR => ?_
  obtain ⟨x1, rfl⟩ : ∃ x, x = s := ⟨s, rfl⟩
  obtain ⟨F, W⟩ := hR
  have F : Fr 19 [] [(0, v1), (1, .func (.func 47) #[] #[]), (4, .int .i64 0), (7, .int .i64 (p0.length : Int)), (8, .int .i64 x1)] a := F
  have W : Stw ⟨Y, [], w0⟩ [] [] w := W
  rw [BH] at H
  refine Ah (Ac ?_)
  refine ls F W Aa (BM F Aa Aa).q fun a w F W => ?_
  refine Ae (Ab (Ah ?_))
  refine AB F Aa (fun hb => ?_) fun hb => ?_
  ·
   have H := AR (Br hb) H
   rw [hb] at F
   clear hb
   refine Au (Ab (Ah (Av (Ah (Ac ?_)))))
   refine ls F W Aa (Ad F Aa).q fun a w F W => ?_
   refine ls F W Aa (Ag F Aa).q fun a w F W => ?_
   refine Ae (Ab (Ah (Ac ?_)))
   iterate 3 refine ls F W Aa (Ad F Aa).q fun a w F W => ?_
   obtain ⟨x2, h1, H⟩ := Al H
   refine ls F W Aa (Ax (r := (Rp.int .i64)) GP F Aa Aa (Ao h_v1) h1).q fun a w F W => ?_
   refine ls F W Aa (Ap (y := Value.int .i64 x2) (j := 0) (i := x1) F Aa Aa (Ao h_v1) h1 Fl.int.to T3 Aa).q fun a w F W => ?_
   refine ls F W Aa (EG (ws := [.int .i64 x2]) (v := Value.bool (Dw x2)) F Tn Aa (fun w W => JS any w x2 _ Aa)) fun a w F W => ?_
   refine Ae (Ab ?_)
   refine AB F Aa (fun hb => ?_) fun hb => ?_
   ·
    have H := AR hb H
    rw [hb] at F
    clear hb
    refine Ah (Ac ?_)
    refine ls F W Aa (Ad F Aa).q fun a w F W => ?_
    refine ls F W Aa (Ag F Aa).q fun a w F W => ?_
    refine Ae (Ab (AF (AU ?_)))
    iterate 2 refine AK ?_
    refine AU (AK ?_)
    have H := L2 _ H
    have H := L1 _ H
    have H := AX H
    subst H
    refine BA (.inl Aa) F W Aa (Ay F Aa) ?_
    exact ⟨rfl, W.done⟩
   have H := AS (by rw [hb]; decide) H
   rw [hb] at F
   clear hb
   refine Au (AP (Ab (Ac ?_)))
   refine ls F W Aa (BL F Aa Aa Aa).q fun a w F W => ?_
   refine ls F W Aa (Ad F Aa).q fun a w F W => ?_
   refine Ae (Ab ?_)
   exact ⟨_, H, F.re ⟨rfl, Aa, Aa, Aa, Aa, trivial⟩, W⟩
  have H := AS (Bq hb) H
  rw [hb] at F
  clear hb
  refine Bh ?_
  iterate 2 refine BK ?_
  refine Bj (Ab ?_)
  have H := L2 _ H
  exact ⟨H, F.re ⟨rfl, trivial⟩, W⟩
 rintro a w ⟨hj, F, W⟩
 have H := K1 _ hj
 clear hj G1 K1 L1
 refine Ah (Ac ?_)
 refine ls F W Aa (Ag F Aa).q fun a w F W => ?_
 refine Ae (Ab (AF ?_))
 have H := AX H
 subst H
 refine BA (.inl Aa) F W Aa (Ay F Aa) ?_
 exact ⟨rfl, W.done⟩
theorem S2 : Has Try.prog 72 := ⟨fun args w => Am Try.func72 rfl (by decide) args w⟩
noncomputable def B1 (p0 : List Int) : Option Bool := (CB p0).bind fun x1 => some (decide (0 ≤ x1))
theorem Hc (Y : Nat → Prop) (w0 : World) (v1 : Value) (p0 : List Int) (r : Bool) (H : B1 p0 = some r) (h_v1 : Sl w0 (NX []) (Rp.int .i64) v1 p0) :
    Calls Try.prog 46 #[v1, .func (.func 47) #[] #[]] w0 fun e w' => e = .returned (.bool r) ∧ Below w0.heap.size w0 w' := by
 refine enter Try.func46 Aa Try.ntmps46 Aa fun a F => ?_
 have W := Stw.start Y w0
 unfold B1 at H
 refine Ah (Ac ?_)
 refine ls F W Aa (Ag F Aa).q fun a w F W => ?_
 refine Ae (Ab (Ah (Ac ?_)))
 iterate 2 refine ls F W Aa (Ad F Aa).q fun a w F W => ?_
 obtain ⟨x1, h1, H⟩ := Al H
 refine ls F W Aa (BV (v := Value.int .i64 x1) F S2 Aa (fun w W => HI any w (v1) p0 _ h1 (((Ao h_v1) : Ec _ _ _ _ _ _) w W).nx)) fun a w F W => ?_
 refine ls F W Aa (DL F Aa Aa).q fun a w F W => ?_
 refine ls F W Aa (Ag F Aa).q fun a w F W => ?_
 refine Ae (Ab (AF ?_))
 have H := AX H
 subst H
 refine BA (.inl Aa) F W Aa (Ay F Aa) ?_
 exact ⟨rfl, W.done⟩
theorem Tr : Has Try.prog 46 := ⟨fun args w => Am Try.func46 rfl (by decide) args w⟩
noncomputable def Ef (p0 : Int × (List (Int × Int × Int × Int × Int × Int)) × (List (Int × Int))) (p1 : List (List Int)) : Int → Option (Int ⊕ (Unit ⊕ Bool))
  | x3 => (if x3 < (p1.length : Int) then (ix p1 x3).bind fun x4 => (if (x4.length : Int) ≠ (p0.2.2.length : Int) then some true else (B1 x4).bind fun x6 => some x6).bind fun x5 => (if x5 = true then some (.inr (.inr false)) else some (.inl (AC (x3 + 1)))) else some (.inr (.inl ())))
noncomputable def ES (p0 : Int × (List (Int × Int × Int × Int × Int × Int)) × (List (Int × Int))) (p1 : List (List Int)) : Option Bool := ((F8 p0).bind fun x2 => (if (!x2) = true then some true else some (decide ((p1.length : Int) ≠ p0.1)))).bind fun x1 => (if x1 = true then some false else FN (AO (Ef p0 p1) 0) fun _ => some true)
theorem Jg (Y : Nat → Prop) (w0 : World) (v1 : Value) (v2 : Value) (v3 : Value) (p0 : Int × (List (Int × Int × Int × Int × Int × Int)) × (List (Int × Int))) (p1 : List (List Int)) (r : Bool) (H : ES p0 p1 = some r) (h_v1 : Sl w0 (NX []) Hu v1 p0.2.1) (h_v2 : Sl w0 (NX []) GH v2 p0.2.2) (h_v3 : Sl w0 (NX []) (Rp.slice (Rp.int .i64)) v3 p1) :
    Calls Try.prog 29 #[.agg #[.int .i64 p0.1, v1, v2], v3] w0 fun e w' => e = .returned (.bool r) ∧ Below w0.heap.size w0 w' := by
 refine enter Try.func29 Aa Try.ntmps29 Aa fun a F => ?_
 have W := Stw.start Y w0
 obtain ⟨v4, h1, h_v3⟩ := h_v3.ex CR
 unfold ES at H
 refine Ah (Ac ?_)
 refine E0 (cs := [.int .i64 p0.1, v1, v2]) F W Aa Aa Aa fun b1 a w F W => ?_
 refine ls F W Aa (Ag F Aa).q fun a w F W => ?_
 refine Ae (Ab (Ah ?_))
 obtain ⟨o1, G1, K1⟩ := Al H
 refine AM (fun a w => ∃ x1 : Bool, some (x1) = some o1 ∧ Fr 34 [] [(1, v3), (2, .pointer (some ⟨b1, 0, none⟩)), (4, .bool false), (16, .bool x1)] a ∧ Stw ⟨Y, [], w0⟩ [(b1, [.int .i64 p0.1, v1, v2])] [] w) ?_ ?_
 ·
  have H := G1
  clear G1 K1
  refine Ac ?_
  refine ls F W Aa (Az (v := Value.agg #[.int .i64 p0.1, v1, v2]) 0 F Aa Aa JB Aa).q fun a w F W => ?_
  obtain ⟨x2, h2, H⟩ := Al H
  refine ls F W Aa (BV (v := Value.bool x2) F TA Aa (fun w W => Mk any w (v1) (v2) p0 _ h2 (((Ao h_v1) : Ec _ _ _ _ _ _) w W).nx (((Ao h_v2) : Ec _ _ _ _ _ _) w W).nx)) fun a w F W => ?_
  refine ls F W Aa (En F Aa).q fun a w F W => ?_
  refine ls F W Aa (Ad F Aa).q fun a w F W => ?_
  rcases Bool.eq_false_or_eq_true (!x2) with hb | hb
  ·
   have H := AR hb H
   rw [hb] at F
   clear hb
   iterate 5 refine CX F Aa Aa Aa Aa Aa Aa Aa fun a F => ?_
   refine ls F W Aa (Aq F Aa Aa Aa).q fun a w F W => ?_
   refine Ae (Ab ?_)
   exact ⟨_, H, F.re ⟨rfl, Aa, Aa, Aa, trivial⟩, W⟩
  have H := AS (by rw [hb]; decide) H
  rw [hb] at F
  clear hb
  refine AL F W (Af F Aa Aa Aa Aa) Aa (Aj Aa) (Ad F Aa).q fun a w F W => ?_
  refine AL F W (Af F Aa Aa Aa Aa) Aa (Aj Aa) (B0 (r := (Rp.slice (Rp.int .i64))) (l := p1) H2 Aa F Aa (BU CR h1 (Ao h_v3))).q fun a w F W => ?_
  refine AL F W (Af F Aa Aa Aa Aa) Aa (Aj Aa) (Ak Ek Aa Aa Aa T3 F Aa 0 Aa).q fun a w F W => ?_
  refine AL F W (Af F Aa Aa Aa Aa) Aa (Aj Aa) (Az (v := Value.int .i64 p0.1) 0 F Aa Aa T3 Aa).q fun a w F W => ?_
  refine AL F W (Af F Aa Aa Aa Aa) Aa (Aj Aa) (Gj F Aa Aa).q fun a w F W => ?_
  refine ls F W Aa (AA F Aa Aa Aa).q fun a w F W => ?_
  refine Ae (Ab ?_)
  exact ⟨_, H, F.re ⟨rfl, Aa, Aa, Aa, trivial⟩, W⟩
 rintro a w ⟨x1, hj, F, W⟩
 have hj := AX hj
 subst hj
 have H := K1
 clear G1 K1
 refine AB F Aa (fun hb => ?_) fun hb => ?_
 ·
  have H := AR hb H
  rw [hb] at F
  clear hb
  refine Ah (Ac ?_)
  refine ls F W Aa (Ag F Aa).q fun a w F W => ?_
  refine Ae (Ab (AF (AK ?_)))
  have H := AX H
  subst H
  refine BA (.inl Aa) F W Aa (Ay F Aa) ?_
  exact ⟨rfl, W.done⟩
 have H := AS (by rw [hb]; decide) H
 rw [hb] at F
 clear hb
 refine Au (Ab ?_)
 obtain ⟨o2, G2, K2, L2⟩ := Jq H
 refine AM (fun a w => some (Sum.inl ()) = some o2 ∧ Fr 34 [] [(4, .bool false)] a ∧ Stw ⟨Y, [], w0⟩ [(b1, [.int .i64 p0.1, v1, v2])] [] w) ?_ ?_
 ·
  have H := G2
  clear G2 K2
  refine Ah (Ac ?_)
  refine ls F W Aa (Ad F Aa).q fun a w F W => ?_
  refine ls F W Aa (B0 (r := (Rp.slice (Rp.int .i64))) (l := p1) H2 Aa F Aa (BU CR h1 (Ao h_v3))).q fun a w F W => ?_
  refine ls F W Aa (Ad F Aa).q fun a w F W => ?_
  refine Ae (Ab (Av ?_))
  refine Bk H (fun s a w => Fr 34 [] [(2, .pointer (some ⟨b1, 0, none⟩)), (4, .bool false), (17, v3), (18, .int .i64 (p1.length : Int)), (19, .int .i64 s)] a ∧ Stw ⟨Y, [], w0⟩ [(b1, [.int .i64 p0.1, v1, v2])] [] w) ⟨F.re ⟨rfl, Aa, Aa, Aa, Aa, trivial⟩, W⟩ fun s o a w H L3 hR => ?_
  obtain ⟨x3, rfl⟩ : ∃ x, x = s := ⟨s, rfl⟩
  obtain ⟨F, W⟩ := hR
  have F : Fr 34 [] [(2, .pointer (some ⟨b1, 0, none⟩)), (4, .bool false), (17, v3), (18, .int .i64 (p1.length : Int)), (19, .int .i64 x3)] a := F
  have W : Stw ⟨Y, [], w0⟩ [(b1, [.int .i64 p0.1, v1, v2])] [] w := W
  rw [Ef] at H
  refine Ah (Ac ?_)
  refine ls F W Aa (BM F Aa Aa).q fun a w F W => ?_
  refine Ae (Ab (Ah ?_))
  refine AB F Aa (fun hb => ?_) fun hb => ?_
  ·
   have H := AR (Br hb) H
   rw [hb] at F
   clear hb
   refine Au (Ab (Ah (Av (Ah (Ac ?_)))))
   obtain ⟨x4, h3, H⟩ := Al H
   obtain ⟨v5, h4, h5⟩ := EC h1 h3
   have h6 : EJ v5 = [(v5.1)] := congrArg (fun q : List Int => ([(v5.1)] : List Value)) h5
   refine ls F W Aa (Ax (r := (Rp.vsl (Rp.int .i64))) J0 F Aa Aa (Ao h_v3) h4).q fun a w F W => ?_
   refine ls F W Aa (Ap (y := (v5.1)) (j := 0) (i := x3) (enc := EJ) F Aa Aa (Ao h_v3) h4 Ij KG (by rw [h6]; rfl)).q fun a w F W => ?_
   refine ls F W Aa (Ag F Aa).q fun a w F W => ?_
   refine Ae (Ab ?_)
   obtain ⟨o4, G4, K4⟩ := Al H
   refine AM (fun a w => ∃ x5 : Bool, some (x5) = some o4 ∧ Fr 34 [] [(2, .pointer (some ⟨b1, 0, none⟩)), (4, .bool false), (17, v3), (18, .int .i64 (p1.length : Int)), (19, .int .i64 x3), (32, .bool x5)] a ∧ Stw ⟨Y, [], w0⟩ [(b1, [.int .i64 p0.1, v1, v2])] [] w) ?_ ?_
   ·
    have H := G4
    clear G4 K4
    refine Ac ?_
    refine ls F W Aa (Ad F Aa).q fun a w F W => ?_
    refine ls F W Aa (B0 (r := (Rp.int .i64)) (l := x4) HG Aa F Aa (CV (Ao h_v3) h4 Cg.here (congrArg (fun q : List Int => q) h5))).q fun a w F W => ?_
    refine ls F W Aa (Ak Ek Aa Aa Aa Iv F Aa 2 Aa).q fun a w F W => ?_
    refine ls F W Aa (Az (v := v2) 0 F Aa Aa Iv Aa).q fun a w F W => ?_
    refine ls F W Aa (B0 (r := GH) (l := p0.2.2) Jy Aa F Aa (Ao h_v2)).q fun a w F W => ?_
    refine ls F W Aa (Gj F Aa Aa).q fun a w F W => ?_
    refine ls F W Aa (Ad F Aa).q fun a w F W => ?_
    rcases Bool.eq_false_or_eq_true (decide ((x4.length : Int) ≠ (p0.2.2.length : Int))) with hb | hb
    ·
     have H := AR (Br hb) H
     rw [hb] at F
     clear hb
     iterate 2 refine CX F Aa Aa Aa Aa Aa Aa Aa fun a F => ?_
     refine ls F W Aa (Aq F Aa Aa Aa).q fun a w F W => ?_
     refine Ae (Ab ?_)
     exact ⟨_, H, F.re ⟨rfl, Aa, Aa, Aa, Aa, Aa, trivial⟩, W⟩
    have H := AS (Bq hb) H
    rw [hb] at F
    clear hb
    refine AL F W (Af F Aa Aa Aa Aa) Aa (Aj Aa) (Ad F Aa).q fun a w F W => ?_
    refine JM (Af F Aa Aa Aa Aa) ?_
    obtain ⟨x6, h7, H⟩ := Al H
    refine ls F W Aa (BV (v := Value.bool x6) F Tr Aa (fun w W => Hc any w ((v5.1)) x4 _ h7 (((CV (Ao h_v3) h4 Cg.here (congrArg (fun q : List Int => q) h5)) : Ec _ _ _ _ _ _) w W).nx)) fun a w F W => ?_
    refine ls F W Aa (AA F Aa Aa Aa).q fun a w F W => ?_
    refine Ae (Ab ?_)
    exact ⟨_, H, F.re ⟨rfl, Aa, Aa, Aa, Aa, Aa, trivial⟩, W⟩
   rintro a w ⟨x5, hj, F, W⟩
   have hj := AX hj
   subst hj
   have H := K4
   clear G4 K4
   refine AB F Aa (fun hb => ?_) fun hb => ?_
   ·
    have H := AR hb H
    rw [hb] at F
    clear hb
    refine Ah (Ac ?_)
    refine ls F W Aa (Ag F Aa).q fun a w F W => ?_
    refine Ae (Ab (AF (AU ?_)))
    iterate 2 refine AK ?_
    refine AU (AK ?_)
    have H := L3 _ H
    have H := L2 _ H
    have H := AX H
    subst H
    refine BA (.inl Aa) F W Aa (Ay F Aa) ?_
    exact ⟨rfl, W.done⟩
   have H := AS (by rw [hb]; decide) H
   rw [hb] at F
   clear hb
   refine Au (AP (Ab (Ac ?_)))
   refine ls F W Aa (BL F Aa Aa Aa).q fun a w F W => ?_
   refine ls F W Aa (Ad F Aa).q fun a w F W => ?_
   refine Ae (Ab ?_)
   exact ⟨_, H, F.re ⟨rfl, Aa, Aa, Aa, Aa, trivial⟩, W⟩
  have H := AS (Bq hb) H
  rw [hb] at F
  clear hb
  refine Bh ?_
  iterate 2 refine BK ?_
  refine Bj (Ab ?_)
  have H := L3 _ H
  exact ⟨H, F.re ⟨rfl, trivial⟩, W⟩
 rintro a w ⟨hj, F, W⟩
 have H := K2 _ hj
 clear hj G2 K2 L2
 refine Ah (Ac ?_)
 refine ls F W Aa (Ag F Aa).q fun a w F W => ?_
 refine Ae (Ab (AF ?_))
 have H := AX H
 subst H
 refine BA (.inl Aa) F W Aa (Ay F Aa) ?_
 exact ⟨rfl, W.done⟩
theorem Sb : Has Try.prog 29 := ⟨fun args w => Am Try.func29 rfl (by decide) args w⟩
theorem Z3 : (Try.prog.info? 3).bind (·.zero) = some (.int .i64 0) := by kernel_rfl
theorem MO : Try.prog.follows .mixedOrders = true := by kernel_rfl
theorem R8 : Bt Try.prog 43 [.int .i64 0, .int .i64 0] [(0, 1), (1, 1)] := ⟨⟨.agg #[.int .i64 0, .int .i64 0], by kernel_rfl, rfl⟩, ⟨_, Lv, fun w => by kernel_rfl⟩⟩
theorem RP (dd : Nat) (x0 : Int) (x1 : Int) (y0 : Int) (y1 : Int) (w : World) : (Op.equalIn (dd + 2) 43 (.agg #[.int .i64 x0, .int .i64 x1]) (.agg #[.int .i64 y0, .int .i64 y1])).run Try.prog w = .ok (decide (x0 = y0 ∧ x1 = y1)) w :=
  J8 (d := dd + 1) (rs := [decide (x0 = y0), decide (x1 = y1)]) Lv (by kernel_rfl) ⟨rfl, HW (d := dd + 0) rfl rfl Nd T3 rfl rfl, rfl, HW (d := dd + 0) rfl rfl Nd T3 rfl rfl, trivial⟩ (by simp) w
theorem Sk : Try.prog.eqGuardType Try.prog.depth 43 = false := by kernel_rfl
theorem S6 (x0 : Int) (x1 : Int) (y0 : Int) (y1 : Int) (w : World) : (Op.equalIn 10000 43 (.agg #[.int .i64 x0, .int .i64 x1]) (.agg #[.int .i64 y0, .int .i64 y1])).run Try.prog w = .ok (decide (x0 = y0 ∧ x1 = y1)) w := RP 9998 x0 x1 y0 y1 w
noncomputable def A9 (p0 : List (Int × Int)) (p1 : Int × Int) : Int → Option (Int ⊕ (Unit ⊕ Int))
  | x1 => (if x1 < (p0.length : Int) then (ix p0 x1).bind fun x2 => (if p1.1 = x2.1 ∧ p1.2 = x2.2 then some (.inr (.inr x1)) else some (.inl (AC (x1 + 1)))) else some (.inr (.inl ())))
noncomputable def B5 (p0 : List (Int × Int)) (p1 : Int × Int) : Option Int := FN (AO (A9 p0 p1) 0) fun _ => some (-1)
theorem GB (Y : Nat → Prop) (w0 : World) (v1 : Value) (p0 : List (Int × Int)) (p1 : Int × Int) (r : Int) (H : B5 p0 p1 = some r) (h_v1 : Sl w0 (NX []) GH v1 p0) :
    Calls Try.prog 73 #[v1, .agg #[.int .i64 p1.1, .int .i64 p1.2]] w0 fun e w' => e = .returned (.int .i64 r) ∧ Below w0.heap.size w0 w' := by
 refine enter Try.func73 Aa Try.ntmps73 Aa fun a F => ?_
 have W := Stw.start Y w0
 unfold B5 at H
 refine Ah (Ac ?_)
 refine E0 (cs := [.int .i64 p1.1, .int .i64 p1.2]) F W Aa Aa Aa fun b1 a w F W => ?_
 refine ls F W Aa (Ag F Aa).q fun a w F W => ?_
 refine Ae (Ab ?_)
 obtain ⟨o1, G1, K1, L1⟩ := Jq H
 refine AM (fun a w => some (Sum.inl ()) = some o1 ∧ Fr 19 [] [(4, .int .i64 0)] a ∧ Stw ⟨Y, [], w0⟩ [(b1, [.int .i64 p1.1, .int .i64 p1.2])] [] w) ?_ ?_
 ·
  have H := G1
  clear G1 K1
  refine Ah (Ac ?_)
  refine ls F W Aa (Ad F Aa).q fun a w F W => ?_
  refine ls F W Aa (B0 (r := GH) (l := p0) Jy Aa F Aa (Ao h_v1)).q fun a w F W => ?_
  refine ls F W Aa (Ad F Aa).q fun a w F W => ?_
  refine Ae (Ab (Av ?_))
  refine Bk H (fun s a w => Fr 19 [] [(0, v1), (3, .pointer (some ⟨b1, 0, none⟩)), (4, .int .i64 0), (7, .int .i64 (p0.length : Int)), (8, .int .i64 s)] a ∧ Stw ⟨Y, [], w0⟩ [(b1, [.int .i64 p1.1, .int .i64 p1.2])] [] w) ⟨F.re ⟨rfl, Aa, Aa, Aa, Aa, trivial⟩, W⟩ fun s o a w H L2 hR => ?_
  obtain ⟨x1, rfl⟩ : ∃ x, x = s := ⟨s, rfl⟩
  obtain ⟨F, W⟩ := hR
  have F : Fr 19 [] [(0, v1), (3, .pointer (some ⟨b1, 0, none⟩)), (4, .int .i64 0), (7, .int .i64 (p0.length : Int)), (8, .int .i64 x1)] a := F
  have W : Stw ⟨Y, [], w0⟩ [(b1, [.int .i64 p1.1, .int .i64 p1.2])] [] w := W
  rw [A9] at H
  refine Ah (Ac ?_)
  refine ls F W Aa (BM F Aa Aa).q fun a w F W => ?_
  refine Ae (Ab (Ah ?_))
  refine AB F Aa (fun hb => ?_) fun hb => ?_
  ·
   have H := AR (Br hb) H
   rw [hb] at F
   clear hb
   refine Au (Ab (Ah (Av (Ah (Ac ?_)))))
   refine ls F W Aa (Ad F Aa).q fun a w F W => ?_
   refine ls F W Aa (Ag F Aa).q fun a w F W => ?_
   refine Ae (Ab (Ah ?_))
   refine BQ W MO (by kernel_rfl) ?_
   refine qs F Aa (Az (v := Value.agg #[.int .i64 p1.1, .int .i64 p1.2]) 0 F Aa Aa Rm Aa).q fun a F => ?_
   iterate 2 refine qs F Aa (Ad F Aa).q fun a F => ?_
   obtain ⟨x2, h1, H⟩ := Al H
   refine qs F Aa (Ax (r := GH) Pu F Aa Aa (Ao h_v1) h1).q fun a F => ?_
   refine qs F Aa (Ap (y := Value.agg #[.int .i64 x2.1, .int .i64 x2.2]) (j := 0) (i := x1) F Aa Aa (Ao h_v1) h1 Pv.to Rm Aa).q fun a F => ?_
   refine qs F Aa (NY (t := decide (p1.1 = x2.1 ∧ p1.2 = x2.2)) Sk (S6 _ _ _ _) F Aa Aa).q fun a F => ?_
   refine AZ fun w W => ?_
   refine Ab ?_
   refine AB F Aa (fun hb => ?_) fun hb => ?_
   ·
    have H := AR (Br hb) H
    rw [hb] at F
    clear hb
    refine Ah (Ac ?_)
    refine ls F W Aa (Ad F Aa).q fun a w F W => ?_
    refine ls F W Aa (Ag F Aa).q fun a w F W => ?_
    refine Ae (Ab (AF (AU ?_)))
    iterate 2 refine AK ?_
    refine AU (AK ?_)
    have H := L2 _ H
    have H := L1 _ H
    have H := AX H
    subst H
    refine BA (.inl Aa) F W Aa (Ay F Aa) ?_
    exact ⟨rfl, W.done⟩
   have H := AS (Bq hb) H
   rw [hb] at F
   clear hb
   refine Au (AP (Ab (Ac ?_)))
   refine ls F W Aa (BL F Aa Aa Aa).q fun a w F W => ?_
   refine ls F W Aa (Ad F Aa).q fun a w F W => ?_
   refine Ae (Ab ?_)
   exact ⟨_, H, F.re ⟨rfl, Aa, Aa, Aa, Aa, trivial⟩, W⟩
  have H := AS (Bq hb) H
  rw [hb] at F
  clear hb
  refine Bh ?_
  iterate 2 refine BK ?_
  refine Bj (Ab ?_)
  have H := L2 _ H
  exact ⟨H, F.re ⟨rfl, trivial⟩, W⟩
 rintro a w ⟨hj, F, W⟩
 have H := K1 _ hj
 clear hj G1 K1 L1
 refine Ah (Ac ?_)
 refine ls F W Aa (Ag F Aa).q fun a w F W => ?_
 refine Ae (Ab (AF ?_))
 have H := AX H
 subst H
 refine BA (.inl Aa) F W Aa (Ay F Aa) ?_
 exact ⟨rfl, W.done⟩
theorem Tw : Has Try.prog 73 := ⟨fun args w => Am Try.func73 rfl (by decide) args w⟩
noncomputable def ER (p0 : Int × (List (Int × Int × Int × Int × Int × Int)) × (List (Int × Int))) (p1 : Int) (p2 : Int) : Option Int := (B5 p0.2.2 (p1, p2)).bind fun x1 => some x1
theorem Lw (Y : Nat → Prop) (w0 : World) (v1 : Value) (v2 : Value) (p0 : Int × (List (Int × Int × Int × Int × Int × Int)) × (List (Int × Int))) (p1 : Int) (p2 : Int) (r : Int) (H : ER p0 p1 p2 = some r) (h_v1 : Sl w0 (NX []) Hu v1 p0.2.1) (h_v2 : Sl w0 (NX []) GH v2 p0.2.2) :
    Calls Try.prog 48 #[.agg #[.int .i64 p0.1, v1, v2], .int .i64 p1, .int .i64 p2] w0 fun e w' => e = .returned (.int .i64 r) ∧ Below w0.heap.size w0 w' := by
 refine enter Try.func48 Aa Try.ntmps48 Aa fun a F => ?_
 have W := Stw.start Y w0
 unfold ER at H
 refine Ah (Ac ?_)
 refine E0 (cs := [.int .i64 p0.1, v1, v2]) F W Aa Aa Aa fun b1 a w F W => ?_
 refine ls F W Aa (Ag F Aa).q fun a w F W => ?_
 refine Ae (Ab (Ah (Ac ?_)))
 refine ls F W Aa (Ak Ek Aa Aa Aa Iv F Aa 2 Aa).q fun a w F W => ?_
 refine ls F W Aa (Az (v := v2) 0 F Aa Aa Iv Aa).q fun a w F W => ?_
 iterate 2 refine ls F W Aa (Ad F Aa).q fun a w F W => ?_
 refine ls F W Aa (D0 (v := Value.agg #[.int .i64 p1, .int .i64 p2]) R8 F Aa Aa Aa).q fun a w F W => ?_
 obtain ⟨x1, h1, H⟩ := Al H
 refine ls F W Aa (BV (v := Value.int .i64 x1) F Tw Aa (fun w W => GB any w (v2) p0.2.2 (p1, p2) _ h1 (((Ao h_v2) : Ec _ _ _ _ _ _) w W).nx)) fun a w F W => ?_
 refine ls F W Aa (Ag F Aa).q fun a w F W => ?_
 refine Ae (Ab (AF ?_))
 have H := AX H
 subst H
 refine BA (.inl Aa) F W Aa (Ay F Aa) ?_
 exact ⟨rfl, W.done⟩
theorem TE : Has Try.prog 48 := ⟨fun args w => Am Try.func48 rfl (by decide) args w⟩
noncomputable def Dg (p0 : Int × (List (Int × Int × Int × Int × Int × Int)) × (List (Int × Int))) (p1 : Int) (p2 : Int) : Int → Option (Int ⊕ (Unit ⊕ (Int × Int × Int × Bool)))
  | x1 => (if x1 < (p0.2.1.length : Int) then (ix p0.2.1 x1).bind fun x2 => (if p1 = x2.1 ∧ p2 = x2.2.1 then some (.inr (.inr (x2.2.2.1, x2.2.2.2.1, x1, true))) else (if p1 = x2.2.2.1 ∧ p2 = x2.2.2.2.1 then some (.inr (.inr (x2.1, x2.2.1, x1, true))) else some (.inl (AC (x1 + 1))))) else some (.inr (.inl ())))
noncomputable def EK (p0 : Int × (List (Int × Int × Int × Int × Int × Int)) × (List (Int × Int))) (p1 : Int) (p2 : Int) : Option (Int × Int × Int × Bool) := FN (AO (Dg p0 p1 p2) 0) fun _ => some (0, 0, 0, false)
theorem MZ (Y : Nat → Prop) (w0 : World) (v1 : Value) (v2 : Value) (p0 : Int × (List (Int × Int × Int × Int × Int × Int)) × (List (Int × Int))) (p1 : Int) (p2 : Int) (r : Int × Int × Int × Bool) (H : EK p0 p1 p2 = some r) (h_v1 : Sl w0 (NX []) Hu v1 p0.2.1) (h_v2 : Sl w0 (NX []) GH v2 p0.2.2) :
    Calls Try.prog 74 #[.agg #[.int .i64 p0.1, v1, v2], .int .i64 p1, .int .i64 p2] w0 fun e w' => e = .returned (.tuple #[.int .i64 r.1, .int .i64 r.2.1, .int .i64 r.2.2.1, .bool r.2.2.2]) ∧ Below w0.heap.size w0 w' := by
 refine enter Try.func74 Aa Try.ntmps74 Aa fun a F => ?_
 have W := Stw.start Y w0
 unfold EK at H
 refine Ah (Ac ?_)
 refine E0 (cs := [.int .i64 p0.1, v1, v2]) F W Aa Aa Aa fun b1 a w F W => ?_
 iterate 4 refine ls F W Aa (Ag F Aa).q fun a w F W => ?_
 refine Ae (Ab (Ah (Ac ?_)))
 iterate 2 refine ls F W Aa (Ad F Aa).q fun a w F W => ?_
 refine ls F W Aa (D0 (v := Value.agg #[.int .i64 p1, .int .i64 p2]) Og F Aa Aa Aa).q fun a w F W => ?_
 refine DZ (cs := [.int .i64 0, .int .i64 0]) F W Aa P4 Aa fun b2 a w F W => ?_
 refine Dk (vs := [.int .i64 p1, .int .i64 p2]) (M' := [(b2, [.int .i64 p1, .int .i64 p2]), (b1, [.int .i64 p0.1, v1, v2])]) 0 F W Aa Aa Aa NF Aa Aa Aa Aa Aa fun w W => ?_
 refine Ae (Ab ?_)
 obtain ⟨o1, G1, K1, L1⟩ := Jq H
 refine AM (fun a w => some (Sum.inl ()) = some o1 ∧ Fr 49 [] [(6, .int .i64 0), (7, .int .i64 0), (8, .int .i64 0), (9, .bool false)] a ∧ Stw ⟨Y, [], w0⟩ [(b2, [.int .i64 p1, .int .i64 p2]), (b1, [.int .i64 p0.1, v1, v2])] [] w) ?_ ?_
 ·
  have H := G1
  clear G1 K1
  refine Ah (Ac ?_)
  refine ls F W Aa (Ak Ek Aa Aa Aa KJ F Aa 1 Aa).q fun a w F W => ?_
  refine ls F W Aa (Az (v := v1) 1 F Aa Aa KJ Aa).q fun a w F W => ?_
  refine ls F W Aa (B0 (r := Hu) (l := p0.2.1) LC Aa F Aa (Ao h_v1)).q fun a w F W => ?_
  refine ls F W Aa (Ad F Aa).q fun a w F W => ?_
  refine Ae (Ab (Av ?_))
  have W := W.frontM (i := 1) Aa Aa
  have W := W.frontM (i := 1) Aa Aa
  refine Bk H (fun s a w => Fr 49 [] [(6, .int .i64 0), (7, .int .i64 0), (8, .int .i64 0), (9, .bool false), (10, .pointer (some ⟨b2, 0, none⟩)), (17, v1), (18, .int .i64 (p0.2.1.length : Int)), (19, .int .i64 s)] a ∧ Stw ⟨Y, [], w0⟩ [(b2, [.int .i64 p1, .int .i64 p2]), (b1, [.int .i64 p0.1, v1, v2])] [] w) ⟨F.re ⟨rfl, Aa, Aa, Aa, Aa, Aa, Aa, Aa, trivial⟩, W⟩ fun s o a w H L2 hR => ?_
  obtain ⟨x1, rfl⟩ : ∃ x, x = s := ⟨s, rfl⟩
  obtain ⟨F, W⟩ := hR
  have F : Fr 49 [] [(6, .int .i64 0), (7, .int .i64 0), (8, .int .i64 0), (9, .bool false), (10, .pointer (some ⟨b2, 0, none⟩)), (17, v1), (18, .int .i64 (p0.2.1.length : Int)), (19, .int .i64 x1)] a := F
  have W : Stw ⟨Y, [], w0⟩ [(b2, [.int .i64 p1, .int .i64 p2]), (b1, [.int .i64 p0.1, v1, v2])] [] w := W
  rw [Dg] at H
  refine Ah (Ac ?_)
  refine ls F W Aa (BM F Aa Aa).q fun a w F W => ?_
  refine Ae (Ab (Ah ?_))
  refine AB F Aa (fun hb => ?_) fun hb => ?_
  ·
   have H := AR (Br hb) H
   rw [hb] at F
   clear hb
   refine Au (Ab (Ah (Av (Ah (Ac ?_)))))
   refine ls F W Aa (Ad F Aa).q fun a w F W => ?_
   obtain ⟨x2, h1, H⟩ := Al H
   refine ls F W Aa (Ax (r := Hu) QI F Aa Aa (Ao h_v1) h1).q fun a w F W => ?_
   refine ls F W Aa (Ap (y := Value.agg #[.int .i64 x2.1, .int .i64 x2.2.1, .int .i64 x2.2.2.1, .int .i64 x2.2.2.2.1, .int .i64 x2.2.2.2.2.1, .int .i64 x2.2.2.2.2.2]) (j := 0) (i := x1) F Aa Aa (Ao h_v1) h1 Qq.to OH Aa).q fun a w F W => ?_
   refine DZ (cs := [.int .i64 0, .int .i64 0, .int .i64 0, .int .i64 0, .int .i64 0, .int .i64 0]) F W Aa QO Aa fun b3 a w F W => ?_
   refine ls F W Aa (Ag F Aa).q fun a w F W => ?_
   refine Dk (vs := [.int .i64 x2.1, .int .i64 x2.2.1, .int .i64 x2.2.2.1, .int .i64 x2.2.2.2.1, .int .i64 x2.2.2.2.2.1, .int .i64 x2.2.2.2.2.2]) (M' := [(b3, [.int .i64 x2.1, .int .i64 x2.2.1, .int .i64 x2.2.2.1, .int .i64 x2.2.2.2.1, .int .i64 x2.2.2.2.2.1, .int .i64 x2.2.2.2.2.2]), (b2, [.int .i64 p1, .int .i64 p2]), (b1, [.int .i64 p0.1, v1, v2])]) 0 F W Aa Aa Aa OH Aa Aa Aa Aa Aa fun w W => ?_
   refine Ae (Ab (Ah (Ah (Ac ?_))))
   refine ls F W Aa (Az (v := Value.agg #[.int .i64 p1, .int .i64 p2]) 1 F Aa Aa NF Aa).q fun a w F W => ?_
   refine ls F W Aa (Ak EN Aa Aa Aa T3 F Aa 0 Aa).q fun a w F W => ?_
   refine ls F W Aa (Az (v := Value.int .i64 x2.1) 0 F Aa Aa T3 Aa).q fun a w F W => ?_
   refine ls F W Aa (Ak EN Aa Aa Aa T3 F Aa 1 Aa).q fun a w F W => ?_
   refine ls F W Aa (Az (v := Value.int .i64 x2.2.1) 0 F Aa Aa T3 Aa).q fun a w F W => ?_
   refine ls F W Aa (D0 (v := Value.agg #[.int .i64 x2.1, .int .i64 x2.2.1]) Og F Aa Aa Aa).q fun a w F W => ?_
   refine ls F W Aa (NY (t := decide (p1 = x2.1 ∧ p2 = x2.2.1)) QT (QA _ _ _ _) F Aa Aa).q fun a w F W => ?_
   refine Ae (Ab ?_)
   refine AB F Aa (fun hb => ?_) fun hb => ?_
   ·
    have H := AR (Br hb) H
    rw [hb] at F
    clear hb
    refine Ah ?_
    refine BQ W MO (by kernel_rfl) ?_
    refine qs F Aa (Ak EN Aa Aa Aa T3 F Aa 2 Aa).q fun a F => ?_
    refine qs F Aa (Az (v := Value.int .i64 x2.2.2.1) 0 F Aa Aa T3 Aa).q fun a F => ?_
    refine qs F Aa (Ak EN Aa Aa Aa T3 F Aa 3 Aa).q fun a F => ?_
    refine qs F Aa (Az (v := Value.int .i64 x2.2.2.2.1) 0 F Aa Aa T3 Aa).q fun a F => ?_
    refine qs F Aa (Ad F Aa).q fun a F => ?_
    iterate 4 refine qs F Aa (Ag F Aa).q fun a F => ?_
    refine AZ fun w W => ?_
    refine Ab (AF (AK (AU ?_)))
    iterate 2 refine AK ?_
    refine AU (AK ?_)
    have H := L2 _ H
    have H := L1 _ H
    have H := AX H
    subst H
    refine LU (.inl Aa) F W Aa (Ay F Aa) (Ay F Aa) (Ay F Aa) (Ay F Aa) ?_
    exact ⟨rfl, W.done⟩
   have H := AS (Bq hb) H
   rw [hb] at F
   clear hb
   refine Au (Ab (Ah (Ac ?_)))
   refine ls F W Aa (Az (v := Value.agg #[.int .i64 p1, .int .i64 p2]) 1 F Aa Aa NF Aa).q fun a w F W => ?_
   refine ls F W Aa (Ak EN Aa Aa Aa T3 F Aa 2 Aa).q fun a w F W => ?_
   refine ls F W Aa (Az (v := Value.int .i64 x2.2.2.1) 0 F Aa Aa T3 Aa).q fun a w F W => ?_
   refine ls F W Aa (Ak EN Aa Aa Aa T3 F Aa 3 Aa).q fun a w F W => ?_
   refine ls F W Aa (Az (v := Value.int .i64 x2.2.2.2.1) 0 F Aa Aa T3 Aa).q fun a w F W => ?_
   refine ls F W Aa (D0 (v := Value.agg #[.int .i64 x2.2.2.1, .int .i64 x2.2.2.2.1]) Og F Aa Aa Aa).q fun a w F W => ?_
   refine ls F W Aa (NY (t := decide (p1 = x2.2.2.1 ∧ p2 = x2.2.2.2.1)) QT (QA _ _ _ _) F Aa Aa).q fun a w F W => ?_
   refine Ae (Ab ?_)
   refine AB F Aa (fun hb => ?_) fun hb => ?_
   ·
    have H := AR (Br hb) H
    rw [hb] at F
    clear hb
    refine Ah ?_
    refine BQ W MO (by kernel_rfl) ?_
    refine qs F Aa (Ak EN Aa Aa Aa T3 F Aa 0 Aa).q fun a F => ?_
    refine qs F Aa (Az (v := Value.int .i64 x2.1) 0 F Aa Aa T3 Aa).q fun a F => ?_
    refine qs F Aa (Ak EN Aa Aa Aa T3 F Aa 1 Aa).q fun a F => ?_
    refine qs F Aa (Az (v := Value.int .i64 x2.2.1) 0 F Aa Aa T3 Aa).q fun a F => ?_
    refine qs F Aa (Ad F Aa).q fun a F => ?_
    iterate 4 refine qs F Aa (Ag F Aa).q fun a F => ?_
    refine AZ fun w W => ?_
    refine Ab (AF (AU ?_))
    iterate 2 refine AK ?_
    refine AU (AK ?_)
    have H := L2 _ H
    have H := L1 _ H
    have H := AX H
    subst H
    refine LU (.inl Aa) F W Aa (Ay F Aa) (Ay F Aa) (Ay F Aa) (Ay F Aa) ?_
    exact ⟨rfl, W.done⟩
   have H := AS (Bq hb) H
   rw [hb] at F
   clear hb
   refine Au (AP (Ab (Ac ?_)))
   refine ls F W Aa (BL F Aa Aa Aa).q fun a w F W => ?_
   refine ls F W Aa (Ad F Aa).q fun a w F W => ?_
   refine Ae (Ab ?_)
   have W := W.frontM (i := 2) Aa Aa
   have W := W.frontM (i := 2) Aa Aa
   have W := W.sub (M' := [(b2, [.int .i64 p1, .int .i64 p2]), (b1, [.int .i64 p0.1, v1, v2])]) (Z' := []) (List.Sublist.cons_cons _ (List.Sublist.cons_cons _ (List.nil_sublist _))) (List.Sublist.refl _)
   exact ⟨_, H, F.re ⟨rfl, Aa, Aa, Aa, Aa, Aa, Aa, Aa, trivial⟩, W⟩
  have H := AS (Bq hb) H
  rw [hb] at F
  clear hb
  refine Bh ?_
  iterate 2 refine BK ?_
  refine Bj (Ab ?_)
  have W := W.frontM (i := 1) Aa Aa
  have W := W.frontM (i := 1) Aa Aa
  have H := L2 _ H
  exact ⟨H, F.re ⟨rfl, Aa, Aa, Aa, trivial⟩, W⟩
 rintro a w ⟨hj, F, W⟩
 have H := K1 _ hj
 clear hj G1 K1 L1
 refine Ah (Ac ?_)
 iterate 4 refine ls F W Aa (Ag F Aa).q fun a w F W => ?_
 refine Ae (Ab (AF ?_))
 have H := AX H
 subst H
 refine LU (.inl Aa) F W Aa (Ay F Aa) (Ay F Aa) (Ay F Aa) (Ay F Aa) ?_
 exact ⟨rfl, W.done⟩
theorem SB : Has Try.prog 74 := ⟨fun args w => Am Try.func74 rfl (by decide) args w⟩
noncomputable def Gb (p0 : Int × (List (Int × Int × Int × Int × Int × Int)) × (List (Int × Int))) (p1 : List (List Int)) (p2 : Int) (p3 : Int) : Option (Int × Bool) := (if p2 < 0 then some true else (if (p1.length : Int) ≤ p2 then some true else (if p3 < 0 then some true else (ix p1 p2).bind fun x2 => some (decide ((x2.length : Int) ≤ p3))))).bind fun x1 => (if x1 = true then some (0, false) else (ix p1 p2).bind fun x3 => (ix x3 p3).bind fun x4 => (EK p0 p2 x4).bind fun x5 => some (x5.1, x5.2.2.2))
theorem Mo (Y : Nat → Prop) (w0 : World) (v1 : Value) (v2 : Value) (v3 : Value) (p0 : Int × (List (Int × Int × Int × Int × Int × Int)) × (List (Int × Int))) (p1 : List (List Int)) (p2 : Int) (p3 : Int) (r : Int × Bool) (H : Gb p0 p1 p2 p3 = some r) (h_v1 : Sl w0 (NX []) Hu v1 p0.2.1) (h_v2 : Sl w0 (NX []) GH v2 p0.2.2) (h_v3 : Sl w0 (NX []) (Rp.slice (Rp.int .i64)) v3 p1) :
    Calls Try.prog 49 #[.agg #[.int .i64 p0.1, v1, v2], v3, .int .i64 p2, .int .i64 p3] w0 fun e w' => e = .returned (.tuple #[.int .i64 r.1, .bool r.2]) ∧ Below w0.heap.size w0 w' := by
 refine enter Try.func49 Aa Try.ntmps49 Aa fun a F => ?_
 have W := Stw.start Y w0
 obtain ⟨v4, h1, h_v3⟩ := h_v3.ex CR
 unfold Gb at H
 refine Ah (Ac ?_)
 refine E0 (cs := [.int .i64 p0.1, v1, v2]) F W Aa Aa Aa fun b1 a w F W => ?_
 iterate 2 refine ls F W Aa (Ag F Aa).q fun a w F W => ?_
 refine Ae (Ab (Ah ?_))
 obtain ⟨o1, G1, K1⟩ := Al H
 refine AM (fun a w => ∃ x1 : Bool, some (x1) = some o1 ∧ Fr 52 [] [(1, v3), (2, .int .i64 p2), (3, .int .i64 p3), (4, .pointer (some ⟨b1, 0, none⟩)), (8, .int .i64 0), (9, .bool false), (34, .bool x1)] a ∧ Stw ⟨Y, [], w0⟩ [(b1, [.int .i64 p0.1, v1, v2])] [] w) ?_ ?_
 ·
  have H := G1
  clear G1 K1
  refine Ac ?_
  refine ls F W Aa (Ad F Aa).q fun a w F W => ?_
  refine ls F W Aa (BM F Aa Aa).q fun a w F W => ?_
  refine ls F W Aa (Ad F Aa).q fun a w F W => ?_
  rcases Bool.eq_false_or_eq_true (decide (p2 < 0)) with hb | hb
  ·
   have H := AR (Br hb) H
   rw [hb] at F
   clear hb
   iterate 4 refine CX F Aa Aa Aa Aa Aa Aa Aa fun a F => ?_
   refine ls F W Aa (Aq F Aa Aa Aa).q fun a w F W => ?_
   refine ls F W Aa (Ad F Aa).q fun a w F W => ?_
   iterate 2 refine CX F Aa Aa Aa Aa Aa Aa Aa fun a F => ?_
   refine ls F W Aa (Aq F Aa Aa Aa).q fun a w F W => ?_
   refine ls F W Aa (Ad F Aa).q fun a w F W => ?_
   iterate 7 refine CX F Aa Aa Aa Aa Aa Aa Aa fun a F => ?_
   refine ls F W Aa (Aq F Aa Aa Aa).q fun a w F W => ?_
   refine Ae (Ab ?_)
   exact ⟨_, H, F.re ⟨rfl, Aa, Aa, Aa, Aa, Aa, Aa, trivial⟩, W⟩
  have H := AS (Bq hb) H
  rw [hb] at F
  clear hb
  iterate 2 refine AL F W (Af F Aa Aa Aa Aa) Aa (Aj Aa) (Ad F Aa).q fun a w F W => ?_
  refine AL F W (Af F Aa Aa Aa Aa) Aa (Aj Aa) (B0 (r := (Rp.slice (Rp.int .i64))) (l := p1) H2 Aa F Aa (BU CR h1 (Ao h_v3))).q fun a w F W => ?_
  refine AL F W (Af F Aa Aa Aa Aa) Aa (Aj Aa) (DL F Aa Aa).q fun a w F W => ?_
  refine ls F W Aa (AA F Aa Aa Aa).q fun a w F W => ?_
  refine ls F W Aa (Ad F Aa).q fun a w F W => ?_
  rcases Bool.eq_false_or_eq_true (decide ((p1.length : Int) ≤ p2)) with hb | hb
  ·
   have H := AR (Br hb) H
   rw [hb] at F
   clear hb
   iterate 2 refine CX F Aa Aa Aa Aa Aa Aa Aa fun a F => ?_
   refine ls F W Aa (Aq F Aa Aa Aa).q fun a w F W => ?_
   refine ls F W Aa (Ad F Aa).q fun a w F W => ?_
   iterate 7 refine CX F Aa Aa Aa Aa Aa Aa Aa fun a F => ?_
   refine ls F W Aa (Aq F Aa Aa Aa).q fun a w F W => ?_
   refine Ae (Ab ?_)
   exact ⟨_, H, F.re ⟨rfl, Aa, Aa, Aa, Aa, Aa, Aa, trivial⟩, W⟩
  have H := AS (Bq hb) H
  rw [hb] at F
  clear hb
  refine AL F W (Af F Aa Aa Aa Aa) Aa (Aj Aa) (Ad F Aa).q fun a w F W => ?_
  refine AL F W (Af F Aa Aa Aa Aa) Aa (Aj Aa) (BM F Aa Aa).q fun a w F W => ?_
  refine ls F W Aa (AA F Aa Aa Aa).q fun a w F W => ?_
  refine ls F W Aa (Ad F Aa).q fun a w F W => ?_
  rcases Bool.eq_false_or_eq_true (decide (p3 < 0)) with hb | hb
  ·
   have H := AR (Br hb) H
   rw [hb] at F
   clear hb
   iterate 7 refine CX F Aa Aa Aa Aa Aa Aa Aa fun a F => ?_
   refine ls F W Aa (Aq F Aa Aa Aa).q fun a w F W => ?_
   refine Ae (Ab ?_)
   exact ⟨_, H, F.re ⟨rfl, Aa, Aa, Aa, Aa, Aa, Aa, trivial⟩, W⟩
  have H := AS (Bq hb) H
  rw [hb] at F
  clear hb
  iterate 3 refine AL F W (Af F Aa Aa Aa Aa) Aa (Aj Aa) (Ad F Aa).q fun a w F W => ?_
  obtain ⟨x2, h2, H⟩ := Al H
  obtain ⟨v5, h3, h4⟩ := EC h1 h2
  have h5 : EJ v5 = [(v5.1)] := congrArg (fun q : List Int => ([(v5.1)] : List Value)) h4
  refine AL F W (Af F Aa Aa Aa Aa) Aa (Aj Aa) (Ax (r := (Rp.vsl (Rp.int .i64))) J0 F Aa Aa (Ao h_v3) h3).q fun a w F W => ?_
  refine AL F W (Af F Aa Aa Aa Aa) Aa (Aj Aa) (Ap (y := (v5.1)) (j := 0) (i := p2) (enc := EJ) F Aa Aa (Ao h_v3) h3 Ij KG (by rw [h5]; rfl)).q fun a w F W => ?_
  refine AL F W (Af F Aa Aa Aa Aa) Aa (Aj Aa) (B0 (r := (Rp.int .i64)) (l := x2) HG Aa F Aa (CV (Ao h_v3) h3 Cg.here (congrArg (fun q : List Int => q) h4))).q fun a w F W => ?_
  refine AL F W (Af F Aa Aa Aa Aa) Aa (Aj Aa) (DL F Aa Aa).q fun a w F W => ?_
  refine ls F W Aa (AA F Aa Aa Aa).q fun a w F W => ?_
  refine Ae (Ab ?_)
  exact ⟨_, H, F.re ⟨rfl, Aa, Aa, Aa, Aa, Aa, Aa, trivial⟩, W⟩
 rintro a w ⟨x1, hj, F, W⟩
 have hj := AX hj
 subst hj
 have H := K1
 clear G1 K1
 refine AB F Aa (fun hb => ?_) fun hb => ?_
 ·
  have H := AR hb H
  rw [hb] at F
  clear hb
  refine Ah (Ac ?_)
  iterate 2 refine ls F W Aa (Ag F Aa).q fun a w F W => ?_
  refine Ae (Ab (AF (AK ?_)))
  have H := AX H
  subst H
  refine E2 (.inl Aa) F W Aa (Ay F Aa) (Ay F Aa) ?_
  exact ⟨rfl, W.done⟩
 have H := AS (by rw [hb]; decide) H
 rw [hb] at F
 clear hb
 refine Au (Ab (Ah ?_))
 refine BQ W MO (by kernel_rfl) ?_
 refine qs F Aa (Az (v := Value.agg #[.int .i64 p0.1, v1, v2]) 0 F Aa Aa JB Aa).q fun a F => ?_
 iterate 3 refine qs F Aa (Ad F Aa).q fun a F => ?_
 obtain ⟨x3, h6, H⟩ := Al H
 obtain ⟨v6, h7, h8⟩ := EC h1 h6
 have h9 : EJ v6 = [(v6.1)] := congrArg (fun q : List Int => ([(v6.1)] : List Value)) h8
 refine qs F Aa (Ax (r := (Rp.vsl (Rp.int .i64))) J0 F Aa Aa (Ao h_v3) h7).q fun a F => ?_
 refine qs F Aa (Ap (y := (v6.1)) (j := 0) (i := p2) (enc := EJ) F Aa Aa (Ao h_v3) h7 Ij KG (by rw [h9]; rfl)).q fun a F => ?_
 refine qs F Aa (Ad F Aa).q fun a F => ?_
 obtain ⟨x4, h10, H⟩ := Al H
 refine qs F Aa (Ax (r := (Rp.int .i64)) GP F Aa Aa (CV (Ao h_v3) h7 Cg.here (congrArg (fun q : List Int => q) h8)) h10).q fun a F => ?_
 refine qs F Aa (Ap (y := Value.int .i64 x4) (j := 0) (i := p3) F Aa Aa (CV (Ao h_v3) h7 Cg.here (congrArg (fun q : List Int => q) h8)) h10 Fl.int.to T3 Aa).q fun a F => ?_
 obtain ⟨x5, h11, H⟩ := Al H
 refine qs F Aa (BV (v := Value.tuple #[.int .i64 x5.1, .int .i64 x5.2.1, .int .i64 x5.2.2.1, .bool x5.2.2.2]) F SB Aa (fun w W => MZ any w (v1) (v2) p0 p2 x4 _ h11 (((Ao h_v1) : Ec _ _ _ _ _ _) w W).nx (((Ao h_v2) : Ec _ _ _ _ _ _) w W).nx)) fun a F => ?_
 refine qs F Aa (Ad F Aa).q fun a F => ?_
 refine qs F Aa (BI (v := Value.int .i64 x5.1) F Aa Aa).q fun a F => ?_
 refine qs F Aa (BI (v := Value.int .i64 x5.2.1) F Aa Aa).q fun a F => ?_
 refine qs F Aa (BI (v := Value.int .i64 x5.2.2.1) F Aa Aa).q fun a F => ?_
 refine qs F Aa (BI (v := Value.bool x5.2.2.2) F Aa Aa).q fun a F => ?_
 iterate 4 refine qs F Aa (Ag F Aa).q fun a F => ?_
 refine AZ fun w W => ?_
 refine Ab (Ah (Ac ?_))
 iterate 2 refine ls F W Aa (Ad F Aa).q fun a w F W => ?_
 iterate 2 refine ls F W Aa (Ag F Aa).q fun a w F W => ?_
 refine Ae (Ab (AF ?_))
 have H := AX H
 subst H
 refine E2 (.inl Aa) F W Aa (Ay F Aa) (Ay F Aa) ?_
 exact ⟨rfl, W.done⟩
theorem SH : Has Try.prog 49 := ⟨fun args w => Am Try.func49 rfl (by decide) args w⟩
noncomputable def CD (p0 : List Int) (p1 : Int) : Int → Option (Int ⊕ (Unit ⊕ Bool))
  | x1 => (if x1 < (p0.length : Int) then (ix p0 x1).bind fun x2 => (if p1 = x2 then some (.inr (.inr true)) else some (.inl (AC (x1 + 1)))) else some (.inr (.inl ())))
noncomputable def Dh (p0 : List Int) (p1 : Int) : Option Bool := FN (AO (CD p0 p1) 0) fun _ => some false
theorem IX (Y : Nat → Prop) (w0 : World) (v1 : Value) (p0 : List Int) (p1 : Int) (r : Bool) (H : Dh p0 p1 = some r) (h_v1 : Sl w0 (NX []) (Rp.int .i64) v1 p0) :
    Calls Try.prog 50 #[v1, .int .i64 p1] w0 fun e w' => e = .returned (.bool r) ∧ Below w0.heap.size w0 w' := by
 refine enter Try.func50 Aa Try.ntmps50 Aa fun a F => ?_
 have W := Stw.start Y w0
 unfold Dh at H
 refine Ah (Ac ?_)
 refine ls F W Aa (Ag F Aa).q fun a w F W => ?_
 refine Ae (Ab ?_)
 obtain ⟨o1, G1, K1, L1⟩ := Jq H
 refine AM (fun a w => some (Sum.inl ()) = some o1 ∧ Fr 17 [] [(4, .bool false)] a ∧ Stw ⟨Y, [], w0⟩ [] [] w) ?_ ?_
 ·
  have H := G1
  clear G1 K1
  refine Ah (Ac ?_)
  refine ls F W Aa (Ad F Aa).q fun a w F W => ?_
  refine ls F W Aa (B0 (r := (Rp.int .i64)) (l := p0) HG Aa F Aa (Ao h_v1)).q fun a w F W => ?_
  refine ls F W Aa (Ad F Aa).q fun a w F W => ?_
  refine Ae (Ab (Av ?_))
  refine Bk H (fun s a w => Fr 17 [] [(1, .int .i64 p1), (4, .bool false), (7, v1), (8, .int .i64 (p0.length : Int)), (9, .int .i64 s)] a ∧ Stw ⟨Y, [], w0⟩ [] [] w) ⟨F.re ⟨rfl, Aa, Aa, Aa, Aa, trivial⟩, W⟩ fun s o a w H L2 hR => ?_
  obtain ⟨x1, rfl⟩ : ∃ x, x = s := ⟨s, rfl⟩
  obtain ⟨F, W⟩ := hR
  have F : Fr 17 [] [(1, .int .i64 p1), (4, .bool false), (7, v1), (8, .int .i64 (p0.length : Int)), (9, .int .i64 x1)] a := F
  have W : Stw ⟨Y, [], w0⟩ [] [] w := W
  rw [CD] at H
  refine Ah (Ac ?_)
  refine ls F W Aa (BM F Aa Aa).q fun a w F W => ?_
  refine Ae (Ab (Ah ?_))
  refine AB F Aa (fun hb => ?_) fun hb => ?_
  ·
   have H := AR (Br hb) H
   rw [hb] at F
   clear hb
   refine Au (Ab (Ah (Av (Ah (Ac ?_)))))
   obtain ⟨x2, h1, H⟩ := Al H
   refine ls F W Aa (Ax (r := (Rp.int .i64)) GP F Aa Aa (Ao h_v1) h1).q fun a w F W => ?_
   refine ls F W Aa (Ap (y := Value.int .i64 x2) (j := 0) (i := x1) F Aa Aa (Ao h_v1) h1 Fl.int.to T3 Aa).q fun a w F W => ?_
   refine ls F W Aa (Ag F Aa).q fun a w F W => ?_
   refine Ae (Ab (Ah (Ac ?_)))
   iterate 2 refine ls F W Aa (Ad F Aa).q fun a w F W => ?_
   refine ls F W Aa (Dx F Aa Aa).q fun a w F W => ?_
   refine Ae (Ab ?_)
   refine AB F Aa (fun hb => ?_) fun hb => ?_
   ·
    have H := AR (Br hb) H
    rw [hb] at F
    clear hb
    refine Ah (Ac ?_)
    refine ls F W Aa (Ag F Aa).q fun a w F W => ?_
    refine Ae (Ab (AF (AU ?_)))
    iterate 2 refine AK ?_
    refine AU (AK ?_)
    have H := L2 _ H
    have H := L1 _ H
    have H := AX H
    subst H
    refine BA (.inl Aa) F W Aa (Ay F Aa) ?_
    exact ⟨rfl, W.done⟩
   have H := AS (Bq hb) H
   rw [hb] at F
   clear hb
   refine Au (AP (Ab (Ac ?_)))
   refine ls F W Aa (BL F Aa Aa Aa).q fun a w F W => ?_
   refine ls F W Aa (Ad F Aa).q fun a w F W => ?_
   refine Ae (Ab ?_)
   exact ⟨_, H, F.re ⟨rfl, Aa, Aa, Aa, Aa, trivial⟩, W⟩
  have H := AS (Bq hb) H
  rw [hb] at F
  clear hb
  refine Bh ?_
  iterate 2 refine BK ?_
  refine Bj (Ab ?_)
  have H := L2 _ H
  exact ⟨H, F.re ⟨rfl, trivial⟩, W⟩
 rintro a w ⟨hj, F, W⟩
 have H := K1 _ hj
 clear hj G1 K1 L1
 refine Ah (Ac ?_)
 refine ls F W Aa (Ag F Aa).q fun a w F W => ?_
 refine Ae (Ab (AF ?_))
 have H := AX H
 subst H
 refine BA (.inl Aa) F W Aa (Ay F Aa) ?_
 exact ⟨rfl, W.done⟩
end Go.Proofs.Ythiejmoddfenlaa
