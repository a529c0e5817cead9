/- The functions of layer 24, Ig. Conditions: none. -/
import Derived.Test.YtghpabmmdenaoaaRows
import Derived.Test.YtghpabmmdenaoaabQT
import Derived.Test.YtghpabmmdenaoaabOT
import Derived.Test.YtghpabmmdenaoaabOD
import Derived.Test.YtghpabmmdenaoaabOC
import Derived.Test.YtghpabmmdenaoaabOM
import Derived.Test.YtghpabmmdenaoaabOX
namespace Go.Proofs.Ytghpabmmdenaoaa
open Go Go.RowKit
set_option linter.unusedVariables false
set_option linter.unusedSimpArgs false
set_option maxRecDepth 20000
theorem O4 : type_of% Try.underlying22 := Try.underlying22
theorem Od : type_of% Try.underlying23 := Try.underlying23
theorem IE : type_of% Try.underlying25 := Try.underlying25
theorem IK : type_of% Try.underlying51 := Try.underlying51
theorem RV : type_of% Try.underlying53 := Try.underlying53
theorem Sd : type_of% Try.underlying126 := Try.underlying126
theorem Lp : type_of% Try.underlying129 := Try.underlying129
abbrev Ii : Rp (Int × Int × Int × Int × Int × Int) := (Rp.pair (Rp.int .i64) (Rp.pair (Rp.int .i64) (Rp.pair (Rp.int .i64) (Rp.pair (Rp.int .i64) (Rp.pair (Rp.int .i64) (Rp.int .i64))))))
abbrev Ip : Rp (Int × Int) := (Rp.pair (Rp.int .i64) (Rp.int .i64))
abbrev Ua (p : Value × List Int) : List Int := p.2
theorem Er : Ex (Rp.slice (Rp.int .i64)) (Rp.vsl (Rp.int .i64)) Ua := Ex.sliceF
theorem Mk : Ty Try.prog 25 true 3 := ⟨by kernel_rfl, by kernel_rfl⟩
theorem T3 : Ty Try.prog 3 false 1 := ⟨by kernel_rfl, by kernel_rfl⟩
theorem Qt : Ty Try.prog 22 false 1 := ⟨by kernel_rfl, by kernel_rfl⟩
theorem Pu : Ty Try.prog 23 false 1 := ⟨by kernel_rfl, by kernel_rfl⟩
abbrev Iq (x : Int × Int) : Value := .agg #[.int .i64 x.1, .int .i64 x.2]
abbrev IH (x : Unit) : Value := .agg #[]
theorem Tq : Et Try.prog 22 51 6 48 := Et.of O4 (by kernel_rfl) (by kernel_rfl) (by kernel_rfl) (by decide)
def VZ (a : Int × Int × Int × Int × Int × Int) : List Value := [.int .i64 a.1, .int .i64 a.2.1, .int .i64 a.2.2.1, .int .i64 a.2.2.2.1, .int .i64 a.2.2.2.2.1, .int .i64 a.2.2.2.2.2]
theorem S8 : Fl Ii VZ := (Fl.pair Fl.int (Fl.pair Fl.int (Fl.pair Fl.int (Fl.pair Fl.int (Fl.pair Fl.int Fl.int)))))
theorem Sr : Ty Try.prog 51 true 6 := ⟨by kernel_rfl, by kernel_rfl⟩
theorem TJ : (Try.prog.info? 51).bind (·.zero) = some (.agg #[.int .i64 0, .int .i64 0, .int .i64 0, .int .i64 0, .int .i64 0, .int .i64 0]) := by kernel_rfl
theorem Qb : Bt Try.prog 129 [.int .i64 0, .int .i64 0] [(0, 1), (1, 1)] := ⟨⟨.agg #[.int .i64 0, .int .i64 0], by kernel_rfl, rfl⟩, ⟨_, Lp, fun w => by kernel_rfl⟩⟩
theorem RT : (Try.prog.info? 129).bind (·.zero) = some (.agg #[.int .i64 0, .int .i64 0]) := by kernel_rfl
abbrev Gt : Rp (Int × Int) := (Rp.pair (Rp.int .i64) (Rp.int .i64))
def Ue (a : Int × Int) : List Value := [.int .i64 a.1, .int .i64 a.2]
theorem SP : Fl Gt Ue := (Fl.pair Fl.int Fl.int)
theorem QC : Et Try.prog 126 129 2 16 := Et.of Sd (by kernel_rfl) (by kernel_rfl) (by kernel_rfl) (by decide)
theorem Us : Et Try.prog 23 53 2 16 := Et.of Od (by kernel_rfl) (by kernel_rfl) (by kernel_rfl) (by decide)
def VW (a : Int × Int) : List Value := [.int .i64 a.1, .int .i64 a.2]
theorem T7 : Fl Ip VW := (Fl.pair Fl.int Fl.int)
theorem TN : Ty Try.prog 53 true 2 := ⟨by kernel_rfl, by kernel_rfl⟩
theorem Uy : (Try.prog.info? 53).bind (·.zero) = some (.agg #[.int .i64 0, .int .i64 0]) := by kernel_rfl
noncomputable def DW (p0 : Int × (List (Int × Int × Int × Int × Int × Int)) × (List (Int × Int))) : ((List (Int × Int)) × Int) → Option (((List (Int × Int)) × Int) ⊕ (List (Int × Int)))
  | (x2, x3) => (if x3 < (p0.2.1.length : Int) then (ix p0.2.1 x3).bind fun x4 => (KF x2 ([(x4.1, x4.2.1), (x4.2.2.1, x4.2.2.2.1)] : List (Int × Int))).bind fun x5 => some (.inl (x5, Az (x3 + 1))) else some (.inr x2))
noncomputable def DN (p0 : Int × (List (Int × Int × Int × Int × Int × Int)) × (List (Int × Int))) : ((List (Int × Int)) × Int) → Option (((List (Int × Int)) × Int) ⊕ (List (Int × Int)))
  | (x7, x8) => (if x8 < (p0.2.2.length : Int) then (ix p0.2.2 x8).bind fun x9 => (KF x7 ([x9] : List (Int × Int))).bind fun x10 => some (.inl (x10, Az (x8 + 1))) else some (.inr x7))
noncomputable def FG (p0 : Int × (List (Int × Int × Int × Int × Int × Int)) × (List (Int × Int))) : Option (List (Int × Int)) := (AH (DW p0) ([], 0)).bind fun x1 => (AH (DN p0) (x1, 0)).bind fun x6 => some x6
theorem MG (Y : Nat → Prop) (w0 : World) (v1 : Value) (v2 : Value) (p0 : Int × (List (Int × Int × Int × Int × Int × Int)) × (List (Int × Int))) (r : (List (Int × Int))) (H : FG p0 = some r) (h_v1 : Sl w0 (NX []) Ii v1 p0.2.1) (h_v2 : Sl w0 (NX []) Ip v2 p0.2.2) :
    Calls Try.prog 68 #[.agg #[.int .i64 p0.1, v1, v2]] w0 fun e w' => ∃ x : Value, e = .returned (x) ∧ Stw ⟨Y, [], w0⟩ [] [row (x) 129 Gt r] w' := by
 refine enter Try.func68 Aa Try.ntmps68 Aa fun a F => ?_
 have W := Stw.start Y w0
 unfold FG at H
 refine Ah (Ac ?_)
 refine EQ (cs := [.int .i64 p0.1, v1, v2]) F W Aa Aa Aa fun b1 a w F W => ?_
 refine ls F W Aa (Af F Aa).q fun a w F W => ?_
 refine Ae (Ab (Ah (Ac ?_)))
 refine ls F W Aa (Af F Aa).q fun a w F W => ?_
 refine Ae (Ab ?_)
 obtain ⟨o1, G1, K1⟩ := Ak H
 refine AK (fun a w => ∃ x1 : List (Int × Int), ∃ v3 : Value, some (x1) = some o1 ∧ Fr 46 [] [(1, .pointer (some ⟨b1, 0, none⟩)), (2, .slice none 0 0), (3, v3)] a ∧ Stw ⟨Y, [], w0⟩ [(b1, [.int .i64 p0.1, v1, v2])] [row v3 129 Gt x1] w) ?_ ?_
 ·
  have H := G1
  clear G1 K1
  refine Ah (Ac ?_)
  refine ls F W Aa (Am IE Aa Aa Aa Qt F Aa 1 Aa).q fun a w F W => ?_
  refine ls F W Aa (AB (v := v1) 0 F Aa Aa Qt Aa).q fun a w F W => ?_
  refine ls F W Aa (B1 (r := Ii) (l := p0.2.1) O4 Aa F Aa (Ap h_v1)).q fun a w F W => ?_
  refine ls F W Aa (Ad F Aa).q fun a w F W => ?_
  refine Ae (Ab (As ?_))
  have W := W.nilRow 129 Gt
  refine Bh H (fun s a w => ∃ v4 : Value, Fr 46 [] [(1, .pointer (some ⟨b1, 0, none⟩)), (2, .slice none 0 0), (3, v4), (9, v1), (10, .int .i64 (p0.2.1.length : Int)), (11, .int .i64 s.2)] a ∧ Stw ⟨Y, [], w0⟩ [(b1, [.int .i64 p0.1, v1, v2])] [row v4 129 Gt s.1] w) ⟨(Value.slice none 0 0), F.re ⟨rfl, Aa, Aa, Aa, Aa, Aa, trivial⟩, W⟩ fun s o a w H L2 hR => ?_
  obtain ⟨x2, x3⟩ := s
  obtain ⟨v4, F, W⟩ := hR
  have F : Fr 46 [] [(1, .pointer (some ⟨b1, 0, none⟩)), (2, .slice none 0 0), (3, v4), (9, v1), (10, .int .i64 (p0.2.1.length : Int)), (11, .int .i64 x3)] a := F
  have W : Stw ⟨Y, [], w0⟩ [(b1, [.int .i64 p0.1, v1, v2])] [row v4 129 Gt x2] w := W
  rw [DW] at H
  refine Ah (Ac ?_)
  refine ls F W Aa (BI F Aa Aa).q fun a w F W => ?_
  refine Ae (Ab (Ah ?_))
  refine Ay F Aa (fun hb => ?_) fun hb => ?_
  ·
   have H := AP (Bm hb) H
   rw [hb] at F
   clear hb
   refine Aq (Ab (Ah (As (Ah (Ac ?_)))))
   obtain ⟨x4, h1, H⟩ := Ak H
   refine ls F W Aa (AC (r := Ii) Tq F Aa Aa (Ap h_v1) h1).q fun a w F W => ?_
   refine ls F W Aa (Ao (y := Value.agg #[.int .i64 x4.1, .int .i64 x4.2.1, .int .i64 x4.2.2.1, .int .i64 x4.2.2.2.1, .int .i64 x4.2.2.2.2.1, .int .i64 x4.2.2.2.2.2]) (j := 0) (i := x3) F Aa Aa (Ap h_v1) h1 S8.to Sr Aa).q fun a w F W => ?_
   refine CB (cs := [.int .i64 0, .int .i64 0, .int .i64 0, .int .i64 0, .int .i64 0, .int .i64 0]) F W Aa TJ Aa fun b2 a w F W => ?_
   refine BW (vs := [.int .i64 x4.1, .int .i64 x4.2.1, .int .i64 x4.2.2.1, .int .i64 x4.2.2.2.1, .int .i64 x4.2.2.2.2.1, .int .i64 x4.2.2.2.2.2]) (M' := [(b2, [.int .i64 x4.1, .int .i64 x4.2.1, .int .i64 x4.2.2.1, .int .i64 x4.2.2.2.1, .int .i64 x4.2.2.2.2.1, .int .i64 x4.2.2.2.2.2]), (b1, [.int .i64 p0.1, v1, v2])]) 0 F W Aa Aa Aa Sr Aa Aa Aa Aa Aa fun w W => ?_
   refine Ae (Ab (Ac ?_))
   refine ls F W Aa (Ad F Aa).q fun a w F W => ?_
   refine ls F W Aa (Am IK Aa Aa Aa T3 F Aa 0 Aa).q fun a w F W => ?_
   refine ls F W Aa (AB (v := Value.int .i64 x4.1) 0 F Aa Aa T3 Aa).q fun a w F W => ?_
   refine ls F W Aa (Am IK Aa Aa Aa T3 F Aa 1 Aa).q fun a w F W => ?_
   refine ls F W Aa (AB (v := Value.int .i64 x4.2.1) 0 F Aa Aa T3 Aa).q fun a w F W => ?_
   refine ls F W Aa (CE (v := Value.agg #[.int .i64 x4.1, .int .i64 x4.2.1]) Qb F Aa Aa Aa).q fun a w F W => ?_
   refine ls F W Aa (Am IK Aa Aa Aa T3 F Aa 2 Aa).q fun a w F W => ?_
   refine ls F W Aa (AB (v := Value.int .i64 x4.2.2.1) 0 F Aa Aa T3 Aa).q fun a w F W => ?_
   refine ls F W Aa (Am IK Aa Aa Aa T3 F Aa 3 Aa).q fun a w F W => ?_
   refine ls F W Aa (AB (v := Value.int .i64 x4.2.2.2.1) 0 F Aa Aa T3 Aa).q fun a w F W => ?_
   refine ls F W Aa (CE (v := Value.agg #[.int .i64 x4.2.2.1, .int .i64 x4.2.2.2.1]) Qb F Aa Aa Aa).q fun a w F W => ?_
   refine E9 (z := Value.agg #[.int .i64 0, .int .i64 0]) (cs := [.int .i64 x4.1, .int .i64 x4.2.1, .int .i64 x4.2.2.1, .int .i64 x4.2.2.2.1]) Gt ([(x4.1, x4.2.1), (x4.2.2.1, x4.2.2.2.1)] : List (Int × Int)) F W Aa QC RT Aa Aa Aa Aa Aa Aa (SP.repL _ _ ([(x4.1, x4.2.1), (x4.2.2.1, x4.2.2.2.1)] : List (Int × Int))) fun v5 a w F W => ?_
   obtain ⟨x5, h2, H⟩ := Ak H
   refine Fb (r := Gt) (i := 1) F W Aa QC Aa Aa Aa Aa (GD W 0 Aa) h2 Aa fun v6 a w F W => ?_
   have W : Stw ⟨Y, [], w0⟩ [(b2, [.int .i64 x4.1, .int .i64 x4.2.1, .int .i64 x4.2.2.1, .int .i64 x4.2.2.2.1, .int .i64 x4.2.2.2.2.1, .int .i64 x4.2.2.2.2.2]), (b1, [.int .i64 p0.1, v1, v2])] [row v6 129 Gt x5, row v5 129 Gt ([(x4.1, x4.2.1), (x4.2.2.1, x4.2.2.2.1)] : List (Int × Int))] w := W
   refine ls F W Aa (Af F Aa).q fun a w F W => ?_
   refine Ae (AM (Ab (Ac ?_)))
   refine ls F W Aa (Bp F Aa Aa Aa).q fun a w F W => ?_
   refine ls F W Aa (Ad F Aa).q fun a w F W => ?_
   refine Ae (Ab ?_)
   have W := W.frontM (i := 1) Aa Aa
   have W := W.sub (M' := [(b1, [.int .i64 p0.1, v1, v2])]) (Z' := [row v6 129 Gt x5]) (List.Sublist.cons_cons _ (List.nil_sublist _)) (List.Sublist.cons_cons _ (List.nil_sublist _))
   exact ⟨_, H, (v6), F.re ⟨rfl, Aa, Aa, Aa, Aa, Aa, trivial⟩, W⟩
  have H := AO (Bn hb) H
  rw [hb] at F
  clear hb
  refine A5 ?_
  iterate 2 refine Bk ?_
  refine A6 (Ab ?_)
  have H := L2 _ H
  exact ⟨_, (v4), H, F.re ⟨rfl, Aa, Aa, trivial⟩, W⟩
 rintro a w ⟨x1, v3, hj, F, W⟩
 have hj := AQ hj
 subst hj
 have H := K1
 clear G1 K1
 obtain ⟨o3, G3, K3⟩ := Ak H
 refine AK (fun a w => ∃ x6 : List (Int × Int), ∃ v7 : Value, some (x6) = some o3 ∧ Fr 46 [] [(2, .slice none 0 0), (3, v7)] a ∧ Stw ⟨Y, [], w0⟩ [(b1, [.int .i64 p0.1, v1, v2])] [row v7 129 Gt x6] w) ?_ ?_
 ·
  have H := G3
  clear G3 K3
  refine Ah (Ac ?_)
  refine ls F W Aa (Am IE Aa Aa Aa Pu F Aa 2 Aa).q fun a w F W => ?_
  refine ls F W Aa (AB (v := v2) 0 F Aa Aa Pu Aa).q fun a w F W => ?_
  refine ls F W Aa (B1 (r := Ip) (l := p0.2.2) Od Aa F Aa (Ap h_v2)).q fun a w F W => ?_
  refine ls F W Aa (Ad F Aa).q fun a w F W => ?_
  refine Ae (Ab (As ?_))
  refine Bh H (fun s a w => ∃ v8 : Value, Fr 46 [] [(2, .slice none 0 0), (3, v8), (30, v2), (31, .int .i64 (p0.2.2.length : Int)), (32, .int .i64 s.2)] a ∧ Stw ⟨Y, [], w0⟩ [(b1, [.int .i64 p0.1, v1, v2])] [row v8 129 Gt s.1] w) ⟨(v3), F.re ⟨rfl, Aa, Aa, Aa, Aa, trivial⟩, W⟩ fun s o a w H L4 hR => ?_
  obtain ⟨x7, x8⟩ := s
  obtain ⟨v8, F, W⟩ := hR
  have F : Fr 46 [] [(2, .slice none 0 0), (3, v8), (30, v2), (31, .int .i64 (p0.2.2.length : Int)), (32, .int .i64 x8)] a := F
  have W : Stw ⟨Y, [], w0⟩ [(b1, [.int .i64 p0.1, v1, v2])] [row v8 129 Gt x7] w := W
  rw [DN] at H
  refine Ah (Ac ?_)
  refine ls F W Aa (BI F Aa Aa).q fun a w F W => ?_
  refine Ae (Ab (Ah ?_))
  refine Ay F Aa (fun hb => ?_) fun hb => ?_
  ·
   have H := AP (Bm hb) H
   rw [hb] at F
   clear hb
   refine Aq (Ab (Ah (As (Ah (Ac ?_)))))
   obtain ⟨x9, h3, H⟩ := Ak H
   refine ls F W Aa (AC (r := Ip) Us F Aa Aa (Ap h_v2) h3).q fun a w F W => ?_
   refine ls F W Aa (Ao (y := Value.agg #[.int .i64 x9.1, .int .i64 x9.2]) (j := 0) (i := x8) F Aa Aa (Ap h_v2) h3 T7.to TN Aa).q fun a w F W => ?_
   refine CB (cs := [.int .i64 0, .int .i64 0]) F W Aa Uy Aa fun b3 a w F W => ?_
   refine BW (vs := [.int .i64 x9.1, .int .i64 x9.2]) (M' := [(b3, [.int .i64 x9.1, .int .i64 x9.2]), (b1, [.int .i64 p0.1, v1, v2])]) 0 F W Aa Aa Aa TN Aa Aa Aa Aa Aa fun w W => ?_
   refine Ae (Ab (Ac ?_))
   refine ls F W Aa (Ad F Aa).q fun a w F W => ?_
   refine ls F W Aa (Am RV Aa Aa Aa T3 F Aa 0 Aa).q fun a w F W => ?_
   refine ls F W Aa (AB (v := Value.int .i64 x9.1) 0 F Aa Aa T3 Aa).q fun a w F W => ?_
   refine ls F W Aa (Am RV Aa Aa Aa T3 F Aa 1 Aa).q fun a w F W => ?_
   refine ls F W Aa (AB (v := Value.int .i64 x9.2) 0 F Aa Aa T3 Aa).q fun a w F W => ?_
   refine ls F W Aa (CE (v := Value.agg #[.int .i64 x9.1, .int .i64 x9.2]) Qb F Aa Aa Aa).q fun a w F W => ?_
   refine E9 (z := Value.agg #[.int .i64 0, .int .i64 0]) (cs := [.int .i64 x9.1, .int .i64 x9.2]) Gt ([x9] : List (Int × Int)) F W Aa QC RT Aa Aa Aa Aa Aa Aa (SP.repL _ _ ([x9] : List (Int × Int))) fun v9 a w F W => ?_
   obtain ⟨x10, h4, H⟩ := Ak H
   refine Fb (r := Gt) (i := 1) F W Aa QC Aa Aa Aa Aa (GD W 0 Aa) h4 Aa fun v10 a w F W => ?_
   have W : Stw ⟨Y, [], w0⟩ [(b3, [.int .i64 x9.1, .int .i64 x9.2]), (b1, [.int .i64 p0.1, v1, v2])] [row v10 129 Gt x10, row v9 129 Gt ([x9] : List (Int × Int))] w := W
   refine ls F W Aa (Af F Aa).q fun a w F W => ?_
   refine Ae (AM (Ab (Ac ?_)))
   refine ls F W Aa (Bp F Aa Aa Aa).q fun a w F W => ?_
   refine ls F W Aa (Ad F Aa).q fun a w F W => ?_
   refine Ae (Ab ?_)
   have W := W.frontM (i := 1) Aa Aa
   have W := W.sub (M' := [(b1, [.int .i64 p0.1, v1, v2])]) (Z' := [row v10 129 Gt x10]) (List.Sublist.cons_cons _ (List.nil_sublist _)) (List.Sublist.cons_cons _ (List.nil_sublist _))
   exact ⟨_, H, (v10), F.re ⟨rfl, Aa, Aa, Aa, Aa, trivial⟩, W⟩
  have H := AO (Bn hb) H
  rw [hb] at F
  clear hb
  refine A5 ?_
  iterate 2 refine Bk ?_
  refine A6 (Ab ?_)
  have H := L4 _ H
  exact ⟨_, (v8), H, F.re ⟨rfl, Aa, trivial⟩, W⟩
 rintro a w ⟨x6, v7, hj, F, W⟩
 have hj := AQ hj
 subst hj
 have H := K3
 clear G3 K3
 refine Ah (Ac ?_)
 refine ls F W Aa (Ad F Aa).q fun a w F W => ?_
 refine ls F W Aa (Af F Aa).q fun a w F W => ?_
 refine Ae (Ab (AF ?_))
 have H := AQ H
 subst H
 refine Bj (.inl Aa) F W Aa (AD F Aa) ?_
 have W := W.sub (M' := []) (Z' := [row v7 129 Gt x6]) (List.nil_sublist _) (List.Sublist.refl _)
 exact ⟨(v7), Aa, W⟩
theorem OI : type_of% Try.underlying3 := Try.underlying3
theorem S5 : type_of% Try.underlying130 := Try.underlying130
theorem U4 : Has Try.prog 68 := ⟨fun args w => Al Try.func68 rfl (by decide) args w⟩
theorem O0 : Ty Try.prog 129 true 2 := ⟨by kernel_rfl, by kernel_rfl⟩
theorem Ts (dd : Nat) (x0 : Int) (x1 : Int) (y0 : Int) (y1 : Int) (w : World) : (Op.equalIn (dd + 2) 129 (.agg #[.int .i64 x0, .int .i64 x1]) (.agg #[.int .i64 y0, .int .i64 y1])).run Try.prog w = .ok (decide (x0 = y0 ∧ x1 = y1)) w :=
  JH (d := dd + 1) (rs := [decide (x0 = y0), decide (x1 = y1)]) Lp (by kernel_rfl) ⟨rfl, In (d := dd + 0) rfl rfl OI T3 rfl rfl, rfl, In (d := dd + 0) rfl rfl OI T3 rfl rfl, trivial⟩ (by simp) w
theorem TA : Try.prog.eqGuardType Try.prog.depth 129 = false := by kernel_rfl
theorem Sx (x0 : Int) (x1 : Int) (y0 : Int) (y1 : Int) (w : World) : (Op.equalIn 10000 129 (.agg #[.int .i64 x0, .int .i64 x1]) (.agg #[.int .i64 y0, .int .i64 y1])).run Try.prog w = .ok (decide (x0 = y0 ∧ x1 = y1)) w := Ts 9998 x0 x1 y0 y1 w
theorem Sn : KeyEnc Try.prog 129 Iq := ⟨⟨_, Lp, .inl fun _ _ => rfl⟩, fun x y w => (Sx x.1 x.2 y.1 y.2 w).trans (by congr 1; exact decide_eq_decide.2 (by simp only [Prod.ext_iff])), fun b x w => LG (m := 9999) (cs := List.toArray [.int .i64 x.1, .int .i64 x.2]) Lp ⟨⟨_, Oc T3 rfl, Jc (m := 9998) OI⟩, ⟨_, Oc T3 rfl, Jc (m := 9998) OI⟩, trivial⟩ b w, fun x => by simp [Instr.sameBits]⟩
theorem Ti : (Try.prog.info? 130).bind (·.zero) = some (.agg #[]) := by kernel_rfl
theorem T2 : Ty Try.prog 130 true 0 := ⟨by kernel_rfl, by kernel_rfl⟩
theorem T0 : Bt Try.prog 130 [] [] := ⟨⟨.agg #[], by kernel_rfl, rfl⟩, ⟨_, S5, fun w => by kernel_rfl⟩⟩
def Cx (p0 : Int × Int × Int × Int × Int × Int) : Bool := (decide (p0.1 = p0.2.2.1) || (decide (p0.2.2.2.2.1 < 1) || (decide (p0.2.2.2.2.2 < p0.2.2.2.2.1) || decide (1000 < p0.2.2.2.2.2))))
theorem KY (Y : Nat → Prop) (w0 : World)  (p0 : Int × Int × Int × Int × Int × Int) (r : Bool) (H : Cx p0 = r)  :
    Calls Try.prog 70 #[.agg #[.int .i64 p0.1, .int .i64 p0.2.1, .int .i64 p0.2.2.1, .int .i64 p0.2.2.2.1, .int .i64 p0.2.2.2.2.1, .int .i64 p0.2.2.2.2.2]] w0 fun e w' => e = .returned (.bool r) ∧ Below w0.heap.size w0 w' := by
 refine enter Try.func70 Aa Try.ntmps70 Aa fun a F => ?_
 have W := Stw.start Y w0
 unfold Cx at H
 refine Ah (Ac ?_)
 refine EQ (cs := [.int .i64 p0.1, .int .i64 p0.2.1, .int .i64 p0.2.2.1, .int .i64 p0.2.2.2.1, .int .i64 p0.2.2.2.2.1, .int .i64 p0.2.2.2.2.2]) F W Aa Aa Aa fun b1 a w F W => ?_
 refine ls F W Aa (Af F Aa).q fun a w F W => ?_
 refine Ae (Ab ?_)
 refine AK (fun a w => Fr 25 [] [(2, .bool (decide (p0.1 = p0.2.2.1) || (decide (p0.2.2.2.2.1 < 1) || (decide (p0.2.2.2.2.2 < p0.2.2.2.2.1) || decide (1000 < p0.2.2.2.2.2)))))] a ∧ Stw ⟨Y, [], w0⟩ [(b1, [.int .i64 p0.1, .int .i64 p0.2.1, .int .i64 p0.2.2.1, .int .i64 p0.2.2.2.1, .int .i64 p0.2.2.2.2.1, .int .i64 p0.2.2.2.2.2])] [] w) ?_ ?_
 ·
  refine Ac ?_
  refine ls F W Aa (Am IK Aa Aa Aa T3 F Aa 0 Aa).q fun a w F W => ?_
  refine ls F W Aa (AB (v := Value.int .i64 p0.1) 0 F Aa Aa T3 Aa).q fun a w F W => ?_
  refine ls F W Aa (Am IK Aa Aa Aa T3 F Aa 2 Aa).q fun a w F W => ?_
  refine ls F W Aa (AB (v := Value.int .i64 p0.2.2.1) 0 F Aa Aa T3 Aa).q fun a w F W => ?_
  refine ls F W Aa (Dl F Aa Aa).q fun a w F W => ?_
  refine ls F W Aa (Ad F Aa).q fun a w F W => ?_
  rcases Bool.eq_false_or_eq_true (decide (p0.1 = p0.2.2.1)) with hb0 | hb0
  ·
   rw [hb0] at F
   iterate 3 refine C1 F Aa Aa Aa Aa Aa Aa Aa fun a F => ?_
   refine ls F W Aa (Av F Aa Aa Aa).q fun a w F W => ?_
   refine ls F W Aa (Ad F Aa).q fun a w F W => ?_
   iterate 5 refine C1 F Aa Aa Aa Aa Aa Aa Aa fun a F => ?_
   refine ls F W Aa (Av F Aa Aa Aa).q fun a w F W => ?_
   refine ls F W Aa (Ad F Aa).q fun a w F W => ?_
   iterate 3 refine C1 F Aa Aa Aa Aa Aa Aa Aa fun a F => ?_
   refine ls F W Aa (Av F Aa Aa Aa).q fun a w F W => ?_
   refine ls F W Aa (Af F Aa).q fun a w F W => ?_
   refine Ae (Ab ?_)
   exact ⟨F.re ⟨(by show some (Value.bool true) = some (Value.bool (decide (p0.1 = p0.2.2.1) || (decide (p0.2.2.2.2.1 < 1) || (decide (p0.2.2.2.2.2 < p0.2.2.2.2.1) || decide (1000 < p0.2.2.2.2.2))))); try rw [hb0]; all_goals simp only [Bool.not_true, Bool.not_false, Bool.true_and, Bool.false_and, Bool.true_or, Bool.false_or, Bool.and_true, Bool.or_false, cond_true, cond_false]), trivial⟩, W⟩
  rw [hb0] at F
  refine AR F W (Ag F Aa Aa Aa Aa) Aa (An Aa) (Am IK Aa Aa Aa T3 F Aa 4 Aa).q fun a w F W => ?_
  refine AR F W (Ag F Aa Aa Aa Aa) Aa (An Aa) (AB (v := Value.int .i64 p0.2.2.2.2.1) 0 F Aa Aa T3 Aa).q fun a w F W => ?_
  refine AR F W (Ag F Aa Aa Aa Aa) Aa (An Aa) (BI F Aa Aa).q fun a w F W => ?_
  refine ls F W Aa (Ax F Aa Aa Aa).q fun a w F W => ?_
  refine ls F W Aa (Ad F Aa).q fun a w F W => ?_
  rcases Bool.eq_false_or_eq_true (decide (p0.2.2.2.2.1 < 1)) with hb1 | hb1
  ·
   rw [hb1] at F
   iterate 5 refine C1 F Aa Aa Aa Aa Aa Aa Aa fun a F => ?_
   refine ls F W Aa (Av F Aa Aa Aa).q fun a w F W => ?_
   refine ls F W Aa (Ad F Aa).q fun a w F W => ?_
   iterate 3 refine C1 F Aa Aa Aa Aa Aa Aa Aa fun a F => ?_
   refine ls F W Aa (Av F Aa Aa Aa).q fun a w F W => ?_
   refine ls F W Aa (Af F Aa).q fun a w F W => ?_
   refine Ae (Ab ?_)
   exact ⟨F.re ⟨(by show some (Value.bool true) = some (Value.bool (decide (p0.1 = p0.2.2.1) || (decide (p0.2.2.2.2.1 < 1) || (decide (p0.2.2.2.2.2 < p0.2.2.2.2.1) || decide (1000 < p0.2.2.2.2.2))))); try rw [hb1]; try rw [hb0]; all_goals simp only [Bool.not_true, Bool.not_false, Bool.true_and, Bool.false_and, Bool.true_or, Bool.false_or, Bool.and_true, Bool.or_false, cond_true, cond_false]), trivial⟩, W⟩
  rw [hb1] at F
  refine AR F W (Ag F Aa Aa Aa Aa) Aa (An Aa) (Am IK Aa Aa Aa T3 F Aa 5 Aa).q fun a w F W => ?_
  refine AR F W (Ag F Aa Aa Aa Aa) Aa (An Aa) (AB (v := Value.int .i64 p0.2.2.2.2.2) 0 F Aa Aa T3 Aa).q fun a w F W => ?_
  refine AR F W (Ag F Aa Aa Aa Aa) Aa (An Aa) (Am IK Aa Aa Aa T3 F Aa 4 Aa).q fun a w F W => ?_
  refine AR F W (Ag F Aa Aa Aa Aa) Aa (An Aa) (AB (v := Value.int .i64 p0.2.2.2.2.1) 0 F Aa Aa T3 Aa).q fun a w F W => ?_
  refine AR F W (Ag F Aa Aa Aa Aa) Aa (An Aa) (BI F Aa Aa).q fun a w F W => ?_
  refine ls F W Aa (Ax F Aa Aa Aa).q fun a w F W => ?_
  refine ls F W Aa (Ad F Aa).q fun a w F W => ?_
  rcases Bool.eq_false_or_eq_true (decide (p0.2.2.2.2.2 < p0.2.2.2.2.1)) with hb2 | hb2
  ·
   rw [hb2] at F
   iterate 3 refine C1 F Aa Aa Aa Aa Aa Aa Aa fun a F => ?_
   refine ls F W Aa (Av F Aa Aa Aa).q fun a w F W => ?_
   refine ls F W Aa (Af F Aa).q fun a w F W => ?_
   refine Ae (Ab ?_)
   exact ⟨F.re ⟨(by show some (Value.bool true) = some (Value.bool (decide (p0.1 = p0.2.2.1) || (decide (p0.2.2.2.2.1 < 1) || (decide (p0.2.2.2.2.2 < p0.2.2.2.2.1) || decide (1000 < p0.2.2.2.2.2))))); try rw [hb2]; try rw [hb1]; try rw [hb0]; all_goals simp only [Bool.not_true, Bool.not_false, Bool.true_and, Bool.false_and, Bool.true_or, Bool.false_or, Bool.and_true, Bool.or_false, cond_true, cond_false]), trivial⟩, W⟩
  rw [hb2] at F
  refine AR F W (Ag F Aa Aa Aa Aa) Aa (An Aa) (Am IK Aa Aa Aa T3 F Aa 5 Aa).q fun a w F W => ?_
  refine AR F W (Ag F Aa Aa Aa Aa) Aa (An Aa) (AB (v := Value.int .i64 p0.2.2.2.2.2) 0 F Aa Aa T3 Aa).q fun a w F W => ?_
  refine AR F W (Ag F Aa Aa Aa Aa) Aa (An Aa) (FZ F Aa Aa).q fun a w F W => ?_
  refine ls F W Aa (Ax F Aa Aa Aa).q fun a w F W => ?_
  refine ls F W Aa (Af F Aa).q fun a w F W => ?_
  refine Ae (Ab ?_)
  exact ⟨F.re ⟨(by show some (Value.bool (decide (1000 < p0.2.2.2.2.2))) = some (Value.bool (decide (p0.1 = p0.2.2.1) || (decide (p0.2.2.2.2.1 < 1) || (decide (p0.2.2.2.2.2 < p0.2.2.2.2.1) || decide (1000 < p0.2.2.2.2.2))))); try rw [hb2]; try rw [hb1]; try rw [hb0]; all_goals simp only [Bool.not_true, Bool.not_false, Bool.true_and, Bool.false_and, Bool.true_or, Bool.false_or, Bool.and_true, Bool.or_false, cond_true, cond_false]), trivial⟩, W⟩
 rintro a w ⟨F, W⟩
 refine AF ?_
 subst H
 refine Bj (.inl Aa) F W Aa (AD F Aa) ?_
 exact ⟨rfl, W.done⟩
theorem Vo : Has Try.prog 70 := ⟨fun args w => Al Try.func70 rfl (by decide) args w⟩
noncomputable def A2 (p0 : List (Int × Int × Int × Int × Int × Int)) : Int → Option (Int ⊕ (Unit ⊕ Int))
  | x1 => (if x1 < (p0.length : Int) then (ix p0 x1).bind fun x2 => (if (Cx x2) = true then some (.inr (.inr x1)) else some (.inl (Az (x1 + 1)))) else some (.inr (.inl ())))
noncomputable def Cd (p0 : List (Int × Int × Int × Int × Int × Int)) : Option Int := FO (AH (A2 p0) 0) fun _ => some (-1)
theorem FT (Y : Nat → Prop) (w0 : World) (v1 : Value) (p0 : List (Int × Int × Int × Int × Int × Int)) (r : Int) (H : Cd p0 = some r) (h_v1 : Sl w0 (NX []) Ii v1 p0) :
    Calls Try.prog 88 #[v1, .func (.func 70) #[] #[]] w0 fun e w' => e = .returned (.int .i64 r) ∧ Below w0.heap.size w0 w' := by
 refine enter Try.func88 Aa Try.ntmps88 Aa fun a F => ?_
 have W := Stw.start Y w0
 unfold Cd at H
 refine Ah (Ac ?_)
 refine ls F W Aa (Af F Aa).q fun a w F W => ?_
 refine Ae (Ab ?_)
 obtain ⟨o1, G1, K1, L1⟩ := JX H
 refine AK (fun a w => some (Sum.inl ()) = some o1 ∧ Fr 19 [] [(4, .int .i64 0)] a ∧ Stw ⟨Y, [], w0⟩ [] [] w) ?_ ?_
 ·
  have H := G1
  clear G1 K1
  refine Ah (Ac ?_)
  refine ls F W Aa (Ad F Aa).q fun a w F W => ?_
  refine ls F W Aa (B1 (r := Ii) (l := p0) O4 Aa F Aa (Ap h_v1)).q fun a w F W => ?_
  refine ls F W Aa (Ad F Aa).q fun a w F W => ?_
  refine Ae (Ab (As ?_))
  refine Bh H (fun s a w => Fr 19 [] [(0, v1), (1, .func (.func 70) #[] #[]), (4, .int .i64 0), (7, .int .i64 (p0.length : Int)), (8, .int .i64 s)] a ∧ Stw ⟨Y, [], w0⟩ [] [] w) ⟨F.re ⟨rfl, Aa, Aa, Aa, Aa, trivial⟩, W⟩ fun s o a w H L2 hR => ?_
  obtain ⟨x1, rfl⟩ : ∃ x, x = s := ⟨s, rfl⟩
  obtain ⟨F, W⟩ := hR
  have F : Fr 19 [] [(0, v1), (1, .func (.func 70) #[] #[]), (4, .int .i64 0), (7, .int .i64 (p0.length : Int)), (8, .int .i64 x1)] a := F
  have W : Stw ⟨Y, [], w0⟩ [] [] w := W
  rw [A2] at H
  refine Ah (Ac ?_)
  refine ls F W Aa (BI F Aa Aa).q fun a w F W => ?_
  refine Ae (Ab (Ah ?_))
  refine Ay F Aa (fun hb => ?_) fun hb => ?_
  ·
   have H := AP (Bm hb) H
   rw [hb] at F
   clear hb
   refine Aq (Ab (Ah (As (Ah (Ac ?_)))))
   refine ls F W Aa (Ad F Aa).q fun a w F W => ?_
   refine ls F W Aa (Af F Aa).q fun a w F W => ?_
   refine Ae (Ab (Ah (Ac ?_)))
   iterate 3 refine ls F W Aa (Ad F Aa).q fun a w F W => ?_
   obtain ⟨x2, h1, H⟩ := Ak H
   refine ls F W Aa (AC (r := Ii) Tq F Aa Aa (Ap h_v1) h1).q fun a w F W => ?_
   refine ls F W Aa (Ao (y := Value.agg #[.int .i64 x2.1, .int .i64 x2.2.1, .int .i64 x2.2.2.1, .int .i64 x2.2.2.2.1, .int .i64 x2.2.2.2.2.1, .int .i64 x2.2.2.2.2.2]) (j := 0) (i := x1) F Aa Aa (Ap h_v1) h1 S8.to Sr Aa).q fun a w F W => ?_
   refine ls F W Aa (EO (ws := [.agg #[.int .i64 x2.1, .int .i64 x2.2.1, .int .i64 x2.2.2.1, .int .i64 x2.2.2.2.1, .int .i64 x2.2.2.2.2.1, .int .i64 x2.2.2.2.2.2]]) (v := Value.bool (Cx x2)) F Vo Aa (fun w W => KY any w x2 _ Aa)) fun a w F W => ?_
   refine Ae (Ab ?_)
   refine Ay F Aa (fun hb => ?_) fun hb => ?_
   ·
    have H := AP hb H
    rw [hb] at F
    clear hb
    refine Ah (Ac ?_)
    refine ls F W Aa (Ad F Aa).q fun a w F W => ?_
    refine ls F W Aa (Af F Aa).q fun a w F W => ?_
    refine Ae (Ab (AF (A3 ?_)))
    iterate 2 refine AN ?_
    refine A3 (AN ?_)
    have H := L2 _ H
    have H := L1 _ H
    have H := AQ H
    subst H
    refine Bj (.inl Aa) F W Aa (AD F Aa) ?_
    exact ⟨rfl, W.done⟩
   have H := AO (by rw [hb]; decide) H
   rw [hb] at F
   clear hb
   refine Aq (AM (Ab (Ac ?_)))
   refine ls F W Aa (Bp F Aa Aa Aa).q fun a w F W => ?_
   refine ls F W Aa (Ad F Aa).q fun a w F W => ?_
   refine Ae (Ab ?_)
   exact ⟨_, H, F.re ⟨rfl, Aa, Aa, Aa, Aa, trivial⟩, W⟩
  have H := AO (Bn hb) H
  rw [hb] at F
  clear hb
  refine A5 ?_
  iterate 2 refine Bk ?_
  refine A6 (Ab ?_)
  have H := L2 _ H
  exact ⟨H, F.re ⟨rfl, trivial⟩, W⟩
 rintro a w ⟨hj, F, W⟩
 have H := K1 _ hj
 clear hj G1 K1 L1
 refine Ah (Ac ?_)
 refine ls F W Aa (Af F Aa).q fun a w F W => ?_
 refine Ae (Ab (AF ?_))
 have H := AQ H
 subst H
 refine Bj (.inl Aa) F W Aa (AD F Aa) ?_
 exact ⟨rfl, W.done⟩
theorem V0 : Has Try.prog 88 := ⟨fun args w => Al Try.func88 rfl (by decide) args w⟩
noncomputable def BD (p0 : List (Int × Int × Int × Int × Int × Int)) : Option Bool := (Cd p0).bind fun x1 => some (decide (0 ≤ x1))
theorem Fo (Y : Nat → Prop) (w0 : World) (v1 : Value) (p0 : List (Int × Int × Int × Int × Int × Int)) (r : Bool) (H : BD p0 = some r) (h_v1 : Sl w0 (NX []) Ii v1 p0) :
    Calls Try.prog 69 #[v1, .func (.func 70) #[] #[]] w0 fun e w' => e = .returned (.bool r) ∧ Below w0.heap.size w0 w' := by
 refine enter Try.func69 Aa Try.ntmps69 Aa fun a F => ?_
 have W := Stw.start Y w0
 unfold BD at H
 refine Ah (Ac ?_)
 refine ls F W Aa (Af F Aa).q fun a w F W => ?_
 refine Ae (Ab (Ah (Ac ?_)))
 iterate 2 refine ls F W Aa (Ad F Aa).q fun a w F W => ?_
 obtain ⟨x1, h1, H⟩ := Ak H
 refine ls F W Aa (BR (v := Value.int .i64 x1) F V0 Aa (fun w W => FT any w (v1) p0 _ h1 (((Ap h_v1) : EM _ _ _ _ _ _) w W).nx)) fun a w F W => ?_
 refine ls F W Aa (Ds F Aa Aa).q fun a w F W => ?_
 refine ls F W Aa (Af F Aa).q fun a w F W => ?_
 refine Ae (Ab (AF ?_))
 have H := AQ H
 subst H
 refine Bj (.inl Aa) F W Aa (AD F Aa) ?_
 exact ⟨rfl, W.done⟩
theorem Si : type_of% Try.underlying125 := Try.underlying125
theorem Vj : Has Try.prog 69 := ⟨fun args w => Al Try.func69 rfl (by decide) args w⟩
noncomputable def C9 (p0 : Int × (List (Int × Int × Int × Int × Int × Int)) × (List (Int × Int))) (x2 : (List (Int × Int))) : (Int × (List ((Int × Int) × Unit))) → Option ((Int × (List ((Int × Int) × Unit))) ⊕ ((List ((Int × Int) × Unit)) ⊕ Bool))
  | (x3, x4) => (if x3 < (x2.length : Int) then (ix x2 x3).bind fun x5 => (if (decide (x5.1 < 0) || (decide (p0.1 ≤ x5.1) || (decide (x5.2 < 0) || decide (8 ≤ x5.2)))) = true then some (.inr (.inr false)) else (if ((KZ x4 x5).isSome) = true then some (.inr (.inr false)) else some (.inl (Az (x3 + 1), KX x4 x5 ())))) else some (.inr (.inl x4)))
noncomputable def Gc (p0 : Int × (List (Int × Int × Int × Int × Int × Int)) × (List (Int × Int))) : Option Bool := (if (decide (p0.1 < 1) || (decide (8 < p0.1) || (decide (24 < (p0.2.1.length : Int)) || decide (8 < (p0.2.2.length : Int))))) = true then some false else FO ((FG p0).bind fun x2 => AH (C9 p0 x2) (0, ([] : List ((Int × Int) × Unit)))) fun x1 => (BD p0.2.1).bind fun x6 => some (!x6))
theorem NE (Y : Nat → Prop) (w0 : World) (v1 : Value) (v2 : Value) (p0 : Int × (List (Int × Int × Int × Int × Int × Int)) × (List (Int × Int))) (r : Bool) (H : Gc p0 = some r) (h_v1 : Sl w0 (NX []) Ii v1 p0.2.1) (h_v2 : Sl w0 (NX []) Ip v2 p0.2.2) :
    Calls Try.prog 50 #[.agg #[.int .i64 p0.1, v1, v2]] w0 fun e w' => e = .returned (.bool r) ∧ Below w0.heap.size w0 w' := by
 refine enter Try.func50 Aa Try.ntmps50 Aa fun a F => ?_
 have W := Stw.start Y w0
 unfold Gc at H
 refine Ah (Ac ?_)
 refine EQ (cs := [.int .i64 p0.1, v1, v2]) F W Aa Aa Aa fun b1 a w F W => ?_
 refine ls F W Aa (Af F Aa).q fun a w F W => ?_
 refine Ae (Ab (Ah ?_))
 refine AK (fun a w => Fr 71 [] [(1, .pointer (some ⟨b1, 0, none⟩)), (2, .bool false), (27, .bool (decide (p0.1 < 1) || (decide (8 < p0.1) || (decide (24 < (p0.2.1.length : Int)) || decide (8 < (p0.2.2.length : Int))))))] a ∧ Stw ⟨Y, [], w0⟩ [(b1, [.int .i64 p0.1, v1, v2])] [] w) ?_ ?_
 ·
  refine Ac ?_
  refine ls F W Aa (Am IE Aa Aa Aa T3 F Aa 0 Aa).q fun a w F W => ?_
  refine ls F W Aa (AB (v := Value.int .i64 p0.1) 0 F Aa Aa T3 Aa).q fun a w F W => ?_
  refine ls F W Aa (BI F Aa Aa).q fun a w F W => ?_
  refine ls F W Aa (Ad F Aa).q fun a w F W => ?_
  rcases Bool.eq_false_or_eq_true (decide (p0.1 < 1)) with hb0 | hb0
  ·
   rw [hb0] at F
   iterate 3 refine C1 F Aa Aa Aa Aa Aa Aa Aa fun a F => ?_
   refine ls F W Aa (Av F Aa Aa Aa).q fun a w F W => ?_
   refine ls F W Aa (Ad F Aa).q fun a w F W => ?_
   iterate 4 refine C1 F Aa Aa Aa Aa Aa Aa Aa fun a F => ?_
   refine ls F W Aa (Av F Aa Aa Aa).q fun a w F W => ?_
   refine ls F W Aa (Ad F Aa).q fun a w F W => ?_
   iterate 4 refine C1 F Aa Aa Aa Aa Aa Aa Aa fun a F => ?_
   refine ls F W Aa (Av F Aa Aa Aa).q fun a w F W => ?_
   refine Ae (Ab ?_)
   exact ⟨F.re ⟨rfl, Aa, (by show some (Value.bool true) = some (Value.bool (decide (p0.1 < 1) || (decide (8 < p0.1) || (decide (24 < (p0.2.1.length : Int)) || decide (8 < (p0.2.2.length : Int)))))); try rw [hb0]; all_goals simp only [Bool.not_true, Bool.not_false, Bool.true_and, Bool.false_and, Bool.true_or, Bool.false_or, Bool.and_true, Bool.or_false, cond_true, cond_false]), trivial⟩, W⟩
  rw [hb0] at F
  refine AR F W (Ag F Aa Aa Aa Aa) Aa (An Aa) (Am IE Aa Aa Aa T3 F Aa 0 Aa).q fun a w F W => ?_
  refine AR F W (Ag F Aa Aa Aa Aa) Aa (An Aa) (AB (v := Value.int .i64 p0.1) 0 F Aa Aa T3 Aa).q fun a w F W => ?_
  refine AR F W (Ag F Aa Aa Aa Aa) Aa (An Aa) (FZ F Aa Aa).q fun a w F W => ?_
  refine ls F W Aa (Ax F Aa Aa Aa).q fun a w F W => ?_
  refine ls F W Aa (Ad F Aa).q fun a w F W => ?_
  rcases Bool.eq_false_or_eq_true (decide (8 < p0.1)) with hb1 | hb1
  ·
   rw [hb1] at F
   iterate 4 refine C1 F Aa Aa Aa Aa Aa Aa Aa fun a F => ?_
   refine ls F W Aa (Av F Aa Aa Aa).q fun a w F W => ?_
   refine ls F W Aa (Ad F Aa).q fun a w F W => ?_
   iterate 4 refine C1 F Aa Aa Aa Aa Aa Aa Aa fun a F => ?_
   refine ls F W Aa (Av F Aa Aa Aa).q fun a w F W => ?_
   refine Ae (Ab ?_)
   exact ⟨F.re ⟨rfl, Aa, (by show some (Value.bool true) = some (Value.bool (decide (p0.1 < 1) || (decide (8 < p0.1) || (decide (24 < (p0.2.1.length : Int)) || decide (8 < (p0.2.2.length : Int)))))); try rw [hb0]; try rw [hb1]; all_goals simp only [Bool.not_true, Bool.not_false, Bool.true_and, Bool.false_and, Bool.true_or, Bool.false_or, Bool.and_true, Bool.or_false, cond_true, cond_false]), trivial⟩, W⟩
  rw [hb1] at F
  refine AR F W (Ag F Aa Aa Aa Aa) Aa (An Aa) (Am IE Aa Aa Aa Qt F Aa 1 Aa).q fun a w F W => ?_
  refine AR F W (Ag F Aa Aa Aa Aa) Aa (An Aa) (AB (v := v1) 0 F Aa Aa Qt Aa).q fun a w F W => ?_
  refine AR F W (Ag F Aa Aa Aa Aa) Aa (An Aa) (B1 (r := Ii) (l := p0.2.1) O4 Aa F Aa (Ap h_v1)).q fun a w F W => ?_
  refine AR F W (Ag F Aa Aa Aa Aa) Aa (An Aa) (FZ F Aa Aa).q fun a w F W => ?_
  refine ls F W Aa (Ax F Aa Aa Aa).q fun a w F W => ?_
  refine ls F W Aa (Ad F Aa).q fun a w F W => ?_
  rcases Bool.eq_false_or_eq_true (decide (24 < (p0.2.1.length : Int))) with hb2 | hb2
  ·
   rw [hb2] at F
   iterate 4 refine C1 F Aa Aa Aa Aa Aa Aa Aa fun a F => ?_
   refine ls F W Aa (Av F Aa Aa Aa).q fun a w F W => ?_
   refine Ae (Ab ?_)
   exact ⟨F.re ⟨rfl, Aa, (by show some (Value.bool true) = some (Value.bool (decide (p0.1 < 1) || (decide (8 < p0.1) || (decide (24 < (p0.2.1.length : Int)) || decide (8 < (p0.2.2.length : Int)))))); try rw [hb2]; try rw [hb0]; try rw [hb1]; all_goals simp only [Bool.not_true, Bool.not_false, Bool.true_and, Bool.false_and, Bool.true_or, Bool.false_or, Bool.and_true, Bool.or_false, cond_true, cond_false]), trivial⟩, W⟩
  rw [hb2] at F
  refine AR F W (Ag F Aa Aa Aa Aa) Aa (An Aa) (Am IE Aa Aa Aa Pu F Aa 2 Aa).q fun a w F W => ?_
  refine AR F W (Ag F Aa Aa Aa Aa) Aa (An Aa) (AB (v := v2) 0 F Aa Aa Pu Aa).q fun a w F W => ?_
  refine AR F W (Ag F Aa Aa Aa Aa) Aa (An Aa) (B1 (r := Ip) (l := p0.2.2) Od Aa F Aa (Ap h_v2)).q fun a w F W => ?_
  refine AR F W (Ag F Aa Aa Aa Aa) Aa (An Aa) (FZ F Aa Aa).q fun a w F W => ?_
  refine ls F W Aa (Ax F Aa Aa Aa).q fun a w F W => ?_
  refine Ae (Ab ?_)
  exact ⟨F.re ⟨rfl, Aa, (by show some (Value.bool (decide (8 < (p0.2.2.length : Int)))) = some (Value.bool (decide (p0.1 < 1) || (decide (8 < p0.1) || (decide (24 < (p0.2.1.length : Int)) || decide (8 < (p0.2.2.length : Int)))))); try rw [hb2]; try rw [hb0]; try rw [hb1]; all_goals simp only [Bool.not_true, Bool.not_false, Bool.true_and, Bool.false_and, Bool.true_or, Bool.false_or, Bool.and_true, Bool.or_false, cond_true, cond_false]), trivial⟩, W⟩
 rintro a w ⟨F, W⟩
 refine Ay F Aa (fun hb => ?_) fun hb => ?_
 ·
  have H := AP hb H
  rw [hb] at F
  clear hb
  refine Ah (Ac ?_)
  refine ls F W Aa (Af F Aa).q fun a w F W => ?_
  refine Ae (Ab (AF (AN ?_)))
  have H := AQ H
  subst H
  refine Bj (.inl Aa) F W Aa (AD F Aa) ?_
  exact ⟨rfl, W.done⟩
 have H := AO (by rw [hb]; decide) H
 rw [hb] at F
 clear hb
 refine Aq (Ab (Ah (Ac ?_)))
 refine PY Iq IH F W Aa fun b2 a w F W => ?_
 have W : Stw ⟨Y, [], w0⟩ [(b1, [.int .i64 p0.1, v1, v2])] [mp b2 Iq IH ([] : List ((Int × Int) × Unit))] w := W
 refine ls F W Aa (Af F Aa).q fun a w F W => ?_
 refine Ae (Ab ?_)
 obtain ⟨o1, G1, K1, L1⟩ := JX H
 refine AK (fun a w => ∃ x1 : List ((Int × Int) × Unit), some (Sum.inl x1) = some o1 ∧ Fr 71 [] [(1, .pointer (some ⟨b1, 0, none⟩)), (2, .bool false)] a ∧ Stw ⟨Y, [], w0⟩ [(b1, [.int .i64 p0.1, v1, v2])] [mp b2 Iq IH x1] w) ?_ ?_
 ·
  have H := G1
  clear G1 K1
  refine Ah (Ac ?_)
  refine ls F W Aa (AB (v := Value.agg #[.int .i64 p0.1, v1, v2]) 0 F Aa Aa Mk Aa).q fun a w F W => ?_
  obtain ⟨x2, h1, H⟩ := Ak H
  refine Bo (Ml := []) (Zl := []) (M := [(b1, [.int .i64 p0.1, v1, v2])]) (Z := [mp b2 Iq IH ([] : List ((Int × Int) × Unit))]) (β := Value) (rv := fun x => x) (MM := fun x => []) (ZZ := fun x => [row x 129 Gt x2]) F W U4 Aa Aa (fun hL => MG _ w (v1) (v2) p0 _ h1 ((Ap h_v1) w W).nx ((Ap h_v2) w W).nx) fun x a w F W => ?_
  obtain ⟨v3, rfl⟩ : ∃ y, y = x := ⟨x, rfl⟩
  have W : Stw ⟨Y, [], w0⟩ [(b1, [.int .i64 p0.1, v1, v2])] [row v3 129 Gt x2, mp b2 Iq IH ([] : List ((Int × Int) × Unit))] w := W
  refine ls F W Aa (B1 (r := Gt) (l := x2) Sd Aa F Aa (Aj 0 Aa)).q fun a w F W => ?_
  refine ls F W Aa (Ad F Aa).q fun a w F W => ?_
  refine Ae (Ab (As ?_))
  have W := W.frontZ (i := 1) Aa Aa
  have W := W.frontZ (i := 1) Aa Aa
  refine Bh H (fun s a w => Fr 71 [] [(1, .pointer (some ⟨b1, 0, none⟩)), (2, .bool false), (3, .map (some b2)), (30, v3), (31, .int .i64 (x2.length : Int)), (32, .int .i64 s.1)] a ∧ Stw ⟨Y, [], w0⟩ [(b1, [.int .i64 p0.1, v1, v2])] [row v3 129 Gt x2, mp b2 Iq IH s.2] w) ⟨F.re ⟨rfl, Aa, Aa, Aa, Aa, Aa, trivial⟩, W⟩ fun s o a w H L2 hR => ?_
  obtain ⟨x3, x4⟩ := s
  obtain ⟨F, W⟩ := hR
  have F : Fr 71 [] [(1, .pointer (some ⟨b1, 0, none⟩)), (2, .bool false), (3, .map (some b2)), (30, v3), (31, .int .i64 (x2.length : Int)), (32, .int .i64 x3)] a := F
  have W : Stw ⟨Y, [], w0⟩ [(b1, [.int .i64 p0.1, v1, v2])] [row v3 129 Gt x2, mp b2 Iq IH x4] w := W
  rw [C9] at H
  refine Ah (Ac ?_)
  refine ls F W Aa (BI F Aa Aa).q fun a w F W => ?_
  refine Ae (Ab (Ah ?_))
  refine Ay F Aa (fun hb => ?_) fun hb => ?_
  ·
   have H := AP (Bm hb) H
   rw [hb] at F
   clear hb
   refine Aq (Ab (Ah (As (Ah (Ac ?_)))))
   obtain ⟨x5, h2, H⟩ := Ak H
   refine ls F W Aa (AC (r := Gt) QC F Aa Aa (Aj 0 Aa) h2).q fun a w F W => ?_
   refine ls F W Aa (Ao (y := Value.agg #[.int .i64 x5.1, .int .i64 x5.2]) (j := 0) (i := x3) F Aa Aa (Aj 0 Aa) h2 SP.to O0 Aa).q fun a w F W => ?_
   refine CB (cs := [.int .i64 0, .int .i64 0]) F W Aa RT Aa fun b3 a w F W => ?_
   refine BW (vs := [.int .i64 x5.1, .int .i64 x5.2]) (M' := [(b3, [.int .i64 x5.1, .int .i64 x5.2]), (b1, [.int .i64 p0.1, v1, v2])]) 0 F W Aa Aa Aa O0 Aa Aa Aa Aa Aa fun w W => ?_
   refine Ae (Ab (Ah ?_))
   refine AK (fun a w => Fr 71 [] [(1, .pointer (some ⟨b1, 0, none⟩)), (2, .bool false), (3, .map (some b2)), (5, .pointer (some ⟨b3, 0, none⟩)), (30, v3), (31, .int .i64 (x2.length : Int)), (32, .int .i64 x3), (55, .bool (decide (x5.1 < 0) || (decide (p0.1 ≤ x5.1) || (decide (x5.2 < 0) || decide (8 ≤ x5.2)))))] a ∧ Stw ⟨Y, [], w0⟩ [(b3, [.int .i64 x5.1, .int .i64 x5.2]), (b1, [.int .i64 p0.1, v1, v2])] [row v3 129 Gt x2, mp b2 Iq IH x4] w) ?_ ?_
   ·
    refine Ac ?_
    refine ls F W Aa (Am Lp Aa Aa Aa T3 F Aa 0 Aa).q fun a w F W => ?_
    refine ls F W Aa (AB (v := Value.int .i64 x5.1) 0 F Aa Aa T3 Aa).q fun a w F W => ?_
    refine ls F W Aa (BI F Aa Aa).q fun a w F W => ?_
    refine ls F W Aa (Ad F Aa).q fun a w F W => ?_
    rcases Bool.eq_false_or_eq_true (decide (x5.1 < 0)) with hb0 | hb0
    ·
     rw [hb0] at F
     iterate 5 refine C1 F Aa Aa Aa Aa Aa Aa Aa fun a F => ?_
     refine ls F W Aa (Av F Aa Aa Aa).q fun a w F W => ?_
     refine ls F W Aa (Ad F Aa).q fun a w F W => ?_
     iterate 3 refine C1 F Aa Aa Aa Aa Aa Aa Aa fun a F => ?_
     refine ls F W Aa (Av F Aa Aa Aa).q fun a w F W => ?_
     refine ls F W Aa (Ad F Aa).q fun a w F W => ?_
     iterate 3 refine C1 F Aa Aa Aa Aa Aa Aa Aa fun a F => ?_
     refine ls F W Aa (Av F Aa Aa Aa).q fun a w F W => ?_
     refine Ae (Ab ?_)
     exact ⟨F.re ⟨rfl, Aa, Aa, Aa, Aa, Aa, Aa, (by show some (Value.bool true) = some (Value.bool (decide (x5.1 < 0) || (decide (p0.1 ≤ x5.1) || (decide (x5.2 < 0) || decide (8 ≤ x5.2))))); try rw [hb0]; all_goals simp only [Bool.not_true, Bool.not_false, Bool.true_and, Bool.false_and, Bool.true_or, Bool.false_or, Bool.and_true, Bool.or_false, cond_true, cond_false]), trivial⟩, W⟩
    rw [hb0] at F
    refine AR F W (Ag F Aa Aa Aa Aa) Aa (An Aa) (Am Lp Aa Aa Aa T3 F Aa 0 Aa).q fun a w F W => ?_
    refine AR F W (Ag F Aa Aa Aa Aa) Aa (An Aa) (AB (v := Value.int .i64 x5.1) 0 F Aa Aa T3 Aa).q fun a w F W => ?_
    refine AR F W (Ag F Aa Aa Aa Aa) Aa (An Aa) (Am IE Aa Aa Aa T3 F Aa 0 Aa).q fun a w F W => ?_
    refine AR F W (Ag F Aa Aa Aa Aa) Aa (An Aa) (AB (v := Value.int .i64 p0.1) 1 F Aa Aa T3 Aa).q fun a w F W => ?_
    refine AR F W (Ag F Aa Aa Aa Aa) Aa (An Aa) (Ds F Aa Aa).q fun a w F W => ?_
    refine ls F W Aa (Ax F Aa Aa Aa).q fun a w F W => ?_
    refine ls F W Aa (Ad F Aa).q fun a w F W => ?_
    rcases Bool.eq_false_or_eq_true (decide (p0.1 ≤ x5.1)) with hb1 | hb1
    ·
     rw [hb1] at F
     iterate 3 refine C1 F Aa Aa Aa Aa Aa Aa Aa fun a F => ?_
     refine ls F W Aa (Av F Aa Aa Aa).q fun a w F W => ?_
     refine ls F W Aa (Ad F Aa).q fun a w F W => ?_
     iterate 3 refine C1 F Aa Aa Aa Aa Aa Aa Aa fun a F => ?_
     refine ls F W Aa (Av F Aa Aa Aa).q fun a w F W => ?_
     refine Ae (Ab ?_)
     exact ⟨F.re ⟨rfl, Aa, Aa, Aa, Aa, Aa, Aa, (by show some (Value.bool true) = some (Value.bool (decide (x5.1 < 0) || (decide (p0.1 ≤ x5.1) || (decide (x5.2 < 0) || decide (8 ≤ x5.2))))); try rw [hb1]; try rw [hb0]; all_goals simp only [Bool.not_true, Bool.not_false, Bool.true_and, Bool.false_and, Bool.true_or, Bool.false_or, Bool.and_true, Bool.or_false, cond_true, cond_false]), trivial⟩, W⟩
    rw [hb1] at F
    refine AR F W (Ag F Aa Aa Aa Aa) Aa (An Aa) (Am Lp Aa Aa Aa T3 F Aa 1 Aa).q fun a w F W => ?_
    refine AR F W (Ag F Aa Aa Aa Aa) Aa (An Aa) (AB (v := Value.int .i64 x5.2) 0 F Aa Aa T3 Aa).q fun a w F W => ?_
    refine AR F W (Ag F Aa Aa Aa Aa) Aa (An Aa) (BI F Aa Aa).q fun a w F W => ?_
    refine ls F W Aa (Ax F Aa Aa Aa).q fun a w F W => ?_
    refine ls F W Aa (Ad F Aa).q fun a w F W => ?_
    rcases Bool.eq_false_or_eq_true (decide (x5.2 < 0)) with hb2 | hb2
    ·
     rw [hb2] at F
     iterate 3 refine C1 F Aa Aa Aa Aa Aa Aa Aa fun a F => ?_
     refine ls F W Aa (Av F Aa Aa Aa).q fun a w F W => ?_
     refine Ae (Ab ?_)
     exact ⟨F.re ⟨rfl, Aa, Aa, Aa, Aa, Aa, Aa, (by show some (Value.bool true) = some (Value.bool (decide (x5.1 < 0) || (decide (p0.1 ≤ x5.1) || (decide (x5.2 < 0) || decide (8 ≤ x5.2))))); try rw [hb1]; try rw [hb0]; try rw [hb2]; all_goals simp only [Bool.not_true, Bool.not_false, Bool.true_and, Bool.false_and, Bool.true_or, Bool.false_or, Bool.and_true, Bool.or_false, cond_true, cond_false]), trivial⟩, W⟩
    rw [hb2] at F
    refine AR F W (Ag F Aa Aa Aa Aa) Aa (An Aa) (Am Lp Aa Aa Aa T3 F Aa 1 Aa).q fun a w F W => ?_
    refine AR F W (Ag F Aa Aa Aa Aa) Aa (An Aa) (AB (v := Value.int .i64 x5.2) 0 F Aa Aa T3 Aa).q fun a w F W => ?_
    refine AR F W (Ag F Aa Aa Aa Aa) Aa (An Aa) (Ds F Aa Aa).q fun a w F W => ?_
    refine ls F W Aa (Ax F Aa Aa Aa).q fun a w F W => ?_
    refine Ae (Ab ?_)
    exact ⟨F.re ⟨rfl, Aa, Aa, Aa, Aa, Aa, Aa, (by show some (Value.bool (decide (8 ≤ x5.2))) = some (Value.bool (decide (x5.1 < 0) || (decide (p0.1 ≤ x5.1) || (decide (x5.2 < 0) || decide (8 ≤ x5.2))))); try rw [hb1]; try rw [hb0]; try rw [hb2]; all_goals simp only [Bool.not_true, Bool.not_false, Bool.true_and, Bool.false_and, Bool.true_or, Bool.false_or, Bool.and_true, Bool.or_false, cond_true, cond_false]), trivial⟩, W⟩
   rintro a w ⟨F, W⟩
   refine Ay F Aa (fun hb => ?_) fun hb => ?_
   ·
    have H := AP hb H
    rw [hb] at F
    clear hb
    refine Ah (Ac ?_)
    refine ls F W Aa (Af F Aa).q fun a w F W => ?_
    refine Ae (Ab (AF (AN (A3 ?_))))
    iterate 2 refine AN ?_
    refine A3 (AN ?_)
    have H := L2 _ H
    have H := L1 _ H
    have H := AQ H
    subst H
    refine Bj (.inl Aa) F W Aa (AD F Aa) ?_
    exact ⟨rfl, W.done⟩
   have H := AO (by rw [hb]; decide) H
   rw [hb] at F
   clear hb
   refine Aq (Ab (Ah (Ah (Ac ?_))))
   refine ls F W Aa (Ad F Aa).q fun a w F W => ?_
   refine ls F W Aa (AB (v := Value.agg #[.int .i64 x5.1, .int .i64 x5.2]) 0 F Aa Aa O0 Aa).q fun a w F W => ?_
   refine ls F W Aa (Qj (zv := (() : Unit)) (kx := (x5 : Int × Int)) (q := 1) (E := Iq) (V := IH) F Aa Aa Aa Sn Si Ti).q fun a w F W => ?_
   refine ls F W Aa (Ad F Aa).q fun a w F W => ?_
   refine ls F W Aa (BK (v := Value.agg #[]) F Aa Aa).q fun a w F W => ?_
   refine ls F W Aa (BK (v := Value.bool ((KZ x4 x5).isSome)) F Aa Aa).q fun a w F W => ?_
   refine CB (cs := []) F W Aa Ti Aa fun b4 a w F W => ?_
   refine BW (vs := []) (M' := [(b4, []), (b3, [.int .i64 x5.1, .int .i64 x5.2]), (b1, [.int .i64 p0.1, v1, v2])]) 0 F W Aa Aa Aa T2 Aa Aa Aa Aa Aa fun w W => ?_
   refine ls F W Aa (Af F Aa).q fun a w F W => ?_
   refine Ae (Ab (Ah (Ac ?_)))
   refine ls F W Aa (Ad F Aa).q fun a w F W => ?_
   refine Ae (Ab ?_)
   refine Ay F Aa (fun hb => ?_) fun hb => ?_
   ·
    have H := AP hb H
    rw [hb] at F
    clear hb
    refine Ah (Ac ?_)
    refine ls F W Aa (Af F Aa).q fun a w F W => ?_
    refine Ae (Ab (AF (AN (A3 ?_))))
    iterate 2 refine AN ?_
    refine A3 (AN ?_)
    have H := L2 _ H
    have H := L1 _ H
    have H := AQ H
    subst H
    refine Bj (.inl Aa) F W Aa (AD F Aa) ?_
    exact ⟨rfl, W.done⟩
   have H := AO (by rw [hb]; decide) H
   rw [hb] at F
   clear hb
   refine Aq (Ab (Ac ?_))
   refine ls F W Aa (Ad F Aa).q fun a w F W => ?_
   refine ls F W Aa (AB (v := Value.agg #[.int .i64 x5.1, .int .i64 x5.2]) 1 F Aa Aa O0 Aa).q fun a w F W => ?_
   refine ls F W Aa (CE (v := Value.agg #[]) T0 F Aa Aa Aa).q fun a w F W => ?_
   refine Q6 (q := 1) (kx := (x5 : Int × Int)) (vx := (() : Unit)) (E := Iq) (V := IH) F W Aa Aa Aa Aa Aa Sn Si fun w W => ?_
   have W : Stw ⟨Y, [], w0⟩ [(b4, []), (b3, [.int .i64 x5.1, .int .i64 x5.2]), (b1, [.int .i64 p0.1, v1, v2])] [mp b2 Iq IH (KX x4 x5 ()), row v3 129 Gt x2] w := W
   refine Ae (AM (Ab (Ac ?_)))
   refine ls F W Aa (Bp F Aa Aa Aa).q fun a w F W => ?_
   refine ls F W Aa (Ad F Aa).q fun a w F W => ?_
   refine Ae (Ab ?_)
   have W := W.frontZ (i := 1) Aa Aa
   have W := W.frontM (i := 2) Aa Aa
   have W := W.sub (M' := [(b1, [.int .i64 p0.1, v1, v2])]) (Z' := [row v3 129 Gt x2, mp b2 Iq IH (KX x4 x5 ())]) (List.Sublist.cons_cons _ (List.nil_sublist _)) (List.Sublist.refl _)
   exact ⟨_, H, F.re ⟨rfl, Aa, Aa, Aa, Aa, Aa, trivial⟩, W⟩
  have H := AO (Bn hb) H
  rw [hb] at F
  clear hb
  refine A5 ?_
  iterate 2 refine Bk ?_
  refine A6 (Ab ?_)
  have W := W.frontZ (i := 1) Aa Aa
  have W := W.sub (M' := [(b1, [.int .i64 p0.1, v1, v2])]) (Z' := [mp b2 Iq IH x4]) (List.Sublist.refl _) (List.Sublist.cons_cons _ (List.nil_sublist _))
  have H := L2 _ H
  exact ⟨_, H, F.re ⟨rfl, Aa, trivial⟩, W⟩
 rintro a w ⟨x1, hj, F, W⟩
 have H := K1 _ hj
 clear hj G1 K1 L1
 refine Ah (Ac ?_)
 refine ls F W Aa (Am IE Aa Aa Aa Qt F Aa 1 Aa).q fun a w F W => ?_
 refine ls F W Aa (AB (v := v1) 0 F Aa Aa Qt Aa).q fun a w F W => ?_
 obtain ⟨x6, h3, H⟩ := Ak H
 refine ls F W Aa (BR (v := Value.bool x6) F Vj Aa (fun w W => Fo any w (v1) p0.2.1 _ h3 (((Ap h_v1) : EM _ _ _ _ _ _) w W).nx)) fun a w F W => ?_
 refine ls F W Aa (ED F Aa).q fun a w F W => ?_
 refine ls F W Aa (Af F Aa).q fun a w F W => ?_
 refine Ae (Ab (AF ?_))
 have H := AQ H
 subst H
 refine Bj (.inl Aa) F W Aa (AD F Aa) ?_
 exact ⟨rfl, W.done⟩
theorem Kw : type_of% Try.underlying27 := Try.underlying27
theorem Hu : type_of% Try.underlying39 := Try.underlying39
theorem V8 : Has Try.prog 50 := ⟨fun args w => Al Try.func50 rfl (by decide) args w⟩
abbrev Ir (a : Value × List Int) : List Value := [a.1]
theorem MU : HO (Rp.vsl (Rp.int .i64)) Ir := HO.vsl
theorem N8 : Et Try.prog 27 39 1 24 := Et.of Kw (by kernel_rfl) (by kernel_rfl) (by kernel_rfl) (by decide)
theorem J7 : Ty Try.prog 39 false 1 := ⟨by kernel_rfl, by kernel_rfl⟩
theorem EH : Et Try.prog 39 3 1 8 := Et.of Hu (by kernel_rfl) (by kernel_rfl) (by kernel_rfl) (by decide)
def Dt (p0 : Int) : Bool := (decide (p0 < 0) || decide (8 ≤ p0))
theorem Kh (Y : Nat → Prop) (w0 : World)  (p0 : Int) (r : Bool) (H : Dt p0 = r)  :
    Calls Try.prog 52 #[.int .i64 p0] w0 fun e w' => e = .returned (.bool r) ∧ Below w0.heap.size w0 w' := by
 refine enter Try.func52 Aa Try.ntmps52 Aa fun a F => ?_
 have W := Stw.start Y w0
 unfold Dt at H
 refine Ah (Ac ?_)
 refine ls F W Aa (Af F Aa).q fun a w F W => ?_
 refine Ae (Ab ?_)
 refine AK (fun a w => Fr 9 [] [(2, .bool (decide (p0 < 0) || decide (8 ≤ p0)))] a ∧ Stw ⟨Y, [], w0⟩ [] [] w) ?_ ?_
 ·
  refine Ac ?_
  refine ls F W Aa (Ad F Aa).q fun a w F W => ?_
  refine ls F W Aa (BI F Aa Aa).q fun a w F W => ?_
  refine ls F W Aa (Ad F Aa).q fun a w F W => ?_
  rcases Bool.eq_false_or_eq_true (decide (p0 < 0)) with hb0 | hb0
  ·
   rw [hb0] at F
   iterate 2 refine C1 F Aa Aa Aa Aa Aa Aa Aa fun a F => ?_
   refine ls F W Aa (Av F Aa Aa Aa).q fun a w F W => ?_
   refine ls F W Aa (Af F Aa).q fun a w F W => ?_
   refine Ae (Ab ?_)
   exact ⟨F.re ⟨(by show some (Value.bool true) = some (Value.bool (decide (p0 < 0) || decide (8 ≤ p0))); try rw [hb0]; all_goals simp only [Bool.not_true, Bool.not_false, Bool.true_and, Bool.false_and, Bool.true_or, Bool.false_or, Bool.and_true, Bool.or_false, cond_true, cond_false]), trivial⟩, W⟩
  rw [hb0] at F
  refine AR F W (Ag F Aa Aa Aa Aa) Aa (An Aa) (Ad F Aa).q fun a w F W => ?_
  refine AR F W (Ag F Aa Aa Aa Aa) Aa (An Aa) (Ds F Aa Aa).q fun a w F W => ?_
  refine ls F W Aa (Ax F Aa Aa Aa).q fun a w F W => ?_
  refine ls F W Aa (Af F Aa).q fun a w F W => ?_
  refine Ae (Ab ?_)
  exact ⟨F.re ⟨(by show some (Value.bool (decide (8 ≤ p0))) = some (Value.bool (decide (p0 < 0) || decide (8 ≤ p0))); try rw [hb0]; all_goals simp only [Bool.not_true, Bool.not_false, Bool.true_and, Bool.false_and, Bool.true_or, Bool.false_or, Bool.and_true, Bool.or_false, cond_true, cond_false]), trivial⟩, W⟩
 rintro a w ⟨F, W⟩
 refine AF ?_
 subst H
 refine Bj (.inl Aa) F W Aa (AD F Aa) ?_
 exact ⟨rfl, W.done⟩
theorem Vf : Has Try.prog 52 := ⟨fun args w => Al Try.func52 rfl (by decide) args w⟩
noncomputable def BH (p0 : List Int) : Int → Option (Int ⊕ (Unit ⊕ Int))
  | x1 => (if x1 < (p0.length : Int) then (ix p0 x1).bind fun x2 => (if (Dt x2) = true then some (.inr (.inr x1)) else some (.inl (Az (x1 + 1)))) else some (.inr (.inl ())))
noncomputable def CL (p0 : List Int) : Option Int := FO (AH (BH p0) 0) fun _ => some (-1)
theorem HX (Y : Nat → Prop) (w0 : World) (v1 : Value) (p0 : List Int) (r : Int) (H : CL p0 = some r) (h_v1 : Sl w0 (NX []) (Rp.int .i64) v1 p0) :
    Calls Try.prog 71 #[v1, .func (.func 52) #[] #[]] w0 fun e w' => e = .returned (.int .i64 r) ∧ Below w0.heap.size w0 w' := by
 refine enter Try.func71 Aa Try.ntmps71 Aa fun a F => ?_
 have W := Stw.start Y w0
 unfold CL at H
 refine Ah (Ac ?_)
 refine ls F W Aa (Af F Aa).q fun a w F W => ?_
 refine Ae (Ab ?_)
 obtain ⟨o1, G1, K1, L1⟩ := JX H
 refine AK (fun a w => some (Sum.inl ()) = some o1 ∧ Fr 19 [] [(4, .int .i64 0)] a ∧ Stw ⟨Y, [], w0⟩ [] [] w) ?_ ?_
 ·
  have H := G1
  clear G1 K1
  refine Ah (Ac ?_)
  refine ls F W Aa (Ad F Aa).q fun a w F W => ?_
  refine ls F W Aa (B1 (r := (Rp.int .i64)) (l := p0) Hu Aa F Aa (Ap h_v1)).q fun a w F W => ?_
  refine ls F W Aa (Ad F Aa).q fun a w F W => ?_
  refine Ae (Ab (As ?_))
  refine Bh H (fun s a w => Fr 19 [] [(0, v1), (1, .func (.func 52) #[] #[]), (4, .int .i64 0), (7, .int .i64 (p0.length : Int)), (8, .int .i64 s)] a ∧ Stw ⟨Y, [], w0⟩ [] [] w) ⟨F.re ⟨rfl, Aa, Aa, Aa, Aa, trivial⟩, W⟩ fun s o a w H L2 hR => ?_
  obtain ⟨x1, rfl⟩ : ∃ x, x = s := ⟨s, rfl⟩
  obtain ⟨F, W⟩ := hR
  have F : Fr 19 [] [(0, v1), (1, .func (.func 52) #[] #[]), (4, .int .i64 0), (7, .int .i64 (p0.length : Int)), (8, .int .i64 x1)] a := F
  have W : Stw ⟨Y, [], w0⟩ [] [] w := W
  rw [BH] at H
  refine Ah (Ac ?_)
  refine ls F W Aa (BI F Aa Aa).q fun a w F W => ?_
  refine Ae (Ab (Ah ?_))
  refine Ay F Aa (fun hb => ?_) fun hb => ?_
  ·
   have H := AP (Bm hb) H
   rw [hb] at F
   clear hb
   refine Aq (Ab (Ah (As (Ah (Ac ?_)))))
   refine ls F W Aa (Ad F Aa).q fun a w F W => ?_
   refine ls F W Aa (Af F Aa).q fun a w F W => ?_
   refine Ae (Ab (Ah (Ac ?_)))
   iterate 3 refine ls F W Aa (Ad F Aa).q fun a w F W => ?_
   obtain ⟨x2, h1, H⟩ := Ak H
   refine ls F W Aa (AC (r := (Rp.int .i64)) EH F Aa Aa (Ap h_v1) h1).q fun a w F W => ?_
   refine ls F W Aa (Ao (y := Value.int .i64 x2) (j := 0) (i := x1) F Aa Aa (Ap h_v1) h1 Fl.int.to T3 Aa).q fun a w F W => ?_
   refine ls F W Aa (EO (ws := [.int .i64 x2]) (v := Value.bool (Dt x2)) F Vf Aa (fun w W => Kh any w x2 _ Aa)) fun a w F W => ?_
   refine Ae (Ab ?_)
   refine Ay F Aa (fun hb => ?_) fun hb => ?_
   ·
    have H := AP hb H
    rw [hb] at F
    clear hb
    refine Ah (Ac ?_)
    refine ls F W Aa (Ad F Aa).q fun a w F W => ?_
    refine ls F W Aa (Af F Aa).q fun a w F W => ?_
    refine Ae (Ab (AF (A3 ?_)))
    iterate 2 refine AN ?_
    refine A3 (AN ?_)
    have H := L2 _ H
    have H := L1 _ H
    have H := AQ H
    subst H
    refine Bj (.inl Aa) F W Aa (AD F Aa) ?_
    exact ⟨rfl, W.done⟩
   have H := AO (by rw [hb]; decide) H
   rw [hb] at F
   clear hb
   refine Aq (AM (Ab (Ac ?_)))
   refine ls F W Aa (Bp F Aa Aa Aa).q fun a w F W => ?_
   refine ls F W Aa (Ad F Aa).q fun a w F W => ?_
   refine Ae (Ab ?_)
   exact ⟨_, H, F.re ⟨rfl, Aa, Aa, Aa, Aa, trivial⟩, W⟩
  have H := AO (Bn hb) H
  rw [hb] at F
  clear hb
  refine A5 ?_
  iterate 2 refine Bk ?_
  refine A6 (Ab ?_)
  have H := L2 _ H
  exact ⟨H, F.re ⟨rfl, trivial⟩, W⟩
 rintro a w ⟨hj, F, W⟩
 have H := K1 _ hj
 clear hj G1 K1 L1
 refine Ah (Ac ?_)
 refine ls F W Aa (Af F Aa).q fun a w F W => ?_
 refine Ae (Ab (AF ?_))
 have H := AQ H
 subst H
 refine Bj (.inl Aa) F W Aa (AD F Aa) ?_
 exact ⟨rfl, W.done⟩
theorem UX : Has Try.prog 71 := ⟨fun args w => Al Try.func71 rfl (by decide) args w⟩
noncomputable def Cl (p0 : List Int) : Option Bool := (CL p0).bind fun x1 => some (decide (0 ≤ x1))
theorem Hf (Y : Nat → Prop) (w0 : World) (v1 : Value) (p0 : List Int) (r : Bool) (H : Cl p0 = some r) (h_v1 : Sl w0 (NX []) (Rp.int .i64) v1 p0) :
    Calls Try.prog 51 #[v1, .func (.func 52) #[] #[]] w0 fun e w' => e = .returned (.bool r) ∧ Below w0.heap.size w0 w' := by
 refine enter Try.func51 Aa Try.ntmps51 Aa fun a F => ?_
 have W := Stw.start Y w0
 unfold Cl at H
 refine Ah (Ac ?_)
 refine ls F W Aa (Af F Aa).q fun a w F W => ?_
 refine Ae (Ab (Ah (Ac ?_)))
 iterate 2 refine ls F W Aa (Ad F Aa).q fun a w F W => ?_
 obtain ⟨x1, h1, H⟩ := Ak H
 refine ls F W Aa (BR (v := Value.int .i64 x1) F UX Aa (fun w W => HX any w (v1) p0 _ h1 (((Ap h_v1) : EM _ _ _ _ _ _) w W).nx)) fun a w F W => ?_
 refine ls F W Aa (Ds F Aa Aa).q fun a w F W => ?_
 refine ls F W Aa (Af F Aa).q fun a w F W => ?_
 refine Ae (Ab (AF ?_))
 have H := AQ H
 subst H
 refine Bj (.inl Aa) F W Aa (AD F Aa) ?_
 exact ⟨rfl, W.done⟩
theorem VF : Has Try.prog 51 := ⟨fun args w => Al Try.func51 rfl (by decide) args w⟩
noncomputable def Ei (p0 : Int × (List (Int × Int × Int × Int × Int × Int)) × (List (Int × Int))) (p1 : List (List Int)) : Int → Option (Int ⊕ (Unit ⊕ Bool))
  | x3 => (if x3 < (p1.length : Int) then (ix p1 x3).bind fun x4 => (if (x4.length : Int) ≠ (p0.2.2.length : Int) then some true else (Cl x4).bind fun x6 => some x6).bind fun x5 => (if x5 = true then some (.inr (.inr false)) else some (.inl (Az (x3 + 1)))) else some (.inr (.inl ())))
noncomputable def EW (p0 : Int × (List (Int × Int × Int × Int × Int × Int)) × (List (Int × Int))) (p1 : List (List Int)) : Option Bool := ((Gc p0).bind fun x2 => (if (!x2) = true then some true else some (decide ((p1.length : Int) ≠ p0.1)))).bind fun x1 => (if x1 = true then some false else FO (AH (Ei p0 p1) 0) fun _ => some true)
theorem JO (Y : Nat → Prop) (w0 : World) (v1 : Value) (v2 : Value) (v3 : Value) (p0 : Int × (List (Int × Int × Int × Int × Int × Int)) × (List (Int × Int))) (p1 : List (List Int)) (r : Bool) (H : EW p0 p1 = some r) (h_v1 : Sl w0 (NX []) Ii v1 p0.2.1) (h_v2 : Sl w0 (NX []) Ip v2 p0.2.2) (h_v3 : Sl w0 (NX []) (Rp.slice (Rp.int .i64)) v3 p1) :
    Calls Try.prog 37 #[.agg #[.int .i64 p0.1, v1, v2], v3] w0 fun e w' => e = .returned (.bool r) ∧ Below w0.heap.size w0 w' := by
 refine enter Try.func37 Aa Try.ntmps37 Aa fun a F => ?_
 have W := Stw.start Y w0
 obtain ⟨v4, h1, h_v3⟩ := h_v3.ex Er
 unfold EW at H
 refine Ah (Ac ?_)
 refine EQ (cs := [.int .i64 p0.1, v1, v2]) F W Aa Aa Aa fun b1 a w F W => ?_
 refine ls F W Aa (Af F Aa).q fun a w F W => ?_
 refine Ae (Ab (Ah ?_))
 obtain ⟨o1, G1, K1⟩ := Ak H
 refine AK (fun a w => ∃ x1 : Bool, some (x1) = some o1 ∧ Fr 34 [] [(1, v3), (2, .pointer (some ⟨b1, 0, none⟩)), (4, .bool false), (16, .bool x1)] a ∧ Stw ⟨Y, [], w0⟩ [(b1, [.int .i64 p0.1, v1, v2])] [] w) ?_ ?_
 ·
  have H := G1
  clear G1 K1
  refine Ac ?_
  refine ls F W Aa (AB (v := Value.agg #[.int .i64 p0.1, v1, v2]) 0 F Aa Aa Mk Aa).q fun a w F W => ?_
  obtain ⟨x2, h2, H⟩ := Ak H
  refine ls F W Aa (BR (v := Value.bool x2) F V8 Aa (fun w W => NE any w (v1) (v2) p0 _ h2 (((Ap h_v1) : EM _ _ _ _ _ _) w W).nx (((Ap h_v2) : EM _ _ _ _ _ _) w W).nx)) fun a w F W => ?_
  refine ls F W Aa (ED F Aa).q fun a w F W => ?_
  refine ls F W Aa (Ad F Aa).q fun a w F W => ?_
  rcases Bool.eq_false_or_eq_true (!x2) with hb | hb
  ·
   have H := AP hb H
   rw [hb] at F
   clear hb
   iterate 5 refine C1 F Aa Aa Aa Aa Aa Aa Aa fun a F => ?_
   refine ls F W Aa (Av F Aa Aa Aa).q fun a w F W => ?_
   refine Ae (Ab ?_)
   exact ⟨_, H, F.re ⟨rfl, Aa, Aa, Aa, trivial⟩, W⟩
  have H := AO (by rw [hb]; decide) H
  rw [hb] at F
  clear hb
  refine AR F W (Ag F Aa Aa Aa Aa) Aa (An Aa) (Ad F Aa).q fun a w F W => ?_
  refine AR F W (Ag F Aa Aa Aa Aa) Aa (An Aa) (B1 (r := (Rp.slice (Rp.int .i64))) (l := p1) Kw Aa F Aa (Cb Er h1 (Ap h_v3))).q fun a w F W => ?_
  refine AR F W (Ag F Aa Aa Aa Aa) Aa (An Aa) (Am IE Aa Aa Aa T3 F Aa 0 Aa).q fun a w F W => ?_
  refine AR F W (Ag F Aa Aa Aa Aa) Aa (An Aa) (AB (v := Value.int .i64 p0.1) 0 F Aa Aa T3 Aa).q fun a w F W => ?_
  refine AR F W (Ag F Aa Aa Aa Aa) Aa (An Aa) (Hq F Aa Aa).q fun a w F W => ?_
  refine ls F W Aa (Ax F Aa Aa Aa).q fun a w F W => ?_
  refine Ae (Ab ?_)
  exact ⟨_, H, F.re ⟨rfl, Aa, Aa, Aa, trivial⟩, W⟩
 rintro a w ⟨x1, hj, F, W⟩
 have hj := AQ hj
 subst hj
 have H := K1
 clear G1 K1
 refine Ay F Aa (fun hb => ?_) fun hb => ?_
 ·
  have H := AP hb H
  rw [hb] at F
  clear hb
  refine Ah (Ac ?_)
  refine ls F W Aa (Af F Aa).q fun a w F W => ?_
  refine Ae (Ab (AF (AN ?_)))
  have H := AQ H
  subst H
  refine Bj (.inl Aa) F W Aa (AD F Aa) ?_
  exact ⟨rfl, W.done⟩
 have H := AO (by rw [hb]; decide) H
 rw [hb] at F
 clear hb
 refine Aq (Ab ?_)
 obtain ⟨o2, G2, K2, L2⟩ := JX H
 refine AK (fun a w => some (Sum.inl ()) = some o2 ∧ Fr 34 [] [(4, .bool false)] a ∧ Stw ⟨Y, [], w0⟩ [(b1, [.int .i64 p0.1, v1, v2])] [] w) ?_ ?_
 ·
  have H := G2
  clear G2 K2
  refine Ah (Ac ?_)
  refine ls F W Aa (Ad F Aa).q fun a w F W => ?_
  refine ls F W Aa (B1 (r := (Rp.slice (Rp.int .i64))) (l := p1) Kw Aa F Aa (Cb Er h1 (Ap h_v3))).q fun a w F W => ?_
  refine ls F W Aa (Ad F Aa).q fun a w F W => ?_
  refine Ae (Ab (As ?_))
  refine Bh H (fun s a w => Fr 34 [] [(2, .pointer (some ⟨b1, 0, none⟩)), (4, .bool false), (17, v3), (18, .int .i64 (p1.length : Int)), (19, .int .i64 s)] a ∧ Stw ⟨Y, [], w0⟩ [(b1, [.int .i64 p0.1, v1, v2])] [] w) ⟨F.re ⟨rfl, Aa, Aa, Aa, Aa, trivial⟩, W⟩ fun s o a w H L3 hR => ?_
  obtain ⟨x3, rfl⟩ : ∃ x, x = s := ⟨s, rfl⟩
  obtain ⟨F, W⟩ := hR
  have F : Fr 34 [] [(2, .pointer (some ⟨b1, 0, none⟩)), (4, .bool false), (17, v3), (18, .int .i64 (p1.length : Int)), (19, .int .i64 x3)] a := F
  have W : Stw ⟨Y, [], w0⟩ [(b1, [.int .i64 p0.1, v1, v2])] [] w := W
  rw [Ei] at H
  refine Ah (Ac ?_)
  refine ls F W Aa (BI F Aa Aa).q fun a w F W => ?_
  refine Ae (Ab (Ah ?_))
  refine Ay F Aa (fun hb => ?_) fun hb => ?_
  ·
   have H := AP (Bm hb) H
   rw [hb] at F
   clear hb
   refine Aq (Ab (Ah (As (Ah (Ac ?_)))))
   obtain ⟨x4, h3, H⟩ := Ak H
   obtain ⟨v5, h4, h5⟩ := EK h1 h3
   have h6 : Ir v5 = [(v5.1)] := congrArg (fun q : List Int => ([(v5.1)] : List Value)) h5
   refine ls F W Aa (AC (r := (Rp.vsl (Rp.int .i64))) N8 F Aa Aa (Ap h_v3) h4).q fun a w F W => ?_
   refine ls F W Aa (Ao (y := (v5.1)) (j := 0) (i := x3) (enc := Ir) F Aa Aa (Ap h_v3) h4 MU J7 (by rw [h6]; rfl)).q fun a w F W => ?_
   refine ls F W Aa (Af F Aa).q fun a w F W => ?_
   refine Ae (Ab ?_)
   obtain ⟨o4, G4, K4⟩ := Ak H
   refine AK (fun a w => ∃ x5 : Bool, some (x5) = some o4 ∧ Fr 34 [] [(2, .pointer (some ⟨b1, 0, none⟩)), (4, .bool false), (17, v3), (18, .int .i64 (p1.length : Int)), (19, .int .i64 x3), (32, .bool x5)] a ∧ Stw ⟨Y, [], w0⟩ [(b1, [.int .i64 p0.1, v1, v2])] [] w) ?_ ?_
   ·
    have H := G4
    clear G4 K4
    refine Ac ?_
    refine ls F W Aa (Ad F Aa).q fun a w F W => ?_
    refine ls F W Aa (B1 (r := (Rp.int .i64)) (l := x4) Hu Aa F Aa (D2 (Ap h_v3) h4 Cu.here (congrArg (fun q : List Int => q) h5))).q fun a w F W => ?_
    refine ls F W Aa (Am IE Aa Aa Aa Pu F Aa 2 Aa).q fun a w F W => ?_
    refine ls F W Aa (AB (v := v2) 0 F Aa Aa Pu Aa).q fun a w F W => ?_
    refine ls F W Aa (B1 (r := Ip) (l := p0.2.2) Od Aa F Aa (Ap h_v2)).q fun a w F W => ?_
    refine ls F W Aa (Hq F Aa Aa).q fun a w F W => ?_
    refine ls F W Aa (Ad F Aa).q fun a w F W => ?_
    rcases Bool.eq_false_or_eq_true (decide ((x4.length : Int) ≠ (p0.2.2.length : Int))) with hb | hb
    ·
     have H := AP (Bm hb) H
     rw [hb] at F
     clear hb
     iterate 2 refine C1 F Aa Aa Aa Aa Aa Aa Aa fun a F => ?_
     refine ls F W Aa (Av F Aa Aa Aa).q fun a w F W => ?_
     refine Ae (Ab ?_)
     exact ⟨_, H, F.re ⟨rfl, Aa, Aa, Aa, Aa, Aa, trivial⟩, W⟩
    have H := AO (Bn hb) H
    rw [hb] at F
    clear hb
    refine AR F W (Ag F Aa Aa Aa Aa) Aa (An Aa) (Ad F Aa).q fun a w F W => ?_
    refine IQ (Ag F Aa Aa Aa Aa) ?_
    obtain ⟨x6, h7, H⟩ := Ak H
    refine ls F W Aa (BR (v := Value.bool x6) F VF Aa (fun w W => Hf any w ((v5.1)) x4 _ h7 (((D2 (Ap h_v3) h4 Cu.here (congrArg (fun q : List Int => q) h5)) : EM _ _ _ _ _ _) w W).nx)) fun a w F W => ?_
    refine ls F W Aa (Ax F Aa Aa Aa).q fun a w F W => ?_
    refine Ae (Ab ?_)
    exact ⟨_, H, F.re ⟨rfl, Aa, Aa, Aa, Aa, Aa, trivial⟩, W⟩
   rintro a w ⟨x5, hj, F, W⟩
   have hj := AQ hj
   subst hj
   have H := K4
   clear G4 K4
   refine Ay F Aa (fun hb => ?_) fun hb => ?_
   ·
    have H := AP hb H
    rw [hb] at F
    clear hb
    refine Ah (Ac ?_)
    refine ls F W Aa (Af F Aa).q fun a w F W => ?_
    refine Ae (Ab (AF (A3 ?_)))
    iterate 2 refine AN ?_
    refine A3 (AN ?_)
    have H := L3 _ H
    have H := L2 _ H
    have H := AQ H
    subst H
    refine Bj (.inl Aa) F W Aa (AD F Aa) ?_
    exact ⟨rfl, W.done⟩
   have H := AO (by rw [hb]; decide) H
   rw [hb] at F
   clear hb
   refine Aq (AM (Ab (Ac ?_)))
   refine ls F W Aa (Bp F Aa Aa Aa).q fun a w F W => ?_
   refine ls F W Aa (Ad F Aa).q fun a w F W => ?_
   refine Ae (Ab ?_)
   exact ⟨_, H, F.re ⟨rfl, Aa, Aa, Aa, Aa, trivial⟩, W⟩
  have H := AO (Bn hb) H
  rw [hb] at F
  clear hb
  refine A5 ?_
  iterate 2 refine Bk ?_
  refine A6 (Ab ?_)
  have H := L3 _ H
  exact ⟨H, F.re ⟨rfl, trivial⟩, W⟩
 rintro a w ⟨hj, F, W⟩
 have H := K2 _ hj
 clear hj G2 K2 L2
 refine Ah (Ac ?_)
 refine ls F W Aa (Af F Aa).q fun a w F W => ?_
 refine Ae (Ab (AF ?_))
 have H := AQ H
 subst H
 refine Bj (.inl Aa) F W Aa (AD F Aa) ?_
 exact ⟨rfl, W.done⟩
theorem UN : Has Try.prog 37 := ⟨fun args w => Al Try.func37 rfl (by decide) args w⟩
theorem Z3 : (Try.prog.info? 3).bind (·.zero) = some (.int .i64 0) := by kernel_rfl
theorem MO : Try.prog.follows .mixedOrders = true := by kernel_rfl
theorem UF : Bt Try.prog 53 [.int .i64 0, .int .i64 0] [(0, 1), (1, 1)] := ⟨⟨.agg #[.int .i64 0, .int .i64 0], by kernel_rfl, rfl⟩, ⟨_, RV, fun w => by kernel_rfl⟩⟩
theorem Ul (dd : Nat) (x0 : Int) (x1 : Int) (y0 : Int) (y1 : Int) (w : World) : (Op.equalIn (dd + 2) 53 (.agg #[.int .i64 x0, .int .i64 x1]) (.agg #[.int .i64 y0, .int .i64 y1])).run Try.prog w = .ok (decide (x0 = y0 ∧ x1 = y1)) w :=
  JH (d := dd + 1) (rs := [decide (x0 = y0), decide (x1 = y1)]) RV (by kernel_rfl) ⟨rfl, In (d := dd + 0) rfl rfl OI T3 rfl rfl, rfl, In (d := dd + 0) rfl rfl OI T3 rfl rfl, trivial⟩ (by simp) w
theorem Wr : Try.prog.eqGuardType Try.prog.depth 53 = false := by kernel_rfl
theorem VL (x0 : Int) (x1 : Int) (y0 : Int) (y1 : Int) (w : World) : (Op.equalIn 10000 53 (.agg #[.int .i64 x0, .int .i64 x1]) (.agg #[.int .i64 y0, .int .i64 y1])).run Try.prog w = .ok (decide (x0 = y0 ∧ x1 = y1)) w := Ul 9998 x0 x1 y0 y1 w
noncomputable def Bf (p0 : List (Int × Int)) (p1 : Int × Int) : Int → Option (Int ⊕ (Unit ⊕ Int))
  | x1 => (if x1 < (p0.length : Int) then (ix p0 x1).bind fun x2 => (if p1.1 = x2.1 ∧ p1.2 = x2.2 then some (.inr (.inr x1)) else some (.inl (Az (x1 + 1)))) else some (.inr (.inl ())))
noncomputable def Cm (p0 : List (Int × Int)) (p1 : Int × Int) : Option Int := FO (AH (Bf p0 p1) 0) fun _ => some (-1)
theorem Gw (Y : Nat → Prop) (w0 : World) (v1 : Value) (p0 : List (Int × Int)) (p1 : Int × Int) (r : Int) (H : Cm p0 p1 = some r) (h_v1 : Sl w0 (NX []) Ip v1 p0) :
    Calls Try.prog 72 #[v1, .agg #[.int .i64 p1.1, .int .i64 p1.2]] w0 fun e w' => e = .returned (.int .i64 r) ∧ Below w0.heap.size w0 w' := by
 refine enter Try.func72 Aa Try.ntmps72 Aa fun a F => ?_
 have W := Stw.start Y w0
 unfold Cm at H
 refine Ah (Ac ?_)
 refine EQ (cs := [.int .i64 p1.1, .int .i64 p1.2]) F W Aa Aa Aa fun b1 a w F W => ?_
 refine ls F W Aa (Af F Aa).q fun a w F W => ?_
 refine Ae (Ab ?_)
 obtain ⟨o1, G1, K1, L1⟩ := JX H
 refine AK (fun a w => some (Sum.inl ()) = some o1 ∧ Fr 19 [] [(4, .int .i64 0)] a ∧ Stw ⟨Y, [], w0⟩ [(b1, [.int .i64 p1.1, .int .i64 p1.2])] [] w) ?_ ?_
 ·
  have H := G1
  clear G1 K1
  refine Ah (Ac ?_)
  refine ls F W Aa (Ad F Aa).q fun a w F W => ?_
  refine ls F W Aa (B1 (r := Ip) (l := p0) Od Aa F Aa (Ap h_v1)).q fun a w F W => ?_
  refine ls F W Aa (Ad F Aa).q fun a w F W => ?_
  refine Ae (Ab (As ?_))
  refine Bh H (fun s a w => Fr 19 [] [(0, v1), (3, .pointer (some ⟨b1, 0, none⟩)), (4, .int .i64 0), (7, .int .i64 (p0.length : Int)), (8, .int .i64 s)] a ∧ Stw ⟨Y, [], w0⟩ [(b1, [.int .i64 p1.1, .int .i64 p1.2])] [] w) ⟨F.re ⟨rfl, Aa, Aa, Aa, Aa, trivial⟩, W⟩ fun s o a w H L2 hR => ?_
  obtain ⟨x1, rfl⟩ : ∃ x, x = s := ⟨s, rfl⟩
  obtain ⟨F, W⟩ := hR
  have F : Fr 19 [] [(0, v1), (3, .pointer (some ⟨b1, 0, none⟩)), (4, .int .i64 0), (7, .int .i64 (p0.length : Int)), (8, .int .i64 x1)] a := F
  have W : Stw ⟨Y, [], w0⟩ [(b1, [.int .i64 p1.1, .int .i64 p1.2])] [] w := W
  rw [Bf] at H
  refine Ah (Ac ?_)
  refine ls F W Aa (BI F Aa Aa).q fun a w F W => ?_
  refine Ae (Ab (Ah ?_))
  refine Ay F Aa (fun hb => ?_) fun hb => ?_
  ·
   have H := AP (Bm hb) H
   rw [hb] at F
   clear hb
   refine Aq (Ab (Ah (As (Ah (Ac ?_)))))
   refine ls F W Aa (Ad F Aa).q fun a w F W => ?_
   refine ls F W Aa (Af F Aa).q fun a w F W => ?_
   refine Ae (Ab (Ah ?_))
   refine BS W MO (by kernel_rfl) ?_
   refine qs F Aa (AB (v := Value.agg #[.int .i64 p1.1, .int .i64 p1.2]) 0 F Aa Aa TN Aa).q fun a F => ?_
   iterate 2 refine qs F Aa (Ad F Aa).q fun a F => ?_
   obtain ⟨x2, h1, H⟩ := Ak H
   refine qs F Aa (AC (r := Ip) Us F Aa Aa (Ap h_v1) h1).q fun a F => ?_
   refine qs F Aa (Ao (y := Value.agg #[.int .i64 x2.1, .int .i64 x2.2]) (j := 0) (i := x1) F Aa Aa (Ap h_v1) h1 T7.to TN Aa).q fun a F => ?_
   refine qs F Aa (PB (t := decide (p1.1 = x2.1 ∧ p1.2 = x2.2)) Wr (VL _ _ _ _) F Aa Aa).q fun a F => ?_
   refine A0 fun w W => ?_
   refine Ab ?_
   refine Ay F Aa (fun hb => ?_) fun hb => ?_
   ·
    have H := AP (Bm hb) H
    rw [hb] at F
    clear hb
    refine Ah (Ac ?_)
    refine ls F W Aa (Ad F Aa).q fun a w F W => ?_
    refine ls F W Aa (Af F Aa).q fun a w F W => ?_
    refine Ae (Ab (AF (A3 ?_)))
    iterate 2 refine AN ?_
    refine A3 (AN ?_)
    have H := L2 _ H
    have H := L1 _ H
    have H := AQ H
    subst H
    refine Bj (.inl Aa) F W Aa (AD F Aa) ?_
    exact ⟨rfl, W.done⟩
   have H := AO (Bn hb) H
   rw [hb] at F
   clear hb
   refine Aq (AM (Ab (Ac ?_)))
   refine ls F W Aa (Bp F Aa Aa Aa).q fun a w F W => ?_
   refine ls F W Aa (Ad F Aa).q fun a w F W => ?_
   refine Ae (Ab ?_)
   exact ⟨_, H, F.re ⟨rfl, Aa, Aa, Aa, Aa, trivial⟩, W⟩
  have H := AO (Bn hb) H
  rw [hb] at F
  clear hb
  refine A5 ?_
  iterate 2 refine Bk ?_
  refine A6 (Ab ?_)
  have H := L2 _ H
  exact ⟨H, F.re ⟨rfl, trivial⟩, W⟩
 rintro a w ⟨hj, F, W⟩
 have H := K1 _ hj
 clear hj G1 K1 L1
 refine Ah (Ac ?_)
 refine ls F W Aa (Af F Aa).q fun a w F W => ?_
 refine Ae (Ab (AF ?_))
 have H := AQ H
 subst H
 refine Bj (.inl Aa) F W Aa (AD F Aa) ?_
 exact ⟨rfl, W.done⟩
theorem Vi : Has Try.prog 72 := ⟨fun args w => Al Try.func72 rfl (by decide) args w⟩
noncomputable def EY (p0 : Int × (List (Int × Int × Int × Int × Int × Int)) × (List (Int × Int))) (p1 : Int) (p2 : Int) : Option Int := (Cm p0.2.2 (p1, p2)).bind fun x1 => some x1
theorem M3 (Y : Nat → Prop) (w0 : World) (v1 : Value) (v2 : Value) (p0 : Int × (List (Int × Int × Int × Int × Int × Int)) × (List (Int × Int))) (p1 : Int) (p2 : Int) (r : Int) (H : EY p0 p1 p2 = some r) (h_v1 : Sl w0 (NX []) Ii v1 p0.2.1) (h_v2 : Sl w0 (NX []) Ip v2 p0.2.2) :
    Calls Try.prog 53 #[.agg #[.int .i64 p0.1, v1, v2], .int .i64 p1, .int .i64 p2] w0 fun e w' => e = .returned (.int .i64 r) ∧ Below w0.heap.size w0 w' := by
 refine enter Try.func53 Aa Try.ntmps53 Aa fun a F => ?_
 have W := Stw.start Y w0
 unfold EY at H
 refine Ah (Ac ?_)
 refine EQ (cs := [.int .i64 p0.1, v1, v2]) F W Aa Aa Aa fun b1 a w F W => ?_
 refine ls F W Aa (Af F Aa).q fun a w F W => ?_
 refine Ae (Ab (Ah (Ac ?_)))
 refine ls F W Aa (Am IE Aa Aa Aa Pu F Aa 2 Aa).q fun a w F W => ?_
 refine ls F W Aa (AB (v := v2) 0 F Aa Aa Pu Aa).q fun a w F W => ?_
 iterate 2 refine ls F W Aa (Ad F Aa).q fun a w F W => ?_
 refine ls F W Aa (CE (v := Value.agg #[.int .i64 p1, .int .i64 p2]) UF F Aa Aa Aa).q fun a w F W => ?_
 obtain ⟨x1, h1, H⟩ := Ak H
 refine ls F W Aa (BR (v := Value.int .i64 x1) F Vi Aa (fun w W => Gw any w (v2) p0.2.2 (p1, p2) _ h1 (((Ap h_v2) : EM _ _ _ _ _ _) w W).nx)) fun a w F W => ?_
 refine ls F W Aa (Af F Aa).q fun a w F W => ?_
 refine Ae (Ab (AF ?_))
 have H := AQ H
 subst H
 refine Bj (.inl Aa) F W Aa (AD F Aa) ?_
 exact ⟨rfl, W.done⟩
theorem VX : Has Try.prog 53 := ⟨fun args w => Al Try.func53 rfl (by decide) args w⟩
noncomputable def DK (p0 : Int × (List (Int × Int × Int × Int × Int × Int)) × (List (Int × Int))) (p1 : Int) (p2 : Int) : Int → Option (Int ⊕ (Unit ⊕ (Int × Int × Int × Bool)))
  | x1 => (if x1 < (p0.2.1.length : Int) then (ix p0.2.1 x1).bind fun x2 => (if p1 = x2.1 ∧ p2 = x2.2.1 then some (.inr (.inr (x2.2.2.1, x2.2.2.2.1, x1, true))) else (if p1 = x2.2.2.1 ∧ p2 = x2.2.2.2.1 then some (.inr (.inr (x2.1, x2.2.1, x1, true))) else some (.inl (Az (x1 + 1))))) else some (.inr (.inl ())))
noncomputable def Gl (p0 : Int × (List (Int × Int × Int × Int × Int × Int)) × (List (Int × Int))) (p1 : Int) (p2 : Int) : Option (Int × Int × Int × Bool) := FO (AH (DK p0 p1 p2) 0) fun _ => some (0, 0, 0, false)
theorem Oh (Y : Nat → Prop) (w0 : World) (v1 : Value) (v2 : Value) (p0 : Int × (List (Int × Int × Int × Int × Int × Int)) × (List (Int × Int))) (p1 : Int) (p2 : Int) (r : Int × Int × Int × Bool) (H : Gl p0 p1 p2 = some r) (h_v1 : Sl w0 (NX []) Ii v1 p0.2.1) (h_v2 : Sl w0 (NX []) Ip v2 p0.2.2) :
    Calls Try.prog 73 #[.agg #[.int .i64 p0.1, v1, v2], .int .i64 p1, .int .i64 p2] w0 fun e w' => e = .returned (.tuple #[.int .i64 r.1, .int .i64 r.2.1, .int .i64 r.2.2.1, .bool r.2.2.2]) ∧ Below w0.heap.size w0 w' := by
 refine enter Try.func73 Aa Try.ntmps73 Aa fun a F => ?_
 have W := Stw.start Y w0
 unfold Gl at H
 refine Ah (Ac ?_)
 refine EQ (cs := [.int .i64 p0.1, v1, v2]) F W Aa Aa Aa fun b1 a w F W => ?_
 iterate 4 refine ls F W Aa (Af F Aa).q fun a w F W => ?_
 refine Ae (Ab (Ah (Ac ?_)))
 iterate 2 refine ls F W Aa (Ad F Aa).q fun a w F W => ?_
 refine ls F W Aa (CE (v := Value.agg #[.int .i64 p1, .int .i64 p2]) Qb F Aa Aa Aa).q fun a w F W => ?_
 refine CB (cs := [.int .i64 0, .int .i64 0]) F W Aa RT Aa fun b2 a w F W => ?_
 refine BW (vs := [.int .i64 p1, .int .i64 p2]) (M' := [(b2, [.int .i64 p1, .int .i64 p2]), (b1, [.int .i64 p0.1, v1, v2])]) 0 F W Aa Aa Aa O0 Aa Aa Aa Aa Aa fun w W => ?_
 refine Ae (Ab ?_)
 obtain ⟨o1, G1, K1, L1⟩ := JX H
 refine AK (fun a w => some (Sum.inl ()) = some o1 ∧ Fr 49 [] [(6, .int .i64 0), (7, .int .i64 0), (8, .int .i64 0), (9, .bool false)] a ∧ Stw ⟨Y, [], w0⟩ [(b2, [.int .i64 p1, .int .i64 p2]), (b1, [.int .i64 p0.1, v1, v2])] [] w) ?_ ?_
 ·
  have H := G1
  clear G1 K1
  refine Ah (Ac ?_)
  refine ls F W Aa (Am IE Aa Aa Aa Qt F Aa 1 Aa).q fun a w F W => ?_
  refine ls F W Aa (AB (v := v1) 1 F Aa Aa Qt Aa).q fun a w F W => ?_
  refine ls F W Aa (B1 (r := Ii) (l := p0.2.1) O4 Aa F Aa (Ap h_v1)).q fun a w F W => ?_
  refine ls F W Aa (Ad F Aa).q fun a w F W => ?_
  refine Ae (Ab (As ?_))
  have W := W.frontM (i := 1) Aa Aa
  have W := W.frontM (i := 1) Aa Aa
  refine Bh H (fun s a w => Fr 49 [] [(6, .int .i64 0), (7, .int .i64 0), (8, .int .i64 0), (9, .bool false), (10, .pointer (some ⟨b2, 0, none⟩)), (17, v1), (18, .int .i64 (p0.2.1.length : Int)), (19, .int .i64 s)] a ∧ Stw ⟨Y, [], w0⟩ [(b2, [.int .i64 p1, .int .i64 p2]), (b1, [.int .i64 p0.1, v1, v2])] [] w) ⟨F.re ⟨rfl, Aa, Aa, Aa, Aa, Aa, Aa, Aa, trivial⟩, W⟩ fun s o a w H L2 hR => ?_
  obtain ⟨x1, rfl⟩ : ∃ x, x = s := ⟨s, rfl⟩
  obtain ⟨F, W⟩ := hR
  have F : Fr 49 [] [(6, .int .i64 0), (7, .int .i64 0), (8, .int .i64 0), (9, .bool false), (10, .pointer (some ⟨b2, 0, none⟩)), (17, v1), (18, .int .i64 (p0.2.1.length : Int)), (19, .int .i64 x1)] a := F
  have W : Stw ⟨Y, [], w0⟩ [(b2, [.int .i64 p1, .int .i64 p2]), (b1, [.int .i64 p0.1, v1, v2])] [] w := W
  rw [DK] at H
  refine Ah (Ac ?_)
  refine ls F W Aa (BI F Aa Aa).q fun a w F W => ?_
  refine Ae (Ab (Ah ?_))
  refine Ay F Aa (fun hb => ?_) fun hb => ?_
  ·
   have H := AP (Bm hb) H
   rw [hb] at F
   clear hb
   refine Aq (Ab (Ah (As (Ah (Ac ?_)))))
   refine ls F W Aa (Ad F Aa).q fun a w F W => ?_
   obtain ⟨x2, h1, H⟩ := Ak H
   refine ls F W Aa (AC (r := Ii) Tq F Aa Aa (Ap h_v1) h1).q fun a w F W => ?_
   refine ls F W Aa (Ao (y := Value.agg #[.int .i64 x2.1, .int .i64 x2.2.1, .int .i64 x2.2.2.1, .int .i64 x2.2.2.2.1, .int .i64 x2.2.2.2.2.1, .int .i64 x2.2.2.2.2.2]) (j := 0) (i := x1) F Aa Aa (Ap h_v1) h1 S8.to Sr Aa).q fun a w F W => ?_
   refine CB (cs := [.int .i64 0, .int .i64 0, .int .i64 0, .int .i64 0, .int .i64 0, .int .i64 0]) F W Aa TJ Aa fun b3 a w F W => ?_
   refine ls F W Aa (Af F Aa).q fun a w F W => ?_
   refine BW (vs := [.int .i64 x2.1, .int .i64 x2.2.1, .int .i64 x2.2.2.1, .int .i64 x2.2.2.2.1, .int .i64 x2.2.2.2.2.1, .int .i64 x2.2.2.2.2.2]) (M' := [(b3, [.int .i64 x2.1, .int .i64 x2.2.1, .int .i64 x2.2.2.1, .int .i64 x2.2.2.2.1, .int .i64 x2.2.2.2.2.1, .int .i64 x2.2.2.2.2.2]), (b2, [.int .i64 p1, .int .i64 p2]), (b1, [.int .i64 p0.1, v1, v2])]) 0 F W Aa Aa Aa Sr Aa Aa Aa Aa Aa fun w W => ?_
   refine Ae (Ab (Ah (Ah (Ac ?_))))
   refine ls F W Aa (AB (v := Value.agg #[.int .i64 p1, .int .i64 p2]) 1 F Aa Aa O0 Aa).q fun a w F W => ?_
   refine ls F W Aa (Am IK Aa Aa Aa T3 F Aa 0 Aa).q fun a w F W => ?_
   refine ls F W Aa (AB (v := Value.int .i64 x2.1) 0 F Aa Aa T3 Aa).q fun a w F W => ?_
   refine ls F W Aa (Am IK Aa Aa Aa T3 F Aa 1 Aa).q fun a w F W => ?_
   refine ls F W Aa (AB (v := Value.int .i64 x2.2.1) 0 F Aa Aa T3 Aa).q fun a w F W => ?_
   refine ls F W Aa (CE (v := Value.agg #[.int .i64 x2.1, .int .i64 x2.2.1]) Qb F Aa Aa Aa).q fun a w F W => ?_
   refine ls F W Aa (PB (t := decide (p1 = x2.1 ∧ p2 = x2.2.1)) TA (Sx _ _ _ _) F Aa Aa).q fun a w F W => ?_
   refine Ae (Ab ?_)
   refine Ay F Aa (fun hb => ?_) fun hb => ?_
   ·
    have H := AP (Bm hb) H
    rw [hb] at F
    clear hb
    refine Ah ?_
    refine BS W MO (by kernel_rfl) ?_
    refine qs F Aa (Am IK Aa Aa Aa T3 F Aa 2 Aa).q fun a F => ?_
    refine qs F Aa (AB (v := Value.int .i64 x2.2.2.1) 0 F Aa Aa T3 Aa).q fun a F => ?_
    refine qs F Aa (Am IK Aa Aa Aa T3 F Aa 3 Aa).q fun a F => ?_
    refine qs F Aa (AB (v := Value.int .i64 x2.2.2.2.1) 0 F Aa Aa T3 Aa).q fun a F => ?_
    refine qs F Aa (Ad F Aa).q fun a F => ?_
    iterate 4 refine qs F Aa (Af F Aa).q fun a F => ?_
    refine A0 fun w W => ?_
    refine Ab (AF (AN (A3 ?_)))
    iterate 2 refine AN ?_
    refine A3 (AN ?_)
    have H := L2 _ H
    have H := L1 _ H
    have H := AQ H
    subst H
    refine QU (.inl Aa) F W Aa (AD F Aa) (AD F Aa) (AD F Aa) (AD F Aa) ?_
    exact ⟨rfl, W.done⟩
   have H := AO (Bn hb) H
   rw [hb] at F
   clear hb
   refine Aq (Ab (Ah (Ac ?_)))
   refine ls F W Aa (AB (v := Value.agg #[.int .i64 p1, .int .i64 p2]) 1 F Aa Aa O0 Aa).q fun a w F W => ?_
   refine ls F W Aa (Am IK Aa Aa Aa T3 F Aa 2 Aa).q fun a w F W => ?_
   refine ls F W Aa (AB (v := Value.int .i64 x2.2.2.1) 0 F Aa Aa T3 Aa).q fun a w F W => ?_
   refine ls F W Aa (Am IK Aa Aa Aa T3 F Aa 3 Aa).q fun a w F W => ?_
   refine ls F W Aa (AB (v := Value.int .i64 x2.2.2.2.1) 0 F Aa Aa T3 Aa).q fun a w F W => ?_
   refine ls F W Aa (CE (v := Value.agg #[.int .i64 x2.2.2.1, .int .i64 x2.2.2.2.1]) Qb F Aa Aa Aa).q fun a w F W => ?_
   refine ls F W Aa (PB (t := decide (p1 = x2.2.2.1 ∧ p2 = x2.2.2.2.1)) TA (Sx _ _ _ _) F Aa Aa).q fun a w F W => ?_
   refine Ae (Ab ?_)
   refine Ay F Aa (fun hb => ?_) fun hb => ?_
   ·
    have H := AP (Bm hb) H
    rw [hb] at F
    clear hb
    refine Ah ?_
    refine BS W MO (by kernel_rfl) ?_
    refine qs F Aa (Am IK Aa Aa Aa T3 F Aa 0 Aa).q fun a F => ?_
    refine qs F Aa (AB (v := Value.int .i64 x2.1) 0 F Aa Aa T3 Aa).q fun a F => ?_
    refine qs F Aa (Am IK Aa Aa Aa T3 F Aa 1 Aa).q fun a F => ?_
    refine qs F Aa (AB (v := Value.int .i64 x2.2.1) 0 F Aa Aa T3 Aa).q fun a F => ?_
    refine qs F Aa (Ad F Aa).q fun a F => ?_
    iterate 4 refine qs F Aa (Af F Aa).q fun a F => ?_
    refine A0 fun w W => ?_
    refine Ab (AF (A3 ?_))
    iterate 2 refine AN ?_
    refine A3 (AN ?_)
    have H := L2 _ H
    have H := L1 _ H
    have H := AQ H
    subst H
    refine QU (.inl Aa) F W Aa (AD F Aa) (AD F Aa) (AD F Aa) (AD F Aa) ?_
    exact ⟨rfl, W.done⟩
   have H := AO (Bn hb) H
   rw [hb] at F
   clear hb
   refine Aq (AM (Ab (Ac ?_)))
   refine ls F W Aa (Bp F Aa Aa Aa).q fun a w F W => ?_
   refine ls F W Aa (Ad F Aa).q fun a w F W => ?_
   refine Ae (Ab ?_)
   have W := W.frontM (i := 2) Aa Aa
   have W := W.frontM (i := 2) Aa Aa
   have W := W.sub (M' := [(b2, [.int .i64 p1, .int .i64 p2]), (b1, [.int .i64 p0.1, v1, v2])]) (Z' := []) (List.Sublist.cons_cons _ (List.Sublist.cons_cons _ (List.nil_sublist _))) (List.Sublist.refl _)
   exact ⟨_, H, F.re ⟨rfl, Aa, Aa, Aa, Aa, Aa, Aa, Aa, trivial⟩, W⟩
  have H := AO (Bn hb) H
  rw [hb] at F
  clear hb
  refine A5 ?_
  iterate 2 refine Bk ?_
  refine A6 (Ab ?_)
  have W := W.frontM (i := 1) Aa Aa
  have W := W.frontM (i := 1) Aa Aa
  have H := L2 _ H
  exact ⟨H, F.re ⟨rfl, Aa, Aa, Aa, trivial⟩, W⟩
 rintro a w ⟨hj, F, W⟩
 have H := K1 _ hj
 clear hj G1 K1 L1
 refine Ah (Ac ?_)
 iterate 4 refine ls F W Aa (Af F Aa).q fun a w F W => ?_
 refine Ae (Ab (AF ?_))
 have H := AQ H
 subst H
 refine QU (.inl Aa) F W Aa (AD F Aa) (AD F Aa) (AD F Aa) (AD F Aa) ?_
 exact ⟨rfl, W.done⟩
theorem Vc : Has Try.prog 73 := ⟨fun args w => Al Try.func73 rfl (by decide) args w⟩
noncomputable def Gg (p0 : Int × (List (Int × Int × Int × Int × Int × Int)) × (List (Int × Int))) (p1 : List (List Int)) (p2 : Int) (p3 : Int) : Option (Int × Bool) := (if p2 < 0 then some true else (if (p1.length : Int) ≤ p2 then some true else (if p3 < 0 then some true else (ix p1 p2).bind fun x2 => some (decide ((x2.length : Int) ≤ p3))))).bind fun x1 => (if x1 = true then some (0, false) else (ix p1 p2).bind fun x3 => (ix x3 p3).bind fun x4 => (Gl p0 p2 x4).bind fun x5 => some (x5.1, x5.2.2.2))
theorem Nx (Y : Nat → Prop) (w0 : World) (v1 : Value) (v2 : Value) (v3 : Value) (p0 : Int × (List (Int × Int × Int × Int × Int × Int)) × (List (Int × Int))) (p1 : List (List Int)) (p2 : Int) (p3 : Int) (r : Int × Bool) (H : Gg p0 p1 p2 p3 = some r) (h_v1 : Sl w0 (NX []) Ii v1 p0.2.1) (h_v2 : Sl w0 (NX []) Ip v2 p0.2.2) (h_v3 : Sl w0 (NX []) (Rp.slice (Rp.int .i64)) v3 p1) :
    Calls Try.prog 54 #[.agg #[.int .i64 p0.1, v1, v2], v3, .int .i64 p2, .int .i64 p3] w0 fun e w' => e = .returned (.tuple #[.int .i64 r.1, .bool r.2]) ∧ Below w0.heap.size w0 w' := by
 refine enter Try.func54 Aa Try.ntmps54 Aa fun a F => ?_
 have W := Stw.start Y w0
 obtain ⟨v4, h1, h_v3⟩ := h_v3.ex Er
 unfold Gg at H
 refine Ah (Ac ?_)
 refine EQ (cs := [.int .i64 p0.1, v1, v2]) F W Aa Aa Aa fun b1 a w F W => ?_
 iterate 2 refine ls F W Aa (Af F Aa).q fun a w F W => ?_
 refine Ae (Ab (Ah ?_))
 obtain ⟨o1, G1, K1⟩ := Ak H
 refine AK (fun a w => ∃ x1 : Bool, some (x1) = some o1 ∧ Fr 52 [] [(1, v3), (2, .int .i64 p2), (3, .int .i64 p3), (4, .pointer (some ⟨b1, 0, none⟩)), (8, .int .i64 0), (9, .bool false), (34, .bool x1)] a ∧ Stw ⟨Y, [], w0⟩ [(b1, [.int .i64 p0.1, v1, v2])] [] w) ?_ ?_
 ·
  have H := G1
  clear G1 K1
  refine Ac ?_
  refine ls F W Aa (Ad F Aa).q fun a w F W => ?_
  refine ls F W Aa (BI F Aa Aa).q fun a w F W => ?_
  refine ls F W Aa (Ad F Aa).q fun a w F W => ?_
  rcases Bool.eq_false_or_eq_true (decide (p2 < 0)) with hb | hb
  ·
   have H := AP (Bm hb) H
   rw [hb] at F
   clear hb
   iterate 4 refine C1 F Aa Aa Aa Aa Aa Aa Aa fun a F => ?_
   refine ls F W Aa (Av F Aa Aa Aa).q fun a w F W => ?_
   refine ls F W Aa (Ad F Aa).q fun a w F W => ?_
   iterate 2 refine C1 F Aa Aa Aa Aa Aa Aa Aa fun a F => ?_
   refine ls F W Aa (Av F Aa Aa Aa).q fun a w F W => ?_
   refine ls F W Aa (Ad F Aa).q fun a w F W => ?_
   iterate 7 refine C1 F Aa Aa Aa Aa Aa Aa Aa fun a F => ?_
   refine ls F W Aa (Av F Aa Aa Aa).q fun a w F W => ?_
   refine Ae (Ab ?_)
   exact ⟨_, H, F.re ⟨rfl, Aa, Aa, Aa, Aa, Aa, Aa, trivial⟩, W⟩
  have H := AO (Bn hb) H
  rw [hb] at F
  clear hb
  iterate 2 refine AR F W (Ag F Aa Aa Aa Aa) Aa (An Aa) (Ad F Aa).q fun a w F W => ?_
  refine AR F W (Ag F Aa Aa Aa Aa) Aa (An Aa) (B1 (r := (Rp.slice (Rp.int .i64))) (l := p1) Kw Aa F Aa (Cb Er h1 (Ap h_v3))).q fun a w F W => ?_
  refine AR F W (Ag F Aa Aa Aa Aa) Aa (An Aa) (Ds F Aa Aa).q fun a w F W => ?_
  refine ls F W Aa (Ax F Aa Aa Aa).q fun a w F W => ?_
  refine ls F W Aa (Ad F Aa).q fun a w F W => ?_
  rcases Bool.eq_false_or_eq_true (decide ((p1.length : Int) ≤ p2)) with hb | hb
  ·
   have H := AP (Bm hb) H
   rw [hb] at F
   clear hb
   iterate 2 refine C1 F Aa Aa Aa Aa Aa Aa Aa fun a F => ?_
   refine ls F W Aa (Av F Aa Aa Aa).q fun a w F W => ?_
   refine ls F W Aa (Ad F Aa).q fun a w F W => ?_
   iterate 7 refine C1 F Aa Aa Aa Aa Aa Aa Aa fun a F => ?_
   refine ls F W Aa (Av F Aa Aa Aa).q fun a w F W => ?_
   refine Ae (Ab ?_)
   exact ⟨_, H, F.re ⟨rfl, Aa, Aa, Aa, Aa, Aa, Aa, trivial⟩, W⟩
  have H := AO (Bn hb) H
  rw [hb] at F
  clear hb
  refine AR F W (Ag F Aa Aa Aa Aa) Aa (An Aa) (Ad F Aa).q fun a w F W => ?_
  refine AR F W (Ag F Aa Aa Aa Aa) Aa (An Aa) (BI F Aa Aa).q fun a w F W => ?_
  refine ls F W Aa (Ax F Aa Aa Aa).q fun a w F W => ?_
  refine ls F W Aa (Ad F Aa).q fun a w F W => ?_
  rcases Bool.eq_false_or_eq_true (decide (p3 < 0)) with hb | hb
  ·
   have H := AP (Bm hb) H
   rw [hb] at F
   clear hb
   iterate 7 refine C1 F Aa Aa Aa Aa Aa Aa Aa fun a F => ?_
   refine ls F W Aa (Av F Aa Aa Aa).q fun a w F W => ?_
   refine Ae (Ab ?_)
   exact ⟨_, H, F.re ⟨rfl, Aa, Aa, Aa, Aa, Aa, Aa, trivial⟩, W⟩
  have H := AO (Bn hb) H
  rw [hb] at F
  clear hb
  iterate 3 refine AR F W (Ag F Aa Aa Aa Aa) Aa (An Aa) (Ad F Aa).q fun a w F W => ?_
  obtain ⟨x2, h2, H⟩ := Ak H
  obtain ⟨v5, h3, h4⟩ := EK h1 h2
  have h5 : Ir v5 = [(v5.1)] := congrArg (fun q : List Int => ([(v5.1)] : List Value)) h4
  refine AR F W (Ag F Aa Aa Aa Aa) Aa (An Aa) (AC (r := (Rp.vsl (Rp.int .i64))) N8 F Aa Aa (Ap h_v3) h3).q fun a w F W => ?_
  refine AR F W (Ag F Aa Aa Aa Aa) Aa (An Aa) (Ao (y := (v5.1)) (j := 0) (i := p2) (enc := Ir) F Aa Aa (Ap h_v3) h3 MU J7 (by rw [h5]; rfl)).q fun a w F W => ?_
  refine AR F W (Ag F Aa Aa Aa Aa) Aa (An Aa) (B1 (r := (Rp.int .i64)) (l := x2) Hu Aa F Aa (D2 (Ap h_v3) h3 Cu.here (congrArg (fun q : List Int => q) h4))).q fun a w F W => ?_
  refine AR F W (Ag F Aa Aa Aa Aa) Aa (An Aa) (Ds F Aa Aa).q fun a w F W => ?_
  refine ls F W Aa (Ax F Aa Aa Aa).q fun a w F W => ?_
  refine Ae (Ab ?_)
  exact ⟨_, H, F.re ⟨rfl, Aa, Aa, Aa, Aa, Aa, Aa, trivial⟩, W⟩
 rintro a w ⟨x1, hj, F, W⟩
 have hj := AQ hj
 subst hj
 have H := K1
 clear G1 K1
 refine Ay F Aa (fun hb => ?_) fun hb => ?_
 ·
  have H := AP hb H
  rw [hb] at F
  clear hb
  refine Ah (Ac ?_)
  iterate 2 refine ls F W Aa (Af F Aa).q fun a w F W => ?_
  refine Ae (Ab (AF (AN ?_)))
  have H := AQ H
  subst H
  refine EU (.inl Aa) F W Aa (AD F Aa) (AD F Aa) ?_
  exact ⟨rfl, W.done⟩
 have H := AO (by rw [hb]; decide) H
 rw [hb] at F
 clear hb
 refine Aq (Ab (Ah ?_))
 refine BS W MO (by kernel_rfl) ?_
 refine qs F Aa (AB (v := Value.agg #[.int .i64 p0.1, v1, v2]) 0 F Aa Aa Mk Aa).q fun a F => ?_
 iterate 3 refine qs F Aa (Ad F Aa).q fun a F => ?_
 obtain ⟨x3, h6, H⟩ := Ak H
 obtain ⟨v6, h7, h8⟩ := EK h1 h6
 have h9 : Ir v6 = [(v6.1)] := congrArg (fun q : List Int => ([(v6.1)] : List Value)) h8
 refine qs F Aa (AC (r := (Rp.vsl (Rp.int .i64))) N8 F Aa Aa (Ap h_v3) h7).q fun a F => ?_
 refine qs F Aa (Ao (y := (v6.1)) (j := 0) (i := p2) (enc := Ir) F Aa Aa (Ap h_v3) h7 MU J7 (by rw [h9]; rfl)).q fun a F => ?_
 refine qs F Aa (Ad F Aa).q fun a F => ?_
 obtain ⟨x4, h10, H⟩ := Ak H
 refine qs F Aa (AC (r := (Rp.int .i64)) EH F Aa Aa (D2 (Ap h_v3) h7 Cu.here (congrArg (fun q : List Int => q) h8)) h10).q fun a F => ?_
 refine qs F Aa (Ao (y := Value.int .i64 x4) (j := 0) (i := p3) F Aa Aa (D2 (Ap h_v3) h7 Cu.here (congrArg (fun q : List Int => q) h8)) h10 Fl.int.to T3 Aa).q fun a F => ?_
 obtain ⟨x5, h11, H⟩ := Ak H
 refine qs F Aa (BR (v := Value.tuple #[.int .i64 x5.1, .int .i64 x5.2.1, .int .i64 x5.2.2.1, .bool x5.2.2.2]) F Vc Aa (fun w W => Oh any w (v1) (v2) p0 p2 x4 _ h11 (((Ap h_v1) : EM _ _ _ _ _ _) w W).nx (((Ap h_v2) : EM _ _ _ _ _ _) w W).nx)) fun a F => ?_
 refine qs F Aa (Ad F Aa).q fun a F => ?_
 refine qs F Aa (BK (v := Value.int .i64 x5.1) F Aa Aa).q fun a F => ?_
 refine qs F Aa (BK (v := Value.int .i64 x5.2.1) F Aa Aa).q fun a F => ?_
 refine qs F Aa (BK (v := Value.int .i64 x5.2.2.1) F Aa Aa).q fun a F => ?_
 refine qs F Aa (BK (v := Value.bool x5.2.2.2) F Aa Aa).q fun a F => ?_
 iterate 4 refine qs F Aa (Af F Aa).q fun a F => ?_
 refine A0 fun w W => ?_
 refine Ab (Ah (Ac ?_))
 iterate 2 refine ls F W Aa (Ad F Aa).q fun a w F W => ?_
 iterate 2 refine ls F W Aa (Af F Aa).q fun a w F W => ?_
 refine Ae (Ab (AF ?_))
 have H := AQ H
 subst H
 refine EU (.inl Aa) F W Aa (AD F Aa) (AD F Aa) ?_
 exact ⟨rfl, W.done⟩
theorem VD : Has Try.prog 54 := ⟨fun args w => Al Try.func54 rfl (by decide) args w⟩
noncomputable def CO (p0 : List Int) (p1 : Int) : Int → Option (Int ⊕ (Unit ⊕ Bool))
  | x1 => (if x1 < (p0.length : Int) then (ix p0 x1).bind fun x2 => (if p1 = x2 then some (.inr (.inr true)) else some (.inl (Az (x1 + 1)))) else some (.inr (.inl ())))
noncomputable def Df (p0 : List Int) (p1 : Int) : Option Bool := FO (AH (CO p0 p1) 0) fun _ => some false
theorem Jz (Y : Nat → Prop) (w0 : World) (v1 : Value) (p0 : List Int) (p1 : Int) (r : Bool) (H : Df p0 p1 = some r) (h_v1 : Sl w0 (NX []) (Rp.int .i64) v1 p0) :
    Calls Try.prog 55 #[v1, .int .i64 p1] w0 fun e w' => e = .returned (.bool r) ∧ Below w0.heap.size w0 w' := by
 refine enter Try.func55 Aa Try.ntmps55 Aa fun a F => ?_
 have W := Stw.start Y w0
 unfold Df at H
 refine Ah (Ac ?_)
 refine ls F W Aa (Af F Aa).q fun a w F W => ?_
 refine Ae (Ab ?_)
 obtain ⟨o1, G1, K1, L1⟩ := JX H
 refine AK (fun a w => some (Sum.inl ()) = some o1 ∧ Fr 17 [] [(4, .bool false)] a ∧ Stw ⟨Y, [], w0⟩ [] [] w) ?_ ?_
 ·
  have H := G1
  clear G1 K1
  refine Ah (Ac ?_)
  refine ls F W Aa (Ad F Aa).q fun a w F W => ?_
  refine ls F W Aa (B1 (r := (Rp.int .i64)) (l := p0) Hu Aa F Aa (Ap h_v1)).q fun a w F W => ?_
  refine ls F W Aa (Ad F Aa).q fun a w F W => ?_
  refine Ae (Ab (As ?_))
  refine Bh H (fun s a w => Fr 17 [] [(1, .int .i64 p1), (4, .bool false), (7, v1), (8, .int .i64 (p0.length : Int)), (9, .int .i64 s)] a ∧ Stw ⟨Y, [], w0⟩ [] [] w) ⟨F.re ⟨rfl, Aa, Aa, Aa, Aa, trivial⟩, W⟩ fun s o a w H L2 hR => ?_
  obtain ⟨x1, rfl⟩ : ∃ x, x = s := ⟨s, rfl⟩
  obtain ⟨F, W⟩ := hR
  have F : Fr 17 [] [(1, .int .i64 p1), (4, .bool false), (7, v1), (8, .int .i64 (p0.length : Int)), (9, .int .i64 x1)] a := F
  have W : Stw ⟨Y, [], w0⟩ [] [] w := W
  rw [CO] at H
  refine Ah (Ac ?_)
  refine ls F W Aa (BI F Aa Aa).q fun a w F W => ?_
  refine Ae (Ab (Ah ?_))
  refine Ay F Aa (fun hb => ?_) fun hb => ?_
  ·
   have H := AP (Bm hb) H
   rw [hb] at F
   clear hb
   refine Aq (Ab (Ah (As (Ah (Ac ?_)))))
   obtain ⟨x2, h1, H⟩ := Ak H
   refine ls F W Aa (AC (r := (Rp.int .i64)) EH F Aa Aa (Ap h_v1) h1).q fun a w F W => ?_
   refine ls F W Aa (Ao (y := Value.int .i64 x2) (j := 0) (i := x1) F Aa Aa (Ap h_v1) h1 Fl.int.to T3 Aa).q fun a w F W => ?_
   refine ls F W Aa (Af F Aa).q fun a w F W => ?_
   refine Ae (Ab (Ah (Ac ?_)))
   iterate 2 refine ls F W Aa (Ad F Aa).q fun a w F W => ?_
   refine ls F W Aa (Dl F Aa Aa).q fun a w F W => ?_
   refine Ae (Ab ?_)
   refine Ay F Aa (fun hb => ?_) fun hb => ?_
   ·
    have H := AP (Bm hb) H
    rw [hb] at F
    clear hb
    refine Ah (Ac ?_)
    refine ls F W Aa (Af F Aa).q fun a w F W => ?_
    refine Ae (Ab (AF (A3 ?_)))
    iterate 2 refine AN ?_
    refine A3 (AN ?_)
    have H := L2 _ H
    have H := L1 _ H
    have H := AQ H
    subst H
    refine Bj (.inl Aa) F W Aa (AD F Aa) ?_
    exact ⟨rfl, W.done⟩
   have H := AO (Bn hb) H
   rw [hb] at F
   clear hb
   refine Aq (AM (Ab (Ac ?_)))
   refine ls F W Aa (Bp F Aa Aa Aa).q fun a w F W => ?_
   refine ls F W Aa (Ad F Aa).q fun a w F W => ?_
   refine Ae (Ab ?_)
   exact ⟨_, H, F.re ⟨rfl, Aa, Aa, Aa, Aa, trivial⟩, W⟩
  have H := AO (Bn hb) H
  rw [hb] at F
  clear hb
  refine A5 ?_
  iterate 2 refine Bk ?_
  refine A6 (Ab ?_)
  have H := L2 _ H
  exact ⟨H, F.re ⟨rfl, trivial⟩, W⟩
 rintro a w ⟨hj, F, W⟩
 have H := K1 _ hj
 clear hj G1 K1 L1
 refine Ah (Ac ?_)
 refine ls F W Aa (Af F Aa).q fun a w F W => ?_
 refine Ae (Ab (AF ?_))
 have H := AQ H
 subst H
 refine Bj (.inl Aa) F W Aa (AD F Aa) ?_
 exact ⟨rfl, W.done⟩
end Go.Proofs.Ytghpabmmdenaoaa
