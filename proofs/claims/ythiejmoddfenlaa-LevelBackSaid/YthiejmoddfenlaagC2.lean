/- The functions of layer 23, HM. Conditions: none. -/
import Derived.Test.YthiejmoddfenlaagC1
namespace Go.Proofs.Ythiejmoddfenlaa
open Go Go.RowKit
set_option linter.unusedVariables false
set_option linter.unusedSimpArgs false
set_option maxRecDepth 20000
theorem S1 : Has Try.prog 13 := ⟨fun args w => Am Try.func13 rfl (by decide) args w⟩
theorem PX : type_of% Try.underlying53 := Try.underlying53
theorem S5 : (Try.prog.info? 56).bind (·.zero) = some (.agg #[.int .i64 0, .int .i64 0, .int .i64 0, .int .i64 0, .int .i64 0, .int .i64 0, .int .i64 0, .int .i64 0, .int .i64 0, .int .i64 0, .slice none 0 0]) := by kernel_rfl
theorem RT : (Try.prog.info? 53).bind (·.zero) = some (.agg #[.int .i64 0, .int .i64 0, .int .i64 0, .int .i64 0, .int .i64 0, .int .i64 0, .int .i64 0, .int .i64 0, .int .i64 0]) := by kernel_rfl
theorem SN : Bt Try.prog 53 [.int .i64 0, .int .i64 0, .int .i64 0, .int .i64 0, .int .i64 0, .int .i64 0, .int .i64 0, .int .i64 0, .int .i64 0] [(0, 1), (1, 4), (5, 4)] := ⟨⟨.agg #[.int .i64 0, .int .i64 0, .int .i64 0, .int .i64 0, .int .i64 0, .int .i64 0, .int .i64 0, .int .i64 0, .int .i64 0], by kernel_rfl, rfl⟩, ⟨_, PX, fun w => by kernel_rfl⟩⟩
theorem Pt : Ty Try.prog 53 true 9 := ⟨by kernel_rfl, by kernel_rfl⟩
def Ai  : (Int × (Int × Int × Int × Int) × (Int × Int × Int × Int)) := ((-1), (0, 0, 0, 0), (0, 0, 0, 0))
theorem MS (Y : Nat → Prop) (w0 : World)   (r : (Int × (Int × Int × Int × Int) × (Int × Int × Int × Int))) (H : Ai  = r)  :
    Calls Try.prog 76 #[] w0 fun e w' => e = .returned (.agg #[.int .i64 r.1, .int .i64 r.2.1.1, .int .i64 r.2.1.2.1, .int .i64 r.2.1.2.2.1, .int .i64 r.2.1.2.2.2, .int .i64 r.2.2.1, .int .i64 r.2.2.2.1, .int .i64 r.2.2.2.2.1, .int .i64 r.2.2.2.2.2]) ∧ Below w0.heap.size w0 w' := by
 refine enter Try.func76 Aa Try.ntmps76 Aa fun a F => ?_
 have W := Stw.start Y w0
 unfold Ai at H
 refine Ah (Ac ?_)
 refine DZ (cs := [.int .i64 0, .int .i64 0, .int .i64 0, .int .i64 0, .int .i64 0, .int .i64 0, .int .i64 0, .int .i64 0, .int .i64 0]) F W Aa RT Aa fun b1 a w F W => ?_
 refine Ae (Ab (Ah (Ac ?_)))
 refine ls F W Aa (D0 (v := Value.agg #[.int .i64 (-1), .int .i64 0, .int .i64 0, .int .i64 0, .int .i64 0, .int .i64 0, .int .i64 0, .int .i64 0, .int .i64 0]) SN F Aa Aa Aa).q fun a w F W => ?_
 refine Dk (vs := [.int .i64 (-1), .int .i64 0, .int .i64 0, .int .i64 0, .int .i64 0, .int .i64 0, .int .i64 0, .int .i64 0, .int .i64 0]) (M' := [(b1, [.int .i64 (-1), .int .i64 0, .int .i64 0, .int .i64 0, .int .i64 0, .int .i64 0, .int .i64 0, .int .i64 0, .int .i64 0])]) 0 F W Aa Aa Aa Pt Aa Aa Aa Aa Aa fun w W => ?_
 refine Ae (Ab (AF ?_))
 subst H
 refine BA (.inl Aa) F W Aa (KL 0 F Aa Aa Pt Aa) ?_
 exact ⟨rfl, W.done⟩
theorem Tl : Has Try.prog 76 := ⟨fun args w => Am Try.func76 rfl (by decide) args w⟩
noncomputable def I0 (p0 : Int) : Option Int := (if p0 = 0 then some true else (if p0 = 1 then some true else some (decide (p0 = 3)))).bind fun x1 => (if x1 = true then some 8 else (if p0 = 2 then some 4 else some 0))
theorem LH (Y : Nat → Prop) (w0 : World)  (p0 : Int) (r : Int) (H : I0 p0 = some r)  :
    Calls Try.prog 93 #[.int .i64 p0] w0 fun e w' => e = .returned (.int .i64 r) ∧ Below w0.heap.size w0 w' := by
 refine enter Try.func93 Aa Try.ntmps93 Aa fun a F => ?_
 have W := Stw.start Y w0
 unfold I0 at H
 refine Ah (Ac ?_)
 refine ls F W Aa (Ag F Aa).q fun a w F W => ?_
 refine Ae (Ab (Ah (Ah (Ac ?_))))
 refine ls F W Aa (Ad F Aa).q fun a w F W => ?_
 refine Ae (Ab (Av ?_))
 obtain ⟨o1, G1, K1⟩ := Al H
 refine AM (fun a w => ∃ x1 : Bool, some (x1) = some o1 ∧ Fr 10 [] [(2, .int .i64 0), (3, .int .i64 p0), (4, .bool x1)] a ∧ Stw ⟨Y, [], w0⟩ [] [] w) ?_ ?_
 ·
  have H := G1
  clear G1 K1
  refine Ah (Ac ?_)
  refine ls F W Aa (Dx F Aa Aa).q fun a w F W => ?_
  refine ls F W Aa (Ag F Aa).q fun a w F W => ?_
  refine Ae (Ab ?_)
  refine AB F Aa (fun hb => ?_) fun hb => ?_
  ·
   have H := AR (Br hb) H
   rw [hb] at F
   clear hb
   refine Au (Ab ?_)
   exact ⟨_, H, F.re ⟨rfl, Aa, Aa, trivial⟩, W⟩
  have H := AS (Bq hb) H
  rw [hb] at F
  clear hb
  refine Ah (Ac ?_)
  refine ls F W Aa (Dx F Aa Aa).q fun a w F W => ?_
  refine ls F W Aa (Ag F Aa).q fun a w F W => ?_
  refine Ae (Ab ?_)
  refine AB F Aa (fun hb => ?_) fun hb => ?_
  ·
   have H := AR (Br hb) H
   rw [hb] at F
   clear hb
   refine Au (Ab ?_)
   exact ⟨_, H, F.re ⟨rfl, Aa, Aa, trivial⟩, W⟩
  have H := AS (Bq hb) H
  rw [hb] at F
  clear hb
  refine Ac ?_
  refine ls F W Aa (Dx F Aa Aa).q fun a w F W => ?_
  refine ls F W Aa (Ag F Aa).q fun a w F W => ?_
  refine Ae (Ab ?_)
  exact ⟨_, H, F.re ⟨rfl, Aa, Aa, trivial⟩, W⟩
 rintro a w ⟨x1, hj, F, W⟩
 have hj := AX hj
 subst hj
 have H := K1
 clear G1 K1
 refine AB F Aa (fun hb => ?_) fun hb => ?_
 ·
  have H := AR hb H
  rw [hb] at F
  clear hb
  refine Ah (Ac ?_)
  refine ls F W Aa (Ag F Aa).q fun a w F W => ?_
  refine Ae (Ab (AF (AU (AK ?_))))
  have H := AX H
  subst H
  refine BA (.inl Aa) F W Aa (Ay F Aa) ?_
  exact ⟨rfl, W.done⟩
 have H := AS (by rw [hb]; decide) H
 rw [hb] at F
 clear hb
 refine Ah (Ac ?_)
 refine ls F W Aa (Dx F Aa Aa).q fun a w F W => ?_
 refine ls F W Aa (Ag F Aa).q fun a w F W => ?_
 refine Ae (Ab ?_)
 refine AB F Aa (fun hb => ?_) fun hb => ?_
 ·
  have H := AR (Br hb) H
  rw [hb] at F
  clear hb
  refine Ah (Ac ?_)
  refine ls F W Aa (Ag F Aa).q fun a w F W => ?_
  refine Ae (Ab (AF (AU (AK ?_))))
  have H := AX H
  subst H
  refine BA (.inl Aa) F W Aa (Ay F Aa) ?_
  exact ⟨rfl, W.done⟩
 have H := AS (Bq hb) H
 rw [hb] at F
 clear hb
 refine Au (AP (Ab (Ah (Ac ?_))))
 refine ls F W Aa (Ag F Aa).q fun a w F W => ?_
 refine Ae (Ab (AF ?_))
 have H := AX H
 subst H
 refine BA (.inl Aa) F W Aa (Ay F Aa) ?_
 exact ⟨rfl, W.done⟩
theorem Sv : Has Try.prog 93 := ⟨fun args w => Am Try.func93 rfl (by decide) args w⟩
noncomputable def HE (p0 : Int) : Option Int := (I0 p0).bind fun x1 => (Qt (Ed .i64 1 x1) x1).bind fun x2 => some (AC (x2 - 1))
theorem JV (Y : Nat → Prop) (w0 : World)  (p0 : Int) (r : Int) (H : HE p0 = some r)  :
    Calls Try.prog 77 #[.int .i64 p0] w0 fun e w' => e = .returned (.int .i64 r) ∧ Below w0.heap.size w0 w' := by
 refine enter Try.func77 Aa Try.ntmps77 Aa fun a F => ?_
 have W := Stw.start Y w0
 unfold HE at H
 refine Ah (Ac ?_)
 refine ls F W Aa (Ag F Aa).q fun a w F W => ?_
 refine Ae (Ab (Ah (Ac ?_)))
 refine ls F W Aa (Ad F Aa).q fun a w F W => ?_
 obtain ⟨x1, h1, H⟩ := Al H
 refine ls F W Aa (BV (v := Value.int .i64 x1) F Sv Aa (fun w W => LH any w p0 _ h1)) fun a w F W => ?_
 obtain ⟨x2, h2, H⟩ := Al H
 refine ls F W Aa (P7 (JF h2).2 (Od F Aa Aa (JF h2).1)).q fun a w F W => ?_
 refine ls F W Aa (Cm F Aa Aa Aa).q fun a w F W => ?_
 refine ls F W Aa (Ag F Aa).q fun a w F W => ?_
 refine Ae (Ab (AF ?_))
 have H := AX H
 subst H
 refine BA (.inl Aa) F W Aa (Ay F Aa) ?_
 exact ⟨rfl, W.done⟩
theorem RH : type_of% Try.underlying51 := Try.underlying51
theorem R7 : Has Try.prog 77 := ⟨fun args w => Am Try.func77 rfl (by decide) args w⟩
theorem Rq : Ty Try.prog 51 true 4 := ⟨by kernel_rfl, by kernel_rfl⟩
theorem QL : Ar Try.prog 51 4 3 1 := ⟨RH, by kernel_rfl⟩
noncomputable def JP (p0 : Int) (p1 : Int) : Option (Int × (Int × Int × Int × Int) × (Int × Int × Int × Int)) := (if p0 < 0 then some true else (if 4 ≤ p0 then some true else (if p1 < 0 then some true else (HE p0).bind fun x2 => some (decide (x2 < p1))))).bind fun x1 => (if x1 = true then some Ai else (ix ([Ai.2.1.1, Ai.2.1.2.1, Ai.2.1.2.2.1, Ai.2.1.2.2.2] : List Int) p0).bind fun x3 => (HE p0).bind fun x4 => (ix ([Ai.2.2.1, Ai.2.2.2.1, Ai.2.2.2.2.1, Ai.2.2.2.2.2] : List Int) p0).bind fun x5 => some (Ai.1, ((if p0 = 0 then p1 else Ai.2.1.1), (if p0 = 1 then p1 else Ai.2.1.2.1), (if p0 = 2 then p1 else Ai.2.1.2.2.1), (if p0 = 3 then p1 else Ai.2.1.2.2.2)), ((if p0 = 0 then x4 else Ai.2.2.1), (if p0 = 1 then x4 else Ai.2.2.2.1), (if p0 = 2 then x4 else Ai.2.2.2.2.1), (if p0 = 3 then x4 else Ai.2.2.2.2.2))))
theorem Nr (Y : Nat → Prop) (w0 : World)  (p0 : Int) (p1 : Int) (r : (Int × (Int × Int × Int × Int) × (Int × Int × Int × Int))) (H : JP p0 p1 = some r)  :
    Calls Try.prog 56 #[.int .i64 p0, .int .i64 p1] w0 fun e w' => e = .returned (.agg #[.int .i64 r.1, .int .i64 r.2.1.1, .int .i64 r.2.1.2.1, .int .i64 r.2.1.2.2.1, .int .i64 r.2.1.2.2.2, .int .i64 r.2.2.1, .int .i64 r.2.2.2.1, .int .i64 r.2.2.2.2.1, .int .i64 r.2.2.2.2.2]) ∧ Below w0.heap.size w0 w' := by
 refine enter Try.func56 Aa Try.ntmps56 Aa fun a F => ?_
 have W := Stw.start Y w0
 unfold JP at H
 refine Ah (Ac ?_)
 refine DZ (cs := [.int .i64 0, .int .i64 0, .int .i64 0, .int .i64 0, .int .i64 0, .int .i64 0, .int .i64 0, .int .i64 0, .int .i64 0]) F W Aa RT Aa fun b1 a w F W => ?_
 refine Ae (Ab (Ah (Ac ?_)))
 refine ls F W Aa (BV (v := Value.agg #[.int .i64 Ai.1, .int .i64 Ai.2.1.1, .int .i64 Ai.2.1.2.1, .int .i64 Ai.2.1.2.2.1, .int .i64 Ai.2.1.2.2.2, .int .i64 Ai.2.2.1, .int .i64 Ai.2.2.2.1, .int .i64 Ai.2.2.2.2.1, .int .i64 Ai.2.2.2.2.2]) F Tl Aa (fun w W => MS any w _ Aa)) fun a w F W => ?_
 refine DZ (cs := [.int .i64 0, .int .i64 0, .int .i64 0, .int .i64 0, .int .i64 0, .int .i64 0, .int .i64 0, .int .i64 0, .int .i64 0]) F W Aa RT Aa fun b2 a w F W => ?_
 refine Dk (vs := [.int .i64 Ai.1, .int .i64 Ai.2.1.1, .int .i64 Ai.2.1.2.1, .int .i64 Ai.2.1.2.2.1, .int .i64 Ai.2.1.2.2.2, .int .i64 Ai.2.2.1, .int .i64 Ai.2.2.2.1, .int .i64 Ai.2.2.2.2.1, .int .i64 Ai.2.2.2.2.2]) (M' := [(b2, [.int .i64 Ai.1, .int .i64 Ai.2.1.1, .int .i64 Ai.2.1.2.1, .int .i64 Ai.2.1.2.2.1, .int .i64 Ai.2.1.2.2.2, .int .i64 Ai.2.2.1, .int .i64 Ai.2.2.2.1, .int .i64 Ai.2.2.2.2.1, .int .i64 Ai.2.2.2.2.2]), (b1, [.int .i64 0, .int .i64 0, .int .i64 0, .int .i64 0, .int .i64 0, .int .i64 0, .int .i64 0, .int .i64 0, .int .i64 0])]) 0 F W Aa Aa Aa Pt Aa Aa Aa Aa Aa fun w W => ?_
 refine Ae (Ab (Ah ?_))
 obtain ⟨o1, G1, K1⟩ := Al H
 refine AM (fun a w => ∃ x1 : Bool, some (x1) = some o1 ∧ Fr 34 [] [(0, .int .i64 p0), (1, .int .i64 p1), (4, .pointer (some ⟨b1, 0, none⟩)), (5, .pointer (some ⟨b2, 0, none⟩)), (22, .bool x1)] a ∧ Stw ⟨Y, [], w0⟩ [(b2, [.int .i64 Ai.1, .int .i64 Ai.2.1.1, .int .i64 Ai.2.1.2.1, .int .i64 Ai.2.1.2.2.1, .int .i64 Ai.2.1.2.2.2, .int .i64 Ai.2.2.1, .int .i64 Ai.2.2.2.1, .int .i64 Ai.2.2.2.2.1, .int .i64 Ai.2.2.2.2.2]), (b1, [.int .i64 0, .int .i64 0, .int .i64 0, .int .i64 0, .int .i64 0, .int .i64 0, .int .i64 0, .int .i64 0, .int .i64 0])] [] w) ?_ ?_
 ·
  have H := G1
  clear G1 K1
  refine Ac ?_
  refine ls F W Aa (Ad F Aa).q fun a w F W => ?_
  refine ls F W Aa (BM F Aa Aa).q fun a w F W => ?_
  refine ls F W Aa (Ad F Aa).q fun a w F W => ?_
  rcases Bool.eq_false_or_eq_true (decide (p0 < 0)) with hb | hb
  ·
   have H := AR (Br hb) H
   rw [hb] at F
   clear hb
   iterate 2 refine CX F Aa Aa Aa Aa Aa Aa Aa fun a F => ?_
   refine ls F W Aa (Aq F Aa Aa Aa).q fun a w F W => ?_
   refine ls F W Aa (Ad F Aa).q fun a w F W => ?_
   iterate 2 refine CX F Aa Aa Aa Aa Aa Aa Aa fun a F => ?_
   refine ls F W Aa (Aq F Aa Aa Aa).q fun a w F W => ?_
   refine ls F W Aa (Ad F Aa).q fun a w F W => ?_
   iterate 4 refine CX F Aa Aa Aa Aa Aa Aa Aa fun a F => ?_
   refine ls F W Aa (Aq F Aa Aa Aa).q fun a w F W => ?_
   refine Ae (Ab ?_)
   have W := W.frontM (i := 1) Aa Aa
   have W := W.frontM (i := 1) Aa Aa
   exact ⟨_, H, F.re ⟨rfl, Aa, Aa, Aa, Aa, trivial⟩, W⟩
  have H := AS (Bq hb) H
  rw [hb] at F
  clear hb
  refine AL F W (Af F Aa Aa Aa Aa) Aa (Aj Aa) (Ad F Aa).q fun a w F W => ?_
  refine AL F W (Af F Aa Aa Aa Aa) Aa (Aj Aa) (DL F Aa Aa).q fun a w F W => ?_
  refine ls F W Aa (AA F Aa Aa Aa).q fun a w F W => ?_
  refine ls F W Aa (Ad F Aa).q fun a w F W => ?_
  rcases Bool.eq_false_or_eq_true (decide (4 ≤ p0)) with hb | hb
  ·
   have H := AR (Br hb) H
   rw [hb] at F
   clear hb
   iterate 2 refine CX F Aa Aa Aa Aa Aa Aa Aa fun a F => ?_
   refine ls F W Aa (Aq F Aa Aa Aa).q fun a w F W => ?_
   refine ls F W Aa (Ad F Aa).q fun a w F W => ?_
   iterate 4 refine CX F Aa Aa Aa Aa Aa Aa Aa fun a F => ?_
   refine ls F W Aa (Aq F Aa Aa Aa).q fun a w F W => ?_
   refine Ae (Ab ?_)
   have W := W.frontM (i := 1) Aa Aa
   have W := W.frontM (i := 1) Aa Aa
   exact ⟨_, H, F.re ⟨rfl, Aa, Aa, Aa, Aa, trivial⟩, W⟩
  have H := AS (Bq hb) H
  rw [hb] at F
  clear hb
  refine AL F W (Af F Aa Aa Aa Aa) Aa (Aj Aa) (Ad F Aa).q fun a w F W => ?_
  refine AL F W (Af F Aa Aa Aa Aa) Aa (Aj Aa) (BM F Aa Aa).q fun a w F W => ?_
  refine ls F W Aa (AA F Aa Aa Aa).q fun a w F W => ?_
  refine ls F W Aa (Ad F Aa).q fun a w F W => ?_
  rcases Bool.eq_false_or_eq_true (decide (p1 < 0)) with hb | hb
  ·
   have H := AR (Br hb) H
   rw [hb] at F
   clear hb
   iterate 4 refine CX F Aa Aa Aa Aa Aa Aa Aa fun a F => ?_
   refine ls F W Aa (Aq F Aa Aa Aa).q fun a w F W => ?_
   refine Ae (Ab ?_)
   have W := W.frontM (i := 1) Aa Aa
   have W := W.frontM (i := 1) Aa Aa
   exact ⟨_, H, F.re ⟨rfl, Aa, Aa, Aa, Aa, trivial⟩, W⟩
  have H := AS (Bq hb) H
  rw [hb] at F
  clear hb
  iterate 2 refine AL F W (Af F Aa Aa Aa Aa) Aa (Aj Aa) (Ad F Aa).q fun a w F W => ?_
  refine JM (Af F Aa Aa Aa Aa) ?_
  obtain ⟨x2, h1, H⟩ := Al H
  refine ls F W Aa (BV (v := Value.int .i64 x2) F R7 Aa (fun w W => JV any w p0 _ h1)) fun a w F W => ?_
  refine AL F W (Af F Aa Aa Aa Aa) Aa (Aj Aa) (Gf F Aa Aa).q fun a w F W => ?_
  refine ls F W Aa (AA F Aa Aa Aa).q fun a w F W => ?_
  refine Ae (Ab ?_)
  have W := W.frontM (i := 1) Aa Aa
  have W := W.frontM (i := 1) Aa Aa
  exact ⟨_, H, F.re ⟨rfl, Aa, Aa, Aa, Aa, trivial⟩, W⟩
 rintro a w ⟨x1, hj, F, W⟩
 have hj := AX hj
 subst hj
 have H := K1
 clear G1 K1
 refine AB F Aa (fun hb => ?_) fun hb => ?_
 ·
  have H := AR hb H
  rw [hb] at F
  clear hb
  refine Ah (Ac ?_)
  refine ls F W Aa (Az (v := Value.agg #[.int .i64 Ai.1, .int .i64 Ai.2.1.1, .int .i64 Ai.2.1.2.1, .int .i64 Ai.2.1.2.2.1, .int .i64 Ai.2.1.2.2.2, .int .i64 Ai.2.2.1, .int .i64 Ai.2.2.2.1, .int .i64 Ai.2.2.2.2.1, .int .i64 Ai.2.2.2.2.2]) 0 F Aa Aa Pt Aa).q fun a w F W => ?_
  refine Dk (vs := [.int .i64 Ai.1, .int .i64 Ai.2.1.1, .int .i64 Ai.2.1.2.1, .int .i64 Ai.2.1.2.2.1, .int .i64 Ai.2.1.2.2.2, .int .i64 Ai.2.2.1, .int .i64 Ai.2.2.2.1, .int .i64 Ai.2.2.2.2.1, .int .i64 Ai.2.2.2.2.2]) (M' := [(b2, [.int .i64 Ai.1, .int .i64 Ai.2.1.1, .int .i64 Ai.2.1.2.1, .int .i64 Ai.2.1.2.2.1, .int .i64 Ai.2.1.2.2.2, .int .i64 Ai.2.2.1, .int .i64 Ai.2.2.2.1, .int .i64 Ai.2.2.2.2.1, .int .i64 Ai.2.2.2.2.2]), (b1, [.int .i64 Ai.1, .int .i64 Ai.2.1.1, .int .i64 Ai.2.1.2.1, .int .i64 Ai.2.1.2.2.1, .int .i64 Ai.2.1.2.2.2, .int .i64 Ai.2.2.1, .int .i64 Ai.2.2.2.1, .int .i64 Ai.2.2.2.2.1, .int .i64 Ai.2.2.2.2.2])]) 1 F W Aa Aa Aa Pt Aa Aa Aa Aa Aa fun w W => ?_
  refine Ae (Ab (AF (AK ?_)))
  have H := AX H
  subst H
  refine BA (.inl Aa) F W Aa (KL 1 F Aa Aa Pt Aa) ?_
  exact ⟨rfl, W.done⟩
 have H := AS (by rw [hb]; decide) H
 rw [hb] at F
 clear hb
 refine Au (Ab (Ah ?_))
 refine Gx [(true, 0), (true, 1), (true, 2), (true, 3), (true, 5), (true, 6), (true, 8), (false, 4), (false, 7), (true, 9), (false, 10)] (CN ⟨Y, [], w0⟩ [] []) (fun ch a d v w h => by cases d <;> exact h) MO (by kernel_rfl) W (fun w W => ⟨_, _, W, Bz, Bz⟩) fun w W => ?_
 iterate 4 refine Ca (R := []) F Aa Aa (yC fun M Z hN hZ => Ad F Aa) Aa Aa fun a F => ?_
 refine Ca (R := []) F Aa Aa (yC fun M Z hN hZ => Ak PX Aa Aa Aa Rq F Aa 1 Aa) Aa Aa fun a F => ?_
 obtain ⟨x3, h2, H⟩ := Al H
 refine Ca (R := []) F Aa Aa (yC fun M Z hN hZ => La (1 + (p0).toNat * 1) QL F Aa Aa Aa h2 Aa) Aa Aa fun a F => ?_
 refine Ca (R := []) F Aa Aa (yC fun M Z hN hZ => Ak PX Aa Aa Aa Rq F Aa 5 Aa) Aa Aa fun a F => ?_
 refine ID Aa ?_
 obtain ⟨x4, h3, H⟩ := Al H
 refine ls F W Aa (BV (v := Value.int .i64 x4) F R7 Aa (fun w W => JV any w p0 _ h3)) fun a w F W => ?_
 refine D1 (N2 := []) (NZ2 := []) (N3 := []) (NZ3 := []) W Aa Aa Bz Bz ?_
 refine ID Aa ?_
 refine Kn (o := 1) (m := 4) (i := p0) (l := ([Ai.2.1.1, Ai.2.1.2.1, Ai.2.1.2.2.1, Ai.2.1.2.2.2] : List Int)) (x := x3) (cs := [.int .i64 Ai.1, .int .i64 Ai.2.1.1, .int .i64 Ai.2.1.2.1, .int .i64 Ai.2.1.2.2.1, .int .i64 Ai.2.1.2.2.2, .int .i64 Ai.2.2.1, .int .i64 Ai.2.2.2.1, .int .i64 Ai.2.2.2.2.1, .int .i64 Ai.2.2.2.2.2]) (cs' := [.int .i64 Ai.1, .int .i64 (if p0 = 0 then p1 else Ai.2.1.1), .int .i64 (if p0 = 1 then p1 else Ai.2.1.2.1), .int .i64 (if p0 = 2 then p1 else Ai.2.1.2.2.1), .int .i64 (if p0 = 3 then p1 else Ai.2.1.2.2.2), .int .i64 Ai.2.2.1, .int .i64 Ai.2.2.2.1, .int .i64 Ai.2.2.2.2.1, .int .i64 Ai.2.2.2.2.2]) 0 F W Aa Aa Aa T3 Aa Aa Aa Aa h2 (by intro k hk hn; rw [hk]; match k, hn with | 0, _ => rfl | 1, _ => rfl | 2, _ => rfl | 3, _ => rfl | (z + 4), h => exact absurd h (by omega)) fun w W => ?_
 have W : Stw ⟨Y, [], w0⟩ [(b2, [.int .i64 Ai.1, .int .i64 (if p0 = 0 then p1 else Ai.2.1.1), .int .i64 (if p0 = 1 then p1 else Ai.2.1.2.1), .int .i64 (if p0 = 2 then p1 else Ai.2.1.2.2.1), .int .i64 (if p0 = 3 then p1 else Ai.2.1.2.2.2), .int .i64 Ai.2.2.1, .int .i64 Ai.2.2.2.1, .int .i64 Ai.2.2.2.2.1, .int .i64 Ai.2.2.2.2.2]), (b1, [.int .i64 0, .int .i64 0, .int .i64 0, .int .i64 0, .int .i64 0, .int .i64 0, .int .i64 0, .int .i64 0, .int .i64 0])] [] w := W
 refine D1 (N2 := []) (NZ2 := []) (N3 := []) (NZ3 := []) W Aa Aa Bz Bz ?_
 obtain ⟨x5, h4, H⟩ := Al H
 refine Ca (R := []) F Aa Aa (yC fun M Z hN hZ => La (5 + (p0).toNat * 1) QL F Aa Aa Aa h4 Aa) Aa Aa fun a F => ?_
 refine ID Aa ?_
 refine Kn (o := 5) (m := 4) (i := p0) (l := ([Ai.2.2.1, Ai.2.2.2.1, Ai.2.2.2.2.1, Ai.2.2.2.2.2] : List Int)) (x := x5) (cs := [.int .i64 Ai.1, .int .i64 (if p0 = 0 then p1 else Ai.2.1.1), .int .i64 (if p0 = 1 then p1 else Ai.2.1.2.1), .int .i64 (if p0 = 2 then p1 else Ai.2.1.2.2.1), .int .i64 (if p0 = 3 then p1 else Ai.2.1.2.2.2), .int .i64 Ai.2.2.1, .int .i64 Ai.2.2.2.1, .int .i64 Ai.2.2.2.2.1, .int .i64 Ai.2.2.2.2.2]) (cs' := [.int .i64 Ai.1, .int .i64 (if p0 = 0 then p1 else Ai.2.1.1), .int .i64 (if p0 = 1 then p1 else Ai.2.1.2.1), .int .i64 (if p0 = 2 then p1 else Ai.2.1.2.2.1), .int .i64 (if p0 = 3 then p1 else Ai.2.1.2.2.2), .int .i64 (if p0 = 0 then x4 else Ai.2.2.1), .int .i64 (if p0 = 1 then x4 else Ai.2.2.2.1), .int .i64 (if p0 = 2 then x4 else Ai.2.2.2.2.1), .int .i64 (if p0 = 3 then x4 else Ai.2.2.2.2.2)]) 0 F W Aa Aa Aa T3 Aa Aa Aa Aa h4 (by intro k hk hn; rw [hk]; match k, hn with | 0, _ => rfl | 1, _ => rfl | 2, _ => rfl | 3, _ => rfl | (z + 4), h => exact absurd h (by omega)) fun w W => ?_
 have W : Stw ⟨Y, [], w0⟩ [(b2, [.int .i64 Ai.1, .int .i64 (if p0 = 0 then p1 else Ai.2.1.1), .int .i64 (if p0 = 1 then p1 else Ai.2.1.2.1), .int .i64 (if p0 = 2 then p1 else Ai.2.1.2.2.1), .int .i64 (if p0 = 3 then p1 else Ai.2.1.2.2.2), .int .i64 (if p0 = 0 then x4 else Ai.2.2.1), .int .i64 (if p0 = 1 then x4 else Ai.2.2.2.1), .int .i64 (if p0 = 2 then x4 else Ai.2.2.2.2.1), .int .i64 (if p0 = 3 then x4 else Ai.2.2.2.2.2)]), (b1, [.int .i64 0, .int .i64 0, .int .i64 0, .int .i64 0, .int .i64 0, .int .i64 0, .int .i64 0, .int .i64 0, .int .i64 0])] [] w := W
 refine D1 (N2 := []) (NZ2 := []) (N3 := []) (NZ3 := []) W Aa Aa Bz Bz ?_
 refine IC (Ab (Ah (Ac ?_)))
 refine ls F W Aa (Az (v := Value.agg #[.int .i64 Ai.1, .int .i64 (if p0 = 0 then p1 else Ai.2.1.1), .int .i64 (if p0 = 1 then p1 else Ai.2.1.2.1), .int .i64 (if p0 = 2 then p1 else Ai.2.1.2.2.1), .int .i64 (if p0 = 3 then p1 else Ai.2.1.2.2.2), .int .i64 (if p0 = 0 then x4 else Ai.2.2.1), .int .i64 (if p0 = 1 then x4 else Ai.2.2.2.1), .int .i64 (if p0 = 2 then x4 else Ai.2.2.2.2.1), .int .i64 (if p0 = 3 then x4 else Ai.2.2.2.2.2)]) 0 F Aa Aa Pt Aa).q fun a w F W => ?_
 refine Dk (vs := [.int .i64 Ai.1, .int .i64 (if p0 = 0 then p1 else Ai.2.1.1), .int .i64 (if p0 = 1 then p1 else Ai.2.1.2.1), .int .i64 (if p0 = 2 then p1 else Ai.2.1.2.2.1), .int .i64 (if p0 = 3 then p1 else Ai.2.1.2.2.2), .int .i64 (if p0 = 0 then x4 else Ai.2.2.1), .int .i64 (if p0 = 1 then x4 else Ai.2.2.2.1), .int .i64 (if p0 = 2 then x4 else Ai.2.2.2.2.1), .int .i64 (if p0 = 3 then x4 else Ai.2.2.2.2.2)]) (M' := [(b2, [.int .i64 Ai.1, .int .i64 (if p0 = 0 then p1 else Ai.2.1.1), .int .i64 (if p0 = 1 then p1 else Ai.2.1.2.1), .int .i64 (if p0 = 2 then p1 else Ai.2.1.2.2.1), .int .i64 (if p0 = 3 then p1 else Ai.2.1.2.2.2), .int .i64 (if p0 = 0 then x4 else Ai.2.2.1), .int .i64 (if p0 = 1 then x4 else Ai.2.2.2.1), .int .i64 (if p0 = 2 then x4 else Ai.2.2.2.2.1), .int .i64 (if p0 = 3 then x4 else Ai.2.2.2.2.2)]), (b1, [.int .i64 Ai.1, .int .i64 (if p0 = 0 then p1 else Ai.2.1.1), .int .i64 (if p0 = 1 then p1 else Ai.2.1.2.1), .int .i64 (if p0 = 2 then p1 else Ai.2.1.2.2.1), .int .i64 (if p0 = 3 then p1 else Ai.2.1.2.2.2), .int .i64 (if p0 = 0 then x4 else Ai.2.2.1), .int .i64 (if p0 = 1 then x4 else Ai.2.2.2.1), .int .i64 (if p0 = 2 then x4 else Ai.2.2.2.2.1), .int .i64 (if p0 = 3 then x4 else Ai.2.2.2.2.2)])]) 1 F W Aa Aa Aa Pt Aa Aa Aa Aa Aa fun w W => ?_
 refine Ae (Ab (AF ?_))
 have H := AX H
 subst H
 refine BA (.inl Aa) F W Aa (KL 1 F Aa Aa Pt Aa) ?_
 exact ⟨rfl, W.done⟩
theorem QW : type_of% Try.underlying54 := Try.underlying54
theorem PV : type_of% Try.underlying56 := Try.underlying56
theorem Q0 : type_of% Try.underlying60 := Try.underlying60
theorem SM : Has Try.prog 56 := ⟨fun args w => Am Try.func56 rfl (by decide) args w⟩
theorem Tf : Bt Try.prog 60 [.int .i64 0, .int .i64 0, .int .i64 0] [(0, 1), (1, 1), (2, 1)] := ⟨⟨.agg #[.int .i64 0, .int .i64 0, .int .i64 0], by kernel_rfl, rfl⟩, ⟨_, Q0, fun w => by kernel_rfl⟩⟩
theorem SJ : (Try.prog.info? 60).bind (·.zero) = some (.agg #[.int .i64 0, .int .i64 0, .int .i64 0]) := by kernel_rfl
abbrev OU : Rp (Int × Int × Int) := (Rp.pair (Rp.int .i64) (Rp.pair (Rp.int .i64) (Rp.int .i64)))
def SG (a : Int × Int × Int) : List Value := [.int .i64 a.1, .int .i64 a.2.1, .int .i64 a.2.2]
theorem RV : Fl OU SG := (Fl.pair Fl.int (Fl.pair Fl.int Fl.int))
theorem Sd : Et Try.prog 54 60 3 24 := Et.of QW (by kernel_rfl) (by kernel_rfl) (by kernel_rfl) (by decide)
theorem Sp : Bt Try.prog 56 [.int .i64 0, .int .i64 0, .int .i64 0, .int .i64 0, .int .i64 0, .int .i64 0, .int .i64 0, .int .i64 0, .int .i64 0, .int .i64 0, .slice none 0 0] [(0, 1), (1, 9), (10, 1)] := ⟨⟨.agg #[.int .i64 0, .int .i64 0, .int .i64 0, .int .i64 0, .int .i64 0, .int .i64 0, .int .i64 0, .int .i64 0, .int .i64 0, .int .i64 0, .slice none 0 0], by kernel_rfl, rfl⟩, ⟨_, PV, fun w => by kernel_rfl⟩⟩
theorem Q4 : Ty Try.prog 56 true 11 := ⟨by kernel_rfl, by kernel_rfl⟩
noncomputable def HF (p0 : Int) (p1 : Int) (p2 : Int) (p3 : Int) : Option (Int × (Int × (Int × Int × Int × Int) × (Int × Int × Int × Int)) × (List (Int × Int × Int))) := (JP p0 p1).bind fun x1 => some (p2, x1, ([(2, 0, p3)] : List (Int × Int × Int)))
theorem MD (Y : Nat → Prop) (w0 : World)  (p0 : Int) (p1 : Int) (p2 : Int) (p3 : Int) (r : (Int × (Int × (Int × Int × Int × Int) × (Int × Int × Int × Int)) × (List (Int × Int × Int)))) (H : HF p0 p1 p2 p3 = some r)  :
    Calls Try.prog 39 #[.int .i64 p0, .int .i64 p1, .int .i64 p2, .int .i64 p3] w0 fun e w' => ∃ x : Value, e = .returned (.agg #[.int .i64 r.1, .int .i64 r.2.1.1, .int .i64 r.2.1.2.1.1, .int .i64 r.2.1.2.1.2.1, .int .i64 r.2.1.2.1.2.2.1, .int .i64 r.2.1.2.1.2.2.2, .int .i64 r.2.1.2.2.1, .int .i64 r.2.1.2.2.2.1, .int .i64 r.2.1.2.2.2.2.1, .int .i64 r.2.1.2.2.2.2.2, x]) ∧ Stw ⟨Y, [], w0⟩ [] [row (x) 60 OU r.2.2] w' := by
 refine enter Try.func39 Aa Try.ntmps39 Aa fun a F => ?_
 have W := Stw.start Y w0
 unfold HF at H
 refine Ah (Ac ?_)
 refine DZ (cs := [.int .i64 0, .int .i64 0, .int .i64 0, .int .i64 0, .int .i64 0, .int .i64 0, .int .i64 0, .int .i64 0, .int .i64 0, .int .i64 0, .slice none 0 0]) F W Aa S5 Aa fun b1 a w F W => ?_
 refine Ae (Ab (Ah (Ac ?_)))
 iterate 3 refine ls F W Aa (Ad F Aa).q fun a w F W => ?_
 obtain ⟨x1, h1, H⟩ := Al H
 refine ls F W Aa (BV (v := Value.agg #[.int .i64 x1.1, .int .i64 x1.2.1.1, .int .i64 x1.2.1.2.1, .int .i64 x1.2.1.2.2.1, .int .i64 x1.2.1.2.2.2, .int .i64 x1.2.2.1, .int .i64 x1.2.2.2.1, .int .i64 x1.2.2.2.2.1, .int .i64 x1.2.2.2.2.2]) F SM Aa (fun w W => Nr any w p0 p1 _ h1)) fun a w F W => ?_
 refine ls F W Aa (Ad F Aa).q fun a w F W => ?_
 refine ls F W Aa (D0 (v := Value.agg #[.int .i64 2, .int .i64 0, .int .i64 p3]) Tf F Aa Aa Aa).q fun a w F W => ?_
 refine Fo (z := Value.agg #[.int .i64 0, .int .i64 0, .int .i64 0]) (cs := [.int .i64 2, .int .i64 0, .int .i64 p3]) OU ([(2, 0, p3)] : List (Int × Int × Int)) F W Aa Sd SJ Aa Aa Aa Aa Aa Aa (RV.repL _ _ ([(2, 0, p3)] : List (Int × Int × Int))) fun v1 a w F W => ?_
 refine ls F W Aa (D0 (v := Value.agg #[.int .i64 p2, .int .i64 x1.1, .int .i64 x1.2.1.1, .int .i64 x1.2.1.2.1, .int .i64 x1.2.1.2.2.1, .int .i64 x1.2.1.2.2.2, .int .i64 x1.2.2.1, .int .i64 x1.2.2.2.1, .int .i64 x1.2.2.2.2.1, .int .i64 x1.2.2.2.2.2, v1]) Sp F Aa (DC Aa Aa Aa (DC Aa Aa Aa (DC Aa (E8 (W.one (k := 0) Aa)) Aa Ip))) Aa).q fun a w F W => ?_
 refine Dk (vs := [.int .i64 p2, .int .i64 x1.1, .int .i64 x1.2.1.1, .int .i64 x1.2.1.2.1, .int .i64 x1.2.1.2.2.1, .int .i64 x1.2.1.2.2.2, .int .i64 x1.2.2.1, .int .i64 x1.2.2.2.1, .int .i64 x1.2.2.2.2.1, .int .i64 x1.2.2.2.2.2, v1]) (M' := [(b1, [.int .i64 p2, .int .i64 x1.1, .int .i64 x1.2.1.1, .int .i64 x1.2.1.2.1, .int .i64 x1.2.1.2.2.1, .int .i64 x1.2.1.2.2.2, .int .i64 x1.2.2.1, .int .i64 x1.2.2.2.1, .int .i64 x1.2.2.2.2.1, .int .i64 x1.2.2.2.2.2, v1])]) 0 F W Aa Aa Aa Q4 Aa Aa Aa (Ew Aa (Ew Aa (Ew Aa (Ew Aa (Ew Aa (Ew Aa (Ew Aa (Ew Aa (Ew Aa (Ew Aa (Ew (W.one (k := 0) Aa) N9))))))))))) Aa fun w W => ?_
 refine Ae (Ab (AF ?_))
 have H := AX H
 subst H
 refine BA (.inl Aa) F W Aa (KL 0 F Aa Aa Q4 Aa) ?_
 have W := W.sub (M' := []) (Z' := [row v1 60 OU ([(2, 0, p3)] : List (Int × Int × Int))]) (List.nil_sublist _) (List.Sublist.refl _)
 exact ⟨(v1), Aa, W⟩
theorem QE : type_of% Try.underlying49 := Try.underlying49
theorem P5 : type_of% Try.underlying58 := Try.underlying58
theorem Tb : Has Try.prog 39 := ⟨fun args w => Am Try.func39 rfl (by decide) args w⟩
theorem Sr : Bt Try.prog 58 [.int .i64 0, .int .i64 0, .int .i64 0, .int .i64 0, .int .i64 0, .int .i64 0, .int .i64 0, .int .i64 0, .int .i64 0, .int .i64 0, .int .i64 0, .slice none 0 0, .bool false] [(0, 1), (1, 11), (12, 1)] := ⟨⟨.agg #[.int .i64 0, .int .i64 0, .int .i64 0, .int .i64 0, .int .i64 0, .int .i64 0, .int .i64 0, .int .i64 0, .int .i64 0, .int .i64 0, .int .i64 0, .slice none 0 0, .bool false], by kernel_rfl, rfl⟩, ⟨_, P5, fun w => by kernel_rfl⟩⟩
theorem Sm : (Try.prog.info? 58).bind (·.zero) = some (.agg #[.int .i64 0, .int .i64 0, .int .i64 0, .int .i64 0, .int .i64 0, .int .i64 0, .int .i64 0, .int .i64 0, .int .i64 0, .int .i64 0, .int .i64 0, .slice none 0 0, .bool false]) := by kernel_rfl
abbrev Rz : Rp (Int × Int × Int × Int) := (Rp.pair (Rp.int .i64) (Rp.pair (Rp.int .i64) (Rp.pair (Rp.int .i64) (Rp.int .i64))))
abbrev Rw : Rp (Int × (Int × Int × Int × Int) × (Int × Int × Int × Int)) := (Rp.pair (Rp.int .i64) (Rp.pair Rz Rz))
abbrev Tm : Rp (Int × (Int × (Int × Int × Int × Int) × (Int × Int × Int × Int)) × (List (Int × Int × Int))) := (Rp.pair (Rp.int .i64) (Rp.pair Rw (Rp.slice OU)))
abbrev Ji : Rp (Int × (Int × (Int × (Int × Int × Int × Int) × (Int × Int × Int × Int)) × (List (Int × Int × Int))) × Bool) := (Rp.pair (Rp.int .i64) (Rp.pair Tm Rp.bool))
theorem Q5 : Et Try.prog 49 58 13 120 := Et.of QE (by kernel_rfl) (by kernel_rfl) (by kernel_rfl) (by decide)
noncomputable def E9 (p0 : List (Int × Int × Int × Int)) (p1 : Int) (p2 : Int) : ((List (Int × (Int × (Int × (Int × Int × Int × Int) × (Int × Int × Int × Int)) × (List (Int × Int × Int))) × Bool)) × Int) → Option (((List (Int × (Int × (Int × (Int × Int × Int × Int) × (Int × Int × Int × Int)) × (List (Int × Int × Int))) × Bool)) × Int) ⊕ (List (Int × (Int × (Int × (Int × Int × Int × Int) × (Int × Int × Int × Int)) × (List (Int × Int × Int))) × Bool)))
  | (x2, x3) => (if x3 < (p0.length : Int) then ((ix p0 x3).bind fun x5 => (if (decide (x5.2.2.2 = p1) && decide (x5.1 = p2)) = true then (HF 1 x5.2.1 10 x5.2.2.1).bind fun x6 => (LZ x2 ([(3, x6, false)] : List (Int × (Int × (Int × (Int × Int × Int × Int) × (Int × Int × Int × Int)) × (List (Int × Int × Int))) × Bool))).bind fun x7 => some x7 else some x2)).bind fun x4 => some (.inl (x4, AC (x3 + 1))) else some (.inr x2))
noncomputable def GU (p0 : List (Int × Int × Int × Int)) (p1 : Int) (p2 : Int) : Option (List (Int × (Int × (Int × (Int × Int × Int × Int) × (Int × Int × Int × Int)) × (List (Int × Int × Int))) × Bool)) := (AO (E9 p0 p1 p2) ([], 0)).bind fun x1 => some x1
theorem Mg (Y : Nat → Prop) (w0 : World) (v1 : Value) (p0 : List (Int × Int × Int × Int)) (p1 : Int) (p2 : Int) (r : (List (Int × (Int × (Int × (Int × Int × Int × Int) × (Int × Int × Int × Int)) × (List (Int × Int × Int))) × Bool))) (H : GU p0 p1 p2 = some r) (h_v1 : Sl w0 (NX []) Ba v1 p0) :
    Calls Try.prog 17 #[v1, .int .i64 p1, .int .i64 p2] w0 fun e w' => ∃ x : Value, e = .returned (x) ∧ Stw ⟨Y, [], w0⟩ [] [row (x) 58 Ji r] w' := by
 refine enter Try.func17 Aa Try.ntmps17 Aa fun a F => ?_
 have W := Stw.start Y w0
 unfold GU at H
 refine Ah (Ac ?_)
 refine ls F W Aa (Ag F Aa).q fun a w F W => ?_
 refine Ae (Ab (Ah (Ac ?_)))
 refine ls F W Aa (Ag F Aa).q fun a w F W => ?_
 refine Ae (Ab ?_)
 obtain ⟨o1, G1, K1⟩ := Al H
 refine AM (fun a w => ∃ x1 : List (Int × (Int × (Int × (Int × Int × Int × Int) × (Int × Int × Int × Int)) × (List (Int × Int × Int))) × Bool), ∃ v2 : Value, some (x1) = some o1 ∧ Fr 37 [] [(6, .slice none 0 0), (7, v2)] a ∧ Stw ⟨Y, [], w0⟩ [] [row v2 58 Ji x1] w) ?_ ?_
 ·
  have H := G1
  clear G1 K1
  refine Ah (Ac ?_)
  refine ls F W Aa (Ad F Aa).q fun a w F W => ?_
  refine ls F W Aa (B0 (r := Ba) (l := p0) Ov Aa F Aa (Ao h_v1)).q fun a w F W => ?_
  refine ls F W Aa (Ad F Aa).q fun a w F W => ?_
  refine Ae (Ab (Av ?_))
  have W := W.nilRow 58 Ji
  refine Bk H (fun s a w => ∃ v3 : Value, Fr 37 [] [(1, .int .i64 p1), (2, .int .i64 p2), (6, .slice none 0 0), (7, v3), (10, v1), (11, .int .i64 (p0.length : Int)), (12, .int .i64 s.2)] a ∧ Stw ⟨Y, [], w0⟩ [] [row v3 58 Ji s.1] w) ⟨(Value.slice none 0 0), F.re ⟨rfl, Aa, Aa, Aa, Aa, Aa, Aa, trivial⟩, W⟩ fun s o a w H L2 hR => ?_
  obtain ⟨x2, x3⟩ := s
  obtain ⟨v3, F, W⟩ := hR
  have F : Fr 37 [] [(1, .int .i64 p1), (2, .int .i64 p2), (6, .slice none 0 0), (7, v3), (10, v1), (11, .int .i64 (p0.length : Int)), (12, .int .i64 x3)] a := F
  have W : Stw ⟨Y, [], w0⟩ [] [row v3 58 Ji x2] w := W
  rw [E9] at H
  refine Ah (Ac ?_)
  refine ls F W Aa (BM F Aa Aa).q fun a w F W => ?_
  refine Ae (Ab (Ah ?_))
  refine AB F Aa (fun hb => ?_) fun hb => ?_
  ·
   have H := AR (Br hb) H
   rw [hb] at F
   clear hb
   refine Au (Ab ?_)
   obtain ⟨o3, G3, K3⟩ := Al H
   refine AM (fun a w => ∃ x4 : List (Int × (Int × (Int × (Int × Int × Int × Int) × (Int × Int × Int × Int)) × (List (Int × Int × Int))) × Bool), ∃ v4 : Value, some (x4) = some o3 ∧ Fr 37 [] [(1, .int .i64 p1), (2, .int .i64 p2), (6, .slice none 0 0), (7, v4), (10, v1), (11, .int .i64 (p0.length : Int)), (12, .int .i64 x3)] a ∧ Stw ⟨Y, [], w0⟩ [] [row v4 58 Ji x4] w) ?_ ?_
   ·
    have H := G3
    clear G3 K3
    refine Av (Ah (Ac ?_))
    obtain ⟨x5, h1, H⟩ := Al H
    refine ls F W Aa (Ax (r := Ba) Ej F Aa Aa (Ao h_v1) h1).q fun a w F W => ?_
    refine ls F W Aa (Ap (y := Value.agg #[.int .i64 x5.1, .int .i64 x5.2.1, .int .i64 x5.2.2.1, .int .i64 x5.2.2.2]) (j := 0) (i := x3) F Aa Aa (Ao h_v1) h1 El.to Ea Aa).q fun a w F W => ?_
    refine DZ (cs := [.int .i64 0, .int .i64 0, .int .i64 0, .int .i64 0]) F W Aa Rj Aa fun b1 a w F W => ?_
    refine Dk (vs := [.int .i64 x5.1, .int .i64 x5.2.1, .int .i64 x5.2.2.1, .int .i64 x5.2.2.2]) (M' := [(b1, [.int .i64 x5.1, .int .i64 x5.2.1, .int .i64 x5.2.2.1, .int .i64 x5.2.2.2])]) 0 F W Aa Aa Aa Ea Aa Aa Aa Aa Aa fun w W => ?_
    refine Ae (Ab ?_)
    refine AM (fun a w => Fr 37 [] [(1, .int .i64 p1), (2, .int .i64 p2), (6, .slice none 0 0), (7, v3), (9, .pointer (some ⟨b1, 0, none⟩)), (10, v1), (11, .int .i64 (p0.length : Int)), (12, .int .i64 x3), (25, .bool (decide (x5.2.2.2 = p1) && decide (x5.1 = p2)))] a ∧ Stw ⟨Y, [], w0⟩ [(b1, [.int .i64 x5.1, .int .i64 x5.2.1, .int .i64 x5.2.2.1, .int .i64 x5.2.2.2])] [row v3 58 Ji x2] w) ?_ ?_
    ·
     refine Ac ?_
     refine ls F W Aa (Ak HA Aa Aa Aa T3 F Aa 3 Aa).q fun a w F W => ?_
     refine ls F W Aa (Az (v := Value.int .i64 x5.2.2.2) 0 F Aa Aa T3 Aa).q fun a w F W => ?_
     refine ls F W Aa (Ad F Aa).q fun a w F W => ?_
     refine ls F W Aa (Dx F Aa Aa).q fun a w F W => ?_
     refine ls F W Aa (Ad F Aa).q fun a w F W => ?_
     rcases Bool.eq_false_or_eq_true (decide (x5.2.2.2 = p1)) with hb0 | hb0
     ·
      rw [hb0] at F
      refine AL F W (Af F Aa Aa Aa Aa) Aa (Aj Aa) (Ak HA Aa Aa Aa T3 F Aa 0 Aa).q fun a w F W => ?_
      refine AL F W (Af F Aa Aa Aa Aa) Aa (Aj Aa) (Az (v := Value.int .i64 x5.1) 0 F Aa Aa T3 Aa).q fun a w F W => ?_
      refine AL F W (Af F Aa Aa Aa Aa) Aa (Aj Aa) (Ad F Aa).q fun a w F W => ?_
      refine AL F W (Af F Aa Aa Aa Aa) Aa (Aj Aa) (Dx F Aa Aa).q fun a w F W => ?_
      refine ls F W Aa (Aq F Aa Aa Aa).q fun a w F W => ?_
      refine Ae (Ab ?_)
      exact ⟨F.re ⟨rfl, Aa, Aa, Aa, Aa, Aa, Aa, Aa, (by show some (Value.bool (decide (x5.1 = p2))) = some (Value.bool (decide (x5.2.2.2 = p1) && decide (x5.1 = p2))); try rw [hb0]; all_goals simp only [Bool.not_true, Bool.not_false, Bool.true_and, Bool.false_and, Bool.true_or, Bool.false_or, Bool.and_true, Bool.or_false, cond_true, cond_false]), trivial⟩, W⟩
     rw [hb0] at F
     iterate 4 refine CX F Aa Aa Aa Aa Aa Aa Aa fun a F => ?_
     refine ls F W Aa (AA F Aa Aa Aa).q fun a w F W => ?_
     refine Ae (Ab ?_)
     exact ⟨F.re ⟨rfl, Aa, Aa, Aa, Aa, Aa, Aa, Aa, (by show some (Value.bool false) = some (Value.bool (decide (x5.2.2.2 = p1) && decide (x5.1 = p2))); try rw [hb0]; all_goals simp only [Bool.not_true, Bool.not_false, Bool.true_and, Bool.false_and, Bool.true_or, Bool.false_or, Bool.and_true, Bool.or_false, cond_true, cond_false]), trivial⟩, W⟩
    rintro a w ⟨F, W⟩
    refine AB F Aa (fun hb => ?_) fun hb => ?_
    ·
     have H := AR hb H
     rw [hb] at F
     clear hb
     refine Ac ?_
     refine ls F W Aa (Ad F Aa).q fun a w F W => ?_
     refine ls F W Aa (Ak HA Aa Aa Aa T3 F Aa 1 Aa).q fun a w F W => ?_
     refine ls F W Aa (Az (v := Value.int .i64 x5.2.1) 0 F Aa Aa T3 Aa).q fun a w F W => ?_
     refine ls F W Aa (Ak HA Aa Aa Aa T3 F Aa 2 Aa).q fun a w F W => ?_
     refine ls F W Aa (Az (v := Value.int .i64 x5.2.2.1) 0 F Aa Aa T3 Aa).q fun a w F W => ?_
     obtain ⟨x6, h2, H⟩ := Al H
     refine BZ (Ml := []) (Zl := []) (M := [(b1, [.int .i64 x5.1, .int .i64 x5.2.1, .int .i64 x5.2.2.1, .int .i64 x5.2.2.2])]) (Z := [row v3 58 Ji x2]) (β := Value) (rv := fun x => .agg #[.int .i64 x6.1, .int .i64 x6.2.1.1, .int .i64 x6.2.1.2.1.1, .int .i64 x6.2.1.2.1.2.1, .int .i64 x6.2.1.2.1.2.2.1, .int .i64 x6.2.1.2.1.2.2.2, .int .i64 x6.2.1.2.2.1, .int .i64 x6.2.1.2.2.2.1, .int .i64 x6.2.1.2.2.2.2.1, .int .i64 x6.2.1.2.2.2.2.2, x]) (MM := fun x => []) (ZZ := fun x => [row x 60 OU x6.2.2]) F W Tb Aa Aa (fun hL => MD _ w 1 x5.2.1 10 x5.2.2.1 _ h2) fun x a w F W => ?_
     obtain ⟨v5, rfl⟩ : ∃ y, y = x := ⟨x, rfl⟩
     have W : Stw ⟨Y, [], w0⟩ [(b1, [.int .i64 x5.1, .int .i64 x5.2.1, .int .i64 x5.2.2.1, .int .i64 x5.2.2.2])] [row v5 60 OU x6.2.2, row v3 58 Ji x2] w := W
     refine ls F W Aa (D0 (v := Value.agg #[.int .i64 3, .int .i64 x6.1, .int .i64 x6.2.1.1, .int .i64 x6.2.1.2.1.1, .int .i64 x6.2.1.2.1.2.1, .int .i64 x6.2.1.2.1.2.2.1, .int .i64 x6.2.1.2.1.2.2.2, .int .i64 x6.2.1.2.2.1, .int .i64 x6.2.1.2.2.2.1, .int .i64 x6.2.1.2.2.2.2.1, .int .i64 x6.2.1.2.2.2.2.2, v5, .bool false]) Sr F Aa (DC Aa Aa Aa (DC Aa Aa Aa Ip)) Aa).q fun a w F W => ?_
     have W := W.freeze
     refine Fo (z := Value.agg #[.int .i64 0, .int .i64 0, .int .i64 0, .int .i64 0, .int .i64 0, .int .i64 0, .int .i64 0, .int .i64 0, .int .i64 0, .int .i64 0, .int .i64 0, .slice none 0 0, .bool false]) (cs := [.int .i64 3, .int .i64 x6.1, .int .i64 x6.2.1.1, .int .i64 x6.2.1.2.1.1, .int .i64 x6.2.1.2.1.2.1, .int .i64 x6.2.1.2.1.2.2.1, .int .i64 x6.2.1.2.1.2.2.2, .int .i64 x6.2.1.2.2.1, .int .i64 x6.2.1.2.2.2.1, .int .i64 x6.2.1.2.2.2.2.1, .int .i64 x6.2.1.2.2.2.2.2, v5, .bool false]) Ji ([(3, x6, false)] : List (Int × (Int × (Int × (Int × Int × Int × Int) × (Int × Int × Int × Int)) × (List (Int × Int × Int))) × Bool)) F W Aa Q5 Sm Aa Aa Aa (DC Aa Aa Aa Ip) Aa Aa ⟨[Value.int .i64 3, Value.int .i64 x6.1, Value.int .i64 x6.2.1.1, Value.int .i64 x6.2.1.2.1.1, Value.int .i64 x6.2.1.2.1.2.1, Value.int .i64 x6.2.1.2.1.2.2.1, Value.int .i64 x6.2.1.2.1.2.2.2, Value.int .i64 x6.2.1.2.2.1, Value.int .i64 x6.2.1.2.2.2.1, Value.int .i64 x6.2.1.2.2.2.2.1, Value.int .i64 x6.2.1.2.2.2.2.2, v5, Value.bool false], _, Aa, ⟨[Value.int .i64 3], [Value.int .i64 x6.1, Value.int .i64 x6.2.1.1, Value.int .i64 x6.2.1.2.1.1, Value.int .i64 x6.2.1.2.1.2.1, Value.int .i64 x6.2.1.2.1.2.2.1, Value.int .i64 x6.2.1.2.1.2.2.2, Value.int .i64 x6.2.1.2.2.1, Value.int .i64 x6.2.1.2.2.2.1, Value.int .i64 x6.2.1.2.2.2.2.1, Value.int .i64 x6.2.1.2.2.2.2.2, v5, Value.bool false], Aa, Aa, ⟨[Value.int .i64 x6.1, Value.int .i64 x6.2.1.1, Value.int .i64 x6.2.1.2.1.1, Value.int .i64 x6.2.1.2.1.2.1, Value.int .i64 x6.2.1.2.1.2.2.1, Value.int .i64 x6.2.1.2.1.2.2.2, Value.int .i64 x6.2.1.2.2.1, Value.int .i64 x6.2.1.2.2.2.1, Value.int .i64 x6.2.1.2.2.2.2.1, Value.int .i64 x6.2.1.2.2.2.2.2, v5], [Value.bool false], Aa, ⟨[Value.int .i64 x6.1], [Value.int .i64 x6.2.1.1, Value.int .i64 x6.2.1.2.1.1, Value.int .i64 x6.2.1.2.1.2.1, Value.int .i64 x6.2.1.2.1.2.2.1, Value.int .i64 x6.2.1.2.1.2.2.2, Value.int .i64 x6.2.1.2.2.1, Value.int .i64 x6.2.1.2.2.2.1, Value.int .i64 x6.2.1.2.2.2.2.1, Value.int .i64 x6.2.1.2.2.2.2.2, v5], Aa, Aa, ⟨[Value.int .i64 x6.2.1.1, Value.int .i64 x6.2.1.2.1.1, Value.int .i64 x6.2.1.2.1.2.1, Value.int .i64 x6.2.1.2.1.2.2.1, Value.int .i64 x6.2.1.2.1.2.2.2, Value.int .i64 x6.2.1.2.2.1, Value.int .i64 x6.2.1.2.2.2.1, Value.int .i64 x6.2.1.2.2.2.2.1, Value.int .i64 x6.2.1.2.2.2.2.2], [v5], Aa, ⟨[Value.int .i64 x6.2.1.1], [Value.int .i64 x6.2.1.2.1.1, Value.int .i64 x6.2.1.2.1.2.1, Value.int .i64 x6.2.1.2.1.2.2.1, Value.int .i64 x6.2.1.2.1.2.2.2, Value.int .i64 x6.2.1.2.2.1, Value.int .i64 x6.2.1.2.2.2.1, Value.int .i64 x6.2.1.2.2.2.2.1, Value.int .i64 x6.2.1.2.2.2.2.2], Aa, Aa, ⟨[Value.int .i64 x6.2.1.2.1.1, Value.int .i64 x6.2.1.2.1.2.1, Value.int .i64 x6.2.1.2.1.2.2.1, Value.int .i64 x6.2.1.2.1.2.2.2], [Value.int .i64 x6.2.1.2.2.1, Value.int .i64 x6.2.1.2.2.2.1, Value.int .i64 x6.2.1.2.2.2.2.1, Value.int .i64 x6.2.1.2.2.2.2.2], Aa, ⟨[Value.int .i64 x6.2.1.2.1.1], [Value.int .i64 x6.2.1.2.1.2.1, Value.int .i64 x6.2.1.2.1.2.2.1, Value.int .i64 x6.2.1.2.1.2.2.2], Aa, Aa, ⟨[Value.int .i64 x6.2.1.2.1.2.1], [Value.int .i64 x6.2.1.2.1.2.2.1, Value.int .i64 x6.2.1.2.1.2.2.2], Aa, Aa, ⟨[Value.int .i64 x6.2.1.2.1.2.2.1], [Value.int .i64 x6.2.1.2.1.2.2.2], Aa, Aa, Aa⟩⟩⟩, ⟨[Value.int .i64 x6.2.1.2.2.1], [Value.int .i64 x6.2.1.2.2.2.1, Value.int .i64 x6.2.1.2.2.2.2.1, Value.int .i64 x6.2.1.2.2.2.2.2], Aa, Aa, ⟨[Value.int .i64 x6.2.1.2.2.2.1], [Value.int .i64 x6.2.1.2.2.2.2.1, Value.int .i64 x6.2.1.2.2.2.2.2], Aa, Aa, ⟨[Value.int .i64 x6.2.1.2.2.2.2.1], [Value.int .i64 x6.2.1.2.2.2.2.2], Aa, Aa, Aa⟩⟩⟩⟩⟩, ⟨_, Aa, (W.item (i := 0) Aa)⟩⟩⟩, Aa⟩⟩, Aa⟩ fun v6 a w F W => ?_
     obtain ⟨x7, h3, H⟩ := Al H
     refine GD (r := Ji) (i := 2) F W Aa Q5 Aa Aa Aa Aa (HV W 0 Aa) h3 Aa fun v7 a w F W => ?_
     have W : Stw ⟨Y, [], w0⟩ [(b1, [.int .i64 x5.1, .int .i64 x5.2.1, .int .i64 x5.2.2.1, .int .i64 x5.2.2.2])] [row v7 58 Ji x7, row v6 58 Ji ([(3, x6, false)] : List (Int × (Int × (Int × (Int × Int × Int × Int) × (Int × Int × Int × Int)) × (List (Int × Int × Int))) × Bool)), Jh v5 OU x6.2.2] w := W
     refine ls F W Aa (Ag F Aa).q fun a w F W => ?_
     refine Ae (AP (Ab ?_))
     have W := W.sub (M' := []) (Z' := [row v7 58 Ji x7]) (List.nil_sublist _) (List.Sublist.cons_cons _ (List.nil_sublist _))
     exact ⟨_, (v7), H, F.re ⟨rfl, Aa, Aa, Aa, Aa, Aa, Aa, trivial⟩, W⟩
    have H := AS (by rw [hb]; decide) H
    rw [hb] at F
    clear hb
    refine Au (AP (Ab ?_))
    have W := W.sub (M' := []) (Z' := [row v3 58 Ji x2]) (List.nil_sublist _) (List.Sublist.refl _)
    exact ⟨_, (v3), H, F.re ⟨rfl, Aa, Aa, Aa, Aa, Aa, Aa, trivial⟩, W⟩
   rintro a w ⟨x4, v4, hj, F, W⟩
   have hj := AX hj
   subst hj
   have H := K3
   clear G3 K3
   refine Ac ?_
   refine ls F W Aa (BL F Aa Aa Aa).q fun a w F W => ?_
   refine ls F W Aa (Ad F Aa).q fun a w F W => ?_
   refine Ae (Ab ?_)
   exact ⟨_, H, (v4), F.re ⟨rfl, Aa, Aa, Aa, Aa, Aa, Aa, trivial⟩, W⟩
  have H := AS (Bq hb) H
  rw [hb] at F
  clear hb
  refine Bh ?_
  iterate 2 refine BK ?_
  refine Bj (Ab ?_)
  have H := L2 _ H
  exact ⟨_, (v3), H, F.re ⟨rfl, Aa, trivial⟩, W⟩
 rintro a w ⟨x1, v2, hj, F, W⟩
 have hj := AX hj
 subst hj
 have H := K1
 clear G1 K1
 refine Ah (Ac ?_)
 refine ls F W Aa (Ad F Aa).q fun a w F W => ?_
 refine ls F W Aa (Ag F Aa).q fun a w F W => ?_
 refine Ae (Ab (AF ?_))
 have H := AX H
 subst H
 refine BA (.inl Aa) F W Aa (Ay F Aa) ?_
 exact ⟨(v2), Aa, W⟩
end Go.Proofs.Ythiejmoddfenlaa
