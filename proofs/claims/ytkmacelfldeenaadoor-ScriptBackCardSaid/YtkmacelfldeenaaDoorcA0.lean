/- The functions of layer 39, D9. Conditions: none. -/
import Derived.Test.YtkmacelfldeenaaDoorRows
import Derived.Test.YtkmacelfldeenaaDoorcOB
import Derived.Test.YtkmacelfldeenaaDoorcOG
import Derived.Test.YtkmacelfldeenaaDoorcOT
import Derived.Test.YtkmacelfldeenaaDoorcOD
import Derived.Test.YtkmacelfldeenaaDoorcOC
namespace Go.Proofs.YtkmacelfldeenaaDoor
open Go Go.RowKit
set_option linter.unusedVariables false
set_option linter.unusedSimpArgs false
set_option maxRecDepth 20000
theorem HY : type_of% Tryd.underlying45 := Tryd.underlying45
abbrev F9 : Rp (Int × Int × Int) := (Rp.pair (Rp.int .i64) (Rp.pair (Rp.int .i64) (Rp.int .i64)))
theorem IQ : Has Tryd.prog 25 := ⟨fun args w => Ak Tryd.func25 rfl (by decide) args w⟩
theorem IF : Et Tryd.prog 45 9 1 16 := Et.of HY (by kernel_rfl) (by kernel_rfl) (by kernel_rfl) (by decide)
theorem T9 : Ty Tryd.prog 9 false 1 := ⟨by kernel_rfl, by kernel_rfl⟩
theorem HQ : (Tryd.prog.info? 26).bind (·.zero) = some (.agg #[.int .i64 0, .int .i64 0, .int .i64 0]) := by kernel_rfl
def Ai (p0 : Int) : List UInt8 := (if p0 = 1 then ([116, 105, 99, 107] : List UInt8) else (if p0 = 2 then ([116, 117, 114, 110] : List UInt8) else (if p0 = 3 then ([116, 105, 109, 101, 114] : List UInt8) else (if p0 = 4 then ([117, 112, 100, 97, 116, 101] : List UInt8) else (if p0 = 5 then ([100, 101, 108, 105, 118, 101, 114] : List UInt8) else (if p0 = 6 then ([100, 114, 111, 112] : List UInt8) else (if p0 = 7 then ([116, 119, 105, 99, 101] : List UInt8) else (if p0 = 8 then ([105, 110, 106, 101, 99, 116] : List UInt8) else (if p0 = 9 then ([104, 111, 112] : List UInt8) else (if p0 = 10 then ([99, 114, 97, 115, 104] : List UInt8) else (if p0 = 11 then ([115, 116, 97, 114, 116] : List UInt8) else ([63] : List UInt8))))))))))))
theorem Cu (Y : Nat → Prop) (w0 : World)  (p0 : Int) (r : List UInt8) (H : Ai p0 = r)  :
    Calls Tryd.prog 6 #[.int .i64 p0] w0 fun e w' => e = .returned (.string (bs r)) ∧ Below w0.heap.size w0 w' := by
 refine enter Tryd.func6 Aa Tryd.ntmps6 Aa fun a F => ?_
 have W := Stw.start Y w0
 unfold Ai at H
 refine Ah (Ac ?_)
 refine ls F W Aa (Ad (v := Value.string (bs ([] : List UInt8))) F Aa).q fun a w F W => ?_
 refine Ae (Ab (Ah (Ah (Ac ?_))))
 refine ls F W Aa (Af F Aa).q fun a w F W => ?_
 refine Ae (Ab (AK (Ah (Ac ?_))))
 refine ls F W Aa (AP F Aa Aa).q fun a w F W => ?_
 refine ls F W Aa (Ad F Aa).q fun a w F W => ?_
 refine Ae (Ab ?_)
 refine Av F Aa (fun hb => ?_) fun hb => ?_
 ·
  have H := AF (A3 hb) H
  rw [hb] at F
  clear hb
  refine Ah (Ac ?_)
  refine ls F W Aa (Ad (v := Value.string (bs ([116, 105, 99, 107] : List UInt8))) F Aa).q fun a w F W => ?_
  refine Ae (Ab (Aw (AB (AA ?_))))
  subst H
  refine AO (.inl Aa) F W Aa (Au F Aa) ?_
  exact ⟨rfl, W.done⟩
 have H := AG (A2 hb) H
 rw [hb] at F
 clear hb
 refine Ah (Ac ?_)
 refine ls F W Aa (AP F Aa Aa).q fun a w F W => ?_
 refine ls F W Aa (Ad F Aa).q fun a w F W => ?_
 refine Ae (Ab ?_)
 refine Av F Aa (fun hb => ?_) fun hb => ?_
 ·
  have H := AF (A3 hb) H
  rw [hb] at F
  clear hb
  refine Ah (Ac ?_)
  refine ls F W Aa (Ad (v := Value.string (bs ([116, 117, 114, 110] : List UInt8))) F Aa).q fun a w F W => ?_
  refine Ae (Ab (Aw (AB (AA ?_))))
  subst H
  refine AO (.inl Aa) F W Aa (Au F Aa) ?_
  exact ⟨rfl, W.done⟩
 have H := AG (A2 hb) H
 rw [hb] at F
 clear hb
 refine Ah (Ac ?_)
 refine ls F W Aa (AP F Aa Aa).q fun a w F W => ?_
 refine ls F W Aa (Ad F Aa).q fun a w F W => ?_
 refine Ae (Ab ?_)
 refine Av F Aa (fun hb => ?_) fun hb => ?_
 ·
  have H := AF (A3 hb) H
  rw [hb] at F
  clear hb
  refine Ah (Ac ?_)
  refine ls F W Aa (Ad (v := Value.string (bs ([116, 105, 109, 101, 114] : List UInt8))) F Aa).q fun a w F W => ?_
  refine Ae (Ab (Aw (AB (AA ?_))))
  subst H
  refine AO (.inl Aa) F W Aa (Au F Aa) ?_
  exact ⟨rfl, W.done⟩
 have H := AG (A2 hb) H
 rw [hb] at F
 clear hb
 refine Ah (Ac ?_)
 refine ls F W Aa (AP F Aa Aa).q fun a w F W => ?_
 refine ls F W Aa (Ad F Aa).q fun a w F W => ?_
 refine Ae (Ab ?_)
 refine Av F Aa (fun hb => ?_) fun hb => ?_
 ·
  have H := AF (A3 hb) H
  rw [hb] at F
  clear hb
  refine Ah (Ac ?_)
  refine ls F W Aa (Ad (v := Value.string (bs ([117, 112, 100, 97, 116, 101] : List UInt8))) F Aa).q fun a w F W => ?_
  refine Ae (Ab (Aw (AB (AA ?_))))
  subst H
  refine AO (.inl Aa) F W Aa (Au F Aa) ?_
  exact ⟨rfl, W.done⟩
 have H := AG (A2 hb) H
 rw [hb] at F
 clear hb
 refine Ah (Ac ?_)
 refine ls F W Aa (AP F Aa Aa).q fun a w F W => ?_
 refine ls F W Aa (Ad F Aa).q fun a w F W => ?_
 refine Ae (Ab ?_)
 refine Av F Aa (fun hb => ?_) fun hb => ?_
 ·
  have H := AF (A3 hb) H
  rw [hb] at F
  clear hb
  refine Ah (Ac ?_)
  refine ls F W Aa (Ad (v := Value.string (bs ([100, 101, 108, 105, 118, 101, 114] : List UInt8))) F Aa).q fun a w F W => ?_
  refine Ae (Ab (Aw (AB (AA ?_))))
  subst H
  refine AO (.inl Aa) F W Aa (Au F Aa) ?_
  exact ⟨rfl, W.done⟩
 have H := AG (A2 hb) H
 rw [hb] at F
 clear hb
 refine Ah (Ac ?_)
 refine ls F W Aa (AP F Aa Aa).q fun a w F W => ?_
 refine ls F W Aa (Ad F Aa).q fun a w F W => ?_
 refine Ae (Ab ?_)
 refine Av F Aa (fun hb => ?_) fun hb => ?_
 ·
  have H := AF (A3 hb) H
  rw [hb] at F
  clear hb
  refine Ah (Ac ?_)
  refine ls F W Aa (Ad (v := Value.string (bs ([100, 114, 111, 112] : List UInt8))) F Aa).q fun a w F W => ?_
  refine Ae (Ab (Aw (AB (AA ?_))))
  subst H
  refine AO (.inl Aa) F W Aa (Au F Aa) ?_
  exact ⟨rfl, W.done⟩
 have H := AG (A2 hb) H
 rw [hb] at F
 clear hb
 refine Ah (Ac ?_)
 refine ls F W Aa (AP F Aa Aa).q fun a w F W => ?_
 refine ls F W Aa (Ad F Aa).q fun a w F W => ?_
 refine Ae (Ab ?_)
 refine Av F Aa (fun hb => ?_) fun hb => ?_
 ·
  have H := AF (A3 hb) H
  rw [hb] at F
  clear hb
  refine Ah (Ac ?_)
  refine ls F W Aa (Ad (v := Value.string (bs ([116, 119, 105, 99, 101] : List UInt8))) F Aa).q fun a w F W => ?_
  refine Ae (Ab (Aw (AB (AA ?_))))
  subst H
  refine AO (.inl Aa) F W Aa (Au F Aa) ?_
  exact ⟨rfl, W.done⟩
 have H := AG (A2 hb) H
 rw [hb] at F
 clear hb
 refine Ah (Ac ?_)
 refine ls F W Aa (AP F Aa Aa).q fun a w F W => ?_
 refine ls F W Aa (Ad F Aa).q fun a w F W => ?_
 refine Ae (Ab ?_)
 refine Av F Aa (fun hb => ?_) fun hb => ?_
 ·
  have H := AF (A3 hb) H
  rw [hb] at F
  clear hb
  refine Ah (Ac ?_)
  refine ls F W Aa (Ad (v := Value.string (bs ([105, 110, 106, 101, 99, 116] : List UInt8))) F Aa).q fun a w F W => ?_
  refine Ae (Ab (Aw (AB (AA ?_))))
  subst H
  refine AO (.inl Aa) F W Aa (Au F Aa) ?_
  exact ⟨rfl, W.done⟩
 have H := AG (A2 hb) H
 rw [hb] at F
 clear hb
 refine Ah (Ac ?_)
 refine ls F W Aa (AP F Aa Aa).q fun a w F W => ?_
 refine ls F W Aa (Ad F Aa).q fun a w F W => ?_
 refine Ae (Ab ?_)
 refine Av F Aa (fun hb => ?_) fun hb => ?_
 ·
  have H := AF (A3 hb) H
  rw [hb] at F
  clear hb
  refine Ah (Ac ?_)
  refine ls F W Aa (Ad (v := Value.string (bs ([104, 111, 112] : List UInt8))) F Aa).q fun a w F W => ?_
  refine Ae (Ab (Aw (AB (AA ?_))))
  subst H
  refine AO (.inl Aa) F W Aa (Au F Aa) ?_
  exact ⟨rfl, W.done⟩
 have H := AG (A2 hb) H
 rw [hb] at F
 clear hb
 refine Ah (Ac ?_)
 refine ls F W Aa (AP F Aa Aa).q fun a w F W => ?_
 refine ls F W Aa (Ad F Aa).q fun a w F W => ?_
 refine Ae (Ab ?_)
 refine Av F Aa (fun hb => ?_) fun hb => ?_
 ·
  have H := AF (A3 hb) H
  rw [hb] at F
  clear hb
  refine Ah (Ac ?_)
  refine ls F W Aa (Ad (v := Value.string (bs ([99, 114, 97, 115, 104] : List UInt8))) F Aa).q fun a w F W => ?_
  refine Ae (Ab (Aw (AB (AA ?_))))
  subst H
  refine AO (.inl Aa) F W Aa (Au F Aa) ?_
  exact ⟨rfl, W.done⟩
 have H := AG (A2 hb) H
 rw [hb] at F
 clear hb
 refine Ah (Ac ?_)
 refine ls F W Aa (AP F Aa Aa).q fun a w F W => ?_
 refine ls F W Aa (Ad F Aa).q fun a w F W => ?_
 refine Ae (Ab ?_)
 refine Av F Aa (fun hb => ?_) fun hb => ?_
 ·
  have H := AF (A3 hb) H
  rw [hb] at F
  clear hb
  refine Ah (Ac ?_)
  refine ls F W Aa (Ad (v := Value.string (bs ([115, 116, 97, 114, 116] : List UInt8))) F Aa).q fun a w F W => ?_
  refine Ae (Ab (Aw (AB (AA ?_))))
  subst H
  refine AO (.inl Aa) F W Aa (Au F Aa) ?_
  exact ⟨rfl, W.done⟩
 have H := AG (A2 hb) H
 rw [hb] at F
 clear hb
 refine Ay (Bm (Ab (Ah (Ac ?_))))
 refine ls F W Aa (Ad (v := Value.string (bs ([63] : List UInt8))) F Aa).q fun a w F W => ?_
 refine Ae (Ab (Aw ?_))
 subst H
 refine AO (.inl Aa) F W Aa (Au F Aa) ?_
 exact ⟨rfl, W.done⟩
theorem H6 : Has Tryd.prog 6 := ⟨fun args w => Ak Tryd.func6 rfl (by decide) args w⟩
noncomputable def AJ (p0 : List UInt8) : Int → Option (Int ⊕ (Unit ⊕ Int))
  | x1 => (if x1 ≤ 11 then (if (Ai x1) = p0 then some (.inr (.inr x1)) else some (.inl (CF (x1 + 1)))) else some (.inr (.inl ())))
noncomputable def Bn (p0 : List UInt8) : Option Int := Ez (AD (AJ p0) 1) fun _ => some 0
theorem DO (Y : Nat → Prop) (w0 : World)  (p0 : List UInt8) (r : Int) (H : Bn p0 = some r)  :
    Calls Tryd.prog 33 #[.string (bs p0)] w0 fun e w' => e = .returned (.int .i64 r) ∧ Below w0.heap.size w0 w' := by
 refine enter Tryd.func33 Aa Tryd.ntmps33 Aa fun a F => ?_
 have W := Stw.start Y w0
 unfold Bn at H
 refine Ah (Ac ?_)
 refine ls F W Aa (Ad F Aa).q fun a w F W => ?_
 refine Ae (Ab ?_)
 obtain ⟨o1, G1, K1, L1⟩ := Hq H
 refine AX (fun a w => some (Sum.inl ()) = some o1 ∧ Fr 13 [] [(2, .int .i64 0)] a ∧ Stw ⟨Y, [], w0⟩ [] [] w) ?_ ?_
 ·
  have H := G1
  clear G1 K1
  refine Ah (Ac ?_)
  refine ls F W Aa (Ad F Aa).q fun a w F W => ?_
  refine Ae (Ab (AK ?_))
  refine B8 H (fun s a w => Fr 13 [] [(0, .string (bs p0)), (2, .int .i64 0), (3, .int .i64 s)] a ∧ Stw ⟨Y, [], w0⟩ [] [] w) ⟨F.re ⟨rfl, Aa, Aa, trivial⟩, W⟩ fun s o a w H L2 hR => ?_
  obtain ⟨x1, rfl⟩ : ∃ x, x = s := ⟨s, rfl⟩
  obtain ⟨F, W⟩ := hR
  have F : Fr 13 [] [(0, .string (bs p0)), (2, .int .i64 0), (3, .int .i64 x1)] a := F
  have W : Stw ⟨Y, [], w0⟩ [] [] w := W
  rw [AJ] at H
  refine Ah (Ah (Ac ?_))
  refine ls F W Aa (Af F Aa).q fun a w F W => ?_
  refine ls F W Aa (Hg F Aa Aa).q fun a w F W => ?_
  refine Ae (Ab ?_)
  refine Av F Aa (fun hb => ?_) fun hb => ?_
  ·
   have H := AF (A3 hb) H
   rw [hb] at F
   clear hb
   refine Ay (Ab (Ah (AK (Ah (Ac ?_)))))
   refine ls F W Aa (Af F Aa).q fun a w F W => ?_
   refine ls F W Aa (AM (v := Value.string (bs (Ai x1))) F H6 Aa (fun w W => Cu any w x1 _ Aa)) fun a w F W => ?_
   refine ls F W Aa (Af F Aa).q fun a w F W => ?_
   refine ls F W Aa (FV (l := (Ai x1)) (m := p0) F Aa Aa).q fun a w F W => ?_
   refine Ae (Ab ?_)
   refine Av F Aa (fun hb => ?_) fun hb => ?_
   ·
    have H := AF (A3 hb) H
    rw [hb] at F
    clear hb
    refine Ah (Ac ?_)
    refine ls F W Aa (Af F Aa).q fun a w F W => ?_
    refine ls F W Aa (Ad F Aa).q fun a w F W => ?_
    refine Ae (Ab (Aw (AB ?_)))
    iterate 2 refine AA ?_
    refine AB (AA ?_)
    have H := L2 _ H
    have H := L1 _ H
    have H := Bv H
    subst H
    refine AO (.inl Aa) F W Aa (Au F Aa) ?_
    exact ⟨rfl, W.done⟩
   have H := AG (A2 hb) H
   rw [hb] at F
   clear hb
   refine Ay (Bm (Ab (Ac ?_)))
   refine ls F W Aa (Af F Aa).q fun a w F W => ?_
   refine ls F W Aa (CL F Aa Aa Aa).q fun a w F W => ?_
   refine ls F W Aa (Ad F Aa).q fun a w F W => ?_
   refine Ae (Ab ?_)
   exact ⟨_, H, F.re ⟨rfl, Aa, Aa, trivial⟩, W⟩
  have H := AG (A2 hb) H
  rw [hb] at F
  clear hb
  refine BU ?_
  iterate 2 refine Cq ?_
  refine BW (Ab ?_)
  have H := L2 _ H
  exact ⟨H, F.re ⟨rfl, trivial⟩, W⟩
 rintro a w ⟨hj, F, W⟩
 have H := K1 _ hj
 clear hj G1 K1 L1
 refine Ah (Ac ?_)
 refine ls F W Aa (Ad F Aa).q fun a w F W => ?_
 refine Ae (Ab (Aw ?_))
 have H := Bv H
 subst H
 refine AO (.inl Aa) F W Aa (Au F Aa) ?_
 exact ⟨rfl, W.done⟩
theorem CQ : type_of% Tryd.underlying26 := Tryd.underlying26
theorem I3 : Has Tryd.prog 33 := ⟨fun args w => Ak Tryd.func33 rfl (by decide) args w⟩
theorem Il : Bt Tryd.prog 26 [.int .i64 0, .int .i64 0, .int .i64 0] [(0, 1), (1, 1), (2, 1)] := ⟨⟨.agg #[.int .i64 0, .int .i64 0, .int .i64 0], by kernel_rfl, rfl⟩, ⟨_, CQ, fun w => by kernel_rfl⟩⟩
theorem Ev : Ty Tryd.prog 26 true 3 := ⟨by kernel_rfl, by kernel_rfl⟩
theorem T3 : Ty Tryd.prog 3 false 1 := ⟨by kernel_rfl, by kernel_rfl⟩
noncomputable def AL (p0 : Int) : Option (List UInt8) := (if p0 = 1 then some true else (if p0 = 4 then some true else (if p0 = 5 then some true else (if p0 = 6 then some true else (if p0 = 7 then some true else some (decide (p0 = 9))))))).bind fun x1 => (if x1 = true then some ([78] : List UInt8) else (if p0 = 2 then some true else some (decide (p0 = 8))).bind fun x2 => (if x2 = true then some ([73, 78] : List UInt8) else (if p0 = 10 then some true else some (decide (p0 = 11))).bind fun x3 => (if x3 = true then some ([73] : List UInt8) else some ([] : List UInt8))))
theorem BQ (Y : Nat → Prop) (w0 : World)  (p0 : Int) (r : List UInt8) (H : AL p0 = some r)  :
    Calls Tryd.prog 19 #[.int .i64 p0] w0 fun e w' => e = .returned (.string (bs r)) ∧ Below w0.heap.size w0 w' := by
 refine enter Tryd.func19 Aa Tryd.ntmps19 Aa fun a F => ?_
 have W := Stw.start Y w0
 unfold AL at H
 refine Ah (Ac ?_)
 refine ls F W Aa (Ad (v := Value.string (bs ([] : List UInt8))) F Aa).q fun a w F W => ?_
 refine Ae (Ab (Ah (Ah (Ac ?_))))
 refine ls F W Aa (Af F Aa).q fun a w F W => ?_
 refine Ae (Ab (AK ?_))
 obtain ⟨o1, G1, K1⟩ := Ap H
 refine AX (fun a w => ∃ x1 : Bool, some (x1) = some o1 ∧ Fr 17 [] [(2, .string (bs ([] : List UInt8))), (3, .int .i64 p0), (4, .bool x1)] a ∧ Stw ⟨Y, [], w0⟩ [] [] w) ?_ ?_
 ·
  have H := G1
  clear G1 K1
  refine Ah (Ac ?_)
  refine ls F W Aa (AP F Aa Aa).q fun a w F W => ?_
  refine ls F W Aa (Ad F Aa).q fun a w F W => ?_
  refine Ae (Ab ?_)
  refine Av F Aa (fun hb => ?_) fun hb => ?_
  ·
   have H := AF (A3 hb) H
   rw [hb] at F
   clear hb
   refine Ay (Ab ?_)
   exact ⟨_, H, F.re ⟨rfl, Aa, Aa, trivial⟩, W⟩
  have H := AG (A2 hb) H
  rw [hb] at F
  clear hb
  refine Ah (Ac ?_)
  refine ls F W Aa (AP F Aa Aa).q fun a w F W => ?_
  refine ls F W Aa (Ad F Aa).q fun a w F W => ?_
  refine Ae (Ab ?_)
  refine Av F Aa (fun hb => ?_) fun hb => ?_
  ·
   have H := AF (A3 hb) H
   rw [hb] at F
   clear hb
   refine Ay (Ab ?_)
   exact ⟨_, H, F.re ⟨rfl, Aa, Aa, trivial⟩, W⟩
  have H := AG (A2 hb) H
  rw [hb] at F
  clear hb
  refine Ah (Ac ?_)
  refine ls F W Aa (AP F Aa Aa).q fun a w F W => ?_
  refine ls F W Aa (Ad F Aa).q fun a w F W => ?_
  refine Ae (Ab ?_)
  refine Av F Aa (fun hb => ?_) fun hb => ?_
  ·
   have H := AF (A3 hb) H
   rw [hb] at F
   clear hb
   refine Ay (Ab ?_)
   exact ⟨_, H, F.re ⟨rfl, Aa, Aa, trivial⟩, W⟩
  have H := AG (A2 hb) H
  rw [hb] at F
  clear hb
  refine Ah (Ac ?_)
  refine ls F W Aa (AP F Aa Aa).q fun a w F W => ?_
  refine ls F W Aa (Ad F Aa).q fun a w F W => ?_
  refine Ae (Ab ?_)
  refine Av F Aa (fun hb => ?_) fun hb => ?_
  ·
   have H := AF (A3 hb) H
   rw [hb] at F
   clear hb
   refine Ay (Ab ?_)
   exact ⟨_, H, F.re ⟨rfl, Aa, Aa, trivial⟩, W⟩
  have H := AG (A2 hb) H
  rw [hb] at F
  clear hb
  refine Ah (Ac ?_)
  refine ls F W Aa (AP F Aa Aa).q fun a w F W => ?_
  refine ls F W Aa (Ad F Aa).q fun a w F W => ?_
  refine Ae (Ab ?_)
  refine Av F Aa (fun hb => ?_) fun hb => ?_
  ·
   have H := AF (A3 hb) H
   rw [hb] at F
   clear hb
   refine Ay (Ab ?_)
   exact ⟨_, H, F.re ⟨rfl, Aa, Aa, trivial⟩, W⟩
  have H := AG (A2 hb) H
  rw [hb] at F
  clear hb
  refine Ac ?_
  refine ls F W Aa (AP F Aa Aa).q fun a w F W => ?_
  refine ls F W Aa (Ad F Aa).q fun a w F W => ?_
  refine Ae (Ab ?_)
  exact ⟨_, H, F.re ⟨rfl, Aa, Aa, trivial⟩, W⟩
 rintro a w ⟨x1, hj, F, W⟩
 have hj := Bv hj
 subst hj
 have H := K1
 clear G1 K1
 refine Av F Aa (fun hb => ?_) fun hb => ?_
 ·
  have H := AF hb H
  rw [hb] at F
  clear hb
  refine Ah (Ac ?_)
  refine ls F W Aa (Ad (v := Value.string (bs ([78] : List UInt8))) F Aa).q fun a w F W => ?_
  refine Ae (Ab (Aw (AB (AA ?_))))
  have H := Bv H
  subst H
  refine AO (.inl Aa) F W Aa (Au F Aa) ?_
  exact ⟨rfl, W.done⟩
 have H := AG (by rw [hb]; decide) H
 rw [hb] at F
 clear hb
 obtain ⟨o2, G2, K2⟩ := Ap H
 refine AX (fun a w => ∃ x2 : Bool, some (x2) = some o2 ∧ Fr 17 [] [(2, .string (bs ([] : List UInt8))), (3, .int .i64 p0), (11, .bool x2)] a ∧ Stw ⟨Y, [], w0⟩ [] [] w) ?_ ?_
 ·
  have H := G2
  clear G2 K2
  refine Ah (Ac ?_)
  refine ls F W Aa (AP F Aa Aa).q fun a w F W => ?_
  refine ls F W Aa (Ad F Aa).q fun a w F W => ?_
  refine Ae (Ab ?_)
  refine Av F Aa (fun hb => ?_) fun hb => ?_
  ·
   have H := AF (A3 hb) H
   rw [hb] at F
   clear hb
   refine Ay (Ab ?_)
   exact ⟨_, H, F.re ⟨rfl, Aa, Aa, trivial⟩, W⟩
  have H := AG (A2 hb) H
  rw [hb] at F
  clear hb
  refine Ac ?_
  refine ls F W Aa (AP F Aa Aa).q fun a w F W => ?_
  refine ls F W Aa (Ad F Aa).q fun a w F W => ?_
  refine Ae (Ab ?_)
  exact ⟨_, H, F.re ⟨rfl, Aa, Aa, trivial⟩, W⟩
 rintro a w ⟨x2, hj, F, W⟩
 have hj := Bv hj
 subst hj
 have H := K2
 clear G2 K2
 refine Av F Aa (fun hb => ?_) fun hb => ?_
 ·
  have H := AF hb H
  rw [hb] at F
  clear hb
  refine Ah (Ac ?_)
  refine ls F W Aa (Ad (v := Value.string (bs ([73, 78] : List UInt8))) F Aa).q fun a w F W => ?_
  refine Ae (Ab (Aw (AB (AA ?_))))
  have H := Bv H
  subst H
  refine AO (.inl Aa) F W Aa (Au F Aa) ?_
  exact ⟨rfl, W.done⟩
 have H := AG (by rw [hb]; decide) H
 rw [hb] at F
 clear hb
 obtain ⟨o3, G3, K3⟩ := Ap H
 refine AX (fun a w => ∃ x3 : Bool, some (x3) = some o3 ∧ Fr 17 [] [(2, .string (bs ([] : List UInt8))), (14, .bool x3)] a ∧ Stw ⟨Y, [], w0⟩ [] [] w) ?_ ?_
 ·
  have H := G3
  clear G3 K3
  refine Ah (Ac ?_)
  refine ls F W Aa (AP F Aa Aa).q fun a w F W => ?_
  refine ls F W Aa (Ad F Aa).q fun a w F W => ?_
  refine Ae (Ab ?_)
  refine Av F Aa (fun hb => ?_) fun hb => ?_
  ·
   have H := AF (A3 hb) H
   rw [hb] at F
   clear hb
   refine Ay (Ab ?_)
   exact ⟨_, H, F.re ⟨rfl, Aa, trivial⟩, W⟩
  have H := AG (A2 hb) H
  rw [hb] at F
  clear hb
  refine Ac ?_
  refine ls F W Aa (AP F Aa Aa).q fun a w F W => ?_
  refine ls F W Aa (Ad F Aa).q fun a w F W => ?_
  refine Ae (Ab ?_)
  exact ⟨_, H, F.re ⟨rfl, Aa, trivial⟩, W⟩
 rintro a w ⟨x3, hj, F, W⟩
 have hj := Bv hj
 subst hj
 have H := K3
 clear G3 K3
 refine Av F Aa (fun hb => ?_) fun hb => ?_
 ·
  have H := AF hb H
  rw [hb] at F
  clear hb
  refine Ah (Ac ?_)
  refine ls F W Aa (Ad (v := Value.string (bs ([73] : List UInt8))) F Aa).q fun a w F W => ?_
  refine Ae (Ab (Aw (AB (AA ?_))))
  have H := Bv H
  subst H
  refine AO (.inl Aa) F W Aa (Au F Aa) ?_
  exact ⟨rfl, W.done⟩
 have H := AG (by rw [hb]; decide) H
 rw [hb] at F
 clear hb
 refine Ay (Bm (Ab (Ah (Ac ?_))))
 refine ls F W Aa (Ad (v := Value.string (bs ([] : List UInt8))) F Aa).q fun a w F W => ?_
 refine Ae (Ab (Aw ?_))
 have H := Bv H
 subst H
 refine AO (.inl Aa) F W Aa (Au F Aa) ?_
 exact ⟨rfl, W.done⟩
theorem IE : Has Tryd.prog 19 := ⟨fun args w => Ak Tryd.func19 rfl (by decide) args w⟩
theorem IR : Has Tryd.prog 34 := ⟨fun args w => Ak Tryd.func34 rfl (by decide) args w⟩
theorem MO : Tryd.prog.follows .mixedOrders = true := by kernel_rfl
theorem Iu : Has Tryd.prog 20 := ⟨fun args w => Ak Tryd.func20 rfl (by decide) args w⟩
noncomputable def Bu (p0 : Int × Int × Int) : Option Bool := (AL p0.1).bind fun x1 => (if (Ai p0.1) ≠ ([63] : List UInt8) then (if (-1) ≤ p0.2.1 then (if p0.2.1 ≤ 15 then (if (-1000) ≤ p0.2.2 then (if p0.2.2 ≤ 1048576 then (if p0.2.1 = 0 then (if p0.2.2 = 0 then some true else (BA x1 ([78] : List UInt8)).bind fun x3 => some x3) else (BA x1 ([73] : List UInt8)).bind fun x4 => (if x4 = true then (if p0.2.2 = 0 then some true else (BA x1 ([78] : List UInt8)).bind fun x5 => some x5) else some false)) else some false) else some false) else some false) else some false) else some false).bind fun x2 => some x2
theorem Dq (Y : Nat → Prop) (w0 : World)  (p0 : Int × Int × Int) (r : Bool) (H : Bu p0 = some r)  :
    Calls Tryd.prog 9 #[.agg #[.int .i64 p0.1, .int .i64 p0.2.1, .int .i64 p0.2.2]] w0 fun e w' => e = .returned (.bool r) ∧ Below w0.heap.size w0 w' := by
 refine enter Tryd.func9 Aa Tryd.ntmps9 Aa fun a F => ?_
 have W := Stw.start Y w0
 unfold Bu at H
 refine Ah (Ac ?_)
 refine FX (cs := [.int .i64 p0.1, .int .i64 p0.2.1, .int .i64 p0.2.2]) F W Aa Aa Aa fun b1 a w F W => ?_
 refine ls F W Aa (Ad F Aa).q fun a w F W => ?_
 refine Ae (Ab (Ah (Ac ?_)))
 refine ls F W Aa (Ao CQ Aa Aa Aa T3 F Aa 0 Aa).q fun a w F W => ?_
 refine ls F W Aa (AE (v := Value.int .i64 p0.1) 0 F Aa Aa T3 Aa).q fun a w F W => ?_
 obtain ⟨x1, h1, H⟩ := Ap H
 refine ls F W Aa (AM (v := Value.string (bs x1)) F IE Aa (fun w W => BQ any w p0.1 _ h1)) fun a w F W => ?_
 refine ls F W Aa (Ad F Aa).q fun a w F W => ?_
 refine Ae (Ab ?_)
 obtain ⟨o1, G1, K1⟩ := Ap H
 refine AX (fun a w => ∃ x2 : Bool, some (x2) = some o1 ∧ Fr 49 [] [(2, .bool x2)] a ∧ Stw ⟨Y, [], w0⟩ [(b1, [.int .i64 p0.1, .int .i64 p0.2.1, .int .i64 p0.2.2])] [] w) ?_ ?_
 ·
  have H := G1
  clear G1 K1
  refine Ac ?_
  refine ls F W Aa (Ao CQ Aa Aa Aa T3 F Aa 0 Aa).q fun a w F W => ?_
  refine ls F W Aa (AE (v := Value.int .i64 p0.1) 0 F Aa Aa T3 Aa).q fun a w F W => ?_
  refine ls F W Aa (AM (v := Value.string (bs (Ai p0.1))) F H6 Aa (fun w W => Cu any w p0.1 _ Aa)) fun a w F W => ?_
  refine ls F W Aa (Ij (l := (Ai p0.1)) (m := ([63] : List UInt8)) F Aa Aa).q fun a w F W => ?_
  refine ls F W Aa (Af F Aa).q fun a w F W => ?_
  rcases Bool.eq_false_or_eq_true (decide ((Ai p0.1) ≠ ([63] : List UInt8))) with hb | hb
  ·
   have H := AF (A3 hb) H
   rw [hb] at F
   clear hb
   refine As F W (Ag F Aa Aa Aa Aa) Aa (An Aa) (Ao CQ Aa Aa Aa T3 F Aa 1 Aa).q fun a w F W => ?_
   refine As F W (Ag F Aa Aa Aa Aa) Aa (An Aa) (AE (v := Value.int .i64 p0.2.1) 0 F Aa Aa T3 Aa).q fun a w F W => ?_
   refine As F W (Ag F Aa Aa Aa Aa) Aa (An Aa) (HN F Aa Aa).q fun a w F W => ?_
   refine ls F W Aa (Al F Aa Aa Aa).q fun a w F W => ?_
   refine ls F W Aa (Af F Aa).q fun a w F W => ?_
   rcases Bool.eq_false_or_eq_true (decide ((-1) ≤ p0.2.1)) with hb | hb
   ·
    have H := AF (A3 hb) H
    rw [hb] at F
    clear hb
    refine As F W (Ag F Aa Aa Aa Aa) Aa (An Aa) (Ao CQ Aa Aa Aa T3 F Aa 1 Aa).q fun a w F W => ?_
    refine As F W (Ag F Aa Aa Aa Aa) Aa (An Aa) (AE (v := Value.int .i64 p0.2.1) 0 F Aa Aa T3 Aa).q fun a w F W => ?_
    refine As F W (Ag F Aa Aa Aa Aa) Aa (An Aa) (Hg F Aa Aa).q fun a w F W => ?_
    refine ls F W Aa (Al F Aa Aa Aa).q fun a w F W => ?_
    refine ls F W Aa (Af F Aa).q fun a w F W => ?_
    rcases Bool.eq_false_or_eq_true (decide (p0.2.1 ≤ 15)) with hb | hb
    ·
     have H := AF (A3 hb) H
     rw [hb] at F
     clear hb
     refine As F W (Ag F Aa Aa Aa Aa) Aa (An Aa) (Ao CQ Aa Aa Aa T3 F Aa 2 Aa).q fun a w F W => ?_
     refine As F W (Ag F Aa Aa Aa Aa) Aa (An Aa) (AE (v := Value.int .i64 p0.2.2) 0 F Aa Aa T3 Aa).q fun a w F W => ?_
     refine As F W (Ag F Aa Aa Aa Aa) Aa (An Aa) (HN F Aa Aa).q fun a w F W => ?_
     refine ls F W Aa (Al F Aa Aa Aa).q fun a w F W => ?_
     refine ls F W Aa (Af F Aa).q fun a w F W => ?_
     rcases Bool.eq_false_or_eq_true (decide ((-1000) ≤ p0.2.2)) with hb | hb
     ·
      have H := AF (A3 hb) H
      rw [hb] at F
      clear hb
      refine As F W (Ag F Aa Aa Aa Aa) Aa (An Aa) (Ao CQ Aa Aa Aa T3 F Aa 2 Aa).q fun a w F W => ?_
      refine As F W (Ag F Aa Aa Aa Aa) Aa (An Aa) (AE (v := Value.int .i64 p0.2.2) 0 F Aa Aa T3 Aa).q fun a w F W => ?_
      refine As F W (Ag F Aa Aa Aa Aa) Aa (An Aa) (Hg F Aa Aa).q fun a w F W => ?_
      refine ls F W Aa (Al F Aa Aa Aa).q fun a w F W => ?_
      refine ls F W Aa (Af F Aa).q fun a w F W => ?_
      rcases Bool.eq_false_or_eq_true (decide (p0.2.2 ≤ 1048576)) with hb | hb
      ·
       have H := AF (A3 hb) H
       rw [hb] at F
       clear hb
       refine As F W (Ag F Aa Aa Aa Aa) Aa (An Aa) (Ao CQ Aa Aa Aa T3 F Aa 1 Aa).q fun a w F W => ?_
       refine As F W (Ag F Aa Aa Aa Aa) Aa (An Aa) (AE (v := Value.int .i64 p0.2.1) 0 F Aa Aa T3 Aa).q fun a w F W => ?_
       refine As F W (Ag F Aa Aa Aa Aa) Aa (An Aa) (AP F Aa Aa).q fun a w F W => ?_
       refine As F W (Ag F Aa Aa Aa Aa) Aa (An Aa) (Af F Aa).q fun a w F W => ?_
       rcases Bool.eq_false_or_eq_true (decide (p0.2.1 = 0)) with hb | hb
       ·
        have H := AF (A3 hb) H
        rw [hb] at F
        clear hb
        iterate 2 refine Bd F Aa Aa Aa Aa Aa Aa Aa fun a F => ?_
        refine As F W (Ag F Aa Aa Aa Aa) Aa (An Aa) (Al F Aa Aa Aa).q fun a w F W => ?_
        refine ls F W Aa (Al F Aa Aa Aa).q fun a w F W => ?_
        refine ls F W Aa (Af F Aa).q fun a w F W => ?_
        refine As F W (Ag F Aa Aa Aa Aa) Aa (An Aa) (Ao CQ Aa Aa Aa T3 F Aa 2 Aa).q fun a w F W => ?_
        refine As F W (Ag F Aa Aa Aa Aa) Aa (An Aa) (AE (v := Value.int .i64 p0.2.2) 0 F Aa Aa T3 Aa).q fun a w F W => ?_
        refine As F W (Ag F Aa Aa Aa Aa) Aa (An Aa) (AP F Aa Aa).q fun a w F W => ?_
        refine As F W (Ag F Aa Aa Aa Aa) Aa (An Aa) (Af F Aa).q fun a w F W => ?_
        rcases Bool.eq_false_or_eq_true (decide (p0.2.2 = 0)) with hb | hb
        ·
         have H := AF (A3 hb) H
         rw [hb] at F
         clear hb
         iterate 2 refine Bd F Aa Aa Aa Aa Aa Aa Aa fun a F => ?_
         refine As F W (Ag F Aa Aa Aa Aa) Aa (An Aa) (Al F Aa Aa Aa).q fun a w F W => ?_
         refine ls F W Aa (Al F Aa Aa Aa).q fun a w F W => ?_
         refine ls F W Aa (Ad F Aa).q fun a w F W => ?_
         refine Ae (Ab ?_)
         exact ⟨_, H, F.re ⟨rfl, trivial⟩, W⟩
        have H := AG (A2 hb) H
        rw [hb] at F
        clear hb
        refine As F W (Ag F Aa Aa Aa Aa) Aa (An Aa) (Af F Aa).q fun a w F W => ?_
        refine FJ (Ag F Aa Aa Aa Aa) ?_
        obtain ⟨x3, h2, H⟩ := Ap H
        refine ls F W Aa (AM (v := Value.bool x3) F Iu Aa (fun w W => Dn any w x1 ([78] : List UInt8) _ h2)) fun a w F W => ?_
        refine As F W (Ag F Aa Aa Aa Aa) Aa (An Aa) (Aj F Aa Aa Aa).q fun a w F W => ?_
        refine ls F W Aa (Al F Aa Aa Aa).q fun a w F W => ?_
        refine ls F W Aa (Ad F Aa).q fun a w F W => ?_
        refine Ae (Ab ?_)
        exact ⟨_, H, F.re ⟨rfl, trivial⟩, W⟩
       have H := AG (A2 hb) H
       rw [hb] at F
       clear hb
       refine As F W (Ag F Aa Aa Aa Aa) Aa (An Aa) (Af F Aa).q fun a w F W => ?_
       refine FJ (Ag F Aa Aa Aa Aa) ?_
       obtain ⟨x4, h3, H⟩ := Ap H
       refine ls F W Aa (AM (v := Value.bool x4) F Iu Aa (fun w W => Dn any w x1 ([73] : List UInt8) _ h3)) fun a w F W => ?_
       refine As F W (Ag F Aa Aa Aa Aa) Aa (An Aa) (Aj F Aa Aa Aa).q fun a w F W => ?_
       refine ls F W Aa (Al F Aa Aa Aa).q fun a w F W => ?_
       refine ls F W Aa (Af F Aa).q fun a w F W => ?_
       rcases Bool.eq_false_or_eq_true x4 with hb | hb
       ·
        have H := AF hb H
        rw [hb] at F
        clear hb
        refine As F W (Ag F Aa Aa Aa Aa) Aa (An Aa) (Ao CQ Aa Aa Aa T3 F Aa 2 Aa).q fun a w F W => ?_
        refine As F W (Ag F Aa Aa Aa Aa) Aa (An Aa) (AE (v := Value.int .i64 p0.2.2) 0 F Aa Aa T3 Aa).q fun a w F W => ?_
        refine As F W (Ag F Aa Aa Aa Aa) Aa (An Aa) (AP F Aa Aa).q fun a w F W => ?_
        refine As F W (Ag F Aa Aa Aa Aa) Aa (An Aa) (Af F Aa).q fun a w F W => ?_
        rcases Bool.eq_false_or_eq_true (decide (p0.2.2 = 0)) with hb | hb
        ·
         have H := AF (A3 hb) H
         rw [hb] at F
         clear hb
         iterate 2 refine Bd F Aa Aa Aa Aa Aa Aa Aa fun a F => ?_
         refine As F W (Ag F Aa Aa Aa Aa) Aa (An Aa) (Al F Aa Aa Aa).q fun a w F W => ?_
         refine ls F W Aa (Al F Aa Aa Aa).q fun a w F W => ?_
         refine ls F W Aa (Ad F Aa).q fun a w F W => ?_
         refine Ae (Ab ?_)
         exact ⟨_, H, F.re ⟨rfl, trivial⟩, W⟩
        have H := AG (A2 hb) H
        rw [hb] at F
        clear hb
        refine As F W (Ag F Aa Aa Aa Aa) Aa (An Aa) (Af F Aa).q fun a w F W => ?_
        refine FJ (Ag F Aa Aa Aa Aa) ?_
        obtain ⟨x5, h4, H⟩ := Ap H
        refine ls F W Aa (AM (v := Value.bool x5) F Iu Aa (fun w W => Dn any w x1 ([78] : List UInt8) _ h4)) fun a w F W => ?_
        refine As F W (Ag F Aa Aa Aa Aa) Aa (An Aa) (Aj F Aa Aa Aa).q fun a w F W => ?_
        refine ls F W Aa (Al F Aa Aa Aa).q fun a w F W => ?_
        refine ls F W Aa (Ad F Aa).q fun a w F W => ?_
        refine Ae (Ab ?_)
        exact ⟨_, H, F.re ⟨rfl, trivial⟩, W⟩
       have H := AG (by rw [hb]; decide) H
       rw [hb] at F
       clear hb
       iterate 4 refine Bd F Aa Aa Aa Aa Aa Aa Aa fun a F => ?_
       iterate 2 refine Hc F Aa Aa Aa Aa Aa Aa fun a F => ?_
       refine Bd F Aa Aa Aa Aa Aa Aa Aa fun a F => ?_
       refine ls F W Aa (Aj F Aa Aa Aa).q fun a w F W => ?_
       refine ls F W Aa (Ad F Aa).q fun a w F W => ?_
       refine Ae (Ab ?_)
       exact ⟨_, H, F.re ⟨rfl, trivial⟩, W⟩
      have H := AG (A2 hb) H
      rw [hb] at F
      clear hb
      iterate 4 refine Bd F Aa Aa Aa Aa Aa Aa Aa fun a F => ?_
      iterate 2 refine Hc F Aa Aa Aa Aa Aa Aa fun a F => ?_
      refine Bd F Aa Aa Aa Aa Aa Aa Aa fun a F => ?_
      refine ls F W Aa (Aj F Aa Aa Aa).q fun a w F W => ?_
      refine ls F W Aa (Af F Aa).q fun a w F W => ?_
      iterate 4 refine Bd F Aa Aa Aa Aa Aa Aa Aa fun a F => ?_
      iterate 2 refine Hc F Aa Aa Aa Aa Aa Aa fun a F => ?_
      refine Bd F Aa Aa Aa Aa Aa Aa Aa fun a F => ?_
      refine ls F W Aa (Aj F Aa Aa Aa).q fun a w F W => ?_
      refine ls F W Aa (Ad F Aa).q fun a w F W => ?_
      refine Ae (Ab ?_)
      exact ⟨_, H, F.re ⟨rfl, trivial⟩, W⟩
     have H := AG (A2 hb) H
     rw [hb] at F
     clear hb
     iterate 3 refine Bd F Aa Aa Aa Aa Aa Aa Aa fun a F => ?_
     refine ls F W Aa (Aj F Aa Aa Aa).q fun a w F W => ?_
     refine ls F W Aa (Af F Aa).q fun a w F W => ?_
     iterate 4 refine Bd F Aa Aa Aa Aa Aa Aa Aa fun a F => ?_
     iterate 2 refine Hc F Aa Aa Aa Aa Aa Aa fun a F => ?_
     refine Bd F Aa Aa Aa Aa Aa Aa Aa fun a F => ?_
     refine ls F W Aa (Aj F Aa Aa Aa).q fun a w F W => ?_
     refine ls F W Aa (Af F Aa).q fun a w F W => ?_
     iterate 4 refine Bd F Aa Aa Aa Aa Aa Aa Aa fun a F => ?_
     iterate 2 refine Hc F Aa Aa Aa Aa Aa Aa fun a F => ?_
     refine Bd F Aa Aa Aa Aa Aa Aa Aa fun a F => ?_
     refine ls F W Aa (Aj F Aa Aa Aa).q fun a w F W => ?_
     refine ls F W Aa (Ad F Aa).q fun a w F W => ?_
     refine Ae (Ab ?_)
     exact ⟨_, H, F.re ⟨rfl, trivial⟩, W⟩
    have H := AG (A2 hb) H
    rw [hb] at F
    clear hb
    iterate 3 refine Bd F Aa Aa Aa Aa Aa Aa Aa fun a F => ?_
    refine ls F W Aa (Aj F Aa Aa Aa).q fun a w F W => ?_
    refine ls F W Aa (Af F Aa).q fun a w F W => ?_
    iterate 3 refine Bd F Aa Aa Aa Aa Aa Aa Aa fun a F => ?_
    refine ls F W Aa (Aj F Aa Aa Aa).q fun a w F W => ?_
    refine ls F W Aa (Af F Aa).q fun a w F W => ?_
    iterate 4 refine Bd F Aa Aa Aa Aa Aa Aa Aa fun a F => ?_
    iterate 2 refine Hc F Aa Aa Aa Aa Aa Aa fun a F => ?_
    refine Bd F Aa Aa Aa Aa Aa Aa Aa fun a F => ?_
    refine ls F W Aa (Aj F Aa Aa Aa).q fun a w F W => ?_
    refine ls F W Aa (Af F Aa).q fun a w F W => ?_
    iterate 4 refine Bd F Aa Aa Aa Aa Aa Aa Aa fun a F => ?_
    iterate 2 refine Hc F Aa Aa Aa Aa Aa Aa fun a F => ?_
    refine Bd F Aa Aa Aa Aa Aa Aa Aa fun a F => ?_
    refine ls F W Aa (Aj F Aa Aa Aa).q fun a w F W => ?_
    refine ls F W Aa (Ad F Aa).q fun a w F W => ?_
    refine Ae (Ab ?_)
    exact ⟨_, H, F.re ⟨rfl, trivial⟩, W⟩
   have H := AG (A2 hb) H
   rw [hb] at F
   clear hb
   iterate 3 refine Bd F Aa Aa Aa Aa Aa Aa Aa fun a F => ?_
   refine ls F W Aa (Aj F Aa Aa Aa).q fun a w F W => ?_
   refine ls F W Aa (Af F Aa).q fun a w F W => ?_
   iterate 3 refine Bd F Aa Aa Aa Aa Aa Aa Aa fun a F => ?_
   refine ls F W Aa (Aj F Aa Aa Aa).q fun a w F W => ?_
   refine ls F W Aa (Af F Aa).q fun a w F W => ?_
   iterate 3 refine Bd F Aa Aa Aa Aa Aa Aa Aa fun a F => ?_
   refine ls F W Aa (Aj F Aa Aa Aa).q fun a w F W => ?_
   refine ls F W Aa (Af F Aa).q fun a w F W => ?_
   iterate 4 refine Bd F Aa Aa Aa Aa Aa Aa Aa fun a F => ?_
   iterate 2 refine Hc F Aa Aa Aa Aa Aa Aa fun a F => ?_
   refine Bd F Aa Aa Aa Aa Aa Aa Aa fun a F => ?_
   refine ls F W Aa (Aj F Aa Aa Aa).q fun a w F W => ?_
   refine ls F W Aa (Af F Aa).q fun a w F W => ?_
   iterate 4 refine Bd F Aa Aa Aa Aa Aa Aa Aa fun a F => ?_
   iterate 2 refine Hc F Aa Aa Aa Aa Aa Aa fun a F => ?_
   refine Bd F Aa Aa Aa Aa Aa Aa Aa fun a F => ?_
   refine ls F W Aa (Aj F Aa Aa Aa).q fun a w F W => ?_
   refine ls F W Aa (Ad F Aa).q fun a w F W => ?_
   refine Ae (Ab ?_)
   exact ⟨_, H, F.re ⟨rfl, trivial⟩, W⟩
  have H := AG (A2 hb) H
  rw [hb] at F
  clear hb
  iterate 3 refine Bd F Aa Aa Aa Aa Aa Aa Aa fun a F => ?_
  refine ls F W Aa (Aj F Aa Aa Aa).q fun a w F W => ?_
  refine ls F W Aa (Af F Aa).q fun a w F W => ?_
  iterate 3 refine Bd F Aa Aa Aa Aa Aa Aa Aa fun a F => ?_
  refine ls F W Aa (Aj F Aa Aa Aa).q fun a w F W => ?_
  refine ls F W Aa (Af F Aa).q fun a w F W => ?_
  iterate 3 refine Bd F Aa Aa Aa Aa Aa Aa Aa fun a F => ?_
  refine ls F W Aa (Aj F Aa Aa Aa).q fun a w F W => ?_
  refine ls F W Aa (Af F Aa).q fun a w F W => ?_
  iterate 3 refine Bd F Aa Aa Aa Aa Aa Aa Aa fun a F => ?_
  refine ls F W Aa (Aj F Aa Aa Aa).q fun a w F W => ?_
  refine ls F W Aa (Af F Aa).q fun a w F W => ?_
  iterate 4 refine Bd F Aa Aa Aa Aa Aa Aa Aa fun a F => ?_
  iterate 2 refine Hc F Aa Aa Aa Aa Aa Aa fun a F => ?_
  refine Bd F Aa Aa Aa Aa Aa Aa Aa fun a F => ?_
  refine ls F W Aa (Aj F Aa Aa Aa).q fun a w F W => ?_
  refine ls F W Aa (Af F Aa).q fun a w F W => ?_
  iterate 4 refine Bd F Aa Aa Aa Aa Aa Aa Aa fun a F => ?_
  iterate 2 refine Hc F Aa Aa Aa Aa Aa Aa fun a F => ?_
  refine Bd F Aa Aa Aa Aa Aa Aa Aa fun a F => ?_
  refine ls F W Aa (Aj F Aa Aa Aa).q fun a w F W => ?_
  refine ls F W Aa (Ad F Aa).q fun a w F W => ?_
  refine Ae (Ab ?_)
  exact ⟨_, H, F.re ⟨rfl, trivial⟩, W⟩
 rintro a w ⟨x2, hj, F, W⟩
 have hj := Bv hj
 subst hj
 have H := K1
 clear G1 K1
 refine Aw ?_
 have H := Bv H
 subst H
 refine AO (.inl Aa) F W Aa (Au F Aa) ?_
 exact ⟨rfl, W.done⟩
theorem HE : type_of% Tryd.underlying9 := Tryd.underlying9
theorem H9 : Has Tryd.prog 9 := ⟨fun args w => Ak Tryd.func9 rfl (by decide) args w⟩
theorem I8 : Has Tryd.prog 23 := ⟨fun args w => Ak Tryd.func23 rfl (by decide) args w⟩
noncomputable def AU (p0 : Int × Int × Int) (x2 : List UInt8) : (List UInt8 × Int) → Option ((List UInt8 × Int) ⊕ (List UInt8))
  | (x4, x5) => (if x5 < (x2.length : Int) then ((ix x2 x5).bind fun x7 => (if (x7.toNat : Int) = 73 then some p0.2.1 else some p0.2.2)).bind fun x6 => (Fu x6).bind fun x8 => (CR ([32] : List UInt8) x8).bind fun x9 => (CR x4 x9).bind fun x10 => some (.inl (x10, CF (x5 + 1))) else some (.inr x4))
noncomputable def AY (p0 : Int × Int × Int) : Option (List UInt8) := (Bu p0).bind fun x1 => (if (!x1) = true then some ([] : List UInt8) else (AL p0.1).bind fun x2 => (AD (AU p0 x2) ((Ai p0.1), 0)).bind fun x3 => some x3)
theorem Ct (Y : Nat → Prop) (w0 : World)  (p0 : Int × Int × Int) (r : List UInt8) (H : AY p0 = some r) (hG : Gk [] w0) :
    Calls Tryd.prog 11 #[.agg #[.int .i64 p0.1, .int .i64 p0.2.1, .int .i64 p0.2.2]] w0 fun e w' => e = .returned (.string (bs r)) ∧ Below w0.heap.size w0 w' := by
 refine enter Tryd.func11 Aa Tryd.ntmps11 Aa fun a F => ?_
 have W := Stw.start Y w0
 unfold AY at H
 refine Ah (Ac ?_)
 refine FX (cs := [.int .i64 p0.1, .int .i64 p0.2.1, .int .i64 p0.2.2]) F W Aa Aa Aa fun b1 a w F W => ?_
 refine ls F W Aa (Ad (v := Value.string (bs ([] : List UInt8))) F Aa).q fun a w F W => ?_
 refine Ae (Ab (Ah (Ah (Ac ?_))))
 refine ls F W Aa (AE (v := Value.agg #[.int .i64 p0.1, .int .i64 p0.2.1, .int .i64 p0.2.2]) 0 F Aa Aa Ev Aa).q fun a w F W => ?_
 obtain ⟨x1, h1, H⟩ := Ap H
 refine ls F W Aa (AM (v := Value.bool x1) F H9 Aa (fun w W => Dq any w p0 _ h1)) fun a w F W => ?_
 refine ls F W Aa (Fc F Aa).q fun a w F W => ?_
 refine Ae (Ab ?_)
 refine Av F Aa (fun hb => ?_) fun hb => ?_
 ·
  have H := AF hb H
  rw [hb] at F
  clear hb
  refine Ah (Ac ?_)
  refine ls F W Aa (Ad (v := Value.string (bs ([] : List UInt8))) F Aa).q fun a w F W => ?_
  refine Ae (Ab (Aw (AA ?_)))
  have H := Bv H
  subst H
  refine AO (.inl Aa) F W Aa (Au F Aa) ?_
  exact ⟨rfl, W.done⟩
 have H := AG (by rw [hb]; decide) H
 rw [hb] at F
 clear hb
 refine Ay (Ab (Ah (Ac ?_)))
 refine ls F W Aa (Ao CQ Aa Aa Aa T3 F Aa 0 Aa).q fun a w F W => ?_
 refine ls F W Aa (AE (v := Value.int .i64 p0.1) 0 F Aa Aa T3 Aa).q fun a w F W => ?_
 refine ls F W Aa (AM (v := Value.string (bs (Ai p0.1))) F H6 Aa (fun w W => Cu any w p0.1 _ Aa)) fun a w F W => ?_
 refine ls F W Aa (Ad F Aa).q fun a w F W => ?_
 refine Ae (Ab (Ah (Ac ?_)))
 refine ls F W Aa (Ao CQ Aa Aa Aa T3 F Aa 0 Aa).q fun a w F W => ?_
 refine ls F W Aa (AE (v := Value.int .i64 p0.1) 0 F Aa Aa T3 Aa).q fun a w F W => ?_
 obtain ⟨x2, h2, H⟩ := Ap H
 refine ls F W Aa (AM (v := Value.string (bs x2)) F IE Aa (fun w W => BQ any w p0.1 _ h2)) fun a w F W => ?_
 refine ls F W Aa (Ad F Aa).q fun a w F W => ?_
 refine Ae (Ab ?_)
 obtain ⟨o1, G1, K1⟩ := Ap H
 refine AX (fun a w => ∃ x3 : List UInt8, some (x3) = some o1 ∧ Fr 36 [] [(2, .string (bs ([] : List UInt8))), (3, .string (bs x3))] a ∧ Stw ⟨Y, [], w0⟩ [(b1, [.int .i64 p0.1, .int .i64 p0.2.1, .int .i64 p0.2.2])] [] w) ?_ ?_
 ·
  have H := G1
  clear G1 K1
  refine Ah (Ac ?_)
  refine ls F W Aa (Af F Aa).q fun a w F W => ?_
  refine ls F W Aa (Eu (l := x2) HE Aa F Aa).q fun a w F W => ?_
  refine ls F W Aa (Af F Aa).q fun a w F W => ?_
  refine Ae (Ab (AK ?_))
  refine B8 H (fun s a w => Fr 36 [] [(1, .pointer (some ⟨b1, 0, none⟩)), (2, .string (bs ([] : List UInt8))), (3, .string (bs s.1)), (4, .string (bs x2)), (17, .int .i64 (x2.length : Int)), (18, .int .i64 s.2)] a ∧ Stw ⟨Y, [], w0⟩ [(b1, [.int .i64 p0.1, .int .i64 p0.2.1, .int .i64 p0.2.2])] [] w) ⟨F.re ⟨rfl, Aa, Aa, Aa, Aa, Aa, trivial⟩, W⟩ fun s o a w H L2 hR => ?_
  obtain ⟨x4, x5⟩ := s
  obtain ⟨F, W⟩ := hR
  have F : Fr 36 [] [(1, .pointer (some ⟨b1, 0, none⟩)), (2, .string (bs ([] : List UInt8))), (3, .string (bs x4)), (4, .string (bs x2)), (17, .int .i64 (x2.length : Int)), (18, .int .i64 x5)] a := F
  have W : Stw ⟨Y, [], w0⟩ [(b1, [.int .i64 p0.1, .int .i64 p0.2.1, .int .i64 p0.2.2])] [] w := W
  rw [AU] at H
  refine Ah (Ac ?_)
  refine ls F W Aa (CO F Aa Aa).q fun a w F W => ?_
  refine Ae (Ab (Ah ?_))
  refine Av F Aa (fun hb => ?_) fun hb => ?_
  ·
   have H := AF (A3 hb) H
   rw [hb] at F
   clear hb
   refine Ay (Ab (Ah (AK (Ah (Ac ?_)))))
   refine ls F W Aa (Af F Aa).q fun a w F W => ?_
   refine ls F W Aa (Ad F Aa).q fun a w F W => ?_
   refine Ae (Ab (Ah (Ac ?_)))
   refine ls F W Aa (Ao CQ Aa Aa Aa T3 F Aa 2 Aa).q fun a w F W => ?_
   refine ls F W Aa (AE (v := Value.int .i64 p0.2.2) 0 F Aa Aa T3 Aa).q fun a w F W => ?_
   refine ls F W Aa (Ad F Aa).q fun a w F W => ?_
   refine Ae (Ab ?_)
   obtain ⟨o3, G3, K3⟩ := Ap H
   refine AX (fun a w => ∃ x6 : Int, some (x6) = some o3 ∧ Fr 36 [] [(1, .pointer (some ⟨b1, 0, none⟩)), (2, .string (bs ([] : List UInt8))), (3, .string (bs x4)), (4, .string (bs x2)), (6, .int .i64 x6), (17, .int .i64 (x2.length : Int)), (18, .int .i64 x5)] a ∧ Stw ⟨Y, [], w0⟩ [(b1, [.int .i64 p0.1, .int .i64 p0.2.1, .int .i64 p0.2.2])] [] w) ?_ ?_
   ·
    have H := G3
    clear G3 K3
    refine Ah (Ac ?_)
    iterate 2 refine ls F W Aa (Af F Aa).q fun a w F W => ?_
    obtain ⟨x7, h3, H⟩ := Ap H
    refine ls F W Aa (Dz (l := x2) HE F Aa Aa h3).q fun a w F W => ?_
    refine ls F W Aa (AP F Aa Aa).q fun a w F W => ?_
    refine Ae (Ab ?_)
    refine Av F Aa (fun hb => ?_) fun hb => ?_
    ·
     have H := AF (A3 hb) H
     rw [hb] at F
     clear hb
     refine Ac ?_
     refine ls F W Aa (Ao CQ Aa Aa Aa T3 F Aa 1 Aa).q fun a w F W => ?_
     refine ls F W Aa (AE (v := Value.int .i64 p0.2.1) 0 F Aa Aa T3 Aa).q fun a w F W => ?_
     refine ls F W Aa (Ad F Aa).q fun a w F W => ?_
     refine Ae (Ab ?_)
     exact ⟨_, H, F.re ⟨rfl, Aa, Aa, Aa, Aa, Aa, Aa, trivial⟩, W⟩
    have H := AG (A2 hb) H
    rw [hb] at F
    clear hb
    refine Ay (Ab ?_)
    exact ⟨_, H, F.re ⟨rfl, Aa, Aa, Aa, Aa, Aa, Aa, trivial⟩, W⟩
   rintro a w ⟨x6, hj, F, W⟩
   have hj := Bv hj
   subst hj
   have H := K3
   clear G3 K3
   refine Ac ?_
   iterate 2 refine ls F W Aa (Af F Aa).q fun a w F W => ?_
   obtain ⟨x8, h4, H⟩ := Ap H
   refine ls F W Aa (AM (v := Value.string (bs x8)) F I8 Aa (fun w W => HT any w x6 _ h4 (hG.go0 W))) fun a w F W => ?_
   obtain ⟨x9, h5, H⟩ := Ap H
   refine ls F W Aa (C0 (l := ([32] : List UInt8)) (m := x8) F Aa Aa h5).q fun a w F W => ?_
   obtain ⟨x10, h6, H⟩ := Ap H
   refine ls F W Aa (C0 (l := x4) (m := x9) F Aa Aa h6).q fun a w F W => ?_
   refine ls F W Aa (Ad F Aa).q fun a w F W => ?_
   refine Ae (Bm (Ab (Ac ?_)))
   refine ls F W Aa (CL F Aa Aa Aa).q fun a w F W => ?_
   refine ls F W Aa (Af F Aa).q fun a w F W => ?_
   refine Ae (Ab ?_)
   exact ⟨_, H, F.re ⟨rfl, Aa, Aa, Aa, Aa, Aa, trivial⟩, W⟩
  have H := AG (A2 hb) H
  rw [hb] at F
  clear hb
  refine BU ?_
  iterate 2 refine Cq ?_
  refine BW (Ab ?_)
  have H := L2 _ H
  exact ⟨_, H, F.re ⟨rfl, Aa, trivial⟩, W⟩
 rintro a w ⟨x3, hj, F, W⟩
 have hj := Bv hj
 subst hj
 have H := K1
 clear G1 K1
 refine Ah (Ac ?_)
 refine ls F W Aa (Af F Aa).q fun a w F W => ?_
 refine ls F W Aa (Ad F Aa).q fun a w F W => ?_
 refine Ae (Ab (Aw ?_))
 have H := Bv H
 subst H
 refine AO (.inl Aa) F W Aa (Au F Aa) ?_
 exact ⟨rfl, W.done⟩
theorem Id : type_of% Tryd.underlying58 := Tryd.underlying58
theorem IH : Has Tryd.prog 11 := ⟨fun args w => Ak Tryd.func11 rfl (by decide) args w⟩
noncomputable def Am (x1 : List (List UInt8)) (x4 : List UInt8) : (Int × Int × Int) → Option ((Int × Int × Int) ⊕ ((Int × Int) ⊕ ((Int × Int × Int) × Bool)))
  | (x7, x8, x9) => (if x7 < (x4.length : Int) then Ez ((ix x1 (CF (x7 + 1))).bind fun x12 => (Fb x12).bind fun x13 => FB x13 (fun x14 => (ix x4 x7).bind fun x16 => (if (x16.toNat : Int) = 73 then some (.inl (x14, x9)) else some (.inl (x8, x14)))) (fun x15 => some (.inr (.inr (.inr ((0, 0, 0), false)))))) fun (x10, x11) => some (.inl (CF (x7 + 1), x10, x11)) else some (.inr (.inl (x8, x9))))
noncomputable def AH (p0 : List UInt8) : Option ((Int × Int × Int) × Bool) := (CS p0 ([32] : List UInt8)).bind fun x1 => (ix x1 0).bind fun x2 => (Bn x2).bind fun x3 => (AL x3).bind fun x4 => (if (x1.length : Int) ≠ (CF (1 + (x4.length : Int))) then some ((0, 0, 0), false) else Ez (AD (Am x1 x4) (0, 0, 0)) fun (x5, x6) => (AY (x3, x5, x6)).bind fun x17 => some ((x3, x5, x6), decide (x17 = p0)))
theorem Di (Y : Nat → Prop) (w0 : World)  (p0 : List UInt8) (r : (Int × Int × Int) × Bool) (H : AH p0 = some r) (hG : Gk [] w0) :
    Calls Tryd.prog 26 #[.string (bs p0)] w0 fun e w' => e = .returned (.tuple #[.agg #[.int .i64 r.1.1, .int .i64 r.1.2.1, .int .i64 r.1.2.2], .bool r.2]) ∧ Below w0.heap.size w0 w' := by
 refine enter Tryd.func26 Aa Tryd.ntmps26 Aa fun a F => ?_
 have W := Stw.start Y w0
 unfold AH at H
 refine Ah (Ac ?_)
 refine Dx (cs := [.int .i64 0, .int .i64 0, .int .i64 0]) F W Aa HQ Aa fun b1 a w F W => ?_
 refine ls F W Aa (Ad F Aa).q fun a w F W => ?_
 refine Ae (Ab (Ah (Ac ?_)))
 refine ls F W Aa (Af F Aa).q fun a w F W => ?_
 obtain ⟨x1, h1, H⟩ := Ap H
 refine BC (Ml := []) (Zl := []) (M := [(b1, [.int .i64 0, .int .i64 0, .int .i64 0])]) (Z := []) (β := Value) (rv := fun x => x) (MM := fun x => []) (ZZ := fun x => [row x 9 Rp.str x1]) F W IQ Aa Aa (fun hL => F2 _ w p0 ([32] : List UInt8) _ h1 (hG.go0 W)) fun x a w F W => ?_
 obtain ⟨v1, rfl⟩ : ∃ y, y = x := ⟨x, rfl⟩
 have W : Stw ⟨Y, [], w0⟩ [(b1, [.int .i64 0, .int .i64 0, .int .i64 0])] [row v1 9 Rp.str x1] w := W
 refine ls F W Aa (Ad F Aa).q fun a w F W => ?_
 refine Ae (Ab (Ah (Ac ?_)))
 refine ls F W Aa (Af F Aa).q fun a w F W => ?_
 obtain ⟨x2, h2, H⟩ := Ap H
 refine ls F W Aa (BZ (r := Rp.str) IF F Aa Aa (AV 0 Aa) h2).q fun a w F W => ?_
 refine ls F W Aa (Bo (y := Value.string (bs x2)) (j := 0) (i := 0) F Aa Aa (AV 0 Aa) h2 Fl.str.to T9 Aa).q fun a w F W => ?_
 obtain ⟨x3, h3, H⟩ := Ap H
 refine ls F W Aa (AM (v := Value.int .i64 x3) F I3 Aa (fun w W => DO any w x2 _ h3)) fun a w F W => ?_
 refine ls F W Aa (Du (v := Value.agg #[.int .i64 x3, .int .i64 0, .int .i64 0]) Il F Aa Aa Aa).q fun a w F W => ?_
 refine Dx (cs := [.int .i64 0, .int .i64 0, .int .i64 0]) F W Aa HQ Aa fun b2 a w F W => ?_
 refine Cc (vs := [.int .i64 x3, .int .i64 0, .int .i64 0]) (M' := [(b2, [.int .i64 x3, .int .i64 0, .int .i64 0]), (b1, [.int .i64 0, .int .i64 0, .int .i64 0])]) 0 F W Aa Aa Aa Ev Aa Aa Aa Aa Aa fun w W => ?_
 refine Ae (Ab (Ah (Ac ?_)))
 refine ls F W Aa (Ao CQ Aa Aa Aa T3 F Aa 0 Aa).q fun a w F W => ?_
 refine ls F W Aa (AE (v := Value.int .i64 x3) 0 F Aa Aa T3 Aa).q fun a w F W => ?_
 obtain ⟨x4, h4, H⟩ := Ap H
 refine ls F W Aa (AM (v := Value.string (bs x4)) F IE Aa (fun w W => BQ any w x3 _ h4)) fun a w F W => ?_
 refine ls F W Aa (Ad F Aa).q fun a w F W => ?_
 refine Ae (Ab (Ah (Ah (Ac ?_))))
 refine ls F W Aa (Af F Aa).q fun a w F W => ?_
 refine ls F W Aa (CV (r := Rp.str) (l := x1) HY Aa F Aa (AV 0 Aa)).q fun a w F W => ?_
 refine ls F W Aa (Af F Aa).q fun a w F W => ?_
 refine ls F W Aa (Eu (l := x4) HE Aa F Aa).q fun a w F W => ?_
 refine ls F W Aa (CL F Aa Aa Aa).q fun a w F W => ?_
 refine ls F W Aa (EJ F Aa Aa).q fun a w F W => ?_
 refine Ae (Ab ?_)
 refine Av F Aa (fun hb => ?_) fun hb => ?_
 ·
  have H := AF (A3 hb) H
  rw [hb] at F
  clear hb
  refine Ah (Ac ?_)
  refine ls F W Aa (Du (v := Value.agg #[.int .i64 0, .int .i64 0, .int .i64 0]) Il F Aa Aa Aa).q fun a w F W => ?_
  refine Cc (vs := [.int .i64 0, .int .i64 0, .int .i64 0]) (M' := [(b2, [.int .i64 x3, .int .i64 0, .int .i64 0]), (b1, [.int .i64 0, .int .i64 0, .int .i64 0])]) 1 F W Aa Aa Aa Ev Aa Aa Aa Aa Aa fun w W => ?_
  refine ls F W Aa (Ad F Aa).q fun a w F W => ?_
  refine Ae (Ab (Aw (AA ?_)))
  have H := Bv H
  subst H
  refine Hk (.inl Aa) F W Aa (DW 1 F Aa Aa Ev Aa) (Au F Aa) ?_
  exact ⟨rfl, W.done⟩
 have H := AG (A2 hb) H
 rw [hb] at F
 clear hb
 refine Ay (Ab ?_)
 obtain ⟨o1, G1, K1, L1⟩ := Hq H
 refine AX (fun a w => ∃ x5 : Int, ∃ x6 : Int, some (Sum.inl (x5, x6)) = some o1 ∧ Fr 58 [] [(0, .string (bs p0)), (2, .pointer (some ⟨b1, 0, none⟩)), (3, .bool false), (5, .pointer (some ⟨b2, 0, none⟩))] a ∧ Stw ⟨Y, [], w0⟩ [(b2, [.int .i64 x3, .int .i64 x5, .int .i64 x6]), (b1, [.int .i64 0, .int .i64 0, .int .i64 0])] [] w) ?_ ?_
 ·
  have H := G1
  clear G1 K1
  refine Ah (Ac ?_)
  refine ls F W Aa (Af F Aa).q fun a w F W => ?_
  refine ls F W Aa (Eu (l := x4) HE Aa F Aa).q fun a w F W => ?_
  refine ls F W Aa (Af F Aa).q fun a w F W => ?_
  refine Ae (Ab (AK ?_))
  have W := W.frontM (i := 1) Aa Aa
  have W := W.frontM (i := 1) Aa Aa
  refine B8 H (fun s a w => Fr 58 [] [(0, .string (bs p0)), (2, .pointer (some ⟨b1, 0, none⟩)), (3, .bool false), (4, v1), (5, .pointer (some ⟨b2, 0, none⟩)), (6, .string (bs x4)), (28, .int .i64 (x4.length : Int)), (29, .int .i64 s.1)] a ∧ Stw ⟨Y, [], w0⟩ [(b2, [.int .i64 x3, .int .i64 s.2.1, .int .i64 s.2.2]), (b1, [.int .i64 0, .int .i64 0, .int .i64 0])] [row v1 9 Rp.str x1] w) ⟨F.re ⟨rfl, Aa, Aa, Aa, Aa, Aa, Aa, Aa, trivial⟩, W⟩ fun s o a w H L2 hR => ?_
  obtain ⟨x7, x8, x9⟩ := s
  obtain ⟨F, W⟩ := hR
  have F : Fr 58 [] [(0, .string (bs p0)), (2, .pointer (some ⟨b1, 0, none⟩)), (3, .bool false), (4, v1), (5, .pointer (some ⟨b2, 0, none⟩)), (6, .string (bs x4)), (28, .int .i64 (x4.length : Int)), (29, .int .i64 x7)] a := F
  have W : Stw ⟨Y, [], w0⟩ [(b2, [.int .i64 x3, .int .i64 x8, .int .i64 x9]), (b1, [.int .i64 0, .int .i64 0, .int .i64 0])] [row v1 9 Rp.str x1] w := W
  rw [Am] at H
  refine Ah (Ac ?_)
  refine ls F W Aa (CO F Aa Aa).q fun a w F W => ?_
  refine Ae (Ab (Ah ?_))
  refine Av F Aa (fun hb => ?_) fun hb => ?_
  ·
   have H := AF (A3 hb) H
   rw [hb] at F
   clear hb
   refine Ay (Ab ?_)
   obtain ⟨o3, G3, K3, L3⟩ := Hq H
   refine AX (fun a w => ∃ x10 : Int, ∃ x11 : Int, some (Sum.inl (x10, x11)) = some o3 ∧ Fr 58 [] [(0, .string (bs p0)), (2, .pointer (some ⟨b1, 0, none⟩)), (3, .bool false), (4, v1), (5, .pointer (some ⟨b2, 0, none⟩)), (6, .string (bs x4)), (28, .int .i64 (x4.length : Int)), (29, .int .i64 x7)] a ∧ Stw ⟨Y, [], w0⟩ [(b2, [.int .i64 x3, .int .i64 x10, .int .i64 x11]), (b1, [.int .i64 0, .int .i64 0, .int .i64 0])] [row v1 9 Rp.str x1] w) ?_ ?_
   ·
    have H := G3
    clear G3 K3
    refine AK (Ah (Ac ?_))
    refine ls F W Aa (Af F Aa).q fun a w F W => ?_
    refine ls F W Aa (Ad F Aa).q fun a w F W => ?_
    refine Ae (Ab (Ah (Ac ?_)))
    iterate 2 refine ls F W Aa (Af F Aa).q fun a w F W => ?_
    refine ls F W Aa (CL F Aa Aa Aa).q fun a w F W => ?_
    obtain ⟨x12, h5, H⟩ := Ap H
    refine ls F W Aa (BZ (r := Rp.str) IF F Aa Aa (AV 0 Aa) h5).q fun a w F W => ?_
    refine ls F W Aa (Bo (y := Value.string (bs x12)) (j := 0) (i := CF (x7 + 1)) F Aa Aa (AV 0 Aa) h5 Fl.str.to T9 Aa).q fun a w F W => ?_
    obtain ⟨x13, h6, H⟩ := Ap H
    rcases x13 with x14 | x15
    ·
     have H := IC H
     refine BC (Ml := []) (Zl := []) (M := [(b2, [.int .i64 x3, .int .i64 x8, .int .i64 x9]), (b1, [.int .i64 0, .int .i64 0, .int .i64 0])]) (Z := [row v1 9 Rp.str x1]) (β := Unit) (rv := fun x => .tuple #[.int .i64 x14, .nilIface]) (MM := fun x => []) (ZZ := fun x => []) F W IR Aa Aa (fun hL => Hn _ w x12 _ h6 (hG.go0 W)) fun x a w F W => ?_
     have W : Stw ⟨Y, [], w0⟩ [(b2, [.int .i64 x3, .int .i64 x8, .int .i64 x9]), (b1, [.int .i64 0, .int .i64 0, .int .i64 0])] [row v1 9 Rp.str x1] w := W
     refine ls F W Aa (Af F Aa).q fun a w F W => ?_
     refine ls F W Aa (AR (v := Value.int .i64 x14) F Aa Aa).q fun a w F W => ?_
     refine ls F W Aa (AR (v := Value.nilIface) F Aa Aa).q fun a w F W => ?_
     iterate 2 refine ls F W Aa (Ad F Aa).q fun a w F W => ?_
     refine Ae (Ab (Ah (Ah (Ac ?_))))
     refine ls F W Aa (Af F Aa).q fun a w F W => ?_
     refine ls F W Aa (E2 Id F Aa).q fun a w F W => ?_
     refine Ae (Ab ?_)
     refine Hm F Aa ?_
     refine Ay (Ab (Ah (Ac ?_)))
     iterate 2 refine ls F W Aa (Af F Aa).q fun a w F W => ?_
     obtain ⟨x16, h7, H⟩ := Ap H
     refine ls F W Aa (Dz (l := x4) HE F Aa Aa h7).q fun a w F W => ?_
     refine ls F W Aa (AP F Aa Aa).q fun a w F W => ?_
     refine Ae (Ab ?_)
     refine Av F Aa (fun hb => ?_) fun hb => ?_
     ·
      have H := AF (A3 hb) H
      rw [hb] at F
      clear hb
      refine Ac ?_
      refine ls F W Aa (Af F Aa).q fun a w F W => ?_
      refine ls F W Aa (Ao CQ Aa Aa Aa T3 F Aa 1 Aa).q fun a w F W => ?_
      refine Cc (vs := [.int .i64 x14]) (M' := [(b2, [.int .i64 x3, .int .i64 x14, .int .i64 x9]), (b1, [.int .i64 0, .int .i64 0, .int .i64 0])]) 0 F W Aa Aa Aa T3 Aa Aa Aa Aa Aa fun w W => ?_
      refine Ae (Bm (Ab ?_))
      have W := W.frontM (i := 1) Aa Aa
      have W := W.frontM (i := 1) Aa Aa
      exact ⟨_, _, H, F.re ⟨rfl, Aa, Aa, Aa, Aa, Aa, Aa, Aa, trivial⟩, W⟩
     have H := AG (A2 hb) H
     rw [hb] at F
     clear hb
     refine Ac ?_
     refine ls F W Aa (Af F Aa).q fun a w F W => ?_
     refine ls F W Aa (Ao CQ Aa Aa Aa T3 F Aa 2 Aa).q fun a w F W => ?_
     refine Cc (vs := [.int .i64 x14]) (M' := [(b2, [.int .i64 x3, .int .i64 x8, .int .i64 x14]), (b1, [.int .i64 0, .int .i64 0, .int .i64 0])]) 0 F W Aa Aa Aa T3 Aa Aa Aa Aa Aa fun w W => ?_
     refine Ae (Bm (Ab ?_))
     have W := W.frontM (i := 1) Aa Aa
     have W := W.frontM (i := 1) Aa Aa
     exact ⟨_, _, H, F.re ⟨rfl, Aa, Aa, Aa, Aa, Aa, Aa, Aa, trivial⟩, W⟩
    have H := Ix H
    refine BC (Ml := []) (Zl := []) (M := [(b2, [.int .i64 x3, .int .i64 x8, .int .i64 x9]), (b1, [.int .i64 0, .int .i64 0, .int .i64 0])]) (Z := [row v1 9 Rp.str x1]) (β := Nat) (rv := fun x => .tuple #[.int .i64 x15, .iface 87 (.pointer (some ⟨x, 0, none⟩))]) (MM := fun x => []) (ZZ := fun x => []) F W IR Aa Aa (fun hL => Hn _ w x12 _ h6 (hG.go0 W)) fun x a w F W => ?_
    obtain ⟨b3, rfl⟩ : ∃ y, y = x := ⟨x, rfl⟩
    have W : Stw ⟨Y, [], w0⟩ [(b2, [.int .i64 x3, .int .i64 x8, .int .i64 x9]), (b1, [.int .i64 0, .int .i64 0, .int .i64 0])] [row v1 9 Rp.str x1] w := W
    refine ls F W Aa (Af F Aa).q fun a w F W => ?_
    refine ls F W Aa (AR (v := Value.int .i64 x15) F Aa Aa).q fun a w F W => ?_
    refine ls F W Aa (AR (v := Value.iface 87 (.pointer (some ⟨b3, 0, none⟩))) F Aa Aa).q fun a w F W => ?_
    iterate 2 refine ls F W Aa (Ad F Aa).q fun a w F W => ?_
    refine Ae (Ab (Ah (Ah (Ac ?_))))
    refine ls F W Aa (Af F Aa).q fun a w F W => ?_
    refine ls F W Aa (EA Id F Aa).q fun a w F W => ?_
    refine Ae (Ab ?_)
    refine GW F Aa ?_
    refine Ah (Ac ?_)
    refine ls F W Aa (Du (v := Value.agg #[.int .i64 0, .int .i64 0, .int .i64 0]) Il F Aa Aa Aa).q fun a w F W => ?_
    refine Cc (vs := [.int .i64 0, .int .i64 0, .int .i64 0]) (M' := [(b2, [.int .i64 x3, .int .i64 x8, .int .i64 x9]), (b1, [.int .i64 0, .int .i64 0, .int .i64 0])]) 1 F W Aa Aa Aa Ev Aa Aa Aa Aa Aa fun w W => ?_
    refine ls F W Aa (Ad F Aa).q fun a w F W => ?_
    refine Ae (Ab (Aw (AA (AB ?_))))
    iterate 2 refine AA ?_
    refine AB (AA ?_)
    have H := L3 _ H
    have H := L2 _ H
    have H := L1 _ H
    have H := Bv H
    subst H
    refine Hk (.inl Aa) F W Aa (DW 1 F Aa Aa Ev Aa) (Au F Aa) ?_
    exact ⟨rfl, W.done⟩
   rintro a w ⟨x10, x11, hj, F, W⟩
   have H := K3 _ hj
   clear hj G3 K3 L3
   refine Ac ?_
   refine ls F W Aa (CL F Aa Aa Aa).q fun a w F W => ?_
   refine ls F W Aa (Af F Aa).q fun a w F W => ?_
   refine Ae (Ab ?_)
   have W := W.frontM (i := 1) Aa Aa
   have W := W.frontM (i := 1) Aa Aa
   exact ⟨_, H, F.re ⟨rfl, Aa, Aa, Aa, Aa, Aa, Aa, Aa, trivial⟩, W⟩
  have H := AG (A2 hb) H
  rw [hb] at F
  clear hb
  refine BU ?_
  iterate 2 refine Cq ?_
  refine BW (Ab ?_)
  have W := W.frontM (i := 1) Aa Aa
  have W := W.frontM (i := 1) Aa Aa
  have W := W.sub (M' := [(b2, [.int .i64 x3, .int .i64 x8, .int .i64 x9]), (b1, [.int .i64 0, .int .i64 0, .int .i64 0])]) (Z' := []) (List.Sublist.refl _) (List.nil_sublist _)
  have H := L2 _ H
  exact ⟨_, _, H, F.re ⟨rfl, Aa, Aa, Aa, trivial⟩, W⟩
 rintro a w ⟨x5, x6, hj, F, W⟩
 have H := K1 _ hj
 clear hj G1 K1 L1
 refine Ah ?_
 refine Fk [(true, 0), (true, 1), (true, 3), (false, 2), (true, 4), (false, 5), (false, 6)] (CN ⟨Y, [], w0⟩ [(some 5, b2, [.int .i64 x3, .int .i64 x5, .int .i64 x6]), (some 2, b2, [.int .i64 x3, .int .i64 x5, .int .i64 x6])] []) (fun ch a d v w h => by cases d <;> exact h) MO (by kernel_rfl) W (fun w W => ⟨_, _, W, (B1 (fun _ => (.head _)) (B1 (fun _ => (.head _)) AQ)), AQ⟩) fun w W => ?_
 refine Fa (R := [5]) F Aa Aa (yC fun M Z hN hZ => Fs (cs := [.int .i64 x3, .int .i64 x5, .int .i64 x6]) (v := Value.agg #[.int .i64 x3, .int .i64 x5, .int .i64 x6]) F Aa (hN ((some 5), b2, [.int .i64 x3, .int .i64 x5, .int .i64 x6]) (.head _) Aa) Ev Aa) (by kernel_rfl) Aa fun a F => ?_
 refine Fa (R := [2]) F Aa Aa (yC fun M Z hN hZ => Fs (cs := [.int .i64 x3, .int .i64 x5, .int .i64 x6]) (v := Value.agg #[.int .i64 x3, .int .i64 x5, .int .i64 x6]) F Aa (hN ((some 2), b2, [.int .i64 x3, .int .i64 x5, .int .i64 x6]) (.tail _ (.head _)) Aa) Ev Aa) (by kernel_rfl) Aa fun a F => ?_
 refine Fa (R := []) F Aa Aa (yC fun M Z hN hZ => Af F Aa) Aa Aa fun a F => ?_
 refine E1 Aa ?_
 obtain ⟨x17, h8, H⟩ := Ap H
 refine ls F W Aa (AM (v := Value.string (bs x17)) F IH Aa (fun w W => Ct any w (x3, x5, x6) _ h8 (hG.go0 W))) fun a w F W => ?_
 refine Cb (N2 := []) (NZ2 := []) (N3 := [(some 5, b2, [.int .i64 x3, .int .i64 x5, .int .i64 x6]), (some 2, b2, [.int .i64 x3, .int .i64 x5, .int .i64 x6])]) (NZ3 := []) W Aa Aa (B1 (fun _ => (.head _)) (B1 (fun h => C1 (by kernel_rfl) h) AQ)) AQ ?_
 refine Fa (R := []) F Aa Aa (yC fun M Z hN hZ => FV (l := x17) (m := p0) F Aa Aa) Aa Aa fun a F => ?_
 refine E1 Aa ?_
 refine Cc (vs := [.int .i64 x3, .int .i64 x5, .int .i64 x6]) (M' := [(b2, [.int .i64 x3, .int .i64 x5, .int .i64 x6]), (b1, [.int .i64 x3, .int .i64 x5, .int .i64 x6])]) 1 F W Aa Aa Aa Ev Aa Aa Aa Aa Aa fun w W => ?_
 refine Cb (N2 := []) (NZ2 := []) (N3 := [(some 5, b2, [.int .i64 x3, .int .i64 x5, .int .i64 x6]), (some 2, b2, [.int .i64 x3, .int .i64 x5, .int .i64 x6])]) (NZ3 := []) W Aa Aa (B1 (fun h => C1 (by kernel_rfl) h) (B1 (fun h => C1 (by kernel_rfl) h) AQ)) AQ ?_
 refine E1 Aa ?_
 refine ls F W Aa (Ad F Aa).q fun a w F W => ?_
 refine Cb (N2 := []) (NZ2 := []) (N3 := [(some 5, b2, [.int .i64 x3, .int .i64 x5, .int .i64 x6]), (some 2, b2, [.int .i64 x3, .int .i64 x5, .int .i64 x6])]) (NZ3 := []) W Aa Aa (B1 (fun h => C1 (by kernel_rfl) h) (B1 (fun h => C1 (by kernel_rfl) h) AQ)) AQ ?_
 refine GL (Ab (Aw ?_))
 have H := Bv H
 subst H
 refine Hk (.inl Aa) F W Aa (DW 1 F Aa Aa Ev Aa) (Au F Aa) ?_
 exact ⟨rfl, W.done⟩
theorem Gz : type_of% Tryd.underlying33 := Tryd.underlying33
theorem I9 : Has Tryd.prog 26 := ⟨fun args w => Ak Tryd.func26 rfl (by decide) args w⟩
abbrev BD : Rp (Int × Int × Int) := (Rp.pair (Rp.int .i64) (Rp.pair (Rp.int .i64) (Rp.int .i64)))
def I0 (a : Int × Int × Int) : List Value := [.int .i64 a.1, .int .i64 a.2.1, .int .i64 a.2.2]
theorem H0 : Fl BD I0 := (Fl.pair Fl.int (Fl.pair Fl.int Fl.int))
theorem HK : Et Tryd.prog 33 26 3 24 := Et.of Gz (by kernel_rfl) (by kernel_rfl) (by kernel_rfl) (by decide)
noncomputable def Az (x2 : List (List UInt8)) : ((List (Int × Int × Int)) × Int) → Option (((List (Int × Int × Int)) × Int) ⊕ ((List (Int × Int × Int)) ⊕ ((List (Int × Int × Int)) × Int × Int)))
  | (x3, x4) => (if x4 < (x2.length : Int) then Ez ((ix x2 x4).bind fun x6 => (if x6 = ([] : List UInt8) then some true else (ix x6 0).bind fun x8 => some (decide ((x8.toNat : Int) = 35))).bind fun x7 => (if x7 = true then some (.inl x3) else (AH x6).bind fun x9 => (if (!x9.2) = true then some (.inr (.inr (.inr (([] : List (Int × Int × Int)), CF (x4 + 1), 10)))) else (CR x3 ([x9.1] : List (Int × Int × Int))).bind fun x10 => some (.inl x10)))) fun x5 => some (.inl (x5, CF (x4 + 1))) else some (.inr (.inl x3)))
noncomputable def AN (p0 : List UInt8) : Option ((List (Int × Int × Int)) × Int × Int) := Ez ((CS p0 ([10] : List UInt8)).bind fun x2 => AD (Az x2) ([], 0)) fun x1 => some (x1, 0, 0)
theorem Ch (Y : Nat → Prop) (w0 : World)  (p0 : List UInt8) (r : (List (Int × Int × Int)) × Int × Int) (H : AN p0 = some r) (hG : Gk [] w0) :
    Calls Tryd.prog 13 #[.string (bs p0)] w0 fun e w' => ∃ x : Value, e = .returned (.tuple #[x, .int .i64 r.2.1, .int .i64 r.2.2]) ∧ Stw ⟨Y, [], w0⟩ [] [row (x) 26 BD r.1] w' := by
 refine enter Tryd.func13 Aa Tryd.ntmps13 Aa fun a F => ?_
 have W := Stw.start Y w0
 unfold AN at H
 refine Ah (Ac ?_)
 iterate 3 refine ls F W Aa (Ad F Aa).q fun a w F W => ?_
 refine Ae (Ab (Ah (Ac ?_)))
 refine ls F W Aa (Ad F Aa).q fun a w F W => ?_
 refine Ae (Ab ?_)
 obtain ⟨o1, G1, K1, L1⟩ := Hq H
 refine AX (fun a w => ∃ x1 : List (Int × Int × Int), ∃ v1 : Value, some (Sum.inl x1) = some o1 ∧ Fr 40 [] [(2, .slice none 0 0), (3, .int .i64 0), (4, .int .i64 0), (5, v1)] a ∧ Stw ⟨Y, [], w0⟩ [] [row v1 26 BD x1] w) ?_ ?_
 ·
  have H := G1
  clear G1 K1
  refine Ah (Ac ?_)
  refine ls F W Aa (Af F Aa).q fun a w F W => ?_
  obtain ⟨x2, h1, H⟩ := Ap H
  refine BC (Ml := []) (Zl := []) (M := []) (Z := []) (β := Value) (rv := fun x => x) (MM := fun x => []) (ZZ := fun x => [row x 9 Rp.str x2]) F W IQ Aa Aa (fun hL => F2 _ w p0 ([10] : List UInt8) _ h1 (hG.go0 W)) fun x a w F W => ?_
  obtain ⟨v2, rfl⟩ : ∃ y, y = x := ⟨x, rfl⟩
  have W : Stw ⟨Y, [], w0⟩ [] [row v2 9 Rp.str x2] w := W
  refine ls F W Aa (CV (r := Rp.str) (l := x2) HY Aa F Aa (AV 0 Aa)).q fun a w F W => ?_
  refine ls F W Aa (Af F Aa).q fun a w F W => ?_
  refine Ae (Ab (AK ?_))
  have W := W.nilRow 26 BD
  have W := W.frontZ (i := 1) Aa Aa
  have W := W.frontZ (i := 1) Aa Aa
  refine B8 H (fun s a w => ∃ v3 : Value, Fr 40 [] [(2, .slice none 0 0), (3, .int .i64 0), (4, .int .i64 0), (5, v3), (11, v2), (12, .int .i64 (x2.length : Int)), (13, .int .i64 s.2)] a ∧ Stw ⟨Y, [], w0⟩ [] [row v3 26 BD s.1, row v2 9 Rp.str x2] w) ⟨(Value.slice none 0 0), F.re ⟨rfl, Aa, Aa, Aa, Aa, Aa, Aa, trivial⟩, W⟩ fun s o a w H L2 hR => ?_
  obtain ⟨x3, x4⟩ := s
  obtain ⟨v3, F, W⟩ := hR
  have F : Fr 40 [] [(2, .slice none 0 0), (3, .int .i64 0), (4, .int .i64 0), (5, v3), (11, v2), (12, .int .i64 (x2.length : Int)), (13, .int .i64 x4)] a := F
  have W : Stw ⟨Y, [], w0⟩ [] [row v3 26 BD x3, row v2 9 Rp.str x2] w := W
  rw [Az] at H
  refine Ah (Ac ?_)
  refine ls F W Aa (CO F Aa Aa).q fun a w F W => ?_
  refine Ae (Ab (Ah ?_))
  refine Av F Aa (fun hb => ?_) fun hb => ?_
  ·
   have H := AF (A3 hb) H
   rw [hb] at F
   clear hb
   refine Ay (Ab ?_)
   obtain ⟨o3, G3, K3, L3⟩ := Hq H
   refine AX (fun a w => ∃ x5 : List (Int × Int × Int), ∃ v4 : Value, some (Sum.inl x5) = some o3 ∧ Fr 40 [] [(2, .slice none 0 0), (3, .int .i64 0), (4, .int .i64 0), (5, v4), (11, v2), (12, .int .i64 (x2.length : Int)), (13, .int .i64 x4)] a ∧ Stw ⟨Y, [], w0⟩ [] [row v4 26 BD x5, row v2 9 Rp.str x2] w) ?_ ?_
   ·
    have H := G3
    clear G3 K3
    refine AK (Ah (Ac ?_))
    refine ls F W Aa (Af F Aa).q fun a w F W => ?_
    obtain ⟨x6, h2, H⟩ := Ap H
    refine ls F W Aa (BZ (r := Rp.str) IF F Aa Aa (AV 1 Aa) h2).q fun a w F W => ?_
    refine ls F W Aa (Bo (y := Value.string (bs x6)) (j := 0) (i := x4) F Aa Aa (AV 1 Aa) h2 Fl.str.to T9 Aa).q fun a w F W => ?_
    iterate 2 refine ls F W Aa (Ad F Aa).q fun a w F W => ?_
    refine Ae (Ab (Ah ?_))
    obtain ⟨o4, G4, K4⟩ := Ap H
    refine AX (fun a w => ∃ x7 : Bool, some (x7) = some o4 ∧ Fr 40 [] [(2, .slice none 0 0), (3, .int .i64 0), (4, .int .i64 0), (5, v3), (6, .int .i64 x4), (7, .string (bs x6)), (11, v2), (12, .int .i64 (x2.length : Int)), (13, .int .i64 x4), (24, .bool x7)] a ∧ Stw ⟨Y, [], w0⟩ [] [row v3 26 BD x3, row v2 9 Rp.str x2] w) ?_ ?_
    ·
     have H := G4
     clear G4 K4
     refine Ac ?_
     refine ls F W Aa (Af F Aa).q fun a w F W => ?_
     refine ls F W Aa (FV (l := x6) (m := ([] : List UInt8)) F Aa Aa).q fun a w F W => ?_
     refine ls F W Aa (Af F Aa).q fun a w F W => ?_
     rcases Bool.eq_false_or_eq_true (decide (x6 = ([] : List UInt8))) with hb | hb
     ·
      have H := AF (A3 hb) H
      rw [hb] at F
      clear hb
      iterate 3 refine Bd F Aa Aa Aa Aa Aa Aa Aa fun a F => ?_
      refine ls F W Aa (Al F Aa Aa Aa).q fun a w F W => ?_
      refine Ae (Ab ?_)
      have W := W.frontZ (i := 1) Aa Aa
      have W := W.frontZ (i := 1) Aa Aa
      exact ⟨_, H, F.re ⟨rfl, Aa, Aa, Aa, Aa, Aa, Aa, Aa, Aa, Aa, trivial⟩, W⟩
     have H := AG (A2 hb) H
     rw [hb] at F
     clear hb
     refine As F W (Ag F Aa Aa Aa Aa) Aa (An Aa) (Af F Aa).q fun a w F W => ?_
     obtain ⟨x8, h3, H⟩ := Ap H
     refine As F W (Ag F Aa Aa Aa Aa) Aa (An Aa) (Dz (l := x6) HE F Aa Aa h3).q fun a w F W => ?_
     refine As F W (Ag F Aa Aa Aa Aa) Aa (An Aa) (AP F Aa Aa).q fun a w F W => ?_
     refine ls F W Aa (Aj F Aa Aa Aa).q fun a w F W => ?_
     refine Ae (Ab ?_)
     have W := W.frontZ (i := 1) Aa Aa
     have W := W.frontZ (i := 1) Aa Aa
     exact ⟨_, H, F.re ⟨rfl, Aa, Aa, Aa, Aa, Aa, Aa, Aa, Aa, Aa, trivial⟩, W⟩
    rintro a w ⟨x7, hj, F, W⟩
    have hj := Bv hj
    subst hj
    have H := K4
    clear G4 K4
    refine Av F Aa (fun hb => ?_) fun hb => ?_
    ·
     have H := AF hb H
     rw [hb] at F
     clear hb
     refine BU (Cq (BW (Ab ?_)))
     have W := W.frontZ (i := 1) Aa Aa
     have W := W.frontZ (i := 1) Aa Aa
     exact ⟨_, (v3), H, F.re ⟨rfl, Aa, Aa, Aa, Aa, Aa, Aa, trivial⟩, W⟩
    have H := AG (by rw [hb]; decide) H
    rw [hb] at F
    clear hb
    refine Ay (Ab (Ah (Ac ?_)))
    refine ls F W Aa (Af F Aa).q fun a w F W => ?_
    obtain ⟨x9, h4, H⟩ := Ap H
    refine ls F W Aa (AM (v := Value.tuple #[.agg #[.int .i64 x9.1.1, .int .i64 x9.1.2.1, .int .i64 x9.1.2.2], .bool x9.2]) F I9 Aa (fun w W => Di any w x6 _ h4 (hG.go0 W))) fun a w F W => ?_
    refine ls F W Aa (Af F Aa).q fun a w F W => ?_
    refine ls F W Aa (AR (v := Value.agg #[.int .i64 x9.1.1, .int .i64 x9.1.2.1, .int .i64 x9.1.2.2]) F Aa Aa).q fun a w F W => ?_
    refine ls F W Aa (AR (v := Value.bool x9.2) F Aa Aa).q fun a w F W => ?_
    refine Dx (cs := [.int .i64 0, .int .i64 0, .int .i64 0]) F W Aa HQ Aa fun b1 a w F W => ?_
    refine Cc (vs := [.int .i64 x9.1.1, .int .i64 x9.1.2.1, .int .i64 x9.1.2.2]) (M' := [(b1, [.int .i64 x9.1.1, .int .i64 x9.1.2.1, .int .i64 x9.1.2.2])]) 0 F W Aa Aa Aa Ev Aa Aa Aa Aa Aa fun w W => ?_
    refine ls F W Aa (Ad F Aa).q fun a w F W => ?_
    refine Ae (Ab (Ah (Ah (Ac ?_))))
    refine ls F W Aa (Af F Aa).q fun a w F W => ?_
    refine ls F W Aa (Fc F Aa).q fun a w F W => ?_
    refine Ae (Ab ?_)
    refine Av F Aa (fun hb => ?_) fun hb => ?_
    ·
     have H := AF hb H
     rw [hb] at F
     clear hb
     refine Ah (Ac ?_)
     refine ls F W Aa (Af F Aa).q fun a w F W => ?_
     refine ls F W Aa (CL F Aa Aa Aa).q fun a w F W => ?_
     iterate 3 refine ls F W Aa (Ad F Aa).q fun a w F W => ?_
     refine Ae (Ab (Aw (AA (AB ?_))))
     iterate 2 refine AA ?_
     refine AB (AA ?_)
     have H := L3 _ H
     have H := L2 _ H
     have H := L1 _ H
     have H := Bv H
     subst H
     refine HL (.inl Aa) F W Aa (Au F Aa) (Au F Aa) (Au F Aa) ?_
     have W := W.nilRow 26 BD
     have W := W.sub (M' := []) (Z' := [row (Value.slice none 0 0) 26 BD ([])]) (List.nil_sublist _) (List.Sublist.cons_cons _ (List.nil_sublist _))
     exact ⟨(Value.slice none 0 0), Aa, W⟩
    have H := AG (by rw [hb]; decide) H
    rw [hb] at F
    clear hb
    refine Ay (Ab (Ac ?_))
    refine ls F W Aa (Af F Aa).q fun a w F W => ?_
    refine ls F W Aa (AE (v := Value.agg #[.int .i64 x9.1.1, .int .i64 x9.1.2.1, .int .i64 x9.1.2.2]) 0 F Aa Aa Ev Aa).q fun a w F W => ?_
    refine HM (z := Value.agg #[.int .i64 0, .int .i64 0, .int .i64 0]) (cs := [.int .i64 x9.1.1, .int .i64 x9.1.2.1, .int .i64 x9.1.2.2]) BD ([x9.1] : List (Int × Int × Int)) F W Aa HK HQ Aa Aa Aa Aa Aa Aa (H0.repL _ _ ([x9.1] : List (Int × Int × Int))) fun v5 a w F W => ?_
    obtain ⟨x10, h5, H⟩ := Ap H
    refine Fp (r := BD) (i := 1) F W Aa HK Aa Aa Aa Aa (FS W 0 Aa) h5 Aa fun v6 a w F W => ?_
    have W : Stw ⟨Y, [], w0⟩ [(b1, [.int .i64 x9.1.1, .int .i64 x9.1.2.1, .int .i64 x9.1.2.2])] [row v6 26 BD x10, row v5 26 BD ([x9.1] : List (Int × Int × Int)), row v2 9 Rp.str x2] w := W
    refine ls F W Aa (Ad F Aa).q fun a w F W => ?_
    refine Ae (Bm (Ab ?_))
    have W := W.frontZ (i := 2) Aa Aa
    have W := W.frontZ (i := 1) Aa Aa
    have W := W.sub (M' := []) (Z' := [row v6 26 BD x10, row v2 9 Rp.str x2]) (List.nil_sublist _) (List.Sublist.cons_cons _ (List.Sublist.cons_cons _ (List.nil_sublist _)))
    exact ⟨_, (v6), H, F.re ⟨rfl, Aa, Aa, Aa, Aa, Aa, Aa, trivial⟩, W⟩
   rintro a w ⟨x5, v4, hj, F, W⟩
   have H := K3 _ hj
   clear hj G3 K3 L3
   refine Ac ?_
   refine ls F W Aa (CL F Aa Aa Aa).q fun a w F W => ?_
   refine ls F W Aa (Af F Aa).q fun a w F W => ?_
   refine Ae (Ab ?_)
   have W := W.frontZ (i := 1) Aa Aa
   have W := W.frontZ (i := 1) Aa Aa
   exact ⟨_, H, (v4), F.re ⟨rfl, Aa, Aa, Aa, Aa, Aa, Aa, trivial⟩, W⟩
  have H := AG (A2 hb) H
  rw [hb] at F
  clear hb
  refine BU ?_
  iterate 2 refine Cq ?_
  refine BW (Ab ?_)
  have W := W.sub (M' := []) (Z' := [row v3 26 BD x3]) (List.Sublist.refl _) (List.Sublist.cons_cons _ (List.nil_sublist _))
  have H := L2 _ H
  exact ⟨_, (v3), H, F.re ⟨rfl, Aa, Aa, Aa, trivial⟩, W⟩
 rintro a w ⟨x1, v1, hj, F, W⟩
 have H := K1 _ hj
 clear hj G1 K1 L1
 refine Ah (Ac ?_)
 refine ls F W Aa (Af F Aa).q fun a w F W => ?_
 iterate 3 refine ls F W Aa (Ad F Aa).q fun a w F W => ?_
 refine Ae (Ab (Aw ?_))
 have H := Bv H
 subst H
 refine HL (.inl Aa) F W Aa (Au F Aa) (Au F Aa) (Au F Aa) ?_
 exact ⟨(v1), Aa, W⟩
theorem Iq : type_of% Tryd.underlying3 := Tryd.underlying3
theorem IG : Has Tryd.prog 13 := ⟨fun args w => Ak Tryd.func13 rfl (by decide) args w⟩
theorem IA (dd : Nat) (x0 : Int) (x1 : Int) (x2 : Int) (y0 : Int) (y1 : Int) (y2 : Int) (w : World) : (Op.equalIn (dd + 2) 26 (.agg #[.int .i64 x0, .int .i64 x1, .int .i64 x2]) (.agg #[.int .i64 y0, .int .i64 y1, .int .i64 y2])).run Tryd.prog w = .ok (decide (x0 = y0 ∧ x1 = y1 ∧ x2 = y2)) w :=
  Gg (d := dd + 1) (rs := [decide (x0 = y0), decide (x1 = y1), decide (x2 = y2)]) CQ (by kernel_rfl) ⟨rfl, EX (d := dd + 0) rfl rfl Iq T3 rfl rfl, rfl, EX (d := dd + 0) rfl rfl Iq T3 rfl rfl, rfl, EX (d := dd + 0) rfl rfl Iq T3 rfl rfl, trivial⟩ (by simp) w
theorem IP : Tryd.prog.eqGuardType Tryd.prog.depth 26 = false := by kernel_rfl
theorem II (x0 : Int) (x1 : Int) (x2 : Int) (y0 : Int) (y1 : Int) (y2 : Int) (w : World) : (Op.equalIn 10000 26 (.agg #[.int .i64 x0, .int .i64 x1, .int .i64 x2]) (.agg #[.int .i64 y0, .int .i64 y1, .int .i64 y2])).run Tryd.prog w = .ok (decide (x0 = y0 ∧ x1 = y1 ∧ x2 = y2)) w := IA 9998 x0 x1 x2 y0 y1 y2 w
noncomputable def Bz  : Option Bool := (AN ([35, 32, 115, 108, 111, 119, 101, 114, 10, 116, 117, 114, 110, 32, 49, 32, 45, 51, 48, 10] : List UInt8)).bind fun x1 => (if x1.2.2 = 0 then (if x1.2.1 = 0 then (if (x1.1.length : Int) = 1 then (ix x1.1 0).bind fun x3 => (if x3.1 = 2 ∧ x3.2.1 = 1 ∧ x3.2.2 = (-30) then (ix x1.1 0).bind fun x4 => (AY x4).bind fun x5 => some (decide (x5 = ([116, 117, 114, 110, 32, 49, 32, 45, 51, 48] : List UInt8))) else some false) else some false) else some false) else some false).bind fun x2 => some x2
theorem Cn (Y : Nat → Prop) (w0 : World)   (r : Bool) (H : Bz  = some r) (hG : Gk [] w0) :
    Calls Tryd.prog 5 #[] w0 fun e w' => e = .returned (.bool r) ∧ Below w0.heap.size w0 w' := by
 refine enter Tryd.func5 Aa Tryd.ntmps5 Aa fun a F => ?_
 have W := Stw.start Y w0
 unfold Bz at H
 refine Ah (Ac ?_)
 refine ls F W Aa (Ad F Aa).q fun a w F W => ?_
 refine Ae (Ab (Ah (Ac ?_)))
 obtain ⟨x1, h1, H⟩ := Ap H
 refine BC (Ml := []) (Zl := []) (M := []) (Z := []) (β := Value) (rv := fun x => .tuple #[x, .int .i64 x1.2.1, .int .i64 x1.2.2]) (MM := fun x => []) (ZZ := fun x => [row x 26 BD x1.1]) F W IG Aa Aa (fun hL => Ch _ w ([35, 32, 115, 108, 111, 119, 101, 114, 10, 116, 117, 114, 110, 32, 49, 32, 45, 51, 48, 10] : List UInt8) _ h1 (hG.go0 W)) fun x a w F W => ?_
 obtain ⟨v1, rfl⟩ : ∃ y, y = x := ⟨x, rfl⟩
 have W : Stw ⟨Y, [], w0⟩ [] [row v1 26 BD x1.1] w := W
 refine ls F W Aa (Af F Aa).q fun a w F W => ?_
 refine ls F W Aa (AR (v := v1) F Aa Aa).q fun a w F W => ?_
 refine ls F W Aa (AR (v := Value.int .i64 x1.2.1) F Aa Aa).q fun a w F W => ?_
 refine ls F W Aa (AR (v := Value.int .i64 x1.2.2) F Aa Aa).q fun a w F W => ?_
 iterate 3 refine ls F W Aa (Ad F Aa).q fun a w F W => ?_
 refine Ae (Ab ?_)
 obtain ⟨o1, G1, K1⟩ := Ap H
 refine AX (fun a w => ∃ x2 : Bool, some (x2) = some o1 ∧ Fr 34 [] [(0, .bool x2)] a ∧ Stw ⟨Y, [], w0⟩ [] [] w) ?_ ?_
 ·
  have H := G1
  clear G1 K1
  refine Ac ?_
  refine ls F W Aa (Af F Aa).q fun a w F W => ?_
  refine ls F W Aa (AP F Aa Aa).q fun a w F W => ?_
  refine ls F W Aa (Af F Aa).q fun a w F W => ?_
  rcases Bool.eq_false_or_eq_true (decide (x1.2.2 = 0)) with hb | hb
  ·
   have H := AF (A3 hb) H
   rw [hb] at F
   clear hb
   refine As F W (Ag F Aa Aa Aa Aa) Aa (An Aa) (Af F Aa).q fun a w F W => ?_
   refine As F W (Ag F Aa Aa Aa Aa) Aa (An Aa) (AP F Aa Aa).q fun a w F W => ?_
   refine ls F W Aa (Al F Aa Aa Aa).q fun a w F W => ?_
   refine ls F W Aa (Af F Aa).q fun a w F W => ?_
   rcases Bool.eq_false_or_eq_true (decide (x1.2.1 = 0)) with hb | hb
   ·
    have H := AF (A3 hb) H
    rw [hb] at F
    clear hb
    refine As F W (Ag F Aa Aa Aa Aa) Aa (An Aa) (Af F Aa).q fun a w F W => ?_
    refine As F W (Ag F Aa Aa Aa Aa) Aa (An Aa) (CV (r := BD) (l := x1.1) Gz Aa F Aa (AV 0 Aa)).q fun a w F W => ?_
    refine As F W (Ag F Aa Aa Aa Aa) Aa (An Aa) (AP F Aa Aa).q fun a w F W => ?_
    refine ls F W Aa (Al F Aa Aa Aa).q fun a w F W => ?_
    refine ls F W Aa (Af F Aa).q fun a w F W => ?_
    rcases Bool.eq_false_or_eq_true (decide ((x1.1.length : Int) = 1)) with hb | hb
    ·
     have H := AF (A3 hb) H
     rw [hb] at F
     clear hb
     refine As F W (Ag F Aa Aa Aa Aa) Aa (An Aa) (Af F Aa).q fun a w F W => ?_
     obtain ⟨x3, h2, H⟩ := Ap H
     refine As F W (Ag F Aa Aa Aa Aa) Aa (An Aa) (BZ (r := BD) HK F Aa Aa (AV 0 Aa) h2).q fun a w F W => ?_
     refine As F W (Ag F Aa Aa Aa Aa) Aa (An Aa) (Bo (y := Value.agg #[.int .i64 x3.1, .int .i64 x3.2.1, .int .i64 x3.2.2]) (j := 0) (i := 0) F Aa Aa (AV 0 Aa) h2 H0.to Ev Aa).q fun a w F W => ?_
     refine As F W (Ag F Aa Aa Aa Aa) Aa (An Aa) (Du (v := Value.agg #[.int .i64 2, .int .i64 1, .int .i64 (-30)]) Il F Aa Aa Aa).q fun a w F W => ?_
     refine As F W (Ag F Aa Aa Aa Aa) Aa (An Aa) (Ii (t := decide (x3.1 = 2 ∧ x3.2.1 = 1 ∧ x3.2.2 = (-30))) IP (II _ _ _ _ _ _) F Aa Aa).q fun a w F W => ?_
     refine ls F W Aa (Al F Aa Aa Aa).q fun a w F W => ?_
     refine ls F W Aa (Af F Aa).q fun a w F W => ?_
     rcases Bool.eq_false_or_eq_true (decide (x3.1 = 2 ∧ x3.2.1 = 1 ∧ x3.2.2 = (-30))) with hb | hb
     ·
      have H := AF (A3 hb) H
      rw [hb] at F
      clear hb
      refine As F W (Ag F Aa Aa Aa Aa) Aa (An Aa) (Af F Aa).q fun a w F W => ?_
      obtain ⟨x4, h3, H⟩ := Ap H
      refine As F W (Ag F Aa Aa Aa Aa) Aa (An Aa) (BZ (r := BD) HK F Aa Aa (AV 0 Aa) h3).q fun a w F W => ?_
      refine As F W (Ag F Aa Aa Aa Aa) Aa (An Aa) (Bo (y := Value.agg #[.int .i64 x4.1, .int .i64 x4.2.1, .int .i64 x4.2.2]) (j := 0) (i := 0) F Aa Aa (AV 0 Aa) h3 H0.to Ev Aa).q fun a w F W => ?_
      refine FJ (Ag F Aa Aa Aa Aa) ?_
      obtain ⟨x5, h4, H⟩ := Ap H
      refine ls F W Aa (AM (v := Value.string (bs x5)) F IH Aa (fun w W => Ct any w x4 _ h4 (hG.go0 W))) fun a w F W => ?_
      refine As F W (Ag F Aa Aa Aa Aa) Aa (An Aa) (FV (l := x5) (m := ([116, 117, 114, 110, 32, 49, 32, 45, 51, 48] : List UInt8)) F Aa Aa).q fun a w F W => ?_
      refine ls F W Aa (Al F Aa Aa Aa).q fun a w F W => ?_
      refine ls F W Aa (Ad F Aa).q fun a w F W => ?_
      refine Ae (Ab ?_)
      have W := W.sub (M' := []) (Z' := []) (List.Sublist.refl _) (List.nil_sublist _)
      exact ⟨_, H, F.re ⟨rfl, trivial⟩, W⟩
     have H := AG (A2 hb) H
     rw [hb] at F
     clear hb
     iterate 5 refine Bd F Aa Aa Aa Aa Aa Aa Aa fun a F => ?_
     refine ls F W Aa (Aj F Aa Aa Aa).q fun a w F W => ?_
     refine ls F W Aa (Ad F Aa).q fun a w F W => ?_
     refine Ae (Ab ?_)
     have W := W.sub (M' := []) (Z' := []) (List.Sublist.refl _) (List.nil_sublist _)
     exact ⟨_, H, F.re ⟨rfl, trivial⟩, W⟩
    have H := AG (A2 hb) H
    rw [hb] at F
    clear hb
    iterate 5 refine Bd F Aa Aa Aa Aa Aa Aa Aa fun a F => ?_
    refine ls F W Aa (Aj F Aa Aa Aa).q fun a w F W => ?_
    refine ls F W Aa (Af F Aa).q fun a w F W => ?_
    iterate 5 refine Bd F Aa Aa Aa Aa Aa Aa Aa fun a F => ?_
    refine ls F W Aa (Aj F Aa Aa Aa).q fun a w F W => ?_
    refine ls F W Aa (Ad F Aa).q fun a w F W => ?_
    refine Ae (Ab ?_)
    have W := W.sub (M' := []) (Z' := []) (List.Sublist.refl _) (List.nil_sublist _)
    exact ⟨_, H, F.re ⟨rfl, trivial⟩, W⟩
   have H := AG (A2 hb) H
   rw [hb] at F
   clear hb
   iterate 3 refine Bd F Aa Aa Aa Aa Aa Aa Aa fun a F => ?_
   refine ls F W Aa (Aj F Aa Aa Aa).q fun a w F W => ?_
   refine ls F W Aa (Af F Aa).q fun a w F W => ?_
   iterate 5 refine Bd F Aa Aa Aa Aa Aa Aa Aa fun a F => ?_
   refine ls F W Aa (Aj F Aa Aa Aa).q fun a w F W => ?_
   refine ls F W Aa (Af F Aa).q fun a w F W => ?_
   iterate 5 refine Bd F Aa Aa Aa Aa Aa Aa Aa fun a F => ?_
   refine ls F W Aa (Aj F Aa Aa Aa).q fun a w F W => ?_
   refine ls F W Aa (Ad F Aa).q fun a w F W => ?_
   refine Ae (Ab ?_)
   have W := W.sub (M' := []) (Z' := []) (List.Sublist.refl _) (List.nil_sublist _)
   exact ⟨_, H, F.re ⟨rfl, trivial⟩, W⟩
  have H := AG (A2 hb) H
  rw [hb] at F
  clear hb
  iterate 2 refine Bd F Aa Aa Aa Aa Aa Aa Aa fun a F => ?_
  refine ls F W Aa (Aj F Aa Aa Aa).q fun a w F W => ?_
  refine ls F W Aa (Af F Aa).q fun a w F W => ?_
  iterate 3 refine Bd F Aa Aa Aa Aa Aa Aa Aa fun a F => ?_
  refine ls F W Aa (Aj F Aa Aa Aa).q fun a w F W => ?_
  refine ls F W Aa (Af F Aa).q fun a w F W => ?_
  iterate 5 refine Bd F Aa Aa Aa Aa Aa Aa Aa fun a F => ?_
  refine ls F W Aa (Aj F Aa Aa Aa).q fun a w F W => ?_
  refine ls F W Aa (Af F Aa).q fun a w F W => ?_
  iterate 5 refine Bd F Aa Aa Aa Aa Aa Aa Aa fun a F => ?_
  refine ls F W Aa (Aj F Aa Aa Aa).q fun a w F W => ?_
  refine ls F W Aa (Ad F Aa).q fun a w F W => ?_
  refine Ae (Ab ?_)
  have W := W.sub (M' := []) (Z' := []) (List.Sublist.refl _) (List.nil_sublist _)
  exact ⟨_, H, F.re ⟨rfl, trivial⟩, W⟩
 rintro a w ⟨x2, hj, F, W⟩
 have hj := Bv hj
 subst hj
 have H := K1
 clear G1 K1
 refine Aw ?_
 have H := Bv H
 subst H
 refine AO (.inl Aa) F W Aa (Au F Aa) ?_
 exact ⟨rfl, W.done⟩
theorem H5 : Has Tryd.prog 5 := ⟨fun args w => Ak Tryd.func5 rfl (by decide) args w⟩
noncomputable def D1 (p0 : Int) : Option (List UInt8) := (if (decide (p0 < 1) || decide (11 < p0)) = true then some ([63] : List UInt8) else (ix ([([116, 105, 99, 107] : List UInt8), ([116, 117, 114, 110] : List UInt8), ([116, 105, 109, 101, 114] : List UInt8), ([117, 112, 100, 97, 116, 101] : List UInt8), ([100, 101, 108, 105, 118, 101, 114] : List UInt8), ([100, 114, 111, 112] : List UInt8), ([116, 119, 105, 99, 101] : List UInt8), ([105, 110, 106, 101, 99, 116] : List UInt8), ([104, 111, 112] : List UInt8), ([99, 114, 97, 115, 104] : List UInt8), ([115, 116, 97, 114, 116] : List UInt8)] : List (List UInt8)) (CF (p0 - 1))).bind fun x1 => some x1)
theorem GT : type_of% Tryd.underlying22 := Tryd.underlying22
theorem DI : type_of% Tryd.underlying28 := Tryd.underlying28
theorem Ip : Et Tryd.prog 22 28 3 24 := Et.of GT (by kernel_rfl) (by kernel_rfl) (by kernel_rfl) (by decide)
def I7 (a : Int × Int × Int) : List Value := [.int .i64 a.1, .int .i64 a.2.1, .int .i64 a.2.2]
theorem IJ : Fl F9 I7 := (Fl.pair Fl.int (Fl.pair Fl.int Fl.int))
theorem IK : Ty Tryd.prog 28 true 3 := ⟨by kernel_rfl, by kernel_rfl⟩
def Bl (p0 : Int × Int × Int) : (Int × Int × Int) := p0
theorem FE (Y : Nat → Prop) (w0 : World)  (p0 : Int × Int × Int) (r : (Int × Int × Int)) (H : Bl p0 = r)  :
    Calls Tryd.prog 8 #[.agg #[.int .i64 p0.1, .int .i64 p0.2.1, .int .i64 p0.2.2]] w0 fun e w' => e = .returned (.agg #[.int .i64 r.1, .int .i64 r.2.1, .int .i64 r.2.2]) ∧ Below w0.heap.size w0 w' := by
 refine enter Tryd.func8 Aa Tryd.ntmps8 Aa fun a F => ?_
 have W := Stw.start Y w0
 unfold Bl at H
 refine Ah (Ac ?_)
 refine FX (cs := [.int .i64 p0.1, .int .i64 p0.2.1, .int .i64 p0.2.2]) F W Aa Aa Aa fun b1 a w F W => ?_
 refine Dx (cs := [.int .i64 0, .int .i64 0, .int .i64 0]) F W Aa HQ Aa fun b2 a w F W => ?_
 refine Ae (Ab (Ah (Ac ?_)))
 refine ls F W Aa (Ao DI Aa Aa Aa T3 F Aa 0 Aa).q fun a w F W => ?_
 refine ls F W Aa (AE (v := Value.int .i64 p0.1) 1 F Aa Aa T3 Aa).q fun a w F W => ?_
 refine ls F W Aa (Ao DI Aa Aa Aa T3 F Aa 1 Aa).q fun a w F W => ?_
 refine ls F W Aa (AE (v := Value.int .i64 p0.2.1) 1 F Aa Aa T3 Aa).q fun a w F W => ?_
 refine ls F W Aa (Ao DI Aa Aa Aa T3 F Aa 2 Aa).q fun a w F W => ?_
 refine ls F W Aa (AE (v := Value.int .i64 p0.2.2) 1 F Aa Aa T3 Aa).q fun a w F W => ?_
 refine ls F W Aa (Du (v := Value.agg #[.int .i64 p0.1, .int .i64 p0.2.1, .int .i64 p0.2.2]) Il F Aa Aa Aa).q fun a w F W => ?_
 refine Cc (vs := [.int .i64 p0.1, .int .i64 p0.2.1, .int .i64 p0.2.2]) (M' := [(b2, [.int .i64 p0.1, .int .i64 p0.2.1, .int .i64 p0.2.2]), (b1, [.int .i64 p0.1, .int .i64 p0.2.1, .int .i64 p0.2.2])]) 0 F W Aa Aa Aa Ev Aa Aa Aa Aa Aa fun w W => ?_
 refine Ae (Ab (Aw ?_))
 subst H
 refine AO (.inl Aa) F W Aa (DW 0 F Aa Aa Ev Aa) ?_
 exact ⟨rfl, W.done⟩
theorem H8 : Has Tryd.prog 8 := ⟨fun args w => Ak Tryd.func8 rfl (by decide) args w⟩
def Bq (p0 : Int) : Bool := (decide (p0 = 2) || (decide (p0 = 8) || (decide (p0 = 10) || decide (p0 = 11))))
theorem FN (Y : Nat → Prop) (w0 : World)  (p0 : Int) (r : Bool) (H : Bq p0 = r)  :
    Calls Tryd.prog 21 #[.int .i64 p0] w0 fun e w' => e = .returned (.bool r) ∧ Below w0.heap.size w0 w' := by
 refine enter Tryd.func21 Aa Tryd.ntmps21 Aa fun a F => ?_
 have W := Stw.start Y w0
 unfold Bq at H
 refine Ah (Ac ?_)
 refine ls F W Aa (Ad F Aa).q fun a w F W => ?_
 refine Ae (Ab ?_)
 refine AX (fun a w => Fr 17 [] [(2, .bool (decide (p0 = 2) || (decide (p0 = 8) || (decide (p0 = 10) || decide (p0 = 11)))))] a ∧ Stw ⟨Y, [], w0⟩ [] [] w) ?_ ?_
 ·
  refine Ac ?_
  refine ls F W Aa (Af F Aa).q fun a w F W => ?_
  refine ls F W Aa (AP F Aa Aa).q fun a w F W => ?_
  refine ls F W Aa (Af F Aa).q fun a w F W => ?_
  rcases Bool.eq_false_or_eq_true (decide (p0 = 2)) with hb0 | hb0
  ·
   rw [hb0] at F
   iterate 2 refine Bd F Aa Aa Aa Aa Aa Aa Aa fun a F => ?_
   refine ls F W Aa (Al F Aa Aa Aa).q fun a w F W => ?_
   refine ls F W Aa (Af F Aa).q fun a w F W => ?_
   iterate 2 refine Bd F Aa Aa Aa Aa Aa Aa Aa fun a F => ?_
   refine ls F W Aa (Al F Aa Aa Aa).q fun a w F W => ?_
   refine ls F W Aa (Af F Aa).q fun a w F W => ?_
   iterate 2 refine Bd F Aa Aa Aa Aa Aa Aa Aa fun a F => ?_
   refine ls F W Aa (Al F Aa Aa Aa).q fun a w F W => ?_
   refine ls F W Aa (Ad F Aa).q fun a w F W => ?_
   refine Ae (Ab ?_)
   exact ⟨F.re ⟨(by show some (Value.bool true) = some (Value.bool (decide (p0 = 2) || (decide (p0 = 8) || (decide (p0 = 10) || decide (p0 = 11))))); try rw [hb0]; all_goals simp only [Bool.not_true, Bool.not_false, Bool.true_and, Bool.false_and, Bool.true_or, Bool.false_or, Bool.and_true, Bool.or_false, cond_true, cond_false]), trivial⟩, W⟩
  rw [hb0] at F
  refine As F W (Ag F Aa Aa Aa Aa) Aa (An Aa) (Af F Aa).q fun a w F W => ?_
  refine As F W (Ag F Aa Aa Aa Aa) Aa (An Aa) (AP F Aa Aa).q fun a w F W => ?_
  refine ls F W Aa (Aj F Aa Aa Aa).q fun a w F W => ?_
  refine ls F W Aa (Af F Aa).q fun a w F W => ?_
  rcases Bool.eq_false_or_eq_true (decide (p0 = 8)) with hb1 | hb1
  ·
   rw [hb1] at F
   iterate 2 refine Bd F Aa Aa Aa Aa Aa Aa Aa fun a F => ?_
   refine ls F W Aa (Al F Aa Aa Aa).q fun a w F W => ?_
   refine ls F W Aa (Af F Aa).q fun a w F W => ?_
   iterate 2 refine Bd F Aa Aa Aa Aa Aa Aa Aa fun a F => ?_
   refine ls F W Aa (Al F Aa Aa Aa).q fun a w F W => ?_
   refine ls F W Aa (Ad F Aa).q fun a w F W => ?_
   refine Ae (Ab ?_)
   exact ⟨F.re ⟨(by show some (Value.bool true) = some (Value.bool (decide (p0 = 2) || (decide (p0 = 8) || (decide (p0 = 10) || decide (p0 = 11))))); try rw [hb0]; try rw [hb1]; all_goals simp only [Bool.not_true, Bool.not_false, Bool.true_and, Bool.false_and, Bool.true_or, Bool.false_or, Bool.and_true, Bool.or_false, cond_true, cond_false]), trivial⟩, W⟩
  rw [hb1] at F
  refine As F W (Ag F Aa Aa Aa Aa) Aa (An Aa) (Af F Aa).q fun a w F W => ?_
  refine As F W (Ag F Aa Aa Aa Aa) Aa (An Aa) (AP F Aa Aa).q fun a w F W => ?_
  refine ls F W Aa (Aj F Aa Aa Aa).q fun a w F W => ?_
  refine ls F W Aa (Af F Aa).q fun a w F W => ?_
  rcases Bool.eq_false_or_eq_true (decide (p0 = 10)) with hb2 | hb2
  ·
   rw [hb2] at F
   iterate 2 refine Bd F Aa Aa Aa Aa Aa Aa Aa fun a F => ?_
   refine ls F W Aa (Al F Aa Aa Aa).q fun a w F W => ?_
   refine ls F W Aa (Ad F Aa).q fun a w F W => ?_
   refine Ae (Ab ?_)
   exact ⟨F.re ⟨(by show some (Value.bool true) = some (Value.bool (decide (p0 = 2) || (decide (p0 = 8) || (decide (p0 = 10) || decide (p0 = 11))))); try rw [hb2]; try rw [hb0]; try rw [hb1]; all_goals simp only [Bool.not_true, Bool.not_false, Bool.true_and, Bool.false_and, Bool.true_or, Bool.false_or, Bool.and_true, Bool.or_false, cond_true, cond_false]), trivial⟩, W⟩
  rw [hb2] at F
  refine As F W (Ag F Aa Aa Aa Aa) Aa (An Aa) (Af F Aa).q fun a w F W => ?_
  refine As F W (Ag F Aa Aa Aa Aa) Aa (An Aa) (AP F Aa Aa).q fun a w F W => ?_
  refine ls F W Aa (Aj F Aa Aa Aa).q fun a w F W => ?_
  refine ls F W Aa (Ad F Aa).q fun a w F W => ?_
  refine Ae (Ab ?_)
  exact ⟨F.re ⟨(by show some (Value.bool (decide (p0 = 11))) = some (Value.bool (decide (p0 = 2) || (decide (p0 = 8) || (decide (p0 = 10) || decide (p0 = 11))))); try rw [hb2]; try rw [hb0]; try rw [hb1]; all_goals simp only [Bool.not_true, Bool.not_false, Bool.true_and, Bool.false_and, Bool.true_or, Bool.false_or, Bool.and_true, Bool.or_false, cond_true, cond_false]), trivial⟩, W⟩
 rintro a w ⟨F, W⟩
 refine Aw ?_
 subst H
 refine AO (.inl Aa) F W Aa (Au F Aa) ?_
 exact ⟨rfl, W.done⟩
theorem IW : Has Tryd.prog 21 := ⟨fun args w => Ak Tryd.func21 rfl (by decide) args w⟩
def Bw (p0 : Int) : Bool := (decide (p0 ≠ 3) && (decide (p0 ≠ 10) && decide (p0 ≠ 11)))
theorem FA (Y : Nat → Prop) (w0 : World)  (p0 : Int) (r : Bool) (H : Bw p0 = r)  :
    Calls Tryd.prog 22 #[.int .i64 p0] w0 fun e w' => e = .returned (.bool r) ∧ Below w0.heap.size w0 w' := by
 refine enter Tryd.func22 Aa Tryd.ntmps22 Aa fun a F => ?_
 have W := Stw.start Y w0
 unfold Bw at H
 refine Ah (Ac ?_)
 refine ls F W Aa (Ad F Aa).q fun a w F W => ?_
 refine Ae (Ab ?_)
 refine AX (fun a w => Fr 13 [] [(2, .bool (decide (p0 ≠ 3) && (decide (p0 ≠ 10) && decide (p0 ≠ 11))))] a ∧ Stw ⟨Y, [], w0⟩ [] [] w) ?_ ?_
 ·
  refine Ac ?_
  refine ls F W Aa (Af F Aa).q fun a w F W => ?_
  refine ls F W Aa (EJ F Aa Aa).q fun a w F W => ?_
  refine ls F W Aa (Af F Aa).q fun a w F W => ?_
  rcases Bool.eq_false_or_eq_true (decide (p0 ≠ 3)) with hb0 | hb0
  ·
   rw [hb0] at F
   refine As F W (Ag F Aa Aa Aa Aa) Aa (An Aa) (Af F Aa).q fun a w F W => ?_
   refine As F W (Ag F Aa Aa Aa Aa) Aa (An Aa) (EJ F Aa Aa).q fun a w F W => ?_
   refine ls F W Aa (Al F Aa Aa Aa).q fun a w F W => ?_
   refine ls F W Aa (Af F Aa).q fun a w F W => ?_
   rcases Bool.eq_false_or_eq_true (decide (p0 ≠ 10)) with hb1 | hb1
   ·
    rw [hb1] at F
    refine As F W (Ag F Aa Aa Aa Aa) Aa (An Aa) (Af F Aa).q fun a w F W => ?_
    refine As F W (Ag F Aa Aa Aa Aa) Aa (An Aa) (EJ F Aa Aa).q fun a w F W => ?_
    refine ls F W Aa (Al F Aa Aa Aa).q fun a w F W => ?_
    refine ls F W Aa (Ad F Aa).q fun a w F W => ?_
    refine Ae (Ab ?_)
    exact ⟨F.re ⟨(by show some (Value.bool (decide (p0 ≠ 11))) = some (Value.bool (decide (p0 ≠ 3) && (decide (p0 ≠ 10) && decide (p0 ≠ 11)))); try rw [hb1]; try rw [hb0]; all_goals simp only [Bool.not_true, Bool.not_false, Bool.true_and, Bool.false_and, Bool.true_or, Bool.false_or, Bool.and_true, Bool.or_false, cond_true, cond_false]), trivial⟩, W⟩
   rw [hb1] at F
   iterate 2 refine Bd F Aa Aa Aa Aa Aa Aa Aa fun a F => ?_
   refine ls F W Aa (Aj F Aa Aa Aa).q fun a w F W => ?_
   refine ls F W Aa (Ad F Aa).q fun a w F W => ?_
   refine Ae (Ab ?_)
   exact ⟨F.re ⟨(by show some (Value.bool false) = some (Value.bool (decide (p0 ≠ 3) && (decide (p0 ≠ 10) && decide (p0 ≠ 11)))); try rw [hb1]; try rw [hb0]; all_goals simp only [Bool.not_true, Bool.not_false, Bool.true_and, Bool.false_and, Bool.true_or, Bool.false_or, Bool.and_true, Bool.or_false, cond_true, cond_false]), trivial⟩, W⟩
  rw [hb0] at F
  iterate 2 refine Bd F Aa Aa Aa Aa Aa Aa Aa fun a F => ?_
  refine ls F W Aa (Aj F Aa Aa Aa).q fun a w F W => ?_
  refine ls F W Aa (Af F Aa).q fun a w F W => ?_
  iterate 2 refine Bd F Aa Aa Aa Aa Aa Aa Aa fun a F => ?_
  refine ls F W Aa (Aj F Aa Aa Aa).q fun a w F W => ?_
  refine ls F W Aa (Ad F Aa).q fun a w F W => ?_
  refine Ae (Ab ?_)
  exact ⟨F.re ⟨(by show some (Value.bool false) = some (Value.bool (decide (p0 ≠ 3) && (decide (p0 ≠ 10) && decide (p0 ≠ 11)))); try rw [hb0]; all_goals simp only [Bool.not_true, Bool.not_false, Bool.true_and, Bool.false_and, Bool.true_or, Bool.false_or, Bool.and_true, Bool.or_false, cond_true, cond_false]), trivial⟩, W⟩
 rintro a w ⟨F, W⟩
 refine Aw ?_
 subst H
 refine AO (.inl Aa) F W Aa (Au F Aa) ?_
 exact ⟨rfl, W.done⟩
end Go.Proofs.YtkmacelfldeenaaDoor
