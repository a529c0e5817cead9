/- The functions of layer 39, E6. Conditions: none. -/
import Derived.Test.YtkmacelfldeenaaDoorRows
import Derived.Test.YtkmacelfldeenaaDoorbOB
import Derived.Test.YtkmacelfldeenaaDoorbOG
import Derived.Test.YtkmacelfldeenaaDoorbOT
import Derived.Test.YtkmacelfldeenaaDoorbOD
import Derived.Test.YtkmacelfldeenaaDoorbOC
namespace Go.Proofs.YtkmacelfldeenaaDoor
open Go Go.RowKit
set_option linter.unusedVariables false
set_option linter.unusedSimpArgs false
set_option maxRecDepth 20000
theorem I0 : type_of% Tryd.underlying45 := Tryd.underlying45
abbrev C5 : Rp (Int × Int × Int) := (Rp.pair (Rp.int .i64) (Rp.pair (Rp.int .i64) (Rp.int .i64)))
theorem JC : Has Tryd.prog 25 := ⟨fun args w => Ak Tryd.func25 rfl (by decide) args w⟩
theorem I5 : Et Tryd.prog 45 9 1 16 := Et.of I0 (by kernel_rfl) (by kernel_rfl) (by kernel_rfl) (by decide)
theorem T9 : Ty Tryd.prog 9 false 1 := ⟨by kernel_rfl, by kernel_rfl⟩
theorem IE : (Tryd.prog.info? 26).bind (·.zero) = some (.agg #[.int .i64 0, .int .i64 0, .int .i64 0]) := by kernel_rfl
def Ai (p0 : Int) : List UInt8 := (if p0 = 1 then ([116, 105, 99, 107] : List UInt8) else (if p0 = 2 then ([116, 117, 114, 110] : List UInt8) else (if p0 = 3 then ([116, 105, 109, 101, 114] : List UInt8) else (if p0 = 4 then ([117, 112, 100, 97, 116, 101] : List UInt8) else (if p0 = 5 then ([100, 101, 108, 105, 118, 101, 114] : List UInt8) else (if p0 = 6 then ([100, 114, 111, 112] : List UInt8) else (if p0 = 7 then ([116, 119, 105, 99, 101] : List UInt8) else (if p0 = 8 then ([105, 110, 106, 101, 99, 116] : List UInt8) else (if p0 = 9 then ([104, 111, 112] : List UInt8) else (if p0 = 10 then ([99, 114, 97, 115, 104] : List UInt8) else (if p0 = 11 then ([115, 116, 97, 114, 116] : List UInt8) else ([63] : List UInt8))))))))))))
theorem Cg (Y : Nat → Prop) (w0 : World)  (p0 : Int) (r : List UInt8) (H : Ai p0 = r)  :
    Calls Tryd.prog 6 #[.int .i64 p0] w0 fun e w' => e = .returned (.string (bs r)) ∧ Below w0.heap.size w0 w' := by
 refine enter Tryd.func6 Aa Tryd.ntmps6 Aa fun a F => ?_
 have W := Stw.start Y w0
 unfold Ai at H
 refine Ah (Ac ?_)
 refine ls F W Aa (Ad (v := Value.string (bs ([] : List UInt8))) F Aa).q fun a w F W => ?_
 refine Ae (Ab (Ah (Ah (Ac ?_))))
 refine ls F W Aa (Af F Aa).q fun a w F W => ?_
 refine Ae (Ab (AD (Ah (Ac ?_))))
 refine ls F W Aa (A2 F Aa Aa).q fun a w F W => ?_
 refine ls F W Aa (Ad F Aa).q fun a w F W => ?_
 refine Ae (Ab ?_)
 refine Av F Aa (fun hb => ?_) fun hb => ?_
 ·
  have H := AF (AX hb) H
  rw [hb] at F
  clear hb
  refine Ah (Ac ?_)
  refine ls F W Aa (Ad (v := Value.string (bs ([116, 105, 99, 107] : List UInt8))) F Aa).q fun a w F W => ?_
  refine Ae (Ab (Aw (AM (AB ?_))))
  subst H
  refine AR (.inl Aa) F W Aa (Au F Aa) ?_
  exact ⟨rfl, W.done⟩
 have H := AE (AY hb) H
 rw [hb] at F
 clear hb
 refine Ah (Ac ?_)
 refine ls F W Aa (A2 F Aa Aa).q fun a w F W => ?_
 refine ls F W Aa (Ad F Aa).q fun a w F W => ?_
 refine Ae (Ab ?_)
 refine Av F Aa (fun hb => ?_) fun hb => ?_
 ·
  have H := AF (AX hb) H
  rw [hb] at F
  clear hb
  refine Ah (Ac ?_)
  refine ls F W Aa (Ad (v := Value.string (bs ([116, 117, 114, 110] : List UInt8))) F Aa).q fun a w F W => ?_
  refine Ae (Ab (Aw (AM (AB ?_))))
  subst H
  refine AR (.inl Aa) F W Aa (Au F Aa) ?_
  exact ⟨rfl, W.done⟩
 have H := AE (AY hb) H
 rw [hb] at F
 clear hb
 refine Ah (Ac ?_)
 refine ls F W Aa (A2 F Aa Aa).q fun a w F W => ?_
 refine ls F W Aa (Ad F Aa).q fun a w F W => ?_
 refine Ae (Ab ?_)
 refine Av F Aa (fun hb => ?_) fun hb => ?_
 ·
  have H := AF (AX hb) H
  rw [hb] at F
  clear hb
  refine Ah (Ac ?_)
  refine ls F W Aa (Ad (v := Value.string (bs ([116, 105, 109, 101, 114] : List UInt8))) F Aa).q fun a w F W => ?_
  refine Ae (Ab (Aw (AM (AB ?_))))
  subst H
  refine AR (.inl Aa) F W Aa (Au F Aa) ?_
  exact ⟨rfl, W.done⟩
 have H := AE (AY hb) H
 rw [hb] at F
 clear hb
 refine Ah (Ac ?_)
 refine ls F W Aa (A2 F Aa Aa).q fun a w F W => ?_
 refine ls F W Aa (Ad F Aa).q fun a w F W => ?_
 refine Ae (Ab ?_)
 refine Av F Aa (fun hb => ?_) fun hb => ?_
 ·
  have H := AF (AX hb) H
  rw [hb] at F
  clear hb
  refine Ah (Ac ?_)
  refine ls F W Aa (Ad (v := Value.string (bs ([117, 112, 100, 97, 116, 101] : List UInt8))) F Aa).q fun a w F W => ?_
  refine Ae (Ab (Aw (AM (AB ?_))))
  subst H
  refine AR (.inl Aa) F W Aa (Au F Aa) ?_
  exact ⟨rfl, W.done⟩
 have H := AE (AY hb) H
 rw [hb] at F
 clear hb
 refine Ah (Ac ?_)
 refine ls F W Aa (A2 F Aa Aa).q fun a w F W => ?_
 refine ls F W Aa (Ad F Aa).q fun a w F W => ?_
 refine Ae (Ab ?_)
 refine Av F Aa (fun hb => ?_) fun hb => ?_
 ·
  have H := AF (AX hb) H
  rw [hb] at F
  clear hb
  refine Ah (Ac ?_)
  refine ls F W Aa (Ad (v := Value.string (bs ([100, 101, 108, 105, 118, 101, 114] : List UInt8))) F Aa).q fun a w F W => ?_
  refine Ae (Ab (Aw (AM (AB ?_))))
  subst H
  refine AR (.inl Aa) F W Aa (Au F Aa) ?_
  exact ⟨rfl, W.done⟩
 have H := AE (AY hb) H
 rw [hb] at F
 clear hb
 refine Ah (Ac ?_)
 refine ls F W Aa (A2 F Aa Aa).q fun a w F W => ?_
 refine ls F W Aa (Ad F Aa).q fun a w F W => ?_
 refine Ae (Ab ?_)
 refine Av F Aa (fun hb => ?_) fun hb => ?_
 ·
  have H := AF (AX hb) H
  rw [hb] at F
  clear hb
  refine Ah (Ac ?_)
  refine ls F W Aa (Ad (v := Value.string (bs ([100, 114, 111, 112] : List UInt8))) F Aa).q fun a w F W => ?_
  refine Ae (Ab (Aw (AM (AB ?_))))
  subst H
  refine AR (.inl Aa) F W Aa (Au F Aa) ?_
  exact ⟨rfl, W.done⟩
 have H := AE (AY hb) H
 rw [hb] at F
 clear hb
 refine Ah (Ac ?_)
 refine ls F W Aa (A2 F Aa Aa).q fun a w F W => ?_
 refine ls F W Aa (Ad F Aa).q fun a w F W => ?_
 refine Ae (Ab ?_)
 refine Av F Aa (fun hb => ?_) fun hb => ?_
 ·
  have H := AF (AX hb) H
  rw [hb] at F
  clear hb
  refine Ah (Ac ?_)
  refine ls F W Aa (Ad (v := Value.string (bs ([116, 119, 105, 99, 101] : List UInt8))) F Aa).q fun a w F W => ?_
  refine Ae (Ab (Aw (AM (AB ?_))))
  subst H
  refine AR (.inl Aa) F W Aa (Au F Aa) ?_
  exact ⟨rfl, W.done⟩
 have H := AE (AY hb) H
 rw [hb] at F
 clear hb
 refine Ah (Ac ?_)
 refine ls F W Aa (A2 F Aa Aa).q fun a w F W => ?_
 refine ls F W Aa (Ad F Aa).q fun a w F W => ?_
 refine Ae (Ab ?_)
 refine Av F Aa (fun hb => ?_) fun hb => ?_
 ·
  have H := AF (AX hb) H
  rw [hb] at F
  clear hb
  refine Ah (Ac ?_)
  refine ls F W Aa (Ad (v := Value.string (bs ([105, 110, 106, 101, 99, 116] : List UInt8))) F Aa).q fun a w F W => ?_
  refine Ae (Ab (Aw (AM (AB ?_))))
  subst H
  refine AR (.inl Aa) F W Aa (Au F Aa) ?_
  exact ⟨rfl, W.done⟩
 have H := AE (AY hb) H
 rw [hb] at F
 clear hb
 refine Ah (Ac ?_)
 refine ls F W Aa (A2 F Aa Aa).q fun a w F W => ?_
 refine ls F W Aa (Ad F Aa).q fun a w F W => ?_
 refine Ae (Ab ?_)
 refine Av F Aa (fun hb => ?_) fun hb => ?_
 ·
  have H := AF (AX hb) H
  rw [hb] at F
  clear hb
  refine Ah (Ac ?_)
  refine ls F W Aa (Ad (v := Value.string (bs ([104, 111, 112] : List UInt8))) F Aa).q fun a w F W => ?_
  refine Ae (Ab (Aw (AM (AB ?_))))
  subst H
  refine AR (.inl Aa) F W Aa (Au F Aa) ?_
  exact ⟨rfl, W.done⟩
 have H := AE (AY hb) H
 rw [hb] at F
 clear hb
 refine Ah (Ac ?_)
 refine ls F W Aa (A2 F Aa Aa).q fun a w F W => ?_
 refine ls F W Aa (Ad F Aa).q fun a w F W => ?_
 refine Ae (Ab ?_)
 refine Av F Aa (fun hb => ?_) fun hb => ?_
 ·
  have H := AF (AX hb) H
  rw [hb] at F
  clear hb
  refine Ah (Ac ?_)
  refine ls F W Aa (Ad (v := Value.string (bs ([99, 114, 97, 115, 104] : List UInt8))) F Aa).q fun a w F W => ?_
  refine Ae (Ab (Aw (AM (AB ?_))))
  subst H
  refine AR (.inl Aa) F W Aa (Au F Aa) ?_
  exact ⟨rfl, W.done⟩
 have H := AE (AY hb) H
 rw [hb] at F
 clear hb
 refine Ah (Ac ?_)
 refine ls F W Aa (A2 F Aa Aa).q fun a w F W => ?_
 refine ls F W Aa (Ad F Aa).q fun a w F W => ?_
 refine Ae (Ab ?_)
 refine Av F Aa (fun hb => ?_) fun hb => ?_
 ·
  have H := AF (AX hb) H
  rw [hb] at F
  clear hb
  refine Ah (Ac ?_)
  refine ls F W Aa (Ad (v := Value.string (bs ([115, 116, 97, 114, 116] : List UInt8))) F Aa).q fun a w F W => ?_
  refine Ae (Ab (Aw (AM (AB ?_))))
  subst H
  refine AR (.inl Aa) F W Aa (Au F Aa) ?_
  exact ⟨rfl, W.done⟩
 have H := AE (AY hb) H
 rw [hb] at F
 clear hb
 refine As (A4 (Ab (Ah (Ac ?_))))
 refine ls F W Aa (Ad (v := Value.string (bs ([63] : List UInt8))) F Aa).q fun a w F W => ?_
 refine Ae (Ab (Aw ?_))
 subst H
 refine AR (.inl Aa) F W Aa (Au F Aa) ?_
 exact ⟨rfl, W.done⟩
theorem H6 : Has Tryd.prog 6 := ⟨fun args w => Ak Tryd.func6 rfl (by decide) args w⟩
noncomputable def AZ (p0 : List UInt8) : Int → Option (Int ⊕ (Unit ⊕ Int))
  | x1 => (if x1 ≤ 11 then (if (Ai x1) = p0 then some (.inr (.inr x1)) else some (.inl (BE (x1 + 1)))) else some (.inr (.inl ())))
noncomputable def BD (p0 : List UInt8) : Option Int := Fh (AH (AZ p0) 1) fun _ => some 0
theorem Ev (Y : Nat → Prop) (w0 : World)  (p0 : List UInt8) (r : Int) (H : BD p0 = some r)  :
    Calls Tryd.prog 33 #[.string (bs p0)] w0 fun e w' => e = .returned (.int .i64 r) ∧ Below w0.heap.size w0 w' := by
 refine enter Tryd.func33 Aa Tryd.ntmps33 Aa fun a F => ?_
 have W := Stw.start Y w0
 unfold BD at H
 refine Ah (Ac ?_)
 refine ls F W Aa (Ad F Aa).q fun a w F W => ?_
 refine Ae (Ab ?_)
 obtain ⟨o1, G1, K1, L1⟩ := Ie H
 refine AJ (fun a w => some (Sum.inl ()) = some o1 ∧ Fr 13 [] [(2, .int .i64 0)] a ∧ Stw ⟨Y, [], w0⟩ [] [] w) ?_ ?_
 ·
  have H := G1
  clear G1 K1
  refine Ah (Ac ?_)
  refine ls F W Aa (Ad F Aa).q fun a w F W => ?_
  refine Ae (Ab (AD ?_))
  refine BG H (fun s a w => Fr 13 [] [(0, .string (bs p0)), (2, .int .i64 0), (3, .int .i64 s)] a ∧ Stw ⟨Y, [], w0⟩ [] [] w) ⟨F.re ⟨rfl, Aa, Aa, trivial⟩, W⟩ fun s o a w H L2 hR => ?_
  obtain ⟨x1, rfl⟩ : ∃ x, x = s := ⟨s, rfl⟩
  obtain ⟨F, W⟩ := hR
  have F : Fr 13 [] [(0, .string (bs p0)), (2, .int .i64 0), (3, .int .i64 x1)] a := F
  have W : Stw ⟨Y, [], w0⟩ [] [] w := W
  rw [AZ] at H
  refine Ah (Ah (Ac ?_))
  refine ls F W Aa (Af F Aa).q fun a w F W => ?_
  refine ls F W Aa (Gn F Aa Aa).q fun a w F W => ?_
  refine Ae (Ab ?_)
  refine Av F Aa (fun hb => ?_) fun hb => ?_
  ·
   have H := AF (AX hb) H
   rw [hb] at F
   clear hb
   refine As (Ab (Ah (AD (Ah (Ac ?_)))))
   refine ls F W Aa (Af F Aa).q fun a w F W => ?_
   refine ls F W Aa (AA (v := Value.string (bs (Ai x1))) F H6 Aa (fun w W => Cg any w x1 _ Aa)) fun a w F W => ?_
   refine ls F W Aa (Af F Aa).q fun a w F W => ?_
   refine ls F W Aa (El (l := (Ai x1)) (m := p0) F Aa Aa).q fun a w F W => ?_
   refine Ae (Ab ?_)
   refine Av F Aa (fun hb => ?_) fun hb => ?_
   ·
    have H := AF (AX hb) H
    rw [hb] at F
    clear hb
    refine Ah (Ac ?_)
    refine ls F W Aa (Af F Aa).q fun a w F W => ?_
    refine ls F W Aa (Ad F Aa).q fun a w F W => ?_
    refine Ae (Ab (Aw (AM ?_)))
    iterate 2 refine AB ?_
    refine AM (AB ?_)
    have H := L2 _ H
    have H := L1 _ H
    have H := AW H
    subst H
    refine AR (.inl Aa) F W Aa (Au F Aa) ?_
    exact ⟨rfl, W.done⟩
   have H := AE (AY hb) H
   rw [hb] at F
   clear hb
   refine As (A4 (Ab (Ac ?_)))
   refine ls F W Aa (Af F Aa).q fun a w F W => ?_
   refine ls F W Aa (BC F Aa Aa Aa).q fun a w F W => ?_
   refine ls F W Aa (Ad F Aa).q fun a w F W => ?_
   refine Ae (Ab ?_)
   exact ⟨_, H, F.re ⟨rfl, Aa, Aa, trivial⟩, W⟩
  have H := AE (AY hb) H
  rw [hb] at F
  clear hb
  refine Bo ?_
  iterate 2 refine BN ?_
  refine Bp (Ab ?_)
  have H := L2 _ H
  exact ⟨H, F.re ⟨rfl, trivial⟩, W⟩
 rintro a w ⟨hj, F, W⟩
 have H := K1 _ hj
 clear hj G1 K1 L1
 refine Ah (Ac ?_)
 refine ls F W Aa (Ad F Aa).q fun a w F W => ?_
 refine Ae (Ab (Aw ?_))
 have H := AW H
 subst H
 refine AR (.inl Aa) F W Aa (Au F Aa) ?_
 exact ⟨rfl, W.done⟩
theorem C6 : type_of% Tryd.underlying26 := Tryd.underlying26
theorem JK : Has Tryd.prog 33 := ⟨fun args w => Ak Tryd.func33 rfl (by decide) args w⟩
theorem Jc : Bt Tryd.prog 26 [.int .i64 0, .int .i64 0, .int .i64 0] [(0, 1), (1, 1), (2, 1)] := ⟨⟨.agg #[.int .i64 0, .int .i64 0, .int .i64 0], by kernel_rfl, rfl⟩, ⟨_, C6, fun w => by kernel_rfl⟩⟩
theorem EB : Ty Tryd.prog 26 true 3 := ⟨by kernel_rfl, by kernel_rfl⟩
theorem T3 : Ty Tryd.prog 3 false 1 := ⟨by kernel_rfl, by kernel_rfl⟩
noncomputable def A3 (p0 : Int) : Option (List UInt8) := (if p0 = 1 then some true else (if p0 = 4 then some true else (if p0 = 5 then some true else (if p0 = 6 then some true else (if p0 = 7 then some true else some (decide (p0 = 9))))))).bind fun x1 => (if x1 = true then some ([78] : List UInt8) else (if p0 = 2 then some true else some (decide (p0 = 8))).bind fun x2 => (if x2 = true then some ([73, 78] : List UInt8) else (if p0 = 10 then some true else some (decide (p0 = 11))).bind fun x3 => (if x3 = true then some ([73] : List UInt8) else some ([] : List UInt8))))
theorem B7 (Y : Nat → Prop) (w0 : World)  (p0 : Int) (r : List UInt8) (H : A3 p0 = some r)  :
    Calls Tryd.prog 19 #[.int .i64 p0] w0 fun e w' => e = .returned (.string (bs r)) ∧ Below w0.heap.size w0 w' := by
 refine enter Tryd.func19 Aa Tryd.ntmps19 Aa fun a F => ?_
 have W := Stw.start Y w0
 unfold A3 at H
 refine Ah (Ac ?_)
 refine ls F W Aa (Ad (v := Value.string (bs ([] : List UInt8))) F Aa).q fun a w F W => ?_
 refine Ae (Ab (Ah (Ah (Ac ?_))))
 refine ls F W Aa (Af F Aa).q fun a w F W => ?_
 refine Ae (Ab (AD ?_))
 obtain ⟨o1, G1, K1⟩ := Al H
 refine AJ (fun a w => ∃ x1 : Bool, some (x1) = some o1 ∧ Fr 17 [] [(2, .string (bs ([] : List UInt8))), (3, .int .i64 p0), (4, .bool x1)] a ∧ Stw ⟨Y, [], w0⟩ [] [] w) ?_ ?_
 ·
  have H := G1
  clear G1 K1
  refine Ah (Ac ?_)
  refine ls F W Aa (A2 F Aa Aa).q fun a w F W => ?_
  refine ls F W Aa (Ad F Aa).q fun a w F W => ?_
  refine Ae (Ab ?_)
  refine Av F Aa (fun hb => ?_) fun hb => ?_
  ·
   have H := AF (AX hb) H
   rw [hb] at F
   clear hb
   refine As (Ab ?_)
   exact ⟨_, H, F.re ⟨rfl, Aa, Aa, trivial⟩, W⟩
  have H := AE (AY hb) H
  rw [hb] at F
  clear hb
  refine Ah (Ac ?_)
  refine ls F W Aa (A2 F Aa Aa).q fun a w F W => ?_
  refine ls F W Aa (Ad F Aa).q fun a w F W => ?_
  refine Ae (Ab ?_)
  refine Av F Aa (fun hb => ?_) fun hb => ?_
  ·
   have H := AF (AX hb) H
   rw [hb] at F
   clear hb
   refine As (Ab ?_)
   exact ⟨_, H, F.re ⟨rfl, Aa, Aa, trivial⟩, W⟩
  have H := AE (AY hb) H
  rw [hb] at F
  clear hb
  refine Ah (Ac ?_)
  refine ls F W Aa (A2 F Aa Aa).q fun a w F W => ?_
  refine ls F W Aa (Ad F Aa).q fun a w F W => ?_
  refine Ae (Ab ?_)
  refine Av F Aa (fun hb => ?_) fun hb => ?_
  ·
   have H := AF (AX hb) H
   rw [hb] at F
   clear hb
   refine As (Ab ?_)
   exact ⟨_, H, F.re ⟨rfl, Aa, Aa, trivial⟩, W⟩
  have H := AE (AY hb) H
  rw [hb] at F
  clear hb
  refine Ah (Ac ?_)
  refine ls F W Aa (A2 F Aa Aa).q fun a w F W => ?_
  refine ls F W Aa (Ad F Aa).q fun a w F W => ?_
  refine Ae (Ab ?_)
  refine Av F Aa (fun hb => ?_) fun hb => ?_
  ·
   have H := AF (AX hb) H
   rw [hb] at F
   clear hb
   refine As (Ab ?_)
   exact ⟨_, H, F.re ⟨rfl, Aa, Aa, trivial⟩, W⟩
  have H := AE (AY hb) H
  rw [hb] at F
  clear hb
  refine Ah (Ac ?_)
  refine ls F W Aa (A2 F Aa Aa).q fun a w F W => ?_
  refine ls F W Aa (Ad F Aa).q fun a w F W => ?_
  refine Ae (Ab ?_)
  refine Av F Aa (fun hb => ?_) fun hb => ?_
  ·
   have H := AF (AX hb) H
   rw [hb] at F
   clear hb
   refine As (Ab ?_)
   exact ⟨_, H, F.re ⟨rfl, Aa, Aa, trivial⟩, W⟩
  have H := AE (AY hb) H
  rw [hb] at F
  clear hb
  refine Ac ?_
  refine ls F W Aa (A2 F Aa Aa).q fun a w F W => ?_
  refine ls F W Aa (Ad F Aa).q fun a w F W => ?_
  refine Ae (Ab ?_)
  exact ⟨_, H, F.re ⟨rfl, Aa, Aa, trivial⟩, W⟩
 rintro a w ⟨x1, hj, F, W⟩
 have hj := AW hj
 subst hj
 have H := K1
 clear G1 K1
 refine Av F Aa (fun hb => ?_) fun hb => ?_
 ·
  have H := AF hb H
  rw [hb] at F
  clear hb
  refine Ah (Ac ?_)
  refine ls F W Aa (Ad (v := Value.string (bs ([78] : List UInt8))) F Aa).q fun a w F W => ?_
  refine Ae (Ab (Aw (AM (AB ?_))))
  have H := AW H
  subst H
  refine AR (.inl Aa) F W Aa (Au F Aa) ?_
  exact ⟨rfl, W.done⟩
 have H := AE (by rw [hb]; decide) H
 rw [hb] at F
 clear hb
 obtain ⟨o2, G2, K2⟩ := Al H
 refine AJ (fun a w => ∃ x2 : Bool, some (x2) = some o2 ∧ Fr 17 [] [(2, .string (bs ([] : List UInt8))), (3, .int .i64 p0), (11, .bool x2)] a ∧ Stw ⟨Y, [], w0⟩ [] [] w) ?_ ?_
 ·
  have H := G2
  clear G2 K2
  refine Ah (Ac ?_)
  refine ls F W Aa (A2 F Aa Aa).q fun a w F W => ?_
  refine ls F W Aa (Ad F Aa).q fun a w F W => ?_
  refine Ae (Ab ?_)
  refine Av F Aa (fun hb => ?_) fun hb => ?_
  ·
   have H := AF (AX hb) H
   rw [hb] at F
   clear hb
   refine As (Ab ?_)
   exact ⟨_, H, F.re ⟨rfl, Aa, Aa, trivial⟩, W⟩
  have H := AE (AY hb) H
  rw [hb] at F
  clear hb
  refine Ac ?_
  refine ls F W Aa (A2 F Aa Aa).q fun a w F W => ?_
  refine ls F W Aa (Ad F Aa).q fun a w F W => ?_
  refine Ae (Ab ?_)
  exact ⟨_, H, F.re ⟨rfl, Aa, Aa, trivial⟩, W⟩
 rintro a w ⟨x2, hj, F, W⟩
 have hj := AW hj
 subst hj
 have H := K2
 clear G2 K2
 refine Av F Aa (fun hb => ?_) fun hb => ?_
 ·
  have H := AF hb H
  rw [hb] at F
  clear hb
  refine Ah (Ac ?_)
  refine ls F W Aa (Ad (v := Value.string (bs ([73, 78] : List UInt8))) F Aa).q fun a w F W => ?_
  refine Ae (Ab (Aw (AM (AB ?_))))
  have H := AW H
  subst H
  refine AR (.inl Aa) F W Aa (Au F Aa) ?_
  exact ⟨rfl, W.done⟩
 have H := AE (by rw [hb]; decide) H
 rw [hb] at F
 clear hb
 obtain ⟨o3, G3, K3⟩ := Al H
 refine AJ (fun a w => ∃ x3 : Bool, some (x3) = some o3 ∧ Fr 17 [] [(2, .string (bs ([] : List UInt8))), (14, .bool x3)] a ∧ Stw ⟨Y, [], w0⟩ [] [] w) ?_ ?_
 ·
  have H := G3
  clear G3 K3
  refine Ah (Ac ?_)
  refine ls F W Aa (A2 F Aa Aa).q fun a w F W => ?_
  refine ls F W Aa (Ad F Aa).q fun a w F W => ?_
  refine Ae (Ab ?_)
  refine Av F Aa (fun hb => ?_) fun hb => ?_
  ·
   have H := AF (AX hb) H
   rw [hb] at F
   clear hb
   refine As (Ab ?_)
   exact ⟨_, H, F.re ⟨rfl, Aa, trivial⟩, W⟩
  have H := AE (AY hb) H
  rw [hb] at F
  clear hb
  refine Ac ?_
  refine ls F W Aa (A2 F Aa Aa).q fun a w F W => ?_
  refine ls F W Aa (Ad F Aa).q fun a w F W => ?_
  refine Ae (Ab ?_)
  exact ⟨_, H, F.re ⟨rfl, Aa, trivial⟩, W⟩
 rintro a w ⟨x3, hj, F, W⟩
 have hj := AW hj
 subst hj
 have H := K3
 clear G3 K3
 refine Av F Aa (fun hb => ?_) fun hb => ?_
 ·
  have H := AF hb H
  rw [hb] at F
  clear hb
  refine Ah (Ac ?_)
  refine ls F W Aa (Ad (v := Value.string (bs ([73] : List UInt8))) F Aa).q fun a w F W => ?_
  refine Ae (Ab (Aw (AM (AB ?_))))
  have H := AW H
  subst H
  refine AR (.inl Aa) F W Aa (Au F Aa) ?_
  exact ⟨rfl, W.done⟩
 have H := AE (by rw [hb]; decide) H
 rw [hb] at F
 clear hb
 refine As (A4 (Ab (Ah (Ac ?_))))
 refine ls F W Aa (Ad (v := Value.string (bs ([] : List UInt8))) F Aa).q fun a w F W => ?_
 refine Ae (Ab (Aw ?_))
 have H := AW H
 subst H
 refine AR (.inl Aa) F W Aa (Au F Aa) ?_
 exact ⟨rfl, W.done⟩
theorem Js : Has Tryd.prog 19 := ⟨fun args w => Ak Tryd.func19 rfl (by decide) args w⟩
theorem JJ : Has Tryd.prog 34 := ⟨fun args w => Ak Tryd.func34 rfl (by decide) args w⟩
theorem MO : Tryd.prog.follows .mixedOrders = true := by kernel_rfl
theorem Jo : Has Tryd.prog 20 := ⟨fun args w => Ak Tryd.func20 rfl (by decide) args w⟩
noncomputable def BA (p0 : Int × Int × Int) : Option Bool := (A3 p0.1).bind fun x1 => (if (Ai p0.1) ≠ ([63] : List UInt8) then (if (-1) ≤ p0.2.1 then (if p0.2.1 ≤ 15 then (if (-1000) ≤ p0.2.2 then (if p0.2.2 ≤ 1048576 then (if p0.2.1 = 0 then (if p0.2.2 = 0 then some true else (BK x1 ([78] : List UInt8)).bind fun x3 => some x3) else (BK x1 ([73] : List UInt8)).bind fun x4 => (if x4 = true then (if p0.2.2 = 0 then some true else (BK x1 ([78] : List UInt8)).bind fun x5 => some x5) else some false)) else some false) else some false) else some false) else some false) else some false).bind fun x2 => some x2
theorem CY (Y : Nat → Prop) (w0 : World)  (p0 : Int × Int × Int) (r : Bool) (H : BA p0 = some r)  :
    Calls Tryd.prog 9 #[.agg #[.int .i64 p0.1, .int .i64 p0.2.1, .int .i64 p0.2.2]] w0 fun e w' => e = .returned (.bool r) ∧ Below w0.heap.size w0 w' := by
 refine enter Tryd.func9 Aa Tryd.ntmps9 Aa fun a F => ?_
 have W := Stw.start Y w0
 unfold BA at H
 refine Ah (Ac ?_)
 refine Gr (cs := [.int .i64 p0.1, .int .i64 p0.2.1, .int .i64 p0.2.2]) F W Aa Aa Aa fun b1 a w F W => ?_
 refine ls F W Aa (Ad F Aa).q fun a w F W => ?_
 refine Ae (Ab (Ah (Ac ?_)))
 refine ls F W Aa (Am C6 Aa Aa Aa T3 F Aa 0 Aa).q fun a w F W => ?_
 refine ls F W Aa (AG (v := Value.int .i64 p0.1) 0 F Aa Aa T3 Aa).q fun a w F W => ?_
 obtain ⟨x1, h1, H⟩ := Al H
 refine ls F W Aa (AA (v := Value.string (bs x1)) F Js Aa (fun w W => B7 any w p0.1 _ h1)) fun a w F W => ?_
 refine ls F W Aa (Ad F Aa).q fun a w F W => ?_
 refine Ae (Ab ?_)
 obtain ⟨o1, G1, K1⟩ := Al H
 refine AJ (fun a w => ∃ x2 : Bool, some (x2) = some o1 ∧ Fr 49 [] [(2, .bool x2)] a ∧ Stw ⟨Y, [], w0⟩ [(b1, [.int .i64 p0.1, .int .i64 p0.2.1, .int .i64 p0.2.2])] [] w) ?_ ?_
 ·
  have H := G1
  clear G1 K1
  refine Ac ?_
  refine ls F W Aa (Am C6 Aa Aa Aa T3 F Aa 0 Aa).q fun a w F W => ?_
  refine ls F W Aa (AG (v := Value.int .i64 p0.1) 0 F Aa Aa T3 Aa).q fun a w F W => ?_
  refine ls F W Aa (AA (v := Value.string (bs (Ai p0.1))) F H6 Aa (fun w W => Cg any w p0.1 _ Aa)) fun a w F W => ?_
  refine ls F W Aa (HF (l := (Ai p0.1)) (m := ([63] : List UInt8)) F Aa Aa).q fun a w F W => ?_
  refine ls F W Aa (Af F Aa).q fun a w F W => ?_
  rcases Bool.eq_false_or_eq_true (decide ((Ai p0.1) ≠ ([63] : List UInt8))) with hb | hb
  ·
   have H := AF (AX hb) H
   rw [hb] at F
   clear hb
   refine Ax F W (Ag F Aa Aa Aa Aa) Aa (An Aa) (Am C6 Aa Aa Aa T3 F Aa 1 Aa).q fun a w F W => ?_
   refine Ax F W (Ag F Aa Aa Aa Aa) Aa (An Aa) (AG (v := Value.int .i64 p0.2.1) 0 F Aa Aa T3 Aa).q fun a w F W => ?_
   refine Ax F W (Ag F Aa Aa Aa Aa) Aa (An Aa) (Hz F Aa Aa).q fun a w F W => ?_
   refine ls F W Aa (Ao F Aa Aa Aa).q fun a w F W => ?_
   refine ls F W Aa (Af F Aa).q fun a w F W => ?_
   rcases Bool.eq_false_or_eq_true (decide ((-1) ≤ p0.2.1)) with hb | hb
   ·
    have H := AF (AX hb) H
    rw [hb] at F
    clear hb
    refine Ax F W (Ag F Aa Aa Aa Aa) Aa (An Aa) (Am C6 Aa Aa Aa T3 F Aa 1 Aa).q fun a w F W => ?_
    refine Ax F W (Ag F Aa Aa Aa Aa) Aa (An Aa) (AG (v := Value.int .i64 p0.2.1) 0 F Aa Aa T3 Aa).q fun a w F W => ?_
    refine Ax F W (Ag F Aa Aa Aa Aa) Aa (An Aa) (Gn F Aa Aa).q fun a w F W => ?_
    refine ls F W Aa (Ao F Aa Aa Aa).q fun a w F W => ?_
    refine ls F W Aa (Af F Aa).q fun a w F W => ?_
    rcases Bool.eq_false_or_eq_true (decide (p0.2.1 ≤ 15)) with hb | hb
    ·
     have H := AF (AX hb) H
     rw [hb] at F
     clear hb
     refine Ax F W (Ag F Aa Aa Aa Aa) Aa (An Aa) (Am C6 Aa Aa Aa T3 F Aa 2 Aa).q fun a w F W => ?_
     refine Ax F W (Ag F Aa Aa Aa Aa) Aa (An Aa) (AG (v := Value.int .i64 p0.2.2) 0 F Aa Aa T3 Aa).q fun a w F W => ?_
     refine Ax F W (Ag F Aa Aa Aa Aa) Aa (An Aa) (Hz F Aa Aa).q fun a w F W => ?_
     refine ls F W Aa (Ao F Aa Aa Aa).q fun a w F W => ?_
     refine ls F W Aa (Af F Aa).q fun a w F W => ?_
     rcases Bool.eq_false_or_eq_true (decide ((-1000) ≤ p0.2.2)) with hb | hb
     ·
      have H := AF (AX hb) H
      rw [hb] at F
      clear hb
      refine Ax F W (Ag F Aa Aa Aa Aa) Aa (An Aa) (Am C6 Aa Aa Aa T3 F Aa 2 Aa).q fun a w F W => ?_
      refine Ax F W (Ag F Aa Aa Aa Aa) Aa (An Aa) (AG (v := Value.int .i64 p0.2.2) 0 F Aa Aa T3 Aa).q fun a w F W => ?_
      refine Ax F W (Ag F Aa Aa Aa Aa) Aa (An Aa) (Gn F Aa Aa).q fun a w F W => ?_
      refine ls F W Aa (Ao F Aa Aa Aa).q fun a w F W => ?_
      refine ls F W Aa (Af F Aa).q fun a w F W => ?_
      rcases Bool.eq_false_or_eq_true (decide (p0.2.2 ≤ 1048576)) with hb | hb
      ·
       have H := AF (AX hb) H
       rw [hb] at F
       clear hb
       refine Ax F W (Ag F Aa Aa Aa Aa) Aa (An Aa) (Am C6 Aa Aa Aa T3 F Aa 1 Aa).q fun a w F W => ?_
       refine Ax F W (Ag F Aa Aa Aa Aa) Aa (An Aa) (AG (v := Value.int .i64 p0.2.1) 0 F Aa Aa T3 Aa).q fun a w F W => ?_
       refine Ax F W (Ag F Aa Aa Aa Aa) Aa (An Aa) (A2 F Aa Aa).q fun a w F W => ?_
       refine Ax F W (Ag F Aa Aa Aa Aa) Aa (An Aa) (Af F Aa).q fun a w F W => ?_
       rcases Bool.eq_false_or_eq_true (decide (p0.2.1 = 0)) with hb | hb
       ·
        have H := AF (AX hb) H
        rw [hb] at F
        clear hb
        iterate 2 refine Bf F Aa Aa Aa Aa Aa Aa Aa fun a F => ?_
        refine Ax F W (Ag F Aa Aa Aa Aa) Aa (An Aa) (Ao F Aa Aa Aa).q fun a w F W => ?_
        refine ls F W Aa (Ao F Aa Aa Aa).q fun a w F W => ?_
        refine ls F W Aa (Af F Aa).q fun a w F W => ?_
        refine Ax F W (Ag F Aa Aa Aa Aa) Aa (An Aa) (Am C6 Aa Aa Aa T3 F Aa 2 Aa).q fun a w F W => ?_
        refine Ax F W (Ag F Aa Aa Aa Aa) Aa (An Aa) (AG (v := Value.int .i64 p0.2.2) 0 F Aa Aa T3 Aa).q fun a w F W => ?_
        refine Ax F W (Ag F Aa Aa Aa Aa) Aa (An Aa) (A2 F Aa Aa).q fun a w F W => ?_
        refine Ax F W (Ag F Aa Aa Aa Aa) Aa (An Aa) (Af F Aa).q fun a w F W => ?_
        rcases Bool.eq_false_or_eq_true (decide (p0.2.2 = 0)) with hb | hb
        ·
         have H := AF (AX hb) H
         rw [hb] at F
         clear hb
         iterate 2 refine Bf F Aa Aa Aa Aa Aa Aa Aa fun a F => ?_
         refine Ax F W (Ag F Aa Aa Aa Aa) Aa (An Aa) (Ao F Aa Aa Aa).q fun a w F W => ?_
         refine ls F W Aa (Ao F Aa Aa Aa).q fun a w F W => ?_
         refine ls F W Aa (Ad F Aa).q fun a w F W => ?_
         refine Ae (Ab ?_)
         exact ⟨_, H, F.re ⟨rfl, trivial⟩, W⟩
        have H := AE (AY hb) H
        rw [hb] at F
        clear hb
        refine Ax F W (Ag F Aa Aa Aa Aa) Aa (An Aa) (Af F Aa).q fun a w F W => ?_
        refine Gs (Ag F Aa Aa Aa Aa) ?_
        obtain ⟨x3, h2, H⟩ := Al H
        refine ls F W Aa (AA (v := Value.bool x3) F Jo Aa (fun w W => DE any w x1 ([78] : List UInt8) _ h2)) fun a w F W => ?_
        refine Ax F W (Ag F Aa Aa Aa Aa) Aa (An Aa) (Aj F Aa Aa Aa).q fun a w F W => ?_
        refine ls F W Aa (Ao F Aa Aa Aa).q fun a w F W => ?_
        refine ls F W Aa (Ad F Aa).q fun a w F W => ?_
        refine Ae (Ab ?_)
        exact ⟨_, H, F.re ⟨rfl, trivial⟩, W⟩
       have H := AE (AY hb) H
       rw [hb] at F
       clear hb
       refine Ax F W (Ag F Aa Aa Aa Aa) Aa (An Aa) (Af F Aa).q fun a w F W => ?_
       refine Gs (Ag F Aa Aa Aa Aa) ?_
       obtain ⟨x4, h3, H⟩ := Al H
       refine ls F W Aa (AA (v := Value.bool x4) F Jo Aa (fun w W => DE any w x1 ([73] : List UInt8) _ h3)) fun a w F W => ?_
       refine Ax F W (Ag F Aa Aa Aa Aa) Aa (An Aa) (Aj F Aa Aa Aa).q fun a w F W => ?_
       refine ls F W Aa (Ao F Aa Aa Aa).q fun a w F W => ?_
       refine ls F W Aa (Af F Aa).q fun a w F W => ?_
       rcases Bool.eq_false_or_eq_true x4 with hb | hb
       ·
        have H := AF hb H
        rw [hb] at F
        clear hb
        refine Ax F W (Ag F Aa Aa Aa Aa) Aa (An Aa) (Am C6 Aa Aa Aa T3 F Aa 2 Aa).q fun a w F W => ?_
        refine Ax F W (Ag F Aa Aa Aa Aa) Aa (An Aa) (AG (v := Value.int .i64 p0.2.2) 0 F Aa Aa T3 Aa).q fun a w F W => ?_
        refine Ax F W (Ag F Aa Aa Aa Aa) Aa (An Aa) (A2 F Aa Aa).q fun a w F W => ?_
        refine Ax F W (Ag F Aa Aa Aa Aa) Aa (An Aa) (Af F Aa).q fun a w F W => ?_
        rcases Bool.eq_false_or_eq_true (decide (p0.2.2 = 0)) with hb | hb
        ·
         have H := AF (AX hb) H
         rw [hb] at F
         clear hb
         iterate 2 refine Bf F Aa Aa Aa Aa Aa Aa Aa fun a F => ?_
         refine Ax F W (Ag F Aa Aa Aa Aa) Aa (An Aa) (Ao F Aa Aa Aa).q fun a w F W => ?_
         refine ls F W Aa (Ao F Aa Aa Aa).q fun a w F W => ?_
         refine ls F W Aa (Ad F Aa).q fun a w F W => ?_
         refine Ae (Ab ?_)
         exact ⟨_, H, F.re ⟨rfl, trivial⟩, W⟩
        have H := AE (AY hb) H
        rw [hb] at F
        clear hb
        refine Ax F W (Ag F Aa Aa Aa Aa) Aa (An Aa) (Af F Aa).q fun a w F W => ?_
        refine Gs (Ag F Aa Aa Aa Aa) ?_
        obtain ⟨x5, h4, H⟩ := Al H
        refine ls F W Aa (AA (v := Value.bool x5) F Jo Aa (fun w W => DE any w x1 ([78] : List UInt8) _ h4)) fun a w F W => ?_
        refine Ax F W (Ag F Aa Aa Aa Aa) Aa (An Aa) (Aj F Aa Aa Aa).q fun a w F W => ?_
        refine ls F W Aa (Ao F Aa Aa Aa).q fun a w F W => ?_
        refine ls F W Aa (Ad F Aa).q fun a w F W => ?_
        refine Ae (Ab ?_)
        exact ⟨_, H, F.re ⟨rfl, trivial⟩, W⟩
       have H := AE (by rw [hb]; decide) H
       rw [hb] at F
       clear hb
       iterate 4 refine Bf F Aa Aa Aa Aa Aa Aa Aa fun a F => ?_
       iterate 2 refine HI F Aa Aa Aa Aa Aa Aa fun a F => ?_
       refine Bf F Aa Aa Aa Aa Aa Aa Aa fun a F => ?_
       refine ls F W Aa (Aj F Aa Aa Aa).q fun a w F W => ?_
       refine ls F W Aa (Ad F Aa).q fun a w F W => ?_
       refine Ae (Ab ?_)
       exact ⟨_, H, F.re ⟨rfl, trivial⟩, W⟩
      have H := AE (AY hb) H
      rw [hb] at F
      clear hb
      iterate 4 refine Bf F Aa Aa Aa Aa Aa Aa Aa fun a F => ?_
      iterate 2 refine HI F Aa Aa Aa Aa Aa Aa fun a F => ?_
      refine Bf F Aa Aa Aa Aa Aa Aa Aa fun a F => ?_
      refine ls F W Aa (Aj F Aa Aa Aa).q fun a w F W => ?_
      refine ls F W Aa (Af F Aa).q fun a w F W => ?_
      iterate 4 refine Bf F Aa Aa Aa Aa Aa Aa Aa fun a F => ?_
      iterate 2 refine HI F Aa Aa Aa Aa Aa Aa fun a F => ?_
      refine Bf F Aa Aa Aa Aa Aa Aa Aa fun a F => ?_
      refine ls F W Aa (Aj F Aa Aa Aa).q fun a w F W => ?_
      refine ls F W Aa (Ad F Aa).q fun a w F W => ?_
      refine Ae (Ab ?_)
      exact ⟨_, H, F.re ⟨rfl, trivial⟩, W⟩
     have H := AE (AY hb) H
     rw [hb] at F
     clear hb
     iterate 3 refine Bf F Aa Aa Aa Aa Aa Aa Aa fun a F => ?_
     refine ls F W Aa (Aj F Aa Aa Aa).q fun a w F W => ?_
     refine ls F W Aa (Af F Aa).q fun a w F W => ?_
     iterate 4 refine Bf F Aa Aa Aa Aa Aa Aa Aa fun a F => ?_
     iterate 2 refine HI F Aa Aa Aa Aa Aa Aa fun a F => ?_
     refine Bf F Aa Aa Aa Aa Aa Aa Aa fun a F => ?_
     refine ls F W Aa (Aj F Aa Aa Aa).q fun a w F W => ?_
     refine ls F W Aa (Af F Aa).q fun a w F W => ?_
     iterate 4 refine Bf F Aa Aa Aa Aa Aa Aa Aa fun a F => ?_
     iterate 2 refine HI F Aa Aa Aa Aa Aa Aa fun a F => ?_
     refine Bf F Aa Aa Aa Aa Aa Aa Aa fun a F => ?_
     refine ls F W Aa (Aj F Aa Aa Aa).q fun a w F W => ?_
     refine ls F W Aa (Ad F Aa).q fun a w F W => ?_
     refine Ae (Ab ?_)
     exact ⟨_, H, F.re ⟨rfl, trivial⟩, W⟩
    have H := AE (AY hb) H
    rw [hb] at F
    clear hb
    iterate 3 refine Bf F Aa Aa Aa Aa Aa Aa Aa fun a F => ?_
    refine ls F W Aa (Aj F Aa Aa Aa).q fun a w F W => ?_
    refine ls F W Aa (Af F Aa).q fun a w F W => ?_
    iterate 3 refine Bf F Aa Aa Aa Aa Aa Aa Aa fun a F => ?_
    refine ls F W Aa (Aj F Aa Aa Aa).q fun a w F W => ?_
    refine ls F W Aa (Af F Aa).q fun a w F W => ?_
    iterate 4 refine Bf F Aa Aa Aa Aa Aa Aa Aa fun a F => ?_
    iterate 2 refine HI F Aa Aa Aa Aa Aa Aa fun a F => ?_
    refine Bf F Aa Aa Aa Aa Aa Aa Aa fun a F => ?_
    refine ls F W Aa (Aj F Aa Aa Aa).q fun a w F W => ?_
    refine ls F W Aa (Af F Aa).q fun a w F W => ?_
    iterate 4 refine Bf F Aa Aa Aa Aa Aa Aa Aa fun a F => ?_
    iterate 2 refine HI F Aa Aa Aa Aa Aa Aa fun a F => ?_
    refine Bf F Aa Aa Aa Aa Aa Aa Aa fun a F => ?_
    refine ls F W Aa (Aj F Aa Aa Aa).q fun a w F W => ?_
    refine ls F W Aa (Ad F Aa).q fun a w F W => ?_
    refine Ae (Ab ?_)
    exact ⟨_, H, F.re ⟨rfl, trivial⟩, W⟩
   have H := AE (AY hb) H
   rw [hb] at F
   clear hb
   iterate 3 refine Bf F Aa Aa Aa Aa Aa Aa Aa fun a F => ?_
   refine ls F W Aa (Aj F Aa Aa Aa).q fun a w F W => ?_
   refine ls F W Aa (Af F Aa).q fun a w F W => ?_
   iterate 3 refine Bf F Aa Aa Aa Aa Aa Aa Aa fun a F => ?_
   refine ls F W Aa (Aj F Aa Aa Aa).q fun a w F W => ?_
   refine ls F W Aa (Af F Aa).q fun a w F W => ?_
   iterate 3 refine Bf F Aa Aa Aa Aa Aa Aa Aa fun a F => ?_
   refine ls F W Aa (Aj F Aa Aa Aa).q fun a w F W => ?_
   refine ls F W Aa (Af F Aa).q fun a w F W => ?_
   iterate 4 refine Bf F Aa Aa Aa Aa Aa Aa Aa fun a F => ?_
   iterate 2 refine HI F Aa Aa Aa Aa Aa Aa fun a F => ?_
   refine Bf F Aa Aa Aa Aa Aa Aa Aa fun a F => ?_
   refine ls F W Aa (Aj F Aa Aa Aa).q fun a w F W => ?_
   refine ls F W Aa (Af F Aa).q fun a w F W => ?_
   iterate 4 refine Bf F Aa Aa Aa Aa Aa Aa Aa fun a F => ?_
   iterate 2 refine HI F Aa Aa Aa Aa Aa Aa fun a F => ?_
   refine Bf F Aa Aa Aa Aa Aa Aa Aa fun a F => ?_
   refine ls F W Aa (Aj F Aa Aa Aa).q fun a w F W => ?_
   refine ls F W Aa (Ad F Aa).q fun a w F W => ?_
   refine Ae (Ab ?_)
   exact ⟨_, H, F.re ⟨rfl, trivial⟩, W⟩
  have H := AE (AY hb) H
  rw [hb] at F
  clear hb
  iterate 3 refine Bf F Aa Aa Aa Aa Aa Aa Aa fun a F => ?_
  refine ls F W Aa (Aj F Aa Aa Aa).q fun a w F W => ?_
  refine ls F W Aa (Af F Aa).q fun a w F W => ?_
  iterate 3 refine Bf F Aa Aa Aa Aa Aa Aa Aa fun a F => ?_
  refine ls F W Aa (Aj F Aa Aa Aa).q fun a w F W => ?_
  refine ls F W Aa (Af F Aa).q fun a w F W => ?_
  iterate 3 refine Bf F Aa Aa Aa Aa Aa Aa Aa fun a F => ?_
  refine ls F W Aa (Aj F Aa Aa Aa).q fun a w F W => ?_
  refine ls F W Aa (Af F Aa).q fun a w F W => ?_
  iterate 3 refine Bf F Aa Aa Aa Aa Aa Aa Aa fun a F => ?_
  refine ls F W Aa (Aj F Aa Aa Aa).q fun a w F W => ?_
  refine ls F W Aa (Af F Aa).q fun a w F W => ?_
  iterate 4 refine Bf F Aa Aa Aa Aa Aa Aa Aa fun a F => ?_
  iterate 2 refine HI F Aa Aa Aa Aa Aa Aa fun a F => ?_
  refine Bf F Aa Aa Aa Aa Aa Aa Aa fun a F => ?_
  refine ls F W Aa (Aj F Aa Aa Aa).q fun a w F W => ?_
  refine ls F W Aa (Af F Aa).q fun a w F W => ?_
  iterate 4 refine Bf F Aa Aa Aa Aa Aa Aa Aa fun a F => ?_
  iterate 2 refine HI F Aa Aa Aa Aa Aa Aa fun a F => ?_
  refine Bf F Aa Aa Aa Aa Aa Aa Aa fun a F => ?_
  refine ls F W Aa (Aj F Aa Aa Aa).q fun a w F W => ?_
  refine ls F W Aa (Ad F Aa).q fun a w F W => ?_
  refine Ae (Ab ?_)
  exact ⟨_, H, F.re ⟨rfl, trivial⟩, W⟩
 rintro a w ⟨x2, hj, F, W⟩
 have hj := AW hj
 subst hj
 have H := K1
 clear G1 K1
 refine Aw ?_
 have H := AW H
 subst H
 refine AR (.inl Aa) F W Aa (Au F Aa) ?_
 exact ⟨rfl, W.done⟩
theorem E3 : type_of% Tryd.underlying9 := Tryd.underlying9
theorem H9 : Has Tryd.prog 9 := ⟨fun args w => Ak Tryd.func9 rfl (by decide) args w⟩
theorem JY : Has Tryd.prog 23 := ⟨fun args w => Ak Tryd.func23 rfl (by decide) args w⟩
noncomputable def Bc (p0 : Int × Int × Int) (x2 : List UInt8) : (List UInt8 × Int) → Option ((List UInt8 × Int) ⊕ (List UInt8))
  | (x4, x5) => (if x5 < (x2.length : Int) then ((ix x2 x5).bind fun x7 => (if (x7.toNat : Int) = 73 then some p0.2.1 else some p0.2.2)).bind fun x6 => (F8 x6).bind fun x8 => (DB ([32] : List UInt8) x8).bind fun x9 => (DB x4 x9).bind fun x10 => some (.inl (x10, BE (x5 + 1))) else some (.inr x4))
noncomputable def Ba (p0 : Int × Int × Int) : Option (List UInt8) := (BA p0).bind fun x1 => (if (!x1) = true then some ([] : List UInt8) else (A3 p0.1).bind fun x2 => (AH (Bc p0 x2) ((Ai p0.1), 0)).bind fun x3 => some x3)
theorem Cf (Y : Nat → Prop) (w0 : World)  (p0 : Int × Int × Int) (r : List UInt8) (H : Ba p0 = some r) (hG : Gk [] w0) :
    Calls Tryd.prog 11 #[.agg #[.int .i64 p0.1, .int .i64 p0.2.1, .int .i64 p0.2.2]] w0 fun e w' => e = .returned (.string (bs r)) ∧ Below w0.heap.size w0 w' := by
 refine enter Tryd.func11 Aa Tryd.ntmps11 Aa fun a F => ?_
 have W := Stw.start Y w0
 unfold Ba at H
 refine Ah (Ac ?_)
 refine Gr (cs := [.int .i64 p0.1, .int .i64 p0.2.1, .int .i64 p0.2.2]) F W Aa Aa Aa fun b1 a w F W => ?_
 refine ls F W Aa (Ad (v := Value.string (bs ([] : List UInt8))) F Aa).q fun a w F W => ?_
 refine Ae (Ab (Ah (Ah (Ac ?_))))
 refine ls F W Aa (AG (v := Value.agg #[.int .i64 p0.1, .int .i64 p0.2.1, .int .i64 p0.2.2]) 0 F Aa Aa EB Aa).q fun a w F W => ?_
 obtain ⟨x1, h1, H⟩ := Al H
 refine ls F W Aa (AA (v := Value.bool x1) F H9 Aa (fun w W => CY any w p0 _ h1)) fun a w F W => ?_
 refine ls F W Aa (EP F Aa).q fun a w F W => ?_
 refine Ae (Ab ?_)
 refine Av F Aa (fun hb => ?_) fun hb => ?_
 ·
  have H := AF hb H
  rw [hb] at F
  clear hb
  refine Ah (Ac ?_)
  refine ls F W Aa (Ad (v := Value.string (bs ([] : List UInt8))) F Aa).q fun a w F W => ?_
  refine Ae (Ab (Aw (AB ?_)))
  have H := AW H
  subst H
  refine AR (.inl Aa) F W Aa (Au F Aa) ?_
  exact ⟨rfl, W.done⟩
 have H := AE (by rw [hb]; decide) H
 rw [hb] at F
 clear hb
 refine As (Ab (Ah (Ac ?_)))
 refine ls F W Aa (Am C6 Aa Aa Aa T3 F Aa 0 Aa).q fun a w F W => ?_
 refine ls F W Aa (AG (v := Value.int .i64 p0.1) 0 F Aa Aa T3 Aa).q fun a w F W => ?_
 refine ls F W Aa (AA (v := Value.string (bs (Ai p0.1))) F H6 Aa (fun w W => Cg any w p0.1 _ Aa)) fun a w F W => ?_
 refine ls F W Aa (Ad F Aa).q fun a w F W => ?_
 refine Ae (Ab (Ah (Ac ?_)))
 refine ls F W Aa (Am C6 Aa Aa Aa T3 F Aa 0 Aa).q fun a w F W => ?_
 refine ls F W Aa (AG (v := Value.int .i64 p0.1) 0 F Aa Aa T3 Aa).q fun a w F W => ?_
 obtain ⟨x2, h2, H⟩ := Al H
 refine ls F W Aa (AA (v := Value.string (bs x2)) F Js Aa (fun w W => B7 any w p0.1 _ h2)) fun a w F W => ?_
 refine ls F W Aa (Ad F Aa).q fun a w F W => ?_
 refine Ae (Ab ?_)
 obtain ⟨o1, G1, K1⟩ := Al H
 refine AJ (fun a w => ∃ x3 : List UInt8, some (x3) = some o1 ∧ Fr 36 [] [(2, .string (bs ([] : List UInt8))), (3, .string (bs x3))] a ∧ Stw ⟨Y, [], w0⟩ [(b1, [.int .i64 p0.1, .int .i64 p0.2.1, .int .i64 p0.2.2])] [] w) ?_ ?_
 ·
  have H := G1
  clear G1 K1
  refine Ah (Ac ?_)
  refine ls F W Aa (Af F Aa).q fun a w F W => ?_
  refine ls F W Aa (CX (l := x2) E3 Aa F Aa).q fun a w F W => ?_
  refine ls F W Aa (Af F Aa).q fun a w F W => ?_
  refine Ae (Ab (AD ?_))
  refine BG H (fun s a w => Fr 36 [] [(1, .pointer (some ⟨b1, 0, none⟩)), (2, .string (bs ([] : List UInt8))), (3, .string (bs s.1)), (4, .string (bs x2)), (17, .int .i64 (x2.length : Int)), (18, .int .i64 s.2)] a ∧ Stw ⟨Y, [], w0⟩ [(b1, [.int .i64 p0.1, .int .i64 p0.2.1, .int .i64 p0.2.2])] [] w) ⟨F.re ⟨rfl, Aa, Aa, Aa, Aa, Aa, trivial⟩, W⟩ fun s o a w H L2 hR => ?_
  obtain ⟨x4, x5⟩ := s
  obtain ⟨F, W⟩ := hR
  have F : Fr 36 [] [(1, .pointer (some ⟨b1, 0, none⟩)), (2, .string (bs ([] : List UInt8))), (3, .string (bs x4)), (4, .string (bs x2)), (17, .int .i64 (x2.length : Int)), (18, .int .i64 x5)] a := F
  have W : Stw ⟨Y, [], w0⟩ [(b1, [.int .i64 p0.1, .int .i64 p0.2.1, .int .i64 p0.2.2])] [] w := W
  rw [Bc] at H
  refine Ah (Ac ?_)
  refine ls F W Aa (BV F Aa Aa).q fun a w F W => ?_
  refine Ae (Ab (Ah ?_))
  refine Av F Aa (fun hb => ?_) fun hb => ?_
  ·
   have H := AF (AX hb) H
   rw [hb] at F
   clear hb
   refine As (Ab (Ah (AD (Ah (Ac ?_)))))
   refine ls F W Aa (Af F Aa).q fun a w F W => ?_
   refine ls F W Aa (Ad F Aa).q fun a w F W => ?_
   refine Ae (Ab (Ah (Ac ?_)))
   refine ls F W Aa (Am C6 Aa Aa Aa T3 F Aa 2 Aa).q fun a w F W => ?_
   refine ls F W Aa (AG (v := Value.int .i64 p0.2.2) 0 F Aa Aa T3 Aa).q fun a w F W => ?_
   refine ls F W Aa (Ad F Aa).q fun a w F W => ?_
   refine Ae (Ab ?_)
   obtain ⟨o3, G3, K3⟩ := Al H
   refine AJ (fun a w => ∃ x6 : Int, some (x6) = some o3 ∧ Fr 36 [] [(1, .pointer (some ⟨b1, 0, none⟩)), (2, .string (bs ([] : List UInt8))), (3, .string (bs x4)), (4, .string (bs x2)), (6, .int .i64 x6), (17, .int .i64 (x2.length : Int)), (18, .int .i64 x5)] a ∧ Stw ⟨Y, [], w0⟩ [(b1, [.int .i64 p0.1, .int .i64 p0.2.1, .int .i64 p0.2.2])] [] w) ?_ ?_
   ·
    have H := G3
    clear G3 K3
    refine Ah (Ac ?_)
    iterate 2 refine ls F W Aa (Af F Aa).q fun a w F W => ?_
    obtain ⟨x7, h3, H⟩ := Al H
    refine ls F W Aa (BQ (l := x2) E3 F Aa Aa h3).q fun a w F W => ?_
    refine ls F W Aa (A2 F Aa Aa).q fun a w F W => ?_
    refine Ae (Ab ?_)
    refine Av F Aa (fun hb => ?_) fun hb => ?_
    ·
     have H := AF (AX hb) H
     rw [hb] at F
     clear hb
     refine Ac ?_
     refine ls F W Aa (Am C6 Aa Aa Aa T3 F Aa 1 Aa).q fun a w F W => ?_
     refine ls F W Aa (AG (v := Value.int .i64 p0.2.1) 0 F Aa Aa T3 Aa).q fun a w F W => ?_
     refine ls F W Aa (Ad F Aa).q fun a w F W => ?_
     refine Ae (Ab ?_)
     exact ⟨_, H, F.re ⟨rfl, Aa, Aa, Aa, Aa, Aa, Aa, trivial⟩, W⟩
    have H := AE (AY hb) H
    rw [hb] at F
    clear hb
    refine As (Ab ?_)
    exact ⟨_, H, F.re ⟨rfl, Aa, Aa, Aa, Aa, Aa, Aa, trivial⟩, W⟩
   rintro a w ⟨x6, hj, F, W⟩
   have hj := AW hj
   subst hj
   have H := K3
   clear G3 K3
   refine Ac ?_
   iterate 2 refine ls F W Aa (Af F Aa).q fun a w F W => ?_
   obtain ⟨x8, h4, H⟩ := Al H
   refine ls F W Aa (AA (v := Value.string (bs x8)) F JY Aa (fun w W => IW any w x6 _ h4 (hG.go0 W))) fun a w F W => ?_
   obtain ⟨x9, h5, H⟩ := Al H
   refine ls F W Aa (B5 (l := ([32] : List UInt8)) (m := x8) F Aa Aa h5).q fun a w F W => ?_
   obtain ⟨x10, h6, H⟩ := Al H
   refine ls F W Aa (B5 (l := x4) (m := x9) F Aa Aa h6).q fun a w F W => ?_
   refine ls F W Aa (Ad F Aa).q fun a w F W => ?_
   refine Ae (A4 (Ab (Ac ?_)))
   refine ls F W Aa (BC F Aa Aa Aa).q fun a w F W => ?_
   refine ls F W Aa (Af F Aa).q fun a w F W => ?_
   refine Ae (Ab ?_)
   exact ⟨_, H, F.re ⟨rfl, Aa, Aa, Aa, Aa, Aa, trivial⟩, W⟩
  have H := AE (AY hb) H
  rw [hb] at F
  clear hb
  refine Bo ?_
  iterate 2 refine BN ?_
  refine Bp (Ab ?_)
  have H := L2 _ H
  exact ⟨_, H, F.re ⟨rfl, Aa, trivial⟩, W⟩
 rintro a w ⟨x3, hj, F, W⟩
 have hj := AW hj
 subst hj
 have H := K1
 clear G1 K1
 refine Ah (Ac ?_)
 refine ls F W Aa (Af F Aa).q fun a w F W => ?_
 refine ls F W Aa (Ad F Aa).q fun a w F W => ?_
 refine Ae (Ab (Aw ?_))
 have H := AW H
 subst H
 refine AR (.inl Aa) F W Aa (Au F Aa) ?_
 exact ⟨rfl, W.done⟩
theorem Jd : type_of% Tryd.underlying58 := Tryd.underlying58
theorem Jl : Has Tryd.prog 11 := ⟨fun args w => Ak Tryd.func11 rfl (by decide) args w⟩
noncomputable def Ap (x1 : List (List UInt8)) (x4 : List UInt8) : (Int × Int × Int) → Option ((Int × Int × Int) ⊕ ((Int × Int) ⊕ ((Int × Int × Int) × Bool)))
  | (x7, x8, x9) => (if x7 < (x4.length : Int) then Fh ((ix x1 (BE (x7 + 1))).bind fun x12 => (Gp x12).bind fun x13 => GI x13 (fun x14 => (ix x4 x7).bind fun x16 => (if (x16.toNat : Int) = 73 then some (.inl (x14, x9)) else some (.inl (x8, x14)))) (fun x15 => some (.inr (.inr (.inr ((0, 0, 0), false)))))) fun (x10, x11) => some (.inl (BE (x7 + 1), x10, x11)) else some (.inr (.inl (x8, x9))))
noncomputable def AN (p0 : List UInt8) : Option ((Int × Int × Int) × Bool) := (Df p0 ([32] : List UInt8)).bind fun x1 => (ix x1 0).bind fun x2 => (BD x2).bind fun x3 => (A3 x3).bind fun x4 => (if (x1.length : Int) ≠ (BE (1 + (x4.length : Int))) then some ((0, 0, 0), false) else Fh (AH (Ap x1 x4) (0, 0, 0)) fun (x5, x6) => (Ba (x3, x5, x6)).bind fun x17 => some ((x3, x5, x6), decide (x17 = p0)))
theorem DM (Y : Nat → Prop) (w0 : World)  (p0 : List UInt8) (r : (Int × Int × Int) × Bool) (H : AN p0 = some r) (hG : Gk [] w0) :
    Calls Tryd.prog 26 #[.string (bs p0)] w0 fun e w' => e = .returned (.tuple #[.agg #[.int .i64 r.1.1, .int .i64 r.1.2.1, .int .i64 r.1.2.2], .bool r.2]) ∧ Below w0.heap.size w0 w' := by
 refine enter Tryd.func26 Aa Tryd.ntmps26 Aa fun a F => ?_
 have W := Stw.start Y w0
 unfold AN at H
 refine Ah (Ac ?_)
 refine Cu (cs := [.int .i64 0, .int .i64 0, .int .i64 0]) F W Aa IE Aa fun b1 a w F W => ?_
 refine ls F W Aa (Ad F Aa).q fun a w F W => ?_
 refine Ae (Ab (Ah (Ac ?_)))
 refine ls F W Aa (Af F Aa).q fun a w F W => ?_
 obtain ⟨x1, h1, H⟩ := Al H
 refine B1 (Ml := []) (Zl := []) (M := [(b1, [.int .i64 0, .int .i64 0, .int .i64 0])]) (Z := []) (β := Value) (rv := fun x => x) (MM := fun x => []) (ZZ := fun x => [row x 9 Rp.str x1]) F W JC Aa Aa (fun hL => GP _ w p0 ([32] : List UInt8) _ h1 (hG.go0 W)) fun x a w F W => ?_
 obtain ⟨v1, rfl⟩ : ∃ y, y = x := ⟨x, rfl⟩
 have W : Stw ⟨Y, [], w0⟩ [(b1, [.int .i64 0, .int .i64 0, .int .i64 0])] [row v1 9 Rp.str x1] w := W
 refine ls F W Aa (Ad F Aa).q fun a w F W => ?_
 refine Ae (Ab (Ah (Ac ?_)))
 refine ls F W Aa (Af F Aa).q fun a w F W => ?_
 obtain ⟨x2, h2, H⟩ := Al H
 refine ls F W Aa (Bz (r := Rp.str) I5 F Aa Aa (A8 0 Aa) h2).q fun a w F W => ?_
 refine ls F W Aa (A5 (y := Value.string (bs x2)) (j := 0) (i := 0) F Aa Aa (A8 0 Aa) h2 Fl.str.to T9 Aa).q fun a w F W => ?_
 obtain ⟨x3, h3, H⟩ := Al H
 refine ls F W Aa (AA (v := Value.int .i64 x3) F JK Aa (fun w W => Ev any w x2 _ h3)) fun a w F W => ?_
 refine ls F W Aa (Dl (v := Value.agg #[.int .i64 x3, .int .i64 0, .int .i64 0]) Jc F Aa Aa Aa).q fun a w F W => ?_
 refine Cu (cs := [.int .i64 0, .int .i64 0, .int .i64 0]) F W Aa IE Aa fun b2 a w F W => ?_
 refine Bh (vs := [.int .i64 x3, .int .i64 0, .int .i64 0]) (M' := [(b2, [.int .i64 x3, .int .i64 0, .int .i64 0]), (b1, [.int .i64 0, .int .i64 0, .int .i64 0])]) 0 F W Aa Aa Aa EB Aa Aa Aa Aa Aa fun w W => ?_
 refine Ae (Ab (Ah (Ac ?_)))
 refine ls F W Aa (Am C6 Aa Aa Aa T3 F Aa 0 Aa).q fun a w F W => ?_
 refine ls F W Aa (AG (v := Value.int .i64 x3) 0 F Aa Aa T3 Aa).q fun a w F W => ?_
 obtain ⟨x4, h4, H⟩ := Al H
 refine ls F W Aa (AA (v := Value.string (bs x4)) F Js Aa (fun w W => B7 any w x3 _ h4)) fun a w F W => ?_
 refine ls F W Aa (Ad F Aa).q fun a w F W => ?_
 refine Ae (Ab (Ah (Ah (Ac ?_))))
 refine ls F W Aa (Af F Aa).q fun a w F W => ?_
 refine ls F W Aa (Da (r := Rp.str) (l := x1) I0 Aa F Aa (A8 0 Aa)).q fun a w F W => ?_
 refine ls F W Aa (Af F Aa).q fun a w F W => ?_
 refine ls F W Aa (CX (l := x4) E3 Aa F Aa).q fun a w F W => ?_
 refine ls F W Aa (BC F Aa Aa Aa).q fun a w F W => ?_
 refine ls F W Aa (En F Aa Aa).q fun a w F W => ?_
 refine Ae (Ab ?_)
 refine Av F Aa (fun hb => ?_) fun hb => ?_
 ·
  have H := AF (AX hb) H
  rw [hb] at F
  clear hb
  refine Ah (Ac ?_)
  refine ls F W Aa (Dl (v := Value.agg #[.int .i64 0, .int .i64 0, .int .i64 0]) Jc F Aa Aa Aa).q fun a w F W => ?_
  refine Bh (vs := [.int .i64 0, .int .i64 0, .int .i64 0]) (M' := [(b2, [.int .i64 x3, .int .i64 0, .int .i64 0]), (b1, [.int .i64 0, .int .i64 0, .int .i64 0])]) 1 F W Aa Aa Aa EB Aa Aa Aa Aa Aa fun w W => ?_
  refine ls F W Aa (Ad F Aa).q fun a w F W => ?_
  refine Ae (Ab (Aw (AB ?_)))
  have H := AW H
  subst H
  refine FB (.inl Aa) F W Aa (Dt 1 F Aa Aa EB Aa) (Au F Aa) ?_
  exact ⟨rfl, W.done⟩
 have H := AE (AY hb) H
 rw [hb] at F
 clear hb
 refine As (Ab ?_)
 obtain ⟨o1, G1, K1, L1⟩ := Ie H
 refine AJ (fun a w => ∃ x5 : Int, ∃ x6 : Int, some (Sum.inl (x5, x6)) = some o1 ∧ Fr 58 [] [(0, .string (bs p0)), (2, .pointer (some ⟨b1, 0, none⟩)), (3, .bool false), (5, .pointer (some ⟨b2, 0, none⟩))] a ∧ Stw ⟨Y, [], w0⟩ [(b2, [.int .i64 x3, .int .i64 x5, .int .i64 x6]), (b1, [.int .i64 0, .int .i64 0, .int .i64 0])] [] w) ?_ ?_
 ·
  have H := G1
  clear G1 K1
  refine Ah (Ac ?_)
  refine ls F W Aa (Af F Aa).q fun a w F W => ?_
  refine ls F W Aa (CX (l := x4) E3 Aa F Aa).q fun a w F W => ?_
  refine ls F W Aa (Af F Aa).q fun a w F W => ?_
  refine Ae (Ab (AD ?_))
  have W := W.frontM (i := 1) Aa Aa
  have W := W.frontM (i := 1) Aa Aa
  refine BG H (fun s a w => Fr 58 [] [(0, .string (bs p0)), (2, .pointer (some ⟨b1, 0, none⟩)), (3, .bool false), (4, v1), (5, .pointer (some ⟨b2, 0, none⟩)), (6, .string (bs x4)), (28, .int .i64 (x4.length : Int)), (29, .int .i64 s.1)] a ∧ Stw ⟨Y, [], w0⟩ [(b2, [.int .i64 x3, .int .i64 s.2.1, .int .i64 s.2.2]), (b1, [.int .i64 0, .int .i64 0, .int .i64 0])] [row v1 9 Rp.str x1] w) ⟨F.re ⟨rfl, Aa, Aa, Aa, Aa, Aa, Aa, Aa, trivial⟩, W⟩ fun s o a w H L2 hR => ?_
  obtain ⟨x7, x8, x9⟩ := s
  obtain ⟨F, W⟩ := hR
  have F : Fr 58 [] [(0, .string (bs p0)), (2, .pointer (some ⟨b1, 0, none⟩)), (3, .bool false), (4, v1), (5, .pointer (some ⟨b2, 0, none⟩)), (6, .string (bs x4)), (28, .int .i64 (x4.length : Int)), (29, .int .i64 x7)] a := F
  have W : Stw ⟨Y, [], w0⟩ [(b2, [.int .i64 x3, .int .i64 x8, .int .i64 x9]), (b1, [.int .i64 0, .int .i64 0, .int .i64 0])] [row v1 9 Rp.str x1] w := W
  rw [Ap] at H
  refine Ah (Ac ?_)
  refine ls F W Aa (BV F Aa Aa).q fun a w F W => ?_
  refine Ae (Ab (Ah ?_))
  refine Av F Aa (fun hb => ?_) fun hb => ?_
  ·
   have H := AF (AX hb) H
   rw [hb] at F
   clear hb
   refine As (Ab ?_)
   obtain ⟨o3, G3, K3, L3⟩ := Ie H
   refine AJ (fun a w => ∃ x10 : Int, ∃ x11 : Int, some (Sum.inl (x10, x11)) = some o3 ∧ Fr 58 [] [(0, .string (bs p0)), (2, .pointer (some ⟨b1, 0, none⟩)), (3, .bool false), (4, v1), (5, .pointer (some ⟨b2, 0, none⟩)), (6, .string (bs x4)), (28, .int .i64 (x4.length : Int)), (29, .int .i64 x7)] a ∧ Stw ⟨Y, [], w0⟩ [(b2, [.int .i64 x3, .int .i64 x10, .int .i64 x11]), (b1, [.int .i64 0, .int .i64 0, .int .i64 0])] [row v1 9 Rp.str x1] w) ?_ ?_
   ·
    have H := G3
    clear G3 K3
    refine AD (Ah (Ac ?_))
    refine ls F W Aa (Af F Aa).q fun a w F W => ?_
    refine ls F W Aa (Ad F Aa).q fun a w F W => ?_
    refine Ae (Ab (Ah (Ac ?_)))
    iterate 2 refine ls F W Aa (Af F Aa).q fun a w F W => ?_
    refine ls F W Aa (BC F Aa Aa Aa).q fun a w F W => ?_
    obtain ⟨x12, h5, H⟩ := Al H
    refine ls F W Aa (Bz (r := Rp.str) I5 F Aa Aa (A8 0 Aa) h5).q fun a w F W => ?_
    refine ls F W Aa (A5 (y := Value.string (bs x12)) (j := 0) (i := BE (x7 + 1)) F Aa Aa (A8 0 Aa) h5 Fl.str.to T9 Aa).q fun a w F W => ?_
    obtain ⟨x13, h6, H⟩ := Al H
    rcases x13 with x14 | x15
    ·
     have H := JA H
     refine B1 (Ml := []) (Zl := []) (M := [(b2, [.int .i64 x3, .int .i64 x8, .int .i64 x9]), (b1, [.int .i64 0, .int .i64 0, .int .i64 0])]) (Z := [row v1 9 Rp.str x1]) (β := Unit) (rv := fun x => .tuple #[.int .i64 x14, .nilIface]) (MM := fun x => []) (ZZ := fun x => []) F W JJ Aa Aa (fun hL => HQ _ w x12 _ h6 (hG.go0 W)) fun x a w F W => ?_
     have W : Stw ⟨Y, [], w0⟩ [(b2, [.int .i64 x3, .int .i64 x8, .int .i64 x9]), (b1, [.int .i64 0, .int .i64 0, .int .i64 0])] [row v1 9 Rp.str x1] w := W
     refine ls F W Aa (Af F Aa).q fun a w F W => ?_
     refine ls F W Aa (AO (v := Value.int .i64 x14) F Aa Aa).q fun a w F W => ?_
     refine ls F W Aa (AO (v := Value.nilIface) F Aa Aa).q fun a w F W => ?_
     iterate 2 refine ls F W Aa (Ad F Aa).q fun a w F W => ?_
     refine Ae (Ab (Ah (Ah (Ac ?_))))
     refine ls F W Aa (Af F Aa).q fun a w F W => ?_
     refine ls F W Aa (FE Jd F Aa).q fun a w F W => ?_
     refine Ae (Ab ?_)
     refine HM F Aa ?_
     refine As (Ab (Ah (Ac ?_)))
     iterate 2 refine ls F W Aa (Af F Aa).q fun a w F W => ?_
     obtain ⟨x16, h7, H⟩ := Al H
     refine ls F W Aa (BQ (l := x4) E3 F Aa Aa h7).q fun a w F W => ?_
     refine ls F W Aa (A2 F Aa Aa).q fun a w F W => ?_
     refine Ae (Ab ?_)
     refine Av F Aa (fun hb => ?_) fun hb => ?_
     ·
      have H := AF (AX hb) H
      rw [hb] at F
      clear hb
      refine Ac ?_
      refine ls F W Aa (Af F Aa).q fun a w F W => ?_
      refine ls F W Aa (Am C6 Aa Aa Aa T3 F Aa 1 Aa).q fun a w F W => ?_
      refine Bh (vs := [.int .i64 x14]) (M' := [(b2, [.int .i64 x3, .int .i64 x14, .int .i64 x9]), (b1, [.int .i64 0, .int .i64 0, .int .i64 0])]) 0 F W Aa Aa Aa T3 Aa Aa Aa Aa Aa fun w W => ?_
      refine Ae (A4 (Ab ?_))
      have W := W.frontM (i := 1) Aa Aa
      have W := W.frontM (i := 1) Aa Aa
      exact ⟨_, _, H, F.re ⟨rfl, Aa, Aa, Aa, Aa, Aa, Aa, Aa, trivial⟩, W⟩
     have H := AE (AY hb) H
     rw [hb] at F
     clear hb
     refine Ac ?_
     refine ls F W Aa (Af F Aa).q fun a w F W => ?_
     refine ls F W Aa (Am C6 Aa Aa Aa T3 F Aa 2 Aa).q fun a w F W => ?_
     refine Bh (vs := [.int .i64 x14]) (M' := [(b2, [.int .i64 x3, .int .i64 x8, .int .i64 x14]), (b1, [.int .i64 0, .int .i64 0, .int .i64 0])]) 0 F W Aa Aa Aa T3 Aa Aa Aa Aa Aa fun w W => ?_
     refine Ae (A4 (Ab ?_))
     have W := W.frontM (i := 1) Aa Aa
     have W := W.frontM (i := 1) Aa Aa
     exact ⟨_, _, H, F.re ⟨rfl, Aa, Aa, Aa, Aa, Aa, Aa, Aa, trivial⟩, W⟩
    have H := Jq H
    refine B1 (Ml := []) (Zl := []) (M := [(b2, [.int .i64 x3, .int .i64 x8, .int .i64 x9]), (b1, [.int .i64 0, .int .i64 0, .int .i64 0])]) (Z := [row v1 9 Rp.str x1]) (β := Nat) (rv := fun x => .tuple #[.int .i64 x15, .iface 87 (.pointer (some ⟨x, 0, none⟩))]) (MM := fun x => []) (ZZ := fun x => []) F W JJ Aa Aa (fun hL => HQ _ w x12 _ h6 (hG.go0 W)) fun x a w F W => ?_
    obtain ⟨b3, rfl⟩ : ∃ y, y = x := ⟨x, rfl⟩
    have W : Stw ⟨Y, [], w0⟩ [(b2, [.int .i64 x3, .int .i64 x8, .int .i64 x9]), (b1, [.int .i64 0, .int .i64 0, .int .i64 0])] [row v1 9 Rp.str x1] w := W
    refine ls F W Aa (Af F Aa).q fun a w F W => ?_
    refine ls F W Aa (AO (v := Value.int .i64 x15) F Aa Aa).q fun a w F W => ?_
    refine ls F W Aa (AO (v := Value.iface 87 (.pointer (some ⟨b3, 0, none⟩))) F Aa Aa).q fun a w F W => ?_
    iterate 2 refine ls F W Aa (Ad F Aa).q fun a w F W => ?_
    refine Ae (Ab (Ah (Ah (Ac ?_))))
    refine ls F W Aa (Af F Aa).q fun a w F W => ?_
    refine ls F W Aa (Fp Jd F Aa).q fun a w F W => ?_
    refine Ae (Ab ?_)
    refine H3 F Aa ?_
    refine Ah (Ac ?_)
    refine ls F W Aa (Dl (v := Value.agg #[.int .i64 0, .int .i64 0, .int .i64 0]) Jc F Aa Aa Aa).q fun a w F W => ?_
    refine Bh (vs := [.int .i64 0, .int .i64 0, .int .i64 0]) (M' := [(b2, [.int .i64 x3, .int .i64 x8, .int .i64 x9]), (b1, [.int .i64 0, .int .i64 0, .int .i64 0])]) 1 F W Aa Aa Aa EB Aa Aa Aa Aa Aa fun w W => ?_
    refine ls F W Aa (Ad F Aa).q fun a w F W => ?_
    refine Ae (Ab (Aw (AB (AM ?_))))
    iterate 2 refine AB ?_
    refine AM (AB ?_)
    have H := L3 _ H
    have H := L2 _ H
    have H := L1 _ H
    have H := AW H
    subst H
    refine FB (.inl Aa) F W Aa (Dt 1 F Aa Aa EB Aa) (Au F Aa) ?_
    exact ⟨rfl, W.done⟩
   rintro a w ⟨x10, x11, hj, F, W⟩
   have H := K3 _ hj
   clear hj G3 K3 L3
   refine Ac ?_
   refine ls F W Aa (BC F Aa Aa Aa).q fun a w F W => ?_
   refine ls F W Aa (Af F Aa).q fun a w F W => ?_
   refine Ae (Ab ?_)
   have W := W.frontM (i := 1) Aa Aa
   have W := W.frontM (i := 1) Aa Aa
   exact ⟨_, H, F.re ⟨rfl, Aa, Aa, Aa, Aa, Aa, Aa, Aa, trivial⟩, W⟩
  have H := AE (AY hb) H
  rw [hb] at F
  clear hb
  refine Bo ?_
  iterate 2 refine BN ?_
  refine Bp (Ab ?_)
  have W := W.frontM (i := 1) Aa Aa
  have W := W.frontM (i := 1) Aa Aa
  have W := W.sub (M' := [(b2, [.int .i64 x3, .int .i64 x8, .int .i64 x9]), (b1, [.int .i64 0, .int .i64 0, .int .i64 0])]) (Z' := []) (List.Sublist.refl _) (List.nil_sublist _)
  have H := L2 _ H
  exact ⟨_, _, H, F.re ⟨rfl, Aa, Aa, Aa, trivial⟩, W⟩
 rintro a w ⟨x5, x6, hj, F, W⟩
 have H := K1 _ hj
 clear hj G1 K1 L1
 refine Ah ?_
 refine Gj [(true, 0), (true, 1), (true, 3), (false, 2), (true, 4), (false, 5), (false, 6)] (CN ⟨Y, [], w0⟩ [(some 5, b2, [.int .i64 x3, .int .i64 x5, .int .i64 x6]), (some 2, b2, [.int .i64 x3, .int .i64 x5, .int .i64 x6])] []) (fun ch a d v w h => by cases d <;> exact h) MO (by kernel_rfl) W (fun w W => ⟨_, _, W, (AC (fun _ => (.head _)) (AC (fun _ => (.head _)) A1)), A1⟩) fun w W => ?_
 refine FX (R := [5]) F Aa Aa (yC fun M Z hN hZ => De (cs := [.int .i64 x3, .int .i64 x5, .int .i64 x6]) (v := Value.agg #[.int .i64 x3, .int .i64 x5, .int .i64 x6]) F Aa (hN ((some 5), b2, [.int .i64 x3, .int .i64 x5, .int .i64 x6]) (.head _) Aa) EB Aa) (by kernel_rfl) Aa fun a F => ?_
 refine FX (R := [2]) F Aa Aa (yC fun M Z hN hZ => De (cs := [.int .i64 x3, .int .i64 x5, .int .i64 x6]) (v := Value.agg #[.int .i64 x3, .int .i64 x5, .int .i64 x6]) F Aa (hN ((some 2), b2, [.int .i64 x3, .int .i64 x5, .int .i64 x6]) (.tail _ (.head _)) Aa) EB Aa) (by kernel_rfl) Aa fun a F => ?_
 refine FX (R := []) F Aa Aa (yC fun M Z hN hZ => Af F Aa) Aa Aa fun a F => ?_
 refine Fi Aa ?_
 obtain ⟨x17, h8, H⟩ := Al H
 refine ls F W Aa (AA (v := Value.string (bs x17)) F Jl Aa (fun w W => Cf any w (x3, x5, x6) _ h8 (hG.go0 W))) fun a w F W => ?_
 refine Cc (N2 := []) (NZ2 := []) (N3 := [(some 5, b2, [.int .i64 x3, .int .i64 x5, .int .i64 x6]), (some 2, b2, [.int .i64 x3, .int .i64 x5, .int .i64 x6])]) (NZ3 := []) W Aa Aa (AC (fun _ => (.head _)) (AC (fun h => AV (by kernel_rfl) h) A1)) A1 ?_
 refine FX (R := []) F Aa Aa (yC fun M Z hN hZ => El (l := x17) (m := p0) F Aa Aa) Aa Aa fun a F => ?_
 refine Fi Aa ?_
 refine Bh (vs := [.int .i64 x3, .int .i64 x5, .int .i64 x6]) (M' := [(b2, [.int .i64 x3, .int .i64 x5, .int .i64 x6]), (b1, [.int .i64 x3, .int .i64 x5, .int .i64 x6])]) 1 F W Aa Aa Aa EB Aa Aa Aa Aa Aa fun w W => ?_
 refine Cc (N2 := []) (NZ2 := []) (N3 := [(some 5, b2, [.int .i64 x3, .int .i64 x5, .int .i64 x6]), (some 2, b2, [.int .i64 x3, .int .i64 x5, .int .i64 x6])]) (NZ3 := []) W Aa Aa (AC (fun h => AV (by kernel_rfl) h) (AC (fun h => AV (by kernel_rfl) h) A1)) A1 ?_
 refine Fi Aa ?_
 refine ls F W Aa (Ad F Aa).q fun a w F W => ?_
 refine Cc (N2 := []) (NZ2 := []) (N3 := [(some 5, b2, [.int .i64 x3, .int .i64 x5, .int .i64 x6]), (some 2, b2, [.int .i64 x3, .int .i64 x5, .int .i64 x6])]) (NZ3 := []) W Aa Aa (AC (fun h => AV (by kernel_rfl) h) (AC (fun h => AV (by kernel_rfl) h) A1)) A1 ?_
 refine GB (Ab (Aw ?_))
 have H := AW H
 subst H
 refine FB (.inl Aa) F W Aa (Dt 1 F Aa Aa EB Aa) (Au F Aa) ?_
 exact ⟨rfl, W.done⟩
theorem Hq : type_of% Tryd.underlying33 := Tryd.underlying33
theorem JV : Has Tryd.prog 26 := ⟨fun args w => Ak Tryd.func26 rfl (by decide) args w⟩
abbrev Cp : Rp (Int × Int × Int) := (Rp.pair (Rp.int .i64) (Rp.pair (Rp.int .i64) (Rp.int .i64)))
def JL (a : Int × Int × Int) : List Value := [.int .i64 a.1, .int .i64 a.2.1, .int .i64 a.2.2]
theorem IV : Fl Cp JL := (Fl.pair Fl.int (Fl.pair Fl.int Fl.int))
theorem Im : Et Tryd.prog 33 26 3 24 := Et.of Hq (by kernel_rfl) (by kernel_rfl) (by kernel_rfl) (by decide)
noncomputable def AK (x2 : List (List UInt8)) : ((List (Int × Int × Int)) × Int) → Option (((List (Int × Int × Int)) × Int) ⊕ ((List (Int × Int × Int)) ⊕ ((List (Int × Int × Int)) × Int × Int)))
  | (x3, x4) => (if x4 < (x2.length : Int) then Fh ((ix x2 x4).bind fun x6 => (if x6 = ([] : List UInt8) then some true else (ix x6 0).bind fun x8 => some (decide ((x8.toNat : Int) = 35))).bind fun x7 => (if x7 = true then some (.inl x3) else (AN x6).bind fun x9 => (if (!x9.2) = true then some (.inr (.inr (.inr (([] : List (Int × Int × Int)), BE (x4 + 1), 10)))) else (DB x3 ([x9.1] : List (Int × Int × Int))).bind fun x10 => some (.inl x10)))) fun x5 => some (.inl (x5, BE (x4 + 1))) else some (.inr (.inl x3)))
noncomputable def Bj (p0 : List UInt8) : Option ((List (Int × Int × Int)) × Int × Int) := Fh ((Df p0 ([10] : List UInt8)).bind fun x2 => AH (AK x2) ([], 0)) fun x1 => some (x1, 0, 0)
theorem Di (Y : Nat → Prop) (w0 : World)  (p0 : List UInt8) (r : (List (Int × Int × Int)) × Int × Int) (H : Bj p0 = some r) (hG : Gk [] w0) :
    Calls Tryd.prog 13 #[.string (bs p0)] w0 fun e w' => ∃ x : Value, e = .returned (.tuple #[x, .int .i64 r.2.1, .int .i64 r.2.2]) ∧ Stw ⟨Y, [], w0⟩ [] [row (x) 26 Cp r.1] w' := by
 refine enter Tryd.func13 Aa Tryd.ntmps13 Aa fun a F => ?_
 have W := Stw.start Y w0
 unfold Bj at H
 refine Ah (Ac ?_)
 iterate 3 refine ls F W Aa (Ad F Aa).q fun a w F W => ?_
 refine Ae (Ab (Ah (Ac ?_)))
 refine ls F W Aa (Ad F Aa).q fun a w F W => ?_
 refine Ae (Ab ?_)
 obtain ⟨o1, G1, K1, L1⟩ := Ie H
 refine AJ (fun a w => ∃ x1 : List (Int × Int × Int), ∃ v1 : Value, some (Sum.inl x1) = some o1 ∧ Fr 40 [] [(2, .slice none 0 0), (3, .int .i64 0), (4, .int .i64 0), (5, v1)] a ∧ Stw ⟨Y, [], w0⟩ [] [row v1 26 Cp x1] w) ?_ ?_
 ·
  have H := G1
  clear G1 K1
  refine Ah (Ac ?_)
  refine ls F W Aa (Af F Aa).q fun a w F W => ?_
  obtain ⟨x2, h1, H⟩ := Al H
  refine B1 (Ml := []) (Zl := []) (M := []) (Z := []) (β := Value) (rv := fun x => x) (MM := fun x => []) (ZZ := fun x => [row x 9 Rp.str x2]) F W JC Aa Aa (fun hL => GP _ w p0 ([10] : List UInt8) _ h1 (hG.go0 W)) fun x a w F W => ?_
  obtain ⟨v2, rfl⟩ : ∃ y, y = x := ⟨x, rfl⟩
  have W : Stw ⟨Y, [], w0⟩ [] [row v2 9 Rp.str x2] w := W
  refine ls F W Aa (Da (r := Rp.str) (l := x2) I0 Aa F Aa (A8 0 Aa)).q fun a w F W => ?_
  refine ls F W Aa (Af F Aa).q fun a w F W => ?_
  refine Ae (Ab (AD ?_))
  have W := W.nilRow 26 Cp
  have W := W.frontZ (i := 1) Aa Aa
  have W := W.frontZ (i := 1) Aa Aa
  refine BG H (fun s a w => ∃ v3 : Value, Fr 40 [] [(2, .slice none 0 0), (3, .int .i64 0), (4, .int .i64 0), (5, v3), (11, v2), (12, .int .i64 (x2.length : Int)), (13, .int .i64 s.2)] a ∧ Stw ⟨Y, [], w0⟩ [] [row v3 26 Cp s.1, row v2 9 Rp.str x2] w) ⟨(Value.slice none 0 0), F.re ⟨rfl, Aa, Aa, Aa, Aa, Aa, Aa, trivial⟩, W⟩ fun s o a w H L2 hR => ?_
  obtain ⟨x3, x4⟩ := s
  obtain ⟨v3, F, W⟩ := hR
  have F : Fr 40 [] [(2, .slice none 0 0), (3, .int .i64 0), (4, .int .i64 0), (5, v3), (11, v2), (12, .int .i64 (x2.length : Int)), (13, .int .i64 x4)] a := F
  have W : Stw ⟨Y, [], w0⟩ [] [row v3 26 Cp x3, row v2 9 Rp.str x2] w := W
  rw [AK] at H
  refine Ah (Ac ?_)
  refine ls F W Aa (BV F Aa Aa).q fun a w F W => ?_
  refine Ae (Ab (Ah ?_))
  refine Av F Aa (fun hb => ?_) fun hb => ?_
  ·
   have H := AF (AX hb) H
   rw [hb] at F
   clear hb
   refine As (Ab ?_)
   obtain ⟨o3, G3, K3, L3⟩ := Ie H
   refine AJ (fun a w => ∃ x5 : List (Int × Int × Int), ∃ v4 : Value, some (Sum.inl x5) = some o3 ∧ Fr 40 [] [(2, .slice none 0 0), (3, .int .i64 0), (4, .int .i64 0), (5, v4), (11, v2), (12, .int .i64 (x2.length : Int)), (13, .int .i64 x4)] a ∧ Stw ⟨Y, [], w0⟩ [] [row v4 26 Cp x5, row v2 9 Rp.str x2] w) ?_ ?_
   ·
    have H := G3
    clear G3 K3
    refine AD (Ah (Ac ?_))
    refine ls F W Aa (Af F Aa).q fun a w F W => ?_
    obtain ⟨x6, h2, H⟩ := Al H
    refine ls F W Aa (Bz (r := Rp.str) I5 F Aa Aa (A8 1 Aa) h2).q fun a w F W => ?_
    refine ls F W Aa (A5 (y := Value.string (bs x6)) (j := 0) (i := x4) F Aa Aa (A8 1 Aa) h2 Fl.str.to T9 Aa).q fun a w F W => ?_
    iterate 2 refine ls F W Aa (Ad F Aa).q fun a w F W => ?_
    refine Ae (Ab (Ah ?_))
    obtain ⟨o4, G4, K4⟩ := Al H
    refine AJ (fun a w => ∃ x7 : Bool, some (x7) = some o4 ∧ Fr 40 [] [(2, .slice none 0 0), (3, .int .i64 0), (4, .int .i64 0), (5, v3), (6, .int .i64 x4), (7, .string (bs x6)), (11, v2), (12, .int .i64 (x2.length : Int)), (13, .int .i64 x4), (24, .bool x7)] a ∧ Stw ⟨Y, [], w0⟩ [] [row v3 26 Cp x3, row v2 9 Rp.str x2] w) ?_ ?_
    ·
     have H := G4
     clear G4 K4
     refine Ac ?_
     refine ls F W Aa (Af F Aa).q fun a w F W => ?_
     refine ls F W Aa (El (l := x6) (m := ([] : List UInt8)) F Aa Aa).q fun a w F W => ?_
     refine ls F W Aa (Af F Aa).q fun a w F W => ?_
     rcases Bool.eq_false_or_eq_true (decide (x6 = ([] : List UInt8))) with hb | hb
     ·
      have H := AF (AX hb) H
      rw [hb] at F
      clear hb
      iterate 3 refine Bf F Aa Aa Aa Aa Aa Aa Aa fun a F => ?_
      refine ls F W Aa (Ao F Aa Aa Aa).q fun a w F W => ?_
      refine Ae (Ab ?_)
      have W := W.frontZ (i := 1) Aa Aa
      have W := W.frontZ (i := 1) Aa Aa
      exact ⟨_, H, F.re ⟨rfl, Aa, Aa, Aa, Aa, Aa, Aa, Aa, Aa, Aa, trivial⟩, W⟩
     have H := AE (AY hb) H
     rw [hb] at F
     clear hb
     refine Ax F W (Ag F Aa Aa Aa Aa) Aa (An Aa) (Af F Aa).q fun a w F W => ?_
     obtain ⟨x8, h3, H⟩ := Al H
     refine Ax F W (Ag F Aa Aa Aa Aa) Aa (An Aa) (BQ (l := x6) E3 F Aa Aa h3).q fun a w F W => ?_
     refine Ax F W (Ag F Aa Aa Aa Aa) Aa (An Aa) (A2 F Aa Aa).q fun a w F W => ?_
     refine ls F W Aa (Aj F Aa Aa Aa).q fun a w F W => ?_
     refine Ae (Ab ?_)
     have W := W.frontZ (i := 1) Aa Aa
     have W := W.frontZ (i := 1) Aa Aa
     exact ⟨_, H, F.re ⟨rfl, Aa, Aa, Aa, Aa, Aa, Aa, Aa, Aa, Aa, trivial⟩, W⟩
    rintro a w ⟨x7, hj, F, W⟩
    have hj := AW hj
    subst hj
    have H := K4
    clear G4 K4
    refine Av F Aa (fun hb => ?_) fun hb => ?_
    ·
     have H := AF hb H
     rw [hb] at F
     clear hb
     refine Bo (BN (Bp (Ab ?_)))
     have W := W.frontZ (i := 1) Aa Aa
     have W := W.frontZ (i := 1) Aa Aa
     exact ⟨_, (v3), H, F.re ⟨rfl, Aa, Aa, Aa, Aa, Aa, Aa, trivial⟩, W⟩
    have H := AE (by rw [hb]; decide) H
    rw [hb] at F
    clear hb
    refine As (Ab (Ah (Ac ?_)))
    refine ls F W Aa (Af F Aa).q fun a w F W => ?_
    obtain ⟨x9, h4, H⟩ := Al H
    refine ls F W Aa (AA (v := Value.tuple #[.agg #[.int .i64 x9.1.1, .int .i64 x9.1.2.1, .int .i64 x9.1.2.2], .bool x9.2]) F JV Aa (fun w W => DM any w x6 _ h4 (hG.go0 W))) fun a w F W => ?_
    refine ls F W Aa (Af F Aa).q fun a w F W => ?_
    refine ls F W Aa (AO (v := Value.agg #[.int .i64 x9.1.1, .int .i64 x9.1.2.1, .int .i64 x9.1.2.2]) F Aa Aa).q fun a w F W => ?_
    refine ls F W Aa (AO (v := Value.bool x9.2) F Aa Aa).q fun a w F W => ?_
    refine Cu (cs := [.int .i64 0, .int .i64 0, .int .i64 0]) F W Aa IE Aa fun b1 a w F W => ?_
    refine Bh (vs := [.int .i64 x9.1.1, .int .i64 x9.1.2.1, .int .i64 x9.1.2.2]) (M' := [(b1, [.int .i64 x9.1.1, .int .i64 x9.1.2.1, .int .i64 x9.1.2.2])]) 0 F W Aa Aa Aa EB Aa Aa Aa Aa Aa fun w W => ?_
    refine ls F W Aa (Ad F Aa).q fun a w F W => ?_
    refine Ae (Ab (Ah (Ah (Ac ?_))))
    refine ls F W Aa (Af F Aa).q fun a w F W => ?_
    refine ls F W Aa (EP F Aa).q fun a w F W => ?_
    refine Ae (Ab ?_)
    refine Av F Aa (fun hb => ?_) fun hb => ?_
    ·
     have H := AF hb H
     rw [hb] at F
     clear hb
     refine Ah (Ac ?_)
     refine ls F W Aa (Af F Aa).q fun a w F W => ?_
     refine ls F W Aa (BC F Aa Aa Aa).q fun a w F W => ?_
     iterate 3 refine ls F W Aa (Ad F Aa).q fun a w F W => ?_
     refine Ae (Ab (Aw (AB (AM ?_))))
     iterate 2 refine AB ?_
     refine AM (AB ?_)
     have H := L3 _ H
     have H := L2 _ H
     have H := L1 _ H
     have H := AW H
     subst H
     refine GR (.inl Aa) F W Aa (Au F Aa) (Au F Aa) (Au F Aa) ?_
     have W := W.nilRow 26 Cp
     have W := W.sub (M' := []) (Z' := [row (Value.slice none 0 0) 26 Cp ([])]) (List.nil_sublist _) (List.Sublist.cons_cons _ (List.nil_sublist _))
     exact ⟨(Value.slice none 0 0), Aa, W⟩
    have H := AE (by rw [hb]; decide) H
    rw [hb] at F
    clear hb
    refine As (Ab (Ac ?_))
    refine ls F W Aa (Af F Aa).q fun a w F W => ?_
    refine ls F W Aa (AG (v := Value.agg #[.int .i64 x9.1.1, .int .i64 x9.1.2.1, .int .i64 x9.1.2.2]) 0 F Aa Aa EB Aa).q fun a w F W => ?_
    refine GS (z := Value.agg #[.int .i64 0, .int .i64 0, .int .i64 0]) (cs := [.int .i64 x9.1.1, .int .i64 x9.1.2.1, .int .i64 x9.1.2.2]) Cp ([x9.1] : List (Int × Int × Int)) F W Aa Im IE Aa Aa Aa Aa Aa Aa (IV.repL _ _ ([x9.1] : List (Int × Int × Int))) fun v5 a w F W => ?_
    obtain ⟨x10, h5, H⟩ := Al H
    refine E1 (r := Cp) (i := 1) F W Aa Im Aa Aa Aa Aa (FR W 0 Aa) h5 Aa fun v6 a w F W => ?_
    have W : Stw ⟨Y, [], w0⟩ [(b1, [.int .i64 x9.1.1, .int .i64 x9.1.2.1, .int .i64 x9.1.2.2])] [row v6 26 Cp x10, row v5 26 Cp ([x9.1] : List (Int × Int × Int)), row v2 9 Rp.str x2] w := W
    refine ls F W Aa (Ad F Aa).q fun a w F W => ?_
    refine Ae (A4 (Ab ?_))
    have W := W.frontZ (i := 2) Aa Aa
    have W := W.frontZ (i := 1) Aa Aa
    have W := W.sub (M' := []) (Z' := [row v6 26 Cp x10, row v2 9 Rp.str x2]) (List.nil_sublist _) (List.Sublist.cons_cons _ (List.Sublist.cons_cons _ (List.nil_sublist _)))
    exact ⟨_, (v6), H, F.re ⟨rfl, Aa, Aa, Aa, Aa, Aa, Aa, trivial⟩, W⟩
   rintro a w ⟨x5, v4, hj, F, W⟩
   have H := K3 _ hj
   clear hj G3 K3 L3
   refine Ac ?_
   refine ls F W Aa (BC F Aa Aa Aa).q fun a w F W => ?_
   refine ls F W Aa (Af F Aa).q fun a w F W => ?_
   refine Ae (Ab ?_)
   have W := W.frontZ (i := 1) Aa Aa
   have W := W.frontZ (i := 1) Aa Aa
   exact ⟨_, H, (v4), F.re ⟨rfl, Aa, Aa, Aa, Aa, Aa, Aa, trivial⟩, W⟩
  have H := AE (AY hb) H
  rw [hb] at F
  clear hb
  refine Bo ?_
  iterate 2 refine BN ?_
  refine Bp (Ab ?_)
  have W := W.sub (M' := []) (Z' := [row v3 26 Cp x3]) (List.Sublist.refl _) (List.Sublist.cons_cons _ (List.nil_sublist _))
  have H := L2 _ H
  exact ⟨_, (v3), H, F.re ⟨rfl, Aa, Aa, Aa, trivial⟩, W⟩
 rintro a w ⟨x1, v1, hj, F, W⟩
 have H := K1 _ hj
 clear hj G1 K1 L1
 refine Ah (Ac ?_)
 refine ls F W Aa (Af F Aa).q fun a w F W => ?_
 iterate 3 refine ls F W Aa (Ad F Aa).q fun a w F W => ?_
 refine Ae (Ab (Aw ?_))
 have H := AW H
 subst H
 refine GR (.inl Aa) F W Aa (Au F Aa) (Au F Aa) (Au F Aa) ?_
 exact ⟨(v1), Aa, W⟩
theorem Jh : type_of% Tryd.underlying3 := Tryd.underlying3
theorem JG : Has Tryd.prog 13 := ⟨fun args w => Ak Tryd.func13 rfl (by decide) args w⟩
theorem Jw (dd : Nat) (x0 : Int) (x1 : Int) (x2 : Int) (y0 : Int) (y1 : Int) (y2 : Int) (w : World) : (Op.equalIn (dd + 2) 26 (.agg #[.int .i64 x0, .int .i64 x1, .int .i64 x2]) (.agg #[.int .i64 y0, .int .i64 y1, .int .i64 y2])).run Tryd.prog w = .ok (decide (x0 = y0 ∧ x1 = y1 ∧ x2 = y2)) w :=
  Hd (d := dd + 1) (rs := [decide (x0 = y0), decide (x1 = y1), decide (x2 = y2)]) C6 (by kernel_rfl) ⟨rfl, FK (d := dd + 0) rfl rfl Jh T3 rfl rfl, rfl, FK (d := dd + 0) rfl rfl Jh T3 rfl rfl, rfl, FK (d := dd + 0) rfl rfl Jh T3 rfl rfl, trivial⟩ (by simp) w
theorem JI : Tryd.prog.eqGuardType Tryd.prog.depth 26 = false := by kernel_rfl
theorem JE (x0 : Int) (x1 : Int) (x2 : Int) (y0 : Int) (y1 : Int) (y2 : Int) (w : World) : (Op.equalIn 10000 26 (.agg #[.int .i64 x0, .int .i64 x1, .int .i64 x2]) (.agg #[.int .i64 y0, .int .i64 y1, .int .i64 y2])).run Tryd.prog w = .ok (decide (x0 = y0 ∧ x1 = y1 ∧ x2 = y2)) w := Jw 9998 x0 x1 x2 y0 y1 y2 w
noncomputable def Cb  : Option Bool := (Bj ([35, 32, 115, 108, 111, 119, 101, 114, 10, 116, 117, 114, 110, 32, 49, 32, 45, 51, 48, 10] : List UInt8)).bind fun x1 => (if x1.2.2 = 0 then (if x1.2.1 = 0 then (if (x1.1.length : Int) = 1 then (ix x1.1 0).bind fun x3 => (if x3.1 = 2 ∧ x3.2.1 = 1 ∧ x3.2.2 = (-30) then (ix x1.1 0).bind fun x4 => (Ba x4).bind fun x5 => some (decide (x5 = ([116, 117, 114, 110, 32, 49, 32, 45, 51, 48] : List UInt8))) else some false) else some false) else some false) else some false).bind fun x2 => some x2
theorem Er (Y : Nat → Prop) (w0 : World)   (r : Bool) (H : Cb  = some r) (hG : Gk [] w0) :
    Calls Tryd.prog 5 #[] w0 fun e w' => e = .returned (.bool r) ∧ Below w0.heap.size w0 w' := by
 refine enter Tryd.func5 Aa Tryd.ntmps5 Aa fun a F => ?_
 have W := Stw.start Y w0
 unfold Cb at H
 refine Ah (Ac ?_)
 refine ls F W Aa (Ad F Aa).q fun a w F W => ?_
 refine Ae (Ab (Ah (Ac ?_)))
 obtain ⟨x1, h1, H⟩ := Al H
 refine B1 (Ml := []) (Zl := []) (M := []) (Z := []) (β := Value) (rv := fun x => .tuple #[x, .int .i64 x1.2.1, .int .i64 x1.2.2]) (MM := fun x => []) (ZZ := fun x => [row x 26 Cp x1.1]) F W JG Aa Aa (fun hL => Di _ w ([35, 32, 115, 108, 111, 119, 101, 114, 10, 116, 117, 114, 110, 32, 49, 32, 45, 51, 48, 10] : List UInt8) _ h1 (hG.go0 W)) fun x a w F W => ?_
 obtain ⟨v1, rfl⟩ : ∃ y, y = x := ⟨x, rfl⟩
 have W : Stw ⟨Y, [], w0⟩ [] [row v1 26 Cp x1.1] w := W
 refine ls F W Aa (Af F Aa).q fun a w F W => ?_
 refine ls F W Aa (AO (v := v1) F Aa Aa).q fun a w F W => ?_
 refine ls F W Aa (AO (v := Value.int .i64 x1.2.1) F Aa Aa).q fun a w F W => ?_
 refine ls F W Aa (AO (v := Value.int .i64 x1.2.2) F Aa Aa).q fun a w F W => ?_
 iterate 3 refine ls F W Aa (Ad F Aa).q fun a w F W => ?_
 refine Ae (Ab ?_)
 obtain ⟨o1, G1, K1⟩ := Al H
 refine AJ (fun a w => ∃ x2 : Bool, some (x2) = some o1 ∧ Fr 34 [] [(0, .bool x2)] a ∧ Stw ⟨Y, [], w0⟩ [] [] w) ?_ ?_
 ·
  have H := G1
  clear G1 K1
  refine Ac ?_
  refine ls F W Aa (Af F Aa).q fun a w F W => ?_
  refine ls F W Aa (A2 F Aa Aa).q fun a w F W => ?_
  refine ls F W Aa (Af F Aa).q fun a w F W => ?_
  rcases Bool.eq_false_or_eq_true (decide (x1.2.2 = 0)) with hb | hb
  ·
   have H := AF (AX hb) H
   rw [hb] at F
   clear hb
   refine Ax F W (Ag F Aa Aa Aa Aa) Aa (An Aa) (Af F Aa).q fun a w F W => ?_
   refine Ax F W (Ag F Aa Aa Aa Aa) Aa (An Aa) (A2 F Aa Aa).q fun a w F W => ?_
   refine ls F W Aa (Ao F Aa Aa Aa).q fun a w F W => ?_
   refine ls F W Aa (Af F Aa).q fun a w F W => ?_
   rcases Bool.eq_false_or_eq_true (decide (x1.2.1 = 0)) with hb | hb
   ·
    have H := AF (AX hb) H
    rw [hb] at F
    clear hb
    refine Ax F W (Ag F Aa Aa Aa Aa) Aa (An Aa) (Af F Aa).q fun a w F W => ?_
    refine Ax F W (Ag F Aa Aa Aa Aa) Aa (An Aa) (Da (r := Cp) (l := x1.1) Hq Aa F Aa (A8 0 Aa)).q fun a w F W => ?_
    refine Ax F W (Ag F Aa Aa Aa Aa) Aa (An Aa) (A2 F Aa Aa).q fun a w F W => ?_
    refine ls F W Aa (Ao F Aa Aa Aa).q fun a w F W => ?_
    refine ls F W Aa (Af F Aa).q fun a w F W => ?_
    rcases Bool.eq_false_or_eq_true (decide ((x1.1.length : Int) = 1)) with hb | hb
    ·
     have H := AF (AX hb) H
     rw [hb] at F
     clear hb
     refine Ax F W (Ag F Aa Aa Aa Aa) Aa (An Aa) (Af F Aa).q fun a w F W => ?_
     obtain ⟨x3, h2, H⟩ := Al H
     refine Ax F W (Ag F Aa Aa Aa Aa) Aa (An Aa) (Bz (r := Cp) Im F Aa Aa (A8 0 Aa) h2).q fun a w F W => ?_
     refine Ax F W (Ag F Aa Aa Aa Aa) Aa (An Aa) (A5 (y := Value.agg #[.int .i64 x3.1, .int .i64 x3.2.1, .int .i64 x3.2.2]) (j := 0) (i := 0) F Aa Aa (A8 0 Aa) h2 IV.to EB Aa).q fun a w F W => ?_
     refine Ax F W (Ag F Aa Aa Aa Aa) Aa (An Aa) (Dl (v := Value.agg #[.int .i64 2, .int .i64 1, .int .i64 (-30)]) Jc F Aa Aa Aa).q fun a w F W => ?_
     refine Ax F W (Ag F Aa Aa Aa Aa) Aa (An Aa) (I6 (t := decide (x3.1 = 2 ∧ x3.2.1 = 1 ∧ x3.2.2 = (-30))) JI (JE _ _ _ _ _ _) F Aa Aa).q fun a w F W => ?_
     refine ls F W Aa (Ao F Aa Aa Aa).q fun a w F W => ?_
     refine ls F W Aa (Af F Aa).q fun a w F W => ?_
     rcases Bool.eq_false_or_eq_true (decide (x3.1 = 2 ∧ x3.2.1 = 1 ∧ x3.2.2 = (-30))) with hb | hb
     ·
      have H := AF (AX hb) H
      rw [hb] at F
      clear hb
      refine Ax F W (Ag F Aa Aa Aa Aa) Aa (An Aa) (Af F Aa).q fun a w F W => ?_
      obtain ⟨x4, h3, H⟩ := Al H
      refine Ax F W (Ag F Aa Aa Aa Aa) Aa (An Aa) (Bz (r := Cp) Im F Aa Aa (A8 0 Aa) h3).q fun a w F W => ?_
      refine Ax F W (Ag F Aa Aa Aa Aa) Aa (An Aa) (A5 (y := Value.agg #[.int .i64 x4.1, .int .i64 x4.2.1, .int .i64 x4.2.2]) (j := 0) (i := 0) F Aa Aa (A8 0 Aa) h3 IV.to EB Aa).q fun a w F W => ?_
      refine Gs (Ag F Aa Aa Aa Aa) ?_
      obtain ⟨x5, h4, H⟩ := Al H
      refine ls F W Aa (AA (v := Value.string (bs x5)) F Jl Aa (fun w W => Cf any w x4 _ h4 (hG.go0 W))) fun a w F W => ?_
      refine Ax F W (Ag F Aa Aa Aa Aa) Aa (An Aa) (El (l := x5) (m := ([116, 117, 114, 110, 32, 49, 32, 45, 51, 48] : List UInt8)) F Aa Aa).q fun a w F W => ?_
      refine ls F W Aa (Ao F Aa Aa Aa).q fun a w F W => ?_
      refine ls F W Aa (Ad F Aa).q fun a w F W => ?_
      refine Ae (Ab ?_)
      have W := W.sub (M' := []) (Z' := []) (List.Sublist.refl _) (List.nil_sublist _)
      exact ⟨_, H, F.re ⟨rfl, trivial⟩, W⟩
     have H := AE (AY hb) H
     rw [hb] at F
     clear hb
     iterate 5 refine Bf F Aa Aa Aa Aa Aa Aa Aa fun a F => ?_
     refine ls F W Aa (Aj F Aa Aa Aa).q fun a w F W => ?_
     refine ls F W Aa (Ad F Aa).q fun a w F W => ?_
     refine Ae (Ab ?_)
     have W := W.sub (M' := []) (Z' := []) (List.Sublist.refl _) (List.nil_sublist _)
     exact ⟨_, H, F.re ⟨rfl, trivial⟩, W⟩
    have H := AE (AY hb) H
    rw [hb] at F
    clear hb
    iterate 5 refine Bf F Aa Aa Aa Aa Aa Aa Aa fun a F => ?_
    refine ls F W Aa (Aj F Aa Aa Aa).q fun a w F W => ?_
    refine ls F W Aa (Af F Aa).q fun a w F W => ?_
    iterate 5 refine Bf F Aa Aa Aa Aa Aa Aa Aa fun a F => ?_
    refine ls F W Aa (Aj F Aa Aa Aa).q fun a w F W => ?_
    refine ls F W Aa (Ad F Aa).q fun a w F W => ?_
    refine Ae (Ab ?_)
    have W := W.sub (M' := []) (Z' := []) (List.Sublist.refl _) (List.nil_sublist _)
    exact ⟨_, H, F.re ⟨rfl, trivial⟩, W⟩
   have H := AE (AY hb) H
   rw [hb] at F
   clear hb
   iterate 3 refine Bf F Aa Aa Aa Aa Aa Aa Aa fun a F => ?_
   refine ls F W Aa (Aj F Aa Aa Aa).q fun a w F W => ?_
   refine ls F W Aa (Af F Aa).q fun a w F W => ?_
   iterate 5 refine Bf F Aa Aa Aa Aa Aa Aa Aa fun a F => ?_
   refine ls F W Aa (Aj F Aa Aa Aa).q fun a w F W => ?_
   refine ls F W Aa (Af F Aa).q fun a w F W => ?_
   iterate 5 refine Bf F Aa Aa Aa Aa Aa Aa Aa fun a F => ?_
   refine ls F W Aa (Aj F Aa Aa Aa).q fun a w F W => ?_
   refine ls F W Aa (Ad F Aa).q fun a w F W => ?_
   refine Ae (Ab ?_)
   have W := W.sub (M' := []) (Z' := []) (List.Sublist.refl _) (List.nil_sublist _)
   exact ⟨_, H, F.re ⟨rfl, trivial⟩, W⟩
  have H := AE (AY hb) H
  rw [hb] at F
  clear hb
  iterate 2 refine Bf F Aa Aa Aa Aa Aa Aa Aa fun a F => ?_
  refine ls F W Aa (Aj F Aa Aa Aa).q fun a w F W => ?_
  refine ls F W Aa (Af F Aa).q fun a w F W => ?_
  iterate 3 refine Bf F Aa Aa Aa Aa Aa Aa Aa fun a F => ?_
  refine ls F W Aa (Aj F Aa Aa Aa).q fun a w F W => ?_
  refine ls F W Aa (Af F Aa).q fun a w F W => ?_
  iterate 5 refine Bf F Aa Aa Aa Aa Aa Aa Aa fun a F => ?_
  refine ls F W Aa (Aj F Aa Aa Aa).q fun a w F W => ?_
  refine ls F W Aa (Af F Aa).q fun a w F W => ?_
  iterate 5 refine Bf F Aa Aa Aa Aa Aa Aa Aa fun a F => ?_
  refine ls F W Aa (Aj F Aa Aa Aa).q fun a w F W => ?_
  refine ls F W Aa (Ad F Aa).q fun a w F W => ?_
  refine Ae (Ab ?_)
  have W := W.sub (M' := []) (Z' := []) (List.Sublist.refl _) (List.nil_sublist _)
  exact ⟨_, H, F.re ⟨rfl, trivial⟩, W⟩
 rintro a w ⟨x2, hj, F, W⟩
 have hj := AW hj
 subst hj
 have H := K1
 clear G1 K1
 refine Aw ?_
 have H := AW H
 subst H
 refine AR (.inl Aa) F W Aa (Au F Aa) ?_
 exact ⟨rfl, W.done⟩
theorem H5 : Has Tryd.prog 5 := ⟨fun args w => Ak Tryd.func5 rfl (by decide) args w⟩
theorem Z9 : (Tryd.prog.info? 9).bind (·.zero) = some (.string (bs ([] : List UInt8))) := by kernel_rfl
noncomputable def CA (p0 : Int) : Option (List UInt8) := (if (decide (p0 < 1) || decide (11 < p0)) = true then some ([63] : List UInt8) else (ix ([([116, 105, 99, 107] : List UInt8), ([116, 117, 114, 110] : List UInt8), ([116, 105, 109, 101, 114] : List UInt8), ([117, 112, 100, 97, 116, 101] : List UInt8), ([100, 101, 108, 105, 118, 101, 114] : List UInt8), ([100, 114, 111, 112] : List UInt8), ([116, 119, 105, 99, 101] : List UInt8), ([105, 110, 106, 101, 99, 116] : List UInt8), ([104, 111, 112] : List UInt8), ([99, 114, 97, 115, 104] : List UInt8), ([115, 116, 97, 114, 116] : List UInt8)] : List (List UInt8)) (BE (p0 - 1))).bind fun x1 => some x1)
theorem DG (Y : Nat → Prop) (w0 : World)  (p0 : Int) (r : List UInt8) (H : CA p0 = some r)  :
    Calls Tryd.prog 7 #[.int .i64 p0] w0 fun e w' => e = .returned (.string (bs r)) ∧ Below w0.heap.size w0 w' := by
 refine enter Tryd.func7 Aa Tryd.ntmps7 Aa fun a F => ?_
 have W := Stw.start Y w0
 unfold CA at H
 refine Ah (Ac ?_)
 refine ls F W Aa (Ad (v := Value.string (bs ([] : List UInt8))) F Aa).q fun a w F W => ?_
 refine Ae (Ab (Ah (Ac ?_)))
 refine GS (z := Value.string (bs ([] : List UInt8))) (cs := [.string (bs ([116, 105, 99, 107] : List UInt8)), .string (bs ([116, 117, 114, 110] : List UInt8)), .string (bs ([116, 105, 109, 101, 114] : List UInt8)), .string (bs ([117, 112, 100, 97, 116, 101] : List UInt8)), .string (bs ([100, 101, 108, 105, 118, 101, 114] : List UInt8)), .string (bs ([100, 114, 111, 112] : List UInt8)), .string (bs ([116, 119, 105, 99, 101] : List UInt8)), .string (bs ([105, 110, 106, 101, 99, 116] : List UInt8)), .string (bs ([104, 111, 112] : List UInt8)), .string (bs ([99, 114, 97, 115, 104] : List UInt8)), .string (bs ([115, 116, 97, 114, 116] : List UInt8))]) Rp.str ([([116, 105, 99, 107] : List UInt8), ([116, 117, 114, 110] : List UInt8), ([116, 105, 109, 101, 114] : List UInt8), ([117, 112, 100, 97, 116, 101] : List UInt8), ([100, 101, 108, 105, 118, 101, 114] : List UInt8), ([100, 114, 111, 112] : List UInt8), ([116, 119, 105, 99, 101] : List UInt8), ([105, 110, 106, 101, 99, 116] : List UInt8), ([104, 111, 112] : List UInt8), ([99, 114, 97, 115, 104] : List UInt8), ([115, 116, 97, 114, 116] : List UInt8)] : List (List UInt8)) F W Aa I5 Z9 Aa Aa Aa Aa Aa Aa (Fl.str.repL _ _ ([([116, 105, 99, 107] : List UInt8), ([116, 117, 114, 110] : List UInt8), ([116, 105, 109, 101, 114] : List UInt8), ([117, 112, 100, 97, 116, 101] : List UInt8), ([100, 101, 108, 105, 118, 101, 114] : List UInt8), ([100, 114, 111, 112] : List UInt8), ([116, 119, 105, 99, 101] : List UInt8), ([105, 110, 106, 101, 99, 116] : List UInt8), ([104, 111, 112] : List UInt8), ([99, 114, 97, 115, 104] : List UInt8), ([115, 116, 97, 114, 116] : List UInt8)] : List (List UInt8))) fun v1 a w F W => ?_
 refine ls F W Aa (Ad F Aa).q fun a w F W => ?_
 refine Ae (Ab (Ah ?_))
 refine AJ (fun a w => Fr 16 [] [(0, .int .i64 p0), (2, .string (bs ([] : List UInt8))), (3, v1), (10, .bool (decide (p0 < 1) || decide (11 < p0)))] a ∧ Stw ⟨Y, [], w0⟩ [] [row v1 9 Rp.str ([([116, 105, 99, 107] : List UInt8), ([116, 117, 114, 110] : List UInt8), ([116, 105, 109, 101, 114] : List UInt8), ([117, 112, 100, 97, 116, 101] : List UInt8), ([100, 101, 108, 105, 118, 101, 114] : List UInt8), ([100, 114, 111, 112] : List UInt8), ([116, 119, 105, 99, 101] : List UInt8), ([105, 110, 106, 101, 99, 116] : List UInt8), ([104, 111, 112] : List UInt8), ([99, 114, 97, 115, 104] : List UInt8), ([115, 116, 97, 114, 116] : List UInt8)] : List (List UInt8))] w) ?_ ?_
 ·
  refine Ac ?_
  refine ls F W Aa (Af F Aa).q fun a w F W => ?_
  refine ls F W Aa (BV F Aa Aa).q fun a w F W => ?_
  refine ls F W Aa (Af F Aa).q fun a w F W => ?_
  rcases Bool.eq_false_or_eq_true (decide (p0 < 1)) with hb0 | hb0
  ·
   rw [hb0] at F
   iterate 2 refine Bf F Aa Aa Aa Aa Aa Aa Aa fun a F => ?_
   refine ls F W Aa (Ao F Aa Aa Aa).q fun a w F W => ?_
   refine Ae (Ab ?_)
   exact ⟨F.re ⟨rfl, Aa, Aa, (by show some (Value.bool true) = some (Value.bool (decide (p0 < 1) || decide (11 < p0))); try rw [hb0]; all_goals simp only [Bool.not_true, Bool.not_false, Bool.true_and, Bool.false_and, Bool.true_or, Bool.false_or, Bool.and_true, Bool.or_false, cond_true, cond_false]), trivial⟩, W⟩
  rw [hb0] at F
  refine Ax F W (Ag F Aa Aa Aa Aa) Aa (An Aa) (Af F Aa).q fun a w F W => ?_
  refine Ax F W (Ag F Aa Aa Aa Aa) Aa (An Aa) (EM F Aa Aa).q fun a w F W => ?_
  refine ls F W Aa (Aj F Aa Aa Aa).q fun a w F W => ?_
  refine Ae (Ab ?_)
  exact ⟨F.re ⟨rfl, Aa, Aa, (by show some (Value.bool (decide (11 < p0))) = some (Value.bool (decide (p0 < 1) || decide (11 < p0))); try rw [hb0]; all_goals simp only [Bool.not_true, Bool.not_false, Bool.true_and, Bool.false_and, Bool.true_or, Bool.false_or, Bool.and_true, Bool.or_false, cond_true, cond_false]), trivial⟩, W⟩
 rintro a w ⟨F, W⟩
 refine Av F Aa (fun hb => ?_) fun hb => ?_
 ·
  have H := AF hb H
  rw [hb] at F
  clear hb
  refine Ah (Ac ?_)
  refine ls F W Aa (Ad (v := Value.string (bs ([63] : List UInt8))) F Aa).q fun a w F W => ?_
  refine Ae (Ab (Aw (AB ?_)))
  have H := AW H
  subst H
  refine AR (.inl Aa) F W Aa (Au F Aa) ?_
  exact ⟨rfl, W.done⟩
 have H := AE (by rw [hb]; decide) H
 rw [hb] at F
 clear hb
 refine As (Ab (Ah (Ac ?_)))
 iterate 2 refine ls F W Aa (Af F Aa).q fun a w F W => ?_
 refine ls F W Aa (F2 F Aa Aa Aa).q fun a w F W => ?_
 obtain ⟨x1, h1, H⟩ := Al H
 refine ls F W Aa (Bz (r := Rp.str) I5 F Aa Aa (A8 0 Aa) h1).q fun a w F W => ?_
 refine ls F W Aa (A5 (y := Value.string (bs x1)) (j := 0) (i := BE (p0 - 1)) F Aa Aa (A8 0 Aa) h1 Fl.str.to T9 Aa).q fun a w F W => ?_
 refine ls F W Aa (Ad F Aa).q fun a w F W => ?_
 refine Ae (Ab (Aw ?_))
 have H := AW H
 subst H
 refine AR (.inl Aa) F W Aa (Au F Aa) ?_
 exact ⟨rfl, W.done⟩
theorem HC : type_of% Tryd.underlying22 := Tryd.underlying22
theorem Cr : type_of% Tryd.underlying28 := Tryd.underlying28
theorem H7 : Has Tryd.prog 7 := ⟨fun args w => Ak Tryd.func7 rfl (by decide) args w⟩
theorem ID : Et Tryd.prog 22 28 3 24 := Et.of HC (by kernel_rfl) (by kernel_rfl) (by kernel_rfl) (by decide)
def JX (a : Int × Int × Int) : List Value := [.int .i64 a.1, .int .i64 a.2.1, .int .i64 a.2.2]
theorem IM : Fl C5 JX := (Fl.pair Fl.int (Fl.pair Fl.int Fl.int))
theorem FV : Ty Tryd.prog 28 true 3 := ⟨by kernel_rfl, by kernel_rfl⟩
def Az (p0 : Int × Int × Int) : (Int × Int × Int) := p0
theorem E2 (Y : Nat → Prop) (w0 : World)  (p0 : Int × Int × Int) (r : (Int × Int × Int)) (H : Az p0 = r)  :
    Calls Tryd.prog 8 #[.agg #[.int .i64 p0.1, .int .i64 p0.2.1, .int .i64 p0.2.2]] w0 fun e w' => e = .returned (.agg #[.int .i64 r.1, .int .i64 r.2.1, .int .i64 r.2.2]) ∧ Below w0.heap.size w0 w' := by
 refine enter Tryd.func8 Aa Tryd.ntmps8 Aa fun a F => ?_
 have W := Stw.start Y w0
 unfold Az at H
 refine Ah (Ac ?_)
 refine Gr (cs := [.int .i64 p0.1, .int .i64 p0.2.1, .int .i64 p0.2.2]) F W Aa Aa Aa fun b1 a w F W => ?_
 refine Cu (cs := [.int .i64 0, .int .i64 0, .int .i64 0]) F W Aa IE Aa fun b2 a w F W => ?_
 refine Ae (Ab (Ah (Ac ?_)))
 refine ls F W Aa (Am Cr Aa Aa Aa T3 F Aa 0 Aa).q fun a w F W => ?_
 refine ls F W Aa (AG (v := Value.int .i64 p0.1) 1 F Aa Aa T3 Aa).q fun a w F W => ?_
 refine ls F W Aa (Am Cr Aa Aa Aa T3 F Aa 1 Aa).q fun a w F W => ?_
 refine ls F W Aa (AG (v := Value.int .i64 p0.2.1) 1 F Aa Aa T3 Aa).q fun a w F W => ?_
 refine ls F W Aa (Am Cr Aa Aa Aa T3 F Aa 2 Aa).q fun a w F W => ?_
 refine ls F W Aa (AG (v := Value.int .i64 p0.2.2) 1 F Aa Aa T3 Aa).q fun a w F W => ?_
 refine ls F W Aa (Dl (v := Value.agg #[.int .i64 p0.1, .int .i64 p0.2.1, .int .i64 p0.2.2]) Jc F Aa Aa Aa).q fun a w F W => ?_
 refine Bh (vs := [.int .i64 p0.1, .int .i64 p0.2.1, .int .i64 p0.2.2]) (M' := [(b2, [.int .i64 p0.1, .int .i64 p0.2.1, .int .i64 p0.2.2]), (b1, [.int .i64 p0.1, .int .i64 p0.2.1, .int .i64 p0.2.2])]) 0 F W Aa Aa Aa EB Aa Aa Aa Aa Aa fun w W => ?_
 refine Ae (Ab (Aw ?_))
 subst H
 refine AR (.inl Aa) F W Aa (Dt 0 F Aa Aa EB Aa) ?_
 exact ⟨rfl, W.done⟩
theorem H8 : Has Tryd.prog 8 := ⟨fun args w => Ak Tryd.func8 rfl (by decide) args w⟩
def Bk (p0 : Int) : Bool := (decide (p0 = 2) || (decide (p0 = 8) || (decide (p0 = 10) || decide (p0 = 11))))
theorem DO (Y : Nat → Prop) (w0 : World)  (p0 : Int) (r : Bool) (H : Bk p0 = r)  :
    Calls Tryd.prog 21 #[.int .i64 p0] w0 fun e w' => e = .returned (.bool r) ∧ Below w0.heap.size w0 w' := by
 refine enter Tryd.func21 Aa Tryd.ntmps21 Aa fun a F => ?_
 have W := Stw.start Y w0
 unfold Bk at H
 refine Ah (Ac ?_)
 refine ls F W Aa (Ad F Aa).q fun a w F W => ?_
 refine Ae (Ab ?_)
 refine AJ (fun a w => Fr 17 [] [(2, .bool (decide (p0 = 2) || (decide (p0 = 8) || (decide (p0 = 10) || decide (p0 = 11)))))] a ∧ Stw ⟨Y, [], w0⟩ [] [] w) ?_ ?_
 ·
  refine Ac ?_
  refine ls F W Aa (Af F Aa).q fun a w F W => ?_
  refine ls F W Aa (A2 F Aa Aa).q fun a w F W => ?_
  refine ls F W Aa (Af F Aa).q fun a w F W => ?_
  rcases Bool.eq_false_or_eq_true (decide (p0 = 2)) with hb0 | hb0
  ·
   rw [hb0] at F
   iterate 2 refine Bf F Aa Aa Aa Aa Aa Aa Aa fun a F => ?_
   refine ls F W Aa (Ao F Aa Aa Aa).q fun a w F W => ?_
   refine ls F W Aa (Af F Aa).q fun a w F W => ?_
   iterate 2 refine Bf F Aa Aa Aa Aa Aa Aa Aa fun a F => ?_
   refine ls F W Aa (Ao F Aa Aa Aa).q fun a w F W => ?_
   refine ls F W Aa (Af F Aa).q fun a w F W => ?_
   iterate 2 refine Bf F Aa Aa Aa Aa Aa Aa Aa fun a F => ?_
   refine ls F W Aa (Ao F Aa Aa Aa).q fun a w F W => ?_
   refine ls F W Aa (Ad F Aa).q fun a w F W => ?_
   refine Ae (Ab ?_)
   exact ⟨F.re ⟨(by show some (Value.bool true) = some (Value.bool (decide (p0 = 2) || (decide (p0 = 8) || (decide (p0 = 10) || decide (p0 = 11))))); try rw [hb0]; all_goals simp only [Bool.not_true, Bool.not_false, Bool.true_and, Bool.false_and, Bool.true_or, Bool.false_or, Bool.and_true, Bool.or_false, cond_true, cond_false]), trivial⟩, W⟩
  rw [hb0] at F
  refine Ax F W (Ag F Aa Aa Aa Aa) Aa (An Aa) (Af F Aa).q fun a w F W => ?_
  refine Ax F W (Ag F Aa Aa Aa Aa) Aa (An Aa) (A2 F Aa Aa).q fun a w F W => ?_
  refine ls F W Aa (Aj F Aa Aa Aa).q fun a w F W => ?_
  refine ls F W Aa (Af F Aa).q fun a w F W => ?_
  rcases Bool.eq_false_or_eq_true (decide (p0 = 8)) with hb1 | hb1
  ·
   rw [hb1] at F
   iterate 2 refine Bf F Aa Aa Aa Aa Aa Aa Aa fun a F => ?_
   refine ls F W Aa (Ao F Aa Aa Aa).q fun a w F W => ?_
   refine ls F W Aa (Af F Aa).q fun a w F W => ?_
   iterate 2 refine Bf F Aa Aa Aa Aa Aa Aa Aa fun a F => ?_
   refine ls F W Aa (Ao F Aa Aa Aa).q fun a w F W => ?_
   refine ls F W Aa (Ad F Aa).q fun a w F W => ?_
   refine Ae (Ab ?_)
   exact ⟨F.re ⟨(by show some (Value.bool true) = some (Value.bool (decide (p0 = 2) || (decide (p0 = 8) || (decide (p0 = 10) || decide (p0 = 11))))); try rw [hb0]; try rw [hb1]; all_goals simp only [Bool.not_true, Bool.not_false, Bool.true_and, Bool.false_and, Bool.true_or, Bool.false_or, Bool.and_true, Bool.or_false, cond_true, cond_false]), trivial⟩, W⟩
  rw [hb1] at F
  refine Ax F W (Ag F Aa Aa Aa Aa) Aa (An Aa) (Af F Aa).q fun a w F W => ?_
  refine Ax F W (Ag F Aa Aa Aa Aa) Aa (An Aa) (A2 F Aa Aa).q fun a w F W => ?_
  refine ls F W Aa (Aj F Aa Aa Aa).q fun a w F W => ?_
  refine ls F W Aa (Af F Aa).q fun a w F W => ?_
  rcases Bool.eq_false_or_eq_true (decide (p0 = 10)) with hb2 | hb2
  ·
   rw [hb2] at F
   iterate 2 refine Bf F Aa Aa Aa Aa Aa Aa Aa fun a F => ?_
   refine ls F W Aa (Ao F Aa Aa Aa).q fun a w F W => ?_
   refine ls F W Aa (Ad F Aa).q fun a w F W => ?_
   refine Ae (Ab ?_)
   exact ⟨F.re ⟨(by show some (Value.bool true) = some (Value.bool (decide (p0 = 2) || (decide (p0 = 8) || (decide (p0 = 10) || decide (p0 = 11))))); try rw [hb2]; try rw [hb0]; try rw [hb1]; all_goals simp only [Bool.not_true, Bool.not_false, Bool.true_and, Bool.false_and, Bool.true_or, Bool.false_or, Bool.and_true, Bool.or_false, cond_true, cond_false]), trivial⟩, W⟩
  rw [hb2] at F
  refine Ax F W (Ag F Aa Aa Aa Aa) Aa (An Aa) (Af F Aa).q fun a w F W => ?_
  refine Ax F W (Ag F Aa Aa Aa Aa) Aa (An Aa) (A2 F Aa Aa).q fun a w F W => ?_
  refine ls F W Aa (Aj F Aa Aa Aa).q fun a w F W => ?_
  refine ls F W Aa (Ad F Aa).q fun a w F W => ?_
  refine Ae (Ab ?_)
  exact ⟨F.re ⟨(by show some (Value.bool (decide (p0 = 11))) = some (Value.bool (decide (p0 = 2) || (decide (p0 = 8) || (decide (p0 = 10) || decide (p0 = 11))))); try rw [hb2]; try rw [hb0]; try rw [hb1]; all_goals simp only [Bool.not_true, Bool.not_false, Bool.true_and, Bool.false_and, Bool.true_or, Bool.false_or, Bool.and_true, Bool.or_false, cond_true, cond_false]), trivial⟩, W⟩
 rintro a w ⟨F, W⟩
 refine Aw ?_
 subst H
 refine AR (.inl Aa) F W Aa (Au F Aa) ?_
 exact ⟨rfl, W.done⟩
theorem Jt : Has Tryd.prog 21 := ⟨fun args w => Ak Tryd.func21 rfl (by decide) args w⟩
def Bl (p0 : Int) : Bool := (decide (p0 ≠ 3) && (decide (p0 ≠ 10) && decide (p0 ≠ 11)))
theorem DI (Y : Nat → Prop) (w0 : World)  (p0 : Int) (r : Bool) (H : Bl p0 = r)  :
    Calls Tryd.prog 22 #[.int .i64 p0] w0 fun e w' => e = .returned (.bool r) ∧ Below w0.heap.size w0 w' := by
 refine enter Tryd.func22 Aa Tryd.ntmps22 Aa fun a F => ?_
 have W := Stw.start Y w0
 unfold Bl at H
 refine Ah (Ac ?_)
 refine ls F W Aa (Ad F Aa).q fun a w F W => ?_
 refine Ae (Ab ?_)
 refine AJ (fun a w => Fr 13 [] [(2, .bool (decide (p0 ≠ 3) && (decide (p0 ≠ 10) && decide (p0 ≠ 11))))] a ∧ Stw ⟨Y, [], w0⟩ [] [] w) ?_ ?_
 ·
  refine Ac ?_
  refine ls F W Aa (Af F Aa).q fun a w F W => ?_
  refine ls F W Aa (En F Aa Aa).q fun a w F W => ?_
  refine ls F W Aa (Af F Aa).q fun a w F W => ?_
  rcases Bool.eq_false_or_eq_true (decide (p0 ≠ 3)) with hb0 | hb0
  ·
   rw [hb0] at F
   refine Ax F W (Ag F Aa Aa Aa Aa) Aa (An Aa) (Af F Aa).q fun a w F W => ?_
   refine Ax F W (Ag F Aa Aa Aa Aa) Aa (An Aa) (En F Aa Aa).q fun a w F W => ?_
   refine ls F W Aa (Ao F Aa Aa Aa).q fun a w F W => ?_
   refine ls F W Aa (Af F Aa).q fun a w F W => ?_
   rcases Bool.eq_false_or_eq_true (decide (p0 ≠ 10)) with hb1 | hb1
   ·
    rw [hb1] at F
    refine Ax F W (Ag F Aa Aa Aa Aa) Aa (An Aa) (Af F Aa).q fun a w F W => ?_
    refine Ax F W (Ag F Aa Aa Aa Aa) Aa (An Aa) (En F Aa Aa).q fun a w F W => ?_
    refine ls F W Aa (Ao F Aa Aa Aa).q fun a w F W => ?_
    refine ls F W Aa (Ad F Aa).q fun a w F W => ?_
    refine Ae (Ab ?_)
    exact ⟨F.re ⟨(by show some (Value.bool (decide (p0 ≠ 11))) = some (Value.bool (decide (p0 ≠ 3) && (decide (p0 ≠ 10) && decide (p0 ≠ 11)))); try rw [hb1]; try rw [hb0]; all_goals simp only [Bool.not_true, Bool.not_false, Bool.true_and, Bool.false_and, Bool.true_or, Bool.false_or, Bool.and_true, Bool.or_false, cond_true, cond_false]), trivial⟩, W⟩
   rw [hb1] at F
   iterate 2 refine Bf F Aa Aa Aa Aa Aa Aa Aa fun a F => ?_
   refine ls F W Aa (Aj F Aa Aa Aa).q fun a w F W => ?_
   refine ls F W Aa (Ad F Aa).q fun a w F W => ?_
   refine Ae (Ab ?_)
   exact ⟨F.re ⟨(by show some (Value.bool false) = some (Value.bool (decide (p0 ≠ 3) && (decide (p0 ≠ 10) && decide (p0 ≠ 11)))); try rw [hb1]; try rw [hb0]; all_goals simp only [Bool.not_true, Bool.not_false, Bool.true_and, Bool.false_and, Bool.true_or, Bool.false_or, Bool.and_true, Bool.or_false, cond_true, cond_false]), trivial⟩, W⟩
  rw [hb0] at F
  iterate 2 refine Bf F Aa Aa Aa Aa Aa Aa Aa fun a F => ?_
  refine ls F W Aa (Aj F Aa Aa Aa).q fun a w F W => ?_
  refine ls F W Aa (Af F Aa).q fun a w F W => ?_
  iterate 2 refine Bf F Aa Aa Aa Aa Aa Aa Aa fun a F => ?_
  refine ls F W Aa (Aj F Aa Aa Aa).q fun a w F W => ?_
  refine ls F W Aa (Ad F Aa).q fun a w F W => ?_
  refine Ae (Ab ?_)
  exact ⟨F.re ⟨(by show some (Value.bool false) = some (Value.bool (decide (p0 ≠ 3) && (decide (p0 ≠ 10) && decide (p0 ≠ 11)))); try rw [hb0]; all_goals simp only [Bool.not_true, Bool.not_false, Bool.true_and, Bool.false_and, Bool.true_or, Bool.false_or, Bool.and_true, Bool.or_false, cond_true, cond_false]), trivial⟩, W⟩
 rintro a w ⟨F, W⟩
 refine Aw ?_
 subst H
 refine AR (.inl Aa) F W Aa (Au F Aa) ?_
 exact ⟨rfl, W.done⟩
end Go.Proofs.YtkmacelfldeenaaDoor
