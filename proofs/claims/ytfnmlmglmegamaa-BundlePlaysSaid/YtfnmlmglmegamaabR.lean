/- The statements of layer 12. Conditions: none. -/
import Derived.Test.YtfnmlmglmegamaabM12
import Derived.Test.YtfnmlmglmegamaabOA
import Derived.ProofKit
import Derived.OpenShut
import Derived.Carry
import Derived.Lib.SmallJoins
namespace Go.Proofs.Ytfnmlmglmegamaa
open Go Go.RowKit
set_option linter.unusedVariables false
set_option linter.unusedSimpArgs false
set_option maxRecDepth 20000
theorem SN : B3 Try.prog 32 RN (CM (fun n => (Lit.int .i64 n).wf = true) (CM (fun n => (Lit.int .i64 n).wf = true) (CM (fun n => (Lit.int .i64 n).wf = true) (fun n => (Lit.int .i64 n).wf = true)))) := B3.array Try.underlying32 (by kernel_rfl) (EZ.cons (by kernel_rfl) (by decide) (B3.int Try.underlying3) (EZ.cons (by kernel_rfl) (by decide) (B3.int Try.underlying3) (EZ.cons (by kernel_rfl) (by decide) (B3.int Try.underlying3) (EZ.one (by kernel_rfl) (B3.int Try.underlying3)))))
theorem Tv : B3 Try.prog 34 RO (CM (fun n => (Lit.int .i64 n).wf = true) (CM (CM (fun n => (Lit.int .i64 n).wf = true) (CM (fun n => (Lit.int .i64 n).wf = true) (CM (fun n => (Lit.int .i64 n).wf = true) (fun n => (Lit.int .i64 n).wf = true)))) (CM (fun n => (Lit.int .i64 n).wf = true) (CM (fun n => (Lit.int .i64 n).wf = true) (CM (fun n => (Lit.int .i64 n).wf = true) (fun n => (Lit.int .i64 n).wf = true)))))) := B3.struct Try.underlying34 (by kernel_rfl) (Cs.cons (by rfl) (by kernel_rfl) (B3.int Try.underlying3) (Cs.cons (by rfl) (by kernel_rfl) SN (Cs.one (by rfl) (by kernel_rfl) SN)))
theorem S5 : B3 Try.prog 88 Bk (CM (fun n => (Lit.int .i64 n).wf = true) (CM (fun n => (Lit.int .i64 n).wf = true) (fun n => (Lit.int .i64 n).wf = true))) := B3.struct Try.underlying88 (by kernel_rfl) (Cs.cons (by rfl) (by kernel_rfl) (B3.int Try.underlying3) (Cs.cons (by rfl) (by kernel_rfl) (B3.int Try.underlying3) (Cs.one (by rfl) (by kernel_rfl) (B3.int Try.underlying3))))
theorem SV : B3 Try.prog 35 (Rp.slice Bk) (NH (CM (fun n => (Lit.int .i64 n).wf = true) (CM (fun n => (Lit.int .i64 n).wf = true) (fun n => (Lit.int .i64 n).wf = true)))) := B3.slice Try.underlying35 (by kernel_rfl) (by decide) S5
theorem St : B3 Try.prog 37 AK (CM (fun n => (Lit.int .i64 n).wf = true) (CM (CM (fun n => (Lit.int .i64 n).wf = true) (CM (CM (fun n => (Lit.int .i64 n).wf = true) (CM (fun n => (Lit.int .i64 n).wf = true) (CM (fun n => (Lit.int .i64 n).wf = true) (fun n => (Lit.int .i64 n).wf = true)))) (CM (fun n => (Lit.int .i64 n).wf = true) (CM (fun n => (Lit.int .i64 n).wf = true) (CM (fun n => (Lit.int .i64 n).wf = true) (fun n => (Lit.int .i64 n).wf = true)))))) (NH (CM (fun n => (Lit.int .i64 n).wf = true) (CM (fun n => (Lit.int .i64 n).wf = true) (fun n => (Lit.int .i64 n).wf = true)))))) := B3.struct Try.underlying37 (by kernel_rfl) (Cs.cons (by rfl) (by kernel_rfl) (B3.int Try.underlying3) (Cs.cons (by rfl) (by kernel_rfl) Tv (Cs.one (by rfl) (by kernel_rfl) SV)))
theorem S1 : B3 Try.prog 39 EQ (CM (fun n => (Lit.int .i64 n).wf = true) (CM (CM (fun n => (Lit.int .i64 n).wf = true) (CM (CM (fun n => (Lit.int .i64 n).wf = true) (CM (CM (fun n => (Lit.int .i64 n).wf = true) (CM (fun n => (Lit.int .i64 n).wf = true) (CM (fun n => (Lit.int .i64 n).wf = true) (fun n => (Lit.int .i64 n).wf = true)))) (CM (fun n => (Lit.int .i64 n).wf = true) (CM (fun n => (Lit.int .i64 n).wf = true) (CM (fun n => (Lit.int .i64 n).wf = true) (fun n => (Lit.int .i64 n).wf = true)))))) (NH (CM (fun n => (Lit.int .i64 n).wf = true) (CM (fun n => (Lit.int .i64 n).wf = true) (fun n => (Lit.int .i64 n).wf = true)))))) Rf)) := B3.struct Try.underlying39 (by kernel_rfl) (Cs.cons (by rfl) (by kernel_rfl) (B3.int Try.underlying3) (Cs.cons (by rfl) (by kernel_rfl) St (Cs.one (by rfl) (by kernel_rfl) (B3.bool Try.underlying4))))
theorem TR : B3 Try.prog 41 RI (CM (fun n => (Lit.int .i64 n).wf = true) (CM (fun n => (Lit.int .i64 n).wf = true) (CM (fun n => (Lit.int .i64 n).wf = true) (CM (CM (fun n => (Lit.int .i64 n).wf = true) (CM (CM (fun n => (Lit.int .i64 n).wf = true) (CM (CM (fun n => (Lit.int .i64 n).wf = true) (CM (fun n => (Lit.int .i64 n).wf = true) (CM (fun n => (Lit.int .i64 n).wf = true) (fun n => (Lit.int .i64 n).wf = true)))) (CM (fun n => (Lit.int .i64 n).wf = true) (CM (fun n => (Lit.int .i64 n).wf = true) (CM (fun n => (Lit.int .i64 n).wf = true) (fun n => (Lit.int .i64 n).wf = true)))))) (NH (CM (fun n => (Lit.int .i64 n).wf = true) (CM (fun n => (Lit.int .i64 n).wf = true) (fun n => (Lit.int .i64 n).wf = true)))))) Rf)))) := B3.struct Try.underlying41 (by kernel_rfl) (Cs.cons (by rfl) (by kernel_rfl) (B3.int Try.underlying3) (Cs.cons (by rfl) (by kernel_rfl) (B3.int Try.underlying3) (Cs.one (by rfl) (by kernel_rfl) S1)))
theorem TE : B3 Try.prog 22 (Rp.slice RI) (NH (CM (fun n => (Lit.int .i64 n).wf = true) (CM (fun n => (Lit.int .i64 n).wf = true) (CM (fun n => (Lit.int .i64 n).wf = true) (CM (CM (fun n => (Lit.int .i64 n).wf = true) (CM (CM (fun n => (Lit.int .i64 n).wf = true) (CM (CM (fun n => (Lit.int .i64 n).wf = true) (CM (fun n => (Lit.int .i64 n).wf = true) (CM (fun n => (Lit.int .i64 n).wf = true) (fun n => (Lit.int .i64 n).wf = true)))) (CM (fun n => (Lit.int .i64 n).wf = true) (CM (fun n => (Lit.int .i64 n).wf = true) (CM (fun n => (Lit.int .i64 n).wf = true) (fun n => (Lit.int .i64 n).wf = true)))))) (NH (CM (fun n => (Lit.int .i64 n).wf = true) (CM (fun n => (Lit.int .i64 n).wf = true) (fun n => (Lit.int .i64 n).wf = true)))))) Rf))))) := B3.slice Try.underlying22 (by kernel_rfl) (by decide) TR
theorem S4 : B3 Try.prog 23 (Rp.slice AK) (NH (CM (fun n => (Lit.int .i64 n).wf = true) (CM (CM (fun n => (Lit.int .i64 n).wf = true) (CM (CM (fun n => (Lit.int .i64 n).wf = true) (CM (fun n => (Lit.int .i64 n).wf = true) (CM (fun n => (Lit.int .i64 n).wf = true) (fun n => (Lit.int .i64 n).wf = true)))) (CM (fun n => (Lit.int .i64 n).wf = true) (CM (fun n => (Lit.int .i64 n).wf = true) (CM (fun n => (Lit.int .i64 n).wf = true) (fun n => (Lit.int .i64 n).wf = true)))))) (NH (CM (fun n => (Lit.int .i64 n).wf = true) (CM (fun n => (Lit.int .i64 n).wf = true) (fun n => (Lit.int .i64 n).wf = true))))))) := B3.slice Try.underlying23 (by kernel_rfl) (by decide) St
namespace RowBundlePlays
open Go.ChangeShapes Go.WideShapes Go.ChangeAt Go.RowKit Go.Joins
open Go.ChangeMaps (open_string shut_string)
theorem own : ownKnob Try.prog.godebug = none := by kernel_rfl
theorem IU : laidOutB Try.prog = true := by kernel_rfl
set_option maxRecDepth 100000 in
theorem FK (os : Os) (started : os.Started) (H : Type) (enc : TypeId × Value → H) :
    ReturnsInHanded {} Try.checked os 3 .any (Rows.bundlePlaysSpec.pre6 enc Try.prog Try.f3 Rows.bundlePlaysRow.domain false) (Rows.bundlePlaysSpec.post enc Try.prog Try.f3 false true false false) := by
  refine returnsInHanded_of_change (C := Try.checked) own started (by kernel_rfl) Try.func3
    (ChangeSpec.witness6 (enc := enc) (C := Try.checked) false ⟨#[], #[.slice none 0 0, .slice none 0 0, .int .i64 0, .int .i64 0], []⟩ 8 (by kernel_rfl) (by kernel_rfl) (by kernel_rfl) (by kernel_rfl)) ?_
  intro W base args ds gs before hval0 hW hcnd _
  have hval : ∀ (j : Nat) t v, Try.f3.params[j]? = some t → args[j]? = some v → Value.okWide Try.prog W .any base t v := hval0
  have hW' := hW
  obtain ⟨p, q, hA0, hV, rfl, hfz, hnd⟩ := hW
  have hA : DataW.TrodAll enc Try.prog W 0 (fun _ => true) true Try.f3.params.toList args.toList ds p := hA0
  rw [Try.params3] at hA hval
  obtain ⟨v0, vs0, d0, ds0, p0, q0, hargs, rfl, rfl, h0, r0⟩ := trodAll_cons hA
  obtain ⟨v1, vs1, d1, ds1, p1, q1, rfl, rfl, rfl, h1, r1⟩ := trodAll_cons r0
  obtain ⟨v2, vs2, d2, ds2, p2, q2, rfl, rfl, rfl, h2, r2⟩ := trodAll_cons r1
  obtain ⟨v3, vs3, d3, ds3, p3, q3, rfl, rfl, rfl, h3, r3⟩ := trodAll_cons r2
  obtain ⟨rfl, rfl, rfl⟩ := trodAll_nil r3
  obtain rfl : args = #[v0, v1, v2, v3] := by cases args; simp_all
  obtain ⟨rfl, rfl⟩ := trodVars_none hV
  have k0 := h0
  have lt0 : ∀ x ∈ p0, x.block < W.heap.size := by obtain ⟨m, hm⟩ := k0; exact DataW.trod_lt m _ _ _ hm
  have k1 := h1
  have lt1 : ∀ x ∈ p1, x.block < W.heap.size := by obtain ⟨m, hm⟩ := k1; exact DataW.trod_lt m _ _ _ hm
  have k2 := h2
  have lt2 : ∀ x ∈ p2, x.block < W.heap.size := by obtain ⟨m, hm⟩ := k2; exact DataW.trod_lt m _ _ _ hm
  have k3 := h3
  have lt3 : ∀ x ∈ p3, x.block < W.heap.size := by obtain ⟨m, hm⟩ := k3; exact DataW.trod_lt m _ _ _ hm
  obtain ⟨fu0, hf0⟩ := h0
  obtain ⟨a0, hr0, ok0⟩ := TE _ _ _ _ _ _ _ _ hf0
  rw [HJ Try.underlying22 rfl (hval 0 22 v0 rfl rfl)] at hr0
  obtain ⟨y0, e0, s0⟩ := hr0
  obtain rfl := (List.cons.inj e0).1
  obtain ⟨fu1, hf1⟩ := h1
  obtain ⟨a1, hr1, ok1⟩ := S4 _ _ _ _ _ _ _ _ hf1
  rw [HJ Try.underlying23 rfl (hval 1 23 v1 rfl rfl)] at hr1
  obtain ⟨y1, e1, s1⟩ := hr1
  obtain rfl := (List.cons.inj e1).1
  obtain ⟨fu2, hf2⟩ := h2
  obtain ⟨a2, hr2, ok2⟩ := (B3.int Try.underlying3) _ _ _ _ _ _ _ _ hf2
  rw [HJ Try.underlying3 rfl (hval 2 3 v2 rfl rfl)] at hr2
  obtain rfl := (List.cons.inj hr2).1
  obtain ⟨fu3, hf3⟩ := h3
  obtain ⟨a3, hr3, ok3⟩ := (B3.int Try.underlying3) _ _ _ _ _ _ _ _ hf3
  rw [HJ Try.underlying3 rfl (hval 3 3 v3 rfl rfl)] at hr3
  obtain rfl := (List.cons.inj hr3).1
  clear hA0 hval0
  refine (HO any W v0 v1 a0 a1 a2 a3 true (Ig a0 ok0 a1 ok1 a2 ok2 a3 ok3) s0 s1).mono fun e W' ⟨he, bel⟩ => ?_
  subst he
  exact ⟨_, rfl, _, _, _, [], _, [], hW', trodAll_mk1 (shut_bool Try.underlying4 _), (trodAll_cons_mk (Below.trod IU (by kernel_rfl) (of_decide_eq_true (by kernel_rfl)) k0 bel lt0) (trodAll_cons_mk (Below.trod IU (by kernel_rfl) (of_decide_eq_true (by kernel_rfl)) k1 bel lt1) (trodAll_cons_mk (Below.trod IU (by kernel_rfl) (of_decide_eq_true (by kernel_rfl)) k2 bel lt2) (trodAll_cons_mk (Below.trod IU (by kernel_rfl) (of_decide_eq_true (by kernel_rfl)) k3 bel lt3) trodAll_mk0)))), rfl, bel.frame _, fun h => by cases h⟩
theorem over : Rows.bundlePlaysRow.holds Try.pinned (OpenSpec.ofChange Rows.bundlePlaysSpec) :=
  OpenClaim.holds_of_wide 3 Try.f3 rfl rfl rfl rfl rfl rfl rfl ⟨rfl, rfl, rfl, rfl, rfl⟩ rfl rfl rfl rfl rfl (by kernel_rfl) Try.func3 (by kernel_rfl)
    (of_decide_eq_true (by kernel_rfl)) (by unfold Func.isWrapper; first | (rw [if_pos (by decide +kernel)]; kernel_rfl) | (rw [if_neg (by decide +kernel)]; exact ⟨rfl, rfl⟩))
    (fun os started H enc _ => FK os started H enc)
end RowBundlePlays
theorem bundlePlays_holds : Rows.BundlePlaysSaid := RowBundlePlays.over
end Go.Proofs.Ytfnmlmglmegamaa
