/- The statements of layer 11. Conditions: none. -/
import Derived.Test.YtkjjioigbpkifaabM11
import Derived.Test.YtkjjioigbpkifaabOA
import Derived.ProofKit
import Derived.OpenShut
import Derived.Carry
import Derived.Lib.SmallJoins
namespace Go.Proofs.Ytkjjioigbpkifaa
open Go Go.RowKit
set_option linter.unusedVariables false
set_option linter.unusedSimpArgs false
set_option maxRecDepth 20000
theorem L8 : BN Try.prog 23 Lo (DI (fun n => (Lit.int .i64 n).wf = true) (DI (fun n => (Lit.int .i64 n).wf = true) (DI (fun n => (Lit.int .i64 n).wf = true) (fun n => (Lit.int .i64 n).wf = true)))) := BN.array Try.underlying23 (by kernel_rfl) (CX.cons (by kernel_rfl) (by decide) (BN.int Try.underlying3) (CX.cons (by kernel_rfl) (by decide) (BN.int Try.underlying3) (CX.cons (by kernel_rfl) (by decide) (BN.int Try.underlying3) (CX.one (by kernel_rfl) (BN.int Try.underlying3)))))
theorem M4 : BN Try.prog 37 Lk (DI (fun n => (Lit.int .i64 n).wf = true) (DI (DI (fun n => (Lit.int .i64 n).wf = true) (DI (fun n => (Lit.int .i64 n).wf = true) (DI (fun n => (Lit.int .i64 n).wf = true) (fun n => (Lit.int .i64 n).wf = true)))) (DI (fun n => (Lit.int .i64 n).wf = true) (DI (fun n => (Lit.int .i64 n).wf = true) (DI (fun n => (Lit.int .i64 n).wf = true) (fun n => (Lit.int .i64 n).wf = true)))))) := BN.struct Try.underlying37 (by kernel_rfl) (Cn.cons (by rfl) (by kernel_rfl) (BN.int Try.underlying3) (Cn.cons (by rfl) (by kernel_rfl) L8 (Cn.one (by rfl) (by kernel_rfl) L8)))
theorem Ms : BN Try.prog 61 BB (DI (fun n => (Lit.int .i64 n).wf = true) (DI (fun n => (Lit.int .i64 n).wf = true) (fun n => (Lit.int .i64 n).wf = true))) := BN.struct Try.underlying61 (by kernel_rfl) (Cn.cons (by rfl) (by kernel_rfl) (BN.int Try.underlying3) (Cn.cons (by rfl) (by kernel_rfl) (BN.int Try.underlying3) (Cn.one (by rfl) (by kernel_rfl) (BN.int Try.underlying3))))
theorem ME : BN Try.prog 38 (Rp.slice BB) (Km (DI (fun n => (Lit.int .i64 n).wf = true) (DI (fun n => (Lit.int .i64 n).wf = true) (fun n => (Lit.int .i64 n).wf = true)))) := BN.slice Try.underlying38 (by kernel_rfl) (by decide) Ms
theorem MH : BN Try.prog 40 A4 (DI (fun n => (Lit.int .i64 n).wf = true) (DI (DI (fun n => (Lit.int .i64 n).wf = true) (DI (DI (fun n => (Lit.int .i64 n).wf = true) (DI (fun n => (Lit.int .i64 n).wf = true) (DI (fun n => (Lit.int .i64 n).wf = true) (fun n => (Lit.int .i64 n).wf = true)))) (DI (fun n => (Lit.int .i64 n).wf = true) (DI (fun n => (Lit.int .i64 n).wf = true) (DI (fun n => (Lit.int .i64 n).wf = true) (fun n => (Lit.int .i64 n).wf = true)))))) (Km (DI (fun n => (Lit.int .i64 n).wf = true) (DI (fun n => (Lit.int .i64 n).wf = true) (fun n => (Lit.int .i64 n).wf = true)))))) := BN.struct Try.underlying40 (by kernel_rfl) (Cn.cons (by rfl) (by kernel_rfl) (BN.int Try.underlying3) (Cn.cons (by rfl) (by kernel_rfl) M4 (Cn.one (by rfl) (by kernel_rfl) ME)))
theorem M3 : BN Try.prog 22 (Rp.slice A4) (Km (DI (fun n => (Lit.int .i64 n).wf = true) (DI (DI (fun n => (Lit.int .i64 n).wf = true) (DI (DI (fun n => (Lit.int .i64 n).wf = true) (DI (fun n => (Lit.int .i64 n).wf = true) (DI (fun n => (Lit.int .i64 n).wf = true) (fun n => (Lit.int .i64 n).wf = true)))) (DI (fun n => (Lit.int .i64 n).wf = true) (DI (fun n => (Lit.int .i64 n).wf = true) (DI (fun n => (Lit.int .i64 n).wf = true) (fun n => (Lit.int .i64 n).wf = true)))))) (Km (DI (fun n => (Lit.int .i64 n).wf = true) (DI (fun n => (Lit.int .i64 n).wf = true) (fun n => (Lit.int .i64 n).wf = true))))))) := BN.slice Try.underlying22 (by kernel_rfl) (by decide) MH
theorem MK : BN Try.prog 24 LE (DI (fun n => (Lit.int .i64 n).wf = true) (DI (fun n => (Lit.int .i64 n).wf = true) (DI (fun n => (Lit.int .i64 n).wf = true) (fun n => (Lit.int .i64 n).wf = true)))) := BN.array Try.underlying24 (by kernel_rfl) (CX.cons (by kernel_rfl) (by decide) (BN.int Try.underlying3) (CX.cons (by kernel_rfl) (by decide) (BN.int Try.underlying3) (CX.cons (by kernel_rfl) (by decide) (BN.int Try.underlying3) (CX.one (by kernel_rfl) (BN.int Try.underlying3)))))
namespace RowTableFirst
open Go.ChangeShapes Go.WideShapes Go.ChangeAt Go.RowKit Go.Joins
open Go.ChangeMaps (open_string shut_string)
theorem own : ownKnob Try.prog.godebug = none := by kernel_rfl
theorem Gd : laidOutB Try.prog = true := by kernel_rfl
set_option maxRecDepth 100000 in
theorem DP (os : Os) (started : os.Started) (H : Type) (enc : TypeId × Value → H) :
    ReturnsInHanded {} Try.checked os 7 .any (Rows.tableFirstSpec.pre6 enc Try.prog Try.f7 Rows.tableFirstRow.domain false) (Rows.tableFirstSpec.post enc Try.prog Try.f7 false true false false) := by
  refine returnsInHanded_of_change (C := Try.checked) own started (by kernel_rfl) Try.func7
    (ChangeSpec.witness6 (enc := enc) (C := Try.checked) false ⟨#[], #[.slice none 0 0, .int .i64 0, .int .i64 0, .int .i64 0, .agg #[.int .i64 0, .int .i64 0, .int .i64 0, .int .i64 0]], []⟩ 8 (by kernel_rfl) (by kernel_rfl) (by kernel_rfl) (by kernel_rfl)) ?_
  intro W base args ds gs before hval0 hW hcnd _
  have hval : ∀ (j : Nat) t v, Try.f7.params[j]? = some t → args[j]? = some v → Value.okWide Try.prog W .any base t v := hval0
  have hW' := hW
  obtain ⟨p, q, hA0, hV, rfl, hfz, hnd⟩ := hW
  have hA : DataW.TrodAll enc Try.prog W 0 (fun _ => true) true Try.f7.params.toList args.toList ds p := hA0
  rw [Try.params7] at hA hval
  obtain ⟨v0, vs0, d0, ds0, p0, q0, hargs, rfl, rfl, h0, r0⟩ := trodAll_cons hA
  obtain ⟨v1, vs1, d1, ds1, p1, q1, rfl, rfl, rfl, h1, r1⟩ := trodAll_cons r0
  obtain ⟨v2, vs2, d2, ds2, p2, q2, rfl, rfl, rfl, h2, r2⟩ := trodAll_cons r1
  obtain ⟨v3, vs3, d3, ds3, p3, q3, rfl, rfl, rfl, h3, r3⟩ := trodAll_cons r2
  obtain ⟨v4, vs4, d4, ds4, p4, q4, rfl, rfl, rfl, h4, r4⟩ := trodAll_cons r3
  obtain ⟨rfl, rfl, rfl⟩ := trodAll_nil r4
  obtain rfl : args = #[v0, v1, v2, v3, v4] := by cases args; simp_all
  obtain ⟨rfl, rfl⟩ := trodVars_none hV
  have k0 := h0
  have lt0 : ∀ x ∈ p0, x.block < W.heap.size := by obtain ⟨m, hm⟩ := k0; exact DataW.trod_lt m _ _ _ hm
  have k1 := h1
  have lt1 : ∀ x ∈ p1, x.block < W.heap.size := by obtain ⟨m, hm⟩ := k1; exact DataW.trod_lt m _ _ _ hm
  have k2 := h2
  have lt2 : ∀ x ∈ p2, x.block < W.heap.size := by obtain ⟨m, hm⟩ := k2; exact DataW.trod_lt m _ _ _ hm
  have k3 := h3
  have lt3 : ∀ x ∈ p3, x.block < W.heap.size := by obtain ⟨m, hm⟩ := k3; exact DataW.trod_lt m _ _ _ hm
  have k4 := h4
  have lt4 : ∀ x ∈ p4, x.block < W.heap.size := by obtain ⟨m, hm⟩ := k4; exact DataW.trod_lt m _ _ _ hm
  obtain ⟨fu0, hf0⟩ := h0
  obtain ⟨a0, hr0, ok0⟩ := M3 _ _ _ _ _ _ _ _ hf0
  rw [Gl Try.underlying22 rfl (hval 0 22 v0 rfl rfl)] at hr0
  obtain ⟨y0, e0, s0⟩ := hr0
  obtain rfl := (List.cons.inj e0).1
  obtain ⟨fu1, hf1⟩ := h1
  obtain ⟨a1, hr1, ok1⟩ := (BN.int Try.underlying3) _ _ _ _ _ _ _ _ hf1
  rw [Gl Try.underlying3 rfl (hval 1 3 v1 rfl rfl)] at hr1
  obtain rfl := (List.cons.inj hr1).1
  obtain ⟨fu2, hf2⟩ := h2
  obtain ⟨a2, hr2, ok2⟩ := (BN.int Try.underlying3) _ _ _ _ _ _ _ _ hf2
  rw [Gl Try.underlying3 rfl (hval 2 3 v2 rfl rfl)] at hr2
  obtain rfl := (List.cons.inj hr2).1
  obtain ⟨fu3, hf3⟩ := h3
  obtain ⟨a3, hr3, ok3⟩ := (BN.int Try.underlying3) _ _ _ _ _ _ _ _ hf3
  rw [Gl Try.underlying3 rfl (hval 3 3 v3 rfl rfl)] at hr3
  obtain rfl := (List.cons.inj hr3).1
  obtain ⟨fu4, hf4⟩ := h4
  obtain ⟨a4, hr4, ok4⟩ := MK _ _ _ _ _ _ _ _ hf4
  obtain ⟨cs4, rfl⟩ := JG Try.underlying24 (hval 4 24 v4 rfl rfl)
  obtain rfl : cs4 = (LT a4).toArray := by have e := L6.to hr4; rw [← e]; simp [Value.cells]
  clear hA0 hval0
  refine (GA any W v0 a0 a1 a2 a3 a4 true (GM a0 ok0 a1 ok1 a2 ok2 a3 ok3 a4 ok4) s0.nx).mono fun e W' ⟨he, bel⟩ => ?_
  subst he
  exact ⟨_, rfl, _, _, _, [], _, [], hW', trodAll_mk1 (shut_bool Try.underlying4 _), (trodAll_cons_mk (Below.trod Gd (by kernel_rfl) (of_decide_eq_true (by kernel_rfl)) k0 bel lt0) (trodAll_cons_mk (Below.trod Gd (by kernel_rfl) (of_decide_eq_true (by kernel_rfl)) k1 bel lt1) (trodAll_cons_mk (Below.trod Gd (by kernel_rfl) (of_decide_eq_true (by kernel_rfl)) k2 bel lt2) (trodAll_cons_mk (Below.trod Gd (by kernel_rfl) (of_decide_eq_true (by kernel_rfl)) k3 bel lt3) (trodAll_cons_mk (Below.trod Gd (by kernel_rfl) (of_decide_eq_true (by kernel_rfl)) k4 bel lt4) trodAll_mk0))))), rfl, bel.frame _, fun h => by cases h⟩
theorem over : Rows.tableFirstRow.holds Try.pinned (OpenSpec.ofChange Rows.tableFirstSpec) :=
  OpenClaim.holds_of_wide 7 Try.f7 rfl rfl rfl rfl rfl rfl rfl ⟨rfl, rfl, rfl, rfl, rfl⟩ rfl rfl rfl rfl rfl (by kernel_rfl) Try.func7 (by kernel_rfl)
    (of_decide_eq_true (by kernel_rfl)) (by unfold Func.isWrapper; first | (rw [if_pos (by decide +kernel)]; kernel_rfl) | (rw [if_neg (by decide +kernel)]; exact ⟨rfl, rfl⟩))
    (fun os started H enc _ => DP os started H enc)
end RowTableFirst
theorem tableFirst_holds : Rows.TableFirstSaid := RowTableFirst.over
end Go.Proofs.Ytkjjioigbpkifaa
