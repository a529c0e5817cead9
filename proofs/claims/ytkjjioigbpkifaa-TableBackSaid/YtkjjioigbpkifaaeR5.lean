/- The statements of layer 11. Conditions: none. -/
import Derived.Test.YtkjjioigbpkifaaeM11B
import Derived.Test.YtkjjioigbpkifaaeOA
import Derived.ProofKit
import Derived.OpenShut
import Derived.Carry
import Derived.Lib.SmallJoins
namespace Go.Proofs.Ytkjjioigbpkifaa
open Go Go.RowKit
set_option linter.unusedVariables false
set_option linter.unusedSimpArgs false
set_option maxRecDepth 20000
theorem O8 : BZ Try.prog 23 Ou (Ei (fun n => (Lit.int .i64 n).wf = true) (Ei (fun n => (Lit.int .i64 n).wf = true) (Ei (fun n => (Lit.int .i64 n).wf = true) (fun n => (Lit.int .i64 n).wf = true)))) := BZ.array Try.underlying23 (by kernel_rfl) (Dh.cons (by kernel_rfl) (by decide) (BZ.int Try.underlying3) (Dh.cons (by kernel_rfl) (by decide) (BZ.int Try.underlying3) (Dh.cons (by kernel_rfl) (by decide) (BZ.int Try.underlying3) (Dh.one (by kernel_rfl) (BZ.int Try.underlying3)))))
theorem PO : BZ Try.prog 37 Om (Ei (fun n => (Lit.int .i64 n).wf = true) (Ei (Ei (fun n => (Lit.int .i64 n).wf = true) (Ei (fun n => (Lit.int .i64 n).wf = true) (Ei (fun n => (Lit.int .i64 n).wf = true) (fun n => (Lit.int .i64 n).wf = true)))) (Ei (fun n => (Lit.int .i64 n).wf = true) (Ei (fun n => (Lit.int .i64 n).wf = true) (Ei (fun n => (Lit.int .i64 n).wf = true) (fun n => (Lit.int .i64 n).wf = true)))))) := BZ.struct Try.underlying37 (by kernel_rfl) (CG.cons (by rfl) (by kernel_rfl) (BZ.int Try.underlying3) (CG.cons (by rfl) (by kernel_rfl) O8 (CG.one (by rfl) (by kernel_rfl) O8)))
theorem Pn : BZ Try.prog 61 Bu (Ei (fun n => (Lit.int .i64 n).wf = true) (Ei (fun n => (Lit.int .i64 n).wf = true) (fun n => (Lit.int .i64 n).wf = true))) := BZ.struct Try.underlying61 (by kernel_rfl) (CG.cons (by rfl) (by kernel_rfl) (BZ.int Try.underlying3) (CG.cons (by rfl) (by kernel_rfl) (BZ.int Try.underlying3) (CG.one (by rfl) (by kernel_rfl) (BZ.int Try.underlying3))))
theorem Pt : BZ Try.prog 38 (Rp.slice Bu) (Ny (Ei (fun n => (Lit.int .i64 n).wf = true) (Ei (fun n => (Lit.int .i64 n).wf = true) (fun n => (Lit.int .i64 n).wf = true)))) := BZ.slice Try.underlying38 (by kernel_rfl) (by decide) Pn
theorem OV : BZ Try.prog 40 Bc (Ei (fun n => (Lit.int .i64 n).wf = true) (Ei (Ei (fun n => (Lit.int .i64 n).wf = true) (Ei (Ei (fun n => (Lit.int .i64 n).wf = true) (Ei (fun n => (Lit.int .i64 n).wf = true) (Ei (fun n => (Lit.int .i64 n).wf = true) (fun n => (Lit.int .i64 n).wf = true)))) (Ei (fun n => (Lit.int .i64 n).wf = true) (Ei (fun n => (Lit.int .i64 n).wf = true) (Ei (fun n => (Lit.int .i64 n).wf = true) (fun n => (Lit.int .i64 n).wf = true)))))) (Ny (Ei (fun n => (Lit.int .i64 n).wf = true) (Ei (fun n => (Lit.int .i64 n).wf = true) (fun n => (Lit.int .i64 n).wf = true)))))) := BZ.struct Try.underlying40 (by kernel_rfl) (CG.cons (by rfl) (by kernel_rfl) (BZ.int Try.underlying3) (CG.cons (by rfl) (by kernel_rfl) PO (CG.one (by rfl) (by kernel_rfl) Pt)))
theorem PH : BZ Try.prog 22 (Rp.slice Bc) (Ny (Ei (fun n => (Lit.int .i64 n).wf = true) (Ei (Ei (fun n => (Lit.int .i64 n).wf = true) (Ei (Ei (fun n => (Lit.int .i64 n).wf = true) (Ei (fun n => (Lit.int .i64 n).wf = true) (Ei (fun n => (Lit.int .i64 n).wf = true) (fun n => (Lit.int .i64 n).wf = true)))) (Ei (fun n => (Lit.int .i64 n).wf = true) (Ei (fun n => (Lit.int .i64 n).wf = true) (Ei (fun n => (Lit.int .i64 n).wf = true) (fun n => (Lit.int .i64 n).wf = true)))))) (Ny (Ei (fun n => (Lit.int .i64 n).wf = true) (Ei (fun n => (Lit.int .i64 n).wf = true) (fun n => (Lit.int .i64 n).wf = true))))))) := BZ.slice Try.underlying22 (by kernel_rfl) (by decide) OV
theorem PS : BZ Try.prog 24 Ow (Ei (fun n => (Lit.int .i64 n).wf = true) (Ei (fun n => (Lit.int .i64 n).wf = true) (Ei (fun n => (Lit.int .i64 n).wf = true) (fun n => (Lit.int .i64 n).wf = true)))) := BZ.array Try.underlying24 (by kernel_rfl) (Dh.cons (by kernel_rfl) (by decide) (BZ.int Try.underlying3) (Dh.cons (by kernel_rfl) (by decide) (BZ.int Try.underlying3) (Dh.cons (by kernel_rfl) (by decide) (BZ.int Try.underlying3) (Dh.one (by kernel_rfl) (BZ.int Try.underlying3)))))
namespace RowTableBack
open Go.ChangeShapes Go.WideShapes Go.ChangeAt Go.RowKit Go.Joins
open Go.ChangeMaps (open_string shut_string)
theorem own : ownKnob Try.prog.godebug = none := by kernel_rfl
theorem GB : laidOutB Try.prog = true := by kernel_rfl
set_option maxRecDepth 100000 in
theorem En (os : Os) (started : os.Started) (H : Type) (enc : TypeId × Value → H) :
    ReturnsInHanded {} Try.checked os 6 .any (Rows.tableBackSpec.pre6 enc Try.prog Try.f6 Rows.tableBackRow.domain false) (Rows.tableBackSpec.post enc Try.prog Try.f6 false true false false) := by
  refine returnsInHanded_of_change (C := Try.checked) own started (by kernel_rfl) Try.func6
    (ChangeSpec.witness6 (enc := enc) (C := Try.checked) false ⟨#[], #[.slice none 0 0, .agg #[.int .i64 0, .int .i64 0, .int .i64 0, .int .i64 0, .int .i64 0, .int .i64 0, .int .i64 0, .int .i64 0, .int .i64 0, .int .i64 0, .slice none 0 0], .int .i64 0, .int .i64 0, .int .i64 0, .agg #[.int .i64 0, .int .i64 0, .int .i64 0, .int .i64 0]], []⟩ 8 (by kernel_rfl) (by kernel_rfl) (by kernel_rfl) (by kernel_rfl)) ?_
  intro W base args ds gs before hval0 hW hcnd _
  have hval : ∀ (j : Nat) t v, Try.f6.params[j]? = some t → args[j]? = some v → Value.okWide Try.prog W .any base t v := hval0
  have hW' := hW
  obtain ⟨p, q, hA0, hV, rfl, hfz, hnd⟩ := hW
  have hA : DataW.TrodAll enc Try.prog W 0 (fun _ => true) true Try.f6.params.toList args.toList ds p := hA0
  rw [Try.params6] at hA hval
  obtain ⟨v0, vs0, d0, ds0, p0, q0, hargs, rfl, rfl, h0, r0⟩ := trodAll_cons hA
  obtain ⟨v1, vs1, d1, ds1, p1, q1, rfl, rfl, rfl, h1, r1⟩ := trodAll_cons r0
  obtain ⟨v2, vs2, d2, ds2, p2, q2, rfl, rfl, rfl, h2, r2⟩ := trodAll_cons r1
  obtain ⟨v3, vs3, d3, ds3, p3, q3, rfl, rfl, rfl, h3, r3⟩ := trodAll_cons r2
  obtain ⟨v4, vs4, d4, ds4, p4, q4, rfl, rfl, rfl, h4, r4⟩ := trodAll_cons r3
  obtain ⟨v5, vs5, d5, ds5, p5, q5, rfl, rfl, rfl, h5, r5⟩ := trodAll_cons r4
  obtain ⟨rfl, rfl, rfl⟩ := trodAll_nil r5
  obtain rfl : args = #[v0, v1, v2, v3, v4, v5] := by cases args; simp_all
  obtain ⟨rfl, rfl⟩ := trodVars_none hV
  have k0 := h0
  have lt0 : ∀ x ∈ p0, x.block < W.heap.size := by obtain ⟨m, hm⟩ := k0; exact DataW.trod_lt m _ _ _ hm
  have k1 := h1
  have lt1 : ∀ x ∈ p1, x.block < W.heap.size := by obtain ⟨m, hm⟩ := k1; exact DataW.trod_lt m _ _ _ hm
  have k2 := h2
  have lt2 : ∀ x ∈ p2, x.block < W.heap.size := by obtain ⟨m, hm⟩ := k2; exact DataW.trod_lt m _ _ _ hm
  have k3 := h3
  have lt3 : ∀ x ∈ p3, x.block < W.heap.size := by obtain ⟨m, hm⟩ := k3; exact DataW.trod_lt m _ _ _ hm
  have k4 := h4
  have lt4 : ∀ x ∈ p4, x.block < W.heap.size := by obtain ⟨m, hm⟩ := k4; exact DataW.trod_lt m _ _ _ hm
  have k5 := h5
  have lt5 : ∀ x ∈ p5, x.block < W.heap.size := by obtain ⟨m, hm⟩ := k5; exact DataW.trod_lt m _ _ _ hm
  obtain ⟨fu0, hf0⟩ := h0
  obtain ⟨a0, hr0, ok0⟩ := PH _ _ _ _ _ _ _ _ hf0
  rw [GX Try.underlying22 rfl (hval 0 22 v0 rfl rfl)] at hr0
  obtain ⟨y0, e0, s0⟩ := hr0
  obtain rfl := (List.cons.inj e0).1
  obtain ⟨fu1, hf1⟩ := h1
  obtain ⟨a1, hr1, ok1⟩ := OV _ _ _ _ _ _ _ _ hf1
  obtain ⟨cs1, rfl⟩ := Mr Try.underlying40 (hval 1 40 v1 rfl rfl)
  obtain ⟨ca1_1, cb1_1, e1, ha1_1, hb1_1⟩ := hr1
  obtain rfl := (Fl.int).to ha1_1
  obtain ⟨ca1_2, cb1_2, rfl, ha1_2, hb1_2⟩ := hb1_1
  obtain rfl := (OH).to ha1_2
  obtain ⟨y1_3, rfl, s1_3⟩ := hb1_2
  obtain rfl := (show cs1 = (Value.agg cs1).cells.toList.toArray by simp [Value.cells]).trans (congrArg List.toArray e1)
  obtain ⟨fu2, hf2⟩ := h2
  obtain ⟨a2, hr2, ok2⟩ := (BZ.int Try.underlying3) _ _ _ _ _ _ _ _ hf2
  rw [GX Try.underlying3 rfl (hval 2 3 v2 rfl rfl)] at hr2
  obtain rfl := (List.cons.inj hr2).1
  obtain ⟨fu3, hf3⟩ := h3
  obtain ⟨a3, hr3, ok3⟩ := (BZ.int Try.underlying3) _ _ _ _ _ _ _ _ hf3
  rw [GX Try.underlying3 rfl (hval 3 3 v3 rfl rfl)] at hr3
  obtain rfl := (List.cons.inj hr3).1
  obtain ⟨fu4, hf4⟩ := h4
  obtain ⟨a4, hr4, ok4⟩ := (BZ.int Try.underlying3) _ _ _ _ _ _ _ _ hf4
  rw [GX Try.underlying3 rfl (hval 4 3 v4 rfl rfl)] at hr4
  obtain rfl := (List.cons.inj hr4).1
  obtain ⟨fu5, hf5⟩ := h5
  obtain ⟨a5, hr5, ok5⟩ := PS _ _ _ _ _ _ _ _ hf5
  obtain ⟨cs5, rfl⟩ := Ms Try.underlying24 (hval 5 24 v5 rfl rfl)
  obtain rfl : cs5 = (Pg a5).toArray := by have e := OU.to hr5; rw [← e]; simp [Value.cells]
  clear hA0 hval0
  refine (HY any W v0 y1_3 a0 a1 a2 a3 a4 a5 true (In a0 ok0 a1 ok1 a2 ok2 a3 ok3 a4 ok4 a5 ok5) s0 s1_3).mono fun e W' ⟨he, bel⟩ => ?_
  subst he
  exact ⟨_, rfl, _, _, _, [], _, [], hW', trodAll_mk1 (shut_bool Try.underlying4 _), (trodAll_cons_mk (Below.trod GB (by kernel_rfl) (of_decide_eq_true (by kernel_rfl)) k0 bel lt0) (trodAll_cons_mk (Below.trod GB (by kernel_rfl) (of_decide_eq_true (by kernel_rfl)) k1 bel lt1) (trodAll_cons_mk (Below.trod GB (by kernel_rfl) (of_decide_eq_true (by kernel_rfl)) k2 bel lt2) (trodAll_cons_mk (Below.trod GB (by kernel_rfl) (of_decide_eq_true (by kernel_rfl)) k3 bel lt3) (trodAll_cons_mk (Below.trod GB (by kernel_rfl) (of_decide_eq_true (by kernel_rfl)) k4 bel lt4) (trodAll_cons_mk (Below.trod GB (by kernel_rfl) (of_decide_eq_true (by kernel_rfl)) k5 bel lt5) trodAll_mk0)))))), rfl, bel.frame _, fun h => by cases h⟩
theorem over : Rows.tableBackRow.holds Try.pinned (OpenSpec.ofChange Rows.tableBackSpec) :=
  OpenClaim.holds_of_wide 6 Try.f6 rfl rfl rfl rfl rfl rfl rfl ⟨rfl, rfl, rfl, rfl, rfl⟩ rfl rfl rfl rfl rfl (by kernel_rfl) Try.func6 (by kernel_rfl)
    (of_decide_eq_true (by kernel_rfl)) (by unfold Func.isWrapper; first | (rw [if_pos (by decide +kernel)]; kernel_rfl) | (rw [if_neg (by decide +kernel)]; exact ⟨rfl, rfl⟩))
    (fun os started H enc _ => En os started H enc)
end RowTableBack
theorem tableBack_holds : Rows.TableBackSaid := RowTableBack.over
end Go.Proofs.Ytkjjioigbpkifaa
