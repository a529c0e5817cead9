/- The statements of layer 11. Conditions: none. -/
import Derived.Test.YtkjjioigbpkifaadM11N
import Derived.Test.YtkjjioigbpkifaadOA
import Derived.ProofKit
import Derived.OpenShut
import Derived.Carry
import Derived.Lib.SmallJoins
namespace Go.Proofs.Ytkjjioigbpkifaa
open Go Go.RowKit
set_option linter.unusedVariables false
set_option linter.unusedSimpArgs false
set_option maxRecDepth 20000
theorem NG : BQ Try.prog 23 M9 (CI (fun n => (Lit.int .i64 n).wf = true) (CI (fun n => (Lit.int .i64 n).wf = true) (CI (fun n => (Lit.int .i64 n).wf = true) (fun n => (Lit.int .i64 n).wf = true)))) := BQ.array Try.underlying23 (by kernel_rfl) (Ec.cons (by kernel_rfl) (by decide) (BQ.int Try.underlying3) (Ec.cons (by kernel_rfl) (by decide) (BQ.int Try.underlying3) (Ec.cons (by kernel_rfl) (by decide) (BQ.int Try.underlying3) (Ec.one (by kernel_rfl) (BQ.int Try.underlying3)))))
theorem NU : BQ Try.prog 37 Nb (CI (fun n => (Lit.int .i64 n).wf = true) (CI (CI (fun n => (Lit.int .i64 n).wf = true) (CI (fun n => (Lit.int .i64 n).wf = true) (CI (fun n => (Lit.int .i64 n).wf = true) (fun n => (Lit.int .i64 n).wf = true)))) (CI (fun n => (Lit.int .i64 n).wf = true) (CI (fun n => (Lit.int .i64 n).wf = true) (CI (fun n => (Lit.int .i64 n).wf = true) (fun n => (Lit.int .i64 n).wf = true)))))) := BQ.struct Try.underlying37 (by kernel_rfl) (Ch.cons (by rfl) (by kernel_rfl) (BQ.int Try.underlying3) (Ch.cons (by rfl) (by kernel_rfl) NG (Ch.one (by rfl) (by kernel_rfl) NG)))
theorem OL : BQ Try.prog 61 Br (CI (fun n => (Lit.int .i64 n).wf = true) (CI (fun n => (Lit.int .i64 n).wf = true) (fun n => (Lit.int .i64 n).wf = true))) := BQ.struct Try.underlying61 (by kernel_rfl) (Ch.cons (by rfl) (by kernel_rfl) (BQ.int Try.underlying3) (Ch.cons (by rfl) (by kernel_rfl) (BQ.int Try.underlying3) (Ch.one (by rfl) (by kernel_rfl) (BQ.int Try.underlying3))))
theorem ON : BQ Try.prog 38 (Rp.slice Br) (KW (CI (fun n => (Lit.int .i64 n).wf = true) (CI (fun n => (Lit.int .i64 n).wf = true) (fun n => (Lit.int .i64 n).wf = true)))) := BQ.slice Try.underlying38 (by kernel_rfl) (by decide) OL
theorem NA : BQ Try.prog 40 A6 (CI (fun n => (Lit.int .i64 n).wf = true) (CI (CI (fun n => (Lit.int .i64 n).wf = true) (CI (CI (fun n => (Lit.int .i64 n).wf = true) (CI (fun n => (Lit.int .i64 n).wf = true) (CI (fun n => (Lit.int .i64 n).wf = true) (fun n => (Lit.int .i64 n).wf = true)))) (CI (fun n => (Lit.int .i64 n).wf = true) (CI (fun n => (Lit.int .i64 n).wf = true) (CI (fun n => (Lit.int .i64 n).wf = true) (fun n => (Lit.int .i64 n).wf = true)))))) (KW (CI (fun n => (Lit.int .i64 n).wf = true) (CI (fun n => (Lit.int .i64 n).wf = true) (fun n => (Lit.int .i64 n).wf = true)))))) := BQ.struct Try.underlying40 (by kernel_rfl) (Ch.cons (by rfl) (by kernel_rfl) (BQ.int Try.underlying3) (Ch.cons (by rfl) (by kernel_rfl) NU (Ch.one (by rfl) (by kernel_rfl) ON)))
theorem N0 : BQ Try.prog 22 (Rp.slice A6) (KW (CI (fun n => (Lit.int .i64 n).wf = true) (CI (CI (fun n => (Lit.int .i64 n).wf = true) (CI (CI (fun n => (Lit.int .i64 n).wf = true) (CI (fun n => (Lit.int .i64 n).wf = true) (CI (fun n => (Lit.int .i64 n).wf = true) (fun n => (Lit.int .i64 n).wf = true)))) (CI (fun n => (Lit.int .i64 n).wf = true) (CI (fun n => (Lit.int .i64 n).wf = true) (CI (fun n => (Lit.int .i64 n).wf = true) (fun n => (Lit.int .i64 n).wf = true)))))) (KW (CI (fun n => (Lit.int .i64 n).wf = true) (CI (fun n => (Lit.int .i64 n).wf = true) (fun n => (Lit.int .i64 n).wf = true))))))) := BQ.slice Try.underlying22 (by kernel_rfl) (by decide) NA
theorem Ot : BQ Try.prog 42 Jl (CI (fun n => (Lit.int .i64 n).wf = true) (CI (CI (fun n => (Lit.int .i64 n).wf = true) (CI (CI (fun n => (Lit.int .i64 n).wf = true) (CI (CI (fun n => (Lit.int .i64 n).wf = true) (CI (fun n => (Lit.int .i64 n).wf = true) (CI (fun n => (Lit.int .i64 n).wf = true) (fun n => (Lit.int .i64 n).wf = true)))) (CI (fun n => (Lit.int .i64 n).wf = true) (CI (fun n => (Lit.int .i64 n).wf = true) (CI (fun n => (Lit.int .i64 n).wf = true) (fun n => (Lit.int .i64 n).wf = true)))))) (KW (CI (fun n => (Lit.int .i64 n).wf = true) (CI (fun n => (Lit.int .i64 n).wf = true) (fun n => (Lit.int .i64 n).wf = true)))))) M6)) := BQ.struct Try.underlying42 (by kernel_rfl) (Ch.cons (by rfl) (by kernel_rfl) (BQ.int Try.underlying3) (Ch.cons (by rfl) (by kernel_rfl) NA (Ch.one (by rfl) (by kernel_rfl) (BQ.bool Try.underlying4))))
theorem OB : BQ Try.prog 35 (Rp.slice Jl) (KW (CI (fun n => (Lit.int .i64 n).wf = true) (CI (CI (fun n => (Lit.int .i64 n).wf = true) (CI (CI (fun n => (Lit.int .i64 n).wf = true) (CI (CI (fun n => (Lit.int .i64 n).wf = true) (CI (fun n => (Lit.int .i64 n).wf = true) (CI (fun n => (Lit.int .i64 n).wf = true) (fun n => (Lit.int .i64 n).wf = true)))) (CI (fun n => (Lit.int .i64 n).wf = true) (CI (fun n => (Lit.int .i64 n).wf = true) (CI (fun n => (Lit.int .i64 n).wf = true) (fun n => (Lit.int .i64 n).wf = true)))))) (KW (CI (fun n => (Lit.int .i64 n).wf = true) (CI (fun n => (Lit.int .i64 n).wf = true) (fun n => (Lit.int .i64 n).wf = true)))))) M6))) := BQ.slice Try.underlying35 (by kernel_rfl) (by decide) Ot
namespace RowTableNone
open Go.ChangeShapes Go.WideShapes Go.ChangeAt Go.RowKit Go.Joins
open Go.ChangeMaps (open_string shut_string)
theorem own : ownKnob Try.prog.godebug = none := by kernel_rfl
theorem Gz : laidOutB Try.prog = true := by kernel_rfl
set_option maxRecDepth 100000 in
theorem D5 (os : Os) (started : os.Started) (H : Type) (enc : TypeId × Value → H) :
    ReturnsInHanded {} Try.checked os 5 .any (Rows.tableNoneSpec.pre6 enc Try.prog Try.f5 Rows.tableNoneRow.domain false) (Rows.tableNoneSpec.post enc Try.prog Try.f5 false true false false) := by
  refine returnsInHanded_of_change (C := Try.checked) own started (by kernel_rfl) Try.func5
    (ChangeSpec.witness6 (enc := enc) (C := Try.checked) false ⟨#[], #[.slice none 0 0, .slice none 0 0, .int .i64 0, .int .i64 0, .int .i64 0], []⟩ 8 (by kernel_rfl) (by kernel_rfl) (by kernel_rfl) (by kernel_rfl)) ?_
  intro W base args ds gs before hval0 hW hcnd _
  have hval : ∀ (j : Nat) t v, Try.f5.params[j]? = some t → args[j]? = some v → Value.okWide Try.prog W .any base t v := hval0
  have hW' := hW
  obtain ⟨p, q, hA0, hV, rfl, hfz, hnd⟩ := hW
  have hA : DataW.TrodAll enc Try.prog W 0 (fun _ => true) true Try.f5.params.toList args.toList ds p := hA0
  rw [Try.params5] at hA hval
  obtain ⟨v0, vs0, d0, ds0, p0, q0, hargs, rfl, rfl, h0, r0⟩ := trodAll_cons hA
  obtain ⟨v1, vs1, d1, ds1, p1, q1, rfl, rfl, rfl, h1, r1⟩ := trodAll_cons r0
  obtain ⟨v2, vs2, d2, ds2, p2, q2, rfl, rfl, rfl, h2, r2⟩ := trodAll_cons r1
  obtain ⟨v3, vs3, d3, ds3, p3, q3, rfl, rfl, rfl, h3, r3⟩ := trodAll_cons r2
  obtain ⟨v4, vs4, d4, ds4, p4, q4, rfl, rfl, rfl, h4, r4⟩ := trodAll_cons r3
  obtain ⟨rfl, rfl, rfl⟩ := trodAll_nil r4
  obtain rfl : args = #[v0, v1, v2, v3, v4] := by cases args; simp_all
  obtain ⟨rfl, rfl⟩ := trodVars_none hV
  have k0 := h0
  have lt0 : ∀ x ∈ p0, x.block < W.heap.size := by obtain ⟨m, hm⟩ := k0; exact DataW.trod_lt m _ _ _ hm
  have k1 := h1
  have lt1 : ∀ x ∈ p1, x.block < W.heap.size := by obtain ⟨m, hm⟩ := k1; exact DataW.trod_lt m _ _ _ hm
  have k2 := h2
  have lt2 : ∀ x ∈ p2, x.block < W.heap.size := by obtain ⟨m, hm⟩ := k2; exact DataW.trod_lt m _ _ _ hm
  have k3 := h3
  have lt3 : ∀ x ∈ p3, x.block < W.heap.size := by obtain ⟨m, hm⟩ := k3; exact DataW.trod_lt m _ _ _ hm
  have k4 := h4
  have lt4 : ∀ x ∈ p4, x.block < W.heap.size := by obtain ⟨m, hm⟩ := k4; exact DataW.trod_lt m _ _ _ hm
  obtain ⟨fu0, hf0⟩ := h0
  obtain ⟨a0, hr0, ok0⟩ := N0 _ _ _ _ _ _ _ _ hf0
  rw [FQ Try.underlying22 rfl (hval 0 22 v0 rfl rfl)] at hr0
  obtain ⟨y0, e0, s0⟩ := hr0
  obtain rfl := (List.cons.inj e0).1
  obtain ⟨fu1, hf1⟩ := h1
  obtain ⟨a1, hr1, ok1⟩ := OB _ _ _ _ _ _ _ _ hf1
  rw [FQ Try.underlying35 rfl (hval 1 35 v1 rfl rfl)] at hr1
  obtain ⟨y1, e1, s1⟩ := hr1
  obtain rfl := (List.cons.inj e1).1
  obtain ⟨fu2, hf2⟩ := h2
  obtain ⟨a2, hr2, ok2⟩ := (BQ.int Try.underlying3) _ _ _ _ _ _ _ _ hf2
  rw [FQ Try.underlying3 rfl (hval 2 3 v2 rfl rfl)] at hr2
  obtain rfl := (List.cons.inj hr2).1
  obtain ⟨fu3, hf3⟩ := h3
  obtain ⟨a3, hr3, ok3⟩ := (BQ.int Try.underlying3) _ _ _ _ _ _ _ _ hf3
  rw [FQ Try.underlying3 rfl (hval 3 3 v3 rfl rfl)] at hr3
  obtain rfl := (List.cons.inj hr3).1
  obtain ⟨fu4, hf4⟩ := h4
  obtain ⟨a4, hr4, ok4⟩ := (BQ.int Try.underlying3) _ _ _ _ _ _ _ _ hf4
  rw [FQ Try.underlying3 rfl (hval 4 3 v4 rfl rfl)] at hr4
  obtain rfl := (List.cons.inj hr4).1
  clear hA0 hval0
  refine (Hq any W v0 v1 a0 a1 a2 a3 a4 true (Hx a0 ok0 a1 ok1 a2 ok2 a3 ok3 a4 ok4) s0 s1).mono fun e W' ⟨he, bel⟩ => ?_
  subst he
  exact ⟨_, rfl, _, _, _, [], _, [], hW', trodAll_mk1 (shut_bool Try.underlying4 _), (trodAll_cons_mk (Below.trod Gz (by kernel_rfl) (of_decide_eq_true (by kernel_rfl)) k0 bel lt0) (trodAll_cons_mk (Below.trod Gz (by kernel_rfl) (of_decide_eq_true (by kernel_rfl)) k1 bel lt1) (trodAll_cons_mk (Below.trod Gz (by kernel_rfl) (of_decide_eq_true (by kernel_rfl)) k2 bel lt2) (trodAll_cons_mk (Below.trod Gz (by kernel_rfl) (of_decide_eq_true (by kernel_rfl)) k3 bel lt3) (trodAll_cons_mk (Below.trod Gz (by kernel_rfl) (of_decide_eq_true (by kernel_rfl)) k4 bel lt4) trodAll_mk0))))), rfl, bel.frame _, fun h => by cases h⟩
theorem over : Rows.tableNoneRow.holds Try.pinned (OpenSpec.ofChange Rows.tableNoneSpec) :=
  OpenClaim.holds_of_wide 5 Try.f5 rfl rfl rfl rfl rfl rfl rfl ⟨rfl, rfl, rfl, rfl, rfl⟩ rfl rfl rfl rfl rfl (by kernel_rfl) Try.func5 (by kernel_rfl)
    (of_decide_eq_true (by kernel_rfl)) (by unfold Func.isWrapper; first | (rw [if_pos (by decide +kernel)]; kernel_rfl) | (rw [if_neg (by decide +kernel)]; exact ⟨rfl, rfl⟩))
    (fun os started H enc _ => D5 os started H enc)
end RowTableNone
theorem tableNone_holds : Rows.TableNoneSaid := RowTableNone.over
end Go.Proofs.Ytkjjioigbpkifaa
