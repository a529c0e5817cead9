/- The statements of layer 42. Conditions: none. -/
import Derived.Test.YtflaelbmglmmcaabM42
import Derived.Test.YtflaelbmglmmcaabOA
import Derived.ProofKit
import Derived.OpenShut
import Derived.Carry
import Derived.Lib.SmallJoins
namespace Go.Proofs.Ytflaelbmglmmcaa
open Go Go.RowKit
set_option linter.unusedVariables false
set_option linter.unusedSimpArgs false
set_option maxRecDepth 20000
theorem NF : Ck Try.prog 48 EN (Jz (fun n => (Lit.int .i64 n).wf = true) (Jz (fun n => (Lit.int .i64 n).wf = true) (Jz (fun n => (Lit.int .i64 n).wf = true) (Jz (fun n => (Lit.int .i64 n).wf = true) (Jz (fun n => (Lit.int .i64 n).wf = true) (fun n => (Lit.int .i64 n).wf = true)))))) := Ck.struct Try.underlying48 (by kernel_rfl) (Cz.cons (by rfl) (by kernel_rfl) (Ck.int Try.underlying3) (Cz.cons (by rfl) (by kernel_rfl) (Ck.int Try.underlying3) (Cz.cons (by rfl) (by kernel_rfl) (Ck.int Try.underlying3) (Cz.cons (by rfl) (by kernel_rfl) (Ck.int Try.underlying3) (Cz.cons (by rfl) (by kernel_rfl) (Ck.int Try.underlying3) (Cz.one (by rfl) (by kernel_rfl) (Ck.int Try.underlying3)))))))
theorem MH : Ck Try.prog 27 (Rp.slice EN) (Mr (Jz (fun n => (Lit.int .i64 n).wf = true) (Jz (fun n => (Lit.int .i64 n).wf = true) (Jz (fun n => (Lit.int .i64 n).wf = true) (Jz (fun n => (Lit.int .i64 n).wf = true) (Jz (fun n => (Lit.int .i64 n).wf = true) (fun n => (Lit.int .i64 n).wf = true))))))) := Ck.slice Try.underlying27 (by kernel_rfl) (by decide) NF
namespace RowAuditGuards
open Go.ChangeShapes Go.WideShapes Go.ChangeAt Go.RowKit Go.Joins
open Go.ChangeMaps (open_string shut_string)
theorem own : ownKnob Try.prog.godebug = none := by kernel_rfl
theorem Ja : laidOutB Try.prog = true := by kernel_rfl
set_option maxRecDepth 100000 in
theorem Gn (os : Os) (started : os.Started) (H : Type) (enc : TypeId × Value → H) :
    ReturnsInHanded {} Try.checked os 5 .any (Rows.auditGuardsSpec.pre6 enc Try.prog Try.f5 Rows.auditGuardsRow.domain false) (Rows.auditGuardsSpec.post enc Try.prog Try.f5 false true false false) := by
  refine returnsInHanded_of_change (C := Try.checked) own started (by kernel_rfl) Try.func5
    (ChangeSpec.witness6 (enc := enc) (C := Try.checked) false ⟨#[], #[.slice none 0 0, .int .i64 0], []⟩ 8 (by kernel_rfl) (by kernel_rfl) (by kernel_rfl) (by kernel_rfl)) ?_
  intro W base args ds gs before hval0 hW hcnd _
  have hval : ∀ (j : Nat) t v, Try.f5.params[j]? = some t → args[j]? = some v → Value.okWide Try.prog W .any base t v := hval0
  have hW' := hW
  obtain ⟨p, q, hA0, hV, rfl, hfz, hnd⟩ := hW
  have hA : DataW.TrodAll enc Try.prog W 0 (fun _ => true) true Try.f5.params.toList args.toList ds p := hA0
  rw [Try.params5] at hA hval
  obtain ⟨v0, vs0, d0, ds0, p0, q0, hargs, rfl, rfl, h0, r0⟩ := trodAll_cons hA
  obtain ⟨v1, vs1, d1, ds1, p1, q1, rfl, rfl, rfl, h1, r1⟩ := trodAll_cons r0
  obtain ⟨rfl, rfl, rfl⟩ := trodAll_nil r1
  obtain rfl : args = #[v0, v1] := by cases args; simp_all
  obtain ⟨rfl, rfl⟩ := trodVars_none hV
  have k0 := h0
  have lt0 : ∀ x ∈ p0, x.block < W.heap.size := by obtain ⟨m, hm⟩ := k0; exact DataW.trod_lt m _ _ _ hm
  have k1 := h1
  have lt1 : ∀ x ∈ p1, x.block < W.heap.size := by obtain ⟨m, hm⟩ := k1; exact DataW.trod_lt m _ _ _ hm
  obtain ⟨fu0, hf0⟩ := h0
  obtain ⟨a0, hr0, ok0⟩ := MH _ _ _ _ _ _ _ _ hf0
  rw [IH Try.underlying27 rfl (hval 0 27 v0 rfl rfl)] at hr0
  obtain ⟨y0, e0, s0⟩ := hr0
  obtain rfl := (List.cons.inj e0).1
  obtain ⟨fu1, hf1⟩ := h1
  obtain ⟨a1, hr1, ok1⟩ := (Ck.int Try.underlying3) _ _ _ _ _ _ _ _ hf1
  rw [IH Try.underlying3 rfl (hval 1 3 v1 rfl rfl)] at hr1
  obtain rfl := (List.cons.inj hr1).1
  clear hA0 hval0
  refine (F3 any W v0 a0 a1 true (Gh a0 ok0 a1 ok1) s0).mono fun e W' ⟨he, bel⟩ => ?_
  subst he
  exact ⟨_, rfl, _, _, _, [], _, [], hW', trodAll_mk1 (shut_bool Try.underlying4 _), (trodAll_cons_mk (Below.trod Ja (by kernel_rfl) (of_decide_eq_true (by kernel_rfl)) k0 bel lt0) (trodAll_cons_mk (Below.trod Ja (by kernel_rfl) (of_decide_eq_true (by kernel_rfl)) k1 bel lt1) trodAll_mk0)), rfl, bel.frame _, fun h => by cases h⟩
theorem over : Rows.auditGuardsRow.holds Try.pinned (OpenSpec.ofChange Rows.auditGuardsSpec) :=
  OpenClaim.holds_of_wide 5 Try.f5 rfl rfl rfl rfl rfl rfl rfl ⟨rfl, rfl, rfl, rfl, rfl⟩ rfl rfl rfl rfl rfl (by kernel_rfl) Try.func5 (by kernel_rfl)
    (of_decide_eq_true (by kernel_rfl)) (by unfold Func.isWrapper; first | (rw [if_pos (by decide +kernel)]; kernel_rfl) | (rw [if_neg (by decide +kernel)]; exact ⟨rfl, rfl⟩))
    (fun os started H enc _ => Gn os started H enc)
end RowAuditGuards
theorem auditGuards_holds : Rows.AuditGuardsSaid := RowAuditGuards.over
end Go.Proofs.Ytflaelbmglmmcaa
