/- A statement of layer 19. Conditions: none. -/
import Derived.Test.YtbogijdfacoccaabM19R
import Derived.Test.YtbogijdfacoccaabOA
import Derived.ProofKit
import Derived.OpenShut
import Derived.Carry
import Derived.Lib.SmallJoins
namespace Go.Proofs.Ytbogijdfacoccaa
open Go Go.RowKit
set_option linter.unusedVariables false
set_option linter.unusedSimpArgs false
set_option maxRecDepth 20000
theorem Sg : BR Try.prog 62 Fm (JF (fun n => (Lit.int .i64 n).wf = true) (JF (fun n => (Lit.int .i64 n).wf = true) (JF (fun n => (Lit.int .i64 n).wf = true) (JF (fun n => (Lit.int .i64 n).wf = true) (JF (fun n => (Lit.int .i64 n).wf = true) (fun n => (Lit.int .i64 n).wf = true)))))) := BR.struct Try.underlying62 (by kernel_rfl) (Cl.cons (by rfl) (by kernel_rfl) (BR.int Try.underlying3) (Cl.cons (by rfl) (by kernel_rfl) (BR.int Try.underlying3) (Cl.cons (by rfl) (by kernel_rfl) (BR.int Try.underlying3) (Cl.cons (by rfl) (by kernel_rfl) (BR.int Try.underlying3) (Cl.cons (by rfl) (by kernel_rfl) (BR.int Try.underlying3) (Cl.one (by rfl) (by kernel_rfl) (BR.int Try.underlying3)))))))
theorem S6 : BR Try.prog 22 (Rp.slice Fm) (Qc (JF (fun n => (Lit.int .i64 n).wf = true) (JF (fun n => (Lit.int .i64 n).wf = true) (JF (fun n => (Lit.int .i64 n).wf = true) (JF (fun n => (Lit.int .i64 n).wf = true) (JF (fun n => (Lit.int .i64 n).wf = true) (fun n => (Lit.int .i64 n).wf = true))))))) := BR.slice Try.underlying22 (by kernel_rfl) (by decide) Sg
theorem Sx : BR Try.prog 52 Fo (JF (fun n => (Lit.int .i64 n).wf = true) (fun n => (Lit.int .i64 n).wf = true)) := BR.struct Try.underlying52 (by kernel_rfl) (Cl.cons (by rfl) (by kernel_rfl) (BR.int Try.underlying3) (Cl.one (by rfl) (by kernel_rfl) (BR.int Try.underlying3)))
theorem S4 : BR Try.prog 23 (Rp.slice Fo) (Qc (JF (fun n => (Lit.int .i64 n).wf = true) (fun n => (Lit.int .i64 n).wf = true))) := BR.slice Try.underlying23 (by kernel_rfl) (by decide) Sx
abbrev Su : Rp (Int × (List (Int × Int × Int × Int × Int × Int)) × (List (Int × Int))) := (Rp.pair (Rp.int .i64) (Rp.pair (Rp.slice Fm) (Rp.slice Fo)))
theorem SV : BR Try.prog 25 Su (JF (fun n => (Lit.int .i64 n).wf = true) (JF (Qc (JF (fun n => (Lit.int .i64 n).wf = true) (JF (fun n => (Lit.int .i64 n).wf = true) (JF (fun n => (Lit.int .i64 n).wf = true) (JF (fun n => (Lit.int .i64 n).wf = true) (JF (fun n => (Lit.int .i64 n).wf = true) (fun n => (Lit.int .i64 n).wf = true))))))) (Qc (JF (fun n => (Lit.int .i64 n).wf = true) (fun n => (Lit.int .i64 n).wf = true))))) := BR.struct Try.underlying25 (by kernel_rfl) (Cl.cons (by rfl) (by kernel_rfl) (BR.int Try.underlying3) (Cl.cons (by rfl) (by kernel_rfl) S6 (Cl.one (by rfl) (by kernel_rfl) S4)))
theorem So : BR Try.prog 26 (Rp.slice (Rp.int .u64)) (Qc (fun n => (Lit.int .u64 n).wf = true)) := BR.slice Try.underlying26 (by kernel_rfl) (by decide) (BR.int Try.underlying59)
namespace RowShortTree
open Go.ChangeShapes Go.WideShapes Go.ChangeAt Go.RowKit Go.Joins
open Go.ChangeMaps (open_string shut_string)
theorem own : ownKnob Try.prog.godebug = none := by kernel_rfl
theorem IY : laidOutB Try.prog = true := by kernel_rfl
set_option maxRecDepth 100000 in
theorem F7 (os : Os) (started : os.Started) (H : Type) (enc : TypeId × Value → H) :
    ReturnsInHanded {} Try.checked os 4 .any (Rows.shortTreeSpec.pre6 enc Try.prog Try.f4 Rows.shortTreeRow.domain false) (Rows.shortTreeSpec.post enc Try.prog Try.f4 false true false false) := by
  refine returnsInHanded_of_change (C := Try.checked) own started (by kernel_rfl) Try.func4
    (ChangeSpec.witness6 (enc := enc) (C := Try.checked) false ⟨#[], #[.agg #[.int .i64 0, .slice none 0 0, .slice none 0 0], .slice none 0 0, .int .i64 0, .int .i64 0], []⟩ 8 (by kernel_rfl) (by kernel_rfl) (by kernel_rfl) (by kernel_rfl)) ?_
  intro W base args ds gs before hval0 hW hcnd _
  have hval : ∀ (j : Nat) t v, Try.f4.params[j]? = some t → args[j]? = some v → Value.okWide Try.prog W .any base t v := hval0
  have hW' := hW
  obtain ⟨p, q, hA0, hV, rfl, hfz, hnd⟩ := hW
  have hA : DataW.TrodAll enc Try.prog W 0 (fun _ => true) true Try.f4.params.toList args.toList ds p := hA0
  rw [Try.params4] at hA hval
  obtain ⟨v0, vs0, d0, ds0, p0, q0, hargs, rfl, rfl, h0, r0⟩ := trodAll_cons hA
  obtain ⟨v1, vs1, d1, ds1, p1, q1, rfl, rfl, rfl, h1, r1⟩ := trodAll_cons r0
  obtain ⟨v2, vs2, d2, ds2, p2, q2, rfl, rfl, rfl, h2, r2⟩ := trodAll_cons r1
  obtain ⟨v3, vs3, d3, ds3, p3, q3, rfl, rfl, rfl, h3, r3⟩ := trodAll_cons r2
  obtain ⟨rfl, rfl, rfl⟩ := trodAll_nil r3
  obtain rfl : args = #[v0, v1, v2, v3] := by cases args; simp_all
  obtain ⟨rfl, rfl⟩ := trodVars_none hV
  have k0 := h0
  have lt0 : ∀ x ∈ p0, x.block < W.heap.size := by obtain ⟨m, hm⟩ := k0; exact DataW.trod_lt m _ _ _ hm
  have k1 := h1
  have lt1 : ∀ x ∈ p1, x.block < W.heap.size := by obtain ⟨m, hm⟩ := k1; exact DataW.trod_lt m _ _ _ hm
  have k2 := h2
  have lt2 : ∀ x ∈ p2, x.block < W.heap.size := by obtain ⟨m, hm⟩ := k2; exact DataW.trod_lt m _ _ _ hm
  have k3 := h3
  have lt3 : ∀ x ∈ p3, x.block < W.heap.size := by obtain ⟨m, hm⟩ := k3; exact DataW.trod_lt m _ _ _ hm
  obtain ⟨fu0, hf0⟩ := h0
  obtain ⟨a0, hr0, ok0⟩ := SV _ _ _ _ _ _ _ _ hf0
  obtain ⟨cs0, rfl⟩ := Oa Try.underlying25 (hval 0 25 v0 rfl rfl)
  obtain ⟨ca0_1, cb0_1, e0, ha0_1, hb0_1⟩ := hr0
  obtain rfl := (Fl.int).to ha0_1
  obtain ⟨ca0_2, cb0_2, rfl, ha0_2, hb0_2⟩ := hb0_1
  obtain ⟨y0_3, rfl, s0_3⟩ := ha0_2
  obtain ⟨y0_4, rfl, s0_4⟩ := hb0_2
  obtain rfl := (show cs0 = (Value.agg cs0).cells.toList.toArray by simp [Value.cells]).trans (congrArg List.toArray e0)
  obtain ⟨fu1, hf1⟩ := h1
  obtain ⟨a1, hr1, ok1⟩ := So _ _ _ _ _ _ _ _ hf1
  rw [Ji Try.underlying26 rfl (hval 1 26 v1 rfl rfl)] at hr1
  obtain ⟨y1, e1, s1⟩ := hr1
  obtain rfl := (List.cons.inj e1).1
  obtain ⟨fu2, hf2⟩ := h2
  obtain ⟨a2, hr2, ok2⟩ := (BR.int Try.underlying3) _ _ _ _ _ _ _ _ hf2
  rw [Ji Try.underlying3 rfl (hval 2 3 v2 rfl rfl)] at hr2
  obtain rfl := (List.cons.inj hr2).1
  obtain ⟨fu3, hf3⟩ := h3
  obtain ⟨a3, hr3, ok3⟩ := (BR.int Try.underlying3) _ _ _ _ _ _ _ _ hf3
  rw [Ji Try.underlying3 rfl (hval 3 3 v3 rfl rfl)] at hr3
  obtain rfl := (List.cons.inj hr3).1
  clear hA0 hval0
  refine (IG any W y0_3 y0_4 v1 a0 a1 a2 a3 true (Jl a0 ok0 a1 ok1 a2 ok2 a3 ok3) s0_3.nx s0_4.nx s1.nx).mono fun e W' ⟨he, bel⟩ => ?_
  subst he
  exact ⟨_, rfl, _, _, _, [], _, [], hW', trodAll_mk1 (shut_bool Try.underlying4 _), (trodAll_cons_mk (Below.trod IY (by kernel_rfl) (of_decide_eq_true (by kernel_rfl)) k0 bel lt0) (trodAll_cons_mk (Below.trod IY (by kernel_rfl) (of_decide_eq_true (by kernel_rfl)) k1 bel lt1) (trodAll_cons_mk (Below.trod IY (by kernel_rfl) (of_decide_eq_true (by kernel_rfl)) k2 bel lt2) (trodAll_cons_mk (Below.trod IY (by kernel_rfl) (of_decide_eq_true (by kernel_rfl)) k3 bel lt3) trodAll_mk0)))), rfl, bel.frame _, fun h => by cases h⟩
theorem over : Rows.shortTreeRow.holds Try.pinned (OpenSpec.ofChange Rows.shortTreeSpec) :=
  OpenClaim.holds_of_wide 4 Try.f4 rfl rfl rfl rfl rfl rfl rfl ⟨rfl, rfl, rfl, rfl, rfl⟩ rfl rfl rfl rfl rfl (by kernel_rfl) Try.func4 (by kernel_rfl)
    (of_decide_eq_true (by kernel_rfl)) (by unfold Func.isWrapper; first | (rw [if_pos (by decide +kernel)]; kernel_rfl) | (rw [if_neg (by decide +kernel)]; exact ⟨rfl, rfl⟩))
    (fun os started H enc _ => F7 os started H enc)
end RowShortTree
theorem shortTree_holds : Rows.ShortTreeSaid := RowShortTree.over
end Go.Proofs.Ytbogijdfacoccaa
