/- The statements of layer 12. Conditions: none. -/
import Derived.Test.YtfnmlmglmegamaacM12B
import Derived.Test.YtfnmlmglmegamaacOA
import Derived.ProofKit
import Derived.OpenShut
import Derived.Carry
import Derived.Lib.SmallJoins
namespace Go.Proofs.Ytfnmlmglmegamaa
open Go Go.RowKit
set_option linter.unusedVariables false
set_option linter.unusedSimpArgs false
set_option maxRecDepth 20000
theorem Ri : BN Try.prog 32 Qr (CT (fun n => (Lit.int .i64 n).wf = true) (CT (fun n => (Lit.int .i64 n).wf = true) (CT (fun n => (Lit.int .i64 n).wf = true) (fun n => (Lit.int .i64 n).wf = true)))) := BN.array Try.underlying32 (by kernel_rfl) (Eh.cons (by kernel_rfl) (by decide) (BN.int Try.underlying3) (Eh.cons (by kernel_rfl) (by decide) (BN.int Try.underlying3) (Eh.cons (by kernel_rfl) (by decide) (BN.int Try.underlying3) (Eh.one (by kernel_rfl) (BN.int Try.underlying3)))))
theorem R8 : BN Try.prog 34 Qt (CT (fun n => (Lit.int .i64 n).wf = true) (CT (CT (fun n => (Lit.int .i64 n).wf = true) (CT (fun n => (Lit.int .i64 n).wf = true) (CT (fun n => (Lit.int .i64 n).wf = true) (fun n => (Lit.int .i64 n).wf = true)))) (CT (fun n => (Lit.int .i64 n).wf = true) (CT (fun n => (Lit.int .i64 n).wf = true) (CT (fun n => (Lit.int .i64 n).wf = true) (fun n => (Lit.int .i64 n).wf = true)))))) := BN.struct Try.underlying34 (by kernel_rfl) (Co.cons (by rfl) (by kernel_rfl) (BN.int Try.underlying3) (Co.cons (by rfl) (by kernel_rfl) Ri (Co.one (by rfl) (by kernel_rfl) Ri)))
theorem R5 : BN Try.prog 88 Bl (CT (fun n => (Lit.int .i64 n).wf = true) (CT (fun n => (Lit.int .i64 n).wf = true) (fun n => (Lit.int .i64 n).wf = true))) := BN.struct Try.underlying88 (by kernel_rfl) (Co.cons (by rfl) (by kernel_rfl) (BN.int Try.underlying3) (Co.cons (by rfl) (by kernel_rfl) (BN.int Try.underlying3) (Co.one (by rfl) (by kernel_rfl) (BN.int Try.underlying3))))
theorem RJ : BN Try.prog 35 (Rp.slice Bl) (My (CT (fun n => (Lit.int .i64 n).wf = true) (CT (fun n => (Lit.int .i64 n).wf = true) (fun n => (Lit.int .i64 n).wf = true)))) := BN.slice Try.underlying35 (by kernel_rfl) (by decide) R5
theorem Rx : BN Try.prog 37 A5 (CT (fun n => (Lit.int .i64 n).wf = true) (CT (CT (fun n => (Lit.int .i64 n).wf = true) (CT (CT (fun n => (Lit.int .i64 n).wf = true) (CT (fun n => (Lit.int .i64 n).wf = true) (CT (fun n => (Lit.int .i64 n).wf = true) (fun n => (Lit.int .i64 n).wf = true)))) (CT (fun n => (Lit.int .i64 n).wf = true) (CT (fun n => (Lit.int .i64 n).wf = true) (CT (fun n => (Lit.int .i64 n).wf = true) (fun n => (Lit.int .i64 n).wf = true)))))) (My (CT (fun n => (Lit.int .i64 n).wf = true) (CT (fun n => (Lit.int .i64 n).wf = true) (fun n => (Lit.int .i64 n).wf = true)))))) := BN.struct Try.underlying37 (by kernel_rfl) (Co.cons (by rfl) (by kernel_rfl) (BN.int Try.underlying3) (Co.cons (by rfl) (by kernel_rfl) R8 (Co.one (by rfl) (by kernel_rfl) RJ)))
theorem RL : BN Try.prog 39 F2 (CT (fun n => (Lit.int .i64 n).wf = true) (CT (CT (fun n => (Lit.int .i64 n).wf = true) (CT (CT (fun n => (Lit.int .i64 n).wf = true) (CT (CT (fun n => (Lit.int .i64 n).wf = true) (CT (fun n => (Lit.int .i64 n).wf = true) (CT (fun n => (Lit.int .i64 n).wf = true) (fun n => (Lit.int .i64 n).wf = true)))) (CT (fun n => (Lit.int .i64 n).wf = true) (CT (fun n => (Lit.int .i64 n).wf = true) (CT (fun n => (Lit.int .i64 n).wf = true) (fun n => (Lit.int .i64 n).wf = true)))))) (My (CT (fun n => (Lit.int .i64 n).wf = true) (CT (fun n => (Lit.int .i64 n).wf = true) (fun n => (Lit.int .i64 n).wf = true)))))) Qv)) := BN.struct Try.underlying39 (by kernel_rfl) (Co.cons (by rfl) (by kernel_rfl) (BN.int Try.underlying3) (Co.cons (by rfl) (by kernel_rfl) Rx (Co.one (by rfl) (by kernel_rfl) (BN.bool Try.underlying4))))
theorem RW : BN Try.prog 56 (Rp.slice F2) (My (CT (fun n => (Lit.int .i64 n).wf = true) (CT (CT (fun n => (Lit.int .i64 n).wf = true) (CT (CT (fun n => (Lit.int .i64 n).wf = true) (CT (CT (fun n => (Lit.int .i64 n).wf = true) (CT (fun n => (Lit.int .i64 n).wf = true) (CT (fun n => (Lit.int .i64 n).wf = true) (fun n => (Lit.int .i64 n).wf = true)))) (CT (fun n => (Lit.int .i64 n).wf = true) (CT (fun n => (Lit.int .i64 n).wf = true) (CT (fun n => (Lit.int .i64 n).wf = true) (fun n => (Lit.int .i64 n).wf = true)))))) (My (CT (fun n => (Lit.int .i64 n).wf = true) (CT (fun n => (Lit.int .i64 n).wf = true) (fun n => (Lit.int .i64 n).wf = true)))))) Qv))) := BN.slice Try.underlying56 (by kernel_rfl) (by decide) RL
theorem RF : BN Try.prog 59 (Rp.slice (Rp.int .i64)) (My (fun n => (Lit.int .i64 n).wf = true)) := BN.slice Try.underlying59 (by kernel_rfl) (by decide) (BN.int Try.underlying3)
theorem R7 : BN Try.prog 23 (Rp.slice A5) (My (CT (fun n => (Lit.int .i64 n).wf = true) (CT (CT (fun n => (Lit.int .i64 n).wf = true) (CT (CT (fun n => (Lit.int .i64 n).wf = true) (CT (fun n => (Lit.int .i64 n).wf = true) (CT (fun n => (Lit.int .i64 n).wf = true) (fun n => (Lit.int .i64 n).wf = true)))) (CT (fun n => (Lit.int .i64 n).wf = true) (CT (fun n => (Lit.int .i64 n).wf = true) (CT (fun n => (Lit.int .i64 n).wf = true) (fun n => (Lit.int .i64 n).wf = true)))))) (My (CT (fun n => (Lit.int .i64 n).wf = true) (CT (fun n => (Lit.int .i64 n).wf = true) (fun n => (Lit.int .i64 n).wf = true))))))) := BN.slice Try.underlying23 (by kernel_rfl) (by decide) Rx
namespace RowBundleOrder
open Go.ChangeShapes Go.WideShapes Go.ChangeAt Go.RowKit Go.Joins
open Go.ChangeMaps (open_string shut_string)
theorem own : ownKnob Try.prog.godebug = none := by kernel_rfl
theorem GQ : laidOutB Try.prog = true := by kernel_rfl
set_option maxRecDepth 100000 in
theorem EV (os : Os) (started : os.Started) (H : Type) (enc : TypeId × Value → H) :
    ReturnsInHanded {} Try.checked os 4 .any (Rows.bundleOrderSpec.pre6 enc Try.prog Try.f4 Rows.bundleOrderRow.domain false) (Rows.bundleOrderSpec.post enc Try.prog Try.f4 false true false false) := by
  refine returnsInHanded_of_change (C := Try.checked) own started (by kernel_rfl) Try.func4
    (ChangeSpec.witness6 (enc := enc) (C := Try.checked) false ⟨#[], #[.slice none 0 0, .slice none 0 0, .slice none 0 0, .int .i64 0, .int .i64 0], []⟩ 8 (by kernel_rfl) (by kernel_rfl) (by kernel_rfl) (by kernel_rfl)) ?_
  intro W base args ds gs before hval0 hW hcnd _
  have hval : ∀ (j : Nat) t v, Try.f4.params[j]? = some t → args[j]? = some v → Value.okWide Try.prog W .any base t v := hval0
  have hW' := hW
  obtain ⟨p, q, hA0, hV, rfl, hfz, hnd⟩ := hW
  have hA : DataW.TrodAll enc Try.prog W 0 (fun _ => true) true Try.f4.params.toList args.toList ds p := hA0
  rw [Try.params4] at hA hval
  obtain ⟨v0, vs0, d0, ds0, p0, q0, hargs, rfl, rfl, h0, r0⟩ := trodAll_cons hA
  obtain ⟨v1, vs1, d1, ds1, p1, q1, rfl, rfl, rfl, h1, r1⟩ := trodAll_cons r0
  obtain ⟨v2, vs2, d2, ds2, p2, q2, rfl, rfl, rfl, h2, r2⟩ := trodAll_cons r1
  obtain ⟨v3, vs3, d3, ds3, p3, q3, rfl, rfl, rfl, h3, r3⟩ := trodAll_cons r2
  obtain ⟨v4, vs4, d4, ds4, p4, q4, rfl, rfl, rfl, h4, r4⟩ := trodAll_cons r3
  obtain ⟨rfl, rfl, rfl⟩ := trodAll_nil r4
  obtain rfl : args = #[v0, v1, v2, v3, v4] := by cases args; simp_all
  obtain ⟨rfl, rfl⟩ := trodVars_none hV
  have k0 := h0
  have lt0 : ∀ x ∈ p0, x.block < W.heap.size := by obtain ⟨m, hm⟩ := k0; exact DataW.trod_lt m _ _ _ hm
  have k1 := h1
  have lt1 : ∀ x ∈ p1, x.block < W.heap.size := by obtain ⟨m, hm⟩ := k1; exact DataW.trod_lt m _ _ _ hm
  have k2 := h2
  have lt2 : ∀ x ∈ p2, x.block < W.heap.size := by obtain ⟨m, hm⟩ := k2; exact DataW.trod_lt m _ _ _ hm
  have k3 := h3
  have lt3 : ∀ x ∈ p3, x.block < W.heap.size := by obtain ⟨m, hm⟩ := k3; exact DataW.trod_lt m _ _ _ hm
  have k4 := h4
  have lt4 : ∀ x ∈ p4, x.block < W.heap.size := by obtain ⟨m, hm⟩ := k4; exact DataW.trod_lt m _ _ _ hm
  obtain ⟨fu0, hf0⟩ := h0
  obtain ⟨a0, hr0, ok0⟩ := RW _ _ _ _ _ _ _ _ hf0
  rw [Gt Try.underlying56 rfl (hval 0 56 v0 rfl rfl)] at hr0
  obtain ⟨y0, e0, s0⟩ := hr0
  obtain rfl := (List.cons.inj e0).1
  obtain ⟨fu1, hf1⟩ := h1
  obtain ⟨a1, hr1, ok1⟩ := RF _ _ _ _ _ _ _ _ hf1
  rw [Gt Try.underlying59 rfl (hval 1 59 v1 rfl rfl)] at hr1
  obtain ⟨y1, e1, s1⟩ := hr1
  obtain rfl := (List.cons.inj e1).1
  obtain ⟨fu2, hf2⟩ := h2
  obtain ⟨a2, hr2, ok2⟩ := R7 _ _ _ _ _ _ _ _ hf2
  rw [Gt Try.underlying23 rfl (hval 2 23 v2 rfl rfl)] at hr2
  obtain ⟨y2, e2, s2⟩ := hr2
  obtain rfl := (List.cons.inj e2).1
  obtain ⟨fu3, hf3⟩ := h3
  obtain ⟨a3, hr3, ok3⟩ := (BN.int Try.underlying3) _ _ _ _ _ _ _ _ hf3
  rw [Gt Try.underlying3 rfl (hval 3 3 v3 rfl rfl)] at hr3
  obtain rfl := (List.cons.inj hr3).1
  obtain ⟨fu4, hf4⟩ := h4
  obtain ⟨a4, hr4, ok4⟩ := (BN.int Try.underlying3) _ _ _ _ _ _ _ _ hf4
  rw [Gt Try.underlying3 rfl (hval 4 3 v4 rfl rfl)] at hr4
  obtain rfl := (List.cons.inj hr4).1
  clear hA0 hval0
  refine (G0 any W v0 v1 v2 a0 a1 a2 a3 a4 true (Ho a0 ok0 a1 ok1 a2 ok2 a3 ok3 a4 ok4) s0 s1.nx s2).mono fun e W' ⟨he, bel⟩ => ?_
  subst he
  exact ⟨_, rfl, _, _, _, [], _, [], hW', trodAll_mk1 (shut_bool Try.underlying4 _), (trodAll_cons_mk (Below.trod GQ (by kernel_rfl) (of_decide_eq_true (by kernel_rfl)) k0 bel lt0) (trodAll_cons_mk (Below.trod GQ (by kernel_rfl) (of_decide_eq_true (by kernel_rfl)) k1 bel lt1) (trodAll_cons_mk (Below.trod GQ (by kernel_rfl) (of_decide_eq_true (by kernel_rfl)) k2 bel lt2) (trodAll_cons_mk (Below.trod GQ (by kernel_rfl) (of_decide_eq_true (by kernel_rfl)) k3 bel lt3) (trodAll_cons_mk (Below.trod GQ (by kernel_rfl) (of_decide_eq_true (by kernel_rfl)) k4 bel lt4) trodAll_mk0))))), rfl, bel.frame _, fun h => by cases h⟩
theorem over : Rows.bundleOrderRow.holds Try.pinned (OpenSpec.ofChange Rows.bundleOrderSpec) :=
  OpenClaim.holds_of_wide 4 Try.f4 rfl rfl rfl rfl rfl rfl rfl ⟨rfl, rfl, rfl, rfl, rfl⟩ rfl rfl rfl rfl rfl (by kernel_rfl) Try.func4 (by kernel_rfl)
    (of_decide_eq_true (by kernel_rfl)) (by unfold Func.isWrapper; first | (rw [if_pos (by decide +kernel)]; kernel_rfl) | (rw [if_neg (by decide +kernel)]; exact ⟨rfl, rfl⟩))
    (fun os started H enc _ => EV os started H enc)
end RowBundleOrder
theorem bundleOrder_holds : Rows.BundleOrderSaid := RowBundleOrder.over
end Go.Proofs.Ytfnmlmglmegamaa
