/- The statements of layer 25. Conditions: none. -/
import Derived.Test.YthhoflfhegfmcaaGreatcM25
import Derived.Test.YthhoflfhegfmcaaGreatcOA
import Derived.ProofKit
import Derived.OpenShut
import Derived.Carry
import Derived.Lib.SmallJoins
namespace Go.Proofs.YthhoflfhegfmcaaGreat
open Go Go.RowKit
set_option linter.unusedVariables false
set_option linter.unusedSimpArgs false
set_option maxRecDepth 20000
theorem b9 : DE Tryz.prog 49 IP (OE (fun n => (Lit.int .i64 n).wf = true) (OE (fun n => (Lit.int .i64 n).wf = true) (OE (fun n => (Lit.int .i64 n).wf = true) (OE (fun n => (Lit.int .i64 n).wf = true) (OE (fun n => (Lit.int .i64 n).wf = true) (fun n => (Lit.int .i64 n).wf = true)))))) := DE.struct Tryz.underlying49 (by kernel_rfl) (ED.cons (by rfl) (by kernel_rfl) (DE.int Tryz.underlying3) (ED.cons (by rfl) (by kernel_rfl) (DE.int Tryz.underlying3) (ED.cons (by rfl) (by kernel_rfl) (DE.int Tryz.underlying3) (ED.cons (by rfl) (by kernel_rfl) (DE.int Tryz.underlying3) (ED.cons (by rfl) (by kernel_rfl) (DE.int Tryz.underlying3) (ED.one (by rfl) (by kernel_rfl) (DE.int Tryz.underlying3)))))))
theorem aM : DE Tryz.prog 22 (Rp.slice IP) (UK (OE (fun n => (Lit.int .i64 n).wf = true) (OE (fun n => (Lit.int .i64 n).wf = true) (OE (fun n => (Lit.int .i64 n).wf = true) (OE (fun n => (Lit.int .i64 n).wf = true) (OE (fun n => (Lit.int .i64 n).wf = true) (fun n => (Lit.int .i64 n).wf = true))))))) := DE.slice Tryz.underlying22 (by kernel_rfl) (by decide) b9
theorem aA : DE Tryz.prog 51 IE (OE (fun n => (Lit.int .i64 n).wf = true) (fun n => (Lit.int .i64 n).wf = true)) := DE.struct Tryz.underlying51 (by kernel_rfl) (ED.cons (by rfl) (by kernel_rfl) (DE.int Tryz.underlying3) (ED.one (by rfl) (by kernel_rfl) (DE.int Tryz.underlying3)))
theorem Z4 : DE Tryz.prog 23 (Rp.slice IE) (UK (OE (fun n => (Lit.int .i64 n).wf = true) (fun n => (Lit.int .i64 n).wf = true))) := DE.slice Tryz.underlying23 (by kernel_rfl) (by decide) aA
abbrev aC : Rp (Int × (List (Int × Int × Int × Int × Int × Int)) × (List (Int × Int))) := (Rp.pair (Rp.int .i64) (Rp.pair (Rp.slice IP) (Rp.slice IE)))
theorem b5 : DE Tryz.prog 25 aC (OE (fun n => (Lit.int .i64 n).wf = true) (OE (UK (OE (fun n => (Lit.int .i64 n).wf = true) (OE (fun n => (Lit.int .i64 n).wf = true) (OE (fun n => (Lit.int .i64 n).wf = true) (OE (fun n => (Lit.int .i64 n).wf = true) (OE (fun n => (Lit.int .i64 n).wf = true) (fun n => (Lit.int .i64 n).wf = true))))))) (UK (OE (fun n => (Lit.int .i64 n).wf = true) (fun n => (Lit.int .i64 n).wf = true))))) := DE.struct Tryz.underlying25 (by kernel_rfl) (ED.cons (by rfl) (by kernel_rfl) (DE.int Tryz.underlying3) (ED.cons (by rfl) (by kernel_rfl) aM (ED.one (by rfl) (by kernel_rfl) Z4)))
theorem ZY : DE Tryz.prog 44 (Rp.slice (Rp.int .i64)) (UK (fun n => (Lit.int .i64 n).wf = true)) := DE.slice Tryz.underlying44 (by kernel_rfl) (by decide) (DE.int Tryz.underlying3)
theorem Zw : DE Tryz.prog 27 (Rp.slice (Rp.slice (Rp.int .i64))) (UK (UK (fun n => (Lit.int .i64 n).wf = true))) := DE.slice Tryz.underlying27 (by kernel_rfl) (by decide) ZY
namespace RowJudgeFinds
open Go.ChangeShapes Go.WideShapes Go.ChangeAt Go.RowKit Go.Joins
open Go.ChangeMaps (open_string shut_string)
theorem own : ownKnob Tryz.prog.godebug = none := by kernel_rfl
theorem Kl : laidOutB Tryz.prog = true := by kernel_rfl
set_option maxRecDepth 100000 in
theorem JA (os : Os) (started : os.Started) (H : Type) (enc : TypeId × Value → H) :
    ReturnsInHanded {} Tryz.checked os 4 .any (Rows.judgeFindsSpec.pre6 enc Tryz.prog Tryz.f4 Rows.judgeFindsRow.domain false) (Rows.judgeFindsSpec.post enc Tryz.prog Tryz.f4 false true false false) := by
  refine returnsInHanded_of_change (C := Tryz.checked) own started (by kernel_rfl) Tryz.func4
    (ChangeSpec.witness6 (enc := enc) (C := Tryz.checked) false ⟨#[], #[.agg #[.int .i64 0, .slice none 0 0, .slice none 0 0], .slice none 0 0, .slice none 0 0, .int .i64 0, .int .i64 0, .int .i64 0, .int .i64 0], []⟩ 8 (by kernel_rfl) (by kernel_rfl) (by kernel_rfl) (by kernel_rfl)) ?_
  intro W base args ds gs before hval0 hW hcnd _
  have hval : ∀ (j : Nat) t v, Tryz.f4.params[j]? = some t → args[j]? = some v → Value.okWide Tryz.prog W .any base t v := hval0
  have hW' := hW
  obtain ⟨p, q, hA0, hV, rfl, hfz, hnd⟩ := hW
  have hA : DataW.TrodAll enc Tryz.prog W 0 (fun _ => true) true Tryz.f4.params.toList args.toList ds p := hA0
  rw [Tryz.params4] at hA hval
  obtain ⟨v0, vs0, d0, ds0, p0, q0, hargs, rfl, rfl, h0, r0⟩ := trodAll_cons hA
  obtain ⟨v1, vs1, d1, ds1, p1, q1, rfl, rfl, rfl, h1, r1⟩ := trodAll_cons r0
  obtain ⟨v2, vs2, d2, ds2, p2, q2, rfl, rfl, rfl, h2, r2⟩ := trodAll_cons r1
  obtain ⟨v3, vs3, d3, ds3, p3, q3, rfl, rfl, rfl, h3, r3⟩ := trodAll_cons r2
  obtain ⟨v4, vs4, d4, ds4, p4, q4, rfl, rfl, rfl, h4, r4⟩ := trodAll_cons r3
  obtain ⟨v5, vs5, d5, ds5, p5, q5, rfl, rfl, rfl, h5, r5⟩ := trodAll_cons r4
  obtain ⟨v6, vs6, d6, ds6, p6, q6, rfl, rfl, rfl, h6, r6⟩ := trodAll_cons r5
  obtain ⟨rfl, rfl, rfl⟩ := trodAll_nil r6
  obtain rfl : args = #[v0, v1, v2, v3, v4, v5, v6] := by cases args; simp_all
  obtain ⟨rfl, rfl⟩ := trodVars_none hV
  have k0 := h0
  have lt0 : ∀ x ∈ p0, x.block < W.heap.size := by obtain ⟨m, hm⟩ := k0; exact DataW.trod_lt m _ _ _ hm
  have k1 := h1
  have lt1 : ∀ x ∈ p1, x.block < W.heap.size := by obtain ⟨m, hm⟩ := k1; exact DataW.trod_lt m _ _ _ hm
  have k2 := h2
  have lt2 : ∀ x ∈ p2, x.block < W.heap.size := by obtain ⟨m, hm⟩ := k2; exact DataW.trod_lt m _ _ _ hm
  have k3 := h3
  have lt3 : ∀ x ∈ p3, x.block < W.heap.size := by obtain ⟨m, hm⟩ := k3; exact DataW.trod_lt m _ _ _ hm
  have k4 := h4
  have lt4 : ∀ x ∈ p4, x.block < W.heap.size := by obtain ⟨m, hm⟩ := k4; exact DataW.trod_lt m _ _ _ hm
  have k5 := h5
  have lt5 : ∀ x ∈ p5, x.block < W.heap.size := by obtain ⟨m, hm⟩ := k5; exact DataW.trod_lt m _ _ _ hm
  have k6 := h6
  have lt6 : ∀ x ∈ p6, x.block < W.heap.size := by obtain ⟨m, hm⟩ := k6; exact DataW.trod_lt m _ _ _ hm
  obtain ⟨fu0, hf0⟩ := h0
  obtain ⟨a0, hr0, ok0⟩ := b5 _ _ _ _ _ _ _ _ hf0
  obtain ⟨cs0, rfl⟩ := TD Tryz.underlying25 (hval 0 25 v0 rfl rfl)
  obtain ⟨ca0_1, cb0_1, e0, ha0_1, hb0_1⟩ := hr0
  obtain rfl := (Fl.int).to ha0_1
  obtain ⟨ca0_2, cb0_2, rfl, ha0_2, hb0_2⟩ := hb0_1
  obtain ⟨y0_3, rfl, s0_3⟩ := ha0_2
  obtain ⟨y0_4, rfl, s0_4⟩ := hb0_2
  obtain rfl := (show cs0 = (Value.agg cs0).cells.toList.toArray by simp [Value.cells]).trans (congrArg List.toArray e0)
  obtain ⟨fu1, hf1⟩ := h1
  obtain ⟨a1, hr1, ok1⟩ := Zw _ _ _ _ _ _ _ _ hf1
  rw [J2 Tryz.underlying27 rfl (hval 1 27 v1 rfl rfl)] at hr1
  obtain ⟨y1, e1, s1⟩ := hr1
  obtain rfl := (List.cons.inj e1).1
  obtain ⟨fu2, hf2⟩ := h2
  obtain ⟨a2, hr2, ok2⟩ := Zw _ _ _ _ _ _ _ _ hf2
  rw [J2 Tryz.underlying27 rfl (hval 2 27 v2 rfl rfl)] at hr2
  obtain ⟨y2, e2, s2⟩ := hr2
  obtain rfl := (List.cons.inj e2).1
  obtain ⟨fu3, hf3⟩ := h3
  obtain ⟨a3, hr3, ok3⟩ := (DE.int Tryz.underlying3) _ _ _ _ _ _ _ _ hf3
  rw [J2 Tryz.underlying3 rfl (hval 3 3 v3 rfl rfl)] at hr3
  obtain rfl := (List.cons.inj hr3).1
  obtain ⟨fu4, hf4⟩ := h4
  obtain ⟨a4, hr4, ok4⟩ := (DE.int Tryz.underlying3) _ _ _ _ _ _ _ _ hf4
  rw [J2 Tryz.underlying3 rfl (hval 4 3 v4 rfl rfl)] at hr4
  obtain rfl := (List.cons.inj hr4).1
  obtain ⟨fu5, hf5⟩ := h5
  obtain ⟨a5, hr5, ok5⟩ := (DE.int Tryz.underlying3) _ _ _ _ _ _ _ _ hf5
  rw [J2 Tryz.underlying3 rfl (hval 5 3 v5 rfl rfl)] at hr5
  obtain rfl := (List.cons.inj hr5).1
  obtain ⟨fu6, hf6⟩ := h6
  obtain ⟨a6, hr6, ok6⟩ := (DE.int Tryz.underlying3) _ _ _ _ _ _ _ _ hf6
  rw [J2 Tryz.underlying3 rfl (hval 6 3 v6 rfl rfl)] at hr6
  obtain rfl := (List.cons.inj hr6).1
  clear hA0 hval0
  refine (MC any W y0_3 y0_4 v1 v2 a0 a1 a2 a3 a4 a5 a6 true (Nq a0 ok0 a1 ok1 a2 ok2 a3 ok3 a4 ok4 a5 ok5 a6 ok6) s0_3.nx s0_4.nx s1 s2.nx).mono fun e W' ⟨he, bel⟩ => ?_
  subst he
  exact ⟨_, rfl, _, _, _, [], _, [], hW', trodAll_mk1 (shut_bool Tryz.underlying4 _), (trodAll_cons_mk (Below.trod Kl (by kernel_rfl) (of_decide_eq_true (by kernel_rfl)) k0 bel lt0) (trodAll_cons_mk (Below.trod Kl (by kernel_rfl) (of_decide_eq_true (by kernel_rfl)) k1 bel lt1) (trodAll_cons_mk (Below.trod Kl (by kernel_rfl) (of_decide_eq_true (by kernel_rfl)) k2 bel lt2) (trodAll_cons_mk (Below.trod Kl (by kernel_rfl) (of_decide_eq_true (by kernel_rfl)) k3 bel lt3) (trodAll_cons_mk (Below.trod Kl (by kernel_rfl) (of_decide_eq_true (by kernel_rfl)) k4 bel lt4) (trodAll_cons_mk (Below.trod Kl (by kernel_rfl) (of_decide_eq_true (by kernel_rfl)) k5 bel lt5) (trodAll_cons_mk (Below.trod Kl (by kernel_rfl) (of_decide_eq_true (by kernel_rfl)) k6 bel lt6) trodAll_mk0))))))), rfl, bel.frame _, fun h => by cases h⟩
theorem over : Rows.judgeFindsRow.holds Tryz.pinned (OpenSpec.ofChange Rows.judgeFindsSpec) :=
  OpenClaim.holds_of_wide 4 Tryz.f4 rfl rfl rfl rfl rfl rfl rfl ⟨rfl, rfl, rfl, rfl, rfl⟩ rfl rfl rfl rfl rfl (by kernel_rfl) Tryz.func4 (by kernel_rfl)
    (of_decide_eq_true (by kernel_rfl)) (by unfold Func.isWrapper; first | (rw [if_pos (by decide +kernel)]; kernel_rfl) | (rw [if_neg (by decide +kernel)]; exact ⟨rfl, rfl⟩))
    (fun os started H enc _ => JA os started H enc)
end RowJudgeFinds
theorem judgeFinds_holds : Rows.JudgeFindsSaid := RowJudgeFinds.over
end Go.Proofs.YthhoflfhegfmcaaGreat
