/- The statements of layer 25. Conditions: none. -/
import Derived.Test.YthhoflfhegfmcaacM25S
import Derived.Test.YthhoflfhegfmcaacOA
import Derived.ProofKit
import Derived.OpenShut
import Derived.Carry
import Derived.Lib.SmallJoins
namespace Go.Proofs.Ythhoflfhegfmcaa
open Go Go.RowKit
set_option linter.unusedVariables false
set_option linter.unusedSimpArgs false
set_option maxRecDepth 20000
theorem We : Bk Try.prog 54 Gn (GD (fun n => (Lit.int .i64 n).wf = true) (GD (fun n => (Lit.int .i64 n).wf = true) (GD (fun n => (Lit.int .i64 n).wf = true) (GD (fun n => (Lit.int .i64 n).wf = true) (GD (fun n => (Lit.int .i64 n).wf = true) (fun n => (Lit.int .i64 n).wf = true)))))) := Bk.struct Try.underlying54 (by kernel_rfl) (BH.cons (by rfl) (by kernel_rfl) (Bk.int Try.underlying3) (BH.cons (by rfl) (by kernel_rfl) (Bk.int Try.underlying3) (BH.cons (by rfl) (by kernel_rfl) (Bk.int Try.underlying3) (BH.cons (by rfl) (by kernel_rfl) (Bk.int Try.underlying3) (BH.cons (by rfl) (by kernel_rfl) (Bk.int Try.underlying3) (BH.one (by rfl) (by kernel_rfl) (Bk.int Try.underlying3)))))))
theorem WP : Bk Try.prog 22 (Rp.slice Gn) (Na (GD (fun n => (Lit.int .i64 n).wf = true) (GD (fun n => (Lit.int .i64 n).wf = true) (GD (fun n => (Lit.int .i64 n).wf = true) (GD (fun n => (Lit.int .i64 n).wf = true) (GD (fun n => (Lit.int .i64 n).wf = true) (fun n => (Lit.int .i64 n).wf = true))))))) := Bk.slice Try.underlying22 (by kernel_rfl) (by decide) We
theorem VT : Bk Try.prog 56 GE (GD (fun n => (Lit.int .i64 n).wf = true) (fun n => (Lit.int .i64 n).wf = true)) := Bk.struct Try.underlying56 (by kernel_rfl) (BH.cons (by rfl) (by kernel_rfl) (Bk.int Try.underlying3) (BH.one (by rfl) (by kernel_rfl) (Bk.int Try.underlying3)))
theorem WW : Bk Try.prog 23 (Rp.slice GE) (Na (GD (fun n => (Lit.int .i64 n).wf = true) (fun n => (Lit.int .i64 n).wf = true))) := Bk.slice Try.underlying23 (by kernel_rfl) (by decide) VT
abbrev Wx : Rp (Int × (List (Int × Int × Int × Int × Int × Int)) × (List (Int × Int))) := (Rp.pair (Rp.int .i64) (Rp.pair (Rp.slice Gn) (Rp.slice GE)))
theorem VV : Bk Try.prog 25 Wx (GD (fun n => (Lit.int .i64 n).wf = true) (GD (Na (GD (fun n => (Lit.int .i64 n).wf = true) (GD (fun n => (Lit.int .i64 n).wf = true) (GD (fun n => (Lit.int .i64 n).wf = true) (GD (fun n => (Lit.int .i64 n).wf = true) (GD (fun n => (Lit.int .i64 n).wf = true) (fun n => (Lit.int .i64 n).wf = true))))))) (Na (GD (fun n => (Lit.int .i64 n).wf = true) (fun n => (Lit.int .i64 n).wf = true))))) := Bk.struct Try.underlying25 (by kernel_rfl) (BH.cons (by rfl) (by kernel_rfl) (Bk.int Try.underlying3) (BH.cons (by rfl) (by kernel_rfl) WP (BH.one (by rfl) (by kernel_rfl) WW)))
theorem UZ : Bk Try.prog 46 (Rp.slice (Rp.int .i64)) (Na (fun n => (Lit.int .i64 n).wf = true)) := Bk.slice Try.underlying46 (by kernel_rfl) (by decide) (Bk.int Try.underlying3)
theorem Vt : Bk Try.prog 27 (Rp.slice (Rp.slice (Rp.int .i64))) (Na (Na (fun n => (Lit.int .i64 n).wf = true))) := Bk.slice Try.underlying27 (by kernel_rfl) (by decide) UZ
theorem WA : Bk Try.prog 87 LI (GD (fun n => (Lit.int .i64 n).wf = true) (GD (fun n => (Lit.int .i64 n).wf = true) (GD (fun n => (Lit.int .i64 n).wf = true) (fun n => (Lit.int .i64 n).wf = true)))) := Bk.struct Try.underlying87 (by kernel_rfl) (BH.cons (by rfl) (by kernel_rfl) (Bk.int Try.underlying3) (BH.cons (by rfl) (by kernel_rfl) (Bk.int Try.underlying3) (BH.cons (by rfl) (by kernel_rfl) (Bk.int Try.underlying3) (BH.one (by rfl) (by kernel_rfl) (Bk.int Try.underlying3)))))
theorem WR : Bk Try.prog 28 (Rp.slice LI) (Na (GD (fun n => (Lit.int .i64 n).wf = true) (GD (fun n => (Lit.int .i64 n).wf = true) (GD (fun n => (Lit.int .i64 n).wf = true) (fun n => (Lit.int .i64 n).wf = true))))) := Bk.slice Try.underlying28 (by kernel_rfl) (by decide) WA
theorem Wv : Bk Try.prog 52 Oh (GD (fun n => (Lit.int .i64 n).wf = true) (GD (fun n => (Lit.int .i64 n).wf = true) (Na (fun n => (Lit.int .i64 n).wf = true)))) := Bk.struct Try.underlying52 (by kernel_rfl) (BH.cons (by rfl) (by kernel_rfl) (Bk.int Try.underlying3) (BH.cons (by rfl) (by kernel_rfl) (Bk.int Try.underlying3) (BH.one (by rfl) (by kernel_rfl) UZ)))
theorem Wh : Bk Try.prog 29 (Rp.slice Oh) (Na (GD (fun n => (Lit.int .i64 n).wf = true) (GD (fun n => (Lit.int .i64 n).wf = true) (Na (fun n => (Lit.int .i64 n).wf = true))))) := Bk.slice Try.underlying29 (by kernel_rfl) (by decide) Wv
abbrev Wj : Rp ((List (Int × Int × Int × Int)) × (List (Int × Int × List Int)) × Int × Int × Int × Int) := (Rp.pair (Rp.slice LI) (Rp.pair (Rp.slice Oh) (Rp.pair (Rp.int .i64) (Rp.pair (Rp.int .i64) (Rp.pair (Rp.int .i64) (Rp.int .i64))))))
theorem Wp : Bk Try.prog 31 Wj (GD (Na (GD (fun n => (Lit.int .i64 n).wf = true) (GD (fun n => (Lit.int .i64 n).wf = true) (GD (fun n => (Lit.int .i64 n).wf = true) (fun n => (Lit.int .i64 n).wf = true))))) (GD (Na (GD (fun n => (Lit.int .i64 n).wf = true) (GD (fun n => (Lit.int .i64 n).wf = true) (Na (fun n => (Lit.int .i64 n).wf = true))))) (GD (fun n => (Lit.int .i64 n).wf = true) (GD (fun n => (Lit.int .i64 n).wf = true) (GD (fun n => (Lit.int .i64 n).wf = true) (fun n => (Lit.int .i64 n).wf = true)))))) := Bk.struct Try.underlying31 (by kernel_rfl) (BH.cons (by rfl) (by kernel_rfl) WR (BH.cons (by rfl) (by kernel_rfl) Wh (BH.cons (by rfl) (by kernel_rfl) (Bk.int Try.underlying3) (BH.cons (by rfl) (by kernel_rfl) (Bk.int Try.underlying3) (BH.cons (by rfl) (by kernel_rfl) (Bk.int Try.underlying3) (BH.one (by rfl) (by kernel_rfl) (Bk.int Try.underlying3)))))))
namespace RowJudgeSound
open Go.ChangeShapes Go.WideShapes Go.ChangeAt Go.RowKit Go.Joins
open Go.ChangeMaps (open_string shut_string)
theorem own : ownKnob Try.prog.godebug = none := by kernel_rfl
theorem IF : laidOutB Try.prog = true := by kernel_rfl
set_option maxRecDepth 100000 in
theorem GX (os : Os) (started : os.Started) (H : Type) (enc : TypeId × Value → H) :
    ReturnsInHanded {} Try.checked os 4 .any (Rows.judgeSoundSpec.pre6 enc Try.prog Try.f4 Rows.judgeSoundRow.domain false) (Rows.judgeSoundSpec.post enc Try.prog Try.f4 false true false false) := by
  refine returnsInHanded_of_change (C := Try.checked) own started (by kernel_rfl) Try.func4
    (ChangeSpec.witness6 (enc := enc) (C := Try.checked) false ⟨#[], #[.agg #[.int .i64 0, .slice none 0 0, .slice none 0 0], .slice none 0 0, .slice none 0 0, .agg #[.slice none 0 0, .slice none 0 0, .int .i64 0, .int .i64 0, .int .i64 0, .int .i64 0], .int .i64 0, .slice none 0 0], []⟩ 8 (by kernel_rfl) (by kernel_rfl) (by kernel_rfl) (by kernel_rfl)) ?_
  intro W base args ds gs before hval0 hW hcnd _
  have hval : ∀ (j : Nat) t v, Try.f4.params[j]? = some t → args[j]? = some v → Value.okWide Try.prog W .any base t v := hval0
  have hW' := hW
  obtain ⟨p, q, hA0, hV, rfl, hfz, hnd⟩ := hW
  have hA : DataW.TrodAll enc Try.prog W 0 (fun _ => true) true Try.f4.params.toList args.toList ds p := hA0
  rw [Try.params4] at hA hval
  obtain ⟨v0, vs0, d0, ds0, p0, q0, hargs, rfl, rfl, h0, r0⟩ := trodAll_cons hA
  obtain ⟨v1, vs1, d1, ds1, p1, q1, rfl, rfl, rfl, h1, r1⟩ := trodAll_cons r0
  obtain ⟨v2, vs2, d2, ds2, p2, q2, rfl, rfl, rfl, h2, r2⟩ := trodAll_cons r1
  obtain ⟨v3, vs3, d3, ds3, p3, q3, rfl, rfl, rfl, h3, r3⟩ := trodAll_cons r2
  obtain ⟨v4, vs4, d4, ds4, p4, q4, rfl, rfl, rfl, h4, r4⟩ := trodAll_cons r3
  obtain ⟨v5, vs5, d5, ds5, p5, q5, rfl, rfl, rfl, h5, r5⟩ := trodAll_cons r4
  obtain ⟨rfl, rfl, rfl⟩ := trodAll_nil r5
  obtain rfl : args = #[v0, v1, v2, v3, v4, v5] := by cases args; simp_all
  obtain ⟨rfl, rfl⟩ := trodVars_none hV
  have k0 := h0
  have lt0 : ∀ x ∈ p0, x.block < W.heap.size := by obtain ⟨m, hm⟩ := k0; exact DataW.trod_lt m _ _ _ hm
  have k1 := h1
  have lt1 : ∀ x ∈ p1, x.block < W.heap.size := by obtain ⟨m, hm⟩ := k1; exact DataW.trod_lt m _ _ _ hm
  have k2 := h2
  have lt2 : ∀ x ∈ p2, x.block < W.heap.size := by obtain ⟨m, hm⟩ := k2; exact DataW.trod_lt m _ _ _ hm
  have k3 := h3
  have lt3 : ∀ x ∈ p3, x.block < W.heap.size := by obtain ⟨m, hm⟩ := k3; exact DataW.trod_lt m _ _ _ hm
  have k4 := h4
  have lt4 : ∀ x ∈ p4, x.block < W.heap.size := by obtain ⟨m, hm⟩ := k4; exact DataW.trod_lt m _ _ _ hm
  have k5 := h5
  have lt5 : ∀ x ∈ p5, x.block < W.heap.size := by obtain ⟨m, hm⟩ := k5; exact DataW.trod_lt m _ _ _ hm
  obtain ⟨fu0, hf0⟩ := h0
  obtain ⟨a0, hr0, ok0⟩ := VV _ _ _ _ _ _ _ _ hf0
  obtain ⟨cs0, rfl⟩ := NU Try.underlying25 (hval 0 25 v0 rfl rfl)
  obtain ⟨ca0_1, cb0_1, e0, ha0_1, hb0_1⟩ := hr0
  obtain rfl := (Fl.int).to ha0_1
  obtain ⟨ca0_2, cb0_2, rfl, ha0_2, hb0_2⟩ := hb0_1
  obtain ⟨y0_3, rfl, s0_3⟩ := ha0_2
  obtain ⟨y0_4, rfl, s0_4⟩ := hb0_2
  obtain rfl := (show cs0 = (Value.agg cs0).cells.toList.toArray by simp [Value.cells]).trans (congrArg List.toArray e0)
  obtain ⟨fu1, hf1⟩ := h1
  obtain ⟨a1, hr1, ok1⟩ := Vt _ _ _ _ _ _ _ _ hf1
  rw [Jr Try.underlying27 rfl (hval 1 27 v1 rfl rfl)] at hr1
  obtain ⟨y1, e1, s1⟩ := hr1
  obtain rfl := (List.cons.inj e1).1
  obtain ⟨fu2, hf2⟩ := h2
  obtain ⟨a2, hr2, ok2⟩ := Vt _ _ _ _ _ _ _ _ hf2
  rw [Jr Try.underlying27 rfl (hval 2 27 v2 rfl rfl)] at hr2
  obtain ⟨y2, e2, s2⟩ := hr2
  obtain rfl := (List.cons.inj e2).1
  obtain ⟨fu3, hf3⟩ := h3
  obtain ⟨a3, hr3, ok3⟩ := Wp _ _ _ _ _ _ _ _ hf3
  obtain ⟨cs3, rfl⟩ := NU Try.underlying31 (hval 3 31 v3 rfl rfl)
  obtain ⟨ca3_1, cb3_1, e3, ha3_1, hb3_1⟩ := hr3
  obtain ⟨y3_2, rfl, s3_2⟩ := ha3_1
  obtain ⟨ca3_3, cb3_3, rfl, ha3_3, hb3_3⟩ := hb3_1
  obtain ⟨y3_4, rfl, s3_4⟩ := ha3_3
  obtain ⟨ca3_5, cb3_5, rfl, ha3_5, hb3_5⟩ := hb3_3
  obtain rfl := (Fl.int).to ha3_5
  obtain ⟨ca3_6, cb3_6, rfl, ha3_6, hb3_6⟩ := hb3_5
  obtain rfl := (Fl.int).to ha3_6
  obtain ⟨ca3_7, cb3_7, rfl, ha3_7, hb3_7⟩ := hb3_6
  obtain rfl := (Fl.int).to ha3_7
  obtain rfl := (Fl.int).to hb3_7
  obtain rfl := (show cs3 = (Value.agg cs3).cells.toList.toArray by simp [Value.cells]).trans (congrArg List.toArray e3)
  obtain ⟨fu4, hf4⟩ := h4
  obtain ⟨a4, hr4, ok4⟩ := (Bk.int Try.underlying3) _ _ _ _ _ _ _ _ hf4
  rw [Jr Try.underlying3 rfl (hval 4 3 v4 rfl rfl)] at hr4
  obtain rfl := (List.cons.inj hr4).1
  obtain ⟨fu5, hf5⟩ := h5
  obtain ⟨a5, hr5, ok5⟩ := UZ _ _ _ _ _ _ _ _ hf5
  rw [Jr Try.underlying46 rfl (hval 5 46 v5 rfl rfl)] at hr5
  obtain ⟨y5, e5, s5⟩ := hr5
  obtain rfl := (List.cons.inj e5).1
  clear hA0 hval0
  refine (JU any W y0_3 y0_4 v1 v2 y3_2 y3_4 v5 a0 a1 a2 a3 a4 a5 true (KC a0 ok0 a1 ok1 a2 ok2 a3 ok3 a4 ok4 a5 ok5) s0_3.nx s0_4.nx s1 s2.nx s3_2.nx s3_4 s5.nx).mono fun e W' ⟨he, bel⟩ => ?_
  subst he
  exact ⟨_, rfl, _, _, _, [], _, [], hW', trodAll_mk1 (shut_bool Try.underlying4 _), (trodAll_cons_mk (Below.trod IF (by kernel_rfl) (of_decide_eq_true (by kernel_rfl)) k0 bel lt0) (trodAll_cons_mk (Below.trod IF (by kernel_rfl) (of_decide_eq_true (by kernel_rfl)) k1 bel lt1) (trodAll_cons_mk (Below.trod IF (by kernel_rfl) (of_decide_eq_true (by kernel_rfl)) k2 bel lt2) (trodAll_cons_mk (Below.trod IF (by kernel_rfl) (of_decide_eq_true (by kernel_rfl)) k3 bel lt3) (trodAll_cons_mk (Below.trod IF (by kernel_rfl) (of_decide_eq_true (by kernel_rfl)) k4 bel lt4) (trodAll_cons_mk (Below.trod IF (by kernel_rfl) (of_decide_eq_true (by kernel_rfl)) k5 bel lt5) trodAll_mk0)))))), rfl, bel.frame _, fun h => by cases h⟩
theorem over : Rows.judgeSoundRow.holds Try.pinned (OpenSpec.ofChange Rows.judgeSoundSpec) :=
  OpenClaim.holds_of_wide 4 Try.f4 rfl rfl rfl rfl rfl rfl rfl ⟨rfl, rfl, rfl, rfl, rfl⟩ rfl rfl rfl rfl rfl (by kernel_rfl) Try.func4 (by kernel_rfl)
    (of_decide_eq_true (by kernel_rfl)) (by unfold Func.isWrapper; first | (rw [if_pos (by decide +kernel)]; kernel_rfl) | (rw [if_neg (by decide +kernel)]; exact ⟨rfl, rfl⟩))
    (fun os started H enc _ => GX os started H enc)
end RowJudgeSound
theorem judgeSound_holds : Rows.JudgeSoundSaid := RowJudgeSound.over
end Go.Proofs.Ythhoflfhegfmcaa
