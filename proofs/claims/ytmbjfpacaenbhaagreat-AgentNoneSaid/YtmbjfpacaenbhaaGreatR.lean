/- AgentNone. Conditions: none. -/
import Derived.Test.YtmbjfpacaenbhaaGreatXR
import Derived.Test.YtmbjfpacaenbhaaGreatOA
import Derived.ProofKit
import Derived.OpenShut
import Derived.Carry
import Derived.Lib.SmallJoins
namespace Go.Proofs.YtmbjfpacaenbhaaGreat
open Go Go.RowKit
set_option linter.unusedVariables false
set_option linter.unusedSimpArgs false
set_option maxRecDepth 20000
abbrev R36 : Rp (Int × Int × Int × Int) := (Rp.pair (Rp.int .i64) (Rp.pair (Rp.int .i64) (Rp.pair (Rp.int .i64) (Rp.int .i64))))
theorem P36 : Opens Tryz.prog 36 R36 (okP (fun n => (Lit.int .i64 n).wf = true) (okP (fun n => (Lit.int .i64 n).wf = true) (okP (fun n => (Lit.int .i64 n).wf = true) (fun n => (Lit.int .i64 n).wf = true)))) := Opens.array Tryz.underlying36 (by kernel_rfl) (OpensAs.cons (by kernel_rfl) (by decide) (Opens.int Tryz.underlying3) (OpensAs.cons (by kernel_rfl) (by decide) (Opens.int Tryz.underlying3) (OpensAs.cons (by kernel_rfl) (by decide) (Opens.int Tryz.underlying3) (OpensAs.one (by kernel_rfl) (Opens.int Tryz.underlying3)))))
abbrev R73 : Rp (Int × (Int × Int × Int × Int) × (Int × Int × Int × Int)) := (Rp.pair (Rp.int .i64) (Rp.pair R36 R36))
theorem P73 : Opens Tryz.prog 73 R73 (okP (fun n => (Lit.int .i64 n).wf = true) (okP (okP (fun n => (Lit.int .i64 n).wf = true) (okP (fun n => (Lit.int .i64 n).wf = true) (okP (fun n => (Lit.int .i64 n).wf = true) (fun n => (Lit.int .i64 n).wf = true)))) (okP (fun n => (Lit.int .i64 n).wf = true) (okP (fun n => (Lit.int .i64 n).wf = true) (okP (fun n => (Lit.int .i64 n).wf = true) (fun n => (Lit.int .i64 n).wf = true)))))) := Opens.struct Tryz.underlying73 (by kernel_rfl) (OpensFs.cons (by rfl) (by kernel_rfl) (Opens.int Tryz.underlying3) (OpensFs.cons (by rfl) (by kernel_rfl) P36 (OpensFs.one (by rfl) (by kernel_rfl) P36)))
abbrev R83 : Rp (Int × Int × Int) := (Rp.pair (Rp.int .i64) (Rp.pair (Rp.int .i64) (Rp.int .i64)))
theorem P83 : Opens Tryz.prog 83 R83 (okP (fun n => (Lit.int .i64 n).wf = true) (okP (fun n => (Lit.int .i64 n).wf = true) (fun n => (Lit.int .i64 n).wf = true))) := Opens.struct Tryz.underlying83 (by kernel_rfl) (OpensFs.cons (by rfl) (by kernel_rfl) (Opens.int Tryz.underlying3) (OpensFs.cons (by rfl) (by kernel_rfl) (Opens.int Tryz.underlying3) (OpensFs.one (by rfl) (by kernel_rfl) (Opens.int Tryz.underlying3))))
theorem P74 : Opens Tryz.prog 74 (Rp.slice R83) (okL (okP (fun n => (Lit.int .i64 n).wf = true) (okP (fun n => (Lit.int .i64 n).wf = true) (fun n => (Lit.int .i64 n).wf = true)))) := Opens.slice Tryz.underlying74 (by kernel_rfl) (by decide) P83
abbrev R76 : Rp (Int × (Int × (Int × Int × Int × Int) × (Int × Int × Int × Int)) × (List (Int × Int × Int))) := (Rp.pair (Rp.int .i64) (Rp.pair R73 (Rp.slice R83)))
theorem P76 : Opens Tryz.prog 76 R76 (okP (fun n => (Lit.int .i64 n).wf = true) (okP (okP (fun n => (Lit.int .i64 n).wf = true) (okP (okP (fun n => (Lit.int .i64 n).wf = true) (okP (fun n => (Lit.int .i64 n).wf = true) (okP (fun n => (Lit.int .i64 n).wf = true) (fun n => (Lit.int .i64 n).wf = true)))) (okP (fun n => (Lit.int .i64 n).wf = true) (okP (fun n => (Lit.int .i64 n).wf = true) (okP (fun n => (Lit.int .i64 n).wf = true) (fun n => (Lit.int .i64 n).wf = true)))))) (okL (okP (fun n => (Lit.int .i64 n).wf = true) (okP (fun n => (Lit.int .i64 n).wf = true) (fun n => (Lit.int .i64 n).wf = true)))))) := Opens.struct Tryz.underlying76 (by kernel_rfl) (OpensFs.cons (by rfl) (by kernel_rfl) (Opens.int Tryz.underlying3) (OpensFs.cons (by rfl) (by kernel_rfl) P73 (OpensFs.one (by rfl) (by kernel_rfl) P74)))
abbrev R78 : Rp (Int × (Int × (Int × (Int × Int × Int × Int) × (Int × Int × Int × Int)) × (List (Int × Int × Int))) × Bool) := (Rp.pair (Rp.int .i64) (Rp.pair R76 Rp.bool))
theorem P78 : Opens Tryz.prog 78 R78 (okP (fun n => (Lit.int .i64 n).wf = true) (okP (okP (fun n => (Lit.int .i64 n).wf = true) (okP (okP (fun n => (Lit.int .i64 n).wf = true) (okP (okP (fun n => (Lit.int .i64 n).wf = true) (okP (fun n => (Lit.int .i64 n).wf = true) (okP (fun n => (Lit.int .i64 n).wf = true) (fun n => (Lit.int .i64 n).wf = true)))) (okP (fun n => (Lit.int .i64 n).wf = true) (okP (fun n => (Lit.int .i64 n).wf = true) (okP (fun n => (Lit.int .i64 n).wf = true) (fun n => (Lit.int .i64 n).wf = true)))))) (okL (okP (fun n => (Lit.int .i64 n).wf = true) (okP (fun n => (Lit.int .i64 n).wf = true) (fun n => (Lit.int .i64 n).wf = true)))))) okT)) := Opens.struct Tryz.underlying78 (by kernel_rfl) (OpensFs.cons (by rfl) (by kernel_rfl) (Opens.int Tryz.underlying3) (OpensFs.cons (by rfl) (by kernel_rfl) P76 (OpensFs.one (by rfl) (by kernel_rfl) (Opens.bool Tryz.underlying4))))
theorem P33 : Opens Tryz.prog 33 (Rp.slice R78) (okL (okP (fun n => (Lit.int .i64 n).wf = true) (okP (okP (fun n => (Lit.int .i64 n).wf = true) (okP (okP (fun n => (Lit.int .i64 n).wf = true) (okP (okP (fun n => (Lit.int .i64 n).wf = true) (okP (fun n => (Lit.int .i64 n).wf = true) (okP (fun n => (Lit.int .i64 n).wf = true) (fun n => (Lit.int .i64 n).wf = true)))) (okP (fun n => (Lit.int .i64 n).wf = true) (okP (fun n => (Lit.int .i64 n).wf = true) (okP (fun n => (Lit.int .i64 n).wf = true) (fun n => (Lit.int .i64 n).wf = true)))))) (okL (okP (fun n => (Lit.int .i64 n).wf = true) (okP (fun n => (Lit.int .i64 n).wf = true) (fun n => (Lit.int .i64 n).wf = true)))))) okT))) := Opens.slice Tryz.underlying33 (by kernel_rfl) (by decide) P78
abbrev R35 : Rp (Int × Int × Int × Int × Int × Int × Int × Int × Int × (List (Int × (Int × (Int × (Int × Int × Int × Int) × (Int × Int × Int × Int)) × (List (Int × Int × Int))) × Bool))) := (Rp.pair (Rp.int .i64) (Rp.pair (Rp.int .i64) (Rp.pair (Rp.int .i64) (Rp.pair (Rp.int .i64) (Rp.pair (Rp.int .i64) (Rp.pair (Rp.int .i64) (Rp.pair (Rp.int .i64) (Rp.pair (Rp.int .i64) (Rp.pair (Rp.int .i64) (Rp.slice R78))))))))))
theorem P35 : Opens Tryz.prog 35 R35 (okP (fun n => (Lit.int .i64 n).wf = true) (okP (fun n => (Lit.int .i64 n).wf = true) (okP (fun n => (Lit.int .i64 n).wf = true) (okP (fun n => (Lit.int .i64 n).wf = true) (okP (fun n => (Lit.int .i64 n).wf = true) (okP (fun n => (Lit.int .i64 n).wf = true) (okP (fun n => (Lit.int .i64 n).wf = true) (okP (fun n => (Lit.int .i64 n).wf = true) (okP (fun n => (Lit.int .i64 n).wf = true) (okL (okP (fun n => (Lit.int .i64 n).wf = true) (okP (okP (fun n => (Lit.int .i64 n).wf = true) (okP (okP (fun n => (Lit.int .i64 n).wf = true) (okP (okP (fun n => (Lit.int .i64 n).wf = true) (okP (fun n => (Lit.int .i64 n).wf = true) (okP (fun n => (Lit.int .i64 n).wf = true) (fun n => (Lit.int .i64 n).wf = true)))) (okP (fun n => (Lit.int .i64 n).wf = true) (okP (fun n => (Lit.int .i64 n).wf = true) (okP (fun n => (Lit.int .i64 n).wf = true) (fun n => (Lit.int .i64 n).wf = true)))))) (okL (okP (fun n => (Lit.int .i64 n).wf = true) (okP (fun n => (Lit.int .i64 n).wf = true) (fun n => (Lit.int .i64 n).wf = true)))))) okT)))))))))))) := Opens.struct Tryz.underlying35 (by kernel_rfl) (OpensFs.cons (by rfl) (by kernel_rfl) (Opens.int Tryz.underlying3) (OpensFs.cons (by rfl) (by kernel_rfl) (Opens.int Tryz.underlying3) (OpensFs.cons (by rfl) (by kernel_rfl) (Opens.int Tryz.underlying3) (OpensFs.cons (by rfl) (by kernel_rfl) (Opens.int Tryz.underlying3) (OpensFs.cons (by rfl) (by kernel_rfl) (Opens.int Tryz.underlying3) (OpensFs.cons (by rfl) (by kernel_rfl) (Opens.int Tryz.underlying3) (OpensFs.cons (by rfl) (by kernel_rfl) (Opens.int Tryz.underlying3) (OpensFs.cons (by rfl) (by kernel_rfl) (Opens.int Tryz.underlying3) (OpensFs.cons (by rfl) (by kernel_rfl) (Opens.int Tryz.underlying3) (OpensFs.one (by rfl) (by kernel_rfl) P33))))))))))
abbrev R37 : Rp (Int × Int × Int × Int) := (Rp.pair (Rp.int .i64) (Rp.pair (Rp.int .i64) (Rp.pair (Rp.int .i64) (Rp.int .i64))))
theorem P37 : Opens Tryz.prog 37 R37 (okP (fun n => (Lit.int .i64 n).wf = true) (okP (fun n => (Lit.int .i64 n).wf = true) (okP (fun n => (Lit.int .i64 n).wf = true) (fun n => (Lit.int .i64 n).wf = true)))) := Opens.array Tryz.underlying37 (by kernel_rfl) (OpensAs.cons (by kernel_rfl) (by decide) (Opens.int Tryz.underlying3) (OpensAs.cons (by kernel_rfl) (by decide) (Opens.int Tryz.underlying3) (OpensAs.cons (by kernel_rfl) (by decide) (Opens.int Tryz.underlying3) (OpensAs.one (by kernel_rfl) (Opens.int Tryz.underlying3)))))
def E37 (a : Int × Int × Int × Int) : List Value := [.int .i64 a.1, .int .i64 a.2.1, .int .i64 a.2.2.1, .int .i64 a.2.2.2]
theorem F37 : Fl R37 E37 := (Fl.pair Fl.int (Fl.pair Fl.int (Fl.pair Fl.int Fl.int)))
namespace RowAgentNone
open Go.ChangeShapes Go.WideShapes Go.ChangeAt Go.RowKit Go.Joins
open Go.ChangeMaps (open_string shut_string)
theorem own : ownKnob Tryz.prog.godebug = none := by kernel_rfl
theorem laidOut : laidOutB Tryz.prog = true := by kernel_rfl
set_option maxRecDepth 100000 in
theorem lifted (os : Os) (started : os.Started) (H : Type) (enc : TypeId × Value → H) :
    ReturnsInHanded {} Tryz.checked os 6 .any (Rows.agentNoneSpec.pre6 enc Tryz.prog Tryz.f6 Rows.agentNoneRow.domain false) (Rows.agentNoneSpec.post enc Tryz.prog Tryz.f6 false true false false) := by
  refine returnsInHanded_of_change (C := Tryz.checked) own started (by kernel_rfl) Tryz.func6
    (ChangeSpec.witness6 (enc := enc) (C := Tryz.checked) false ⟨#[], #[.int .i64 0, .agg #[.int .i64 0, .int .i64 0, .int .i64 0, .int .i64 0, .int .i64 0, .int .i64 0, .int .i64 0, .int .i64 0, .int .i64 0, .slice none 0 0], .agg #[.int .i64 0, .int .i64 0, .int .i64 0, .int .i64 0]], []⟩ 8 (by kernel_rfl) (by kernel_rfl) (by kernel_rfl) (by kernel_rfl)) ?_
  intro W base args ds gs before hval0 hW hcnd _
  have hval : ∀ (j : Nat) t v, Tryz.f6.params[j]? = some t → args[j]? = some v → Value.okWide Tryz.prog W .any base t v := hval0
  have hW' := hW
  obtain ⟨p, q, hA0, hV, rfl, hfz, hnd⟩ := hW
  have hA : DataW.TrodAll enc Tryz.prog W 0 (fun _ => true) true Tryz.f6.params.toList args.toList ds p := hA0
  rw [Tryz.params6] at hA hval
  obtain ⟨v0, vs0, d0, ds0, p0, q0, hargs, rfl, rfl, h0, r0⟩ := trodAll_cons hA
  obtain ⟨v1, vs1, d1, ds1, p1, q1, rfl, rfl, rfl, h1, r1⟩ := trodAll_cons r0
  obtain ⟨v2, vs2, d2, ds2, p2, q2, rfl, rfl, rfl, h2, r2⟩ := trodAll_cons r1
  obtain ⟨rfl, rfl, rfl⟩ := trodAll_nil r2
  obtain rfl : args = #[v0, v1, v2] := by cases args; simp_all
  obtain ⟨rfl, rfl⟩ := trodVars_none hV
  have k0 := h0
  have lt0 : ∀ x ∈ p0, x.block < W.heap.size := by obtain ⟨m, hm⟩ := k0; exact DataW.trod_lt m _ _ _ hm
  have k1 := h1
  have lt1 : ∀ x ∈ p1, x.block < W.heap.size := by obtain ⟨m, hm⟩ := k1; exact DataW.trod_lt m _ _ _ hm
  have k2 := h2
  have lt2 : ∀ x ∈ p2, x.block < W.heap.size := by obtain ⟨m, hm⟩ := k2; exact DataW.trod_lt m _ _ _ hm
  obtain ⟨fu0, hf0⟩ := h0
  obtain ⟨a0, hr0, ok0⟩ := (Opens.int Tryz.underlying3) _ _ _ _ _ _ _ _ hf0
  rw [wide_one Tryz.underlying3 rfl (hval 0 3 v0 rfl rfl)] at hr0
  obtain rfl := (List.cons.inj hr0).1
  obtain ⟨fu1, hf1⟩ := h1
  obtain ⟨a1, hr1, ok1⟩ := P35 _ _ _ _ _ _ _ _ hf1
  obtain ⟨cs1, rfl⟩ := wide_agg Tryz.underlying35 (hval 1 35 v1 rfl rfl)
  obtain ⟨ca1_1, cb1_1, e1, ha1_1, hb1_1⟩ := hr1
  obtain rfl := (Fl.int).to ha1_1
  obtain ⟨ca1_2, cb1_2, rfl, ha1_2, hb1_2⟩ := hb1_1
  obtain rfl := (Fl.int).to ha1_2
  obtain ⟨ca1_3, cb1_3, rfl, ha1_3, hb1_3⟩ := hb1_2
  obtain rfl := (Fl.int).to ha1_3
  obtain ⟨ca1_4, cb1_4, rfl, ha1_4, hb1_4⟩ := hb1_3
  obtain rfl := (Fl.int).to ha1_4
  obtain ⟨ca1_5, cb1_5, rfl, ha1_5, hb1_5⟩ := hb1_4
  obtain rfl := (Fl.int).to ha1_5
  obtain ⟨ca1_6, cb1_6, rfl, ha1_6, hb1_6⟩ := hb1_5
  obtain rfl := (Fl.int).to ha1_6
  obtain ⟨ca1_7, cb1_7, rfl, ha1_7, hb1_7⟩ := hb1_6
  obtain rfl := (Fl.int).to ha1_7
  obtain ⟨ca1_8, cb1_8, rfl, ha1_8, hb1_8⟩ := hb1_7
  obtain rfl := (Fl.int).to ha1_8
  obtain ⟨ca1_9, cb1_9, rfl, ha1_9, hb1_9⟩ := hb1_8
  obtain rfl := (Fl.int).to ha1_9
  obtain ⟨y1_10, rfl, s1_10⟩ := hb1_9
  obtain rfl := (show cs1 = (Value.agg cs1).cells.toList.toArray by simp [Value.cells]).trans (congrArg List.toArray e1)
  obtain ⟨fu2, hf2⟩ := h2
  obtain ⟨a2, hr2, ok2⟩ := P37 _ _ _ _ _ _ _ _ hf2
  obtain ⟨cs2, rfl⟩ := wide_arr Tryz.underlying37 (hval 2 37 v2 rfl rfl)
  obtain rfl : cs2 = (E37 a2).toArray := by have e := F37.to hr2; rw [← e]; simp [Value.cells]
  clear hA0 hval0
  refine (an_c W _ _ _ (by rfl) (by rfl) (by rfl) (one_cons rfl (one_cons rfl (one_cons rfl (one_cons rfl (one_cons rfl (one_cons rfl (one_cons rfl (one_cons rfl (one_cons rfl (one_cons (Sl.one s1_10.nx) one_nil)))))))))) (by rfl)).mono fun e W' ⟨he, bel⟩ => ?_
  subst he
  exact ⟨_, rfl, _, _, _, [], _, [], hW', trodAll_mk1 (shut_bool Tryz.underlying4 _), (trodAll_cons_mk (Below.trod laidOut (by kernel_rfl) (of_decide_eq_true (by kernel_rfl)) k0 bel lt0) (trodAll_cons_mk (Below.trod laidOut (by kernel_rfl) (of_decide_eq_true (by kernel_rfl)) k1 bel lt1) (trodAll_cons_mk (Below.trod laidOut (by kernel_rfl) (of_decide_eq_true (by kernel_rfl)) k2 bel lt2) trodAll_mk0))), rfl, bel.frame _, fun h => by cases h⟩
theorem over : Rows.agentNoneRow.holds Tryz.pinned (OpenSpec.ofChange Rows.agentNoneSpec) :=
  OpenClaim.holds_of_wide 6 Tryz.f6 rfl rfl rfl rfl rfl rfl rfl ⟨rfl, rfl, rfl, rfl, rfl⟩ rfl rfl rfl rfl rfl (by kernel_rfl) Tryz.func6 (by kernel_rfl)
    (of_decide_eq_true (by kernel_rfl)) (by unfold Func.isWrapper; first | (rw [if_pos (by decide +kernel)]; kernel_rfl) | (rw [if_neg (by decide +kernel)]; exact ⟨rfl, rfl⟩))
    (fun os started H enc _ => lifted os started H enc)
end RowAgentNone
theorem agentNone_holds : Rows.AgentNoneSaid := RowAgentNone.over
end Go.Proofs.YtmbjfpacaenbhaaGreat
