/- The statements of layer 10. Conditions: none. -/
import Derived.Test.YteeioghoidjbpaaDoorM10R
import Derived.Test.YteeioghoidjbpaaDoorOA
import Derived.ProofKit
import Derived.OpenShut
import Derived.Carry
import Derived.Lib.SmallJoins
import Derived.Test.YteeioghoidjbpaaDoorTie
import Derived.Test.YteeioghoidjbpaaDoorCards
import Derived.SevenTiedAt
import Derived.Stop.Joined
import Derived.LaidMore
import Derived.MakeChecks
namespace Go.Proofs.YteeioghoidjbpaaDoor
open Go Go.RowKit
set_option linter.unusedVariables false
set_option linter.unusedSimpArgs false
set_option maxRecDepth 20000
abbrev R22 : Rp (Int × Int × Int × Int) := (Rp.pair (Rp.int .i64) (Rp.pair (Rp.int .i64) (Rp.pair (Rp.int .i64) (Rp.int .i64))))
theorem P22 : Opens Tryd.prog 22 R22 (okP (fun n => (Lit.int .i64 n).wf = true) (okP (fun n => (Lit.int .i64 n).wf = true) (okP (fun n => (Lit.int .i64 n).wf = true) (fun n => (Lit.int .i64 n).wf = true)))) := Opens.array Tryd.underlying22 (by kernel_rfl) (OpensAs.cons (by kernel_rfl) (by decide) (Opens.int Tryd.underlying3) (OpensAs.cons (by kernel_rfl) (by decide) (Opens.int Tryd.underlying3) (OpensAs.cons (by kernel_rfl) (by decide) (Opens.int Tryd.underlying3) (OpensAs.one (by kernel_rfl) (Opens.int Tryd.underlying3)))))
abbrev R24 : Rp (Int × (Int × Int × Int × Int) × (Int × Int × Int × Int)) := (Rp.pair (Rp.int .i64) (Rp.pair R22 R22))
theorem P24 : Opens Tryd.prog 24 R24 (okP (fun n => (Lit.int .i64 n).wf = true) (okP (okP (fun n => (Lit.int .i64 n).wf = true) (okP (fun n => (Lit.int .i64 n).wf = true) (okP (fun n => (Lit.int .i64 n).wf = true) (fun n => (Lit.int .i64 n).wf = true)))) (okP (fun n => (Lit.int .i64 n).wf = true) (okP (fun n => (Lit.int .i64 n).wf = true) (okP (fun n => (Lit.int .i64 n).wf = true) (fun n => (Lit.int .i64 n).wf = true)))))) := Opens.struct Tryd.underlying24 (by kernel_rfl) (OpensFs.cons (by rfl) (by kernel_rfl) (Opens.int Tryd.underlying3) (OpensFs.cons (by rfl) (by kernel_rfl) P22 (OpensFs.one (by rfl) (by kernel_rfl) P22)))
theorem P60 : Opens Tryd.prog 60 R60 (okP (fun n => (Lit.int .i64 n).wf = true) (okP (fun n => (Lit.int .i64 n).wf = true) (fun n => (Lit.int .i64 n).wf = true))) := Opens.struct Tryd.underlying60 (by kernel_rfl) (OpensFs.cons (by rfl) (by kernel_rfl) (Opens.int Tryd.underlying3) (OpensFs.cons (by rfl) (by kernel_rfl) (Opens.int Tryd.underlying3) (OpensFs.one (by rfl) (by kernel_rfl) (Opens.int Tryd.underlying3))))
theorem P25 : Opens Tryd.prog 25 (Rp.slice R60) (okL (okP (fun n => (Lit.int .i64 n).wf = true) (okP (fun n => (Lit.int .i64 n).wf = true) (fun n => (Lit.int .i64 n).wf = true)))) := Opens.slice Tryd.underlying25 (by kernel_rfl) (by decide) P60
abbrev R27 : Rp (Int × (Int × (Int × Int × Int × Int) × (Int × Int × Int × Int)) × (List (Int × Int × Int))) := (Rp.pair (Rp.int .i64) (Rp.pair R24 (Rp.slice R60)))
theorem P27 : Opens Tryd.prog 27 R27 (okP (fun n => (Lit.int .i64 n).wf = true) (okP (okP (fun n => (Lit.int .i64 n).wf = true) (okP (okP (fun n => (Lit.int .i64 n).wf = true) (okP (fun n => (Lit.int .i64 n).wf = true) (okP (fun n => (Lit.int .i64 n).wf = true) (fun n => (Lit.int .i64 n).wf = true)))) (okP (fun n => (Lit.int .i64 n).wf = true) (okP (fun n => (Lit.int .i64 n).wf = true) (okP (fun n => (Lit.int .i64 n).wf = true) (fun n => (Lit.int .i64 n).wf = true)))))) (okL (okP (fun n => (Lit.int .i64 n).wf = true) (okP (fun n => (Lit.int .i64 n).wf = true) (fun n => (Lit.int .i64 n).wf = true)))))) := Opens.struct Tryd.underlying27 (by kernel_rfl) (OpensFs.cons (by rfl) (by kernel_rfl) (Opens.int Tryd.underlying3) (OpensFs.cons (by rfl) (by kernel_rfl) P24 (OpensFs.one (by rfl) (by kernel_rfl) P25)))
def E22 (a : Int × Int × Int × Int) : List Value := [.int .i64 a.1, .int .i64 a.2.1, .int .i64 a.2.2.1, .int .i64 a.2.2.2]
theorem F22 : Fl R22 E22 := (Fl.pair Fl.int (Fl.pair Fl.int (Fl.pair Fl.int Fl.int)))
def E24 (a : Int × (Int × Int × Int × Int) × (Int × Int × Int × Int)) : List Value := [.int .i64 a.1, .int .i64 a.2.1.1, .int .i64 a.2.1.2.1, .int .i64 a.2.1.2.2.1, .int .i64 a.2.1.2.2.2, .int .i64 a.2.2.1, .int .i64 a.2.2.2.1, .int .i64 a.2.2.2.2.1, .int .i64 a.2.2.2.2.2]
theorem F24 : Fl R24 E24 := (Fl.pair Fl.int (Fl.pair F22 F22))
namespace RowRuleReads
open Go.ChangeShapes Go.WideShapes Go.ChangeAt Go.RowKit Go.Joins
open Go.ChangeMaps (open_string shut_string)
theorem own : ownKnob Tryd.prog.godebug = none := by kernel_rfl
theorem laidOut : laidOutB Tryd.prog = true := by kernel_rfl
theorem door_met (os : Os) (args : Array Value) : laidMetH Tryd.prog [("math/bits.deBruijn32tab", Rows.laid_math_bits_deBruijn32tab), ("math/bits.deBruijn64tab", Rows.laid_math_bits_deBruijn64tab), ("internal/strconv.uint64pow10", Rows.laid_internal_strconv_uint64pow10)] ((World.doorLaid Tryd.prog 24 os).forCall (fun _ _ => 0) ⟨#[], args, []⟩).memory :=
  laidMetH_of_parts3 (fuel := 8) (laidMet_of_run' 8 (by kernel_rfl) (by kernel_rfl)) (by kernel_rfl) (by kernel_rfl)
set_option maxRecDepth 100000 in
theorem lifted (os : Os) (started : os.Started) (H : Type) (enc : TypeId × Value → H) :
    ReturnsInHanded {} Tryd.checked os 5 .any (fun w args => (Rows.ruleReadsSpec.pre enc Tryd.prog Tryd.f5 [] false w args ∧ laidMetH Tryd.prog [("math/bits.deBruijn32tab", Rows.laid_math_bits_deBruijn32tab), ("math/bits.deBruijn64tab", Rows.laid_math_bits_deBruijn64tab), ("internal/strconv.uint64pow10", Rows.laid_internal_strconv_uint64pow10)] w) ∧ sizedMet enc Tryd.prog Tryd.f5 (OpenSpec.ofChange Rows.ruleReadsSpec) false w args)
      (Rows.ruleReadsSpec.post enc Tryd.prog Tryd.f5 false true false false) := by
  refine returns_shaped (C := Tryd.checked) (X := fun w _ => laidMetH Tryd.prog [("math/bits.deBruijn32tab", Rows.laid_math_bits_deBruijn32tab), ("math/bits.deBruijn64tab", Rows.laid_math_bits_deBruijn64tab), ("internal/strconv.uint64pow10", Rows.laid_internal_strconv_uint64pow10)] w) (fun _ _ _ hh h => h.of_heap hh) own started (by kernel_rfl) Tryd.func5
    (ChangeSpec.witness_shaped (enc := enc) (C := Tryd.checked) (os := os) (X := fun w _ => laidMetH Tryd.prog [("math/bits.deBruijn32tab", Rows.laid_math_bits_deBruijn32tab), ("math/bits.deBruijn64tab", Rows.laid_math_bits_deBruijn64tab), ("internal/strconv.uint64pow10", Rows.laid_internal_strconv_uint64pow10)] w) false (World.doorLaid Tryd.prog 24 os) #[.string ByteArray.empty, .agg #[.int .i64 0, .int .i64 0, .int .i64 0, .int .i64 0, .int .i64 0, .int .i64 0, .int .i64 0, .int .i64 0, .int .i64 0, .int .i64 0, .slice none 0 0], .int .i64 0] 8 rfl (World.shaped_of_RefB (by kernel_rfl) (by kernel_rfl)) (by kernel_rfl) (by kernel_rfl) (by kernel_rfl) (door_met os _)) ?_
  intro W base args ds gs before hval0 hW hcnd _ hL hsh
  have lm := laid_met hL rfl
  have hval : ∀ (j : Nat) t v, Tryd.f5.params[j]? = some t → args[j]? = some v → Value.okWide Tryd.prog W .any base t v := hval0
  have hW' := hW
  obtain ⟨p, q, hA0, hV, rfl, hfz, hnd⟩ := hW
  have hA : DataW.TrodAll enc Tryd.prog W 0 (fun _ => true) true Tryd.f5.params.toList args.toList ds p := hA0
  rw [Tryd.params5] at hA hval
  obtain ⟨v0, vs0, d0, ds0, p0, q0, hargs, rfl, rfl, h0, r0⟩ := trodAll_cons hA
  obtain ⟨v1, vs1, d1, ds1, p1, q1, rfl, rfl, rfl, h1, r1⟩ := trodAll_cons r0
  obtain ⟨v2, vs2, d2, ds2, p2, q2, rfl, rfl, rfl, h2, r2⟩ := trodAll_cons r1
  obtain ⟨rfl, rfl, rfl⟩ := trodAll_nil r2
  obtain rfl : args = #[v0, v1, v2] := by cases args; simp_all
  obtain ⟨rfl, rfl⟩ := trodVars_none hV
  have k0 := h0
  have lt0 : ∀ x ∈ p0, x.block < W.heap.size := by obtain ⟨m, hm⟩ := k0; exact DataW.trod_lt m _ _ _ hm
  have k1 := h1
  have lt1 : ∀ x ∈ p1, x.block < W.heap.size := by obtain ⟨m, hm⟩ := k1; exact DataW.trod_lt m _ _ _ hm
  have k2 := h2
  have lt2 : ∀ x ∈ p2, x.block < W.heap.size := by obtain ⟨m, hm⟩ := k2; exact DataW.trod_lt m _ _ _ hm
  obtain ⟨fu0, hf0⟩ := h0
  obtain ⟨a0, hr0, ok0⟩ := (Opens.str Tryd.underlying9) _ _ _ _ _ _ _ _ hf0
  rw [wide_one Tryd.underlying9 rfl (hval 0 9 v0 rfl rfl)] at hr0
  obtain rfl := (List.cons.inj hr0).1
  obtain ⟨fu1, hf1⟩ := h1
  obtain ⟨a1, hr1, ok1⟩ := P27 _ _ _ _ _ _ _ _ hf1
  obtain ⟨cs1, rfl⟩ := wide_agg Tryd.underlying27 (hval 1 27 v1 rfl rfl)
  obtain ⟨ca1_1, cb1_1, e1, ha1_1, hb1_1⟩ := hr1
  obtain rfl := (Fl.int).to ha1_1
  obtain ⟨ca1_2, cb1_2, rfl, ha1_2, hb1_2⟩ := hb1_1
  obtain rfl := (F24).to ha1_2
  obtain ⟨y1_3, rfl, s1_3⟩ := hb1_2
  obtain rfl := (show cs1 = (Value.agg cs1).cells.toList.toArray by simp [Value.cells]).trans (congrArg List.toArray e1)
  obtain ⟨fu2, hf2⟩ := h2
  obtain ⟨a2, hr2, ok2⟩ := (Opens.int Tryd.underlying3) _ _ _ _ _ _ _ _ hf2
  rw [wide_one Tryd.underlying3 rfl (hval 2 3 v2 rfl rfl)] at hr2
  obtain rfl := (List.cons.inj hr2).1
  clear hA0 hval0
  have hG : Gk [] W := ⟨⟨laid_tabIs (g := 0) (laid_tail (laid_tail lm)) (by kernel_rfl) (by kernel_rfl) Tryd.underlying100 Tryd.underlying94 (by kernel_rfl) (by kernel_rfl)⟩, fun g hg hm => by cases hm⟩
  refine (L10_RuleReads_c any W y1_3 a0 a1 a2 true (RuleReads_true a0 ok0 a1 ok1 a2 ok2) s1_3.nx hG).mono fun e W' ⟨he, bel⟩ => ?_
  subst he
  exact ⟨_, rfl, _, _, _, [], _, [], hW', trodAll_mk1 (shut_bool Tryd.underlying4 _), (trodAll_cons_mk (Below.trod laidOut (by kernel_rfl) (of_decide_eq_true (by kernel_rfl)) k0 bel lt0) (trodAll_cons_mk (Below.trod laidOut (by kernel_rfl) (of_decide_eq_true (by kernel_rfl)) k1 bel lt1) (trodAll_cons_mk (Below.trod laidOut (by kernel_rfl) (of_decide_eq_true (by kernel_rfl)) k2 bel lt2) trodAll_mk0))), rfl, bel.frame _, fun h => by cases h⟩
theorem over : Rows.ruleReadsRow.holds Tryd.pinned (OpenSpec.ofChange Rows.ruleReadsSpec) :=
  OpenClaim.holds_of_wide 5 Tryd.f5 rfl rfl rfl rfl rfl rfl rfl ⟨rfl, rfl, rfl, rfl, rfl⟩ rfl rfl rfl rfl rfl (by kernel_rfl) Tryd.func5 (by kernel_rfl)
    (of_decide_eq_true (by kernel_rfl)) (by unfold Func.isWrapper; first | (rw [if_pos (by decide +kernel)]; kernel_rfl) | (rw [if_neg (by decide +kernel)]; exact ⟨rfl, rfl⟩))
    (fun os started H enc _ => lifted os started H enc)
end RowRuleReads
theorem ruleReads_holds : Rows.RuleReadsSaid := RowRuleReads.over
theorem ruleReadsCard_holds : Rows.RuleReadsCardSaid :=
  Claim7.holds_tied_plain_at .later [] [.data, .data, .data] true (true, "9b4092b2625d9fc2b0e5589ddc37f768533c784ece59d92cc0d8efa06828483d") false
    ruleReads_holds (fun _ h => by cases h) (by kernel_rfl) (fun _ h => by cases h) ruleReads_row_tie rfl ⟨rfl, rfl⟩ (by kernel_rfl) rfl
    (fun f fn hf hfn => by
      obtain rfl : f = 5 := Option.some.inj ((show Tryd.prog.funcNamed "turnout/turnoutlaw10.RuleReads" = some 5 by kernel_rfl).symm.trans hf) |>.symm
      obtain rfl : fn = Tryd.f5 := (Option.some.inj (Tryd.func5.symm.trans hfn)).symm
      exact ⟨by kernel_rfl, fun j t ht => by
        rw [Tryd.params5] at ht
        have hm : t ∈ [9, 27, 3] := by simpa using Array.mem_of_getElem? ht
        have hall : ([9, 27, 3].all fun u => !Tryd.prog.wantsStandIn u) = true := by kernel_rfl
        exact (show Tryd.prog.wantsStandIn t = false by simpa using List.all_eq_true.1 hall t hm)⟩)
    (by kernel_rfl)
end Go.Proofs.YteeioghoidjbpaaDoor
