/- A statement of layer 27. Conditions: none. -/
import Derived.Test.YtpckgggmgijiiaaGreatDoorcM27R
import Derived.Test.YtpckgggmgijiiaaGreatDoorcOA
import Derived.Test.YtpckgggmgijiiaaGreatDoorcOU
import Derived.ProofKit
import Derived.OpenShut
import Derived.Carry
import Derived.Lib.SmallJoins
import Derived.Test.YtpckgggmgijiiaaGreatDoorcTie
import Derived.Test.YtpckgggmgijiiaaGreatDoorcCards
import Derived.SevenTiedAt
import Derived.Stop.Joined
import Derived.LaidMore
import Derived.MakeChecks
import Derived.Lay
namespace Go.Proofs.YtpckgggmgijiiaaGreatDoor
open Go Go.RowKit
set_option linter.unusedVariables false
set_option linter.unusedSimpArgs false
set_option maxRecDepth 20000
theorem WY : ∀ N, MU Tryz.prog 24 DT Tr24.cnt N := MU.knot Tn (of := Tr24.of) (fun _ => rfl) (fun p => by show Tr24.cnt (.mk p.1 p.2.1 p.2.2.1 p.2.2.2) = _; rw [Tr24.cnt]; simp [Nat.add_assoc]) (fun N h => MU.struct Tryz.underlying24 (by kernel_rfl) (IR.cons (by rfl) (by kernel_rfl) (MU.flat (Ec.int Tryz.underlying3)) (IR.cons (by rfl) (by kernel_rfl) (MU.flat (Ec.int Tryz.underlying3)) (IR.cons (by rfl) (by kernel_rfl) (MU.flat (Ec.int Tryz.underlying3)) (IR.one (by rfl) (by kernel_rfl) (MU.slice Tryz.underlying22 (by kernel_rfl) (by decide) h))))))
theorem VB : ∀ N, MU Tryz.prog 27 Hx Tr27.cnt N := MU.knot UN (of := Tr27.of) (fun _ => rfl) (fun p => by show Tr27.cnt (.mk p.1 p.2.1 p.2.2.1 p.2.2.2.1 p.2.2.2.2) = _; rw [Tr27.cnt]; simp [Nat.add_assoc]) (fun N h => MU.struct Tryz.underlying27 (by kernel_rfl) (IR.cons (by rfl) (by kernel_rfl) (MU.flat (Ec.int Tryz.underlying3)) (IR.cons (by rfl) (by kernel_rfl) (WY N) (IR.cons (by rfl) (by kernel_rfl) (MU.flat (Ec.int Tryz.underlying3)) (IR.cons (by rfl) (by kernel_rfl) (MU.flat (Ec.int Tryz.underlying3)) (IR.one (by rfl) (by kernel_rfl) (MU.slice Tryz.underlying25 (by kernel_rfl) (by decide) h)))))))
theorem Zw : Ec Tryz.prog 29 XE (WK (fun n => (Lit.int .i64 n).wf = true) (WK (fun n => (Lit.int .i64 n).wf = true) (WK (fun n => (Lit.int .i64 n).wf = true) (fun n => (Lit.int .i64 n).wf = true)))) := Ec.array Tryz.underlying29 (by kernel_rfl) (HZ.cons (by kernel_rfl) (by decide) (Ec.int Tryz.underlying3) (HZ.cons (by kernel_rfl) (by decide) (Ec.int Tryz.underlying3) (HZ.cons (by kernel_rfl) (by decide) (Ec.int Tryz.underlying3) (HZ.one (by kernel_rfl) (Ec.int Tryz.underlying3)))))
namespace RowPolicyUnion
open Go.ChangeShapes Go.WideShapes Go.ChangeAt Go.RowKit Go.Joins
open Go.ChangeMaps (open_string shut_string)
theorem own : ownKnob Tryz.prog.godebug = none := by kernel_rfl
theorem JY : laidOutB Tryz.prog = true := by kernel_rfl
theorem TD (os : Os) (args : Array Value) : laidMetH Tryz.prog [("math/bits.deBruijn32tab", Rows.laid_math_bits_deBruijn32tab), ("math/bits.deBruijn64tab", Rows.laid_math_bits_deBruijn64tab), ("internal/strconv.uint64pow10", Rows.laid_internal_strconv_uint64pow10)] ((World.doorLaid Tryz.prog 24 os).forCall (fun _ _ => 0) ⟨#[], args, []⟩).memory :=
  laidMetH_of_parts3 (fuel := 8) (laidMet_of_run' 8 (by kernel_rfl) (by kernel_rfl)) (by kernel_rfl) (by kernel_rfl)
set_option maxRecDepth 100000 in
theorem Jw (os : Os) (started : os.Started) (H : Type) (enc : TypeId × Value → H) :
    ReturnsInHanded {} Tryz.checked os 4 .any (fun w args => (Rows.policyUnionSpec.pre enc Tryz.prog Tryz.f4 [] false w args ∧ laidMetH Tryz.prog [("math/bits.deBruijn32tab", Rows.laid_math_bits_deBruijn32tab), ("math/bits.deBruijn64tab", Rows.laid_math_bits_deBruijn64tab), ("internal/strconv.uint64pow10", Rows.laid_internal_strconv_uint64pow10)] w) ∧ sizedMet enc Tryz.prog Tryz.f4 (OpenSpec.ofChange Rows.policyUnionSpec) false w args)
      (Rows.policyUnionSpec.post enc Tryz.prog Tryz.f4 false true false false) := by
  refine OO (C := Tryz.checked) (X := fun w _ => laidMetH Tryz.prog [("math/bits.deBruijn32tab", Rows.laid_math_bits_deBruijn32tab), ("math/bits.deBruijn64tab", Rows.laid_math_bits_deBruijn64tab), ("internal/strconv.uint64pow10", Rows.laid_internal_strconv_uint64pow10)] w) (fun _ _ _ hh h => h.of_heap hh) own started (by kernel_rfl) Tryz.func4
    (ChangeSpec.witness_shaped (enc := enc) (C := Tryz.checked) (os := os) (X := fun w _ => laidMetH Tryz.prog [("math/bits.deBruijn32tab", Rows.laid_math_bits_deBruijn32tab), ("math/bits.deBruijn64tab", Rows.laid_math_bits_deBruijn64tab), ("internal/strconv.uint64pow10", Rows.laid_internal_strconv_uint64pow10)] w) false (World.doorLaid Tryz.prog 24 os) #[.agg #[.int .i64 0, .int .i64 0, .int .i64 0, .int .i64 0, .slice none 0 0, .int .i64 0, .int .i64 0, .slice none 0 0], .agg #[.int .i64 0, .int .i64 0, .int .i64 0, .int .i64 0, .slice none 0 0, .int .i64 0, .int .i64 0, .slice none 0 0], .agg #[.int .i64 0, .int .i64 0, .int .i64 0, .int .i64 0, .slice none 0 0, .int .i64 0, .int .i64 0, .slice none 0 0], .agg #[.int .i64 0, .int .i64 0, .int .i64 0, .slice none 0 0], .int .i64 0, .int .i64 0, .agg #[.int .i64 0, .int .i64 0, .int .i64 0, .int .i64 0]] 8 rfl (World.shaped_of_RefB (by kernel_rfl) (by kernel_rfl)) (by kernel_rfl) (by kernel_rfl) (by kernel_rfl) (TD os _)) ?_
  intro W base args ds gs before hval0 hW hcnd _ hL hsh
  have lm := Ui hL rfl
  have hval : ∀ (j : Nat) t v, Tryz.f4.params[j]? = some t → args[j]? = some v → Value.okWide Tryz.prog W .any base t v := hval0
  have hW' := hW
  obtain ⟨p, q, hA0, hV, rfl, hfz, hnd⟩ := hW
  have hA : DataW.TrodAll enc Tryz.prog W 0 (fun _ => true) true Tryz.f4.params.toList args.toList ds p := hA0
  rw [Tryz.params4] at hA hval
  obtain ⟨v0, vs0, d0, ds0, p0, q0, hargs, rfl, rfl, h0, r0⟩ := trodAll_cons hA
  obtain ⟨v1, vs1, d1, ds1, p1, q1, rfl, rfl, rfl, h1, r1⟩ := trodAll_cons r0
  obtain ⟨v2, vs2, d2, ds2, p2, q2, rfl, rfl, rfl, h2, r2⟩ := trodAll_cons r1
  obtain ⟨v3, vs3, d3, ds3, p3, q3, rfl, rfl, rfl, h3, r3⟩ := trodAll_cons r2
  obtain ⟨v4, vs4, d4, ds4, p4, q4, rfl, rfl, rfl, h4, r4⟩ := trodAll_cons r3
  obtain ⟨v5, vs5, d5, ds5, p5, q5, rfl, rfl, rfl, h5, r5⟩ := trodAll_cons r4
  obtain ⟨v6, vs6, d6, ds6, p6, q6, rfl, rfl, rfl, h6, r6⟩ := trodAll_cons r5
  obtain ⟨rfl, rfl, rfl⟩ := trodAll_nil r6
  obtain rfl : args = #[v0, v1, v2, v3, v4, v5, v6] := by cases args; simp_all
  obtain ⟨rfl, rfl⟩ := trodVars_none hV
  have k0 := h0
  have lt0 : ∀ x ∈ p0, x.block < W.heap.size := by obtain ⟨m, hm⟩ := k0; exact DataW.trod_lt m _ _ _ hm
  have k1 := h1
  have lt1 : ∀ x ∈ p1, x.block < W.heap.size := by obtain ⟨m, hm⟩ := k1; exact DataW.trod_lt m _ _ _ hm
  have k2 := h2
  have lt2 : ∀ x ∈ p2, x.block < W.heap.size := by obtain ⟨m, hm⟩ := k2; exact DataW.trod_lt m _ _ _ hm
  have k3 := h3
  have lt3 : ∀ x ∈ p3, x.block < W.heap.size := by obtain ⟨m, hm⟩ := k3; exact DataW.trod_lt m _ _ _ hm
  have k4 := h4
  have lt4 : ∀ x ∈ p4, x.block < W.heap.size := by obtain ⟨m, hm⟩ := k4; exact DataW.trod_lt m _ _ _ hm
  have k5 := h5
  have lt5 : ∀ x ∈ p5, x.block < W.heap.size := by obtain ⟨m, hm⟩ := k5; exact DataW.trod_lt m _ _ _ hm
  have k6 := h6
  have lt6 : ∀ x ∈ p6, x.block < W.heap.size := by obtain ⟨m, hm⟩ := k6; exact DataW.trod_lt m _ _ _ hm
  obtain ⟨fu0, hf0⟩ := h0
  obtain ⟨a0, hr0, _⟩ := VB fu0 _ _ _ _ _ _ _ _ (Nat.le_refl _) hf0
  have ok0 : True := trivial
  obtain ⟨cs0, rfl⟩ := Mp Tryz.underlying27 (hval 0 27 v0 rfl rfl)
  obtain ⟨ca0_1, cb0_1, e0, ha0_1, hb0_1⟩ := (U3.1 hr0)
  obtain rfl := (Fl.int).to ha0_1
  obtain ⟨ca0_2, cb0_2, rfl, ha0_2, hb0_2⟩ := hb0_1
  obtain ⟨ca0_3, cb0_3, rfl, ha0_3, hb0_3⟩ := (SZ.1 ha0_2)
  obtain rfl := (Fl.int).to ha0_3
  obtain ⟨ca0_4, cb0_4, rfl, ha0_4, hb0_4⟩ := hb0_3
  obtain rfl := (Fl.int).to ha0_4
  obtain ⟨ca0_5, cb0_5, rfl, ha0_5, hb0_5⟩ := hb0_4
  obtain rfl := (Fl.int).to ha0_5
  obtain ⟨y0_6, rfl, s0_6⟩ := hb0_5
  obtain ⟨ca0_7, cb0_7, rfl, ha0_7, hb0_7⟩ := hb0_2
  obtain rfl := (Fl.int).to ha0_7
  obtain ⟨ca0_8, cb0_8, rfl, ha0_8, hb0_8⟩ := hb0_7
  obtain rfl := (Fl.int).to ha0_8
  obtain ⟨y0_9, rfl, s0_9⟩ := hb0_8
  obtain rfl := (show cs0 = (Value.agg cs0).cells.toList.toArray by simp [Value.cells]).trans (congrArg List.toArray e0)
  obtain ⟨fu1, hf1⟩ := h1
  obtain ⟨a1, hr1, _⟩ := VB fu1 _ _ _ _ _ _ _ _ (Nat.le_refl _) hf1
  have ok1 : True := trivial
  obtain ⟨cs1, rfl⟩ := Mp Tryz.underlying27 (hval 1 27 v1 rfl rfl)
  obtain ⟨ca1_1, cb1_1, e1, ha1_1, hb1_1⟩ := (U3.1 hr1)
  obtain rfl := (Fl.int).to ha1_1
  obtain ⟨ca1_2, cb1_2, rfl, ha1_2, hb1_2⟩ := hb1_1
  obtain ⟨ca1_3, cb1_3, rfl, ha1_3, hb1_3⟩ := (SZ.1 ha1_2)
  obtain rfl := (Fl.int).to ha1_3
  obtain ⟨ca1_4, cb1_4, rfl, ha1_4, hb1_4⟩ := hb1_3
  obtain rfl := (Fl.int).to ha1_4
  obtain ⟨ca1_5, cb1_5, rfl, ha1_5, hb1_5⟩ := hb1_4
  obtain rfl := (Fl.int).to ha1_5
  obtain ⟨y1_6, rfl, s1_6⟩ := hb1_5
  obtain ⟨ca1_7, cb1_7, rfl, ha1_7, hb1_7⟩ := hb1_2
  obtain rfl := (Fl.int).to ha1_7
  obtain ⟨ca1_8, cb1_8, rfl, ha1_8, hb1_8⟩ := hb1_7
  obtain rfl := (Fl.int).to ha1_8
  obtain ⟨y1_9, rfl, s1_9⟩ := hb1_8
  obtain rfl := (show cs1 = (Value.agg cs1).cells.toList.toArray by simp [Value.cells]).trans (congrArg List.toArray e1)
  obtain ⟨fu2, hf2⟩ := h2
  obtain ⟨a2, hr2, _⟩ := VB fu2 _ _ _ _ _ _ _ _ (Nat.le_refl _) hf2
  have ok2 : True := trivial
  obtain ⟨cs2, rfl⟩ := Mp Tryz.underlying27 (hval 2 27 v2 rfl rfl)
  obtain ⟨ca2_1, cb2_1, e2, ha2_1, hb2_1⟩ := (U3.1 hr2)
  obtain rfl := (Fl.int).to ha2_1
  obtain ⟨ca2_2, cb2_2, rfl, ha2_2, hb2_2⟩ := hb2_1
  obtain ⟨ca2_3, cb2_3, rfl, ha2_3, hb2_3⟩ := (SZ.1 ha2_2)
  obtain rfl := (Fl.int).to ha2_3
  obtain ⟨ca2_4, cb2_4, rfl, ha2_4, hb2_4⟩ := hb2_3
  obtain rfl := (Fl.int).to ha2_4
  obtain ⟨ca2_5, cb2_5, rfl, ha2_5, hb2_5⟩ := hb2_4
  obtain rfl := (Fl.int).to ha2_5
  obtain ⟨y2_6, rfl, s2_6⟩ := hb2_5
  obtain ⟨ca2_7, cb2_7, rfl, ha2_7, hb2_7⟩ := hb2_2
  obtain rfl := (Fl.int).to ha2_7
  obtain ⟨ca2_8, cb2_8, rfl, ha2_8, hb2_8⟩ := hb2_7
  obtain rfl := (Fl.int).to ha2_8
  obtain ⟨y2_9, rfl, s2_9⟩ := hb2_8
  obtain rfl := (show cs2 = (Value.agg cs2).cells.toList.toArray by simp [Value.cells]).trans (congrArg List.toArray e2)
  obtain ⟨fu3, hf3⟩ := h3
  obtain ⟨a3, hr3, _⟩ := WY fu3 _ _ _ _ _ _ _ _ (Nat.le_refl _) hf3
  have ok3 : True := trivial
  obtain ⟨cs3, rfl⟩ := Mp Tryz.underlying24 (hval 3 24 v3 rfl rfl)
  obtain ⟨ca3_1, cb3_1, e3, ha3_1, hb3_1⟩ := (SZ.1 hr3)
  obtain rfl := (Fl.int).to ha3_1
  obtain ⟨ca3_2, cb3_2, rfl, ha3_2, hb3_2⟩ := hb3_1
  obtain rfl := (Fl.int).to ha3_2
  obtain ⟨ca3_3, cb3_3, rfl, ha3_3, hb3_3⟩ := hb3_2
  obtain rfl := (Fl.int).to ha3_3
  obtain ⟨y3_4, rfl, s3_4⟩ := hb3_3
  obtain rfl := (show cs3 = (Value.agg cs3).cells.toList.toArray by simp [Value.cells]).trans (congrArg List.toArray e3)
  obtain ⟨fu4, hf4⟩ := h4
  obtain ⟨a4, hr4, ok4⟩ := (Ec.int Tryz.underlying3) _ _ _ _ _ _ _ _ hf4
  rw [RL Tryz.underlying3 rfl (hval 4 3 v4 rfl rfl)] at hr4
  obtain rfl := (List.cons.inj hr4).1
  obtain ⟨fu5, hf5⟩ := h5
  obtain ⟨a5, hr5, ok5⟩ := (Ec.int Tryz.underlying3) _ _ _ _ _ _ _ _ hf5
  rw [RL Tryz.underlying3 rfl (hval 5 3 v5 rfl rfl)] at hr5
  obtain rfl := (List.cons.inj hr5).1
  obtain ⟨fu6, hf6⟩ := h6
  obtain ⟨a6, hr6, ok6⟩ := Zw _ _ _ _ _ _ _ _ hf6
  obtain ⟨cs6, rfl⟩ := TC Tryz.underlying29 (hval 6 29 v6 rfl rfl)
  obtain rfl : cs6 = (YO a6).toArray := by have e := YJ.to hr6; rw [← e]; simp [Value.cells]
  clear hA0 hval0
  have hG : Gk [] W := ⟨⟨R4 (g := 0) (PN (PN lm)) (by kernel_rfl) (by kernel_rfl) Tryz.underlying172 Tryz.underlying138 (by kernel_rfl) (by kernel_rfl)⟩, fun g hg hm => by cases hm⟩
  refine (Mg any W y0_6 y0_9 y1_6 y1_9 y2_6 y2_9 y3_4 a0 a1 a2 a3 a4 a5 a6 true (M3 a0 ok0 a1 ok1 a2 ok2 a3 ok3 a4 ok4 a5 ok5 a6 ok6) s0_6.nx s0_9.nx s1_6.nx s1_9.nx s2_6.nx s2_9.nx s3_4.nx hG).mono fun e W' ⟨he, bel⟩ => ?_
  subst he
  exact ⟨_, rfl, _, _, _, [], _, [], hW', trodAll_mk1 (shut_bool Tryz.underlying4 _), (trodAll_cons_mk (Below.trod JY (by kernel_rfl) (of_decide_eq_true (by kernel_rfl)) k0 bel lt0) (trodAll_cons_mk (Below.trod JY (by kernel_rfl) (of_decide_eq_true (by kernel_rfl)) k1 bel lt1) (trodAll_cons_mk (Below.trod JY (by kernel_rfl) (of_decide_eq_true (by kernel_rfl)) k2 bel lt2) (trodAll_cons_mk (Below.trod JY (by kernel_rfl) (of_decide_eq_true (by kernel_rfl)) k3 bel lt3) (trodAll_cons_mk (Below.trod JY (by kernel_rfl) (of_decide_eq_true (by kernel_rfl)) k4 bel lt4) (trodAll_cons_mk (Below.trod JY (by kernel_rfl) (of_decide_eq_true (by kernel_rfl)) k5 bel lt5) (trodAll_cons_mk (Below.trod JY (by kernel_rfl) (of_decide_eq_true (by kernel_rfl)) k6 bel lt6) trodAll_mk0))))))), rfl, bel.frame _, fun h => by cases h⟩
theorem over : Rows.policyUnionRow.holds Tryz.pinned (OpenSpec.ofChange Rows.policyUnionSpec) :=
  OpenClaim.holds_of_wide 4 Tryz.f4 rfl rfl rfl rfl rfl rfl rfl ⟨rfl, rfl, rfl, rfl, rfl⟩ rfl rfl rfl rfl rfl (by kernel_rfl) Tryz.func4 (by kernel_rfl)
    (of_decide_eq_true (by kernel_rfl)) (by unfold Func.isWrapper; first | (rw [if_pos (by decide +kernel)]; kernel_rfl) | (rw [if_neg (by decide +kernel)]; exact ⟨rfl, rfl⟩))
    (fun os started H enc _ => Jw os started H enc)
end RowPolicyUnion
theorem Mx : Rows.PolicyUnionSaid := RowPolicyUnion.over
theorem policyUnionCard_holds : Rows.PolicyUnionCardSaid :=
  Claim7.holds_tied_plain_at .later [] [.data, .data, .data] true (true, "1acd616602ce3da185191c0a9e3dce37a64f75d007365ee50c1822afcb377e02") false
    Mx (fun _ h => by cases h) (by kernel_rfl) (fun _ h => by cases h) Lg rfl ⟨rfl, rfl⟩ (by kernel_rfl) rfl
    (fun f fn hf hfn => by
      obtain rfl : f = 4 := Option.some.inj ((show Tryz.prog.funcNamed "turnout/turnoutlaw27.PolicyUnion" = some 4 by kernel_rfl).symm.trans hf) |>.symm
      obtain rfl : fn = Tryz.f4 := (Option.some.inj (Tryz.func4.symm.trans hfn)).symm
      exact ⟨by kernel_rfl, fun j t ht => by
        rw [Tryz.params4] at ht
        have hm : t ∈ [27, 27, 27, 24, 3, 3, 29] := by simpa using Array.mem_of_getElem? ht
        have hall : ([27, 27, 27, 24, 3, 3, 29].all fun u => !Tryz.prog.wantsStandIn u) = true := by kernel_rfl
        exact (show Tryz.prog.wantsStandIn t = false by simpa using List.all_eq_true.1 hall t hm)⟩)
    (by kernel_rfl)
end Go.Proofs.YtpckgggmgijiiaaGreatDoor
