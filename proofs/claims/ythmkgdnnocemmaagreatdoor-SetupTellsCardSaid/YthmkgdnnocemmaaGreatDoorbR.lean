/- The statements of layer 40. Conditions: none. -/
import Derived.Test.YthmkgdnnocemmaaGreatDoorbM40T
import Derived.Test.YthmkgdnnocemmaaGreatDoorbOA
import Derived.ProofKit
import Derived.OpenShut
import Derived.Carry
import Derived.Lib.SmallJoins
import Derived.Test.YthmkgdnnocemmaaGreatDoorbTie
import Derived.Test.YthmkgdnnocemmaaGreatDoorbCards
import Derived.SevenTiedAt
import Derived.Stop.Joined
import Derived.LaidMore
import Derived.MakeChecks
import Derived.Lay
namespace Go.Proofs.YthmkgdnnocemmaaGreatDoor
open Go Go.RowKit
set_option linter.unusedVariables false
set_option linter.unusedSimpArgs false
set_option maxRecDepth 20000
theorem Tv : BT Tryz.prog 50 AV (Fe (fun n => (Lit.int .i64 n).wf = true) (Fe (fun n => (Lit.int .i64 n).wf = true) (Fe (fun n => (Lit.int .i64 n).wf = true) (Fe (fun n => (Lit.int .i64 n).wf = true) (Fe (fun n => (Lit.int .i64 n).wf = true) (fun n => (Lit.int .i64 n).wf = true)))))) := BT.struct Tryz.underlying50 (by kernel_rfl) (B5.cons (by rfl) (by kernel_rfl) (BT.int Tryz.underlying3) (B5.cons (by rfl) (by kernel_rfl) (BT.int Tryz.underlying3) (B5.cons (by rfl) (by kernel_rfl) (BT.int Tryz.underlying3) (B5.cons (by rfl) (by kernel_rfl) (BT.int Tryz.underlying3) (B5.cons (by rfl) (by kernel_rfl) (BT.int Tryz.underlying3) (B5.one (by rfl) (by kernel_rfl) (BT.int Tryz.underlying3)))))))
theorem Ts : BT Tryz.prog 22 (Rp.slice AV) (Ld (Fe (fun n => (Lit.int .i64 n).wf = true) (Fe (fun n => (Lit.int .i64 n).wf = true) (Fe (fun n => (Lit.int .i64 n).wf = true) (Fe (fun n => (Lit.int .i64 n).wf = true) (Fe (fun n => (Lit.int .i64 n).wf = true) (fun n => (Lit.int .i64 n).wf = true))))))) := BT.slice Tryz.underlying22 (by kernel_rfl) (by decide) Tv
theorem T7 : BT Tryz.prog 52 A3 (Fe (fun n => (Lit.int .i64 n).wf = true) (fun n => (Lit.int .i64 n).wf = true)) := BT.struct Tryz.underlying52 (by kernel_rfl) (B5.cons (by rfl) (by kernel_rfl) (BT.int Tryz.underlying3) (B5.one (by rfl) (by kernel_rfl) (BT.int Tryz.underlying3)))
theorem TY : BT Tryz.prog 23 (Rp.slice A3) (Ld (Fe (fun n => (Lit.int .i64 n).wf = true) (fun n => (Lit.int .i64 n).wf = true))) := BT.slice Tryz.underlying23 (by kernel_rfl) (by decide) T7
abbrev Tb : Rp (Int × (List (Int × Int × Int × Int × Int × Int)) × (List (Int × Int))) := (Rp.pair (Rp.int .i64) (Rp.pair (Rp.slice AV) (Rp.slice A3)))
theorem T8 : BT Tryz.prog 25 Tb (Fe (fun n => (Lit.int .i64 n).wf = true) (Fe (Ld (Fe (fun n => (Lit.int .i64 n).wf = true) (Fe (fun n => (Lit.int .i64 n).wf = true) (Fe (fun n => (Lit.int .i64 n).wf = true) (Fe (fun n => (Lit.int .i64 n).wf = true) (Fe (fun n => (Lit.int .i64 n).wf = true) (fun n => (Lit.int .i64 n).wf = true))))))) (Ld (Fe (fun n => (Lit.int .i64 n).wf = true) (fun n => (Lit.int .i64 n).wf = true))))) := BT.struct Tryz.underlying25 (by kernel_rfl) (B5.cons (by rfl) (by kernel_rfl) (BT.int Tryz.underlying3) (B5.cons (by rfl) (by kernel_rfl) Ts (B5.one (by rfl) (by kernel_rfl) TY)))
theorem TW : BT Tryz.prog 40 (Rp.slice (Rp.int .u64)) (Ld (fun n => (Lit.int .u64 n).wf = true)) := BT.slice Tryz.underlying40 (by kernel_rfl) (by decide) (BT.int Tryz.underlying41)
theorem TH : BT Tryz.prog 26 (Rp.slice (Rp.slice (Rp.int .u64))) (Ld (Ld (fun n => (Lit.int .u64 n).wf = true))) := BT.slice Tryz.underlying26 (by kernel_rfl) (by decide) TW
theorem T0 : BT Tryz.prog 27 (Rp.slice (Rp.int .i64)) (Ld (fun n => (Lit.int .i64 n).wf = true)) := BT.slice Tryz.underlying27 (by kernel_rfl) (by decide) (BT.int Tryz.underlying3)
abbrev TS : Rp ((Int × (List (Int × Int × Int × Int × Int × Int)) × (List (Int × Int))) × List (List Int) × List Int × Int × Int × Int × Int × Int × Int) := (Rp.pair Tb (Rp.pair (Rp.slice (Rp.slice (Rp.int .u64))) (Rp.pair (Rp.slice (Rp.int .i64)) (Rp.pair (Rp.int .i64) (Rp.pair (Rp.int .i64) (Rp.pair (Rp.int .i64) (Rp.pair (Rp.int .i64) (Rp.pair (Rp.int .i64) (Rp.int .i64)))))))))
theorem Tc : BT Tryz.prog 29 TS (Fe (Fe (fun n => (Lit.int .i64 n).wf = true) (Fe (Ld (Fe (fun n => (Lit.int .i64 n).wf = true) (Fe (fun n => (Lit.int .i64 n).wf = true) (Fe (fun n => (Lit.int .i64 n).wf = true) (Fe (fun n => (Lit.int .i64 n).wf = true) (Fe (fun n => (Lit.int .i64 n).wf = true) (fun n => (Lit.int .i64 n).wf = true))))))) (Ld (Fe (fun n => (Lit.int .i64 n).wf = true) (fun n => (Lit.int .i64 n).wf = true))))) (Fe (Ld (Ld (fun n => (Lit.int .u64 n).wf = true))) (Fe (Ld (fun n => (Lit.int .i64 n).wf = true)) (Fe (fun n => (Lit.int .i64 n).wf = true) (Fe (fun n => (Lit.int .i64 n).wf = true) (Fe (fun n => (Lit.int .i64 n).wf = true) (Fe (fun n => (Lit.int .i64 n).wf = true) (Fe (fun n => (Lit.int .i64 n).wf = true) (fun n => (Lit.int .i64 n).wf = true))))))))) := BT.struct Tryz.underlying29 (by kernel_rfl) (B5.cons (by rfl) (by kernel_rfl) T8 (B5.cons (by rfl) (by kernel_rfl) TH (B5.cons (by rfl) (by kernel_rfl) T0 (B5.cons (by rfl) (by kernel_rfl) (BT.int Tryz.underlying3) (B5.cons (by rfl) (by kernel_rfl) (BT.int Tryz.underlying3) (B5.cons (by rfl) (by kernel_rfl) (BT.int Tryz.underlying3) (B5.cons (by rfl) (by kernel_rfl) (BT.int Tryz.underlying3) (B5.cons (by rfl) (by kernel_rfl) (BT.int Tryz.underlying3) (B5.one (by rfl) (by kernel_rfl) (BT.int Tryz.underlying3))))))))))
namespace RowSetupTells
open Go.ChangeShapes Go.WideShapes Go.ChangeAt Go.RowKit Go.Joins
open Go.ChangeMaps (open_string shut_string)
theorem own : ownKnob Tryz.prog.godebug = none := by kernel_rfl
theorem Lr : laidOutB Tryz.prog = true := by kernel_rfl
theorem PJ (os : Os) (args : Array Value) : laidMetH Tryz.prog [("math/bits.deBruijn32tab", Rows.laid_math_bits_deBruijn32tab), ("math/bits.deBruijn64tab", Rows.laid_math_bits_deBruijn64tab), ("internal/strconv.uint64pow10", Rows.laid_internal_strconv_uint64pow10), ("unicode/utf8.acceptRanges", Rows.laid_unicode_utf8_acceptRanges), ("strconv.ErrRange", Rows.laid_strconv_ErrRange), ("strconv.ErrSyntax", Rows.laid_strconv_ErrSyntax), ("unicode/utf8.first", Rows.laid_unicode_utf8_first)] ((World.laidAll Tryz.prog os [("math/bits.deBruijn32tab", Rows.laid_math_bits_deBruijn32tab), ("math/bits.deBruijn64tab", Rows.laid_math_bits_deBruijn64tab), ("internal/strconv.uint64pow10", Rows.laid_internal_strconv_uint64pow10), ("unicode/utf8.acceptRanges", Rows.laid_unicode_utf8_acceptRanges), ("strconv.ErrRange", Rows.laid_strconv_ErrRange), ("strconv.ErrSyntax", Rows.laid_strconv_ErrSyntax), ("unicode/utf8.first", Rows.laid_unicode_utf8_first)]).forCall (fun _ _ => 0) ⟨#[], args, []⟩).memory := by
  rw [MakeChecks.laidMetH_plain _ _ _ (by kernel_rfl)]; exact laidMet_laidAll _ (by kernel_rfl) (by kernel_rfl)
set_option maxRecDepth 100000 in
theorem GQ (os : Os) (started : os.Started) (H : Type) (enc : TypeId × Value → H) :
    ReturnsInHanded {} Tryz.checked os 3 .any (fun w args => (Rows.setupTellsSpec.pre enc Tryz.prog Tryz.f3 [] false w args ∧ laidMetH Tryz.prog [("math/bits.deBruijn32tab", Rows.laid_math_bits_deBruijn32tab), ("math/bits.deBruijn64tab", Rows.laid_math_bits_deBruijn64tab), ("internal/strconv.uint64pow10", Rows.laid_internal_strconv_uint64pow10), ("unicode/utf8.acceptRanges", Rows.laid_unicode_utf8_acceptRanges), ("strconv.ErrRange", Rows.laid_strconv_ErrRange), ("strconv.ErrSyntax", Rows.laid_strconv_ErrSyntax), ("unicode/utf8.first", Rows.laid_unicode_utf8_first)] w) ∧ sizedMet enc Tryz.prog Tryz.f3 (OpenSpec.ofChange Rows.setupTellsSpec) false w args)
      (Rows.setupTellsSpec.post enc Tryz.prog Tryz.f3 false true false false) := by
  refine Ka (C := Tryz.checked) (X := fun w _ => laidMetH Tryz.prog [("math/bits.deBruijn32tab", Rows.laid_math_bits_deBruijn32tab), ("math/bits.deBruijn64tab", Rows.laid_math_bits_deBruijn64tab), ("internal/strconv.uint64pow10", Rows.laid_internal_strconv_uint64pow10), ("unicode/utf8.acceptRanges", Rows.laid_unicode_utf8_acceptRanges), ("strconv.ErrRange", Rows.laid_strconv_ErrRange), ("strconv.ErrSyntax", Rows.laid_strconv_ErrSyntax), ("unicode/utf8.first", Rows.laid_unicode_utf8_first)] w) (fun _ _ _ hh h => h.of_heap hh) own started (by kernel_rfl) Tryz.func3
    (ChangeSpec.witness_shaped (enc := enc) (C := Tryz.checked) (os := os) (X := fun w _ => laidMetH Tryz.prog [("math/bits.deBruijn32tab", Rows.laid_math_bits_deBruijn32tab), ("math/bits.deBruijn64tab", Rows.laid_math_bits_deBruijn64tab), ("internal/strconv.uint64pow10", Rows.laid_internal_strconv_uint64pow10), ("unicode/utf8.acceptRanges", Rows.laid_unicode_utf8_acceptRanges), ("strconv.ErrRange", Rows.laid_strconv_ErrRange), ("strconv.ErrSyntax", Rows.laid_strconv_ErrSyntax), ("unicode/utf8.first", Rows.laid_unicode_utf8_first)] w) false (World.laidAll Tryz.prog os [("math/bits.deBruijn32tab", Rows.laid_math_bits_deBruijn32tab), ("math/bits.deBruijn64tab", Rows.laid_math_bits_deBruijn64tab), ("internal/strconv.uint64pow10", Rows.laid_internal_strconv_uint64pow10), ("unicode/utf8.acceptRanges", Rows.laid_unicode_utf8_acceptRanges), ("strconv.ErrRange", Rows.laid_strconv_ErrRange), ("strconv.ErrSyntax", Rows.laid_strconv_ErrSyntax), ("unicode/utf8.first", Rows.laid_unicode_utf8_first)]) #[.agg #[.int .i64 0, .slice none 0 0, .slice none 0 0, .slice none 0 0, .slice none 0 0, .int .i64 0, .int .i64 0, .int .i64 0, .int .i64 0, .int .i64 0, .int .i64 0], .agg #[.int .i64 0, .slice none 0 0, .slice none 0 0, .slice none 0 0, .slice none 0 0, .int .i64 0, .int .i64 0, .int .i64 0, .int .i64 0, .int .i64 0, .int .i64 0], .string ByteArray.empty] 8 (World.laidAll_os _ _ _) (World.shaped_of_ZipB (by kernel_rfl) (by kernel_rfl)) (by kernel_rfl) (by kernel_rfl) (by kernel_rfl) (PJ os _)) ?_
  intro W base args ds gs before hval0 hW hcnd _ hL hsh
  have lm := OU hL rfl
  have hval : ∀ (j : Nat) t v, Tryz.f3.params[j]? = some t → args[j]? = some v → Value.okWide Tryz.prog W .any base t v := hval0
  have hW' := hW
  obtain ⟨p, q, hA0, hV, rfl, hfz, hnd⟩ := hW
  have hA : DataW.TrodAll enc Tryz.prog W 0 (fun _ => true) true Tryz.f3.params.toList args.toList ds p := hA0
  rw [Tryz.params3] at hA hval
  obtain ⟨v0, vs0, d0, ds0, p0, q0, hargs, rfl, rfl, h0, r0⟩ := trodAll_cons hA
  obtain ⟨v1, vs1, d1, ds1, p1, q1, rfl, rfl, rfl, h1, r1⟩ := trodAll_cons r0
  obtain ⟨v2, vs2, d2, ds2, p2, q2, rfl, rfl, rfl, h2, r2⟩ := trodAll_cons r1
  obtain ⟨rfl, rfl, rfl⟩ := trodAll_nil r2
  obtain rfl : args = #[v0, v1, v2] := by cases args; simp_all
  obtain ⟨rfl, rfl⟩ := trodVars_none hV
  have k0 := h0
  have lt0 : ∀ x ∈ p0, x.block < W.heap.size := by obtain ⟨m, hm⟩ := k0; exact DataW.trod_lt m _ _ _ hm
  have k1 := h1
  have lt1 : ∀ x ∈ p1, x.block < W.heap.size := by obtain ⟨m, hm⟩ := k1; exact DataW.trod_lt m _ _ _ hm
  have k2 := h2
  have lt2 : ∀ x ∈ p2, x.block < W.heap.size := by obtain ⟨m, hm⟩ := k2; exact DataW.trod_lt m _ _ _ hm
  obtain ⟨fu0, hf0⟩ := h0
  obtain ⟨a0, hr0, ok0⟩ := Tc _ _ _ _ _ _ _ _ hf0
  obtain ⟨cs0, rfl⟩ := Mt Tryz.underlying29 (hval 0 29 v0 rfl rfl)
  obtain ⟨ca0_1, cb0_1, e0, ha0_1, hb0_1⟩ := hr0
  obtain ⟨ca0_2, cb0_2, rfl, ha0_2, hb0_2⟩ := ha0_1
  obtain rfl := (Fl.int).to ha0_2
  obtain ⟨ca0_3, cb0_3, rfl, ha0_3, hb0_3⟩ := hb0_2
  obtain ⟨y0_4, rfl, s0_4⟩ := ha0_3
  obtain ⟨y0_5, rfl, s0_5⟩ := hb0_3
  obtain ⟨ca0_6, cb0_6, rfl, ha0_6, hb0_6⟩ := hb0_1
  obtain ⟨y0_7, rfl, s0_7⟩ := ha0_6
  obtain ⟨ca0_8, cb0_8, rfl, ha0_8, hb0_8⟩ := hb0_6
  obtain ⟨y0_9, rfl, s0_9⟩ := ha0_8
  obtain ⟨ca0_10, cb0_10, rfl, ha0_10, hb0_10⟩ := hb0_8
  obtain rfl := (Fl.int).to ha0_10
  obtain ⟨ca0_11, cb0_11, rfl, ha0_11, hb0_11⟩ := hb0_10
  obtain rfl := (Fl.int).to ha0_11
  obtain ⟨ca0_12, cb0_12, rfl, ha0_12, hb0_12⟩ := hb0_11
  obtain rfl := (Fl.int).to ha0_12
  obtain ⟨ca0_13, cb0_13, rfl, ha0_13, hb0_13⟩ := hb0_12
  obtain rfl := (Fl.int).to ha0_13
  obtain ⟨ca0_14, cb0_14, rfl, ha0_14, hb0_14⟩ := hb0_13
  obtain rfl := (Fl.int).to ha0_14
  obtain rfl := (Fl.int).to hb0_14
  obtain rfl := (show cs0 = (Value.agg cs0).cells.toList.toArray by simp [Value.cells]).trans (congrArg List.toArray e0)
  obtain ⟨fu1, hf1⟩ := h1
  obtain ⟨a1, hr1, ok1⟩ := Tc _ _ _ _ _ _ _ _ hf1
  obtain ⟨cs1, rfl⟩ := Mt Tryz.underlying29 (hval 1 29 v1 rfl rfl)
  obtain ⟨ca1_1, cb1_1, e1, ha1_1, hb1_1⟩ := hr1
  obtain ⟨ca1_2, cb1_2, rfl, ha1_2, hb1_2⟩ := ha1_1
  obtain rfl := (Fl.int).to ha1_2
  obtain ⟨ca1_3, cb1_3, rfl, ha1_3, hb1_3⟩ := hb1_2
  obtain ⟨y1_4, rfl, s1_4⟩ := ha1_3
  obtain ⟨y1_5, rfl, s1_5⟩ := hb1_3
  obtain ⟨ca1_6, cb1_6, rfl, ha1_6, hb1_6⟩ := hb1_1
  obtain ⟨y1_7, rfl, s1_7⟩ := ha1_6
  obtain ⟨ca1_8, cb1_8, rfl, ha1_8, hb1_8⟩ := hb1_6
  obtain ⟨y1_9, rfl, s1_9⟩ := ha1_8
  obtain ⟨ca1_10, cb1_10, rfl, ha1_10, hb1_10⟩ := hb1_8
  obtain rfl := (Fl.int).to ha1_10
  obtain ⟨ca1_11, cb1_11, rfl, ha1_11, hb1_11⟩ := hb1_10
  obtain rfl := (Fl.int).to ha1_11
  obtain ⟨ca1_12, cb1_12, rfl, ha1_12, hb1_12⟩ := hb1_11
  obtain rfl := (Fl.int).to ha1_12
  obtain ⟨ca1_13, cb1_13, rfl, ha1_13, hb1_13⟩ := hb1_12
  obtain rfl := (Fl.int).to ha1_13
  obtain ⟨ca1_14, cb1_14, rfl, ha1_14, hb1_14⟩ := hb1_13
  obtain rfl := (Fl.int).to ha1_14
  obtain rfl := (Fl.int).to hb1_14
  obtain rfl := (show cs1 = (Value.agg cs1).cells.toList.toArray by simp [Value.cells]).trans (congrArg List.toArray e1)
  obtain ⟨fu2, hf2⟩ := h2
  obtain ⟨a2, hr2, ok2⟩ := (BT.str Tryz.underlying9) _ _ _ _ _ _ _ _ hf2
  rw [OB Tryz.underlying9 rfl (hval 2 9 v2 rfl rfl)] at hr2
  obtain rfl := (List.cons.inj hr2).1
  clear hA0 hval0
  have hG : Gk [] W := ⟨⟨J5 (g := 3) (Dh (Dh lm)) (by kernel_rfl) (by kernel_rfl) Tryz.underlying134 Tryz.underlying41 (by kernel_rfl) (by kernel_rfl), Kb (g := 1) (Dh (Dh (Dh (Dh (Dh lm))))) (by kernel_rfl) (by kernel_rfl) Tryz.underlying67, Kb (g := 2) (Dh (Dh (Dh (Dh lm)))) (by kernel_rfl) (by kernel_rfl) Tryz.underlying67, cell_of_shapedOpen_int (zero := #[.int .i64 0]) (t := 3) hsh (of_decide_eq_true (by kernel_rfl)) (by kernel_rfl) rfl (by kernel_rfl) (by kernel_rfl) Tryz.underlying3, J5 (g := 5) (Dh lm) (by kernel_rfl) (by kernel_rfl) Tryz.underlying147 Tryz.underlying5 (by kernel_rfl) (by kernel_rfl)⟩, fun g hg hm => by cases hm⟩
  refine (IR any W y0_4 y0_5 y0_7 y0_9 y1_4 y1_5 y1_7 y1_9 a0 a1 a2 true (Jm a0 ok0 a1 ok1 a2 ok2) s0_4.nx s0_5.nx s0_7.nx s0_9.nx s1_4.nx s1_5.nx s1_7.nx s1_9.nx hG).mono fun e W' ⟨he, bel⟩ => ?_
  subst he
  exact ⟨_, rfl, _, _, _, [], _, [], hW', trodAll_mk1 (shut_bool Tryz.underlying4 _), (trodAll_cons_mk (Below.trod Lr (by kernel_rfl) (of_decide_eq_true (by kernel_rfl)) k0 bel lt0) (trodAll_cons_mk (Below.trod Lr (by kernel_rfl) (of_decide_eq_true (by kernel_rfl)) k1 bel lt1) (trodAll_cons_mk (Below.trod Lr (by kernel_rfl) (of_decide_eq_true (by kernel_rfl)) k2 bel lt2) trodAll_mk0))), rfl, bel.frame _, fun h => by cases h⟩
theorem over : Rows.setupTellsRow.holds Tryz.pinned (OpenSpec.ofChange Rows.setupTellsSpec) :=
  OpenClaim.holds_of_wide 3 Tryz.f3 rfl rfl rfl rfl rfl rfl rfl ⟨rfl, rfl, rfl, rfl, rfl⟩ rfl rfl rfl rfl rfl (by kernel_rfl) Tryz.func3 (by kernel_rfl)
    (of_decide_eq_true (by kernel_rfl)) (by unfold Func.isWrapper; first | (rw [if_pos (by decide +kernel)]; kernel_rfl) | (rw [if_neg (by decide +kernel)]; exact ⟨rfl, rfl⟩))
    (fun os started H enc _ => GQ os started H enc)
end RowSetupTells
theorem II : Rows.SetupTellsSaid := RowSetupTells.over
theorem setupTellsCard_holds : Rows.SetupTellsCardSaid :=
  Claim7.holds_tied_plain_at .later [] [.data, .data, .data, .data, .sentinel, .sentinel, .pinned] true (true, "fad2f76c236b4f32c55e89fdb2e96502f7d2d2d0b359fdd280db88680dd45922") true
    II (fun _ h => by cases h) (by kernel_rfl) (fun _ h => by cases h) HX rfl ⟨rfl, rfl⟩ (by kernel_rfl) rfl
    (fun f fn hf hfn => by
      obtain rfl : f = 3 := Option.some.inj ((show Tryz.prog.funcNamed "turnout/turnoutlaw40.SetupTells" = some 3 by kernel_rfl).symm.trans hf) |>.symm
      obtain rfl : fn = Tryz.f3 := (Option.some.inj (Tryz.func3.symm.trans hfn)).symm
      exact ⟨by kernel_rfl, fun j t ht => by
        rw [Tryz.params3] at ht
        have hm : t ∈ [29, 29, 9] := by simpa using Array.mem_of_getElem? ht
        have hall : ([29, 29, 9].all fun u => !Tryz.prog.wantsStandIn u) = true := by kernel_rfl
        exact (show Tryz.prog.wantsStandIn t = false by simpa using List.all_eq_true.1 hall t hm)⟩)
    (by kernel_rfl)
end Go.Proofs.YthmkgdnnocemmaaGreatDoor
