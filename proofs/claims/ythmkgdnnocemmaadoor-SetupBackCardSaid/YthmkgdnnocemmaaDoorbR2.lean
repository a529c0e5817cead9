/- The statements of layer 40. Conditions: none. -/
import Derived.Test.YthmkgdnnocemmaaDoorbM40E
import Derived.Test.YthmkgdnnocemmaaDoorbOA
import Derived.ProofKit
import Derived.OpenShut
import Derived.Carry
import Derived.Lib.SmallJoins
import Derived.Test.YthmkgdnnocemmaaDoorbTie
import Derived.Test.YthmkgdnnocemmaaDoorbCards
import Derived.SevenTiedAt
import Derived.Stop.Joined
import Derived.LaidMore
import Derived.MakeChecks
import Derived.Lay
namespace Go.Proofs.YthmkgdnnocemmaaDoor
open Go Go.RowKit
set_option linter.unusedVariables false
set_option linter.unusedSimpArgs false
set_option maxRecDepth 20000
theorem Qo : BN Tryd.prog 41 Bn (F2 (fun n => (Lit.int .i64 n).wf = true) (F2 (fun n => (Lit.int .i64 n).wf = true) (F2 (fun n => (Lit.int .i64 n).wf = true) (F2 (fun n => (Lit.int .i64 n).wf = true) (F2 (fun n => (Lit.int .i64 n).wf = true) (fun n => (Lit.int .i64 n).wf = true)))))) := BN.struct Tryd.underlying41 (by kernel_rfl) (B6.cons (by rfl) (by kernel_rfl) (BN.int Tryd.underlying3) (B6.cons (by rfl) (by kernel_rfl) (BN.int Tryd.underlying3) (B6.cons (by rfl) (by kernel_rfl) (BN.int Tryd.underlying3) (B6.cons (by rfl) (by kernel_rfl) (BN.int Tryd.underlying3) (B6.cons (by rfl) (by kernel_rfl) (BN.int Tryd.underlying3) (B6.one (by rfl) (by kernel_rfl) (BN.int Tryd.underlying3)))))))
theorem QF : BN Tryd.prog 22 (Rp.slice Bn) (KJ (F2 (fun n => (Lit.int .i64 n).wf = true) (F2 (fun n => (Lit.int .i64 n).wf = true) (F2 (fun n => (Lit.int .i64 n).wf = true) (F2 (fun n => (Lit.int .i64 n).wf = true) (F2 (fun n => (Lit.int .i64 n).wf = true) (fun n => (Lit.int .i64 n).wf = true))))))) := BN.slice Tryd.underlying22 (by kernel_rfl) (by decide) Qo
theorem QV : BN Tryd.prog 43 Br (F2 (fun n => (Lit.int .i64 n).wf = true) (fun n => (Lit.int .i64 n).wf = true)) := BN.struct Tryd.underlying43 (by kernel_rfl) (B6.cons (by rfl) (by kernel_rfl) (BN.int Tryd.underlying3) (B6.one (by rfl) (by kernel_rfl) (BN.int Tryd.underlying3)))
theorem QD : BN Tryd.prog 23 (Rp.slice Br) (KJ (F2 (fun n => (Lit.int .i64 n).wf = true) (fun n => (Lit.int .i64 n).wf = true))) := BN.slice Tryd.underlying23 (by kernel_rfl) (by decide) QV
abbrev P7 : Rp (Int × (List (Int × Int × Int × Int × Int × Int)) × (List (Int × Int))) := (Rp.pair (Rp.int .i64) (Rp.pair (Rp.slice Bn) (Rp.slice Br)))
theorem QN : BN Tryd.prog 25 P7 (F2 (fun n => (Lit.int .i64 n).wf = true) (F2 (KJ (F2 (fun n => (Lit.int .i64 n).wf = true) (F2 (fun n => (Lit.int .i64 n).wf = true) (F2 (fun n => (Lit.int .i64 n).wf = true) (F2 (fun n => (Lit.int .i64 n).wf = true) (F2 (fun n => (Lit.int .i64 n).wf = true) (fun n => (Lit.int .i64 n).wf = true))))))) (KJ (F2 (fun n => (Lit.int .i64 n).wf = true) (fun n => (Lit.int .i64 n).wf = true))))) := BN.struct Tryd.underlying25 (by kernel_rfl) (B6.cons (by rfl) (by kernel_rfl) (BN.int Tryd.underlying3) (B6.cons (by rfl) (by kernel_rfl) QF (B6.one (by rfl) (by kernel_rfl) QD)))
theorem QY : BN Tryd.prog 39 (Rp.slice (Rp.int .u64)) (KJ (fun n => (Lit.int .u64 n).wf = true)) := BN.slice Tryd.underlying39 (by kernel_rfl) (by decide) (BN.int Tryd.underlying45)
theorem QC : BN Tryd.prog 26 (Rp.slice (Rp.slice (Rp.int .u64))) (KJ (KJ (fun n => (Lit.int .u64 n).wf = true))) := BN.slice Tryd.underlying26 (by kernel_rfl) (by decide) QY
theorem Qr : BN Tryd.prog 27 (Rp.slice (Rp.int .i64)) (KJ (fun n => (Lit.int .i64 n).wf = true)) := BN.slice Tryd.underlying27 (by kernel_rfl) (by decide) (BN.int Tryd.underlying3)
abbrev Q4 : Rp ((Int × (List (Int × Int × Int × Int × Int × Int)) × (List (Int × Int))) × List (List Int) × List Int × Int × Int × Int × Int × Int × Int) := (Rp.pair P7 (Rp.pair (Rp.slice (Rp.slice (Rp.int .u64))) (Rp.pair (Rp.slice (Rp.int .i64)) (Rp.pair (Rp.int .i64) (Rp.pair (Rp.int .i64) (Rp.pair (Rp.int .i64) (Rp.pair (Rp.int .i64) (Rp.pair (Rp.int .i64) (Rp.int .i64)))))))))
theorem QA : BN Tryd.prog 29 Q4 (F2 (F2 (fun n => (Lit.int .i64 n).wf = true) (F2 (KJ (F2 (fun n => (Lit.int .i64 n).wf = true) (F2 (fun n => (Lit.int .i64 n).wf = true) (F2 (fun n => (Lit.int .i64 n).wf = true) (F2 (fun n => (Lit.int .i64 n).wf = true) (F2 (fun n => (Lit.int .i64 n).wf = true) (fun n => (Lit.int .i64 n).wf = true))))))) (KJ (F2 (fun n => (Lit.int .i64 n).wf = true) (fun n => (Lit.int .i64 n).wf = true))))) (F2 (KJ (KJ (fun n => (Lit.int .u64 n).wf = true))) (F2 (KJ (fun n => (Lit.int .i64 n).wf = true)) (F2 (fun n => (Lit.int .i64 n).wf = true) (F2 (fun n => (Lit.int .i64 n).wf = true) (F2 (fun n => (Lit.int .i64 n).wf = true) (F2 (fun n => (Lit.int .i64 n).wf = true) (F2 (fun n => (Lit.int .i64 n).wf = true) (fun n => (Lit.int .i64 n).wf = true))))))))) := BN.struct Tryd.underlying29 (by kernel_rfl) (B6.cons (by rfl) (by kernel_rfl) QN (B6.cons (by rfl) (by kernel_rfl) QC (B6.cons (by rfl) (by kernel_rfl) Qr (B6.cons (by rfl) (by kernel_rfl) (BN.int Tryd.underlying3) (B6.cons (by rfl) (by kernel_rfl) (BN.int Tryd.underlying3) (B6.cons (by rfl) (by kernel_rfl) (BN.int Tryd.underlying3) (B6.cons (by rfl) (by kernel_rfl) (BN.int Tryd.underlying3) (B6.cons (by rfl) (by kernel_rfl) (BN.int Tryd.underlying3) (B6.one (by rfl) (by kernel_rfl) (BN.int Tryd.underlying3))))))))))
namespace RowSetupBack
open Go.ChangeShapes Go.WideShapes Go.ChangeAt Go.RowKit Go.Joins
open Go.ChangeMaps (open_string shut_string)
theorem own : ownKnob Tryd.prog.godebug = none := by kernel_rfl
theorem LI : laidOutB Tryd.prog = true := by kernel_rfl
theorem Na (os : Os) (args : Array Value) : laidMetH Tryd.prog [("math/bits.deBruijn32tab", Rows.laid_math_bits_deBruijn32tab), ("math/bits.deBruijn64tab", Rows.laid_math_bits_deBruijn64tab), ("internal/strconv.uint64pow10", Rows.laid_internal_strconv_uint64pow10), ("unicode/utf8.acceptRanges", Rows.laid_unicode_utf8_acceptRanges), ("strconv.ErrRange", Rows.laid_strconv_ErrRange), ("strconv.ErrSyntax", Rows.laid_strconv_ErrSyntax), ("unicode/utf8.first", Rows.laid_unicode_utf8_first)] ((World.laidAll Tryd.prog os [("math/bits.deBruijn32tab", Rows.laid_math_bits_deBruijn32tab), ("math/bits.deBruijn64tab", Rows.laid_math_bits_deBruijn64tab), ("internal/strconv.uint64pow10", Rows.laid_internal_strconv_uint64pow10), ("unicode/utf8.acceptRanges", Rows.laid_unicode_utf8_acceptRanges), ("strconv.ErrRange", Rows.laid_strconv_ErrRange), ("strconv.ErrSyntax", Rows.laid_strconv_ErrSyntax), ("unicode/utf8.first", Rows.laid_unicode_utf8_first)]).forCall (fun _ _ => 0) ⟨#[], args, []⟩).memory := by
  rw [MakeChecks.laidMetH_plain _ _ _ (by kernel_rfl)]; exact laidMet_laidAll _ (by kernel_rfl) (by kernel_rfl)
set_option maxRecDepth 100000 in
theorem Gi (os : Os) (started : os.Started) (H : Type) (enc : TypeId × Value → H) :
    ReturnsInHanded {} Tryd.checked os 3 .any (fun w args => (Rows.setupBackSpec.pre enc Tryd.prog Tryd.f3 [] false w args ∧ laidMetH Tryd.prog [("math/bits.deBruijn32tab", Rows.laid_math_bits_deBruijn32tab), ("math/bits.deBruijn64tab", Rows.laid_math_bits_deBruijn64tab), ("internal/strconv.uint64pow10", Rows.laid_internal_strconv_uint64pow10), ("unicode/utf8.acceptRanges", Rows.laid_unicode_utf8_acceptRanges), ("strconv.ErrRange", Rows.laid_strconv_ErrRange), ("strconv.ErrSyntax", Rows.laid_strconv_ErrSyntax), ("unicode/utf8.first", Rows.laid_unicode_utf8_first)] w) ∧ sizedMet enc Tryd.prog Tryd.f3 (OpenSpec.ofChange Rows.setupBackSpec) false w args)
      (Rows.setupBackSpec.post enc Tryd.prog Tryd.f3 false true false false) := by
  refine Je (C := Tryd.checked) (X := fun w _ => laidMetH Tryd.prog [("math/bits.deBruijn32tab", Rows.laid_math_bits_deBruijn32tab), ("math/bits.deBruijn64tab", Rows.laid_math_bits_deBruijn64tab), ("internal/strconv.uint64pow10", Rows.laid_internal_strconv_uint64pow10), ("unicode/utf8.acceptRanges", Rows.laid_unicode_utf8_acceptRanges), ("strconv.ErrRange", Rows.laid_strconv_ErrRange), ("strconv.ErrSyntax", Rows.laid_strconv_ErrSyntax), ("unicode/utf8.first", Rows.laid_unicode_utf8_first)] w) (fun _ _ _ hh h => h.of_heap hh) own started (by kernel_rfl) Tryd.func3
    (ChangeSpec.witness_shaped (enc := enc) (C := Tryd.checked) (os := os) (X := fun w _ => laidMetH Tryd.prog [("math/bits.deBruijn32tab", Rows.laid_math_bits_deBruijn32tab), ("math/bits.deBruijn64tab", Rows.laid_math_bits_deBruijn64tab), ("internal/strconv.uint64pow10", Rows.laid_internal_strconv_uint64pow10), ("unicode/utf8.acceptRanges", Rows.laid_unicode_utf8_acceptRanges), ("strconv.ErrRange", Rows.laid_strconv_ErrRange), ("strconv.ErrSyntax", Rows.laid_strconv_ErrSyntax), ("unicode/utf8.first", Rows.laid_unicode_utf8_first)] w) false (World.laidAll Tryd.prog os [("math/bits.deBruijn32tab", Rows.laid_math_bits_deBruijn32tab), ("math/bits.deBruijn64tab", Rows.laid_math_bits_deBruijn64tab), ("internal/strconv.uint64pow10", Rows.laid_internal_strconv_uint64pow10), ("unicode/utf8.acceptRanges", Rows.laid_unicode_utf8_acceptRanges), ("strconv.ErrRange", Rows.laid_strconv_ErrRange), ("strconv.ErrSyntax", Rows.laid_strconv_ErrSyntax), ("unicode/utf8.first", Rows.laid_unicode_utf8_first)]) #[.agg #[.int .i64 0, .slice none 0 0, .slice none 0 0, .slice none 0 0, .slice none 0 0, .int .i64 0, .int .i64 0, .int .i64 0, .int .i64 0, .int .i64 0, .int .i64 0], .string ByteArray.empty] 8 (World.laidAll_os _ _ _) (World.shaped_of_ZipB (by kernel_rfl) (by kernel_rfl)) (by kernel_rfl) (by kernel_rfl) (by kernel_rfl) (Na os _)) ?_
  intro W base args ds gs before hval0 hW hcnd _ hL hsh
  have lm := Mx hL rfl
  have hval : ∀ (j : Nat) t v, Tryd.f3.params[j]? = some t → args[j]? = some v → Value.okWide Tryd.prog W .any base t v := hval0
  have hW' := hW
  obtain ⟨p, q, hA0, hV, rfl, hfz, hnd⟩ := hW
  have hA : DataW.TrodAll enc Tryd.prog W 0 (fun _ => true) true Tryd.f3.params.toList args.toList ds p := hA0
  rw [Tryd.params3] at hA hval
  obtain ⟨v0, vs0, d0, ds0, p0, q0, hargs, rfl, rfl, h0, r0⟩ := trodAll_cons hA
  obtain ⟨v1, vs1, d1, ds1, p1, q1, rfl, rfl, rfl, h1, r1⟩ := trodAll_cons r0
  obtain ⟨rfl, rfl, rfl⟩ := trodAll_nil r1
  obtain rfl : args = #[v0, v1] := by cases args; simp_all
  obtain ⟨rfl, rfl⟩ := trodVars_none hV
  have k0 := h0
  have lt0 : ∀ x ∈ p0, x.block < W.heap.size := by obtain ⟨m, hm⟩ := k0; exact DataW.trod_lt m _ _ _ hm
  have k1 := h1
  have lt1 : ∀ x ∈ p1, x.block < W.heap.size := by obtain ⟨m, hm⟩ := k1; exact DataW.trod_lt m _ _ _ hm
  obtain ⟨fu0, hf0⟩ := h0
  obtain ⟨a0, hr0, ok0⟩ := QA _ _ _ _ _ _ _ _ hf0
  obtain ⟨cs0, rfl⟩ := Nb Tryd.underlying29 (hval 0 29 v0 rfl rfl)
  obtain ⟨ca0_1, cb0_1, e0, ha0_1, hb0_1⟩ := hr0
  obtain ⟨ca0_2, cb0_2, rfl, ha0_2, hb0_2⟩ := ha0_1
  obtain rfl := (Fl.int).to ha0_2
  obtain ⟨ca0_3, cb0_3, rfl, ha0_3, hb0_3⟩ := hb0_2
  obtain ⟨y0_4, rfl, s0_4⟩ := ha0_3
  obtain ⟨y0_5, rfl, s0_5⟩ := hb0_3
  obtain ⟨ca0_6, cb0_6, rfl, ha0_6, hb0_6⟩ := hb0_1
  obtain ⟨y0_7, rfl, s0_7⟩ := ha0_6
  obtain ⟨ca0_8, cb0_8, rfl, ha0_8, hb0_8⟩ := hb0_6
  obtain ⟨y0_9, rfl, s0_9⟩ := ha0_8
  obtain ⟨ca0_10, cb0_10, rfl, ha0_10, hb0_10⟩ := hb0_8
  obtain rfl := (Fl.int).to ha0_10
  obtain ⟨ca0_11, cb0_11, rfl, ha0_11, hb0_11⟩ := hb0_10
  obtain rfl := (Fl.int).to ha0_11
  obtain ⟨ca0_12, cb0_12, rfl, ha0_12, hb0_12⟩ := hb0_11
  obtain rfl := (Fl.int).to ha0_12
  obtain ⟨ca0_13, cb0_13, rfl, ha0_13, hb0_13⟩ := hb0_12
  obtain rfl := (Fl.int).to ha0_13
  obtain ⟨ca0_14, cb0_14, rfl, ha0_14, hb0_14⟩ := hb0_13
  obtain rfl := (Fl.int).to ha0_14
  obtain rfl := (Fl.int).to hb0_14
  obtain rfl := (show cs0 = (Value.agg cs0).cells.toList.toArray by simp [Value.cells]).trans (congrArg List.toArray e0)
  obtain ⟨fu1, hf1⟩ := h1
  obtain ⟨a1, hr1, ok1⟩ := (BN.str Tryd.underlying9) _ _ _ _ _ _ _ _ hf1
  rw [M3 Tryd.underlying9 rfl (hval 1 9 v1 rfl rfl)] at hr1
  obtain rfl := (List.cons.inj hr1).1
  clear hA0 hval0
  have hG : Gk [] W := ⟨⟨IY (g := 0) (C5 (C5 lm)) (by kernel_rfl) (by kernel_rfl) Tryd.underlying115 Tryd.underlying45 (by kernel_rfl) (by kernel_rfl), IR (g := 2) (C5 (C5 (C5 (C5 (C5 lm))))) (by kernel_rfl) (by kernel_rfl) Tryd.underlying51, IR (g := 3) (C5 (C5 (C5 (C5 lm)))) (by kernel_rfl) (by kernel_rfl) Tryd.underlying51, cell_of_shapedOpen_int (zero := #[.int .i64 0]) (t := 3) hsh (of_decide_eq_true (by kernel_rfl)) (by kernel_rfl) rfl (by kernel_rfl) (by kernel_rfl) Tryd.underlying3, IY (g := 5) (C5 lm) (by kernel_rfl) (by kernel_rfl) Tryd.underlying133 Tryd.underlying5 (by kernel_rfl) (by kernel_rfl)⟩, fun g hg hm => by cases hm⟩
  refine (Ic any W y0_4 y0_5 y0_7 y0_9 a0 a1 true (Ji a0 ok0 a1 ok1) s0_4.nx s0_5.nx s0_7.nx s0_9.nx hG).mono fun e W' ⟨he, bel⟩ => ?_
  subst he
  exact ⟨_, rfl, _, _, _, [], _, [], hW', trodAll_mk1 (shut_bool Tryd.underlying4 _), (trodAll_cons_mk (Below.trod LI (by kernel_rfl) (of_decide_eq_true (by kernel_rfl)) k0 bel lt0) (trodAll_cons_mk (Below.trod LI (by kernel_rfl) (of_decide_eq_true (by kernel_rfl)) k1 bel lt1) trodAll_mk0)), rfl, bel.frame _, fun h => by cases h⟩
theorem over : Rows.setupBackRow.holds Tryd.pinned (OpenSpec.ofChange Rows.setupBackSpec) :=
  OpenClaim.holds_of_wide 3 Tryd.f3 rfl rfl rfl rfl rfl rfl rfl ⟨rfl, rfl, rfl, rfl, rfl⟩ rfl rfl rfl rfl rfl (by kernel_rfl) Tryd.func3 (by kernel_rfl)
    (of_decide_eq_true (by kernel_rfl)) (by unfold Func.isWrapper; first | (rw [if_pos (by decide +kernel)]; kernel_rfl) | (rw [if_neg (by decide +kernel)]; exact ⟨rfl, rfl⟩))
    (fun os started H enc _ => Gi os started H enc)
end RowSetupBack
theorem H3 : Rows.SetupBackSaid := RowSetupBack.over
theorem setupBackCard_holds : Rows.SetupBackCardSaid :=
  Claim7.holds_tied_plain_at .later [] [.data, .data, .data, .data, .sentinel, .sentinel, .pinned] true (true, "c5b5cb05d51142a2fdc198104a400dea975f3c36e7f0d7cf0ac1c6f790b11387") true
    H3 (fun _ h => by cases h) (by kernel_rfl) (fun _ h => by cases h) Hc rfl ⟨rfl, rfl⟩ (by kernel_rfl) rfl
    (fun f fn hf hfn => by
      obtain rfl : f = 3 := Option.some.inj ((show Tryd.prog.funcNamed "turnout/turnoutlaw40.SetupBack" = some 3 by kernel_rfl).symm.trans hf) |>.symm
      obtain rfl : fn = Tryd.f3 := (Option.some.inj (Tryd.func3.symm.trans hfn)).symm
      exact ⟨by kernel_rfl, fun j t ht => by
        rw [Tryd.params3] at ht
        have hm : t ∈ [29, 9] := by simpa using Array.mem_of_getElem? ht
        have hall : ([29, 9].all fun u => !Tryd.prog.wantsStandIn u) = true := by kernel_rfl
        exact (show Tryd.prog.wantsStandIn t = false by simpa using List.all_eq_true.1 hall t hm)⟩)
    (by kernel_rfl)
end Go.Proofs.YthmkgdnnocemmaaDoor
