/- The statements of layer 16. Conditions: none. -/
import Derived.Test.YtnlllglfmipllaaM16B
import Derived.Test.YtnlllglfmipllaaOA
import Derived.ProofKit
import Derived.OpenShut
import Derived.Carry
import Derived.Lib.SmallJoins
namespace Go.Proofs.Ytnlllglfmipllaa
open Go Go.RowKit
set_option linter.unusedVariables false
set_option linter.unusedSimpArgs false
set_option maxRecDepth 20000
theorem P35 : Opens Try.prog 35 R35 (okP (fun n => (Lit.int .i64 n).wf = true) (okP (fun n => (Lit.int .i64 n).wf = true) (okP (fun n => (Lit.int .i64 n).wf = true) (fun n => (Lit.int .i64 n).wf = true)))) := Opens.array Try.underlying35 (by kernel_rfl) (OpensAs.cons (by kernel_rfl) (by decide) (Opens.int Try.underlying3) (OpensAs.cons (by kernel_rfl) (by decide) (Opens.int Try.underlying3) (OpensAs.cons (by kernel_rfl) (by decide) (Opens.int Try.underlying3) (OpensAs.one (by kernel_rfl) (Opens.int Try.underlying3)))))
theorem P37 : Opens Try.prog 37 R37 (okP (fun n => (Lit.int .i64 n).wf = true) (okP (okP (fun n => (Lit.int .i64 n).wf = true) (okP (fun n => (Lit.int .i64 n).wf = true) (okP (fun n => (Lit.int .i64 n).wf = true) (fun n => (Lit.int .i64 n).wf = true)))) (okP (fun n => (Lit.int .i64 n).wf = true) (okP (fun n => (Lit.int .i64 n).wf = true) (okP (fun n => (Lit.int .i64 n).wf = true) (fun n => (Lit.int .i64 n).wf = true)))))) := Opens.struct Try.underlying37 (by kernel_rfl) (OpensFs.cons (by rfl) (by kernel_rfl) (Opens.int Try.underlying3) (OpensFs.cons (by rfl) (by kernel_rfl) P35 (OpensFs.one (by rfl) (by kernel_rfl) P35)))
theorem P77 : Opens Try.prog 77 R77 (okP (fun n => (Lit.int .i64 n).wf = true) (okP (fun n => (Lit.int .i64 n).wf = true) (fun n => (Lit.int .i64 n).wf = true))) := Opens.struct Try.underlying77 (by kernel_rfl) (OpensFs.cons (by rfl) (by kernel_rfl) (Opens.int Try.underlying3) (OpensFs.cons (by rfl) (by kernel_rfl) (Opens.int Try.underlying3) (OpensFs.one (by rfl) (by kernel_rfl) (Opens.int Try.underlying3))))
theorem P38 : Opens Try.prog 38 (Rp.slice R77) (okL (okP (fun n => (Lit.int .i64 n).wf = true) (okP (fun n => (Lit.int .i64 n).wf = true) (fun n => (Lit.int .i64 n).wf = true)))) := Opens.slice Try.underlying38 (by kernel_rfl) (by decide) P77
theorem P40 : Opens Try.prog 40 R40 (okP (fun n => (Lit.int .i64 n).wf = true) (okP (okP (fun n => (Lit.int .i64 n).wf = true) (okP (okP (fun n => (Lit.int .i64 n).wf = true) (okP (fun n => (Lit.int .i64 n).wf = true) (okP (fun n => (Lit.int .i64 n).wf = true) (fun n => (Lit.int .i64 n).wf = true)))) (okP (fun n => (Lit.int .i64 n).wf = true) (okP (fun n => (Lit.int .i64 n).wf = true) (okP (fun n => (Lit.int .i64 n).wf = true) (fun n => (Lit.int .i64 n).wf = true)))))) (okL (okP (fun n => (Lit.int .i64 n).wf = true) (okP (fun n => (Lit.int .i64 n).wf = true) (fun n => (Lit.int .i64 n).wf = true)))))) := Opens.struct Try.underlying40 (by kernel_rfl) (OpensFs.cons (by rfl) (by kernel_rfl) (Opens.int Try.underlying3) (OpensFs.cons (by rfl) (by kernel_rfl) P37 (OpensFs.one (by rfl) (by kernel_rfl) P38)))
theorem P42 : Opens Try.prog 42 R42 (okP (fun n => (Lit.int .i64 n).wf = true) (okP (okP (fun n => (Lit.int .i64 n).wf = true) (okP (okP (fun n => (Lit.int .i64 n).wf = true) (okP (okP (fun n => (Lit.int .i64 n).wf = true) (okP (fun n => (Lit.int .i64 n).wf = true) (okP (fun n => (Lit.int .i64 n).wf = true) (fun n => (Lit.int .i64 n).wf = true)))) (okP (fun n => (Lit.int .i64 n).wf = true) (okP (fun n => (Lit.int .i64 n).wf = true) (okP (fun n => (Lit.int .i64 n).wf = true) (fun n => (Lit.int .i64 n).wf = true)))))) (okL (okP (fun n => (Lit.int .i64 n).wf = true) (okP (fun n => (Lit.int .i64 n).wf = true) (fun n => (Lit.int .i64 n).wf = true)))))) okT)) := Opens.struct Try.underlying42 (by kernel_rfl) (OpensFs.cons (by rfl) (by kernel_rfl) (Opens.int Try.underlying3) (OpensFs.cons (by rfl) (by kernel_rfl) P40 (OpensFs.one (by rfl) (by kernel_rfl) (Opens.bool Try.underlying4))))
theorem P22 : Opens Try.prog 22 (Rp.slice R42) (okL (okP (fun n => (Lit.int .i64 n).wf = true) (okP (okP (fun n => (Lit.int .i64 n).wf = true) (okP (okP (fun n => (Lit.int .i64 n).wf = true) (okP (okP (fun n => (Lit.int .i64 n).wf = true) (okP (fun n => (Lit.int .i64 n).wf = true) (okP (fun n => (Lit.int .i64 n).wf = true) (fun n => (Lit.int .i64 n).wf = true)))) (okP (fun n => (Lit.int .i64 n).wf = true) (okP (fun n => (Lit.int .i64 n).wf = true) (okP (fun n => (Lit.int .i64 n).wf = true) (fun n => (Lit.int .i64 n).wf = true)))))) (okL (okP (fun n => (Lit.int .i64 n).wf = true) (okP (fun n => (Lit.int .i64 n).wf = true) (fun n => (Lit.int .i64 n).wf = true)))))) okT))) := Opens.slice Try.underlying22 (by kernel_rfl) (by decide) P42
abbrev R24 : Rp (Int × Int × Int × Int × Int × Int × Int × Int × Int × (List (Int × (Int × (Int × (Int × Int × Int × Int) × (Int × Int × Int × Int)) × (List (Int × Int × Int))) × Bool))) := (Rp.pair (Rp.int .i64) (Rp.pair (Rp.int .i64) (Rp.pair (Rp.int .i64) (Rp.pair (Rp.int .i64) (Rp.pair (Rp.int .i64) (Rp.pair (Rp.int .i64) (Rp.pair (Rp.int .i64) (Rp.pair (Rp.int .i64) (Rp.pair (Rp.int .i64) (Rp.slice R42))))))))))
theorem P24 : Opens Try.prog 24 R24 (okP (fun n => (Lit.int .i64 n).wf = true) (okP (fun n => (Lit.int .i64 n).wf = true) (okP (fun n => (Lit.int .i64 n).wf = true) (okP (fun n => (Lit.int .i64 n).wf = true) (okP (fun n => (Lit.int .i64 n).wf = true) (okP (fun n => (Lit.int .i64 n).wf = true) (okP (fun n => (Lit.int .i64 n).wf = true) (okP (fun n => (Lit.int .i64 n).wf = true) (okP (fun n => (Lit.int .i64 n).wf = true) (okL (okP (fun n => (Lit.int .i64 n).wf = true) (okP (okP (fun n => (Lit.int .i64 n).wf = true) (okP (okP (fun n => (Lit.int .i64 n).wf = true) (okP (okP (fun n => (Lit.int .i64 n).wf = true) (okP (fun n => (Lit.int .i64 n).wf = true) (okP (fun n => (Lit.int .i64 n).wf = true) (fun n => (Lit.int .i64 n).wf = true)))) (okP (fun n => (Lit.int .i64 n).wf = true) (okP (fun n => (Lit.int .i64 n).wf = true) (okP (fun n => (Lit.int .i64 n).wf = true) (fun n => (Lit.int .i64 n).wf = true)))))) (okL (okP (fun n => (Lit.int .i64 n).wf = true) (okP (fun n => (Lit.int .i64 n).wf = true) (fun n => (Lit.int .i64 n).wf = true)))))) okT)))))))))))) := Opens.struct Try.underlying24 (by kernel_rfl) (OpensFs.cons (by rfl) (by kernel_rfl) (Opens.int Try.underlying3) (OpensFs.cons (by rfl) (by kernel_rfl) (Opens.int Try.underlying3) (OpensFs.cons (by rfl) (by kernel_rfl) (Opens.int Try.underlying3) (OpensFs.cons (by rfl) (by kernel_rfl) (Opens.int Try.underlying3) (OpensFs.cons (by rfl) (by kernel_rfl) (Opens.int Try.underlying3) (OpensFs.cons (by rfl) (by kernel_rfl) (Opens.int Try.underlying3) (OpensFs.cons (by rfl) (by kernel_rfl) (Opens.int Try.underlying3) (OpensFs.cons (by rfl) (by kernel_rfl) (Opens.int Try.underlying3) (OpensFs.cons (by rfl) (by kernel_rfl) (Opens.int Try.underlying3) (OpensFs.one (by rfl) (by kernel_rfl) P22))))))))))
namespace RowProtoBack
open Go.ChangeShapes Go.WideShapes Go.ChangeAt Go.RowKit Go.Joins
open Go.ChangeMaps (open_string shut_string)
theorem own : ownKnob Try.prog.godebug = none := by kernel_rfl
theorem laidOut : laidOutB Try.prog = true := by kernel_rfl
set_option maxRecDepth 100000 in
theorem lifted (os : Os) (started : os.Started) (H : Type) (enc : TypeId × Value → H) :
    ReturnsInHanded {} Try.checked os 4 .any (Rows.protoBackSpec.pre6 enc Try.prog Try.f4 Rows.protoBackRow.domain false) (Rows.protoBackSpec.post enc Try.prog Try.f4 false true false false) := by
  refine returnsInHanded_of_change (C := Try.checked) own started (by kernel_rfl) Try.func4
    (ChangeSpec.witness6 (enc := enc) (C := Try.checked) false ⟨#[], #[.agg #[.int .i64 0, .int .i64 0, .int .i64 0, .int .i64 0, .int .i64 0, .int .i64 0, .int .i64 0, .int .i64 0, .int .i64 0, .slice none 0 0], .int .u8 0], []⟩ 8 (by kernel_rfl) (by kernel_rfl) (by kernel_rfl) (by kernel_rfl)) ?_
  intro W base args ds gs before hval0 hW hcnd _
  have hval : ∀ (j : Nat) t v, Try.f4.params[j]? = some t → args[j]? = some v → Value.okWide Try.prog W .any base t v := hval0
  have hW' := hW
  obtain ⟨p, q, hA0, hV, rfl, hfz, hnd⟩ := hW
  have hA : DataW.TrodAll enc Try.prog W 0 (fun _ => true) true Try.f4.params.toList args.toList ds p := hA0
  rw [Try.params4] at hA hval
  obtain ⟨v0, vs0, d0, ds0, p0, q0, hargs, rfl, rfl, h0, r0⟩ := trodAll_cons hA
  obtain ⟨v1, vs1, d1, ds1, p1, q1, rfl, rfl, rfl, h1, r1⟩ := trodAll_cons r0
  obtain ⟨rfl, rfl, rfl⟩ := trodAll_nil r1
  obtain rfl : args = #[v0, v1] := by cases args; simp_all
  obtain ⟨rfl, rfl⟩ := trodVars_none hV
  have k0 := h0
  have lt0 : ∀ x ∈ p0, x.block < W.heap.size := by obtain ⟨m, hm⟩ := k0; exact DataW.trod_lt m _ _ _ hm
  have k1 := h1
  have lt1 : ∀ x ∈ p1, x.block < W.heap.size := by obtain ⟨m, hm⟩ := k1; exact DataW.trod_lt m _ _ _ hm
  obtain ⟨fu0, hf0⟩ := h0
  obtain ⟨a0, hr0, ok0⟩ := P24 _ _ _ _ _ _ _ _ hf0
  obtain ⟨cs0, rfl⟩ := wide_agg Try.underlying24 (hval 0 24 v0 rfl rfl)
  obtain ⟨ca0_1, cb0_1, e0, ha0_1, hb0_1⟩ := hr0
  obtain rfl := (Fl.int).to ha0_1
  obtain ⟨ca0_2, cb0_2, rfl, ha0_2, hb0_2⟩ := hb0_1
  obtain rfl := (Fl.int).to ha0_2
  obtain ⟨ca0_3, cb0_3, rfl, ha0_3, hb0_3⟩ := hb0_2
  obtain rfl := (Fl.int).to ha0_3
  obtain ⟨ca0_4, cb0_4, rfl, ha0_4, hb0_4⟩ := hb0_3
  obtain rfl := (Fl.int).to ha0_4
  obtain ⟨ca0_5, cb0_5, rfl, ha0_5, hb0_5⟩ := hb0_4
  obtain rfl := (Fl.int).to ha0_5
  obtain ⟨ca0_6, cb0_6, rfl, ha0_6, hb0_6⟩ := hb0_5
  obtain rfl := (Fl.int).to ha0_6
  obtain ⟨ca0_7, cb0_7, rfl, ha0_7, hb0_7⟩ := hb0_6
  obtain rfl := (Fl.int).to ha0_7
  obtain ⟨ca0_8, cb0_8, rfl, ha0_8, hb0_8⟩ := hb0_7
  obtain rfl := (Fl.int).to ha0_8
  obtain ⟨ca0_9, cb0_9, rfl, ha0_9, hb0_9⟩ := hb0_8
  obtain rfl := (Fl.int).to ha0_9
  obtain ⟨y0_10, rfl, s0_10⟩ := hb0_9
  obtain rfl := (show cs0 = (Value.agg cs0).cells.toList.toArray by simp [Value.cells]).trans (congrArg List.toArray e0)
  obtain ⟨fu1, hf1⟩ := h1
  obtain ⟨a1, hr1, ok1⟩ := (Opens.int Try.underlying5) _ _ _ _ _ _ _ _ hf1
  rw [wide_one Try.underlying5 rfl (hval 1 5 v1 rfl rfl)] at hr1
  obtain rfl := (List.cons.inj hr1).1
  clear hA0 hval0
  refine (L16_ProtoBack_c any W y0_10 a0 a1 true (ProtoBack_true a0 ok0 a1 ok1) s0_10.nx).mono fun e W' ⟨he, bel⟩ => ?_
  subst he
  exact ⟨_, rfl, _, _, _, [], _, [], hW', trodAll_mk1 (shut_bool Try.underlying4 _), (trodAll_cons_mk (Below.trod laidOut (by kernel_rfl) (of_decide_eq_true (by kernel_rfl)) k0 bel lt0) (trodAll_cons_mk (Below.trod laidOut (by kernel_rfl) (of_decide_eq_true (by kernel_rfl)) k1 bel lt1) trodAll_mk0)), rfl, bel.frame _, fun h => by cases h⟩
theorem over : Rows.protoBackRow.holds Try.pinned (OpenSpec.ofChange Rows.protoBackSpec) :=
  OpenClaim.holds_of_wide 4 Try.f4 rfl rfl rfl rfl rfl rfl rfl ⟨rfl, rfl, rfl, rfl, rfl⟩ rfl rfl rfl rfl rfl (by kernel_rfl) Try.func4 (by kernel_rfl)
    (of_decide_eq_true (by kernel_rfl)) (by unfold Func.isWrapper; first | (rw [if_pos (by decide +kernel)]; kernel_rfl) | (rw [if_neg (by decide +kernel)]; exact ⟨rfl, rfl⟩))
    (fun os started H enc _ => lifted os started H enc)
end RowProtoBack
theorem protoBack_holds : Rows.ProtoBackSaid := RowProtoBack.over
end Go.Proofs.Ytnlllglfmipllaa
