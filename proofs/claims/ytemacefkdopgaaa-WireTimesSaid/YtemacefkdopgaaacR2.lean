/- A statement of layer 35. Conditions: none. -/
import Derived.Test.YtemacefkdopgaaacM35T
import Derived.Test.YtemacefkdopgaaacOA
import Derived.ProofKit
import Derived.OpenShut
import Derived.Carry
import Derived.Lib.SmallJoins
namespace Go.Proofs.Ytemacefkdopgaaa
open Go Go.RowKit
set_option linter.unusedVariables false
set_option linter.unusedSimpArgs false
set_option maxRecDepth 20000
theorem Mq : Bn Try.prog 59 Bx (Eo (fun n => (Lit.int .i64 n).wf = true) (Eo (fun n => (Lit.int .i64 n).wf = true) (Eo (fun n => (Lit.int .i64 n).wf = true) (Eo (fun n => (Lit.int .i64 n).wf = true) (Eo (fun n => (Lit.int .i64 n).wf = true) (fun n => (Lit.int .i64 n).wf = true)))))) := Bn.struct Try.underlying59 (by kernel_rfl) (BD.cons (by rfl) (by kernel_rfl) (Bn.int Try.underlying3) (BD.cons (by rfl) (by kernel_rfl) (Bn.int Try.underlying3) (BD.cons (by rfl) (by kernel_rfl) (Bn.int Try.underlying3) (BD.cons (by rfl) (by kernel_rfl) (Bn.int Try.underlying3) (BD.cons (by rfl) (by kernel_rfl) (Bn.int Try.underlying3) (BD.one (by rfl) (by kernel_rfl) (Bn.int Try.underlying3)))))))
theorem LP : Bn Try.prog 22 (Rp.slice Bx) (Kz (Eo (fun n => (Lit.int .i64 n).wf = true) (Eo (fun n => (Lit.int .i64 n).wf = true) (Eo (fun n => (Lit.int .i64 n).wf = true) (Eo (fun n => (Lit.int .i64 n).wf = true) (Eo (fun n => (Lit.int .i64 n).wf = true) (fun n => (Lit.int .i64 n).wf = true))))))) := Bn.slice Try.underlying22 (by kernel_rfl) (by decide) Mq
theorem Mk : Bn Try.prog 75 Cb (Eo (fun n => (Lit.int .i64 n).wf = true) (fun n => (Lit.int .i64 n).wf = true)) := Bn.struct Try.underlying75 (by kernel_rfl) (BD.cons (by rfl) (by kernel_rfl) (Bn.int Try.underlying3) (BD.one (by rfl) (by kernel_rfl) (Bn.int Try.underlying3)))
theorem LX : Bn Try.prog 23 (Rp.slice Cb) (Kz (Eo (fun n => (Lit.int .i64 n).wf = true) (fun n => (Lit.int .i64 n).wf = true))) := Bn.slice Try.underlying23 (by kernel_rfl) (by decide) Mk
abbrev LQ : Rp (Int × (List (Int × Int × Int × Int × Int × Int)) × (List (Int × Int))) := (Rp.pair (Rp.int .i64) (Rp.pair (Rp.slice Bx) (Rp.slice Cb)))
theorem Mv : Bn Try.prog 25 LQ (Eo (fun n => (Lit.int .i64 n).wf = true) (Eo (Kz (Eo (fun n => (Lit.int .i64 n).wf = true) (Eo (fun n => (Lit.int .i64 n).wf = true) (Eo (fun n => (Lit.int .i64 n).wf = true) (Eo (fun n => (Lit.int .i64 n).wf = true) (Eo (fun n => (Lit.int .i64 n).wf = true) (fun n => (Lit.int .i64 n).wf = true))))))) (Kz (Eo (fun n => (Lit.int .i64 n).wf = true) (fun n => (Lit.int .i64 n).wf = true))))) := Bn.struct Try.underlying25 (by kernel_rfl) (BD.cons (by rfl) (by kernel_rfl) (Bn.int Try.underlying3) (BD.cons (by rfl) (by kernel_rfl) LP (BD.one (by rfl) (by kernel_rfl) LX)))
theorem LU : Bn Try.prog 36 Lf (Eo (fun n => (Lit.int .i64 n).wf = true) (Eo (fun n => (Lit.int .i64 n).wf = true) (Eo (fun n => (Lit.int .i64 n).wf = true) (fun n => (Lit.int .i64 n).wf = true)))) := Bn.array Try.underlying36 (by kernel_rfl) (DM.cons (by kernel_rfl) (by decide) (Bn.int Try.underlying3) (DM.cons (by kernel_rfl) (by decide) (Bn.int Try.underlying3) (DM.cons (by kernel_rfl) (by decide) (Bn.int Try.underlying3) (DM.one (by kernel_rfl) (Bn.int Try.underlying3)))))
theorem Mm : Bn Try.prog 38 HY (Eo (fun n => (Lit.int .i64 n).wf = true) (Eo (fun n => (Lit.int .i64 n).wf = true) (Eo (fun n => (Lit.int .i64 n).wf = true) (Eo (fun n => (Lit.int .i64 n).wf = true) (Eo (fun n => (Lit.int .i64 n).wf = true) (Eo (fun n => (Lit.int .i64 n).wf = true) (Eo (fun n => (Lit.int .i64 n).wf = true) (Eo (fun n => (Lit.int .i64 n).wf = true) (Eo (fun n => (Lit.int .i64 n).wf = true) (fun n => (Lit.int .i64 n).wf = true)))))))))) := Bn.struct Try.underlying38 (by kernel_rfl) (BD.cons (by rfl) (by kernel_rfl) (Bn.int Try.underlying3) (BD.cons (by rfl) (by kernel_rfl) (Bn.int Try.underlying3) (BD.cons (by rfl) (by kernel_rfl) (Bn.int Try.underlying3) (BD.cons (by rfl) (by kernel_rfl) (Bn.int Try.underlying3) (BD.cons (by rfl) (by kernel_rfl) (Bn.int Try.underlying3) (BD.cons (by rfl) (by kernel_rfl) (Bn.int Try.underlying3) (BD.one (by rfl) (by kernel_rfl) LU)))))))
theorem Mp : Bn Try.prog 26 (Rp.slice HY) (Kz (Eo (fun n => (Lit.int .i64 n).wf = true) (Eo (fun n => (Lit.int .i64 n).wf = true) (Eo (fun n => (Lit.int .i64 n).wf = true) (Eo (fun n => (Lit.int .i64 n).wf = true) (Eo (fun n => (Lit.int .i64 n).wf = true) (Eo (fun n => (Lit.int .i64 n).wf = true) (Eo (fun n => (Lit.int .i64 n).wf = true) (Eo (fun n => (Lit.int .i64 n).wf = true) (Eo (fun n => (Lit.int .i64 n).wf = true) (fun n => (Lit.int .i64 n).wf = true))))))))))) := Bn.slice Try.underlying26 (by kernel_rfl) (by decide) Mm
namespace RowWireTimes
open Go.ChangeShapes Go.WideShapes Go.ChangeAt Go.RowKit Go.Joins
open Go.ChangeMaps (open_string shut_string)
theorem own : ownKnob Try.prog.godebug = none := by kernel_rfl
theorem Iu : laidOutB Try.prog = true := by kernel_rfl
set_option maxRecDepth 100000 in
theorem EJ (os : Os) (started : os.Started) (H : Type) (enc : TypeId × Value → H) :
    ReturnsInHanded {} Try.checked os 4 .any (Rows.wireTimesSpec.pre6 enc Try.prog Try.f4 Rows.wireTimesRow.domain false) (Rows.wireTimesSpec.post enc Try.prog Try.f4 false true false false) := by
  refine returnsInHanded_of_change (C := Try.checked) own started (by kernel_rfl) Try.func4
    (ChangeSpec.witness6 (enc := enc) (C := Try.checked) false ⟨#[], #[.agg #[.int .i64 0, .slice none 0 0, .slice none 0 0], .slice none 0 0], []⟩ 8 (by kernel_rfl) (by kernel_rfl) (by kernel_rfl) (by kernel_rfl)) ?_
  intro W base args ds gs before hval0 hW hcnd _
  have hval : ∀ (j : Nat) t v, Try.f4.params[j]? = some t → args[j]? = some v → Value.okWide Try.prog W .any base t v := hval0
  have hW' := hW
  obtain ⟨p, q, hA0, hV, rfl, hfz, hnd⟩ := hW
  have hA : DataW.TrodAll enc Try.prog W 0 (fun _ => true) true Try.f4.params.toList args.toList ds p := hA0
  rw [Try.params4] at hA hval
  obtain ⟨v0, vs0, d0, ds0, p0, q0, hargs, rfl, rfl, h0, r0⟩ := trodAll_cons hA
  obtain ⟨v1, vs1, d1, ds1, p1, q1, rfl, rfl, rfl, h1, r1⟩ := trodAll_cons r0
  obtain ⟨rfl, rfl, rfl⟩ := trodAll_nil r1
  obtain rfl : args = #[v0, v1] := by cases args; simp_all
  obtain ⟨rfl, rfl⟩ := trodVars_none hV
  have k0 := h0
  have lt0 : ∀ x ∈ p0, x.block < W.heap.size := by obtain ⟨m, hm⟩ := k0; exact DataW.trod_lt m _ _ _ hm
  have k1 := h1
  have lt1 : ∀ x ∈ p1, x.block < W.heap.size := by obtain ⟨m, hm⟩ := k1; exact DataW.trod_lt m _ _ _ hm
  obtain ⟨fu0, hf0⟩ := h0
  obtain ⟨a0, hr0, ok0⟩ := Mv _ _ _ _ _ _ _ _ hf0
  obtain ⟨cs0, rfl⟩ := Jd Try.underlying25 (hval 0 25 v0 rfl rfl)
  obtain ⟨ca0_1, cb0_1, e0, ha0_1, hb0_1⟩ := hr0
  obtain rfl := (Fl.int).to ha0_1
  obtain ⟨ca0_2, cb0_2, rfl, ha0_2, hb0_2⟩ := hb0_1
  obtain ⟨y0_3, rfl, s0_3⟩ := ha0_2
  obtain ⟨y0_4, rfl, s0_4⟩ := hb0_2
  obtain rfl := (show cs0 = (Value.agg cs0).cells.toList.toArray by simp [Value.cells]).trans (congrArg List.toArray e0)
  obtain ⟨fu1, hf1⟩ := h1
  obtain ⟨a1, hr1, ok1⟩ := Mp _ _ _ _ _ _ _ _ hf1
  rw [Jf Try.underlying26 rfl (hval 1 26 v1 rfl rfl)] at hr1
  obtain ⟨y1, e1, s1⟩ := hr1
  obtain rfl := (List.cons.inj e1).1
  clear hA0 hval0
  refine (Gb any W y0_3 y0_4 v1 a0 a1 true (GD a0 ok0 a1 ok1) s0_3 s0_4.nx s1.nx).mono fun e W' ⟨he, bel⟩ => ?_
  subst he
  exact ⟨_, rfl, _, _, _, [], _, [], hW', trodAll_mk1 (shut_bool Try.underlying4 _), (trodAll_cons_mk (Below.trod Iu (by kernel_rfl) (of_decide_eq_true (by kernel_rfl)) k0 bel lt0) (trodAll_cons_mk (Below.trod Iu (by kernel_rfl) (of_decide_eq_true (by kernel_rfl)) k1 bel lt1) trodAll_mk0)), rfl, bel.frame _, fun h => by cases h⟩
theorem over : Rows.wireTimesRow.holds Try.pinned (OpenSpec.ofChange Rows.wireTimesSpec) :=
  OpenClaim.holds_of_wide 4 Try.f4 rfl rfl rfl rfl rfl rfl rfl ⟨rfl, rfl, rfl, rfl, rfl⟩ rfl rfl rfl rfl rfl (by kernel_rfl) Try.func4 (by kernel_rfl)
    (of_decide_eq_true (by kernel_rfl)) (by unfold Func.isWrapper; first | (rw [if_pos (by decide +kernel)]; kernel_rfl) | (rw [if_neg (by decide +kernel)]; exact ⟨rfl, rfl⟩))
    (fun os started H enc _ => EJ os started H enc)
end RowWireTimes
theorem wireTimes_holds : Rows.WireTimesSaid := RowWireTimes.over
end Go.Proofs.Ytemacefkdopgaaa
