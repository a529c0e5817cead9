/- A statement of layer 30. Conditions: none. -/
import Derived.Test.YtgoifghhcekahaaGreatDoordN30T
import Derived.Test.YtgoifghhcekahaaGreatDoordOA
import Derived.Test.YtgoifghhcekahaaGreatDoordOU
import Derived.ProofKit
import Derived.OpenShut
import Derived.Carry
import Derived.Lib.SmallJoins
import Derived.Test.YtgoifghhcekahaaGreatDoordTie
import Derived.Test.YtgoifghhcekahaaGreatDoordCards
import Derived.SevenTiedAt
import Derived.Stop.Joined
import Derived.LaidMore
import Derived.MakeChecks
import Derived.Lay
namespace Go.Proofs.YtgoifghhcekahaaGreatDoor
open Go Go.RowKit
set_option linter.unusedVariables false
set_option linter.unusedSimpArgs false
set_option maxRecDepth 20000
theorem bH : C2 Tryz.prog 78 IP (O9 (fun n => (Lit.int .i64 n).wf = true) (O9 (fun n => (Lit.int .i64 n).wf = true) (O9 (fun n => (Lit.int .i64 n).wf = true) (O9 (fun n => (Lit.int .i64 n).wf = true) (O9 (fun n => (Lit.int .i64 n).wf = true) (fun n => (Lit.int .i64 n).wf = true)))))) := C2.struct Tryz.underlying78 (by kernel_rfl) (D2.cons (by rfl) (by kernel_rfl) (C2.int Tryz.underlying3) (D2.cons (by rfl) (by kernel_rfl) (C2.int Tryz.underlying3) (D2.cons (by rfl) (by kernel_rfl) (C2.int Tryz.underlying3) (D2.cons (by rfl) (by kernel_rfl) (C2.int Tryz.underlying3) (D2.cons (by rfl) (by kernel_rfl) (C2.int Tryz.underlying3) (D2.one (by rfl) (by kernel_rfl) (C2.int Tryz.underlying3)))))))
theorem bZ : C2 Tryz.prog 22 (Rp.slice IP) (Yc (O9 (fun n => (Lit.int .i64 n).wf = true) (O9 (fun n => (Lit.int .i64 n).wf = true) (O9 (fun n => (Lit.int .i64 n).wf = true) (O9 (fun n => (Lit.int .i64 n).wf = true) (O9 (fun n => (Lit.int .i64 n).wf = true) (fun n => (Lit.int .i64 n).wf = true))))))) := C2.slice Tryz.underlying22 (by kernel_rfl) (by decide) bH
theorem cJ : C2 Tryz.prog 82 Jj (O9 (fun n => (Lit.int .i64 n).wf = true) (fun n => (Lit.int .i64 n).wf = true)) := C2.struct Tryz.underlying82 (by kernel_rfl) (D2.cons (by rfl) (by kernel_rfl) (C2.int Tryz.underlying3) (D2.one (by rfl) (by kernel_rfl) (C2.int Tryz.underlying3)))
theorem cQ : C2 Tryz.prog 23 (Rp.slice Jj) (Yc (O9 (fun n => (Lit.int .i64 n).wf = true) (fun n => (Lit.int .i64 n).wf = true))) := C2.slice Tryz.underlying23 (by kernel_rfl) (by decide) cJ
abbrev bB : Rp (Int × (List (Int × Int × Int × Int × Int × Int)) × (List (Int × Int))) := (Rp.pair (Rp.int .i64) (Rp.pair (Rp.slice IP) (Rp.slice Jj)))
theorem bR : C2 Tryz.prog 25 bB (O9 (fun n => (Lit.int .i64 n).wf = true) (O9 (Yc (O9 (fun n => (Lit.int .i64 n).wf = true) (O9 (fun n => (Lit.int .i64 n).wf = true) (O9 (fun n => (Lit.int .i64 n).wf = true) (O9 (fun n => (Lit.int .i64 n).wf = true) (O9 (fun n => (Lit.int .i64 n).wf = true) (fun n => (Lit.int .i64 n).wf = true))))))) (Yc (O9 (fun n => (Lit.int .i64 n).wf = true) (fun n => (Lit.int .i64 n).wf = true))))) := C2.struct Tryz.underlying25 (by kernel_rfl) (D2.cons (by rfl) (by kernel_rfl) (C2.int Tryz.underlying3) (D2.cons (by rfl) (by kernel_rfl) bZ (D2.one (by rfl) (by kernel_rfl) cQ)))
theorem YX : ∀ N, Ma Tryz.prog 28 B0 Tr28.cnt N := Ma.knot UY (of := Tr28.of) (fun _ => rfl) (fun p => by show Tr28.cnt (.mk p.1 p.2.1 p.2.2.1 p.2.2.2) = _; rw [Tr28.cnt]; simp [Nat.add_assoc]) (fun N h => Ma.struct Tryz.underlying28 (by kernel_rfl) (HL.cons (by rfl) (by kernel_rfl) (Ma.flat (C2.int Tryz.underlying3)) (HL.cons (by rfl) (by kernel_rfl) (Ma.flat (C2.int Tryz.underlying3)) (HL.cons (by rfl) (by kernel_rfl) (Ma.flat (C2.int Tryz.underlying3)) (HL.one (by rfl) (by kernel_rfl) (Ma.slice Tryz.underlying26 (by kernel_rfl) (by decide) h))))))
theorem ZA : ∀ N, Ma Tryz.prog 31 Dw Tr31.cnt N := Ma.knot Wg (of := Tr31.of) (fun _ => rfl) (fun p => by show Tr31.cnt (.mk p.1 p.2.1 p.2.2.1 p.2.2.2.1 p.2.2.2.2) = _; rw [Tr31.cnt]; simp [Nat.add_assoc]) (fun N h => Ma.struct Tryz.underlying31 (by kernel_rfl) (HL.cons (by rfl) (by kernel_rfl) (Ma.flat (C2.int Tryz.underlying3)) (HL.cons (by rfl) (by kernel_rfl) (YX N) (HL.cons (by rfl) (by kernel_rfl) (Ma.flat (C2.int Tryz.underlying3)) (HL.cons (by rfl) (by kernel_rfl) (Ma.flat (C2.int Tryz.underlying3)) (HL.one (by rfl) (by kernel_rfl) (Ma.slice Tryz.underlying29 (by kernel_rfl) (by decide) h)))))))
namespace RowCheckTells
open Go.ChangeShapes Go.WideShapes Go.ChangeAt Go.RowKit Go.Joins
open Go.ChangeMaps (open_string shut_string)
theorem own : ownKnob Tryz.prog.godebug = none := by kernel_rfl
theorem Nv : laidOutB Tryz.prog = true := by kernel_rfl
theorem Wc (os : Os) (args : Array Value) : laidMet Tryz.prog Rows.checkTellsUptoRow.laid ((World.doorLaid Tryz.prog 24 os).forCall (fun _ _ => 0) ⟨#[], args, []⟩).memory := laidMet_of_run' 8 (by kernel_rfl) (by kernel_rfl)
theorem reads (os : Os) {H : Type} (enc : TypeId × Value → H) : ∃ places, DataW.whole enc Tryz.prog ((World.doorLaid Tryz.prog 24 os).forCall (fun _ _ => 0) ⟨#[], #[.agg #[.int .i64 0, .slice none 0 0, .slice none 0 0], .agg #[.int .i64 0, .int .i64 0, .int .i64 0, .int .i64 0, .slice none 0 0, .int .i64 0, .int .i64 0, .slice none 0 0], .int .i64 0, .int .i64 0], []⟩).memory Tryz.f3.params.toList Rows.checkTellsSpec.vars false (#[.agg #[.int .i64 0, .slice none 0 0, .slice none 0 0], .agg #[.int .i64 0, .int .i64 0, .int .i64 0, .int .i64 0, .slice none 0 0, .int .i64 0, .int .i64 0, .slice none 0 0], .int .i64 0, .int .i64 0] : Array Value).toList 8 = some ([.agg [.lit (.int .i64 0), .nil, .nil], .agg [.lit (.int .i64 0), .agg [.lit (.int .i64 0), .lit (.int .i64 0), .lit (.int .i64 0), .nil], .lit (.int .i64 0), .lit (.int .i64 0), .nil], .lit (.int .i64 0), .lit (.int .i64 0)], [], places) := ⟨[], by kernel_rfl⟩
set_option maxRecDepth 100000 in
theorem HQ (os : Os) (started : os.Started) (H : Type) (enc : TypeId × Value → H) (F : Stop.Interp) :
    ReturnsInHanded {} Tryz.checked os 3 .any ((Rows.OpenSpec.upto Rows.checkTellsSpec).preRow enc Tryz.prog Tryz.f3 Rows.checkTellsUptoRow.domain false Rows.checkTellsUptoRow.laid) (((Rows.OpenSpec.upto Rows.checkTellsSpec).at F).post enc Tryz.prog Tryz.f3 false true false false) := by
  obtain ⟨places, hx⟩ := reads os enc
  refine returnsInHanded_of_row (C := Tryz.checked) (s := Rows.OpenSpec.upto Rows.checkTellsSpec) own started (by kernel_rfl) Tryz.func3
    (QZ (enc := enc) (C := Tryz.checked) (os := os) false (World.doorLaid Tryz.prog 24 os) #[.agg #[.int .i64 0, .slice none 0 0, .slice none 0 0], .agg #[.int .i64 0, .int .i64 0, .int .i64 0, .int .i64 0, .slice none 0 0, .int .i64 0, .int .i64 0, .slice none 0 0], .int .i64 0, .int .i64 0] rfl (World.shaped_of_RefB (by kernel_rfl) (by kernel_rfl)) (by kernel_rfl)
      (OpenSpec.preRow_of_cond 8 hx (by kernel_rfl) (fun k hk => by cases hk; kernel_rfl) (by kernel_rfl) (Wc os _))) ?_
  intro W base args ds gs before hval0 hW hcnd hcond _ hL hsh _
  have hk := hcond _ rfl
  have lm := Vt hL rfl
  have hval : ∀ (j : Nat) t v, Tryz.f3.params[j]? = some t → args[j]? = some v → Value.okWide Tryz.prog W .any base t v := hval0
  have hW' := hW
  obtain ⟨p, q, hA0, hV, rfl, hfz, hnd⟩ := hW
  have hA : DataW.TrodAll enc Tryz.prog W 0 (fun _ => true) true Tryz.f3.params.toList args.toList ds p := hA0
  rw [Tryz.params3] at hA hval
  obtain ⟨v0, vs0, d0, ds0, p0, q0, hargs, rfl, rfl, h0, r0⟩ := trodAll_cons hA
  obtain ⟨v1, vs1, d1, ds1, p1, q1, rfl, rfl, rfl, h1, r1⟩ := trodAll_cons r0
  obtain ⟨v2, vs2, d2, ds2, p2, q2, rfl, rfl, rfl, h2, r2⟩ := trodAll_cons r1
  obtain ⟨v3, vs3, d3, ds3, p3, q3, rfl, rfl, rfl, h3, r3⟩ := trodAll_cons r2
  obtain ⟨rfl, rfl, rfl⟩ := trodAll_nil r3
  obtain rfl : args = #[v0, v1, v2, v3] := by cases args; simp_all
  obtain ⟨rfl, rfl⟩ := trodVars_none hV
  have k0 := h0
  have lt0 : ∀ x ∈ p0, x.block < W.heap.size := by obtain ⟨m, hm⟩ := k0; exact DataW.trod_lt m _ _ _ hm
  have k1 := h1
  have lt1 : ∀ x ∈ p1, x.block < W.heap.size := by obtain ⟨m, hm⟩ := k1; exact DataW.trod_lt m _ _ _ hm
  have k2 := h2
  have lt2 : ∀ x ∈ p2, x.block < W.heap.size := by obtain ⟨m, hm⟩ := k2; exact DataW.trod_lt m _ _ _ hm
  have k3 := h3
  have lt3 : ∀ x ∈ p3, x.block < W.heap.size := by obtain ⟨m, hm⟩ := k3; exact DataW.trod_lt m _ _ _ hm
  have hb : Rows.uptoBulkAll _ ≤ 1048576 := of_decide_eq_true hk
  simp only [List.append_nil, List.nil_append, List.cons_append, Rows.uptoBulkAll] at hb
  obtain ⟨fu0, hf0⟩ := h0
  obtain ⟨a0, hr0, ok0⟩ := bR _ _ _ _ _ _ _ _ hf0
  obtain ⟨cs0, rfl⟩ := Rt Tryz.underlying25 (hval 0 25 v0 rfl rfl)
  obtain ⟨ca0_1, cb0_1, e0, ha0_1, hb0_1⟩ := hr0
  obtain rfl := (Fl.int).to ha0_1
  obtain ⟨ca0_2, cb0_2, rfl, ha0_2, hb0_2⟩ := hb0_1
  obtain ⟨y0_3, rfl, s0_3⟩ := ha0_2
  obtain ⟨y0_4, rfl, s0_4⟩ := hb0_2
  obtain rfl := (show cs0 = (Value.agg cs0).cells.toList.toArray by simp [Value.cells]).trans (congrArg List.toArray e0)
  obtain ⟨fu1, hf1⟩ := h1
  obtain ⟨a1, hr1, hs1⟩ := ZA fu1 _ _ _ _ _ _ _ _ (Nat.le_refl _) hf1
  have ok1 : a1.cnt ≤ 1048576 := Nat.le_trans hs1 (by show Rows.uptoBulk d1 ≤ _; omega)
  obtain ⟨cs1, rfl⟩ := Rt Tryz.underlying31 (hval 1 31 v1 rfl rfl)
  obtain ⟨ca1_1, cb1_1, e1, ha1_1, hb1_1⟩ := (Ug.1 hr1)
  obtain rfl := (Fl.int).to ha1_1
  obtain ⟨ca1_2, cb1_2, rfl, ha1_2, hb1_2⟩ := hb1_1
  obtain ⟨ca1_3, cb1_3, rfl, ha1_3, hb1_3⟩ := (RL.1 ha1_2)
  obtain rfl := (Fl.int).to ha1_3
  obtain ⟨ca1_4, cb1_4, rfl, ha1_4, hb1_4⟩ := hb1_3
  obtain rfl := (Fl.int).to ha1_4
  obtain ⟨ca1_5, cb1_5, rfl, ha1_5, hb1_5⟩ := hb1_4
  obtain rfl := (Fl.int).to ha1_5
  obtain ⟨y1_6, rfl, s1_6⟩ := hb1_5
  obtain ⟨ca1_7, cb1_7, rfl, ha1_7, hb1_7⟩ := hb1_2
  obtain rfl := (Fl.int).to ha1_7
  obtain ⟨ca1_8, cb1_8, rfl, ha1_8, hb1_8⟩ := hb1_7
  obtain rfl := (Fl.int).to ha1_8
  obtain ⟨y1_9, rfl, s1_9⟩ := hb1_8
  obtain rfl := (show cs1 = (Value.agg cs1).cells.toList.toArray by simp [Value.cells]).trans (congrArg List.toArray e1)
  obtain ⟨fu2, hf2⟩ := h2
  obtain ⟨a2, hr2, ok2⟩ := (C2.int Tryz.underlying3) _ _ _ _ _ _ _ _ hf2
  rw [Rm Tryz.underlying3 rfl (hval 2 3 v2 rfl rfl)] at hr2
  obtain rfl := (List.cons.inj hr2).1
  obtain ⟨fu3, hf3⟩ := h3
  obtain ⟨a3, hr3, ok3⟩ := (C2.int Tryz.underlying3) _ _ _ _ _ _ _ _ hf3
  rw [Rm Tryz.underlying3 rfl (hval 3 3 v3 rfl rfl)] at hr3
  obtain rfl := (List.cons.inj hr3).1
  clear hA0 hval0
  have hG : Gk [] W := ⟨⟨Sp (g := 0) (PS (PS lm)) (by kernel_rfl) (by kernel_rfl) Tryz.underlying199 Tryz.underlying168 (by kernel_rfl) (by kernel_rfl)⟩, fun g hg hm => by cases hm⟩
  refine (Mv any W y0_3 y0_4 y1_6 y1_9 a0 a1 a2 a3 true (M3 a0 ok0 a1 ok1 a2 ok2 a3 ok3) s0_3.nx s0_4.nx s1_6 s1_9 hG).mono fun e W' ⟨he, bel⟩ => ?_
  subst he
  exact ⟨_, rfl, _, _, _, [], _, [], hW', trodAll_mk1 (shut_bool Tryz.underlying4 _), (trodAll_cons_mk (Below.trod Nv (by kernel_rfl) (of_decide_eq_true (by kernel_rfl)) k0 bel lt0) (trodAll_cons_mk (Below.trod Nv (by kernel_rfl) (of_decide_eq_true (by kernel_rfl)) k1 bel lt1) (trodAll_cons_mk (Below.trod Nv (by kernel_rfl) (of_decide_eq_true (by kernel_rfl)) k2 bel lt2) (trodAll_cons_mk (Below.trod Nv (by kernel_rfl) (of_decide_eq_true (by kernel_rfl)) k3 bel lt3) trodAll_mk0)))), rfl, bel.frame _, fun h => by cases h⟩
theorem over : Rows.checkTellsUptoRow.holds Tryz.pinned (Rows.OpenSpec.upto Rows.checkTellsSpec) :=
  OpenClaim.holds_of_cond 3 Tryz.f3 rfl rfl rfl rfl rfl rfl rfl ⟨rfl, rfl, rfl, rfl, rfl⟩ rfl rfl rfl rfl rfl (by kernel_rfl) Tryz.func3 (by kernel_rfl)
    (of_decide_eq_true (by kernel_rfl)) (by unfold Func.isWrapper; first | (rw [if_pos (by decide +kernel)]; kernel_rfl) | (rw [if_neg (by decide +kernel)]; exact ⟨rfl, rfl⟩))
    (fun os started H enc _ F => by rw [OpenClaim.pre_eq_preRow]; exact HQ os started H enc F)
end RowCheckTells
theorem JG : Rows.CheckTellsUptoSaid := RowCheckTells.over
theorem checkTellsUptoCard_holds : Rows.CheckTellsUptoCardSaid :=
  Claim7.holds_tied_plain_at .later [] _ _ _ _ JG (fun _ h => by cases h) (by kernel_rfl) (fun _ h => by cases h) I3 rfl ⟨rfl, rfl⟩ (by kernel_rfl) rfl
    (fun f fn hf hfn => by
      obtain rfl : f = 3 := Option.some.inj ((show Tryz.prog.funcNamed "turnout/turnoutlaw30.CheckTells" = some 3 by kernel_rfl).symm.trans hf) |>.symm
      obtain rfl : fn = Tryz.f3 := (Option.some.inj (Tryz.func3.symm.trans hfn)).symm
      exact ⟨by kernel_rfl, fun j t ht => by
        rw [Tryz.params3] at ht
        have hm : t ∈ [25, 31, 3, 3] := by simpa using Array.mem_of_getElem? ht
        have hall : ([25, 31, 3, 3].all fun u => !Tryz.prog.wantsStandIn u) = true := by kernel_rfl
        exact (show Tryz.prog.wantsStandIn t = false by simpa using List.all_eq_true.1 hall t hm)⟩)
    (by kernel_rfl)
end Go.Proofs.YtgoifghhcekahaaGreatDoor
