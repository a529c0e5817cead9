/- A statement of layer 30. Conditions: none. -/
import Derived.Test.YtgoifghhcekahaaGreatDoorbM30
import Derived.Test.YtgoifghhcekahaaGreatDoorbOA
import Derived.Test.YtgoifghhcekahaaGreatDoorbOU
import Derived.ProofKit
import Derived.OpenShut
import Derived.Carry
import Derived.Lib.SmallJoins
import Derived.Test.YtgoifghhcekahaaGreatDoorbTie
import Derived.Test.YtgoifghhcekahaaGreatDoorbCards
import Derived.SevenTiedAt
import Derived.Stop.Joined
import Derived.LaidMore
import Derived.MakeChecks
import Derived.Lay
namespace Go.Proofs.YtgoifghhcekahaaGreatDoor
open Go Go.RowKit
set_option linter.unusedVariables false
set_option linter.unusedSimpArgs false
set_option maxRecDepth 20000
theorem W8 : ∀ N, QG Tryz.prog 28 EC Tr28.cnt N := QG.knot U4 (of := Tr28.of) (fun _ => rfl) (fun p => by show Tr28.cnt (.mk p.1 p.2.1 p.2.2.1 p.2.2.2) = _; rw [Tr28.cnt]; simp [Nat.add_assoc]) (fun N h => QG.struct Tryz.underlying28 (by kernel_rfl) (MY.cons (by rfl) (by kernel_rfl) (QG.flat (Fg.int Tryz.underlying3)) (MY.cons (by rfl) (by kernel_rfl) (QG.flat (Fg.int Tryz.underlying3)) (MY.cons (by rfl) (by kernel_rfl) (QG.flat (Fg.int Tryz.underlying3)) (MY.one (by rfl) (by kernel_rfl) (QG.slice Tryz.underlying26 (by kernel_rfl) (by decide) h))))))
abbrev XL : Rp (Int × Int × Int × Int) := (Rp.pair (Rp.int .i64) (Rp.pair (Rp.int .i64) (Rp.pair (Rp.int .i64) (Rp.int .i64))))
theorem YA : Fg Tryz.prog 54 XL (Wq (fun n => (Lit.int .i64 n).wf = true) (Wq (fun n => (Lit.int .i64 n).wf = true) (Wq (fun n => (Lit.int .i64 n).wf = true) (fun n => (Lit.int .i64 n).wf = true)))) := Fg.array Tryz.underlying54 (by kernel_rfl) (I1.cons (by kernel_rfl) (by decide) (Fg.int Tryz.underlying3) (I1.cons (by kernel_rfl) (by decide) (Fg.int Tryz.underlying3) (I1.cons (by kernel_rfl) (by decide) (Fg.int Tryz.underlying3) (I1.one (by kernel_rfl) (Fg.int Tryz.underlying3)))))
def XV (a : Int × Int × Int × Int) : List Value := [.int .i64 a.1, .int .i64 a.2.1, .int .i64 a.2.2.1, .int .i64 a.2.2.2]
theorem Yz : Fl XL XV := (Fl.pair Fl.int (Fl.pair Fl.int (Fl.pair Fl.int Fl.int)))
namespace RowCheckCuts
open Go.ChangeShapes Go.WideShapes Go.ChangeAt Go.RowKit Go.Joins
open Go.ChangeMaps (open_string shut_string)
theorem own : ownKnob Tryz.prog.godebug = none := by kernel_rfl
theorem Pg : laidOutB Tryz.prog = true := by kernel_rfl
theorem UU (os : Os) (args : Array Value) : laidMet Tryz.prog Rows.checkCutsUptoRow.laid ((World.doorLaid Tryz.prog 24 os).forCall (fun _ _ => 0) ⟨#[], args, []⟩).memory := laidMet_of_run' 8 (by kernel_rfl) (by kernel_rfl)
theorem reads (os : Os) {H : Type} (enc : TypeId × Value → H) : ∃ places, DataW.whole enc Tryz.prog ((World.doorLaid Tryz.prog 24 os).forCall (fun _ _ => 0) ⟨#[], #[.agg #[.int .i64 0, .int .i64 0, .int .i64 0, .slice none 0 0], .int .i64 0, .int .i64 0, .agg #[.int .i64 0, .int .i64 0, .int .i64 0, .int .i64 0]], []⟩).memory Tryz.f4.params.toList Rows.checkCutsSpec.vars false (#[.agg #[.int .i64 0, .int .i64 0, .int .i64 0, .slice none 0 0], .int .i64 0, .int .i64 0, .agg #[.int .i64 0, .int .i64 0, .int .i64 0, .int .i64 0]] : Array Value).toList 8 = some ([.agg [.lit (.int .i64 0), .lit (.int .i64 0), .lit (.int .i64 0), .nil], .lit (.int .i64 0), .lit (.int .i64 0), .agg [.lit (.int .i64 0), .lit (.int .i64 0), .lit (.int .i64 0), .lit (.int .i64 0)]], [], places) := ⟨[], by kernel_rfl⟩
set_option maxRecDepth 100000 in
theorem JA (os : Os) (started : os.Started) (H : Type) (enc : TypeId × Value → H) (F : Stop.Interp) :
    ReturnsInHanded {} Tryz.checked os 4 .any ((Rows.OpenSpec.upto Rows.checkCutsSpec).preRow enc Tryz.prog Tryz.f4 Rows.checkCutsUptoRow.domain false Rows.checkCutsUptoRow.laid) (((Rows.OpenSpec.upto Rows.checkCutsSpec).at F).post enc Tryz.prog Tryz.f4 false true false false) := by
  obtain ⟨places, hx⟩ := reads os enc
  refine returnsInHanded_of_row (C := Tryz.checked) (s := Rows.OpenSpec.upto Rows.checkCutsSpec) own started (by kernel_rfl) Tryz.func4
    (Rc (enc := enc) (C := Tryz.checked) (os := os) false (World.doorLaid Tryz.prog 24 os) #[.agg #[.int .i64 0, .int .i64 0, .int .i64 0, .slice none 0 0], .int .i64 0, .int .i64 0, .agg #[.int .i64 0, .int .i64 0, .int .i64 0, .int .i64 0]] rfl (World.shaped_of_RefB (by kernel_rfl) (by kernel_rfl)) (by kernel_rfl)
      (OpenSpec.preRow_of_cond 8 hx (by kernel_rfl) (fun k hk => by cases hk; kernel_rfl) (by kernel_rfl) (UU os _))) ?_
  intro W base args ds gs before hval0 hW hcnd hcond _ hL hsh _
  have hk := hcond _ rfl
  have lm := TT hL rfl
  have hval : ∀ (j : Nat) t v, Tryz.f4.params[j]? = some t → args[j]? = some v → Value.okWide Tryz.prog W .any base t v := hval0
  have hW' := hW
  obtain ⟨p, q, hA0, hV, rfl, hfz, hnd⟩ := hW
  have hA : DataW.TrodAll enc Tryz.prog W 0 (fun _ => true) true Tryz.f4.params.toList args.toList ds p := hA0
  rw [Tryz.params4] at hA hval
  obtain ⟨v0, vs0, d0, ds0, p0, q0, hargs, rfl, rfl, h0, r0⟩ := trodAll_cons hA
  obtain ⟨v1, vs1, d1, ds1, p1, q1, rfl, rfl, rfl, h1, r1⟩ := trodAll_cons r0
  obtain ⟨v2, vs2, d2, ds2, p2, q2, rfl, rfl, rfl, h2, r2⟩ := trodAll_cons r1
  obtain ⟨v3, vs3, d3, ds3, p3, q3, rfl, rfl, rfl, h3, r3⟩ := trodAll_cons r2
  obtain ⟨rfl, rfl, rfl⟩ := trodAll_nil r3
  obtain rfl : args = #[v0, v1, v2, v3] := by cases args; simp_all
  obtain ⟨rfl, rfl⟩ := trodVars_none hV
  have k0 := h0
  have lt0 : ∀ x ∈ p0, x.block < W.heap.size := by obtain ⟨m, hm⟩ := k0; exact DataW.trod_lt m _ _ _ hm
  have k1 := h1
  have lt1 : ∀ x ∈ p1, x.block < W.heap.size := by obtain ⟨m, hm⟩ := k1; exact DataW.trod_lt m _ _ _ hm
  have k2 := h2
  have lt2 : ∀ x ∈ p2, x.block < W.heap.size := by obtain ⟨m, hm⟩ := k2; exact DataW.trod_lt m _ _ _ hm
  have k3 := h3
  have lt3 : ∀ x ∈ p3, x.block < W.heap.size := by obtain ⟨m, hm⟩ := k3; exact DataW.trod_lt m _ _ _ hm
  have hb : Rows.uptoBulkAll _ ≤ 1048576 := of_decide_eq_true hk
  simp only [List.append_nil, List.nil_append, List.cons_append, Rows.uptoBulkAll] at hb
  obtain ⟨fu0, hf0⟩ := h0
  obtain ⟨a0, hr0, hs0⟩ := W8 fu0 _ _ _ _ _ _ _ _ (Nat.le_refl _) hf0
  have ok0 : a0.cnt ≤ 1048576 := Nat.le_trans hs0 (by show Rows.uptoBulk d0 ≤ _; omega)
  obtain ⟨cs0, rfl⟩ := Uc Tryz.underlying28 (hval 0 28 v0 rfl rfl)
  obtain ⟨ca0_1, cb0_1, e0, ha0_1, hb0_1⟩ := (UW.1 hr0)
  obtain rfl := (Fl.int).to ha0_1
  obtain ⟨ca0_2, cb0_2, rfl, ha0_2, hb0_2⟩ := hb0_1
  obtain rfl := (Fl.int).to ha0_2
  obtain ⟨ca0_3, cb0_3, rfl, ha0_3, hb0_3⟩ := hb0_2
  obtain rfl := (Fl.int).to ha0_3
  obtain ⟨y0_4, rfl, s0_4⟩ := hb0_3
  obtain rfl := (show cs0 = (Value.agg cs0).cells.toList.toArray by simp [Value.cells]).trans (congrArg List.toArray e0)
  obtain ⟨fu1, hf1⟩ := h1
  obtain ⟨a1, hr1, ok1⟩ := (Fg.int Tryz.underlying3) _ _ _ _ _ _ _ _ hf1
  rw [Sp Tryz.underlying3 rfl (hval 1 3 v1 rfl rfl)] at hr1
  obtain rfl := (List.cons.inj hr1).1
  obtain ⟨fu2, hf2⟩ := h2
  obtain ⟨a2, hr2, ok2⟩ := (Fg.int Tryz.underlying3) _ _ _ _ _ _ _ _ hf2
  rw [Sp Tryz.underlying3 rfl (hval 2 3 v2 rfl rfl)] at hr2
  obtain rfl := (List.cons.inj hr2).1
  obtain ⟨fu3, hf3⟩ := h3
  obtain ⟨a3, hr3, ok3⟩ := YA _ _ _ _ _ _ _ _ hf3
  obtain ⟨cs3, rfl⟩ := UE Tryz.underlying54 (hval 3 54 v3 rfl rfl)
  obtain rfl : cs3 = (XV a3).toArray := by have e := Yz.to hr3; rw [← e]; simp [Value.cells]
  clear hA0 hval0
  have hG : Gk [] W := ⟨⟨SB (g := 0) (QX (QX lm)) (by kernel_rfl) (by kernel_rfl) Tryz.underlying199 Tryz.underlying168 (by kernel_rfl) (by kernel_rfl)⟩, fun g hg hm => by cases hm⟩
  refine (OS any W y0_4 a0 a1 a2 a3 true (PV a0 ok0 a1 ok1 a2 ok2 a3 ok3) s0_4 hG).mono fun e W' ⟨he, bel⟩ => ?_
  subst he
  exact ⟨_, rfl, _, _, _, [], _, [], hW', trodAll_mk1 (shut_bool Tryz.underlying4 _), (trodAll_cons_mk (Below.trod Pg (by kernel_rfl) (of_decide_eq_true (by kernel_rfl)) k0 bel lt0) (trodAll_cons_mk (Below.trod Pg (by kernel_rfl) (of_decide_eq_true (by kernel_rfl)) k1 bel lt1) (trodAll_cons_mk (Below.trod Pg (by kernel_rfl) (of_decide_eq_true (by kernel_rfl)) k2 bel lt2) (trodAll_cons_mk (Below.trod Pg (by kernel_rfl) (of_decide_eq_true (by kernel_rfl)) k3 bel lt3) trodAll_mk0)))), rfl, bel.frame _, fun h => by cases h⟩
theorem over : Rows.checkCutsUptoRow.holds Tryz.pinned (Rows.OpenSpec.upto Rows.checkCutsSpec) :=
  OpenClaim.holds_of_cond 4 Tryz.f4 rfl rfl rfl rfl rfl rfl rfl ⟨rfl, rfl, rfl, rfl, rfl⟩ rfl rfl rfl rfl rfl (by kernel_rfl) Tryz.func4 (by kernel_rfl)
    (of_decide_eq_true (by kernel_rfl)) (by unfold Func.isWrapper; first | (rw [if_pos (by decide +kernel)]; kernel_rfl) | (rw [if_neg (by decide +kernel)]; exact ⟨rfl, rfl⟩))
    (fun os started H enc _ F => by rw [OpenClaim.pre_eq_preRow]; exact JA os started H enc F)
end RowCheckCuts
theorem MB : Rows.CheckCutsUptoSaid := RowCheckCuts.over
theorem checkCutsUptoCard_holds : Rows.CheckCutsUptoCardSaid :=
  Claim7.holds_tied_plain_at .later [] _ _ _ _ MB (fun _ h => by cases h) (by kernel_rfl) (fun _ h => by cases h) LF rfl ⟨rfl, rfl⟩ (by kernel_rfl) rfl
    (fun f fn hf hfn => by
      obtain rfl : f = 4 := Option.some.inj ((show Tryz.prog.funcNamed "turnout/turnoutlaw30.CheckCuts" = some 4 by kernel_rfl).symm.trans hf) |>.symm
      obtain rfl : fn = Tryz.f4 := (Option.some.inj (Tryz.func4.symm.trans hfn)).symm
      exact ⟨by kernel_rfl, fun j t ht => by
        rw [Tryz.params4] at ht
        have hm : t ∈ [28, 3, 3, 54] := by simpa using Array.mem_of_getElem? ht
        have hall : ([28, 3, 3, 54].all fun u => !Tryz.prog.wantsStandIn u) = true := by kernel_rfl
        exact (show Tryz.prog.wantsStandIn t = false by simpa using List.all_eq_true.1 hall t hm)⟩)
    (by kernel_rfl)
end Go.Proofs.YtgoifghhcekahaaGreatDoor
