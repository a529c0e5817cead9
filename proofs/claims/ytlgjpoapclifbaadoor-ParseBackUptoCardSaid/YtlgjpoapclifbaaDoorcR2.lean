/- The statements of layer 29. Conditions: none. -/
import Derived.Test.YtlgjpoapclifbaaDoorcM29B
import Derived.Test.YtlgjpoapclifbaaDoorcOA
import Derived.Test.YtlgjpoapclifbaaDoorcOU
import Derived.ProofKit
import Derived.OpenShut
import Derived.Carry
import Derived.Lib.SmallJoins
import Derived.Test.YtlgjpoapclifbaaDoorcTie
import Derived.Test.YtlgjpoapclifbaaDoorcCards
import Derived.SevenTiedAt
import Derived.Stop.Joined
import Derived.LaidMore
import Derived.MakeChecks
import Derived.Lay
namespace Go.Proofs.YtlgjpoapclifbaaDoor
open Go Go.RowKit
set_option linter.unusedVariables false
set_option linter.unusedSimpArgs false
set_option maxRecDepth 20000
theorem UI : ∀ N, KD Tryd.prog 34 CS Tr34.cnt N := KD.knot RP (of := Tr34.of) (fun _ => rfl) (fun p => by show Tr34.cnt (.mk p.1 p.2.1 p.2.2.1 p.2.2.2) = _; rw [Tr34.cnt]; simp [Nat.add_assoc]) (fun N h => KD.struct Tryd.underlying34 (by kernel_rfl) (GS.cons (by rfl) (by kernel_rfl) (KD.flat (EW.int Tryd.underlying3)) (GS.cons (by rfl) (by kernel_rfl) (KD.flat (EW.int Tryd.underlying3)) (GS.cons (by rfl) (by kernel_rfl) (KD.flat (EW.int Tryd.underlying3)) (GS.one (by rfl) (by kernel_rfl) (KD.slice Tryd.underlying32 (by kernel_rfl) (by decide) h))))))
theorem VB : ∀ N, KD Tryd.prog 37 Ff Tr37.cnt N := KD.knot Te (of := Tr37.of) (fun _ => rfl) (fun p => by show Tr37.cnt (.mk p.1 p.2.1 p.2.2.1 p.2.2.2.1 p.2.2.2.2) = _; rw [Tr37.cnt]; simp [Nat.add_assoc]) (fun N h => KD.struct Tryd.underlying37 (by kernel_rfl) (GS.cons (by rfl) (by kernel_rfl) (KD.flat (EW.int Tryd.underlying3)) (GS.cons (by rfl) (by kernel_rfl) (UI N) (GS.cons (by rfl) (by kernel_rfl) (KD.flat (EW.int Tryd.underlying3)) (GS.cons (by rfl) (by kernel_rfl) (KD.flat (EW.int Tryd.underlying3)) (GS.one (by rfl) (by kernel_rfl) (KD.slice Tryd.underlying35 (by kernel_rfl) (by decide) h)))))))
namespace RowParseBack
open Go.ChangeShapes Go.WideShapes Go.ChangeAt Go.RowKit Go.Joins
open Go.ChangeMaps (open_string shut_string)
theorem own : ownKnob Tryd.prog.godebug = none := by kernel_rfl
theorem Q7 : laidOutB Tryd.prog = true := by kernel_rfl
theorem SU (os : Os) (args : Array Value) : laidMet Tryd.prog Rows.parseBackUptoRow.laid ((World.doorLaid Tryd.prog 24 os).forCall (fun _ _ => 0) ⟨#[], args, []⟩).memory := laidMet_of_run' 8 (by kernel_rfl) (by kernel_rfl)
theorem reads (os : Os) {H : Type} (enc : TypeId × Value → H) : ∃ places, DataW.whole enc Tryd.prog ((World.doorLaid Tryd.prog 24 os).forCall (fun _ _ => 0) ⟨#[], #[.agg #[.int .i64 0, .int .i64 0, .int .i64 0, .int .i64 0, .slice none 0 0, .int .i64 0, .int .i64 0, .slice none 0 0], .agg #[.int .i64 0, .int .i64 0, .int .i64 0, .slice none 0 0]], []⟩).memory Tryd.f4.params.toList Rows.parseBackSpec.vars false (#[.agg #[.int .i64 0, .int .i64 0, .int .i64 0, .int .i64 0, .slice none 0 0, .int .i64 0, .int .i64 0, .slice none 0 0], .agg #[.int .i64 0, .int .i64 0, .int .i64 0, .slice none 0 0]] : Array Value).toList 8 = some ([.agg [.lit (.int .i64 0), .agg [.lit (.int .i64 0), .lit (.int .i64 0), .lit (.int .i64 0), .nil], .lit (.int .i64 0), .lit (.int .i64 0), .nil], .agg [.lit (.int .i64 0), .lit (.int .i64 0), .lit (.int .i64 0), .nil]], [], places) := ⟨[], by kernel_rfl⟩
set_option maxRecDepth 100000 in
theorem E5 (os : Os) (started : os.Started) (H : Type) (enc : TypeId × Value → H) (F : Stop.Interp) :
    ReturnsInHanded {} Tryd.checked os 4 .any ((Rows.OpenSpec.upto Rows.parseBackSpec).preRow enc Tryd.prog Tryd.f4 Rows.parseBackUptoRow.domain false Rows.parseBackUptoRow.laid) (((Rows.OpenSpec.upto Rows.parseBackSpec).at F).post enc Tryd.prog Tryd.f4 false true false false) := by
  obtain ⟨places, hx⟩ := reads os enc
  refine returnsInHanded_of_row (C := Tryd.checked) (s := Rows.OpenSpec.upto Rows.parseBackSpec) own started (by kernel_rfl) Tryd.func4
    (NS (enc := enc) (C := Tryd.checked) (os := os) false (World.doorLaid Tryd.prog 24 os) #[.agg #[.int .i64 0, .int .i64 0, .int .i64 0, .int .i64 0, .slice none 0 0, .int .i64 0, .int .i64 0, .slice none 0 0], .agg #[.int .i64 0, .int .i64 0, .int .i64 0, .slice none 0 0]] rfl (World.shaped_of_RefB (by kernel_rfl) (by kernel_rfl)) (by kernel_rfl)
      (OpenSpec.preRow_of_cond 8 hx (by kernel_rfl) (fun k hk => by cases hk; kernel_rfl) (by kernel_rfl) (SU os _))) ?_
  intro W base args ds gs before hval0 hW hcnd hcond _ hL hsh _
  have hk := hcond _ rfl
  have lm := Sc hL rfl
  have hval : ∀ (j : Nat) t v, Tryd.f4.params[j]? = some t → args[j]? = some v → Value.okWide Tryd.prog W .any base t v := hval0
  have hW' := hW
  obtain ⟨p, q, hA0, hV, rfl, hfz, hnd⟩ := hW
  have hA : DataW.TrodAll enc Tryd.prog W 0 (fun _ => true) true Tryd.f4.params.toList args.toList ds p := hA0
  rw [Tryd.params4] at hA hval
  obtain ⟨v0, vs0, d0, ds0, p0, q0, hargs, rfl, rfl, h0, r0⟩ := trodAll_cons hA
  obtain ⟨v1, vs1, d1, ds1, p1, q1, rfl, rfl, rfl, h1, r1⟩ := trodAll_cons r0
  obtain ⟨rfl, rfl, rfl⟩ := trodAll_nil r1
  obtain rfl : args = #[v0, v1] := by cases args; simp_all
  obtain ⟨rfl, rfl⟩ := trodVars_none hV
  have k0 := h0
  have lt0 : ∀ x ∈ p0, x.block < W.heap.size := by obtain ⟨m, hm⟩ := k0; exact DataW.trod_lt m _ _ _ hm
  have k1 := h1
  have lt1 : ∀ x ∈ p1, x.block < W.heap.size := by obtain ⟨m, hm⟩ := k1; exact DataW.trod_lt m _ _ _ hm
  have hb : Rows.uptoBulkAll _ ≤ 1048576 := of_decide_eq_true hk
  simp only [List.append_nil, List.nil_append, List.cons_append, Rows.uptoBulkAll] at hb
  obtain ⟨fu0, hf0⟩ := h0
  obtain ⟨a0, hr0, hs0⟩ := VB fu0 _ _ _ _ _ _ _ _ (Nat.le_refl _) hf0
  have ok0 : a0.cnt ≤ 1048576 := Nat.le_trans hs0 (by show Rows.uptoBulk d0 ≤ _; omega)
  obtain ⟨cs0, rfl⟩ := O6 Tryd.underlying37 (hval 0 37 v0 rfl rfl)
  obtain ⟨ca0_1, cb0_1, e0, ha0_1, hb0_1⟩ := (UL.1 hr0)
  obtain rfl := (Fl.int).to ha0_1
  obtain ⟨ca0_2, cb0_2, rfl, ha0_2, hb0_2⟩ := hb0_1
  obtain ⟨ca0_3, cb0_3, rfl, ha0_3, hb0_3⟩ := (S8.1 ha0_2)
  obtain rfl := (Fl.int).to ha0_3
  obtain ⟨ca0_4, cb0_4, rfl, ha0_4, hb0_4⟩ := hb0_3
  obtain rfl := (Fl.int).to ha0_4
  obtain ⟨ca0_5, cb0_5, rfl, ha0_5, hb0_5⟩ := hb0_4
  obtain rfl := (Fl.int).to ha0_5
  obtain ⟨y0_6, rfl, s0_6⟩ := hb0_5
  obtain ⟨ca0_7, cb0_7, rfl, ha0_7, hb0_7⟩ := hb0_2
  obtain rfl := (Fl.int).to ha0_7
  obtain ⟨ca0_8, cb0_8, rfl, ha0_8, hb0_8⟩ := hb0_7
  obtain rfl := (Fl.int).to ha0_8
  obtain ⟨y0_9, rfl, s0_9⟩ := hb0_8
  obtain rfl := (show cs0 = (Value.agg cs0).cells.toList.toArray by simp [Value.cells]).trans (congrArg List.toArray e0)
  obtain ⟨fu1, hf1⟩ := h1
  obtain ⟨a1, hr1, hs1⟩ := UI fu1 _ _ _ _ _ _ _ _ (Nat.le_refl _) hf1
  have ok1 : a1.cnt ≤ 1048576 := Nat.le_trans hs1 (by show Rows.uptoBulk d1 ≤ _; omega)
  obtain ⟨cs1, rfl⟩ := O6 Tryd.underlying34 (hval 1 34 v1 rfl rfl)
  obtain ⟨ca1_1, cb1_1, e1, ha1_1, hb1_1⟩ := (S8.1 hr1)
  obtain rfl := (Fl.int).to ha1_1
  obtain ⟨ca1_2, cb1_2, rfl, ha1_2, hb1_2⟩ := hb1_1
  obtain rfl := (Fl.int).to ha1_2
  obtain ⟨ca1_3, cb1_3, rfl, ha1_3, hb1_3⟩ := hb1_2
  obtain rfl := (Fl.int).to ha1_3
  obtain ⟨y1_4, rfl, s1_4⟩ := hb1_3
  obtain rfl := (show cs1 = (Value.agg cs1).cells.toList.toArray by simp [Value.cells]).trans (congrArg List.toArray e1)
  clear hA0 hval0
  have hG : Gk [] W := ⟨⟨Qh (g := 0) (Nn (Nn lm)) (by kernel_rfl) (by kernel_rfl) Tryd.underlying150 Tryd.underlying137 (by kernel_rfl) (by kernel_rfl)⟩, fun g hg hm => by cases hm⟩
  refine (Lm any W y0_6 y0_9 y1_4 a0 a1 true (Ms a0 ok0 a1 ok1) s0_6.nx s0_9.nx s1_4.nx hG).mono fun e W' ⟨he, bel⟩ => ?_
  subst he
  exact ⟨_, rfl, _, _, _, [], _, [], hW', trodAll_mk1 (shut_bool Tryd.underlying4 _), (trodAll_cons_mk (Below.trod Q7 (by kernel_rfl) (of_decide_eq_true (by kernel_rfl)) k0 bel lt0) (trodAll_cons_mk (Below.trod Q7 (by kernel_rfl) (of_decide_eq_true (by kernel_rfl)) k1 bel lt1) trodAll_mk0)), rfl, bel.frame _, fun h => by cases h⟩
theorem over : Rows.parseBackUptoRow.holds Tryd.pinned (Rows.OpenSpec.upto Rows.parseBackSpec) :=
  OpenClaim.holds_of_cond 4 Tryd.f4 rfl rfl rfl rfl rfl rfl rfl ⟨rfl, rfl, rfl, rfl, rfl⟩ rfl rfl rfl rfl rfl (by kernel_rfl) Tryd.func4 (by kernel_rfl)
    (of_decide_eq_true (by kernel_rfl)) (by unfold Func.isWrapper; first | (rw [if_pos (by decide +kernel)]; kernel_rfl) | (rw [if_neg (by decide +kernel)]; exact ⟨rfl, rfl⟩))
    (fun os started H enc _ F => by rw [OpenClaim.pre_eq_preRow]; exact E5 os started H enc F)
end RowParseBack
theorem Jt : Rows.ParseBackUptoSaid := RowParseBack.over
theorem parseBackUptoCard_holds : Rows.ParseBackUptoCardSaid :=
  Claim7.holds_tied_plain_at .later [] _ _ _ _ Jt (fun _ h => by cases h) (by kernel_rfl) (fun _ h => by cases h) IC rfl ⟨rfl, rfl⟩ (by kernel_rfl) rfl
    (fun f fn hf hfn => by
      obtain rfl : f = 4 := Option.some.inj ((show Tryd.prog.funcNamed "turnout/turnoutlaw29.ParseBack" = some 4 by kernel_rfl).symm.trans hf) |>.symm
      obtain rfl : fn = Tryd.f4 := (Option.some.inj (Tryd.func4.symm.trans hfn)).symm
      exact ⟨by kernel_rfl, fun j t ht => by
        rw [Tryd.params4] at ht
        have hm : t ∈ [37, 34] := by simpa using Array.mem_of_getElem? ht
        have hall : ([37, 34].all fun u => !Tryd.prog.wantsStandIn u) = true := by kernel_rfl
        exact (show Tryd.prog.wantsStandIn t = false by simpa using List.all_eq_true.1 hall t hm)⟩)
    (by kernel_rfl)
end Go.Proofs.YtlgjpoapclifbaaDoor
