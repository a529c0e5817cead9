/- A statement of layer 27. Conditions: none. -/
import Derived.Test.YtpckgggmgijiiaaGreatDooreN27E
import Derived.Test.YtpckgggmgijiiaaGreatDooreOA
import Derived.ProofKit
import Derived.OpenShut
import Derived.Carry
import Derived.Lib.SmallJoins
import Derived.Test.YtpckgggmgijiiaaGreatDooreTie
import Derived.Test.YtpckgggmgijiiaaGreatDooreCards
import Derived.SevenTiedAt
import Derived.Stop.Joined
import Derived.LaidMore
import Derived.MakeChecks
import Derived.Lay
namespace Go.Proofs.YtpckgggmgijiiaaGreatDoor
open Go Go.RowKit
set_option linter.unusedVariables false
set_option linter.unusedSimpArgs false
set_option maxRecDepth 20000
theorem wO : ∀ N,OV Tryz.prog 24 Sn Tr24.cnt N := OV.knot Za (of := Tr24.of) (fun _ => rfl) (fun p => by show Tr24.cnt (.mk p.1 p.2.1 p.2.2.1 p.2.2.2) = _; rw [Tr24.cnt]; simp [Nat.add_assoc]) (fun N h => OV.struct Tryz.underlying24 (by kernel_rfl) (IL.cons (by rfl) (by kernel_rfl) (OV.flat (DJ.int Tryz.underlying3)) (IL.cons (by rfl) (by kernel_rfl) (OV.flat (DJ.int Tryz.underlying3)) (IL.cons (by rfl) (by kernel_rfl) (OV.flat (DJ.int Tryz.underlying3)) (IL.one (by rfl) (by kernel_rfl) (OV.slice Tryz.underlying22 (by kernel_rfl) (by decide) h))))))
theorem rE : ∀ N,OV Tryz.prog 27 U6 Tr27.cnt N := OV.knot fL (of := Tr27.of) (fun _ => rfl) (fun p => by show Tr27.cnt (.mk p.1 p.2.1 p.2.2.1 p.2.2.2.1 p.2.2.2.2) = _; rw [Tr27.cnt]; simp [Nat.add_assoc]) (fun N h => OV.struct Tryz.underlying27 (by kernel_rfl) (IL.cons (by rfl) (by kernel_rfl) (OV.flat (DJ.int Tryz.underlying3)) (IL.cons (by rfl) (by kernel_rfl) (wO N) (IL.cons (by rfl) (by kernel_rfl) (OV.flat (DJ.int Tryz.underlying3)) (IL.cons (by rfl) (by kernel_rfl) (OV.flat (DJ.int Tryz.underlying3)) (IL.one (by rfl) (by kernel_rfl) (OV.slice Tryz.underlying25 (by kernel_rfl) (by decide) h)))))))
theorem P29 : DJ Tryz.prog 29 wA (rH (fun n => (Lit.int .i64 n).wf = true) (rH (fun n => (Lit.int .i64 n).wf = true) (rH (fun n => (Lit.int .i64 n).wf = true) (fun n => (Lit.int .i64 n).wf = true)))) := DJ.array Tryz.underlying29 (by kernel_rfl) (HU.cons (by kernel_rfl) (by decide) (DJ.int Tryz.underlying3) (HU.cons (by kernel_rfl) (by decide) (DJ.int Tryz.underlying3) (HU.cons (by kernel_rfl) (by decide) (DJ.int Tryz.underlying3) (HU.one (by kernel_rfl) (DJ.int Tryz.underlying3)))))
namespace RowPolicyTells
open Go.ChangeShapes Go.WideShapes Go.ChangeAt Go.RowKit Go.Joins
open Go.ChangeMaps (open_string shut_string)
theorem own : ownKnob Tryz.prog.godebug = none := by kernel_rfl
theorem Mp : laidOutB Tryz.prog = true := by kernel_rfl
theorem gN (os : Os) (args : Array Value) : laidMet Tryz.prog Rows.policyTellsUptoRow.laid ((World.doorLaid Tryz.prog 24 os).forCall (fun _ _ => 0) ⟨#[],args,[]⟩).memory := laidMet_of_run' 8 (by kernel_rfl) (by kernel_rfl)
theorem reads (os : Os) {H : Type} (enc : TypeId × Value → H) : ∃ places,DataW.whole enc Tryz.prog ((World.doorLaid Tryz.prog 24 os).forCall (fun _ _ => 0) ⟨#[], #[.agg #[.int .i64 0,.int .i64 0,.int .i64 0,.int .i64 0,.slice none 0 0,.int .i64 0,.int .i64 0,.slice none 0 0],.agg #[.int .i64 0,.int .i64 0,.int .i64 0,.int .i64 0,.slice none 0 0,.int .i64 0,.int .i64 0,.slice none 0 0],.int .i64 0,.int .i64 0,.agg #[.int .i64 0,.int .i64 0,.int .i64 0,.int .i64 0],.int .i64 0],[]⟩).memory Tryz.f3.params.toList Rows.policyTellsSpec.vars false (#[.agg #[.int .i64 0,.int .i64 0,.int .i64 0,.int .i64 0,.slice none 0 0,.int .i64 0,.int .i64 0,.slice none 0 0],.agg #[.int .i64 0,.int .i64 0,.int .i64 0,.int .i64 0,.slice none 0 0,.int .i64 0,.int .i64 0,.slice none 0 0],.int .i64 0,.int .i64 0,.agg #[.int .i64 0,.int .i64 0,.int .i64 0,.int .i64 0],.int .i64 0] : Array Value).toList 8 = some ([.agg [.lit (.int .i64 0),.agg [.lit (.int .i64 0),.lit (.int .i64 0),.lit (.int .i64 0),.nil],.lit (.int .i64 0),.lit (.int .i64 0),.nil],.agg [.lit (.int .i64 0),.agg [.lit (.int .i64 0),.lit (.int .i64 0),.lit (.int .i64 0),.nil],.lit (.int .i64 0),.lit (.int .i64 0),.nil],.lit (.int .i64 0),.lit (.int .i64 0),.agg [.lit (.int .i64 0),.lit (.int .i64 0),.lit (.int .i64 0),.lit (.int .i64 0)],.lit (.int .i64 0)],[],places) := ⟨[],by kernel_rfl⟩
set_option maxRecDepth 100000 in
theorem O7 (os : Os) (started : os.Started) (H : Type) (enc : TypeId × Value → H) (F : Stop.Interp) :
    ReturnsInHanded {} Tryz.checked os 3 .any ((Rows.OpenSpec.upto Rows.policyTellsSpec).preRow enc Tryz.prog Tryz.f3 Rows.policyTellsUptoRow.domain false Rows.policyTellsUptoRow.laid) (((Rows.OpenSpec.upto Rows.policyTellsSpec).at F).post enc Tryz.prog Tryz.f3 false true false false) := by
  obtain ⟨places,hx⟩ := reads os enc
  refine returnsInHanded_of_row (C := Tryz.checked) (s := Rows.OpenSpec.upto Rows.policyTellsSpec) own started (by kernel_rfl) Tryz.func3
    (UZ (enc := enc) (C := Tryz.checked) (os := os) false (World.doorLaid Tryz.prog 24 os) #[.agg #[.int .i64 0,.int .i64 0,.int .i64 0,.int .i64 0,.slice none 0 0,.int .i64 0,.int .i64 0,.slice none 0 0],.agg #[.int .i64 0,.int .i64 0,.int .i64 0,.int .i64 0,.slice none 0 0,.int .i64 0,.int .i64 0,.slice none 0 0],.int .i64 0,.int .i64 0,.agg #[.int .i64 0,.int .i64 0,.int .i64 0,.int .i64 0],.int .i64 0] rfl (World.shaped_of_RefB (by kernel_rfl) (by kernel_rfl)) (by kernel_rfl)
      (OpenSpec.preRow_of_cond 8 hx (by kernel_rfl) (fun k hk => by cases hk; kernel_rfl) (by kernel_rfl) (gN os _))) ?_
  intro W base args ds gs before hval0 hW hcnd hcond _ hL hsh _
  have hk := hcond _ rfl
  have lm := aN hL rfl
  have hval : ∀ (j : Nat) t v,Tryz.f3.params[j]? = some t → args[j]? = some v → Value.okWide Tryz.prog W .any base t v := hval0
  have hW' := hW
  obtain ⟨p,q,hA0,hV,rfl,hfz,hnd⟩ := hW
  have hA : DataW.TrodAll enc Tryz.prog W 0 (fun _ => true) true Tryz.f3.params.toList args.toList ds p := hA0
  rw [Tryz.params3] at hA hval
  obtain ⟨v0,vs0,d0,ds0,p0,q0,hargs,rfl,rfl,h0,r0⟩ := trodAll_cons hA
  obtain ⟨v1,vs1,d1,ds1,p1,q1,rfl,rfl,rfl,h1,r1⟩ := trodAll_cons r0
  obtain ⟨v2,vs2,d2,ds2,p2,q2,rfl,rfl,rfl,h2,r2⟩ := trodAll_cons r1
  obtain ⟨v3,vs3,d3,ds3,p3,q3,rfl,rfl,rfl,h3,r3⟩ := trodAll_cons r2
  obtain ⟨v4,vs4,d4,ds4,p4,q4,rfl,rfl,rfl,h4,r4⟩ := trodAll_cons r3
  obtain ⟨v5,vs5,d5,ds5,p5,q5,rfl,rfl,rfl,h5,r5⟩ := trodAll_cons r4
  obtain ⟨rfl,rfl,rfl⟩ := trodAll_nil r5
  obtain rfl : args = #[v0,v1,v2,v3,v4,v5] := by cases args; simp_all
  obtain ⟨rfl,rfl⟩ := trodVars_none hV
  have k0 := h0
  have lt0 : ∀ x ∈ p0,x.block < W.heap.size := by obtain ⟨m,hm⟩ := k0; exact DataW.trod_lt m _ _ _ hm
  have k1 := h1
  have lt1 : ∀ x ∈ p1,x.block < W.heap.size := by obtain ⟨m,hm⟩ := k1; exact DataW.trod_lt m _ _ _ hm
  have k2 := h2
  have lt2 : ∀ x ∈ p2,x.block < W.heap.size := by obtain ⟨m,hm⟩ := k2; exact DataW.trod_lt m _ _ _ hm
  have k3 := h3
  have lt3 : ∀ x ∈ p3,x.block < W.heap.size := by obtain ⟨m,hm⟩ := k3; exact DataW.trod_lt m _ _ _ hm
  have k4 := h4
  have lt4 : ∀ x ∈ p4,x.block < W.heap.size := by obtain ⟨m,hm⟩ := k4; exact DataW.trod_lt m _ _ _ hm
  have k5 := h5
  have lt5 : ∀ x ∈ p5,x.block < W.heap.size := by obtain ⟨m,hm⟩ := k5; exact DataW.trod_lt m _ _ _ hm
  have hb : Rows.uptoBulkAll _ ≤ 1048576 := of_decide_eq_true hk
  simp only [List.append_nil,List.nil_append,List.cons_append,Rows.uptoBulkAll] at hb
  obtain ⟨fu0,hf0⟩ := h0
  obtain ⟨a0,hr0,hs0⟩ := rE fu0 _ _ _ _ _ _ _ _ (Nat.le_refl _) hf0
  have ok0 : a0.cnt ≤ 1048576 := Nat.le_trans hs0 (by show Rows.uptoBulk d0 ≤ _; omega)
  obtain ⟨cs0,rfl⟩ := Vh Tryz.underlying27 (hval 0 27 v0 rfl rfl)
  obtain ⟨ca0_1,cb0_1,e0,ha0_1,hb0_1⟩ := (tV.1 hr0)
  obtain rfl := (Fl.int).to ha0_1
  obtain ⟨ca0_2,cb0_2,rfl,ha0_2,hb0_2⟩ := hb0_1
  obtain ⟨ca0_3,cb0_3,rfl,ha0_3,hb0_3⟩ := (rP.1 ha0_2)
  obtain rfl := (Fl.int).to ha0_3
  obtain ⟨ca0_4,cb0_4,rfl,ha0_4,hb0_4⟩ := hb0_3
  obtain rfl := (Fl.int).to ha0_4
  obtain ⟨ca0_5,cb0_5,rfl,ha0_5,hb0_5⟩ := hb0_4
  obtain rfl := (Fl.int).to ha0_5
  obtain ⟨y0_6,rfl,s0_6⟩ := hb0_5
  obtain ⟨ca0_7,cb0_7,rfl,ha0_7,hb0_7⟩ := hb0_2
  obtain rfl := (Fl.int).to ha0_7
  obtain ⟨ca0_8,cb0_8,rfl,ha0_8,hb0_8⟩ := hb0_7
  obtain rfl := (Fl.int).to ha0_8
  obtain ⟨y0_9,rfl,s0_9⟩ := hb0_8
  obtain rfl := (show cs0 = (Value.agg cs0).cells.toList.toArray by simp [Value.cells]).trans (congrArg List.toArray e0)
  obtain ⟨fu1,hf1⟩ := h1
  obtain ⟨a1,hr1,hs1⟩ := rE fu1 _ _ _ _ _ _ _ _ (Nat.le_refl _) hf1
  have ok1 : a1.cnt ≤ 1048576 := Nat.le_trans hs1 (by show Rows.uptoBulk d1 ≤ _; omega)
  obtain ⟨cs1,rfl⟩ := Vh Tryz.underlying27 (hval 1 27 v1 rfl rfl)
  obtain ⟨ca1_1,cb1_1,e1,ha1_1,hb1_1⟩ := (tV.1 hr1)
  obtain rfl := (Fl.int).to ha1_1
  obtain ⟨ca1_2,cb1_2,rfl,ha1_2,hb1_2⟩ := hb1_1
  obtain ⟨ca1_3,cb1_3,rfl,ha1_3,hb1_3⟩ := (rP.1 ha1_2)
  obtain rfl := (Fl.int).to ha1_3
  obtain ⟨ca1_4,cb1_4,rfl,ha1_4,hb1_4⟩ := hb1_3
  obtain rfl := (Fl.int).to ha1_4
  obtain ⟨ca1_5,cb1_5,rfl,ha1_5,hb1_5⟩ := hb1_4
  obtain rfl := (Fl.int).to ha1_5
  obtain ⟨y1_6,rfl,s1_6⟩ := hb1_5
  obtain ⟨ca1_7,cb1_7,rfl,ha1_7,hb1_7⟩ := hb1_2
  obtain rfl := (Fl.int).to ha1_7
  obtain ⟨ca1_8,cb1_8,rfl,ha1_8,hb1_8⟩ := hb1_7
  obtain rfl := (Fl.int).to ha1_8
  obtain ⟨y1_9,rfl,s1_9⟩ := hb1_8
  obtain rfl := (show cs1 = (Value.agg cs1).cells.toList.toArray by simp [Value.cells]).trans (congrArg List.toArray e1)
  obtain ⟨fu2,hf2⟩ := h2
  obtain ⟨a2,hr2,ok2⟩ := (DJ.int Tryz.underlying3) _ _ _ _ _ _ _ _ hf2
  rw [QR Tryz.underlying3 rfl (hval 2 3 v2 rfl rfl)] at hr2
  obtain rfl := (List.cons.inj hr2).1
  obtain ⟨fu3,hf3⟩ := h3
  obtain ⟨a3,hr3,ok3⟩ := (DJ.int Tryz.underlying3) _ _ _ _ _ _ _ _ hf3
  rw [QR Tryz.underlying3 rfl (hval 3 3 v3 rfl rfl)] at hr3
  obtain rfl := (List.cons.inj hr3).1
  obtain ⟨fu4,hf4⟩ := h4
  obtain ⟨a4,hr4,ok4⟩ := P29 _ _ _ _ _ _ _ _ hf4
  obtain ⟨cs4,rfl⟩ := fY Tryz.underlying29 (hval 4 29 v4 rfl rfl)
  obtain rfl : cs4 = (E29 a4).toArray := by have e := zL.to hr4; rw [← e]; simp [Value.cells]
  obtain ⟨fu5,hf5⟩ := h5
  obtain ⟨a5,hr5,ok5⟩ := (DJ.int Tryz.underlying3) _ _ _ _ _ _ _ _ hf5
  rw [QR Tryz.underlying3 rfl (hval 5 3 v5 rfl rfl)] at hr5
  obtain rfl := (List.cons.inj hr5).1
  clear hA0 hval0
  have hG : Gk [] W := ⟨⟨Xo (g := 0) (Ts (Ts lm)) (by kernel_rfl) (by kernel_rfl) Tryz.underlying172 Tryz.underlying138 (by kernel_rfl) (by kernel_rfl)⟩,fun g hg hm => by cases hm⟩
  refine (NY any W y0_6 y0_9 y1_6 y1_9 a0 a1 a2 a3 a4 a5 true (OZ a0 ok0 a1 ok1 a2 ok2 a3 ok3 a4 ok4 a5 ok5) s0_6.nx s0_9.nx s1_6.nx s1_9.nx hG).mono fun e W' ⟨he,bel⟩ => ?_
  subst he
  exact ⟨_,rfl,_,_,_,[],_,[],hW',trodAll_mk1 (shut_bool Tryz.underlying4 _),(trodAll_cons_mk (Below.trod Mp (by kernel_rfl) (of_decide_eq_true (by kernel_rfl)) k0 bel lt0) (trodAll_cons_mk (Below.trod Mp (by kernel_rfl) (of_decide_eq_true (by kernel_rfl)) k1 bel lt1) (trodAll_cons_mk (Below.trod Mp (by kernel_rfl) (of_decide_eq_true (by kernel_rfl)) k2 bel lt2) (trodAll_cons_mk (Below.trod Mp (by kernel_rfl) (of_decide_eq_true (by kernel_rfl)) k3 bel lt3) (trodAll_cons_mk (Below.trod Mp (by kernel_rfl) (of_decide_eq_true (by kernel_rfl)) k4 bel lt4) (trodAll_cons_mk (Below.trod Mp (by kernel_rfl) (of_decide_eq_true (by kernel_rfl)) k5 bel lt5) trodAll_mk0)))))),rfl,bel.frame _,fun h => by cases h⟩
theorem over : Rows.policyTellsUptoRow.holds Tryz.pinned (Rows.OpenSpec.upto Rows.policyTellsSpec) :=
  OpenClaim.holds_of_cond 3 Tryz.f3 rfl rfl rfl rfl rfl rfl rfl ⟨rfl,rfl,rfl,rfl,rfl⟩ rfl rfl rfl rfl rfl (by kernel_rfl) Tryz.func3 (by kernel_rfl)
    (of_decide_eq_true (by kernel_rfl)) (by unfold Func.isWrapper; first | (rw [if_pos (by decide +kernel)]; kernel_rfl) | (rw [if_neg (by decide +kernel)]; exact ⟨rfl,rfl⟩))
    (fun os started H enc _ F => by rw [OpenClaim.pre_eq_preRow]; exact O7 os started H enc F)
end RowPolicyTells
theorem Lb : Rows.PolicyTellsUptoSaid := RowPolicyTells.over
theorem policyTellsUptoCard_holds : Rows.PolicyTellsUptoCardSaid :=
  Claim7.holds_tied_plain_at .later [] _ _ _ _ Lb (fun _ h => by cases h) (by kernel_rfl) (fun _ h => by cases h) Kk rfl ⟨rfl,rfl⟩ (by kernel_rfl) rfl
    (fun f fn hf hfn => by
      obtain rfl : f = 3 := Option.some.inj ((show Tryz.prog.funcNamed "turnout/turnoutlaw27.PolicyTells" = some 3 by kernel_rfl).symm.trans hf) |>.symm
      obtain rfl : fn = Tryz.f3 := (Option.some.inj (Tryz.func3.symm.trans hfn)).symm
      exact ⟨by kernel_rfl,fun j t ht => by
        rw [Tryz.params3] at ht
        have hm : t ∈ [27,27,3,3,29,3] := by simpa using Array.mem_of_getElem? ht
        have hall : ([27,27,3,3,29,3].all fun u => !Tryz.prog.wantsStandIn u) = true := by kernel_rfl
        exact (show Tryz.prog.wantsStandIn t = false by simpa using List.all_eq_true.1 hall t hm)⟩)
    (by kernel_rfl)
end Go.Proofs.YtpckgggmgijiiaaGreatDoor
