/- A statement of layer 31. Conditions: none. -/
import Derived.Test.YtkhiflmalgkjiaaGreatfN31P
import Derived.Test.YtkhiflmalgkjiaaGreatfOA
import Derived.ProofKit
import Derived.OpenShut
import Derived.Carry
import Derived.Lib.SmallJoins
import Derived.SevenTiedAt
import Derived.Stop.Joined
import Derived.LaidMore
import Derived.MakeChecks
import Derived.Lay
set_option linter.unusedVariables false
set_option linter.unusedSimpArgs false
open Go Go.RowKit
namespace Go.Proofs.YtkhiflmalgkjiaaGreat
set_option maxRecDepth 20000
theorem Aac : ∀ N,PO Tryz.prog 24 aC Tr24.cnt N := PO.knot bM (of := Tr24.of) (fun _ => rfl) (fun p => by show Tr24.cnt (.mk p.1 p.2.1 p.2.2.1 p.2.2.2) = _; rw [Tr24.cnt]; simp [Nat.add_assoc]) (fun N h => PO.struct Tryz.underlying24 (by kernel_rfl) (JK.cons (by rfl) (by kernel_rfl) (PO.flat (Ee.int Tryz.underlying3)) (JK.cons (by rfl) (by kernel_rfl) (PO.flat (Ee.int Tryz.underlying3)) (JK.cons (by rfl) (by kernel_rfl) (PO.flat (Ee.int Tryz.underlying3)) (JK.one (by rfl) (by kernel_rfl) (PO.slice Tryz.underlying22 (by kernel_rfl) (by decide) h))))))
theorem Aaz : ∀ N,PO Tryz.prog 27 bZ Tr27.cnt N := PO.knot gX (of := Tr27.of) (fun _ => rfl) (fun p => by show Tr27.cnt (.mk p.1 p.2.1 p.2.2.1 p.2.2.2.1 p.2.2.2.2) = _; rw [Tr27.cnt]; simp [Nat.add_assoc]) (fun N h => PO.struct Tryz.underlying27 (by kernel_rfl) (JK.cons (by rfl) (by kernel_rfl) (PO.flat (Ee.int Tryz.underlying3)) (JK.cons (by rfl) (by kernel_rfl) (Aac N) (JK.cons (by rfl) (by kernel_rfl) (PO.flat (Ee.int Tryz.underlying3)) (JK.cons (by rfl) (by kernel_rfl) (PO.flat (Ee.int Tryz.underlying3)) (JK.one (by rfl) (by kernel_rfl) (PO.slice Tryz.underlying25 (by kernel_rfl) (by decide) h)))))))
theorem P29 : Ee Tryz.prog 29 y7 (xJ (fun n => (Lit.int .i64 n).wf = true) (xJ (fun n => (Lit.int .i64 n).wf = true) (xJ (fun n => (Lit.int .i64 n).wf = true) (fun n => (Lit.int .i64 n).wf = true)))) := Ee.array Tryz.underlying29 (by kernel_rfl) (IE.cons (by kernel_rfl) (by decide) (Ee.int Tryz.underlying3) (IE.cons (by kernel_rfl) (by decide) (Ee.int Tryz.underlying3) (IE.cons (by kernel_rfl) (by decide) (Ee.int Tryz.underlying3) (IE.one (by kernel_rfl) (Ee.int Tryz.underlying3)))))
namespace RowTreeMeans
open Go.ChangeShapes Go.WideShapes Go.ChangeAt Go.RowKit Go.Joins
open Go.ChangeMaps (open_string shut_string)
theorem own : ownKnob Tryz.prog.godebug = none := by kernel_rfl
theorem Rc : laidOutB Tryz.prog = true := by kernel_rfl
theorem j5 (os : Os) (args : Array Value) : laidMet Tryz.prog Rows.treeMeansUptoRow.laid ((World.laidAll Tryz.prog os []).forCall (fun _ _ => 0) ⟨#[],args,[]⟩).memory := laidMet_laidAll _ (by kernel_rfl) (by kernel_rfl)
theorem reads (os : Os) {H : Type} (enc : TypeId × Value → H) : ∃ places,DataW.whole enc Tryz.prog ((World.laidAll Tryz.prog os []).forCall (fun _ _ => 0) ⟨#[], #[.agg #[.int .i64 0,.int .i64 0,.int .i64 0,.int .i64 0,.slice none 0 0,.int .i64 0,.int .i64 0,.slice none 0 0],.int .i64 0,.int .i64 0,.agg #[.int .i64 0,.int .i64 0,.int .i64 0,.int .i64 0]],[]⟩).memory Tryz.f4.params.toList Rows.treeMeansSpec.vars false (#[.agg #[.int .i64 0,.int .i64 0,.int .i64 0,.int .i64 0,.slice none 0 0,.int .i64 0,.int .i64 0,.slice none 0 0],.int .i64 0,.int .i64 0,.agg #[.int .i64 0,.int .i64 0,.int .i64 0,.int .i64 0]] : Array Value).toList 8 = some ([.agg [.lit (.int .i64 0),.agg [.lit (.int .i64 0),.lit (.int .i64 0),.lit (.int .i64 0),.nil],.lit (.int .i64 0),.lit (.int .i64 0),.nil],.lit (.int .i64 0),.lit (.int .i64 0),.agg [.lit (.int .i64 0),.lit (.int .i64 0),.lit (.int .i64 0),.lit (.int .i64 0)]],[],places) := ⟨[],by kernel_rfl⟩
set_option maxRecDepth 100000 in
theorem Sm (os : Os) (started : os.Started) (H : Type) (enc : TypeId × Value → H) (F : Stop.Interp) :
    ReturnsInHanded {} Tryz.checked os 4 .any ((Rows.OpenSpec.upto Rows.treeMeansSpec).preRow enc Tryz.prog Tryz.f4 Rows.treeMeansUptoRow.domain false Rows.treeMeansUptoRow.laid) (((Rows.OpenSpec.upto Rows.treeMeansSpec).at F).post enc Tryz.prog Tryz.f4 false true false false) := by
  obtain ⟨places,hx⟩ := reads os enc
  refine returnsInHanded_of_row (C := Tryz.checked) (s := Rows.OpenSpec.upto Rows.treeMeansSpec) own started (by kernel_rfl) Tryz.func4
    (VF (enc := enc) (C := Tryz.checked) (os := os) false (World.laidAll Tryz.prog os []) #[.agg #[.int .i64 0,.int .i64 0,.int .i64 0,.int .i64 0,.slice none 0 0,.int .i64 0,.int .i64 0,.slice none 0 0],.int .i64 0,.int .i64 0,.agg #[.int .i64 0,.int .i64 0,.int .i64 0,.int .i64 0]] (World.laidAll_os _ _ _) (World.shaped_of_ZipB (by kernel_rfl) (by kernel_rfl)) (by kernel_rfl)
      (OpenSpec.preRow_of_cond 8 hx (by kernel_rfl) (fun k hk => by cases hk; kernel_rfl) (by kernel_rfl) (j5 os _))) ?_
  intro W base args ds gs before hval0 hW hcnd hcond _ hL hsh _
  have hk := hcond _ rfl
  have hval : ∀ (j : Nat) t v,Tryz.f4.params[j]? = some t → args[j]? = some v → Value.okWide Tryz.prog W .any base t v := hval0
  have hW' := hW
  obtain ⟨p,q,hA0,hV,rfl,hfz,hnd⟩ := hW
  have hA : DataW.TrodAll enc Tryz.prog W 0 (fun _ => true) true Tryz.f4.params.toList args.toList ds p := hA0
  rw [Tryz.params4] at hA hval
  obtain ⟨v0,vs0,d0,ds0,p0,q0,hargs,rfl,rfl,h0,r0⟩ := trodAll_cons hA
  obtain ⟨v1,vs1,d1,ds1,p1,q1,rfl,rfl,rfl,h1,r1⟩ := trodAll_cons r0
  obtain ⟨v2,vs2,d2,ds2,p2,q2,rfl,rfl,rfl,h2,r2⟩ := trodAll_cons r1
  obtain ⟨v3,vs3,d3,ds3,p3,q3,rfl,rfl,rfl,h3,r3⟩ := trodAll_cons r2
  obtain ⟨rfl,rfl,rfl⟩ := trodAll_nil r3
  obtain rfl : args = #[v0,v1,v2,v3] := by cases args; simp_all
  obtain ⟨rfl,rfl⟩ := trodVars_none hV
  have k0 := h0
  have lt0 : ∀ x ∈ p0,x.block < W.heap.size := by obtain ⟨m,hm⟩ := k0; exact DataW.trod_lt m _ _ _ hm
  have k1 := h1
  have lt1 : ∀ x ∈ p1,x.block < W.heap.size := by obtain ⟨m,hm⟩ := k1; exact DataW.trod_lt m _ _ _ hm
  have k2 := h2
  have lt2 : ∀ x ∈ p2,x.block < W.heap.size := by obtain ⟨m,hm⟩ := k2; exact DataW.trod_lt m _ _ _ hm
  have k3 := h3
  have lt3 : ∀ x ∈ p3,x.block < W.heap.size := by obtain ⟨m,hm⟩ := k3; exact DataW.trod_lt m _ _ _ hm
  have hb : Rows.uptoBulkAll _ ≤ 1048576 := of_decide_eq_true hk
  simp only [List.append_nil,List.nil_append,List.cons_append,Rows.uptoBulkAll] at hb
  obtain ⟨fu0,hf0⟩ := h0
  obtain ⟨a0,hr0,hs0⟩ := Aaz fu0 _ _ _ _ _ _ _ _ (Nat.le_refl _) hf0
  have ok0 : a0.cnt ≤ 1048576 := Nat.le_trans hs0 (by show Rows.uptoBulk d0 ≤ _; omega)
  obtain ⟨cs0,rfl⟩ := dB Tryz.underlying27 (hval 0 27 v0 rfl rfl)
  obtain ⟨ca0_1,cb0_1,e0,ha0_1,hb0_1⟩ := (AaJ.1 hr0)
  obtain rfl := (Fl.int).to ha0_1
  obtain ⟨ca0_2,cb0_2,rfl,ha0_2,hb0_2⟩ := hb0_1
  obtain ⟨ca0_3,cb0_3,rfl,ha0_3,hb0_3⟩ := (AaV.1 ha0_2)
  obtain rfl := (Fl.int).to ha0_3
  obtain ⟨ca0_4,cb0_4,rfl,ha0_4,hb0_4⟩ := hb0_3
  obtain rfl := (Fl.int).to ha0_4
  obtain ⟨ca0_5,cb0_5,rfl,ha0_5,hb0_5⟩ := hb0_4
  obtain rfl := (Fl.int).to ha0_5
  obtain ⟨y0_6,rfl,s0_6⟩ := hb0_5
  obtain ⟨ca0_7,cb0_7,rfl,ha0_7,hb0_7⟩ := hb0_2
  obtain rfl := (Fl.int).to ha0_7
  obtain ⟨ca0_8,cb0_8,rfl,ha0_8,hb0_8⟩ := hb0_7
  obtain rfl := (Fl.int).to ha0_8
  obtain ⟨y0_9,rfl,s0_9⟩ := hb0_8
  obtain rfl := (show cs0 = (Value.agg cs0).cells.toList.toArray by simp [Value.cells]).trans (congrArg List.toArray e0)
  obtain ⟨fu1,hf1⟩ := h1
  obtain ⟨a1,hr1,ok1⟩ := (Ee.int Tryz.underlying3) _ _ _ _ _ _ _ _ hf1
  rw [WD Tryz.underlying3 rfl (hval 1 3 v1 rfl rfl)] at hr1
  obtain rfl := (List.cons.inj hr1).1
  obtain ⟨fu2,hf2⟩ := h2
  obtain ⟨a2,hr2,ok2⟩ := (Ee.int Tryz.underlying3) _ _ _ _ _ _ _ _ hf2
  rw [WD Tryz.underlying3 rfl (hval 2 3 v2 rfl rfl)] at hr2
  obtain rfl := (List.cons.inj hr2).1
  obtain ⟨fu3,hf3⟩ := h3
  obtain ⟨a3,hr3,ok3⟩ := P29 _ _ _ _ _ _ _ _ hf3
  obtain ⟨cs3,rfl⟩ := eF Tryz.underlying29 (hval 3 29 v3 rfl rfl)
  obtain rfl : cs3 = (E29 a3).toArray := by have e := F29.to hr3; rw [← e]; simp [Value.cells]
  clear hA0 hval0
  refine (QJ any W y0_6 y0_9 a0 a1 a2 a3 true (SH a0 ok0 a1 ok1 a2 ok2 a3 ok3) s0_6.nx s0_9.nx).mono fun e W' ⟨he,bel⟩ => ?_
  subst he
  exact ⟨_,rfl,_,_,_,[],_,[],hW',trodAll_mk1 (shut_bool Tryz.underlying4 _),(trodAll_cons_mk (Below.trod Rc (by kernel_rfl) (of_decide_eq_true (by kernel_rfl)) k0 bel lt0) (trodAll_cons_mk (Below.trod Rc (by kernel_rfl) (of_decide_eq_true (by kernel_rfl)) k1 bel lt1) (trodAll_cons_mk (Below.trod Rc (by kernel_rfl) (of_decide_eq_true (by kernel_rfl)) k2 bel lt2) (trodAll_cons_mk (Below.trod Rc (by kernel_rfl) (of_decide_eq_true (by kernel_rfl)) k3 bel lt3) trodAll_mk0)))),rfl,bel.frame _,fun h => by cases h⟩
theorem over : Rows.treeMeansUptoRow.holds Tryz.pinned (Rows.OpenSpec.upto Rows.treeMeansSpec) :=
  OpenClaim.holds_of_cond 4 Tryz.f4 rfl rfl rfl rfl rfl rfl rfl ⟨rfl,rfl,rfl,rfl,rfl⟩ rfl rfl rfl rfl rfl (by kernel_rfl) Tryz.func4 (by kernel_rfl)
    (of_decide_eq_true (by kernel_rfl)) (by unfold Func.isWrapper; first | (rw [if_pos (by decide +kernel)]; kernel_rfl) | (rw [if_neg (by decide +kernel)]; exact ⟨rfl,rfl⟩))
    (fun os started H enc _ F => by rw [OpenClaim.pre_eq_preRow]; exact Sm os started H enc F)
end RowTreeMeans
theorem treeMeansUpto_holds : Rows.TreeMeansUptoSaid := RowTreeMeans.over
end Go.Proofs.YtkhiflmalgkjiaaGreat
