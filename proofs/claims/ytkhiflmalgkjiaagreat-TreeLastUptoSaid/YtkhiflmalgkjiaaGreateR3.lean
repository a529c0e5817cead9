/- A statement of layer 31. Conditions: none. -/
import Derived.Test.YtkhiflmalgkjiaaGreateN31P
import Derived.Test.YtkhiflmalgkjiaaGreateOA
import Derived.ProofKit
import Derived.OpenShut
import Derived.Carry
import Derived.Lib.SmallJoins
import Derived.SevenTiedAt
import Derived.Stop.Joined
import Derived.LaidMore
import Derived.MakeChecks
import Derived.Lay
set_option linter.unusedVariables false
set_option linter.unusedSimpArgs false
open Go Go.RowKit
namespace Go.Proofs.YtkhiflmalgkjiaaGreat
set_option maxRecDepth 20000
theorem Aas : ∀ N,PV Tryz.prog 24 Ud Tr24.cnt N := PV.knot Z4 (of := Tr24.of) (fun _ => rfl) (fun p => by show Tr24.cnt (.mk p.1 p.2.1 p.2.2.1 p.2.2.2) = _; rw [Tr24.cnt]; simp [Nat.add_assoc]) (fun N h => PV.struct Tryz.underlying24 (by kernel_rfl) (Jw.cons (by rfl) (by kernel_rfl) (PV.flat (Fs.int Tryz.underlying3)) (Jw.cons (by rfl) (by kernel_rfl) (PV.flat (Fs.int Tryz.underlying3)) (Jw.cons (by rfl) (by kernel_rfl) (PV.flat (Fs.int Tryz.underlying3)) (Jw.one (by rfl) (by kernel_rfl) (PV.slice Tryz.underlying22 (by kernel_rfl) (by decide) h))))))
theorem xY : ∀ N,PV Tryz.prog 27 Xw Tr27.cnt N := PV.knot gR (of := Tr27.of) (fun _ => rfl) (fun p => by show Tr27.cnt (.mk p.1 p.2.1 p.2.2.1 p.2.2.2.1 p.2.2.2.2) = _; rw [Tr27.cnt]; simp [Nat.add_assoc]) (fun N h => PV.struct Tryz.underlying27 (by kernel_rfl) (Jw.cons (by rfl) (by kernel_rfl) (PV.flat (Fs.int Tryz.underlying3)) (Jw.cons (by rfl) (by kernel_rfl) (Aas N) (Jw.cons (by rfl) (by kernel_rfl) (PV.flat (Fs.int Tryz.underlying3)) (Jw.cons (by rfl) (by kernel_rfl) (PV.flat (Fs.int Tryz.underlying3)) (Jw.one (by rfl) (by kernel_rfl) (PV.slice Tryz.underlying25 (by kernel_rfl) (by decide) h)))))))
namespace RowTreeLast
open Go.ChangeShapes Go.WideShapes Go.ChangeAt Go.RowKit Go.Joins
open Go.ChangeMaps (open_string shut_string)
theorem own : ownKnob Tryz.prog.godebug = none := by kernel_rfl
theorem YI : laidOutB Tryz.prog = true := by kernel_rfl
theorem kH (os : Os) (args : Array Value) : laidMet Tryz.prog Rows.treeLastUptoRow.laid ((World.laidAll Tryz.prog os []).forCall (fun _ _ => 0) ⟨#[],args,[]⟩).memory := laidMet_laidAll _ (by kernel_rfl) (by kernel_rfl)
theorem reads (os : Os) {H : Type} (enc : TypeId × Value → H) : ∃ places,DataW.whole enc Tryz.prog ((World.laidAll Tryz.prog os []).forCall (fun _ _ => 0) ⟨#[], #[.agg #[.int .i64 0,.int .i64 0,.int .i64 0,.int .i64 0,.slice none 0 0,.int .i64 0,.int .i64 0,.slice none 0 0],.int .i64 0],[]⟩).memory Tryz.f5.params.toList Rows.treeLastSpec.vars false (#[.agg #[.int .i64 0,.int .i64 0,.int .i64 0,.int .i64 0,.slice none 0 0,.int .i64 0,.int .i64 0,.slice none 0 0],.int .i64 0] : Array Value).toList 8 = some ([.agg [.lit (.int .i64 0),.agg [.lit (.int .i64 0),.lit (.int .i64 0),.lit (.int .i64 0),.nil],.lit (.int .i64 0),.lit (.int .i64 0),.nil],.lit (.int .i64 0)],[],places) := ⟨[],by kernel_rfl⟩
set_option maxRecDepth 100000 in
theorem Qd (os : Os) (started : os.Started) (H : Type) (enc : TypeId × Value → H) (F : Stop.Interp) :
    ReturnsInHanded {} Tryz.checked os 5 .any ((Rows.OpenSpec.upto Rows.treeLastSpec).preRow enc Tryz.prog Tryz.f5 Rows.treeLastUptoRow.domain false Rows.treeLastUptoRow.laid) (((Rows.OpenSpec.upto Rows.treeLastSpec).at F).post enc Tryz.prog Tryz.f5 false true false false) := by
  obtain ⟨places,hx⟩ := reads os enc
  refine returnsInHanded_of_row (C := Tryz.checked) (s := Rows.OpenSpec.upto Rows.treeLastSpec) own started (by kernel_rfl) Tryz.func5
    (UT (enc := enc) (C := Tryz.checked) (os := os) false (World.laidAll Tryz.prog os []) #[.agg #[.int .i64 0,.int .i64 0,.int .i64 0,.int .i64 0,.slice none 0 0,.int .i64 0,.int .i64 0,.slice none 0 0],.int .i64 0] (World.laidAll_os _ _ _) (World.shaped_of_ZipB (by kernel_rfl) (by kernel_rfl)) (by kernel_rfl)
      (OpenSpec.preRow_of_cond 8 hx (by kernel_rfl) (fun k hk => by cases hk; kernel_rfl) (by kernel_rfl) (kH os _))) ?_
  intro W base args ds gs before hval0 hW hcnd hcond _ hL hsh _
  have hk := hcond _ rfl
  have hval : ∀ (j : Nat) t v,Tryz.f5.params[j]? = some t → args[j]? = some v → Value.okWide Tryz.prog W .any base t v := hval0
  have hW' := hW
  obtain ⟨p,q,hA0,hV,rfl,hfz,hnd⟩ := hW
  have hA : DataW.TrodAll enc Tryz.prog W 0 (fun _ => true) true Tryz.f5.params.toList args.toList ds p := hA0
  rw [Tryz.params5] at hA hval
  obtain ⟨v0,vs0,d0,ds0,p0,q0,hargs,rfl,rfl,h0,r0⟩ := trodAll_cons hA
  obtain ⟨v1,vs1,d1,ds1,p1,q1,rfl,rfl,rfl,h1,r1⟩ := trodAll_cons r0
  obtain ⟨rfl,rfl,rfl⟩ := trodAll_nil r1
  obtain rfl : args = #[v0,v1] := by cases args; simp_all
  obtain ⟨rfl,rfl⟩ := trodVars_none hV
  have k0 := h0
  have lt0 : ∀ x ∈ p0,x.block < W.heap.size := by obtain ⟨m,hm⟩ := k0; exact DataW.trod_lt m _ _ _ hm
  have k1 := h1
  have lt1 : ∀ x ∈ p1,x.block < W.heap.size := by obtain ⟨m,hm⟩ := k1; exact DataW.trod_lt m _ _ _ hm
  have hb : Rows.uptoBulkAll _ ≤ 1048576 := of_decide_eq_true hk
  simp only [List.append_nil,List.nil_append,List.cons_append,Rows.uptoBulkAll] at hb
  obtain ⟨fu0,hf0⟩ := h0
  obtain ⟨a0,hr0,hs0⟩ := xY fu0 _ _ _ _ _ _ _ _ (Nat.le_refl _) hf0
  have ok0 : a0.cnt ≤ 1048576 := Nat.le_trans hs0 (by show Rows.uptoBulk d0 ≤ _; omega)
  obtain ⟨cs0,rfl⟩ := cJ Tryz.underlying27 (hval 0 27 v0 rfl rfl)
  obtain ⟨ca0_1,cb0_1,e0,ha0_1,hb0_1⟩ := (yY.1 hr0)
  obtain rfl := (Fl.int).to ha0_1
  obtain ⟨ca0_2,cb0_2,rfl,ha0_2,hb0_2⟩ := hb0_1
  obtain ⟨ca0_3,cb0_3,rfl,ha0_3,hb0_3⟩ := (Aad.1 ha0_2)
  obtain rfl := (Fl.int).to ha0_3
  obtain ⟨ca0_4,cb0_4,rfl,ha0_4,hb0_4⟩ := hb0_3
  obtain rfl := (Fl.int).to ha0_4
  obtain ⟨ca0_5,cb0_5,rfl,ha0_5,hb0_5⟩ := hb0_4
  obtain rfl := (Fl.int).to ha0_5
  obtain ⟨y0_6,rfl,s0_6⟩ := hb0_5
  obtain ⟨ca0_7,cb0_7,rfl,ha0_7,hb0_7⟩ := hb0_2
  obtain rfl := (Fl.int).to ha0_7
  obtain ⟨ca0_8,cb0_8,rfl,ha0_8,hb0_8⟩ := hb0_7
  obtain rfl := (Fl.int).to ha0_8
  obtain ⟨y0_9,rfl,s0_9⟩ := hb0_8
  obtain rfl := (show cs0 = (Value.agg cs0).cells.toList.toArray by simp [Value.cells]).trans (congrArg List.toArray e0)
  obtain ⟨fu1,hf1⟩ := h1
  obtain ⟨a1,hr1,ok1⟩ := (Fs.int Tryz.underlying3) _ _ _ _ _ _ _ _ hf1
  rw [fU Tryz.underlying3 rfl (hval 1 3 v1 rfl rfl)] at hr1
  obtain rfl := (List.cons.inj hr1).1
  clear hA0 hval0
  refine (Td any W y0_6 y0_9 a0 a1 true (TZ a0 ok0 a1 ok1) s0_6.nx s0_9.nx).mono fun e W' ⟨he,bel⟩ => ?_
  subst he
  exact ⟨_,rfl,_,_,_,[],_,[],hW',trodAll_mk1 (shut_bool Tryz.underlying4 _),(trodAll_cons_mk (Below.trod YI (by kernel_rfl) (of_decide_eq_true (by kernel_rfl)) k0 bel lt0) (trodAll_cons_mk (Below.trod YI (by kernel_rfl) (of_decide_eq_true (by kernel_rfl)) k1 bel lt1) trodAll_mk0)),rfl,bel.frame _,fun h => by cases h⟩
theorem over : Rows.treeLastUptoRow.holds Tryz.pinned (Rows.OpenSpec.upto Rows.treeLastSpec) :=
  OpenClaim.holds_of_cond 5 Tryz.f5 rfl rfl rfl rfl rfl rfl rfl ⟨rfl,rfl,rfl,rfl,rfl⟩ rfl rfl rfl rfl rfl (by kernel_rfl) Tryz.func5 (by kernel_rfl)
    (of_decide_eq_true (by kernel_rfl)) (by unfold Func.isWrapper; first | (rw [if_pos (by decide +kernel)]; kernel_rfl) | (rw [if_neg (by decide +kernel)]; exact ⟨rfl,rfl⟩))
    (fun os started H enc _ F => by rw [OpenClaim.pre_eq_preRow]; exact Qd os started H enc F)
end RowTreeLast
theorem treeLastUpto_holds : Rows.TreeLastUptoSaid := RowTreeLast.over
end Go.Proofs.YtkhiflmalgkjiaaGreat
