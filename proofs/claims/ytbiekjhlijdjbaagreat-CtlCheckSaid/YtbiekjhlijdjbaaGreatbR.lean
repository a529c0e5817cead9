/- CtlCheck. Conditions: none. -/
import Derived.Test.YtbiekjhlijdjbaaGreatbN37
import Derived.Test.YtbiekjhlijdjbaaGreatbOA
import Derived.ProofKit
import Derived.OpenShut
import Derived.Carry
import Derived.Lib.SmallJoins
set_option linter.unusedVariables false
set_option linter.unusedSimpArgs false
open Go Go.RowKit
namespace Go.Proofs.YtbiekjhlijdjbaaGreat
set_option maxRecDepth 20000
theorem cS : Bk Tryz.prog 127 B8 (Gs (fun n => (Lit.int .i64 n).wf = true) (Gs (fun n => (Lit.int .i64 n).wf = true) (Gs (fun n => (Lit.int .i64 n).wf = true) (Gs (fun n => (Lit.int .i64 n).wf = true) (Gs (fun n => (Lit.int .i64 n).wf = true) (fun n => (Lit.int .i64 n).wf = true)))))) := Bk.struct Tryz.underlying127 (by kernel_rfl) (Br.cons (by rfl) (by kernel_rfl) (Bk.int Tryz.underlying3) (Br.cons (by rfl) (by kernel_rfl) (Bk.int Tryz.underlying3) (Br.cons (by rfl) (by kernel_rfl) (Bk.int Tryz.underlying3) (Br.cons (by rfl) (by kernel_rfl) (Bk.int Tryz.underlying3) (Br.cons (by rfl) (by kernel_rfl) (Bk.int Tryz.underlying3) (Br.one (by rfl) (by kernel_rfl) (Bk.int Tryz.underlying3)))))))
theorem fI : Bk Tryz.prog 22 (Rp.slice B8) (Mp (Gs (fun n => (Lit.int .i64 n).wf = true) (Gs (fun n => (Lit.int .i64 n).wf = true) (Gs (fun n => (Lit.int .i64 n).wf = true) (Gs (fun n => (Lit.int .i64 n).wf = true) (Gs (fun n => (Lit.int .i64 n).wf = true) (fun n => (Lit.int .i64 n).wf = true))))))) := Bk.slice Tryz.underlying22 (by kernel_rfl) (by decide) cS
theorem ZT : Bk Tryz.prog 130 Cc (Gs (fun n => (Lit.int .i64 n).wf = true) (fun n => (Lit.int .i64 n).wf = true)) := Bk.struct Tryz.underlying130 (by kernel_rfl) (Br.cons (by rfl) (by kernel_rfl) (Bk.int Tryz.underlying3) (Br.one (by rfl) (by kernel_rfl) (Bk.int Tryz.underlying3)))
theorem iD : Bk Tryz.prog 23 (Rp.slice Cc) (Mp (Gs (fun n => (Lit.int .i64 n).wf = true) (fun n => (Lit.int .i64 n).wf = true))) := Bk.slice Tryz.underlying23 (by kernel_rfl) (by decide) ZT
abbrev e6 : Rp (Int × (List (Int × Int × Int × Int × Int × Int)) × (List (Int × Int))) := (Rp.pair (Rp.int .i64) (Rp.pair (Rp.slice B8) (Rp.slice Cc)))
theorem fQ : Bk Tryz.prog 25 e6 (Gs (fun n => (Lit.int .i64 n).wf = true) (Gs (Mp (Gs (fun n => (Lit.int .i64 n).wf = true) (Gs (fun n => (Lit.int .i64 n).wf = true) (Gs (fun n => (Lit.int .i64 n).wf = true) (Gs (fun n => (Lit.int .i64 n).wf = true) (Gs (fun n => (Lit.int .i64 n).wf = true) (fun n => (Lit.int .i64 n).wf = true))))))) (Mp (Gs (fun n => (Lit.int .i64 n).wf = true) (fun n => (Lit.int .i64 n).wf = true))))) := Bk.struct Tryz.underlying25 (by kernel_rfl) (Br.cons (by rfl) (by kernel_rfl) (Bk.int Tryz.underlying3) (Br.cons (by rfl) (by kernel_rfl) fI (Br.one (by rfl) (by kernel_rfl) iD)))
theorem fY : Bk Tryz.prog 69 (Rp.slice (Rp.int .u64)) (Mp (fun n => (Lit.int .u64 n).wf = true)) := Bk.slice Tryz.underlying69 (by kernel_rfl) (by decide) (Bk.int Tryz.underlying131)
theorem gD : Bk Tryz.prog 26 (Rp.slice (Rp.slice (Rp.int .u64))) (Mp (Mp (fun n => (Lit.int .u64 n).wf = true))) := Bk.slice Tryz.underlying26 (by kernel_rfl) (by decide) fY
theorem gW : Bk Tryz.prog 27 (Rp.slice (Rp.int .i64)) (Mp (fun n => (Lit.int .i64 n).wf = true)) := Bk.slice Tryz.underlying27 (by kernel_rfl) (by decide) (Bk.int Tryz.underlying3)
abbrev g7 : Rp ((Int × (List (Int × Int × Int × Int × Int × Int)) × (List (Int × Int))) × List (List Int) × List Int × Int × Int × Int × Int × Int × Int) := (Rp.pair e6 (Rp.pair (Rp.slice (Rp.slice (Rp.int .u64))) (Rp.pair (Rp.slice (Rp.int .i64)) (Rp.pair (Rp.int .i64) (Rp.pair (Rp.int .i64) (Rp.pair (Rp.int .i64) (Rp.pair (Rp.int .i64) (Rp.pair (Rp.int .i64) (Rp.int .i64)))))))))
theorem iK : Bk Tryz.prog 29 g7 (Gs (Gs (fun n => (Lit.int .i64 n).wf = true) (Gs (Mp (Gs (fun n => (Lit.int .i64 n).wf = true) (Gs (fun n => (Lit.int .i64 n).wf = true) (Gs (fun n => (Lit.int .i64 n).wf = true) (Gs (fun n => (Lit.int .i64 n).wf = true) (Gs (fun n => (Lit.int .i64 n).wf = true) (fun n => (Lit.int .i64 n).wf = true))))))) (Mp (Gs (fun n => (Lit.int .i64 n).wf = true) (fun n => (Lit.int .i64 n).wf = true))))) (Gs (Mp (Mp (fun n => (Lit.int .u64 n).wf = true))) (Gs (Mp (fun n => (Lit.int .i64 n).wf = true)) (Gs (fun n => (Lit.int .i64 n).wf = true) (Gs (fun n => (Lit.int .i64 n).wf = true) (Gs (fun n => (Lit.int .i64 n).wf = true) (Gs (fun n => (Lit.int .i64 n).wf = true) (Gs (fun n => (Lit.int .i64 n).wf = true) (fun n => (Lit.int .i64 n).wf = true))))))))) := Bk.struct Tryz.underlying29 (by kernel_rfl) (Br.cons (by rfl) (by kernel_rfl) fQ (Br.cons (by rfl) (by kernel_rfl) gD (Br.cons (by rfl) (by kernel_rfl) gW (Br.cons (by rfl) (by kernel_rfl) (Bk.int Tryz.underlying3) (Br.cons (by rfl) (by kernel_rfl) (Bk.int Tryz.underlying3) (Br.cons (by rfl) (by kernel_rfl) (Bk.int Tryz.underlying3) (Br.cons (by rfl) (by kernel_rfl) (Bk.int Tryz.underlying3) (Br.cons (by rfl) (by kernel_rfl) (Bk.int Tryz.underlying3) (Br.one (by rfl) (by kernel_rfl) (Bk.int Tryz.underlying3))))))))))
namespace RowCtlCheck
open Go.ChangeShapes Go.WideShapes Go.ChangeAt Go.RowKit Go.Joins
open Go.ChangeMaps (open_string shut_string)
theorem own : ownKnob Tryz.prog.godebug = none := by kernel_rfl
theorem Ux : laidOutB Tryz.prog = true := by kernel_rfl
set_option maxRecDepth 100000 in
theorem Hu (os : Os) (started : os.Started) (H : Type) (enc : TypeId × Value → H) :
    ReturnsInHanded {} Tryz.checked os 3 .any (Rows.ctlCheckSpec.pre6 enc Tryz.prog Tryz.f3 Rows.ctlCheckRow.domain false) (Rows.ctlCheckSpec.post enc Tryz.prog Tryz.f3 false true false false) := by
  refine returnsInHanded_of_change (C := Tryz.checked) own started (by kernel_rfl) Tryz.func3
    (ChangeSpec.witness6 (enc := enc) (C := Tryz.checked) false ⟨#[], #[.agg #[.int .i64 0,.slice none 0 0,.slice none 0 0,.slice none 0 0,.slice none 0 0,.int .i64 0,.int .i64 0,.int .i64 0,.int .i64 0,.int .i64 0,.int .i64 0]],[]⟩ 8 (by kernel_rfl) (by kernel_rfl) (by kernel_rfl) (by kernel_rfl)) ?_
  intro W base args ds gs before hval0 hW hcnd _
  have hval : ∀ (j : Nat) t v,Tryz.f3.params[j]? = some t → args[j]? = some v → Value.okWide Tryz.prog W .any base t v := hval0
  have hW' := hW
  obtain ⟨p,q,hA0,hV,rfl,hfz,hnd⟩ := hW
  have hA : DataW.TrodAll enc Tryz.prog W 0 (fun _ => true) true Tryz.f3.params.toList args.toList ds p := hA0
  rw [Tryz.params3] at hA hval
  obtain ⟨v0,vs0,d0,ds0,p0,q0,hargs,rfl,rfl,h0,r0⟩ := trodAll_cons hA
  obtain ⟨rfl,rfl,rfl⟩ := trodAll_nil r0
  obtain rfl : args = #[v0] := by cases args; simp_all
  obtain ⟨rfl,rfl⟩ := trodVars_none hV
  have k0 := h0
  have lt0 : ∀ x ∈ p0,x.block < W.heap.size := by obtain ⟨m,hm⟩ := k0; exact DataW.trod_lt m _ _ _ hm
  obtain ⟨fu0,hf0⟩ := h0
  obtain ⟨a0,hr0,ok0⟩ := iK _ _ _ _ _ _ _ _ hf0
  obtain ⟨cs0,rfl⟩ := SL Tryz.underlying29 (hval 0 29 v0 rfl rfl)
  obtain ⟨ca0_1,cb0_1,e0,ha0_1,hb0_1⟩ := hr0
  obtain ⟨ca0_2,cb0_2,rfl,ha0_2,hb0_2⟩ := ha0_1
  obtain rfl := (Fl.int).to ha0_2
  obtain ⟨ca0_3,cb0_3,rfl,ha0_3,hb0_3⟩ := hb0_2
  obtain ⟨y0_4,rfl,s0_4⟩ := ha0_3
  obtain ⟨y0_5,rfl,s0_5⟩ := hb0_3
  obtain ⟨ca0_6,cb0_6,rfl,ha0_6,hb0_6⟩ := hb0_1
  obtain ⟨y0_7,rfl,s0_7⟩ := ha0_6
  obtain ⟨ca0_8,cb0_8,rfl,ha0_8,hb0_8⟩ := hb0_6
  obtain ⟨y0_9,rfl,s0_9⟩ := ha0_8
  obtain ⟨ca0_10,cb0_10,rfl,ha0_10,hb0_10⟩ := hb0_8
  obtain rfl := (Fl.int).to ha0_10
  obtain ⟨ca0_11,cb0_11,rfl,ha0_11,hb0_11⟩ := hb0_10
  obtain rfl := (Fl.int).to ha0_11
  obtain ⟨ca0_12,cb0_12,rfl,ha0_12,hb0_12⟩ := hb0_11
  obtain rfl := (Fl.int).to ha0_12
  obtain ⟨ca0_13,cb0_13,rfl,ha0_13,hb0_13⟩ := hb0_12
  obtain rfl := (Fl.int).to ha0_13
  obtain ⟨ca0_14,cb0_14,rfl,ha0_14,hb0_14⟩ := hb0_13
  obtain rfl := (Fl.int).to ha0_14
  obtain rfl := (Fl.int).to hb0_14
  obtain rfl := (show cs0 = (Value.agg cs0).cells.toList.toArray by simp [Value.cells]).trans (congrArg List.toArray e0)
  clear hA0 hval0
  refine (Lg any W y0_4 y0_5 y0_7 y0_9 a0 true (Mi a0 ok0) s0_4.nx s0_5.nx s0_7.nx s0_9.nx).mono fun e W' ⟨he,bel⟩ => ?_
  subst he
  exact ⟨_,rfl,_,_,_,[],_,[],hW',trodAll_mk1 (shut_bool Tryz.underlying4 _),(trodAll_cons_mk (Below.trod Ux (by kernel_rfl) (of_decide_eq_true (by kernel_rfl)) k0 bel lt0) trodAll_mk0),rfl,bel.frame _,fun h => by cases h⟩
theorem over : Rows.ctlCheckRow.holds Tryz.pinned (OpenSpec.ofChange Rows.ctlCheckSpec) :=
  OpenClaim.holds_of_wide 3 Tryz.f3 rfl rfl rfl rfl rfl rfl rfl ⟨rfl,rfl,rfl,rfl,rfl⟩ rfl rfl rfl rfl rfl (by kernel_rfl) Tryz.func3 (by kernel_rfl)
    (of_decide_eq_true (by kernel_rfl)) (by unfold Func.isWrapper; first | (rw [if_pos (by decide +kernel)]; kernel_rfl) | (rw [if_neg (by decide +kernel)]; exact ⟨rfl,rfl⟩))
    (fun os started H enc _ => Hu os started H enc)
end RowCtlCheck
theorem ctlCheck_holds : Rows.CtlCheckSaid := RowCtlCheck.over
end Go.Proofs.YtbiekjhlijdjbaaGreat
