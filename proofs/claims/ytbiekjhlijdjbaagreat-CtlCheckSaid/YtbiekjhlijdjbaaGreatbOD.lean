/- Deferred closures that recover; calls that panic. Conditions: none. -/
import Derived.Test.YtbiekjhlijdjbaaGreatbOR
import Derived.Defers
import Derived.Recover
set_option linter.unusedVariables false
set_option linter.unusedSimpArgs false
open Go Go.RowKit
namespace Go.Proofs.YtbiekjhlijdjbaaGreat
variable {rl : Option Nat}
section
variable {P : Program} {B : Bs} {M M' Ml : Bi} {Z Z' Z1 Zl : List It} {n : Nat} {ds : List Deferred} {F F' : List (Nat × Value)} {a : Act} {w w' : World}
variable {ops : Array Oper} {Q : Exit → Act → World → Prop} {rest : List Oper} {o : Oper}
variable {dst : Option Tmp} {ty : TypeId} {pos : String} {aft : Array Edge} {g : Option (Nat × Bool)} {v : Value}
variable {fn : Func} {R : Ending → World → Prop}
theorem XB {args : List Value} {k : Nat} {v : Value} (hk : lk (args.zipIdx.map fun (v,i) => (i,v)) k = some v) : args[k]? = some v := by
  have key : ∀ (l : List Value) (s : Nat),lk ((l.zipIdx s).map fun (v,i) => (i,v)) k = some v → s ≤ k ∧ l[k - s]? = some v := by
    intro l
    induction l with
    | nil => intro s h; simp [lk] at h
    | cons x l ih =>
      intro s h
      simp only [List.zipIdx_cons,List.map_cons] at h
      by_cases hk : s = k
      · subst hk
        rw [BS] at h
        simp at h
        subst h
        simp
      · rw [B0 hk] at h
        obtain ⟨h1,h2⟩ := ih (s + 1) h
        refine ⟨by omega, ?_⟩
        rw [show k - s = (k - (s + 1)) + 1 by omega]
        simpa using h2
  have := (key args 0 hk).2
  simpa using this
theorem Fr.enter {args : List Value} {N : Nat} (hN : fn.ntmps = N) (hle : Nat.ble args.length N = true) : Fr N [] (args.zipIdx.map fun (v,i) => (i,v)) { tmps := args.toArray ++ Array.replicate (fn.ntmps - args.toArray.size) undef,defers := [] } := by
  refine ⟨?_,rfl,fun k v hk => ?_⟩
  · have := ze hle
    simp [hN]; omega
  · have h2 := XB hk
    rw [Array.getElem?_append_left (by simpa using (List.getElem?_eq_some_iff.1 h2).1)]
    simpa using h2
theorem Wf {f : FuncId} {c : Code} {args : List Value} {N : Nat} (hf : P.funcs[f]? = some fn) (hb : fn.body = some c) (hN : fn.ntmps = N) (hle : Nat.ble args.length N = true)
    (h : ∀ a,Fr N [] (args.zipIdx.map fun (v,i) => (i,v)) a → c.wr none P (bodyPostD P fn R) a w) : Calls P f args.toArray w R :=
  calls_of_wp_defers hf hb (h _ (Fr.enter hN hle))
theorem PN {k : Fn} {xs ys : List Operand} {us vs : List Value} (hF : Fr n ds F a) (hx : Pk F xs = some us) (hy : Pk F ys = some vs) : Yx P B M Z a ⟨dst,.makeFunc k xs.toArray ys.toArray,ty,pos,aft,g⟩ (.func k us.toArray vs.toArray) :=
  AZ fun w _ => by
    have h1 : xs.toArray.map a.eval = us.toArray := by rw [← hF.evals hx]; simp
    have h2 : ys.toArray.map a.eval = vs.toArray := by rw [← hF.evals hy]; simp
    simp [execOp,h1,h2,Instr.makeFunc]
theorem RX {k : Nat} {vs : List Value} {tmps : Array Value} {u : FrameMode} {R' : Ending → FrameMode → World → Prop} (hP : Has P k) (hu : u ≠ .run)
    (c : CallsD P k vs.toArray u w R') (h : ∀ e u' w',R' e u' w' → match e with
      | .returned _ => Leaves P fn tmps R [] (settle u') w'
      | .panicked chain => Leaves P fn tmps R [] (raised u' chain) w'
      | .outgrown => R .outgrown w') : Leaves P fn tmps R [{ target := .fn (.func k) vs.toArray,args := #[] }] u w := by
  refine ⟨hu,.func k,vs.toArray,k,vs.toArray,rfl, ?_,c.mono fun e u' w' hR => ?_⟩
  · simp [invoke,hP.enter]
  · have := h e u' w' hR
    cases e <;> exact this
theorem P3 {d1 d2 : Nat} {id : Nat} {ty1 ty2 : TypeId} {ts : Array TypeId} {p1 p2 : String} {a1 a2 : Array Edge} {QS : Exit → Act → List Frame → World → Prop} {A : Act} {cs cs' : List Frame} {x : Value} {y : Code} {F0 : List (Nat × Value)} (hF : Fr n [] F0 A) (h1 : Nat.blt d1 n = true)
    (hrec : recoverD cs = some (x,cs') ∨ (recoverD cs = none ∧ x = .nilIface ∧ cs' = cs)) (h : y.wpS P QS ((A.put (some d1) x).put (some d2) x) cs' w) :
    ((Code.region id #[⟨some d1,.call ⟨.builtin .recover, #[],ts⟩,ty1,p1,a1,none⟩,⟨some d2,.assign (.tmp d1),ty2,p2,a2,none⟩] false).seq y).wpS P QS A cs w := by
  apply wpS_seq
  apply wpS_region
  have r1 : (execOp A.eval ⟨some d1,.call ⟨.builtin .recover, #[],ts⟩,ty1,p1,a1,none⟩).run P w = .ok .recover w := by simp [execOp,Ax,invoke,builtin]
  have hF1 := hF.put (ze h1) x
  have e1 : (A.put (some d1) x).eval (.tmp d1) = x := hF1.eval (x := .tmp d1) (BS _ _ _)
  have r2 : (execOp (A.put (some d1) x).eval ⟨some d2,.assign (.tmp d1),ty2,p2,a2,none⟩).run P w = .ok (.value x) w := by simp [execOp,e1]
  have hr : List.range (#[(⟨some d1,.call ⟨.builtin .recover, #[],ts⟩,ty1,p1,a1,none⟩ : Oper),⟨some d2,.assign (.tmp d1),ty2,p2,a2,none⟩] : Array Oper).size = [0,1] := rfl
  have g0 : (#[(⟨some d1,.call ⟨.builtin .recover, #[],ts⟩,ty1,p1,a1,none⟩ : Oper),⟨some d2,.assign (.tmp d1),ty2,p2,a2,none⟩] : Array Oper)[0]? = some ⟨some d1,.call ⟨.builtin .recover, #[],ts⟩,ty1,p1,a1,none⟩ := rfl
  have g1 : (#[(⟨some d1,.call ⟨.builtin .recover, #[],ts⟩,ty1,p1,a1,none⟩ : Oper),⟨some d2,.assign (.tmp d1),ty2,p2,a2,none⟩] : Array Oper)[1]? = some ⟨some d2,.assign (.tmp d1),ty2,p2,a2,none⟩ := rfl
  rw [hr]
  unfold wpOpsS
  rw [g0]
  simp only [Ba (a := A) (o := ⟨some d1,.call ⟨.builtin .recover, #[],ts⟩,ty1,p1,a1,none⟩) rfl,if_true,r1]
  rcases hrec with hrec | ⟨hrec,rfl,rfl⟩
  · rw [hrec]
    unfold wpOpsS
    simp only [g1,Ba (a := A.put (some d1) x) (o := ⟨some d2,.assign (.tmp d1),ty2,p2,a2,none⟩) rfl,if_true,r2,Oper.upon]
    unfold wpOpsS
    exact h
  · rw [hrec]
    unfold wpOpsS
    simp only [g1,Ba (a := A.put (some d1) .nilIface) (o := ⟨some d2,.assign (.tmp d1),ty2,p2,a2,none⟩) rfl,if_true,r2,Oper.upon]
    unfold wpOpsS
    exact h
theorem Tx {c₀ : Frame} {cs : List Frame} {u : FrameMode} : ∀ {e : Exit} {a : Act} {w : World},bodyPost P fn R e a w → bodyPostS P fn c₀ cs (fun e u' w' => u' = u ∧ R e w') e a ({ c₀ with mode := u } :: cs) w
  | .normal,a,w,⟨hd,v,hr,h⟩ => ⟨hd,u,rfl,v,hr,rfl,h⟩
  | .ret,a,w,⟨hd,v,hr,h⟩ => ⟨hd,u,rfl,v,hr,rfl,h⟩
  | .panic _,a,w,⟨hd,h⟩ => ⟨hd,u,rfl,rfl,h⟩
  | .outgrown,a,w,h => ⟨u,rfl,h⟩
  | .exit _,_,_,h => h.elim
  | .goto _,_,_,h => h.elim
theorem Mn {f d1 d2 N : Nat} {id : Nat} {y : Code} {args : List Value} {ty1 ty2 : TypeId} {ts : Array TypeId} {p1 p2 : String} {a1 a2 : Array Edge}
    (hf : P.funcs[f]? = some fn) (hb : fn.body = some ((Code.region id #[⟨some d1,.call ⟨.builtin .recover, #[],ts⟩,ty1,p1,a1,none⟩,⟨some d2,.assign (.tmp d1),ty2,p2,a2,none⟩] false).seq y)) (hN : fn.ntmps = N) (hle : Nat.ble args.length N = true) (h1 : Nat.blt d1 N = true) (h2 : Nat.blt d2 N = true)
    (h : ∀ a,Fr N [] ((d2,.nilIface) :: (d1,.nilIface) :: args.zipIdx.map fun (v,i) => (i,v)) a → y.wr none P (bodyPost P fn R) a w) :
    CallsD P f args.toArray .returning w fun e u' w' => u' = .returning ∧ R e w' := by
  refine callsD_of_wpS hf hb fun c₀ cs hu => ?_
  have hF0 := Fr.enter (fn := fn) (args := args) hN hle
  refine P3 (x := .nilIface) (cs' := { c₀ with mode := .returning } :: cs) hF0 h1 (.inr ⟨by simp [recoverD,hu],rfl,by rw [← hu]⟩) ?_
  refine wpS_of_wp (wp_mono (h _ ((hF0.put (ze h1) _).put (ze h2) _)) fun e a' w' hp => Tx hp)
theorem Sg {e : Exit} {d : List Deferred} (he : e = .ret ∨ e = .normal) (hF : Fr n d F a) (h : Leaves P fn a.tmps R d .returning w) : bodyPostD P fn R e a w := by
  rcases he with rfl | rfl <;> (show Leaves P fn a.tmps R a.defers .returning w; rw [hF.defers]; exact h)
end
end Go.Proofs.YtbiekjhlijdjbaaGreat
