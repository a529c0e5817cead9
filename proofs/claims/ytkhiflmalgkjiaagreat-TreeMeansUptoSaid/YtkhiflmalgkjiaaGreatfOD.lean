/- Deferred closures that recover; calls that panic. Conditions: none. -/
import Derived.Test.YtkhiflmalgkjiaaGreatfOR
import Derived.Defers
import Derived.Recover
set_option linter.unusedVariables false
set_option linter.unusedSimpArgs false
open Go Go.RowKit
namespace Go.Proofs.YtkhiflmalgkjiaaGreat
variable {rl : Option Nat}
section
variable {P : Program} {B : Bs} {M M' Ml : CU} {Z Z' Z1 Zl : List It} {n : Nat} {ds : List Deferred} {F F' : List (Nat × Value)} {a : Act} {w w' : World}
variable {ops : Array Oper} {Q : Exit → Act → World → Prop} {rest : List Oper} {o : Oper}
variable {dst : Option Tmp} {ty : TypeId} {pos : String} {aft : Array Edge} {g : Option (Nat × Bool)} {v : Value}
variable {fn : Func} {R : Ending → World → Prop}
theorem sY {args : List Value} {k : Nat} {v : Value} (hk : lk (args.zipIdx.map fun (v,i) => (i,v)) k = some v) : args[k]? = some v := by
  have key : ∀ (l : List Value) (s : Nat),lk ((l.zipIdx s).map fun (v,i) => (i,v)) k = some v → s ≤ k ∧ l[k - s]? = some v := by
    intro l
    induction l with
    | nil => intro s h; simp [lk] at h
    | cons x l ih =>
      intro s h
      simp only [List.zipIdx_cons,zj] at h
      by_cases hk : s = k
      · subst hk
        rw [CX] at h
        simp at h
        subst h
        simp
      · rw [Dh hk] at h
        obtain ⟨h1,h2⟩ := ih (s + 1) h
        refine ⟨by omega, ?_⟩
        rw [show k - s = (k - (s + 1)) + 1 by omega]
        simpa using h2
  have := (key args 0 hk).2
  simpa using this
theorem Fr.enter {args : List Value} {N : Nat} (hN : fn.ntmps = N) (hle : Nat.ble args.length N = true) : Fr N [] (args.zipIdx.map fun (v,i) => (i,v)) { tmps := args.toArray ++ Array.replicate (fn.ntmps - args.toArray.size) undef,defers := [] } := by
  refine ⟨?_,rfl,fun k v hk => ?_⟩
  · have := zf hle
    simp [hN]; omega
  · have h2 := sY hk
    rw [Array.getElem?_append_left (by simpa using (List.getElem?_eq_some_iff.1 h2).1)]
    simpa using h2
theorem Yu {k : Fn} {xs ys : List Operand} {us vs : List Value} (hF : Fr n ds F a) (hx : aI F xs = some us) (hy : aI F ys = some vs) : Yx P B M Z a ⟨dst,.makeFunc k xs.toArray ys.toArray,ty,pos,aft,g⟩ (.func k us.toArray vs.toArray) :=
  Ck fun w _ => by
    have h1 : xs.toArray.map a.eval = us.toArray := by rw [← hF.evals hx]; simp
    have h2 : ys.toArray.map a.eval = vs.toArray := by rw [← hF.evals hy]; simp
    simp [execOp,h1,h2,Instr.makeFunc]
end
end Go.Proofs.YtkhiflmalgkjiaaGreat
