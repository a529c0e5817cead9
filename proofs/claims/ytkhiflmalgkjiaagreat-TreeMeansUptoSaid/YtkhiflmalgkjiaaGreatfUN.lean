/- Loops whose rounds are counted. Conditions: none. -/
import Derived.Test.YtkhiflmalgkjiaaGreatfW
import Derived.Test.YtkhiflmalgkjiaaGreatfOT
import Derived.Test.YtkhiflmalgkjiaaGreatfOC
set_option linter.unusedVariables false
open Go Go.RowKit
namespace Go.Proofs.YtkhiflmalgkjiaaGreat
open Go
section
variable {P : Program} {Q : Exit → Act → World → Prop} {a : Act} {w : World} {rl : Option Nat}
def oZ (rl : Option Nat) (P : Program) (c : Code) (Q : Exit → Act → World → Prop) : Nat → Act → World → Prop
  | 0,_,_ => False
  | n + 1,a,w => c.wr rl P (Exit.then (oZ rl P c Q n) Q) a w
theorem aP {c : Code} (m : Nat) (h : oZ rl P c Q m a w) : (Code.loop c).wr rl P Q a w :=
  KB (fun n a w => oZ rl P c Q n a w) m h fun n a w h => by
    cases n with
    | zero => exact h.elim
    | succ n =>
      refine J9 (fun e a' w' he => ?_) (show c.wr rl P (Exit.then (oZ rl P c Q n) Q) a w from h)
      cases e <;> first | exact he | exact ⟨n,Nat.lt_succ_self n,he⟩
theorem xY {c : Code} {n : Nat} (h : c.wr rl P (Exit.then (oZ rl P c Q n) Q) a w) : oZ rl P c Q (n + 1) a w := h
end
end Go.Proofs.YtkhiflmalgkjiaaGreat
namespace Go.Proofs.YtkhiflmalgkjiaaGreat
section
variable {α : Type} {r : Rp α}
def Xy (vs : List Value) (i : Int) : Value := (vs[i.toNat]?).getD undef
def rP (w : World) (A : Nat → Prop) (r : Rp α) : List Value → List (List α) → Prop
  | [],[] => True
  | v :: vs,l :: ls => Sl w A r v l ∧ rP w A r vs ls
  | _,_ => False
theorem sD {vs : List Value} {ls : List (List α)} {i : Int} {x : List α} (h : ix ls i = some x) (hl : vs.length = ls.length) : ix vs i = some (Xy vs i) := by
  obtain ⟨h0,h1,h2⟩ := IM h
  have h3 : i.toNat < vs.length := by have := (List.getElem?_eq_some_iff.1 h2).1; omega
  unfold ix Xy
  simp [h0,zb h3]
theorem ZL {w : World} {A : Nat → Prop} : ∀ {vs : List Value} {ls : List (List α)} {k : Nat} {x : List α} {v : Value},rP w A r vs ls → ls[k]? = some x → vs[k]? = some v → Sl w A r v x
  | [],[],k,x,v,_,h1,_ => by simp at h1
  | [],_ :: _,_,_,_,h,_,_ => h.elim
  | _ :: _,[],_,_,_,h,_,_ => h.elim
  | v' :: vs,l :: ls,0,x,v,h,h1,h2 => by simp at h1 h2; subst h1 h2; exact h.1
  | v' :: vs,l :: ls,k + 1,x,v,h,h1,h2 => ZL h.2 (by simpa using h1) (by simpa using h2)
theorem Yo {w : World} {A : Nat → Prop} {vs : List Value} {ls : List (List α)} {i : Int} {x : List α} (hA : rP w A r vs ls) (hl : vs.length = ls.length) (h : ix ls i = some x) : Sl w A r (Xy vs i) x := by
  obtain ⟨_,_,h2⟩ := IM h
  have h3 : i.toNat < vs.length := by have := (List.getElem?_eq_some_iff.1 h2).1; omega
  refine ZL (k := i.toNat) hA h2 ?_
  simp [Xy,zb h3]
end
end Go.Proofs.YtkhiflmalgkjiaaGreat
