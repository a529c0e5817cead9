/- Loops whose rounds are counted. Conditions: none. -/
import Derived.Test.YtkhiflmalgkjiaaGreateW
import Derived.Test.YtkhiflmalgkjiaaGreateOT
import Derived.Test.YtkhiflmalgkjiaaGreateOC
set_option linter.unusedVariables false
open Go Go.RowKit
namespace Go.Proofs.YtkhiflmalgkjiaaGreat
open Go
section
variable {P : Program} {Q : Exit → Act → World → Prop} {a : Act} {w : World} {rl : Option Nat}
def pV (rl : Option Nat) (P : Program) (c : Code) (Q : Exit → Act → World → Prop) : Nat → Act → World → Prop
  | 0,_,_ => False
  | n + 1,a,w => c.wr rl P (Exit.then (pV rl P c Q n) Q) a w
theorem aD {c : Code} (m : Nat) (h : pV rl P c Q m a w) : (Code.loop c).wr rl P Q a w :=
  KL (fun n a w => pV rl P c Q n a w) m h fun n a w h => by
    cases n with
    | zero => exact h.elim
    | succ n =>
      refine J5 (fun e a' w' he => ?_) (show c.wr rl P (Exit.then (pV rl P c Q n) Q) a w from h)
      cases e <;> first | exact he | exact ⟨n,Nat.lt_succ_self n,he⟩
theorem uZ {c : Code} {n : Nat} (h : c.wr rl P (Exit.then (pV rl P c Q n) Q) a w) : pV rl P c Q (n + 1) a w := h
end
end Go.Proofs.YtkhiflmalgkjiaaGreat
namespace Go.Proofs.YtkhiflmalgkjiaaGreat
section
variable {α : Type} {r : Rp α}
def Xv (vs : List Value) (i : Int) : Value := (vs[i.toNat]?).getD undef
def o8 (w : World) (A : Nat → Prop) (r : Rp α) : List Value → List (List α) → Prop
  | [],[] => True
  | v :: vs,l :: ls => Sl w A r v l ∧ o8 w A r vs ls
  | _,_ => False
theorem pJ {vs : List Value} {ls : List (List α)} {i : Int} {x : List α} (h : ix ls i = some x) (hl : vs.length = ls.length) : ix vs i = some (Xv vs i) := by
  obtain ⟨h0,h1,h2⟩ := IP h
  have h3 : i.toNat < vs.length := by have := (List.getElem?_eq_some_iff.1 h2).1; omega
  unfold ix Xv
  simp [h0,List.getElem?_eq_getElem h3]
theorem ZH {w : World} {A : Nat → Prop} : ∀ {vs : List Value} {ls : List (List α)} {k : Nat} {x : List α} {v : Value},o8 w A r vs ls → ls[k]? = some x → vs[k]? = some v → Sl w A r v x
  | [],[],k,x,v,_,h1,_ => by simp at h1
  | [],_ :: _,_,_,_,h,_,_ => h.elim
  | _ :: _,[],_,_,_,h,_,_ => h.elim
  | v' :: vs,l :: ls,0,x,v,h,h1,h2 => by simp at h1 h2; subst h1 h2; exact h.1
  | v' :: vs,l :: ls,k + 1,x,v,h,h1,h2 => ZH h.2 (by simpa using h1) (by simpa using h2)
theorem XW {w : World} {A : Nat → Prop} {vs : List Value} {ls : List (List α)} {i : Int} {x : List α} (hA : o8 w A r vs ls) (hl : vs.length = ls.length) (h : ix ls i = some x) : Sl w A r (Xv vs i) x := by
  obtain ⟨_,_,h2⟩ := IP h
  have h3 : i.toNat < vs.length := by have := (List.getElem?_eq_some_iff.1 h2).1; omega
  refine ZH (k := i.toNat) hA h2 ?_
  simp [Xv,List.getElem?_eq_getElem h3]
end
end Go.Proofs.YtkhiflmalgkjiaaGreat
