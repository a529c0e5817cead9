/- The bytes of a string as a row; an array of the call's own as a row. Conditions: none. -/
import Derived.Test.YtfnmlmglmegamaacOC
import Derived.Test.YtfnmlmglmegamaacOT
import Derived.Lib.ConvBytes
import Derived.Lib.UnsafeStr
namespace Go.Proofs.Ytfnmlmglmegamaa
set_option linter.unusedVariables false
set_option linter.unusedSimpArgs false
set_option linter.unusedSectionVars false
open Go Go.RowKit
section
variable {P : Program} {B : Bs} {M M' : Cp} {Z Z' Z1 : List It} {n : Nat} {ds : List Deferred} {F F' : List (Nat × Value)} {a : Act} {w w' : World}
variable {ops : Array Oper} {Q : Exit → Act → World → Prop} {rest : List Oper} {o : Oper}
variable {ty : TypeId} {pos : String} {aft : Array Edge}
def Mw {α : Type} (m : Nat) (l : List α) (i : Int) : Option α := if l.length = m then ix l i else none
theorem C8 {α : Type} {m : Nat} {l : List α} {i : Int} {x : α} (h : Mw m l i = some x) : l.length = m ∧ ix l i = some x := by
  unfold Mw at h
  split at h
  · exact ⟨by assumption, h⟩
  · cases h
end
end Go.Proofs.Ytfnmlmglmegamaa
