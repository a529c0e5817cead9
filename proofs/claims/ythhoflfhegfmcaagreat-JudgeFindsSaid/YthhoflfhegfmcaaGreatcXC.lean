/- Slices whose capacity is known: appending to them makes new memory. Conditions: none. -/
import Derived.Test.YthhoflfhegfmcaaGreatcOX
namespace Go.Proofs.YthhoflfhegfmcaaGreat
set_option linter.unusedVariables false
set_option linter.unusedSimpArgs false
set_option linter.unusedSectionVars false
open Go Go.RowKit
def XI (a b : Nat) : Option Unit := if a < b then some () else none
theorem W4 {a b : Nat} {u : Unit} (h : XI a b = some u) : a < b := by
  unfold XI at h
  split at h
  · assumption
  · cases h
section
variable {α : Type} {r : Rp α} {l l2 l3 : List α} {v u : Value} {t e by_ N : Nat}
variable {P : Program} {B : Bs} {M M' : Dg} {Z Z' Z1 : List It} {n : Nat} {ds : List Deferred} {F F' : List (Nat × Value)} {a : Act} {w w' : World}
variable {ops : Array Oper} {Q : Exit → Act → World → Prop} {rest : List Oper} {o : Oper}
variable {dst : Option Tmp} {ty : TypeId} {pos : String} {aft : Array Edge} {g : Option (Nat × Bool)}
end
end Go.Proofs.YthhoflfhegfmcaaGreat
