/- Plain mathematics: loops, ranges, bytes. Conditions: none. -/
import Derived.Test.YtkmacelfldeenaaDoorcOR
namespace Go.Proofs.YtkmacelfldeenaaDoor
set_option linter.unusedVariables false
set_option linter.unusedSimpArgs false
open Go Go.RowKit
theorem Bk {x : Int} (h : -9223372036854775808 ≤ x ∧ x ≤ 9223372036854775807) : CF x = x := IntWalk.i64_in x h
theorem BS {α : Type} {l : List α} {k : Nat} {x : α} (h : l[k]? = some x) : ix l (k : Int) = some x := by
  unfold ix; rw [if_pos (by omega)]; simpa using h
theorem A4 {α : Type} {l m : List α} (h : l.length + m.length ≤ 1000000000) : CR l m = some (l ++ m) := by unfold CR; rw [if_pos h]
theorem F0 {α : Type} {l : List α} {lo hi : Int} (h : 0 ≤ lo ∧ lo ≤ hi ∧ hi ≤ l.length) : CP l lo hi = some ((l.take hi.toNat).drop lo.toNat) := by unfold CP; rw [if_pos h]
def be : Nat → Int → List UInt8
  | 0, _ => []
  | w + 1, n => be w (n / 256) ++ [UInt8.ofNat (n % 256).toNat]
end Go.Proofs.YtkmacelfldeenaaDoor
