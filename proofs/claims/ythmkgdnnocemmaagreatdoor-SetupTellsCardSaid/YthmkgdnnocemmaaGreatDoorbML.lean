/- Plain mathematics: loops, ranges, bytes. Conditions: none. -/
import Derived.Test.YthmkgdnnocemmaaGreatDoorbOR
namespace Go.Proofs.YthmkgdnnocemmaaGreatDoor
set_option linter.unusedVariables false
set_option linter.unusedSimpArgs false
open Go Go.RowKit
theorem Bx {x : Int} (h : -9223372036854775808 ≤ x ∧ x ≤ 9223372036854775807) : BD x = x := IntWalk.i64_in x h
theorem AQ {α : Type} {l : List α} {k : Nat} {x : α} (h : l[k]? = some x) : ix l (k : Int) = some x := by
  unfold ix; rw [if_pos (by omega)]; simpa using h
theorem Bo {α : Type} {l m : List α} (h : l.length + m.length ≤ 1000000000) : Dg l m = some (l ++ m) := by unfold Dg; rw [if_pos h]
theorem Ix {α : Type} {l : List α} {lo hi : Int} (h : 0 ≤ lo ∧ lo ≤ hi ∧ hi ≤ l.length) : D3 l lo hi = some ((l.take hi.toNat).drop lo.toNat) := by unfold D3; rw [if_pos h]
theorem Pi {v y : Int} (h : 0 ≤ y) : Qw v y = some v := by unfold Qw; rw [if_pos h]
def be : Nat → Int → List UInt8
  | 0, _ => []
  | w + 1, n => be w (n / 256) ++ [UInt8.ofNat (n % 256).toNat]
def val (l : List UInt8) : Int := l.foldl (fun n b => n * 256 + (b.toNat : Int)) 0
end Go.Proofs.YthmkgdnnocemmaaGreatDoor
