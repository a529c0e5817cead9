/- Plain mathematics: loops, ranges, bytes. Conditions: none. -/
import Derived.Test.YthmkgdnnocemmaaDoorcOR
namespace Go.Proofs.YthmkgdnnocemmaaDoor
set_option linter.unusedVariables false
set_option linter.unusedSimpArgs false
open Go Go.RowKit
theorem FE {x : Int} (h : -9223372036854775808 ≤ x ∧ x ≤ 9223372036854775807) : CL x = x := IntWalk.i64_in x h
theorem Eb {α : Type} {l : List α} {k : Nat} {x : α} (h : l[k]? = some x) : ix l (k : Int) = some x := by
  unfold ix; rw [if_pos (by omega)]; simpa using h
theorem Cz {α : Type} {l m : List α} (h : l.length + m.length ≤ 1000000000) : DB l m = some (l ++ m) := by unfold DB; rw [if_pos h]
theorem JG {α : Type} {l : List α} {lo hi : Int} (h : 0 ≤ lo ∧ lo ≤ hi ∧ hi ≤ l.length) : Ef l lo hi = some ((l.take hi.toNat).drop lo.toNat) := by unfold Ef; rw [if_pos h]
theorem Lc {v y : Int} (h : 0 ≤ y) : Mg v y = some v := by unfold Mg; rw [if_pos h]
def be : Nat → Int → List UInt8
  | 0, _ => []
  | w + 1, n => be w (n / 256) ++ [UInt8.ofNat (n % 256).toNat]
def val (l : List UInt8) : Int := l.foldl (fun n b => n * 256 + (b.toNat : Int)) 0
end Go.Proofs.YthmkgdnnocemmaaDoor
