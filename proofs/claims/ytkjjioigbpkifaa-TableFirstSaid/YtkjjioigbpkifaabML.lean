/- Plain mathematics: loops, ranges, bytes. Conditions: none. -/
import Derived.Test.YtkjjioigbpkifaabOR
namespace Go.Proofs.Ytkjjioigbpkifaa
set_option linter.unusedVariables false
set_option linter.unusedSimpArgs false
open Go Go.RowKit
theorem D9 {x : Int} (h : -9223372036854775808 ≤ x ∧ x ≤ 9223372036854775807) : C3 x = x := IntWalk.i64_in x h
theorem F2 {α : Type} {l : List α} {k : Nat} {x : α} (h : l[k]? = some x) : ix l (k : Int) = some x := by
  unfold ix; rw [if_pos (by omega)]; simpa using h
def be : Nat → Int → List UInt8
  | 0, _ => []
  | w + 1, n => be w (n / 256) ++ [UInt8.ofNat (n % 256).toNat]
def val (l : List UInt8) : Int := l.foldl (fun n b => n * 256 + (b.toNat : Int)) 0
end Go.Proofs.Ytkjjioigbpkifaa
