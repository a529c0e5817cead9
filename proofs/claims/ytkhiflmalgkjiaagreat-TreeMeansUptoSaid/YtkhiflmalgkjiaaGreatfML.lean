/- Plain mathematics: loops, ranges, bytes. Conditions: none. -/
import Derived.Test.YtkhiflmalgkjiaaGreatfOR
set_option linter.unusedVariables false
set_option linter.unusedSimpArgs false
open Go Go.RowKit
namespace Go.Proofs.YtkhiflmalgkjiaaGreat
theorem Ah {x : Int} (h : -9223372036854775808 ≤ x ∧ x ≤ 9223372036854775807) : w64 x = x := IntWalk.i64_in x h
theorem wu8 (x : Int) : IntKind.u8.wrap x = x % 256 := by
  unfold IntKind.wrap
  simp only [IntKind.bits,IntKind.signed]
  simp
theorem A9 {α : Type} {l : List α} {k : Nat} {x : α} (h : l[k]? = some x) : ix l (k : Int) = some x := by
  unfold ix; rw [if_pos (by omega)]; simpa using h
theorem I5 {α : Type} {l m : List α} (h : l.length + m.length ≤ 1000000000) : HU l m = some (l ++ m) := by unfold HU; rw [if_pos h]
theorem ON {α : Type} {l : List α} {lo hi : Int} (h : 0 ≤ lo ∧ lo ≤ hi ∧ hi ≤ l.length) : JV l lo hi = some ((l.take hi.toNat).drop lo.toNat) := by unfold JV; rw [if_pos h]
theorem sH {v y : Int} (h : 0 ≤ y) : lM v y = some v := by unfold lM; rw [if_pos h]
def be : Nat → Int → List UInt8
  | 0,_ => []
  | w + 1,n => be w (n / 256) ++ [UInt8.ofNat (n % 256).toNat]
def val (l : List UInt8) : Int := l.foldl (fun n b => n * 256 + (b.toNat : Int)) 0
end Go.Proofs.YtkhiflmalgkjiaaGreat
