/- Plain mathematics: loops, ranges, bytes. Conditions: none. -/
import Derived.Test.YtbiekjhlijdjbaaGreatbOR
set_option linter.unusedVariables false
set_option linter.unusedSimpArgs false
open Go Go.RowKit
namespace Go.Proofs.YtbiekjhlijdjbaaGreat
theorem AC {x : Int} (h : -9223372036854775808 ≤ x ∧ x ≤ 9223372036854775807) : w64 x = x := IntWalk.i64_in x h
theorem Vx (x : Int) : w64 x = if 9223372036854775808 ≤ x % 18446744073709551616 then x % 18446744073709551616 - 18446744073709551616 else x % 18446744073709551616 := by
  show IntKind.i64.wrap x = _
  simp [IntKind.wrap,IntKind.bits,IntKind.signed]
theorem AO {α : Type} {l : List α} {k : Nat} {x : α} (h : l[k]? = some x) : ix l (k : Int) = some x := by
  unfold ix; rw [if_pos (by omega)]; simpa using h
theorem Cs {α : Type} {l m : List α} (h : l.length + m.length ≤ 1000000000) : app l m = some (l ++ m) := by unfold app; rw [if_pos h]
theorem KF {α : Type} {l : List α} {lo hi : Int} (h : 0 ≤ lo ∧ lo ≤ hi ∧ hi ≤ l.length) : GF l lo hi = some ((l.take hi.toNat).drop lo.toNat) := by unfold GF; rw [if_pos h]
theorem Id {α : Type} {n : Int} {z : α} (h : 0 ≤ n ∧ n ≤ 1000000000) : mk n z = some (List.replicate n.toNat z) := by unfold mk; rw [if_pos h]
def be : Nat → Int → List UInt8
  | 0,_ => []
  | w + 1,n => be w (n / 256) ++ [UInt8.ofNat (n % 256).toNat]
def val (l : List UInt8) : Int := l.foldl (fun n b => n * 256 + (b.toNat : Int)) 0
end Go.Proofs.YtbiekjhlijdjbaaGreat
