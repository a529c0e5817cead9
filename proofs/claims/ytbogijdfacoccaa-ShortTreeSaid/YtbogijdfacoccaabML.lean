/- Plain mathematics: loops, ranges, bytes. Conditions: none. -/
import Derived.Test.YtbogijdfacoccaabOR
namespace Go.Proofs.Ytbogijdfacoccaa
set_option linter.unusedVariables false
set_option linter.unusedSimpArgs false
open Go Go.RowKit
theorem AY {x : Int} (h : -9223372036854775808 ≤ x ∧ x ≤ 9223372036854775807) : BH x = x := IntWalk.i64_in x h
theorem PI (x : Int) : BH x = if 9223372036854775808 ≤ x % 18446744073709551616 then x % 18446744073709551616 - 18446744073709551616 else x % 18446744073709551616 := by
  show IntKind.i64.wrap x = _
  simp [IntKind.wrap, IntKind.bits, IntKind.signed]
theorem Bl {α : Type} {l : List α} {k : Nat} {x : α} (h : l[k]? = some x) : ix l (k : Int) = some x := by
  unfold ix; rw [if_pos (by omega)]; simpa using h
theorem DH {α : Type} {l m : List α} (h : l.length + m.length ≤ 1000000000) : HV l m = some (l ++ m) := by unfold HV; rw [if_pos h]
theorem KP {α : Type} {l : List α} {lo hi : Int} (h : 0 ≤ lo ∧ lo ≤ hi ∧ hi ≤ l.length) : E6 l lo hi = some ((l.take hi.toNat).drop lo.toNat) := by unfold E6; rw [if_pos h]
theorem HC {α : Type} {n : Int} {z : α} (h : 0 ≤ n ∧ n ≤ 1000000000) : mk n z = some (List.replicate n.toNat z) := by unfold mk; rw [if_pos h]
def be : Nat → Int → List UInt8
  | 0, _ => []
  | w + 1, n => be w (n / 256) ++ [UInt8.ofNat (n % 256).toNat]
def val (l : List UInt8) : Int := l.foldl (fun n b => n * 256 + (b.toNat : Int)) 0
end Go.Proofs.Ytbogijdfacoccaa
