/- Plain mathematics: loops, ranges, bytes. Conditions: none. -/
import Derived.Test.YtdllfdmdfdfilaaDoorpOR
namespace Go.Proofs.YtdllfdmdfdfilaaDoor
set_option linter.unusedVariables false
set_option linter.unusedSimpArgs false
open Go Go.RowKit
theorem A4 {x : Int} (h : -9223372036854775808 ≤ x ∧ x ≤ 9223372036854775807) : Bn x = x := IntWalk.i64_in x h
theorem FI {n : Int} (h : (Lit.int .i64 n).wf = true) : -9223372036854775808 ≤ n ∧ n ≤ 9223372036854775807 := by
  simp only [Lit.wf, IntKind.has] at h
  simpa [IntKind.min, IntKind.max, IntKind.bits, IntKind.signed] using h
theorem C6 {α : Type} {l : List α} {k : Nat} {x : α} (h : l[k]? = some x) : ix l (k : Int) = some x := by
  unfold ix; rw [if_pos (by omega)]; simpa using h
theorem Bb {α : Type} {l m : List α} (h : l.length + m.length ≤ 1000000000) : CL l m = some (l ++ m) := by unfold CL; rw [if_pos h]
theorem GP {α : Type} {l : List α} {lo hi : Int} (h : 0 ≤ lo ∧ lo ≤ hi ∧ hi ≤ l.length) : CM l lo hi = some ((l.take hi.toNat).drop lo.toNat) := by unfold CM; rw [if_pos h]
def be : Nat → Int → List UInt8
  | 0, _ => []
  | w + 1, n => be w (n / 256) ++ [UInt8.ofNat (n % 256).toNat]
end Go.Proofs.YtdllfdmdfdfilaaDoor
