/- Plain mathematics: loops, ranges, bytes. Conditions: none. -/
import Derived.Test.YtkmacelfldeenaaDoorbOR
namespace Go.Proofs.YtkmacelfldeenaaDoor
set_option linter.unusedVariables false
set_option linter.unusedSimpArgs false
open Go Go.RowKit
theorem AP {x : Int} (h : -9223372036854775808 ≤ x ∧ x ≤ 9223372036854775807) : BE x = x := IntWalk.i64_in x h
theorem IY {n : Int} (h : (Lit.int .i64 n).wf = true) : -9223372036854775808 ≤ n ∧ n ≤ 9223372036854775807 := by
  simp only [Lit.wf, IntKind.has] at h
  simpa [IntKind.min, IntKind.max, IntKind.bits, IntKind.signed] using h
theorem BM {α : Type} {l : List α} {k : Nat} {x : α} (h : l[k]? = some x) : ix l (k : Int) = some x := by
  unfold ix; rw [if_pos (by omega)]; simpa using h
theorem Bw {α : Type} {l m : List α} (h : l.length + m.length ≤ 1000000000) : DB l m = some (l ++ m) := by unfold DB; rw [if_pos h]
theorem FG {α : Type} {l : List α} {lo hi : Int} (h : 0 ≤ lo ∧ lo ≤ hi ∧ hi ≤ l.length) : CK l lo hi = some ((l.take hi.toNat).drop lo.toNat) := by unfold CK; rw [if_pos h]
def be : Nat → Int → List UInt8
  | 0, _ => []
  | w + 1, n => be w (n / 256) ++ [UInt8.ofNat (n % 256).toNat]
end Go.Proofs.YtkmacelfldeenaaDoor
