/- Plain mathematics: loops, ranges, bytes. Conditions: none. -/
import Derived.Test.YtkjjioigbpkifaaaOR
namespace Go.Proofs.Ytkjjioigbpkifaa
set_option linter.unusedVariables false
set_option linter.unusedSimpArgs false
open Go Go.RowKit
theorem Cj {x : Int} (h : -9223372036854775808 ≤ x ∧ x ≤ 9223372036854775807) : CL x = x := IntWalk.i64_in x h
theorem I5 {n : Int} (h : (Lit.int .i64 n).wf = true) : -9223372036854775808 ≤ n ∧ n ≤ 9223372036854775807 := by
  simp only [Lit.wf, IntKind.has] at h
  simpa [IntKind.min, IntKind.max, IntKind.bits, IntKind.signed] using h
theorem Dw {α : Type} {l : List α} {k : Nat} {x : α} (h : l[k]? = some x) : ix l (k : Int) = some x := by
  unfold ix; rw [if_pos (by omega)]; simpa using h
theorem KZ {α : Type} {l m : List α} (h : l.length + m.length ≤ 1000000000) : Jm l m = some (l ++ m) := by unfold Jm; rw [if_pos h]
def be : Nat → Int → List UInt8
  | 0, _ => []
  | w + 1, n => be w (n / 256) ++ [UInt8.ofNat (n % 256).toNat]
def val (l : List UInt8) : Int := l.foldl (fun n b => n * 256 + (b.toNat : Int)) 0
end Go.Proofs.Ytkjjioigbpkifaa
