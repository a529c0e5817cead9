/- Plain mathematics: loops, ranges, bytes. Conditions: none. -/
import Derived.Test.YtfnmlmglmegamaacOR
namespace Go.Proofs.Ytfnmlmglmegamaa
set_option linter.unusedVariables false
set_option linter.unusedSimpArgs false
open Go Go.RowKit
theorem Bg {x : Int} (h : -9223372036854775808 ≤ x ∧ x ≤ 9223372036854775807) : Cs x = x := IntWalk.i64_in x h
theorem JH {n : Int} (h : (Lit.int .i64 n).wf = true) : -9223372036854775808 ≤ n ∧ n ≤ 9223372036854775807 := by
  simp only [Lit.wf, IntKind.has] at h
  simpa [IntKind.min, IntKind.max, IntKind.bits, IntKind.signed] using h
theorem BL {α : Type} {l : List α} {k : Nat} {x : α} (h : l[k]? = some x) : ix l (k : Int) = some x := by
  unfold ix; rw [if_pos (by omega)]; simpa using h
theorem Ew {α : Type} {l m : List α} (h : l.length + m.length ≤ 1000000000) : Jb l m = some (l ++ m) := by unfold Jb; rw [if_pos h]
theorem Fa {α : Type} {l : List α} {lo hi : Int} (h : 0 ≤ lo ∧ lo ≤ hi ∧ hi ≤ l.length) : DP l lo hi = some ((l.take hi.toNat).drop lo.toNat) := by unfold DP; rw [if_pos h]
theorem OS {α : Type} {n : Int} {z : α} (h : 0 ≤ n ∧ n ≤ 1000000000) : mk n z = some (List.replicate n.toNat z) := by unfold mk; rw [if_pos h]
def be : Nat → Int → List UInt8
  | 0, _ => []
  | w + 1, n => be w (n / 256) ++ [UInt8.ofNat (n % 256).toNat]
def val (l : List UInt8) : Int := l.foldl (fun n b => n * 256 + (b.toNat : Int)) 0
end Go.Proofs.Ytfnmlmglmegamaa
