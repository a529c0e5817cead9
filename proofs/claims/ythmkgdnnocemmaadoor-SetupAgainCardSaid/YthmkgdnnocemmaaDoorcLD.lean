/- Plain mathematics: decimal numerals, cuts. Conditions: none. -/
import Derived.Test.YthmkgdnnocemmaaDoorcLP
import Derived.Test.YthmkgdnnocemmaaDoorcOG
import Derived.Test.YthmkgdnnocemmaaDoorcOT
import Derived.Lib.ItoaLen
import Derived.Lib.ItoaMem
import Derived.Lib.IndexMore
namespace Go.Proofs.YthmkgdnnocemmaaDoor
set_option linter.unusedVariables false
set_option linter.unusedSimpArgs false
open Go Go.RowKit
theorem IL {n : Int} (h : -9223372036854775808 ≤ n ∧ n ≤ 9223372036854775807) : Hv n = some (Lib.itoa n) := if_pos h
abbrev i64 (n : Int) : Prop := -9223372036854775808 ≤ n ∧ n ≤ 9223372036854775807
theorem IX {d r : List UInt8} {c : UInt8} (h : c ∉ d) : Lib.index (d ++ c :: r) [c] = (d.length : Int) := by
  induction d with
  | nil => simp [Lib.index, List.isPrefixOf]
  | cons b l ih =>
    have h1 : c ≠ b := fun e => h (by rw [e]; exact List.mem_cons_self ..)
    have h2 := ih fun hm => h (List.mem_cons_of_mem _ hm)
    have h3 : (c == b) = false := by simpa using h1
    simp only [List.cons_append, Lib.index, List.isPrefixOf, h3, Bool.false_and, Bool.false_eq_true, if_false, h2]
    rw [if_neg (by first | (simp; done) | (simp; omega))]
    simp
theorem IQ {d : List UInt8} {c : UInt8} (h : c ∉ d) : Lib.index d [c] = -1 := by
  induction d with
  | nil => rfl
  | cons b l ih =>
    have h1 : c ≠ b := fun e => h (by rw [e]; exact List.mem_cons_self ..)
    have h2 := ih fun hm => h (List.mem_cons_of_mem _ hm)
    have h3 : (c == b) = false := by simpa using h1
    simp only [Lib.index, List.isPrefixOf, h3, Bool.false_and, Bool.false_eq_true, if_false, h2]
    simp
theorem Mw {d r : List UInt8} {c : UInt8} (h : c ∉ d) : Lib.cut (d ++ c :: r) [c] = (d, r, true) := by
  unfold Lib.cut
  rw [IX h, if_pos (by omega)]
  simp
theorem ME {d : List UInt8} {c : UInt8} (h : c ∉ d) : Lib.cut d [c] = (d, [], false) := by
  unfold Lib.cut
  rw [IQ h, if_neg (by decide)]
theorem Iw {s sep : List UInt8} (h : s.length ≤ 1000000000) : GP s sep = some (Lib.cut s sep) := if_pos h
theorem KL {s : List UInt8} {v : Int} (h : s.length ≤ 1000000000) (hv : Lib.atoiAll s = .ok v) : FY s = some (.inl v) := by unfold FY; rw [if_pos h, hv]
end Go.Proofs.YthmkgdnnocemmaaDoor
