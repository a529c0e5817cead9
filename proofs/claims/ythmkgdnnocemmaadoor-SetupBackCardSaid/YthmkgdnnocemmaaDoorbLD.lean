/- Plain mathematics: decimal numerals, cuts. Conditions: none. -/
import Derived.Test.YthmkgdnnocemmaaDoorbLP
import Derived.Test.YthmkgdnnocemmaaDoorbOG
import Derived.Test.YthmkgdnnocemmaaDoorbOT
import Derived.Lib.ItoaLen
import Derived.Lib.ItoaMem
import Derived.Lib.IndexMore
namespace Go.Proofs.YthmkgdnnocemmaaDoor
set_option linter.unusedVariables false
set_option linter.unusedSimpArgs false
open Go Go.RowKit
theorem KI {n : Int} (h : -9223372036854775808 ≤ n ∧ n ≤ 9223372036854775807) : Jf n = some (Lib.itoa n) := if_pos h
theorem Ny {n : Int} (h : -9223372036854775808 ≤ n ∧ n ≤ 9223372036854775807) : (Lib.itoa n).length ≤ 21 := Lib.itoa_length_le n h.1 h.2
theorem Nd {u : Nat} (h : 10 ≤ u) : Lib.decDigits u = Lib.decDigits (u / 10) ++ [UInt8.ofNat (48 + u % 10)] := by rw [Lib.decDigits, dif_neg (by omega)]
abbrev i64 (n : Int) : Prop := -9223372036854775808 ≤ n ∧ n ≤ 9223372036854775807
def d3 (u : Nat) : List UInt8 := if u < 10 then [UInt8.ofNat (48 + u)] else if u < 100 then [UInt8.ofNat (48 + u / 10), UInt8.ofNat (48 + u % 10)] else [UInt8.ofNat (48 + u / 100), UInt8.ofNat (48 + u / 10 % 10), UInt8.ofNat (48 + u % 10)]
theorem Ks {d r : List UInt8} {c : UInt8} (h : c ∉ d) : Lib.index (d ++ c :: r) [c] = (d.length : Int) := by
  induction d with
  | nil => simp [Lib.index, List.isPrefixOf]
  | cons b l ih =>
    have h1 : c ≠ b := fun e => h (by rw [e]; exact List.mem_cons_self ..)
    have h2 := ih fun hm => h (List.mem_cons_of_mem _ hm)
    have h3 : (c == b) = false := by simpa using h1
    simp only [List.cons_append, Lib.index, List.isPrefixOf, h3, Bool.false_and, Bool.false_eq_true, if_false, h2]
    rw [if_neg (by first | (simp; done) | (simp; omega))]
    simp
theorem KH {d : List UInt8} {c : UInt8} (h : c ∉ d) : Lib.index d [c] = -1 := by
  induction d with
  | nil => rfl
  | cons b l ih =>
    have h1 : c ≠ b := fun e => h (by rw [e]; exact List.mem_cons_self ..)
    have h2 := ih fun hm => h (List.mem_cons_of_mem _ hm)
    have h3 : (c == b) = false := by simpa using h1
    simp only [Lib.index, List.isPrefixOf, h3, Bool.false_and, Bool.false_eq_true, if_false, h2]
    simp
theorem KV {d r : List UInt8} {c : UInt8} (h : c ∉ d) : Lib.cut (d ++ c :: r) [c] = (d, r, true) := by
  unfold Lib.cut
  rw [Ks h, if_pos (by omega)]
  simp
theorem M8 {d : List UInt8} {c : UInt8} (h : c ∉ d) : Lib.cut d [c] = (d, [], false) := by
  unfold Lib.cut
  rw [KH h, if_neg (by decide)]
theorem Hj {s sep : List UInt8} (h : s.length ≤ 1000000000) : Hs s sep = some (Lib.cut s sep) := if_pos h
theorem Nk {s : List UInt8} {v : Int} (h : s.length ≤ 1000000000) (hv : Lib.atoiAll s = .ok v) : GT s = some (.inl v) := by unfold GT; rw [if_pos h, hv]
end Go.Proofs.YthmkgdnnocemmaaDoor
