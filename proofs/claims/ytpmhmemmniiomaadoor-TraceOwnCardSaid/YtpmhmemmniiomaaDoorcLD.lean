/- Plain mathematics: decimal numerals, cuts. Conditions: none. -/
import Derived.Test.YtpmhmemmniiomaaDoorcLP
import Derived.Test.YtpmhmemmniiomaaDoorcOG
import Derived.Test.YtpmhmemmniiomaaDoorcOT
import Derived.Lib.ItoaLen
import Derived.Lib.ItoaMem
import Derived.Lib.IndexMore
namespace Go.Proofs.YtpmhmemmniiomaaDoor
set_option linter.unusedVariables false
set_option linter.unusedSimpArgs false
open Go Go.RowKit
theorem BP {n : Int} (h : -9223372036854775808 ≤ n ∧ n ≤ 9223372036854775807) : CM n = some (Lib.itoa n) := if_pos h
theorem BO {n : Int} (h : -9223372036854775808 ≤ n ∧ n ≤ 9223372036854775807) : (Lib.itoa n).length ≤ 21 := Lib.itoa_length_le n h.1 h.2
abbrev i64 (n : Int) : Prop := -9223372036854775808 ≤ n ∧ n ≤ 9223372036854775807
end Go.Proofs.YtpmhmemmniiomaaDoor
