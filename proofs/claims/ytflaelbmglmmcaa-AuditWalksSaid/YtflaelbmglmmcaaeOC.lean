/- Rows: elements put over others (append in place, clear, copy), slices with a capacity. Conditions: none. -/
import Derived.Test.YtflaelbmglmmcaaeOE
namespace Go.Proofs.Ytflaelbmglmmcaa
set_option linter.unusedVariables false
set_option linter.unusedSimpArgs false
open Go Go.RowKit
section
variable {P : Program} {B : Bs} {M M' : BR} {Z Z' Z1 : List It} {n : Nat} {ds : List Deferred} {F F' : List (Nat × Value)} {a : Act} {w w' : World}
variable {ops : Array Oper} {Q : Exit → Act → World → Prop} {rest : List Oper} {o : Oper}
variable {dst : Option Tmp} {ty : TypeId} {pos : String} {aft : Array Edge} {g : Option (Nat × Bool)}
variable {α : Type} {r : Rp α} {l l1 l2 l3 : List α} {v u : Value} {x : α} {i : Int} {t e by_ : Nat}
theorem BW {d i gd : Nat} {u u' : Bool} {l : List Oper} {o : Oper} (hF : Fr n ds F a) (hl : ops = l.toArray) (hg : o.guard = some (i, u)) (hgd : (l[i]?).bind (·.dst) = some gd) (hk : lk F gd = some (.bool u')) (hne : (u' == u) = false) (hd : o.dst = some d) (hn : Nat.blt d n = true)
    (k : ∀ a', Fr n ds ((d, undef) :: F) a' → wpList P ops Q rest a' w) : wpList P ops Q (o :: rest) a w := M0 hF (EW hF hl hg hgd hk hne) hd hn k
end
end Go.Proofs.Ytflaelbmglmmcaa
