/- Rows: elements put over others (append in place, clear, copy), slices with a capacity. Conditions: none. -/
import Derived.Test.YthmkgdnnocemmaaGreatDoorbOE
namespace Go.Proofs.YthmkgdnnocemmaaGreatDoor
set_option linter.unusedVariables false
set_option linter.unusedSimpArgs false
open Go Go.RowKit
section
variable {P : Program} {B : Bs} {M M' : Cg} {Z Z' Z1 : List It} {n : Nat} {ds : List Deferred} {F F' : List (Nat × Value)} {a : Act} {w w' : World}
variable {ops : Array Oper} {Q : Exit → Act → World → Prop} {rest : List Oper} {o : Oper}
variable {dst : Option Tmp} {ty : TypeId} {pos : String} {aft : Array Edge} {g : Option (Nat × Bool)}
variable {α : Type} {r : Rp α} {l l1 l2 l3 : List α} {v u : Value} {x : α} {i : Int} {t e by_ : Nat}
theorem KZ {d i gd : Nat} {u u' : Bool} {l : List Oper} {o : Oper} (hF : Fr n ds F a) (hl : ops = l.toArray) (hg : o.guard = some (i, u)) (hgd : (l[i]?).bind (·.dst) = some gd) (hk : lk F gd = some (.bool u')) (hne : (u' == u) = false) (hd : o.dst = some d) (hn : Nat.blt d n = true)
    (k : ∀ a', Fr n ds ((d, undef) :: F) a' → wpList P ops Q rest a' w) : wpList P ops Q (o :: rest) a w := Nl hF (AZ hF hl hg hgd hk hne) hd hn k
end
theorem JR {a b : Bool} (h : a = b) : some (Value.bool a) = some (Value.bool b) := by rw [h]
theorem JI : (!true) = false ∧ (!false) = true ∧ (∀ b, (true && b) = b) ∧ (∀ b, (false && b) = false) ∧ (∀ b, (true || b) = true) ∧ (∀ b, (false || b) = b) ∧ (∀ b, (b && true) = b) ∧ (∀ b, (b || false) = b) ∧ (∀ x y : Bool, (bif true then x else y) = x) ∧ (∀ x y : Bool, (bif false then x else y) = y) := by simp
end Go.Proofs.YthmkgdnnocemmaaGreatDoor
