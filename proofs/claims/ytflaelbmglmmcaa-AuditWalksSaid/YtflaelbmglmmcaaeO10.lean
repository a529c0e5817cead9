/- Strings, bytes, bits, conversions, make. Conditions: none. -/
import Derived.Test.YtflaelbmglmmcaaeO9
import Derived.Laws.BytesString
import Derived.Laws.MakeOwn
namespace Go.Proofs.Ytflaelbmglmmcaa
set_option linter.unusedVariables false
set_option linter.unusedSimpArgs false
open Go Go.RowKit
theorem Lo (l : List UInt8) : (bs l).toList = l := by simp
theorem Nc (l m : List UInt8) : (l == m) = decide (l = m) := by by_cases h : l = m <;> simp [h]
section
variable {P : Program} {B : Bs} {M M' : BR} {Z Z' Z1 : List It} {n : Nat} {ds : List Deferred} {F F' : List (Nat × Value)} {a : Act} {w w' : World}
variable {ops : Array Oper} {Q : Exit → Act → World → Prop} {rest : List Oper} {o : Oper}
variable {dst : Option Tmp} {ty : TypeId} {pos : String} {aft : Array Edge} {g : Option (Nat × Bool)} {v : Value}
variable {α : Type} {r : Rp α} {l m : List UInt8} {x y : Operand} {T T' t e by_ : Nat} {p q : Int} {k k' : IntKind}
section
variable {ad : Addr} {pt : TypeId}
end
theorem MZ {op : BinOp} {u : Bool} (h : (Op.stringOp op (bs l) (bs m)).run P w = .ok (.bool u) w) (h1 : op ≠ .shl) (h2 : op ≠ .shr) (hF : Fr n ds F a) (hx : Du F x = some (.string (bs l))) (hy : Du F y = some (.string (bs m))) : (execOp a.eval ⟨dst, .binOp op T x y T', ty, pos, aft, g⟩).run P w = .ok (.value (.bool u)) w := by
  simp only [execOp, hF.eval hx, hF.eval hy, Sem.run_bind, Gx, Result.andThen_ok]
  have : binOp op T (.string (bs l)) (.string (bs m)) = Op.stringOp op (bs l) (bs m) := by cases op <;> rfl
  simp only [this, h, Result.andThen_ok]
  rfl
theorem Oy (hF : Fr n ds F a) (hx : Du F x = some (.string (bs l))) (hy : Du F y = some (.string (bs m))) : Yx P B M Z a ⟨dst, .binOp .eql T x y T', ty, pos, aft, g⟩ (.bool (decide (l = m))) :=
  CH fun w _ => MZ (by
    simp only [Op.stringOp, Lo]
    rw [Nc]; rfl) (by simp) (by simp) hF hx hy
end
end Go.Proofs.Ytflaelbmglmmcaa
