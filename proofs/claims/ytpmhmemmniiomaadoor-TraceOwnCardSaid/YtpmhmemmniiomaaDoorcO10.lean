/- Strings, bytes, bits, conversions, make. Conditions: none. -/
import Derived.Test.YtpmhmemmniiomaaDoorcO9
import Derived.Laws.BytesString
import Derived.Laws.MakeOwn
namespace Go.Proofs.YtpmhmemmniiomaaDoor
set_option linter.unusedVariables false
set_option linter.unusedSimpArgs false
open Go Go.RowKit
theorem EN (l : List UInt8) : (bs l).size = l.length := by simp [ByteArray.size]
theorem FV (l m : List UInt8) : bs l ++ bs m = bs (l ++ m) := by apply ByteArray.ext; simp
theorem FL (l : List UInt8) : (bs l).toList = l := by simp
theorem GS (l m : List UInt8) : (l == m) = decide (l = m) := by by_cases h : l = m <;> simp [h]
section
variable {P : Program} {B : Bs} {M M' : AU} {Z Z' Z1 : List It} {n : Nat} {ds : List Deferred} {F F' : List (Nat × Value)} {a : Act} {w w' : World}
variable {ops : Array Oper} {Q : Exit → Act → World → Prop} {rest : List Oper} {o : Oper}
variable {dst : Option Tmp} {ty : TypeId} {pos : String} {aft : Array Edge} {g : Option (Nat × Bool)} {v : Value}
variable {α : Type} {r : Rp α} {l m : List UInt8} {x y : Operand} {T T' t e by_ : Nat} {p q : Int} {k k' : IntKind}
section
variable {ad : Addr} {pt : TypeId}
end
theorem BW {l3 : List UInt8} (hF : Fr n ds F a) (hx : Bw F x = some (.string (bs l))) (hy : Bw F y = some (.string (bs m))) (ha : CL l m = some l3) : Yx P B M Z a ⟨dst, .binOp .add T x y T', ty, pos, aft, g⟩ (.string (bs l3)) :=
  Bb fun w _ => by
    obtain ⟨h1, rfl⟩ := CU ha
    have h2 : ¬ ((((bs l).size + (bs m).size : Nat) : Int) > IntKind.i64.max) := by rw [EN, EN]; have : IntKind.i64.max = 9223372036854775807 := rfl; omega
    have h3 : (Op.stringOp .add (bs l) (bs m)).run P w = .ok (.string (bs (l ++ m))) w := by
      unfold Op.stringOp
      simp only [if_neg h2]
      rw [FV]; rfl
    simp only [execOp, hF.eval hx, hF.eval hy, Sem.run_bind, B6, binOp, h3, Result.andThen_ok]
    rfl
theorem G9 {op : BinOp} {u : Bool} (h : (Op.stringOp op (bs l) (bs m)).run P w = .ok (.bool u) w) (h1 : op ≠ .shl) (h2 : op ≠ .shr) (hF : Fr n ds F a) (hx : Bw F x = some (.string (bs l))) (hy : Bw F y = some (.string (bs m))) : (execOp a.eval ⟨dst, .binOp op T x y T', ty, pos, aft, g⟩).run P w = .ok (.value (.bool u)) w := by
  simp only [execOp, hF.eval hx, hF.eval hy, Sem.run_bind, B6, Result.andThen_ok]
  have : binOp op T (.string (bs l)) (.string (bs m)) = Op.stringOp op (bs l) (bs m) := by cases op <;> rfl
  simp only [this, h, Result.andThen_ok]
  rfl
theorem HR (hF : Fr n ds F a) (hx : Bw F x = some (.string (bs l))) (hy : Bw F y = some (.string (bs m))) : Yx P B M Z a ⟨dst, .binOp .eql T x y T', ty, pos, aft, g⟩ (.bool (decide (l = m))) :=
  Bb fun w _ => G9 (by
    simp only [Op.stringOp, FL]
    rw [GS]; rfl) (by simp) (by simp) hF hx hy
end
end Go.Proofs.YtpmhmemmniiomaaDoor
