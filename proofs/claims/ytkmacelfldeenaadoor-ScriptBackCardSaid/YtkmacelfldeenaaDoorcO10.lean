/- Strings, bytes, bits, conversions, make. Conditions: none. -/
import Derived.Test.YtkmacelfldeenaaDoorcO9
import Derived.Laws.BytesString
import Derived.Laws.MakeOwn
namespace Go.Proofs.YtkmacelfldeenaaDoor
set_option linter.unusedVariables false
set_option linter.unusedSimpArgs false
open Go Go.RowKit
theorem BV (l : List UInt8) : (bs l).size = l.length := by simp [ByteArray.size]
theorem Gv (l m : List UInt8) : bs l ++ bs m = bs (l ++ m) := by apply ByteArray.ext; simp
theorem EF (l : List UInt8) : (bs l).toList = l := by simp
theorem HS (l : List UInt8) (i : Nat) : (bs l)[i]? = l[i]? := by
  by_cases h : i < l.length
  · rw [List.getElem?_eq_getElem h]
    have h' : i < (bs l).size := by rw [BV]; exact h
    simp only [getElem?_def, h', dite_true]
    rfl
  · rw [List.getElem?_eq_none (by omega)]
    have h' : ¬ i < (bs l).size := by rw [BV]; exact h
    simp only [getElem?_def, h', dite_false]
theorem Ht (l m : List UInt8) : (l == m) = decide (l = m) := by by_cases h : l = m <;> simp [h]
section
variable {P : Program} {B : Bs} {M M' : Bx} {Z Z' Z1 : List It} {n : Nat} {ds : List Deferred} {F F' : List (Nat × Value)} {a : Act} {w w' : World}
variable {ops : Array Oper} {Q : Exit → Act → World → Prop} {rest : List Oper} {o : Oper}
variable {dst : Option Tmp} {ty : TypeId} {pos : String} {aft : Array Edge} {g : Option (Nat × Bool)} {v : Value}
variable {α : Type} {r : Rp α} {l m : List UInt8} {x y : Operand} {T T' t e by_ : Nat} {p q : Int} {k k' : IntKind}
section
variable {ad : Addr} {pt : TypeId}
end
theorem C0 {l3 : List UInt8} (hF : Fr n ds F a) (hx : B4 F x = some (.string (bs l))) (hy : B4 F y = some (.string (bs m))) (ha : CR l m = some l3) : Yx P B M Z a ⟨dst, .binOp .add T x y T', ty, pos, aft, g⟩ (.string (bs l3)) :=
  Bb fun w _ => by
    obtain ⟨h1, rfl⟩ := Eh ha
    have h2 : ¬ ((((bs l).size + (bs m).size : Nat) : Int) > IntKind.i64.max) := by rw [BV, BV]; have : IntKind.i64.max = 9223372036854775807 := rfl; omega
    have h3 : (Op.stringOp .add (bs l) (bs m)).run P w = .ok (.string (bs (l ++ m))) w := by
      unfold Op.stringOp
      simp only [if_neg h2]
      rw [Gv]; rfl
    simp only [execOp, hF.eval hx, hF.eval hy, Sem.run_bind, Ci, binOp, h3, Result.andThen_ok]
    rfl
theorem F3 {op : BinOp} {u : Bool} (h : (Op.stringOp op (bs l) (bs m)).run P w = .ok (.bool u) w) (h1 : op ≠ .shl) (h2 : op ≠ .shr) (hF : Fr n ds F a) (hx : B4 F x = some (.string (bs l))) (hy : B4 F y = some (.string (bs m))) : (execOp a.eval ⟨dst, .binOp op T x y T', ty, pos, aft, g⟩).run P w = .ok (.value (.bool u)) w := by
  simp only [execOp, hF.eval hx, hF.eval hy, Sem.run_bind, Ci, Result.andThen_ok]
  have : binOp op T (.string (bs l)) (.string (bs m)) = Op.stringOp op (bs l) (bs m) := by cases op <;> rfl
  simp only [this, h, Result.andThen_ok]
  rfl
theorem FV (hF : Fr n ds F a) (hx : B4 F x = some (.string (bs l))) (hy : B4 F y = some (.string (bs m))) : Yx P B M Z a ⟨dst, .binOp .eql T x y T', ty, pos, aft, g⟩ (.bool (decide (l = m))) :=
  Bb fun w _ => F3 (by
    simp only [Op.stringOp, EF]
    rw [Ht]; rfl) (by simp) (by simp) hF hx hy
theorem Ij (hF : Fr n ds F a) (hx : B4 F x = some (.string (bs l))) (hy : B4 F y = some (.string (bs m))) : Yx P B M Z a ⟨dst, .binOp .neq T x y T', ty, pos, aft, g⟩ (.bool (decide (l ≠ m))) :=
  Bb fun w _ => F3 (by
    simp only [Op.stringOp, EF]
    have : (!(l == m)) = decide (l ≠ m) := by
      by_cases h : l = m <;> simp [h]
    rw [this]; rfl) (by simp) (by simp) hF hx hy
theorem Eu {ts : Array TypeId} (ht : P.underlying t = some .string) (hts : ts[0]? = some t) (hF : Fr n ds F a) (hx : B4 F x = some (.string (bs l))) :
    Yx P B M Z a ⟨dst, .call ⟨.builtin .len, #[x], ts⟩, ty, pos, aft, g⟩ (.int .i64 (l.length : Int)) :=
  Bb fun w hw => by
    have hts' : ts.toList[0]? = some t := by simpa using hts
    have := BV l
    simp [execOp, BE, invoke, builtin, Builtin.len_, hF.eval hx, hts, Go.underlying, ht, goInt, this]
theorem Dz {i : Int} {c : UInt8} {k : IntKind} (ht : P.underlying t = some .string) (hF : Fr n ds F a) (hx : B4 F x = some (.string (bs l))) (hi : B4 F y = some (.int k i)) (h : ix l i = some c) :
    Yx P B M Z a ⟨dst, .index t x y, ty, pos, aft, g⟩ (.int .u8 (c.toNat : Int)) :=
  Bb fun w hw => by
    obtain ⟨h0, hk, hc⟩ := En h
    have hg : (if 0 ≤ i then (bs l)[i.toNat]? else none) = some c := by rw [if_pos h0, HS]; exact hc
    simp only [execOp, Instr.indexAt, hF.eval hx, hF.eval hi, Instr.index, asIntOf, Go.underlying, Sem.run_bind, run_program, ht, Result.andThen_ok, Sem.run_pure, hg]
end
end Go.Proofs.YtkmacelfldeenaaDoor
