/- Strings, bytes, bits, conversions, make. Conditions: none. -/
import Derived.Test.YtgoifghhcekahaaGreatDoordO9
import Derived.Laws.BytesString
import Derived.Laws.MakeOwn
namespace Go.Proofs.YtgoifghhcekahaaGreatDoor
set_option linter.unusedVariables false
set_option linter.unusedSimpArgs false
open Go Go.RowKit
theorem Nu (l : List UInt8) : (bs l).size = l.length := by simp [ByteArray.size]
theorem T8 (l m : List UInt8) : bs l ++ bs m = bs (l ++ m) := by apply ByteArray.ext; simp
theorem TX (l : List UInt8) : (bs l).toList = l := by simp
theorem Xq (l : List UInt8) (i : Nat) : (bs l)[i]? = l[i]? := by
  by_cases h : i < l.length
  · rw [List.getElem?_eq_getElem h]
    have h' : i < (bs l).size := by rw [Nu]; exact h
    simp only [getElem?_def, h', dite_true]
    rfl
  · rw [List.getElem?_eq_none (by omega)]
    have h' : ¬ i < (bs l).size := by rw [Nu]; exact h
    simp only [getElem?_def, h', dite_false]
def Ht (k : IntKind) (x y : Int) : Int := k.wrap (x * 2 ^ (min y.toNat k.bits))
def Jr (k : IntKind) (x y : Int) : Int := x.fdiv (2 ^ (min y.toNat k.bits))
def XB (v : Int) (y : Int) : Option Int := if 0 ≤ y then some v else none
theorem LC {v y r : Int} (h : XB v y = some r) : 0 ≤ y ∧ v = r := by
  unfold XB at h; split at h <;> simp_all
def RD (k : IntKind) (x y : Int) : Int := k.wrap (BitVec.ofInt k.bits x &&& BitVec.ofInt k.bits y).toNat
def Y6 (k : IntKind) (x y : Int) : Int := k.wrap (BitVec.ofInt k.bits x ||| BitVec.ofInt k.bits y).toNat
def GX (k : IntKind) (x y : Int) : Int := k.wrap (BitVec.ofInt k.bits x ^^^ BitVec.ofInt k.bits y).toNat
def Qc (k : IntKind) (x y : Int) : Int := k.wrap (BitVec.ofInt k.bits x &&& ~~~ BitVec.ofInt k.bits y).toNat
theorem VP (l m : List UInt8) : (l == m) = decide (l = m) := by by_cases h : l = m <;> simp [h]
section
variable {P : Program} {B : Bs} {M M' : Df} {Z Z' Z1 : List It} {n : Nat} {ds : List Deferred} {F F' : List (Nat × Value)} {a : Act} {w w' : World}
variable {ops : Array Oper} {Q : Exit → Act → World → Prop} {rest : List Oper} {o : Oper}
variable {dst : Option Tmp} {ty : TypeId} {pos : String} {aft : Array Edge} {g : Option (Nat × Bool)} {v : Value}
variable {α : Type} {r : Rp α} {l m : List UInt8} {x y : Operand} {T T' t e by_ : Nat} {p q : Int} {k k' : IntKind}
theorem ST (hF : Fr n ds F a) (hx : Eo F x = some (.int k p)) (hy : Eo F y = some (.int k' q)) (h0 : 0 ≤ q) : Yx P B M Z a ⟨dst, .binOp .shl T x y T', ty, pos, aft, g⟩ (.int k (Ht k p q)) :=
  Dg fun w _ => by
    have : ¬ q < 0 := by omega
    simp [execOp, hF.eval hx, hF.eval hy, BL, binOp, Op.shift, this, Ht]
theorem Tx (hF : Fr n ds F a) (hx : Eo F x = some (.int k p)) (hy : Eo F y = some (.int k' q)) (h0 : 0 ≤ q) : Yx P B M Z a ⟨dst, .binOp .shr T x y T', ty, pos, aft, g⟩ (.int k (Jr k p q)) :=
  Dg fun w _ => by
    have : ¬ q < 0 := by omega
    simp [execOp, hF.eval hx, hF.eval hy, BL, binOp, Op.shift, this, Jr]
theorem YK (hF : Fr n ds F a) (hx : Eo F x = some (.int k p)) (hy : Eo F y = some (.int k q)) : Yx P B M Z a ⟨dst, .binOp .and T x y T', ty, pos, aft, g⟩ (.int k (RD k p q)) :=
  Dg fun w _ => by simp [execOp, hF.eval hx, hF.eval hy, BL, binOp, Op.intBits, RD]
theorem ZH (hF : Fr n ds F a) (hx : Eo F x = some (.int k p)) (hy : Eo F y = some (.int k q)) : Yx P B M Z a ⟨dst, .binOp .or T x y T', ty, pos, aft, g⟩ (.int k (Y6 k p q)) :=
  Dg fun w _ => by simp [execOp, hF.eval hx, hF.eval hy, BL, binOp, Op.intBits, Y6]
theorem Tg (hF : Fr n ds F a) (hx : Eo F x = some (.int k p)) (hy : Eo F y = some (.int k q)) : Yx P B M Z a ⟨dst, .binOp .xor T x y T', ty, pos, aft, g⟩ (.int k (GX k p q)) :=
  Dg fun w _ => by simp [execOp, hF.eval hx, hF.eval hy, BL, binOp, Op.intBits, GX]
theorem Uf (hF : Fr n ds F a) (hx : Eo F x = some (.int k p)) (hy : Eo F y = some (.int k q)) : Yx P B M Z a ⟨dst, .binOp .andNot T x y T', ty, pos, aft, g⟩ (.int k (Qc k p q)) :=
  Dg fun w _ => by simp [execOp, hF.eval hx, hF.eval hy, BL, binOp, Op.intBits, Qc]
theorem J9 {src dst' : TypeId} (hs : P.underlying src = some (.int k)) (hd : P.underlying dst' = some (.int k')) (hF : Fr n ds F a) (hx : Eo F x = some (.int k p)) : Yx P B M Z a ⟨dst, .convert src dst' x, ty, pos, aft, g⟩ (.int k' (k'.wrap p)) :=
  Dg fun w _ => by simp [execOp, hF.eval hx, convert, Go.underlying, hs, hd, Conv.intToInt]
theorem WB {o : Oper} {u v : Int} (h : u = v) (y : Yx P B M Z a o (.int k u)) : Yx P B M Z a o (.int k v) := by subst h; exact y
section
variable {ad : Addr} {pt : TypeId}
end
theorem Ha {l3 : List UInt8} (hF : Fr n ds F a) (hx : Eo F x = some (.string (bs l))) (hy : Eo F y = some (.string (bs m))) (ha : GP l m = some l3) : Yx P B M Z a ⟨dst, .binOp .add T x y T', ty, pos, aft, g⟩ (.string (bs l3)) :=
  Dg fun w _ => by
    obtain ⟨h1, rfl⟩ := RU ha
    have h2 : ¬ ((((bs l).size + (bs m).size : Nat) : Int) > IntKind.i64.max) := by rw [Nu, Nu]; have : IntKind.i64.max = 9223372036854775807 := rfl; omega
    have h3 : (Op.stringOp .add (bs l) (bs m)).run P w = .ok (.string (bs (l ++ m))) w := by
      unfold Op.stringOp
      simp only [if_neg h2]
      rw [T8]; rfl
    simp only [execOp, hF.eval hx, hF.eval hy, Sem.run_bind, HN, binOp, h3, Result.andThen_ok]
    rfl
theorem VY {op : BinOp} {u : Bool} (h : (Op.stringOp op (bs l) (bs m)).run P w = .ok (.bool u) w) (h1 : op ≠ .shl) (h2 : op ≠ .shr) (hF : Fr n ds F a) (hx : Eo F x = some (.string (bs l))) (hy : Eo F y = some (.string (bs m))) : (execOp a.eval ⟨dst, .binOp op T x y T', ty, pos, aft, g⟩).run P w = .ok (.value (.bool u)) w := by
  simp only [execOp, hF.eval hx, hF.eval hy, Sem.run_bind, HN, Result.andThen_ok]
  have : binOp op T (.string (bs l)) (.string (bs m)) = Op.stringOp op (bs l) (bs m) := by cases op <;> rfl
  simp only [this, h, Result.andThen_ok]
  rfl
theorem WO (hF : Fr n ds F a) (hx : Eo F x = some (.string (bs l))) (hy : Eo F y = some (.string (bs m))) : Yx P B M Z a ⟨dst, .binOp .eql T x y T', ty, pos, aft, g⟩ (.bool (decide (l = m))) :=
  Dg fun w _ => VY (by
    simp only [Op.stringOp, TX]
    rw [VP]; rfl) (by simp) (by simp) hF hx hy
theorem Uz {i : Int} {c : UInt8} {k : IntKind} (ht : P.underlying t = some .string) (hF : Fr n ds F a) (hx : Eo F x = some (.string (bs l))) (hi : Eo F y = some (.int k i)) (h : ix l i = some c) :
    Yx P B M Z a ⟨dst, .index t x y, ty, pos, aft, g⟩ (.int .u8 (c.toNat : Int)) :=
  Dg fun w hw => by
    obtain ⟨h0, hk, hc⟩ := Mz h
    have hg : (if 0 ≤ i then (bs l)[i.toNat]? else none) = some c := by rw [if_pos h0, Xq]; exact hc
    simp only [execOp, Instr.indexAt, hF.eval hx, hF.eval hi, Instr.index, asIntOf, Go.underlying, Sem.run_bind, run_program, ht, Result.andThen_ok, Sem.run_pure, hg]
theorem V8 (cs : List Value) (hc : 0 < cs.length) (k : Nat) : (madeCells cs.toArray (k * cs.length)).toList = (List.replicate k cs).flatten := by
  have hl : ((List.replicate k cs).flatten).length = k * cs.length := by simp
  refine List.ext_getElem? fun j => ?_
  by_cases hj : j < k * cs.length
  · have h1 : ((List.replicate k cs).flatten)[j]? = cs[j % cs.length]? := by
      clear hl
      induction k generalizing j with
      | zero => simp at hj
      | succ k ih =>
        rw [List.replicate_succ, List.flatten_cons]
        by_cases hjc : j < cs.length
        · rw [List.getElem?_append_left hjc, Nat.mod_eq_of_lt hjc]
        · rw [List.getElem?_append_right (by omega), ih (j - cs.length) (by rw [Nat.succ_mul] at hj; omega)]
          congr 1
          rw [Nat.mod_eq_sub_mod (a := j) (by omega)]
    rw [h1]
    have hm : j % cs.length < cs.length := Nat.mod_lt _ hc
    simp [madeCells, hj, hm]
  · rw [List.getElem?_eq_none (by simp [madeCells]; omega), List.getElem?_eq_none (by omega)]
end
end Go.Proofs.YtgoifghhcekahaaGreatDoor
