/- Strings, bytes, bits, conversions, make. Conditions: none. -/
import Derived.Test.YtpckgggmgijiiaaGreatDoorcO9
import Derived.Laws.BytesString
import Derived.Laws.MakeOwn
namespace Go.Proofs.YtpckgggmgijiiaaGreatDoor
set_option linter.unusedVariables false
set_option linter.unusedSimpArgs false
open Go Go.RowKit
theorem N4 (l : List UInt8) : (bs l).size = l.length := by simp [ByteArray.size]
theorem SP (l m : List UInt8) : bs l ++ bs m = bs (l ++ m) := by apply ByteArray.ext; simp
theorem S8 (l : List UInt8) : (bs l).toList = l := by simp
theorem VW (l : List UInt8) (i : Nat) : (bs l)[i]? = l[i]? := by
  by_cases h : i < l.length
  · rw [List.getElem?_eq_getElem h]
    have h' : i < (bs l).size := by rw [N4]; exact h
    simp only [getElem?_def, h', dite_true]
    rfl
  · rw [List.getElem?_eq_none (by omega)]
    have h' : ¬ i < (bs l).size := by rw [N4]; exact h
    simp only [getElem?_def, h', dite_false]
def Ic (k : IntKind) (x y : Int) : Int := k.wrap (x * 2 ^ (min y.toNat k.bits))
def Ke (k : IntKind) (x y : Int) : Int := x.fdiv (2 ^ (min y.toNat k.bits))
def VN (v : Int) (y : Int) : Option Int := if 0 ≤ y then some v else none
theorem Mv {v y r : Int} (h : VN v y = some r) : 0 ≤ y ∧ v = r := by
  unfold VN at h; split at h <;> simp_all
def RF (k : IntKind) (x y : Int) : Int := k.wrap (BitVec.ofInt k.bits x &&& BitVec.ofInt k.bits y).toNat
def XL (k : IntKind) (x y : Int) : Int := k.wrap (BitVec.ofInt k.bits x ||| BitVec.ofInt k.bits y).toNat
def HV (k : IntKind) (x y : Int) : Int := k.wrap (BitVec.ofInt k.bits x ^^^ BitVec.ofInt k.bits y).toNat
def P6 (k : IntKind) (x y : Int) : Int := k.wrap (BitVec.ofInt k.bits x &&& ~~~ BitVec.ofInt k.bits y).toNat
theorem UQ (l m : List UInt8) : (l == m) = decide (l = m) := by by_cases h : l = m <;> simp [h]
section
variable {P : Program} {B : Bs} {M M' : Dh} {Z Z' Z1 : List It} {n : Nat} {ds : List Deferred} {F F' : List (Nat × Value)} {a : Act} {w w' : World}
variable {ops : Array Oper} {Q : Exit → Act → World → Prop} {rest : List Oper} {o : Oper}
variable {dst : Option Tmp} {ty : TypeId} {pos : String} {aft : Array Edge} {g : Option (Nat × Bool)} {v : Value}
variable {α : Type} {r : Rp α} {l m : List UInt8} {x y : Operand} {T T' t e by_ : Nat} {p q : Int} {k k' : IntKind}
theorem SA (hF : Fr n ds F a) (hx : DV F x = some (.int k p)) (hy : DV F y = some (.int k' q)) (h0 : 0 ≤ q) : Yx P B M Z a ⟨dst, .binOp .shl T x y T', ty, pos, aft, g⟩ (.int k (Ic k p q)) :=
  Dj fun w _ => by
    have : ¬ q < 0 := by omega
    simp [execOp, hF.eval hx, hF.eval hy, B8, binOp, Op.shift, this, Ic]
theorem Sm (hF : Fr n ds F a) (hx : DV F x = some (.int k p)) (hy : DV F y = some (.int k' q)) (h0 : 0 ≤ q) : Yx P B M Z a ⟨dst, .binOp .shr T x y T', ty, pos, aft, g⟩ (.int k (Ke k p q)) :=
  Dj fun w _ => by
    have : ¬ q < 0 := by omega
    simp [execOp, hF.eval hx, hF.eval hy, B8, binOp, Op.shift, this, Ke]
theorem Xg (hF : Fr n ds F a) (hx : DV F x = some (.int k p)) (hy : DV F y = some (.int k q)) : Yx P B M Z a ⟨dst, .binOp .and T x y T', ty, pos, aft, g⟩ (.int k (RF k p q)) :=
  Dj fun w _ => by simp [execOp, hF.eval hx, hF.eval hy, B8, binOp, Op.intBits, RF]
theorem Yh (hF : Fr n ds F a) (hx : DV F x = some (.int k p)) (hy : DV F y = some (.int k q)) : Yx P B M Z a ⟨dst, .binOp .or T x y T', ty, pos, aft, g⟩ (.int k (XL k p q)) :=
  Dj fun w _ => by simp [execOp, hF.eval hx, hF.eval hy, B8, binOp, Op.intBits, XL]
theorem Sz (hF : Fr n ds F a) (hx : DV F x = some (.int k p)) (hy : DV F y = some (.int k q)) : Yx P B M Z a ⟨dst, .binOp .xor T x y T', ty, pos, aft, g⟩ (.int k (HV k p q)) :=
  Dj fun w _ => by simp [execOp, hF.eval hx, hF.eval hy, B8, binOp, Op.intBits, HV]
theorem T6 (hF : Fr n ds F a) (hx : DV F x = some (.int k p)) (hy : DV F y = some (.int k q)) : Yx P B M Z a ⟨dst, .binOp .andNot T x y T', ty, pos, aft, g⟩ (.int k (P6 k p q)) :=
  Dj fun w _ => by simp [execOp, hF.eval hx, hF.eval hy, B8, binOp, Op.intBits, P6]
theorem Lf {src dst' : TypeId} (hs : P.underlying src = some (.int k)) (hd : P.underlying dst' = some (.int k')) (hF : Fr n ds F a) (hx : DV F x = some (.int k p)) : Yx P B M Z a ⟨dst, .convert src dst' x, ty, pos, aft, g⟩ (.int k' (k'.wrap p)) :=
  Dj fun w _ => by simp [execOp, hF.eval hx, convert, Go.underlying, hs, hd, Conv.intToInt]
theorem Vc {o : Oper} {u v : Int} (h : u = v) (y : Yx P B M Z a o (.int k u)) : Yx P B M Z a o (.int k v) := by subst h; exact y
section
variable {ad : Addr} {pt : TypeId}
end
theorem HU {l3 : List UInt8} (hF : Fr n ds F a) (hx : DV F x = some (.string (bs l))) (hy : DV F y = some (.string (bs m))) (ha : IF l m = some l3) : Yx P B M Z a ⟨dst, .binOp .add T x y T', ty, pos, aft, g⟩ (.string (bs l3)) :=
  Dj fun w _ => by
    obtain ⟨h1, rfl⟩ := QX ha
    have h2 : ¬ ((((bs l).size + (bs m).size : Nat) : Int) > IntKind.i64.max) := by rw [N4, N4]; have : IntKind.i64.max = 9223372036854775807 := rfl; omega
    have h3 : (Op.stringOp .add (bs l) (bs m)).run P w = .ok (.string (bs (l ++ m))) w := by
      unfold Op.stringOp
      simp only [if_neg h2]
      rw [SP]; rfl
    simp only [execOp, hF.eval hx, hF.eval hy, Sem.run_bind, Iz, binOp, h3, Result.andThen_ok]
    rfl
theorem UP {op : BinOp} {u : Bool} (h : (Op.stringOp op (bs l) (bs m)).run P w = .ok (.bool u) w) (h1 : op ≠ .shl) (h2 : op ≠ .shr) (hF : Fr n ds F a) (hx : DV F x = some (.string (bs l))) (hy : DV F y = some (.string (bs m))) : (execOp a.eval ⟨dst, .binOp op T x y T', ty, pos, aft, g⟩).run P w = .ok (.value (.bool u)) w := by
  simp only [execOp, hF.eval hx, hF.eval hy, Sem.run_bind, Iz, Result.andThen_ok]
  have : binOp op T (.string (bs l)) (.string (bs m)) = Op.stringOp op (bs l) (bs m) := by cases op <;> rfl
  simp only [this, h, Result.andThen_ok]
  rfl
theorem WO (hF : Fr n ds F a) (hx : DV F x = some (.string (bs l))) (hy : DV F y = some (.string (bs m))) : Yx P B M Z a ⟨dst, .binOp .eql T x y T', ty, pos, aft, g⟩ (.bool (decide (l = m))) :=
  Dj fun w _ => UP (by
    simp only [Op.stringOp, S8]
    rw [UQ]; rfl) (by simp) (by simp) hF hx hy
theorem Uu {i : Int} {c : UInt8} {k : IntKind} (ht : P.underlying t = some .string) (hF : Fr n ds F a) (hx : DV F x = some (.string (bs l))) (hi : DV F y = some (.int k i)) (h : ix l i = some c) :
    Yx P B M Z a ⟨dst, .index t x y, ty, pos, aft, g⟩ (.int .u8 (c.toNat : Int)) :=
  Dj fun w hw => by
    obtain ⟨h0, hk, hc⟩ := KY h
    have hg : (if 0 ≤ i then (bs l)[i.toNat]? else none) = some c := by rw [if_pos h0, VW]; exact hc
    simp only [execOp, Instr.indexAt, hF.eval hx, hF.eval hi, Instr.index, asIntOf, Go.underlying, Sem.run_bind, run_program, ht, Result.andThen_ok, Sem.run_pure, hg]
end
end Go.Proofs.YtpckgggmgijiiaaGreatDoor
