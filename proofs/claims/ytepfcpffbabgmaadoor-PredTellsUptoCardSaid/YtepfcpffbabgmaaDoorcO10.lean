/- Strings, bytes, bits, conversions, make. Conditions: none. -/
import Derived.Test.YtepfcpffbabgmaaDoorcO9
import Derived.Laws.BytesString
import Derived.Laws.MakeOwn
namespace Go.Proofs.YtepfcpffbabgmaaDoor
set_option linter.unusedVariables false
set_option linter.unusedSimpArgs false
open Go Go.RowKit
theorem IY (l : List UInt8) : (bs l).size = l.length := by simp [ByteArray.size]
theorem Ph (l m : List UInt8) : bs l ++ bs m = bs (l ++ m) := by apply ByteArray.ext; simp
theorem Pj (l : List UInt8) : (bs l).toList = l := by simp
theorem Rm (l : List UInt8) (i : Nat) : (bs l)[i]? = l[i]? := by
  by_cases h : i < l.length
  · rw [List.getElem?_eq_getElem h]
    have h' : i < (bs l).size := by rw [IY]; exact h
    simp only [getElem?_def, h', dite_true]
    rfl
  · rw [List.getElem?_eq_none (by omega)]
    have h' : ¬ i < (bs l).size := by rw [IY]; exact h
    simp only [getElem?_def, h', dite_false]
theorem Ok (l : List UInt8) (i j : Nat) : (bs l).extract i j = bs ((l.take j).drop i) := by
  apply ByteArray.ext; simp [List.drop_take]
def DP (k : IntKind) (x y : Int) : Int := k.wrap (x * 2 ^ (min y.toNat k.bits))
def FU (k : IntKind) (x y : Int) : Int := x.fdiv (2 ^ (min y.toNat k.bits))
def Rn (v : Int) (y : Int) : Option Int := if 0 ≤ y then some v else none
theorem I8 {v y r : Int} (h : Rn v y = some r) : 0 ≤ y ∧ v = r := by
  unfold Rn at h; split at h <;> simp_all
def Oi (k : IntKind) (x y : Int) : Int := k.wrap (BitVec.ofInt k.bits x &&& BitVec.ofInt k.bits y).toNat
def De (k : IntKind) (x y : Int) : Int := k.wrap (BitVec.ofInt k.bits x ^^^ BitVec.ofInt k.bits y).toNat
theorem QP (l m : List UInt8) : (l == m) = decide (l = m) := by by_cases h : l = m <;> simp [h]
section
variable {P : Program} {B : Bs} {M M' : Dg} {Z Z' Z1 : List It} {n : Nat} {ds : List Deferred} {F F' : List (Nat × Value)} {a : Act} {w w' : World}
variable {ops : Array Oper} {Q : Exit → Act → World → Prop} {rest : List Oper} {o : Oper}
variable {dst : Option Tmp} {ty : TypeId} {pos : String} {aft : Array Edge} {g : Option (Nat × Bool)} {v : Value}
variable {α : Type} {r : Rp α} {l m : List UInt8} {x y : Operand} {T T' t e by_ : Nat} {p q : Int} {k k' : IntKind}
theorem Ol (hF : Fr n ds F a) (hx : E3 F x = some (.int k p)) (hy : E3 F y = some (.int k' q)) (h0 : 0 ≤ q) : Yx P B M Z a ⟨dst, .binOp .shl T x y T', ty, pos, aft, g⟩ (.int k (DP k p q)) :=
  C0 fun w _ => by
    have : ¬ q < 0 := by omega
    simp [execOp, hF.eval hx, hF.eval hy, BQ, binOp, Op.shift, this, DP]
theorem OE (hF : Fr n ds F a) (hx : E3 F x = some (.int k p)) (hy : E3 F y = some (.int k' q)) (h0 : 0 ≤ q) : Yx P B M Z a ⟨dst, .binOp .shr T x y T', ty, pos, aft, g⟩ (.int k (FU k p q)) :=
  C0 fun w _ => by
    have : ¬ q < 0 := by omega
    simp [execOp, hF.eval hx, hF.eval hy, BQ, binOp, Op.shift, this, FU]
theorem RZ (hF : Fr n ds F a) (hx : E3 F x = some (.int k p)) (hy : E3 F y = some (.int k q)) : Yx P B M Z a ⟨dst, .binOp .and T x y T', ty, pos, aft, g⟩ (.int k (Oi k p q)) :=
  C0 fun w _ => by simp [execOp, hF.eval hx, hF.eval hy, BQ, binOp, Op.intBits, Oi]
theorem Pt (hF : Fr n ds F a) (hx : E3 F x = some (.int k p)) (hy : E3 F y = some (.int k q)) : Yx P B M Z a ⟨dst, .binOp .xor T x y T', ty, pos, aft, g⟩ (.int k (De k p q)) :=
  C0 fun w _ => by simp [execOp, hF.eval hx, hF.eval hy, BQ, binOp, Op.intBits, De]
theorem Ic {src dst' : TypeId} (hs : P.underlying src = some (.int k)) (hd : P.underlying dst' = some (.int k')) (hF : Fr n ds F a) (hx : E3 F x = some (.int k p)) : Yx P B M Z a ⟨dst, .convert src dst' x, ty, pos, aft, g⟩ (.int k' (k'.wrap p)) :=
  C0 fun w _ => by simp [execOp, hF.eval hx, convert, Go.underlying, hs, hd, Conv.intToInt]
theorem Q1 {o : Oper} {u v : Int} (h : u = v) (y : Yx P B M Z a o (.int k u)) : Yx P B M Z a o (.int k v) := by subst h; exact y
section
variable {ad : Addr} {pt : TypeId}
end
theorem E4 {l3 : List UInt8} (hF : Fr n ds F a) (hx : E3 F x = some (.string (bs l))) (hy : E3 F y = some (.string (bs m))) (ha : F7 l m = some l3) : Yx P B M Z a ⟨dst, .binOp .add T x y T', ty, pos, aft, g⟩ (.string (bs l3)) :=
  C0 fun w _ => by
    obtain ⟨h1, rfl⟩ := Nu ha
    have h2 : ¬ ((((bs l).size + (bs m).size : Nat) : Int) > IntKind.i64.max) := by rw [IY, IY]; have : IntKind.i64.max = 9223372036854775807 := rfl; omega
    have h3 : (Op.stringOp .add (bs l) (bs m)).run P w = .ok (.string (bs (l ++ m))) w := by
      unfold Op.stringOp
      simp only [if_neg h2]
      rw [Ph]; rfl
    simp only [execOp, hF.eval hx, hF.eval hy, Sem.run_bind, Gu, binOp, h3, Result.andThen_ok]
    rfl
theorem QO {op : BinOp} {u : Bool} (h : (Op.stringOp op (bs l) (bs m)).run P w = .ok (.bool u) w) (h1 : op ≠ .shl) (h2 : op ≠ .shr) (hF : Fr n ds F a) (hx : E3 F x = some (.string (bs l))) (hy : E3 F y = some (.string (bs m))) : (execOp a.eval ⟨dst, .binOp op T x y T', ty, pos, aft, g⟩).run P w = .ok (.value (.bool u)) w := by
  simp only [execOp, hF.eval hx, hF.eval hy, Sem.run_bind, Gu, Result.andThen_ok]
  have : binOp op T (.string (bs l)) (.string (bs m)) = Op.stringOp op (bs l) (bs m) := by cases op <;> rfl
  simp only [this, h, Result.andThen_ok]
  rfl
theorem P1 (hF : Fr n ds F a) (hx : E3 F x = some (.string (bs l))) (hy : E3 F y = some (.string (bs m))) : Yx P B M Z a ⟨dst, .binOp .eql T x y T', ty, pos, aft, g⟩ (.bool (decide (l = m))) :=
  C0 fun w _ => QO (by
    simp only [Op.stringOp, Pj]
    rw [QP]; rfl) (by simp) (by simp) hF hx hy
theorem PF {i : Int} {c : UInt8} {k : IntKind} (ht : P.underlying t = some .string) (hF : Fr n ds F a) (hx : E3 F x = some (.string (bs l))) (hi : E3 F y = some (.int k i)) (h : ix l i = some c) :
    Yx P B M Z a ⟨dst, .index t x y, ty, pos, aft, g⟩ (.int .u8 (c.toNat : Int)) :=
  C0 fun w hw => by
    obtain ⟨h0, hk, hc⟩ := Iw h
    have hg : (if 0 ≤ i then (bs l)[i.toNat]? else none) = some c := by rw [if_pos h0, Rm]; exact hc
    simp only [execOp, Instr.indexAt, hF.eval hx, hF.eval hi, Instr.index, asIntOf, Go.underlying, Sem.run_bind, run_program, ht, Result.andThen_ok, Sem.run_pure, hg]
theorem NP {lop hop : Option Operand} {lo hi : Int} (ht : P.underlying t = some .string) (hF : Fr n ds F a) (hx : E3 F x = some (.string (bs l))) (hl : (match lop with | none => lo = 0 | some q => E3 F q = some (.int .i64 lo))) (hh : (match hop with | none => hi = l.length | some q => E3 F q = some (.int .i64 hi))) (hs : GR l lo hi = some m) :
    Yx P B M Z a ⟨dst, .slice t x lop hop none, ty, pos, aft, g⟩ (.string (bs m)) :=
  C0 fun w hw => by
    obtain ⟨h1, h2, h3, rfl⟩ := Gh hs
    have hb : ∀ (y : Nat) (code : BoundsCode) (q : Int), 0 ≤ q → q ≤ y → (Instr.sliceBound (.int .i64 q) y code).run P w = .ok q.toNat w := fun y code q h0 h4 => by
      simp [Instr.sliceBound, asIntOf, h0, h4]
    have hxe := hF.eval hx
    have hsz := IY l
    have k1 : ∀ code, (Instr.sliceBound (.int .i64 hi) l.length code).run P w = .ok hi.toNat w := fun code => hb _ code hi (by omega) (by omega)
    have k2 : ∀ code, (Instr.sliceBound (.int .i64 lo) hi.toNat code).run P w = .ok lo.toNat w := fun code => hb _ code lo h1 (by omega)
    have k3 : ∀ code, (Instr.sliceBound (.int .i64 lo) l.length code).run P w = .ok lo.toNat w := fun code => hb _ code lo h1 (by omega)
    have ex : ∀ i j, (bs l).extract i j = bs ((l.take j).drop i) := Ok l
    cases lop with
    | none =>
      simp only at hl
      subst hl
      cases hop with
      | none =>
        simp only at hh
        subst hh
        simp only [execOp, Instr.sliceAt, Instr.slice, Instr.sliceBounds, Go.underlying, Sem.run_bind, run_program, ht, hxe, hsz, Result.andThen_ok, Sem.run_pure, Option.map_none, Option.isSome_none, Bool.false_eq_true, if_false, ex]
        simp
      | some q =>
        have hhe := hF.eval hh
        simp only [execOp, Instr.sliceAt, Instr.slice, Instr.sliceBounds, Go.underlying, Sem.run_bind, run_program, ht, hxe, hhe, hsz, k1, Result.andThen_ok, Sem.run_pure, Option.map_none, Option.map_some, Option.isSome_none, Bool.false_eq_true, if_false, ex]
        simp
    | some p =>
      have hle := hF.eval hl
      cases hop with
      | none =>
        simp only at hh
        subst hh
        simp only [execOp, Instr.sliceAt, Instr.slice, Instr.sliceBounds, Go.underlying, Sem.run_bind, run_program, ht, hxe, hle, hsz, k3, Result.andThen_ok, Sem.run_pure, Option.map_none, Option.map_some, Option.isSome_none, Bool.false_eq_true, if_false, ex]
        simp
      | some q =>
        have hhe := hF.eval hh
        simp only [execOp, Instr.sliceAt, Instr.slice, Instr.sliceBounds, Go.underlying, Sem.run_bind, run_program, ht, hxe, hle, hhe, hsz, k1, k2, Result.andThen_ok, Sem.run_pure, Option.map_none, Option.map_some, Option.isSome_none, Bool.false_eq_true, if_false, ex]
theorem QN (cs : List Value) (hc : 0 < cs.length) (k : Nat) : (madeCells cs.toArray (k * cs.length)).toList = (List.replicate k cs).flatten := by
  have hl : ((List.replicate k cs).flatten).length = k * cs.length := by simp
  refine List.ext_getElem? fun j => ?_
  by_cases hj : j < k * cs.length
  · have h1 : ((List.replicate k cs).flatten)[j]? = cs[j % cs.length]? := by
      clear hl
      induction k generalizing j with
      | zero => simp at hj
      | succ k ih =>
        rw [List.replicate_succ, List.flatten_cons]
        by_cases hjc : j < cs.length
        · rw [List.getElem?_append_left hjc, Nat.mod_eq_of_lt hjc]
        · rw [List.getElem?_append_right (by omega), ih (j - cs.length) (by rw [Nat.succ_mul] at hj; omega)]
          congr 1
          rw [Nat.mod_eq_sub_mod (a := j) (by omega)]
    rw [h1]
    have hm : j % cs.length < cs.length := Nat.mod_lt _ hc
    simp [madeCells, hj, hm]
  · rw [List.getElem?_eq_none (by simp [madeCells]; omega), List.getElem?_eq_none (by omega)]
end
end Go.Proofs.YtepfcpffbabgmaaDoor
