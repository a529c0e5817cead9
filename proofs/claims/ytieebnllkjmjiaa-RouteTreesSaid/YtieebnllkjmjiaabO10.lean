/- Strings, bytes, bits, conversions, make. Conditions: none. -/
import Derived.Test.YtieebnllkjmjiaabO9
import Derived.Laws.BytesString
import Derived.Laws.MakeOwn
namespace Go.Proofs.Ytieebnllkjmjiaa
set_option linter.unusedVariables false
set_option linter.unusedSimpArgs false
open Go Go.RowKit
theorem MA (l : List UInt8) : (bs l).size = l.length := by simp [ByteArray.size]
theorem Qg (l : List UInt8) (i : Nat) : (bs l)[i]? = l[i]? := by
  by_cases h : i < l.length
  · rw [List.getElem?_eq_getElem h]
    have h' : i < (bs l).size := by rw [MA]; exact h
    simp only [getElem?_def, h', dite_true]
    rfl
  · rw [List.getElem?_eq_none (by omega)]
    have h' : ¬ i < (bs l).size := by rw [MA]; exact h
    simp only [getElem?_def, h', dite_false]
def Hs (k : IntKind) (x y : Int) : Int := x.fdiv (2 ^ (min y.toNat k.bits))
def JR (k : IntKind) (x y : Int) : Int := k.wrap (BitVec.ofInt k.bits x &&& BitVec.ofInt k.bits y).toNat
def IU (k : IntKind) (x y : Int) : Int := k.wrap (BitVec.ofInt k.bits x &&& ~~~ BitVec.ofInt k.bits y).toNat
section
variable {P : Program} {B : Bs} {M M' : BE} {Z Z' Z1 : List It} {n : Nat} {ds : List Deferred} {F F' : List (Nat × Value)} {a : Act} {w w' : World}
variable {ops : Array Oper} {Q : Exit → Act → World → Prop} {rest : List Oper} {o : Oper}
variable {dst : Option Tmp} {ty : TypeId} {pos : String} {aft : Array Edge} {g : Option (Nat × Bool)} {v : Value}
variable {α : Type} {r : Rp α} {l m : List UInt8} {x y : Operand} {T T' t e by_ : Nat} {p q : Int} {k k' : IntKind}
theorem Iw (hF : Fr n ds F a) (hx : Cs F x = some (.int k p)) (hy : Cs F y = some (.int k' q)) (h0 : 0 ≤ q) : Yx P B M Z a ⟨dst, .binOp .shr T x y T', ty, pos, aft, g⟩ (.int k (Hs k p q)) :=
  BL fun w _ => by
    have : ¬ q < 0 := by omega
    simp [execOp, hF.eval hx, hF.eval hy, Bn, binOp, Op.shift, this, Hs]
theorem Om (hF : Fr n ds F a) (hx : Cs F x = some (.int k p)) (hy : Cs F y = some (.int k q)) : Yx P B M Z a ⟨dst, .binOp .and T x y T', ty, pos, aft, g⟩ (.int k (JR k p q)) :=
  BL fun w _ => by simp [execOp, hF.eval hx, hF.eval hy, Bn, binOp, Op.intBits, JR]
theorem ON (hF : Fr n ds F a) (hx : Cs F x = some (.int k p)) (hy : Cs F y = some (.int k q)) : Yx P B M Z a ⟨dst, .binOp .andNot T x y T', ty, pos, aft, g⟩ (.int k (IU k p q)) :=
  BL fun w _ => by simp [execOp, hF.eval hx, hF.eval hy, Bn, binOp, Op.intBits, IU]
theorem Ec {src dst' : TypeId} (hs : P.underlying src = some (.int k)) (hd : P.underlying dst' = some (.int k')) (hF : Fr n ds F a) (hx : Cs F x = some (.int k p)) : Yx P B M Z a ⟨dst, .convert src dst' x, ty, pos, aft, g⟩ (.int k' (k'.wrap p)) :=
  BL fun w _ => by simp [execOp, hF.eval hx, convert, Go.underlying, hs, hd, Conv.intToInt]
section
variable {ad : Addr} {pt : TypeId}
end
theorem N0 {i : Int} {c : UInt8} {k : IntKind} (ht : P.underlying t = some .string) (hF : Fr n ds F a) (hx : Cs F x = some (.string (bs l))) (hi : Cs F y = some (.int k i)) (h : ix l i = some c) :
    Yx P B M Z a ⟨dst, .index t x y, ty, pos, aft, g⟩ (.int .u8 (c.toNat : Int)) :=
  BL fun w hw => by
    obtain ⟨h0, hk, hc⟩ := FW h
    have hg : (if 0 ≤ i then (bs l)[i.toNat]? else none) = some c := by rw [if_pos h0, Qg]; exact hc
    simp only [execOp, Instr.indexAt, hF.eval hx, hF.eval hi, Instr.index, asIntOf, Go.underlying, Sem.run_bind, run_program, ht, Result.andThen_ok, Sem.run_pure, hg]
theorem PO (cs : List Value) (hc : 0 < cs.length) (k : Nat) : (madeCells cs.toArray (k * cs.length)).toList = (List.replicate k cs).flatten := by
  have hl : ((List.replicate k cs).flatten).length = k * cs.length := by simp
  refine List.ext_getElem? fun j => ?_
  by_cases hj : j < k * cs.length
  · have h1 : ((List.replicate k cs).flatten)[j]? = cs[j % cs.length]? := by
      clear hl
      induction k generalizing j with
      | zero => simp at hj
      | succ k ih =>
        rw [List.replicate_succ, List.flatten_cons]
        by_cases hjc : j < cs.length
        · rw [List.getElem?_append_left hjc, Nat.mod_eq_of_lt hjc]
        · rw [List.getElem?_append_right (by omega), ih (j - cs.length) (by rw [Nat.succ_mul] at hj; omega)]
          congr 1
          rw [Nat.mod_eq_sub_mod (a := j) (by omega)]
    rw [h1]
    have hm : j % cs.length < cs.length := Nat.mod_lt _ hc
    simp [madeCells, hj, hm]
  · rw [List.getElem?_eq_none (by simp [madeCells]; omega), List.getElem?_eq_none (by omega)]
def Rc (v : Value) (N : Nat) : Prop := ∃ b, v = .slice (some b) N N
theorem Px {d : Nat} {z : Value} {lo co : Operand} {nn : Int} {k1 k2 : IntKind} {ls : List α} (z0 : α) (hF : Fr n ds F a) (hW : Stw B M Z w) (hn : Nat.blt d n = true) (E : Et P t e r.sz by_) (hz : (P.info? e).bind (·.zero) = some z) (hl : Cs F lo = some (.int k1 nn)) (hc : Cs F co = some (.int k2 nn))
    (hr : ∀ w A, r.rep w A z.cells.toList z0) (hm : mk nn z0 = some ls) (hby : Nat.ble by_ 100000 = true)
    (k : ∀ v, Rc v nn.toNat → ∀ a' w', Fr n ds ((d, v) :: F) a' → Stw B M (row v e r ls :: Z) w' → wpList P ops Q rest a' w') :
    wpList P ops Q (⟨some d, .makeSlice t lo co, ty, pos, aft, none⟩ :: rest) a w := by
  obtain ⟨h0, h1, rfl⟩ := M4 hm
  obtain ⟨i, z', hi, hz', his, hib, hzs⟩ := E.info
  have hzz : z' = z := by rw [hi] at hz; simp only [Option.bind_some] at hz; rw [hz'] at hz; exact Option.some.inj hz
  subst hzz
  have hby' := Nat.le_of_ble_eq_true hby
  have hbytes : (i.bytes : Int) * nn ≤ 281474976710656 := by
    rw [hib]
    have h2 : (by_ : Int) * nn ≤ 100000 * 1000000000 := Int.mul_le_mul (by omega) h1 h0 (by omega)
    omega
  have hrun := run_make (P := P) w t e i z' E.desc hi hz' k1 k2 nn nn h0 (Int.le_refl _) hbytes (by omega)
  have hlen : z'.cells.toList.length = r.sz := by simpa using hzs
  have hcells : (madeCells z'.cells (nn.toNat * i.size)).toList = (List.replicate nn.toNat z'.cells.toList).flatten := by
    have := PO z'.cells.toList (by rw [hlen]; exact E.pos) nn.toNat
    rw [hlen] at this
    rw [his]; simpa using this
  refine Hk hF hn (v := .slice (some ⟨w.heap.size, 0, none⟩) nn.toNat nn.toNat) (w' := w.alloc (.cells (madeCells z'.cells (nn.toNat * i.size)) e)) ?_ (fun a' h => k _ ⟨_, rfl⟩ a' _ h ?_)
  · simp [execOp, hF.eval hl, hF.eval hc, hrun]
  · have hrep : Be r w (Fz B (AO M Z)) (List.replicate nn.toNat z'.cells.toList).flatten (List.replicate nn.toNat z0) := Be.rep (hr w _) _
    have hll := hrep.len
    have := hW.allocRow ((List.replicate nn.toNat z'.cells.toList).flatten) e (m := nn.toNat) (l := List.replicate nn.toNat z0) (r := r) (by unfold maxLen; omega) (by rw [hll]; simp) (by simp) (by rw [← hll, List.take_length]; exact hrep)
    rw [← hcells] at this
    simpa using this
theorem LT {d : Nat} {z : Value} {lo co : Operand} {nn : Int} {k1 k2 : IntKind} {ls : List α} (z0 : α) (hF : Fr n ds F a) (hW : Stw B M Z w) (hn : Nat.blt d n = true) (E : Et P t e r.sz by_) (hz : (P.info? e).bind (·.zero) = some z) (hl : Cs F lo = some (.int k1 nn)) (hc : Cs F co = some (.int k2 nn))
    (hr : ∀ w A, r.rep w A z.cells.toList z0) (hm : mk nn z0 = some ls) (hby : Nat.ble by_ 100000 = true)
    (k : ∀ v a' w', Fr n ds ((d, v) :: F) a' → Stw B M (row v e r ls :: Z) w' → wpList P ops Q rest a' w') :
    wpList P ops Q (⟨some d, .makeSlice t lo co, ty, pos, aft, none⟩ :: rest) a w :=
  Px z0 hF hW hn E hz hl hc hr hm hby fun v _ => k v
end
end Go.Proofs.Ytieebnllkjmjiaa
