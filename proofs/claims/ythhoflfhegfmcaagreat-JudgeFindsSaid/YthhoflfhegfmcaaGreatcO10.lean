/- Strings, bytes, bits, conversions, make. Conditions: none. -/
import Derived.Test.YthhoflfhegfmcaaGreatcO9
import Derived.Laws.BytesString
import Derived.Laws.MakeOwn
namespace Go.Proofs.YthhoflfhegfmcaaGreat
set_option linter.unusedVariables false
set_option linter.unusedSimpArgs false
open Go Go.RowKit
theorem Sg (l : List UInt8) : (bs l).size = l.length := by simp [ByteArray.size]
theorem SP (l : List UInt8) : (bs l).toList = l := by simp
theorem Wp (l : List UInt8) (i : Nat) : (bs l)[i]? = l[i]? := by
  by_cases h : i < l.length
  · rw [List.getElem?_eq_getElem h]
    have h' : i < (bs l).size := by rw [Sg]; exact h
    simp only [getElem?_def, h', dite_true]
    rfl
  · rw [List.getElem?_eq_none (by omega)]
    have h' : ¬ i < (bs l).size := by rw [Sg]; exact h
    simp only [getElem?_def, h', dite_false]
def HL (k : IntKind) (x y : Int) : Int := k.wrap (x * 2 ^ (min y.toNat k.bits))
def Jq (k : IntKind) (x y : Int) : Int := x.fdiv (2 ^ (min y.toNat k.bits))
def Vh (v : Int) (y : Int) : Option Int := if 0 ≤ y then some v else none
theorem JT {v y r : Int} (h : Vh v y = some r) : 0 ≤ y ∧ v = r := by
  unfold Vh at h; split at h <;> simp_all
def Oa (k : IntKind) (x y : Int) : Int := k.wrap (BitVec.ofInt k.bits x &&& BitVec.ofInt k.bits y).toNat
def Ta (k : IntKind) (x y : Int) : Int := k.wrap (BitVec.ofInt k.bits x ||| BitVec.ofInt k.bits y).toNat
def HX (k : IntKind) (x y : Int) : Int := k.wrap (BitVec.ofInt k.bits x ^^^ BitVec.ofInt k.bits y).toNat
def PM (k : IntKind) (x y : Int) : Int := k.wrap (BitVec.ofInt k.bits x &&& ~~~ BitVec.ofInt k.bits y).toNat
theorem U4 (l m : List UInt8) : (l == m) = decide (l = m) := by by_cases h : l = m <;> simp [h]
section
variable {P : Program} {B : Bs} {M M' : Dg} {Z Z' Z1 : List It} {n : Nat} {ds : List Deferred} {F F' : List (Nat × Value)} {a : Act} {w w' : World}
variable {ops : Array Oper} {Q : Exit → Act → World → Prop} {rest : List Oper} {o : Oper}
variable {dst : Option Tmp} {ty : TypeId} {pos : String} {aft : Array Edge} {g : Option (Nat × Bool)} {v : Value}
variable {α : Type} {r : Rp α} {l m : List UInt8} {x y : Operand} {T T' t e by_ : Nat} {p q : Int} {k k' : IntKind}
theorem Sb (hF : Fr n ds F a) (hx : D4 F x = some (.int k p)) (hy : D4 F y = some (.int k' q)) (h0 : 0 ≤ q) : Yx P B M Z a ⟨dst, .binOp .shl T x y T', ty, pos, aft, g⟩ (.int k (HL k p q)) :=
  Dt fun w _ => by
    have : ¬ q < 0 := by omega
    simp [execOp, hF.eval hx, hF.eval hy, BX, binOp, Op.shift, this, HL]
theorem QQ (hF : Fr n ds F a) (hx : D4 F x = some (.int k p)) (hy : D4 F y = some (.int k' q)) (h0 : 0 ≤ q) : Yx P B M Z a ⟨dst, .binOp .shr T x y T', ty, pos, aft, g⟩ (.int k (Jq k p q)) :=
  Dt fun w _ => by
    have : ¬ q < 0 := by omega
    simp [execOp, hF.eval hx, hF.eval hy, BX, binOp, Op.shift, this, Jq]
theorem X1 (hF : Fr n ds F a) (hx : D4 F x = some (.int k p)) (hy : D4 F y = some (.int k q)) : Yx P B M Z a ⟨dst, .binOp .and T x y T', ty, pos, aft, g⟩ (.int k (Oa k p q)) :=
  Dt fun w _ => by simp [execOp, hF.eval hx, hF.eval hy, BX, binOp, Op.intBits, Oa]
theorem Y7 (hF : Fr n ds F a) (hx : D4 F x = some (.int k p)) (hy : D4 F y = some (.int k q)) : Yx P B M Z a ⟨dst, .binOp .or T x y T', ty, pos, aft, g⟩ (.int k (Ta k p q)) :=
  Dt fun w _ => by simp [execOp, hF.eval hx, hF.eval hy, BX, binOp, Op.intBits, Ta]
theorem R3 (hF : Fr n ds F a) (hx : D4 F x = some (.int k p)) (hy : D4 F y = some (.int k q)) : Yx P B M Z a ⟨dst, .binOp .xor T x y T', ty, pos, aft, g⟩ (.int k (HX k p q)) :=
  Dt fun w _ => by simp [execOp, hF.eval hx, hF.eval hy, BX, binOp, Op.intBits, HX]
theorem TP (hF : Fr n ds F a) (hx : D4 F x = some (.int k p)) (hy : D4 F y = some (.int k q)) : Yx P B M Z a ⟨dst, .binOp .andNot T x y T', ty, pos, aft, g⟩ (.int k (PM k p q)) :=
  Dt fun w _ => by simp [execOp, hF.eval hx, hF.eval hy, BX, binOp, Op.intBits, PM]
theorem Kj {src dst' : TypeId} (hs : P.underlying src = some (.int k)) (hd : P.underlying dst' = some (.int k')) (hF : Fr n ds F a) (hx : D4 F x = some (.int k p)) : Yx P B M Z a ⟨dst, .convert src dst' x, ty, pos, aft, g⟩ (.int k' (k'.wrap p)) :=
  Dt fun w _ => by simp [execOp, hF.eval hx, convert, Go.underlying, hs, hd, Conv.intToInt]
theorem T5 {o : Oper} {u v : Int} (h : u = v) (y : Yx P B M Z a o (.int k u)) : Yx P B M Z a o (.int k v) := by subst h; exact y
section
variable {ad : Addr} {pt : TypeId}
end
theorem Vk {op : BinOp} {u : Bool} (h : (Op.stringOp op (bs l) (bs m)).run P w = .ok (.bool u) w) (h1 : op ≠ .shl) (h2 : op ≠ .shr) (hF : Fr n ds F a) (hx : D4 F x = some (.string (bs l))) (hy : D4 F y = some (.string (bs m))) : (execOp a.eval ⟨dst, .binOp op T x y T', ty, pos, aft, g⟩).run P w = .ok (.value (.bool u)) w := by
  simp only [execOp, hF.eval hx, hF.eval hy, Sem.run_bind, Lx, Result.andThen_ok]
  have : binOp op T (.string (bs l)) (.string (bs m)) = Op.stringOp op (bs l) (bs m) := by cases op <;> rfl
  simp only [this, h, Result.andThen_ok]
  rfl
theorem X6 (hF : Fr n ds F a) (hx : D4 F x = some (.string (bs l))) (hy : D4 F y = some (.string (bs m))) : Yx P B M Z a ⟨dst, .binOp .eql T x y T', ty, pos, aft, g⟩ (.bool (decide (l = m))) :=
  Dt fun w _ => Vk (by
    simp only [Op.stringOp, SP]
    rw [U4]; rfl) (by simp) (by simp) hF hx hy
theorem TG {i : Int} {c : UInt8} {k : IntKind} (ht : P.underlying t = some .string) (hF : Fr n ds F a) (hx : D4 F x = some (.string (bs l))) (hi : D4 F y = some (.int k i)) (h : ix l i = some c) :
    Yx P B M Z a ⟨dst, .index t x y, ty, pos, aft, g⟩ (.int .u8 (c.toNat : Int)) :=
  Dt fun w hw => by
    obtain ⟨h0, hk, hc⟩ := HO h
    have hg : (if 0 ≤ i then (bs l)[i.toNat]? else none) = some c := by rw [if_pos h0, Wp]; exact hc
    simp only [execOp, Instr.indexAt, hF.eval hx, hF.eval hi, Instr.index, asIntOf, Go.underlying, Sem.run_bind, run_program, ht, Result.andThen_ok, Sem.run_pure, hg]
theorem PH (cs : List Value) (hc : 0 < cs.length) (k : Nat) : (madeCells cs.toArray (k * cs.length)).toList = (List.replicate k cs).flatten := by
  have hl : ((List.replicate k cs).flatten).length = k * cs.length := by simp
  refine List.ext_getElem? fun j => ?_
  by_cases hj : j < k * cs.length
  · have h1 : ((List.replicate k cs).flatten)[j]? = cs[j % cs.length]? := by
      clear hl
      induction k generalizing j with
      | zero => simp at hj
      | succ k ih =>
        rw [List.replicate_succ, List.flatten_cons]
        by_cases hjc : j < cs.length
        · rw [List.getElem?_append_left hjc, Nat.mod_eq_of_lt hjc]
        · rw [List.getElem?_append_right (by omega), ih (j - cs.length) (by rw [Nat.succ_mul] at hj; omega)]
          congr 1
          rw [Nat.mod_eq_sub_mod (a := j) (by omega)]
    rw [h1]
    have hm : j % cs.length < cs.length := Nat.mod_lt _ hc
    simp [madeCells, hj, hm]
  · rw [List.getElem?_eq_none (by simp [madeCells]; omega), List.getElem?_eq_none (by omega)]
def YP (v : Value) (N : Nat) : Prop := ∃ b, v = .slice (some b) N N
theorem VT {d : Nat} {z : Value} {lo co : Operand} {nn : Int} {k1 k2 : IntKind} {ls : List α} (z0 : α) (hF : Fr n ds F a) (hW : Stw B M Z w) (hn : Nat.blt d n = true) (E : Et P t e r.sz by_) (hz : (P.info? e).bind (·.zero) = some z) (hl : D4 F lo = some (.int k1 nn)) (hc : D4 F co = some (.int k2 nn))
    (hr : ∀ w A, r.rep w A z.cells.toList z0) (hm : mk nn z0 = some ls) (hby : Nat.ble by_ 100000 = true)
    (k : ∀ v, YP v nn.toNat → ∀ a' w', Fr n ds ((d, v) :: F) a' → Stw B M (row v e r ls :: Z) w' → wpList P ops Q rest a' w') :
    wpList P ops Q (⟨some d, .makeSlice t lo co, ty, pos, aft, none⟩ :: rest) a w := by
  obtain ⟨h0, h1, rfl⟩ := Po hm
  obtain ⟨i, z', hi, hz', his, hib, hzs⟩ := E.info
  have hzz : z' = z := by rw [hi] at hz; simp only [Option.bind_some] at hz; rw [hz'] at hz; exact Option.some.inj hz
  subst hzz
  have hby' := Nat.le_of_ble_eq_true hby
  have hbytes : (i.bytes : Int) * nn ≤ 281474976710656 := by
    rw [hib]
    have h2 : (by_ : Int) * nn ≤ 100000 * 1000000000 := Int.mul_le_mul (by omega) h1 h0 (by omega)
    omega
  have hrun := run_make (P := P) w t e i z' E.desc hi hz' k1 k2 nn nn h0 (Int.le_refl _) hbytes (by omega)
  have hlen : z'.cells.toList.length = r.sz := by simpa using hzs
  have hcells : (madeCells z'.cells (nn.toNat * i.size)).toList = (List.replicate nn.toNat z'.cells.toList).flatten := by
    have := PH z'.cells.toList (by rw [hlen]; exact E.pos) nn.toNat
    rw [hlen] at this
    rw [his]; simpa using this
  refine N4 hF hn (v := .slice (some ⟨w.heap.size, 0, none⟩) nn.toNat nn.toNat) (w' := w.alloc (.cells (madeCells z'.cells (nn.toNat * i.size)) e)) ?_ (fun a' h => k _ ⟨_, rfl⟩ a' _ h ?_)
  · simp [execOp, hF.eval hl, hF.eval hc, hrun]
  · have hrep : Cg r w (Fz B (Bn M Z)) (List.replicate nn.toNat z'.cells.toList).flatten (List.replicate nn.toNat z0) := Cg.rep (hr w _) _
    have hll := hrep.len
    have := hW.allocRow ((List.replicate nn.toNat z'.cells.toList).flatten) e (m := nn.toNat) (l := List.replicate nn.toNat z0) (r := r) (by unfold maxLen; omega) (by rw [hll]; simp) (by simp) (by rw [← hll, List.take_length]; exact hrep)
    rw [← hcells] at this
    simpa using this
theorem IX {d : Nat} {z : Value} {lo co : Operand} {nn : Int} {k1 k2 : IntKind} {ls : List α} (z0 : α) (hF : Fr n ds F a) (hW : Stw B M Z w) (hn : Nat.blt d n = true) (E : Et P t e r.sz by_) (hz : (P.info? e).bind (·.zero) = some z) (hl : D4 F lo = some (.int k1 nn)) (hc : D4 F co = some (.int k2 nn))
    (hr : ∀ w A, r.rep w A z.cells.toList z0) (hm : mk nn z0 = some ls) (hby : Nat.ble by_ 100000 = true)
    (k : ∀ v a' w', Fr n ds ((d, v) :: F) a' → Stw B M (row v e r ls :: Z) w' → wpList P ops Q rest a' w') :
    wpList P ops Q (⟨some d, .makeSlice t lo co, ty, pos, aft, none⟩ :: rest) a w :=
  VT z0 hF hW hn E hz hl hc hr hm hby fun v _ => k v
end
end Go.Proofs.YthhoflfhegfmcaaGreat
