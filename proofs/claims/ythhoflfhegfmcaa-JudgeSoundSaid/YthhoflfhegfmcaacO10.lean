/- Strings, bytes, bits, conversions, make. Conditions: none. -/
import Derived.Test.YthhoflfhegfmcaacO9
import Derived.Laws.BytesString
import Derived.Laws.MakeOwn
namespace Go.Proofs.Ythhoflfhegfmcaa
set_option linter.unusedVariables false
set_option linter.unusedSimpArgs false
open Go Go.RowKit
theorem PS (l : List UInt8) : (bs l).toList = l := by simp
def PB (k : IntKind) (x y : Int) : Int := k.wrap (x * 2 ^ (min y.toNat k.bits))
def Pz (k : IntKind) (x y : Int) : Int := x.fdiv (2 ^ (min y.toNat k.bits))
def SD (v : Int) (y : Int) : Option Int := if 0 ≤ y then some v else none
theorem JE {v y r : Int} (h : SD v y = some r) : 0 ≤ y ∧ v = r := by
  unfold SD at h; split at h <;> simp_all
def PD (k : IntKind) (x y : Int) : Int := k.wrap (BitVec.ofInt k.bits x &&& BitVec.ofInt k.bits y).toNat
def PV (k : IntKind) (x y : Int) : Int := k.wrap (BitVec.ofInt k.bits x ||| BitVec.ofInt k.bits y).toNat
def SM (k : IntKind) (x y : Int) : Int := k.wrap (BitVec.ofInt k.bits x ^^^ BitVec.ofInt k.bits y).toNat
def MA (k : IntKind) (x y : Int) : Int := k.wrap (BitVec.ofInt k.bits x &&& ~~~ BitVec.ofInt k.bits y).toNat
theorem RV (l m : List UInt8) : (l == m) = decide (l = m) := by by_cases h : l = m <;> simp [h]
section
variable {P : Program} {B : Bs} {M M' : B0} {Z Z' Z1 : List It} {n : Nat} {ds : List Deferred} {F F' : List (Nat × Value)} {a : Act} {w w' : World}
variable {ops : Array Oper} {Q : Exit → Act → World → Prop} {rest : List Oper} {o : Oper}
variable {dst : Option Tmp} {ty : TypeId} {pos : String} {aft : Array Edge} {g : Option (Nat × Bool)} {v : Value}
variable {α : Type} {r : Rp α} {l m : List UInt8} {x y : Operand} {T T' t e by_ : Nat} {p q : Int} {k k' : IntKind}
theorem Ul (hF : Fr n ds F a) (hx : CP F x = some (.int k p)) (hy : CP F y = some (.int k' q)) (h0 : 0 ≤ q) : Yx P B M Z a ⟨dst, .binOp .shl T x y T', ty, pos, aft, g⟩ (.int k (PB k p q)) :=
  Co fun w _ => by
    have : ¬ q < 0 := by omega
    simp [execOp, hF.eval hx, hF.eval hy, A8, binOp, Op.shift, this, PB]
theorem TQ (hF : Fr n ds F a) (hx : CP F x = some (.int k p)) (hy : CP F y = some (.int k' q)) (h0 : 0 ≤ q) : Yx P B M Z a ⟨dst, .binOp .shr T x y T', ty, pos, aft, g⟩ (.int k (Pz k p q)) :=
  Co fun w _ => by
    have : ¬ q < 0 := by omega
    simp [execOp, hF.eval hx, hF.eval hy, A8, binOp, Op.shift, this, Pz]
theorem Ug (hF : Fr n ds F a) (hx : CP F x = some (.int k p)) (hy : CP F y = some (.int k q)) : Yx P B M Z a ⟨dst, .binOp .and T x y T', ty, pos, aft, g⟩ (.int k (PD k p q)) :=
  Co fun w _ => by simp [execOp, hF.eval hx, hF.eval hy, A8, binOp, Op.intBits, PD]
theorem Vf (hF : Fr n ds F a) (hx : CP F x = some (.int k p)) (hy : CP F y = some (.int k q)) : Yx P B M Z a ⟨dst, .binOp .or T x y T', ty, pos, aft, g⟩ (.int k (PV k p q)) :=
  Co fun w _ => by simp [execOp, hF.eval hx, hF.eval hy, A8, binOp, Op.intBits, PV]
theorem Up (hF : Fr n ds F a) (hx : CP F x = some (.int k p)) (hy : CP F y = some (.int k q)) : Yx P B M Z a ⟨dst, .binOp .xor T x y T', ty, pos, aft, g⟩ (.int k (SM k p q)) :=
  Co fun w _ => by simp [execOp, hF.eval hx, hF.eval hy, A8, binOp, Op.intBits, SM]
theorem Qg (hF : Fr n ds F a) (hx : CP F x = some (.int k p)) (hy : CP F y = some (.int k q)) : Yx P B M Z a ⟨dst, .binOp .andNot T x y T', ty, pos, aft, g⟩ (.int k (MA k p q)) :=
  Co fun w _ => by simp [execOp, hF.eval hx, hF.eval hy, A8, binOp, Op.intBits, MA]
theorem Sn {o : Oper} {u v : Int} (h : u = v) (y : Yx P B M Z a o (.int k u)) : Yx P B M Z a o (.int k v) := by subst h; exact y
section
variable {ad : Addr} {pt : TypeId}
end
theorem RS {op : BinOp} {u : Bool} (h : (Op.stringOp op (bs l) (bs m)).run P w = .ok (.bool u) w) (h1 : op ≠ .shl) (h2 : op ≠ .shr) (hF : Fr n ds F a) (hx : CP F x = some (.string (bs l))) (hy : CP F y = some (.string (bs m))) : (execOp a.eval ⟨dst, .binOp op T x y T', ty, pos, aft, g⟩).run P w = .ok (.value (.bool u)) w := by
  simp only [execOp, hF.eval hx, hF.eval hy, Sem.run_bind, Je, Result.andThen_ok]
  have : binOp op T (.string (bs l)) (.string (bs m)) = Op.stringOp op (bs l) (bs m) := by cases op <;> rfl
  simp only [this, h, Result.andThen_ok]
  rfl
theorem T2 (hF : Fr n ds F a) (hx : CP F x = some (.string (bs l))) (hy : CP F y = some (.string (bs m))) : Yx P B M Z a ⟨dst, .binOp .eql T x y T', ty, pos, aft, g⟩ (.bool (decide (l = m))) :=
  Co fun w _ => RS (by
    simp only [Op.stringOp, PS]
    rw [RV]; rfl) (by simp) (by simp) hF hx hy
theorem Pc (cs : List Value) (hc : 0 < cs.length) (k : Nat) : (madeCells cs.toArray (k * cs.length)).toList = (List.replicate k cs).flatten := by
  have hl : ((List.replicate k cs).flatten).length = k * cs.length := by simp
  refine List.ext_getElem? fun j => ?_
  by_cases hj : j < k * cs.length
  · have h1 : ((List.replicate k cs).flatten)[j]? = cs[j % cs.length]? := by
      clear hl
      induction k generalizing j with
      | zero => simp at hj
      | succ k ih =>
        rw [List.replicate_succ, List.flatten_cons]
        by_cases hjc : j < cs.length
        · rw [List.getElem?_append_left hjc, Nat.mod_eq_of_lt hjc]
        · rw [List.getElem?_append_right (by omega), ih (j - cs.length) (by rw [Nat.succ_mul] at hj; omega)]
          congr 1
          rw [Nat.mod_eq_sub_mod (a := j) (by omega)]
    rw [h1]
    have hm : j % cs.length < cs.length := Nat.mod_lt _ hc
    simp [madeCells, hj, hm]
  · rw [List.getElem?_eq_none (by simp [madeCells]; omega), List.getElem?_eq_none (by omega)]
def Va (v : Value) (N : Nat) : Prop := ∃ b, v = .slice (some b) N N
theorem RQ {d : Nat} {z : Value} {lo co : Operand} {nn : Int} {k1 k2 : IntKind} {ls : List α} (z0 : α) (hF : Fr n ds F a) (hW : Stw B M Z w) (hn : Nat.blt d n = true) (E : Et P t e r.sz by_) (hz : (P.info? e).bind (·.zero) = some z) (hl : CP F lo = some (.int k1 nn)) (hc : CP F co = some (.int k2 nn))
    (hr : ∀ w A, r.rep w A z.cells.toList z0) (hm : mk nn z0 = some ls) (hby : Nat.ble by_ 100000 = true)
    (k : ∀ v, Va v nn.toNat → ∀ a' w', Fr n ds ((d, v) :: F) a' → Stw B M (row v e r ls :: Z) w' → wpList P ops Q rest a' w') :
    wpList P ops Q (⟨some d, .makeSlice t lo co, ty, pos, aft, none⟩ :: rest) a w := by
  obtain ⟨h0, h1, rfl⟩ := M6 hm
  obtain ⟨i, z', hi, hz', his, hib, hzs⟩ := E.info
  have hzz : z' = z := by rw [hi] at hz; simp only [Option.bind_some] at hz; rw [hz'] at hz; exact Option.some.inj hz
  subst hzz
  have hby' := Nat.le_of_ble_eq_true hby
  have hbytes : (i.bytes : Int) * nn ≤ 281474976710656 := by
    rw [hib]
    have h2 : (by_ : Int) * nn ≤ 100000 * 1000000000 := Int.mul_le_mul (by omega) h1 h0 (by omega)
    omega
  have hrun := run_make (P := P) w t e i z' E.desc hi hz' k1 k2 nn nn h0 (Int.le_refl _) hbytes (by omega)
  have hlen : z'.cells.toList.length = r.sz := by simpa using hzs
  have hcells : (madeCells z'.cells (nn.toNat * i.size)).toList = (List.replicate nn.toNat z'.cells.toList).flatten := by
    have := Pc z'.cells.toList (by rw [hlen]; exact E.pos) nn.toNat
    rw [hlen] at this
    rw [his]; simpa using this
  refine LC hF hn (v := .slice (some ⟨w.heap.size, 0, none⟩) nn.toNat nn.toNat) (w' := w.alloc (.cells (madeCells z'.cells (nn.toNat * i.size)) e)) ?_ (fun a' h => k _ ⟨_, rfl⟩ a' _ h ?_)
  · simp [execOp, hF.eval hl, hF.eval hc, hrun]
  · have hrep : Bi r w (Fz B (AO M Z)) (List.replicate nn.toNat z'.cells.toList).flatten (List.replicate nn.toNat z0) := Bi.rep (hr w _) _
    have hll := hrep.len
    have := hW.allocRow ((List.replicate nn.toNat z'.cells.toList).flatten) e (m := nn.toNat) (l := List.replicate nn.toNat z0) (r := r) (by unfold maxLen; omega) (by rw [hll]; simp) (by simp) (by rw [← hll, List.take_length]; exact hrep)
    rw [← hcells] at this
    simpa using this
theorem Te {d : Nat} {z : Value} {lo co : Operand} {nn : Int} {k1 k2 : IntKind} {ls : List α} (z0 : α) (hF : Fr n ds F a) (hW : Stw B M Z w) (hn : Nat.blt d n = true) (E : Et P t e r.sz by_) (hz : (P.info? e).bind (·.zero) = some z) (hl : CP F lo = some (.int k1 nn)) (hc : CP F co = some (.int k2 nn))
    (hr : ∀ w A, r.rep w A z.cells.toList z0) (hm : mk nn z0 = some ls) (hby : Nat.ble by_ 100000 = true)
    (k : ∀ v a' w', Fr n ds ((d, v) :: F) a' → Stw B M (row v e r ls :: Z) w' → wpList P ops Q rest a' w') :
    wpList P ops Q (⟨some d, .makeSlice t lo co, ty, pos, aft, none⟩ :: rest) a w :=
  RQ z0 hF hW hn E hz hl hc hr hm hby fun v _ => k v
end
end Go.Proofs.Ythhoflfhegfmcaa
