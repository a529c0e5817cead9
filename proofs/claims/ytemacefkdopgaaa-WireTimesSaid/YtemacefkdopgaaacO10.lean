/- Strings, bytes, bits, conversions, make. Conditions: none. -/
import Derived.Test.YtemacefkdopgaaacO9
import Derived.Laws.BytesString
import Derived.Laws.MakeOwn
namespace Go.Proofs.Ytemacefkdopgaaa
set_option linter.unusedVariables false
set_option linter.unusedSimpArgs false
open Go Go.RowKit
def BU (k : IntKind) (x y : Int) : Int := x.fdiv (2 ^ (min y.toNat k.bits))
section
variable {P : Program} {B : Bs} {M M' : C2} {Z Z' Z1 : List It} {n : Nat} {ds : List Deferred} {F F' : List (Nat × Value)} {a : Act} {w w' : World}
variable {ops : Array Oper} {Q : Exit → Act → World → Prop} {rest : List Oper} {o : Oper}
variable {dst : Option Tmp} {ty : TypeId} {pos : String} {aft : Array Edge} {g : Option (Nat × Bool)} {v : Value}
variable {α : Type} {r : Rp α} {l m : List UInt8} {x y : Operand} {T T' t e by_ : Nat} {p q : Int} {k k' : IntKind}
theorem In (hF : Fr n ds F a) (hx : CR F x = some (.int k p)) (hy : CR F y = some (.int k' q)) (h0 : 0 ≤ q) : Yx P B M Z a ⟨dst, .binOp .shr T x y T', ty, pos, aft, g⟩ (.int k (BU k p q)) :=
  B8 fun w _ => by
    have : ¬ q < 0 := by omega
    simp [execOp, hF.eval hx, hF.eval hy, Bk, binOp, Op.shift, this, BU]
theorem Ej {src dst' : TypeId} (hs : P.underlying src = some (.int k)) (hd : P.underlying dst' = some (.int k')) (hF : Fr n ds F a) (hx : CR F x = some (.int k p)) : Yx P B M Z a ⟨dst, .convert src dst' x, ty, pos, aft, g⟩ (.int k' (k'.wrap p)) :=
  B8 fun w _ => by simp [execOp, hF.eval hx, convert, Go.underlying, hs, hd, Conv.intToInt]
section
variable {ad : Addr} {pt : TypeId}
theorem Ii {s t : Option Addr} {u : Bool} (hT : P.underlying T = some (.pointer pt)) (hF : Fr n ds F a) (hx : CR F x = some (.pointer s)) (hy : CR F y = some (.pointer t)) (hu : ∀ w, (Op.equal T (.pointer s) (.pointer t)).run P w = .ok u w) :
    Yx P B M Z a ⟨dst, .binOp .eql T x y T', ty, pos, aft, g⟩ (.bool u) ∧ Yx P B M Z a ⟨dst, .binOp .neq T x y T', ty, pos, aft, g⟩ (.bool (!u)) := by
  constructor <;> exact B8 fun w _ => by simp [execOp, hF.eval hx, hF.eval hy, eqGuard, binOp, hu]
theorem H2 (hT : P.underlying T = some (.pointer pt)) (d : Nat) (w : World) : (Op.equalIn (d + 1) T (.pointer none) (.pointer none)).run P w = .ok true w := by
  simp [Op.equalIn, Go.underlying, hT]
theorem JV (hT : P.underlying T = some (.pointer pt)) (w : World) : (Op.equal T (.pointer none) (.pointer none)).run P w = .ok true w := H2 hT 9999 w
theorem F6 (hT : P.underlying T = some (.pointer pt)) (d : Nat) (w : World) : (Op.equalIn (d + 1) T (.pointer (some ad)) (.pointer none)).run P w = .ok false w := by
  simp [Op.equalIn, Go.underlying, hT]
theorem Ho (hT : P.underlying T = some (.pointer pt)) (w : World) : (Op.equal T (.pointer (some ad)) (.pointer none)).run P w = .ok false w := F6 hT 9999 w
theorem El (hT : P.underlying T = some (.pointer pt)) (hF : Fr n ds F a) (hx : CR F x = some (.pointer none)) (hy : CR F y = some (.pointer none)) : Yx P B M Z a ⟨dst, .binOp .eql T x y T', ty, pos, aft, g⟩ (.bool true) := (Ii hT hF hx hy (JV hT)).1
theorem Dq (hT : P.underlying T = some (.pointer pt)) (hF : Fr n ds F a) (hx : CR F x = some (.pointer (some ad))) (hy : CR F y = some (.pointer none)) : Yx P B M Z a ⟨dst, .binOp .eql T x y T', ty, pos, aft, g⟩ (.bool false) := (Ii hT hF hx hy (Ho hT)).1
end
theorem JJ (cs : List Value) (hc : 0 < cs.length) (k : Nat) : (madeCells cs.toArray (k * cs.length)).toList = (List.replicate k cs).flatten := by
  have hl : ((List.replicate k cs).flatten).length = k * cs.length := by simp
  refine List.ext_getElem? fun j => ?_
  by_cases hj : j < k * cs.length
  · have h1 : ((List.replicate k cs).flatten)[j]? = cs[j % cs.length]? := by
      clear hl
      induction k generalizing j with
      | zero => simp at hj
      | succ k ih =>
        rw [List.replicate_succ, List.flatten_cons]
        by_cases hjc : j < cs.length
        · rw [List.getElem?_append_left hjc, Nat.mod_eq_of_lt hjc]
        · rw [List.getElem?_append_right (by omega), ih (j - cs.length) (by rw [Nat.succ_mul] at hj; omega)]
          congr 1
          rw [Nat.mod_eq_sub_mod (a := j) (by omega)]
    rw [h1]
    have hm : j % cs.length < cs.length := Nat.mod_lt _ hc
    simp [madeCells, hj, hm]
  · rw [List.getElem?_eq_none (by simp [madeCells]; omega), List.getElem?_eq_none (by omega)]
end
end Go.Proofs.Ytemacefkdopgaaa
