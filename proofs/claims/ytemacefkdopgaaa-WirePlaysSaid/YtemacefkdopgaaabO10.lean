/- Strings, bytes, bits, conversions, make. Conditions: none. -/
import Derived.Test.YtemacefkdopgaaabO9
import Derived.Laws.BytesString
import Derived.Laws.MakeOwn
namespace Go.Proofs.Ytemacefkdopgaaa
set_option linter.unusedVariables false
set_option linter.unusedSimpArgs false
open Go Go.RowKit
def B5 (k : IntKind) (x y : Int) : Int := x.fdiv (2 ^ (min y.toNat k.bits))
section
variable {P : Program} {B : Bs} {M M' : C8} {Z Z' Z1 : List It} {n : Nat} {ds : List Deferred} {F F' : List (Nat × Value)} {a : Act} {w w' : World}
variable {ops : Array Oper} {Q : Exit → Act → World → Prop} {rest : List Oper} {o : Oper}
variable {dst : Option Tmp} {ty : TypeId} {pos : String} {aft : Array Edge} {g : Option (Nat × Bool)} {v : Value}
variable {α : Type} {r : Rp α} {l m : List UInt8} {x y : Operand} {T T' t e by_ : Nat} {p q : Int} {k k' : IntKind}
theorem IJ (hF : Fr n ds F a) (hx : CZ F x = some (.int k p)) (hy : CZ F y = some (.int k' q)) (h0 : 0 ≤ q) : Yx P B M Z a ⟨dst, .binOp .shr T x y T', ty, pos, aft, g⟩ (.int k (B5 k p q)) :=
  Cl fun w _ => by
    have : ¬ q < 0 := by omega
    simp [execOp, hF.eval hx, hF.eval hy, BO, binOp, Op.shift, this, B5]
theorem Eu {src dst' : TypeId} (hs : P.underlying src = some (.int k)) (hd : P.underlying dst' = some (.int k')) (hF : Fr n ds F a) (hx : CZ F x = some (.int k p)) : Yx P B M Z a ⟨dst, .convert src dst' x, ty, pos, aft, g⟩ (.int k' (k'.wrap p)) :=
  Cl fun w _ => by simp [execOp, hF.eval hx, convert, Go.underlying, hs, hd, Conv.intToInt]
section
variable {ad : Addr} {pt : TypeId}
theorem IW {s t : Option Addr} {u : Bool} (hT : P.underlying T = some (.pointer pt)) (hF : Fr n ds F a) (hx : CZ F x = some (.pointer s)) (hy : CZ F y = some (.pointer t)) (hu : ∀ w, (Op.equal T (.pointer s) (.pointer t)).run P w = .ok u w) :
    Yx P B M Z a ⟨dst, .binOp .eql T x y T', ty, pos, aft, g⟩ (.bool u) ∧ Yx P B M Z a ⟨dst, .binOp .neq T x y T', ty, pos, aft, g⟩ (.bool (!u)) := by
  constructor <;> exact Cl fun w _ => by simp [execOp, hF.eval hx, hF.eval hy, eqGuard, binOp, hu]
theorem Is (hT : P.underlying T = some (.pointer pt)) (d : Nat) (w : World) : (Op.equalIn (d + 1) T (.pointer none) (.pointer none)).run P w = .ok true w := by
  simp [Op.equalIn, Go.underlying, hT]
theorem Kl (hT : P.underlying T = some (.pointer pt)) (w : World) : (Op.equal T (.pointer none) (.pointer none)).run P w = .ok true w := Is hT 9999 w
theorem GA (hT : P.underlying T = some (.pointer pt)) (d : Nat) (w : World) : (Op.equalIn (d + 1) T (.pointer (some ad)) (.pointer none)).run P w = .ok false w := by
  simp [Op.equalIn, Go.underlying, hT]
theorem HM (hT : P.underlying T = some (.pointer pt)) (w : World) : (Op.equal T (.pointer (some ad)) (.pointer none)).run P w = .ok false w := GA hT 9999 w
theorem CP (hT : P.underlying T = some (.pointer pt)) (hF : Fr n ds F a) (hx : CZ F x = some (.pointer none)) (hy : CZ F y = some (.pointer none)) : Yx P B M Z a ⟨dst, .binOp .eql T x y T', ty, pos, aft, g⟩ (.bool true) := (IW hT hF hx hy (Kl hT)).1
theorem Cx (hT : P.underlying T = some (.pointer pt)) (hF : Fr n ds F a) (hx : CZ F x = some (.pointer (some ad))) (hy : CZ F y = some (.pointer none)) : Yx P B M Z a ⟨dst, .binOp .eql T x y T', ty, pos, aft, g⟩ (.bool false) := (IW hT hF hx hy (HM hT)).1
end
theorem J8 (cs : List Value) (hc : 0 < cs.length) (k : Nat) : (madeCells cs.toArray (k * cs.length)).toList = (List.replicate k cs).flatten := by
  have hl : ((List.replicate k cs).flatten).length = k * cs.length := by simp
  refine List.ext_getElem? fun j => ?_
  by_cases hj : j < k * cs.length
  · have h1 : ((List.replicate k cs).flatten)[j]? = cs[j % cs.length]? := by
      clear hl
      induction k generalizing j with
      | zero => simp at hj
      | succ k ih =>
        rw [List.replicate_succ, List.flatten_cons]
        by_cases hjc : j < cs.length
        · rw [List.getElem?_append_left hjc, Nat.mod_eq_of_lt hjc]
        · rw [List.getElem?_append_right (by omega), ih (j - cs.length) (by rw [Nat.succ_mul] at hj; omega)]
          congr 1
          rw [Nat.mod_eq_sub_mod (a := j) (by omega)]
    rw [h1]
    have hm : j % cs.length < cs.length := Nat.mod_lt _ hc
    simp [madeCells, hj, hm]
  · rw [List.getElem?_eq_none (by simp [madeCells]; omega), List.getElem?_eq_none (by omega)]
end
end Go.Proofs.Ytemacefkdopgaaa
