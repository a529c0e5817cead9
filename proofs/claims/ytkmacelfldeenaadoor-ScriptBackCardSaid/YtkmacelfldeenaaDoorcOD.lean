/- Deferred closures that recover; calls that panic. Conditions: none. -/
import Derived.Test.YtkmacelfldeenaaDoorcOR
import Derived.Defers
import Derived.Recover
namespace Go.Proofs.YtkmacelfldeenaaDoor
set_option linter.unusedVariables false
set_option linter.unusedSimpArgs false
open Go Go.RowKit
variable {rl : Option Nat}
section
variable {P : Program} {B : Bs} {M M' Ml : Bx} {Z Z' Z1 Zl : List It} {n : Nat} {ds : List Deferred} {F F' : List (Nat × Value)} {a : Act} {w w' : World}
variable {ops : Array Oper} {Q : Exit → Act → World → Prop} {rest : List Oper} {o : Oper}
variable {dst : Option Tmp} {ty : TypeId} {pos : String} {aft : Array Edge} {g : Option (Nat × Bool)} {v : Value}
variable {fn : Func} {R : Ending → World → Prop}
theorem HP {args : List Value} {k : Nat} {v : Value} (hk : lk (args.zipIdx.map fun (v, i) => (i, v)) k = some v) : args[k]? = some v := by
  have key : ∀ (l : List Value) (s : Nat), lk ((l.zipIdx s).map fun (v, i) => (i, v)) k = some v → s ≤ k ∧ l[k - s]? = some v := by
    intro l
    induction l with
    | nil => intro s h; simp [lk] at h
    | cons x l ih =>
      intro s h
      simp only [List.zipIdx_cons, List.map_cons] at h
      by_cases hk : s = k
      · subst hk
        rw [CJ] at h
        simp at h
        subst h
        simp
      · rw [CK hk] at h
        obtain ⟨h1, h2⟩ := ih (s + 1) h
        refine ⟨by omega, ?_⟩
        rw [show k - s = (k - (s + 1)) + 1 by omega]
        simpa using h2
  have := (key args 0 hk).2
  simpa using this
theorem Fr.enter {args : List Value} {N : Nat} (hN : fn.ntmps = N) (hle : Nat.ble args.length N = true) : Fr N [] (args.zipIdx.map fun (v, i) => (i, v)) { tmps := args.toArray ++ Array.replicate (fn.ntmps - args.toArray.size) undef, defers := [] } := by
  refine ⟨?_, rfl, fun k v hk => ?_⟩
  · have := Nat.le_of_ble_eq_true hle
    simp [hN]; omega
  · have h2 := HP hk
    rw [Array.getElem?_append_left (by simpa using (List.getElem?_eq_some_iff.1 h2).1)]
    simpa using h2
theorem Dr {T : TypeId} {ms : _} (hT : P.underlying T = some (.interface ms)) (d : Nat) (t : TypeId) (u : Value) (w : World) : (Op.equalIn (d + 1) T (.iface t u) .nilIface).run P w = .ok false w := by
  simp [Op.equalIn, Go.underlying, hT]
theorem C8 {T : TypeId} {ms : _} (hT : P.underlying T = some (.interface ms)) (d : Nat) (w : World) : (Op.equalIn (d + 1) T .nilIface .nilIface).run P w = .ok true w := by
  simp [Op.equalIn, Go.underlying, hT]
theorem DT {T : TypeId} {ms : _} (hT : P.underlying T = some (.interface ms)) (t : TypeId) (u : Value) (w : World) : (Op.equal T (.iface t u) .nilIface).run P w = .ok false w := Dr hT 9999 t u w
theorem Dp {T : TypeId} {ms : _} (hT : P.underlying T = some (.interface ms)) (w : World) : (Op.equal T .nilIface .nilIface).run P w = .ok true w := C8 hT 9999 w
theorem EA {x : Operand} {t : TypeId} {u : Value} {T T' : TypeId} {ms : _} (hT : P.underlying T = some (.interface ms)) (hF : Fr n ds F a) (hx : B4 F x = some (.iface t u)) : Yx P B M Z a ⟨dst, .binOp .neq T x (.const .nilIface) T', ty, pos, aft, g⟩ (.bool true) :=
  Bb fun w _ => by
    have h2 : a.eval (.const .nilIface) = .nilIface := rfl
    simp [execOp, hF.eval hx, h2, eqGuard, binOp, DT hT]
theorem E2 {x : Operand} {T T' : TypeId} {ms : _} (hT : P.underlying T = some (.interface ms)) (hF : Fr n ds F a) (hx : B4 F x = some .nilIface) : Yx P B M Z a ⟨dst, .binOp .neq T x (.const .nilIface) T', ty, pos, aft, g⟩ (.bool false) :=
  Bb fun w _ => by
    have h2 : a.eval (.const .nilIface) = .nilIface := rfl
    simp [execOp, hF.eval hx, h2, eqGuard, binOp, Dp hT]
end
end Go.Proofs.YtkmacelfldeenaaDoor
