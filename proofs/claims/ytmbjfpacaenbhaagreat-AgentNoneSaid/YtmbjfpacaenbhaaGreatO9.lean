/- Encodings, other operations. Conditions: none. -/
import Derived.Test.YtmbjfpacaenbhaaGreatO8
namespace Go.Proofs.YtmbjfpacaenbhaaGreat
set_option linter.unusedVariables false
set_option linter.unusedSimpArgs false
open Go Go.RowKit

abbrev w64 : Int → Int := IntKind.i64.wrap
/-- An encoding by a function. -/
structure Fl {α : Type} (r : Rp α) (enc : α → List Value) : Prop where
  to : Flat r enc
  mk' : ∀ (w : World) (A : Nat → Prop) (a : α), r.rep w A (enc a) a
theorem Fl.int {k : IntKind} : Fl (Rp.int k) fun a => [.int k a] := ⟨fun h => h, fun _ _ _ => rfl⟩
theorem Fl.bool : Fl Rp.bool fun a => [.bool a] := ⟨fun h => h, fun _ _ _ => rfl⟩
theorem Fl.str : Fl Rp.str fun a => [.string (bs a)] := ⟨fun h => h, fun _ _ _ => rfl⟩
theorem Fl.flt {k : FloatKind} : Fl (Rp.flt k) fun a => [.float k a] := ⟨fun h => h, fun _ _ _ => rfl⟩
def Rp.nmap : Rp Unit := ⟨1, fun _ _ cs _ => cs = [.map none], fun h => by subst h; rfl, fun h => by subst h; rfl, fun h _ => h⟩
theorem Fl.nmap : Fl Rp.nmap fun _ => [.map none] := ⟨fun h => h, fun _ _ _ => rfl⟩
theorem Fl.unit : Fl Rp.unit fun _ => [] := ⟨fun h => h, fun _ _ _ => rfl⟩
theorem Fl.pair {α β : Type} {r : Rp α} {s : Rp β} {e : α → List Value} {f : β → List Value} (h : Fl r e) (k : Fl s f) : Fl (r.pair s) fun a => e a.1 ++ f a.2 :=
  ⟨fun ⟨c1, c2, h0, h1, h2⟩ => by rw [h0, h.to h1, k.to h2], fun w A a => ⟨_, _, rfl, h.mk' w A a.1, k.mk' w A a.2⟩⟩
def flat {α : Type} (enc : α → List Value) (l : List α) : List Value := l.flatMap enc
theorem Fl.repL {α : Type} {r : Rp α} {enc : α → List Value} (h : Fl r enc) (w : World) (A : Nat → Prop) : ∀ l : List α, RepL r w A (flat enc l) l
  | [] => rfl
  | x :: l => ⟨enc x, flat enc l, by simp [flat], h.mk' w A x, h.repL w A l⟩
theorem Fl.sto {α : Type} {r : Rp α} {enc : α → List Value} (h : Fl r enc) {x x' : α} {j : Nat} {vs : List Value} (he : putL (enc x) j vs = enc x') (w : World) (A : Nat → Prop) (cs : List Value) (hc : r.rep w A cs x) : r.rep w A (putL cs j vs) x' := by
  rw [h.to hc, he]; exact h.mk' w A x'

section
variable {P : Program} {B : Bs} {M M' : Blks} {Z Z' Z1 : List It} {n : Nat} {ds : List Deferred} {F F' : List (Nat × Value)} {a : Act} {w w' : World}
variable {ops : Array Oper} {Q : Exit → Act → World → Prop} {rest : List Oper} {o : Oper}
variable {dst : Option Tmp} {ty : TypeId} {pos : String} {aft : Array Edge} {g : Option (Nat × Bool)} {v : Value}
variable {fn : Func} {R : Ending → World → Prop}

theorem execOp_guard (ρ : Operand → Value) (d : Option Tmp) (op : Op) (ty : TypeId) (pos : String) (aft : Array Edge) (g : Option (Nat × Bool)) : execOp ρ ⟨d, op, ty, pos, aft, g⟩ = execOp ρ ⟨d, op, ty, pos, aft, none⟩ := by cases op <;> rfl
/-- A step that is wanted goes as one without a guard. -/
theorem ls_g {op : Op} (hwt : Region.wanted ⟨dst, op, ty, pos, aft, g⟩ (yielded ops a.tmps) = true) (h : wpList P ops Q (⟨dst, op, ty, pos, aft, none⟩ :: rest) a w) : wpList P ops Q (⟨dst, op, ty, pos, aft, g⟩ :: rest) a w := by
  unfold wpList at h ⊢
  rw [if_pos hwt]
  rw [if_pos (wanted_none rfl)] at h
  unfold Oper.wp Oper.asks at *
  rw [execOp_guard]
  exact h
theorem at_M {Y : Nat → Prop} {b : Nat} {cs : List Value} (h : Stw B M Z w) (i : Nat) (hM : M[i]? = some (b, cs)) : At ⟨Y, [], w⟩ b 0 cs :=
  ⟨fun hm => (by cases hm), h.lt_all (mem_blks_M (mem_of_get hM)), fun j u hu => by rw [h.cell hM, Nat.zero_add]; exact hu⟩
theorem At.re {Y : Nat → Prop} {b off : Nat} {cs : List Value} (h : At B b off cs) (hW : Stw B M Z w) : At ⟨Y, [], w⟩ b off cs :=
  ⟨fun hm => (by cases hm), Nat.lt_of_lt_of_le h.lt hW.frm.size, fun j u hu => h.now hW hu⟩

theorem Stw.done {Y : Nat → Prop} {w0 : World} (h : Stw ⟨Y, [], w0⟩ M Z w) : Below w0.heap.size w0 w := h.frm.below
end
end Go.Proofs.YtmbjfpacaenbhaaGreat
