/- copy into a row of one's own, or a part of it. Conditions: none. -/
import Derived.Test.YtpckgggmgijiiaaGreatDoorcOC
namespace Go.Proofs.YtpckgggmgijiiaaGreatDoor
set_option linter.unusedVariables false
set_option linter.unusedSimpArgs false
set_option linter.unusedSectionVars false
open Go Go.RowKit
section
variable {P : Program} {B : Bs} {M M' : Dh} {Z Z' Z1 : List It} {n : Nat} {ds : List Deferred} {F F' : List (Nat × Value)} {a : Act} {w w' : World}
variable {ops : Array Oper} {Q : Exit → Act → World → Prop} {rest : List Oper} {o : Oper}
variable {ty : TypeId} {pos : String} {aft : Array Edge}
variable {α : Type} {r : Rp α} {l l1 l2 : List α} {v u dv : Value} {t t2 e by_ : Nat}
variable {M1 : Dh} {g : Option (Nat × Bool)} {dst : Option Tmp} {x : α} {i : Int}
def VS {α : Type} (v : Value) (l : List α) : Prop := (∃ ad c, v = .slice ad 0 c ∧ l = []) ∨ ∃ b off cap, v = .slice (some ⟨b, off, none⟩) l.length cap
theorem EK (hW : Stw B M Z w) (hR : RQ B M Z r v l) : VS v l := by
  rcases hR w hW with h | ⟨b, off, cap, xs, h, _⟩
  · exact .inl h
  · exact .inr ⟨b, off, cap, h⟩
theorem Cy {s iop : Operand} (E : Et P t e r.sz by_) (hF : Fr n ds F a) (hx : DV F s = some v) (hi : DV F iop = some (.int .i64 i)) (hR : VS v l) (hik : ix l i = some x) :
    Yx P B M Z a ⟨dst, .indexAddr t s iop, ty, pos, aft, g⟩ (.pointer (some ⟨LR v, LN v + i.toNat * r.sz, none⟩)) :=
  Dj fun w hw => by
    obtain ⟨h0, hk, _⟩ := KY hik
    have hsz := E.sizeOf (P := P) w
    rcases hR with ⟨ad, cap, rfl, rfl⟩ | ⟨b, off, cap, rfl⟩
    · simp at hk
    · have h1 : i < (l.length : Int) := by omega
      simp [execOp, Instr.indexAt, hF.eval hx, hF.eval hi, asIntOf, Go.underlying, E.desc, h0, h1, hsz, D2, LR, LN]
end
end Go.Proofs.YtpckgggmgijiiaaGreatDoor
