/- copy into a row of one's own, or a part of it. Conditions: none. -/
import Derived.Test.YthhoflfhegfmcaaGreatcOC
namespace Go.Proofs.YthhoflfhegfmcaaGreat
set_option linter.unusedVariables false
set_option linter.unusedSimpArgs false
set_option linter.unusedSectionVars false
open Go Go.RowKit
section
variable {P : Program} {B : Bs} {M M' : Dg} {Z Z' Z1 : List It} {n : Nat} {ds : List Deferred} {F F' : List (Nat × Value)} {a : Act} {w w' : World}
variable {ops : Array Oper} {Q : Exit → Act → World → Prop} {rest : List Oper} {o : Oper}
variable {ty : TypeId} {pos : String} {aft : Array Edge}
variable {α : Type} {r : Rp α} {l l1 l2 : List α} {v u dv : Value} {t t2 e by_ : Nat}
variable {M1 : Dg} {g : Option (Nat × Bool)} {dst : Option Tmp} {x : α} {i : Int}
def VS {α : Type} (v : Value) (l : List α) : Prop := (∃ ad c, v = .slice ad 0 c ∧ l = []) ∨ ∃ b off cap, v = .slice (some ⟨b, off, none⟩) l.length cap
theorem C2 (hW : Stw B M Z w) (hR : NM B M Z r v l) : VS v l := by
  rcases hR w hW with h | ⟨b, off, cap, xs, h, _⟩
  · exact .inl h
  · exact .inr ⟨b, off, cap, h⟩
theorem Ba {s iop : Operand} (E : Et P t e r.sz by_) (hF : Fr n ds F a) (hx : D4 F s = some v) (hi : D4 F iop = some (.int .i64 i)) (hR : VS v l) (hik : ix l i = some x) :
    Yx P B M Z a ⟨dst, .indexAddr t s iop, ty, pos, aft, g⟩ (.pointer (some ⟨LM v, Jm v + i.toNat * r.sz, none⟩)) :=
  Dt fun w hw => by
    obtain ⟨h0, hk, _⟩ := HO hik
    have hsz := E.sizeOf (P := P) w
    rcases hR with ⟨ad, cap, rfl, rfl⟩ | ⟨b, off, cap, rfl⟩
    · simp at hk
    · have h1 : i < (l.length : Int) := by omega
      simp [execOp, Instr.indexAt, hF.eval hx, hF.eval hi, asIntOf, Go.underlying, E.desc, h0, h1, hsz, Ef, LM, Jm]
theorem Ua {fn : Func} {R : Ending → World → Prop} {F : List (Nat × Value)} {e : Exit} {r s t q : ResultVar} {v u x y : Value} (he : e = .ret ∨ e = .normal) (hF : Fr n [] F a) (hW : Stw B M Z w) (hr : fn.results = #[r, s, t, q]) (h1 : Rv P B M Z a r v) (h2 : Rv P B M Z a s u) (h3 : Rv P B M Z a t x) (h4 : Rv P B M Z a q y) (h : R (.returned (.tuple #[v, u, x, y])) w) : bodyPost P fn R e a w := by
  have : (results fn a.tmps).run P w = .ok (.tuple #[v, u, x, y]) w := by
    rw [Lv, hr]
    have e1 := h1 w hW
    have e2 := h2 w hW
    have e3 := h3 w hW
    have e4 := h4 w hW
    simp [e1, e2, e3, e4]
  rcases he with rfl | rfl <;> exact ⟨hF.defers, _, this, h⟩
end
end Go.Proofs.YthhoflfhegfmcaaGreat
