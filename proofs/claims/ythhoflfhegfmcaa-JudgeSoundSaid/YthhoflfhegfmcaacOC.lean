/- Rows: elements put over others (append in place, clear, copy), slices with a capacity. Conditions: none. -/
import Derived.Test.YthhoflfhegfmcaacOE
namespace Go.Proofs.Ythhoflfhegfmcaa
set_option linter.unusedVariables false
set_option linter.unusedSimpArgs false
open Go Go.RowKit
section
variable {P : Program} {B : Bs} {M M' : B0} {Z Z' Z1 : List It} {n : Nat} {ds : List Deferred} {F F' : List (Nat × Value)} {a : Act} {w w' : World}
variable {ops : Array Oper} {Q : Exit → Act → World → Prop} {rest : List Oper} {o : Oper}
variable {dst : Option Tmp} {ty : TypeId} {pos : String} {aft : Array Edge} {g : Option (Nat × Bool)}
variable {α : Type} {r : Rp α} {l l1 l2 l3 : List α} {v u : Value} {x : α} {i : Int} {t e by_ : Nat}
def RI (v : Value) : Bool := match v with | .slice a _ _ => a.isNone | _ => false
theorem Rx {T : TypeId} (hT : P.underlying T = some (.slice e)) (ad : Option Addr) (m c d : Nat) (w : World) : (Op.equalIn (d + 1) T (.slice ad m c) (.slice none 0 0)).run P w = .ok ad.isNone w := by
  cases ad <;> simp [Op.equalIn, Go.underlying, hT]
theorem Vl {T : TypeId} (hT : P.underlying T = some (.slice e)) (ad : Option Addr) (m c : Nat) (w : World) : (Op.equal T (.slice ad m c) (.slice none 0 0)).run P w = .ok ad.isNone w := Rx hT ad m c 9999 w
theorem QL {x : Operand} {T T' : TypeId} (hT : P.underlying T = some (.slice e)) (hF : Fr n ds F a) (hx : CP F x = some v) (hR : LH B M Z r v l) : Yx P B M Z a ⟨dst, .binOp .eql T x (.const (.slice none 0 0)) T', ty, pos, aft, g⟩ (.bool (RI v)) :=
  Co fun w hw => by
    obtain ⟨ad, m, cap, rfl⟩ : ∃ ad m cap, v = .slice ad m cap := by
      rcases hR w hw with ⟨ad, cap, rfl, rfl⟩ | ⟨b, off, cap, xs, rfl, hc, _⟩
      · exact ⟨_, _, _, rfl⟩
      · exact ⟨_, _, _, rfl⟩
    have h2 : a.eval (.const (.slice none 0 0)) = .slice none 0 0 := rfl
    simp [execOp, hF.eval hx, h2, eqGuard, binOp, Vl hT, RI]
theorem Po (hR : LH B M Z r v l) (hW : Stw B M Z w) : (RI v = true ∧ l = []) ∨ RI v = false := by
  rcases hR w hW with ⟨ad, cap, rfl, rfl⟩ | ⟨b, off, cap, xs, rfl, hc, _⟩
  · cases ad with
    | none => exact .inl ⟨rfl, rfl⟩
    | some ad => exact .inr rfl
  · exact .inr rfl
theorem PW {d i gd : Nat} {u u' : Bool} {l : List Oper} {o : Oper} (hF : Fr n ds F a) (hl : ops = l.toArray) (hg : o.guard = some (i, u)) (hgd : (l[i]?).bind (·.dst) = some gd) (hk : lk F gd = some (.bool u')) (hne : (u' == u) = false) (hd : o.dst = some d) (hn : Nat.blt d n = true)
    (k : ∀ a', Fr n ds ((d, undef) :: F) a' → wpList P ops Q rest a' w) : wpList P ops Q (o :: rest) a w := OU hF (Bb hF hl hg hgd hk hne) hd hn k
end
theorem JW {a b : Bool} (h : a = b) : some (Value.bool a) = some (Value.bool b) := by rw [h]
theorem Ka : (!true) = false ∧ (!false) = true ∧ (∀ b, (true && b) = b) ∧ (∀ b, (false && b) = false) ∧ (∀ b, (true || b) = true) ∧ (∀ b, (false || b) = b) ∧ (∀ b, (b && true) = b) ∧ (∀ b, (b || false) = b) ∧ (∀ x y : Bool, (bif true then x else y) = x) ∧ (∀ x y : Bool, (bif false then x else y) = y) := by simp
end Go.Proofs.Ythhoflfhegfmcaa
