/- Rows: elements put over others (append in place, clear, copy), slices with a capacity. Conditions: none. -/
import Derived.Test.YtpckgggmgijiiaaGreatDoorcOE
namespace Go.Proofs.YtpckgggmgijiiaaGreatDoor
set_option linter.unusedVariables false
set_option linter.unusedSimpArgs false
open Go Go.RowKit
section
variable {P : Program} {B : Bs} {M M' : Dh} {Z Z' Z1 : List It} {n : Nat} {ds : List Deferred} {F F' : List (Nat × Value)} {a : Act} {w w' : World}
variable {ops : Array Oper} {Q : Exit → Act → World → Prop} {rest : List Oper} {o : Oper}
variable {dst : Option Tmp} {ty : TypeId} {pos : String} {aft : Array Edge} {g : Option (Nat × Bool)}
variable {α : Type} {r : Rp α} {l l1 l2 l3 : List α} {v u : Value} {x : α} {i : Int} {t e by_ : Nat}
theorem Gg {Ml M : Dh} {Zl Z : List It} {g : Nat} (h : g ∈ BP Ml Zl) : g ∈ BP (Ml ++ M) (Zl ++ Z) :=
  (List.Sublist.append ((List.sublist_append_left _ _).map _) (Hm (List.sublist_append_left _ _))).subset h
theorem Stw.roX {X' : List Nat} (h : Stw B M Z w) (hs : Sl B.w0 (NX B.X) r v l) (hsub : ∀ g ∈ X', g ∈ BP M Z) : Sl w (NX X') r v l :=
  hs.stab fun b hb hlt => ⟨fun hm => by
    rcases h.own b (hsub b hm) with h1 | h1
    · exact hb h1
    · omega, h.frm.block b hlt hb⟩
theorem Vx {d i gd : Nat} {u u' : Bool} {l : List Oper} {o : Oper} (hF : Fr n ds F a) (hl : ops = l.toArray) (hg : o.guard = some (i, u)) (hgd : (l[i]?).bind (·.dst) = some gd) (hk : lk F gd = some (.bool u')) (hne : (u' == u) = false) (hd : o.dst = some d) (hn : Nat.blt d n = true)
    (k : ∀ a', Fr n ds ((d, undef) :: F) a' → wpList P ops Q rest a' w) : wpList P ops Q (o :: rest) a w := SB hF (Be hF hl hg hgd hk hne) hd hn k
end
theorem DX {a b : Bool} (h : a = b) : some (Value.bool a) = some (Value.bool b) := by rw [h]
theorem DW : (!true) = false ∧ (!false) = true ∧ (∀ b, (true && b) = b) ∧ (∀ b, (false && b) = false) ∧ (∀ b, (true || b) = true) ∧ (∀ b, (false || b) = b) ∧ (∀ b, (b && true) = b) ∧ (∀ b, (b || false) = b) ∧ (∀ x y : Bool, (bif true then x else y) = x) ∧ (∀ x y : Bool, (bif false then x else y) = y) := by simp
end Go.Proofs.YtpckgggmgijiiaaGreatDoor
