/- Rows: elements put over others (append in place, clear, copy), slices with a capacity. Conditions: none. -/
import Derived.Test.YtpckgggmgijiiaaGreatDooreOE
namespace Go.Proofs.YtpckgggmgijiiaaGreatDoor
set_option linter.unusedVariables false
set_option linter.unusedSimpArgs false
open Go Go.RowKit
section
variable {P : Program} {B : Bs} {M M' : Cn} {Z Z' Z1 : List It} {n : Nat} {ds : List Deferred} {F F' : List (Nat × Value)} {a : Act} {w w' : World}
variable {ops : Array Oper} {Q : Exit → Act → World → Prop} {rest : List Oper} {o : Oper}
variable {dst : Option Tmp} {ty : TypeId} {pos : String} {aft : Array Edge} {g : Option (Nat × Bool)}
variable {α : Type} {r : Rp α} {l l1 l2 l3 : List α} {v u : Value} {x : α} {i : Int} {t e by_ : Nat}
theorem Yd {Ml M : Cn} {Zl Z : List It} {g : Nat} (h : g ∈ Am Ml Zl) : g ∈ Am (Ml ++ M) (Zl ++ Z) :=
  (List.Sublist.append ((List.sublist_append_left _ _).map _) (F7 (List.sublist_append_left _ _))).subset h
theorem Stw.roX {X' : List Nat} (h : Stw B M Z w) (hs : Sl B.w0 (NX B.X) r v l) (hsub : ∀ g ∈ X',g ∈ Am M Z) : Sl w (NX X') r v l :=
  hs.stab fun b hb hlt => ⟨fun hm => by
    rcases h.own b (hsub b hm) with h1 | h1
    · exact hb h1
    · omega,h.frm.block b hlt hb⟩
theorem yN {Ml : Cn} {Zl : List It} {e : TypeId} (h : Stw B (Ml ++ M) (Zl ++ Z) w) (i : Nat) (hZ : Z[i]? = some (row v e r l)) : Sl w (NX (Am Ml Zl)) r v l := by
  have hZ2 : (Zl ++ Z)[Zl.length + i]? = some (row v e r l) := by rw [List.getElem?_append_right (by omega),Nat.add_sub_cancel_left]; exact hZ
  have hp : (Am (Ml ++ M) (Zl ++ Z)).Perm (Am Ml Zl ++ Am M Z) := by
    unfold Am
    rw [List.map_append,List.flatMap_append]
    simp only [List.append_assoc]
    refine List.Perm.append_left _ ?_
    rw [← List.append_assoc, ← List.append_assoc]
    exact List.Perm.append_right _ List.perm_append_comm
  have hnd := List.nodup_append.1 (hp.nodup_iff.1 h.nodup)
  refine Io.sl (A := Fz B (Am (Ml ++ M) (Zl ++ Z))) (e := e) (h.item hZ2) (fun b hb hm => hb.2 (hp.mem_iff.2 (List.mem_append_left _ hm))) fun g hg hm => ?_
  exact hnd.2.2 g hm g (DP (EL hZ) (show g ∈ (row v e r l).bl from H4.2 hg)) rfl
end
theorem J6 {a b : Bool} (h : a = b) : some (Value.bool a) = some (Value.bool b) := by rw [h]
theorem Kn : (!true) = false ∧ (!false) = true ∧ (∀ b,(true && b) = b) ∧ (∀ b,(false && b) = false) ∧ (∀ b,(true || b) = true) ∧ (∀ b,(false || b) = b) ∧ (∀ b,(b && true) = b) ∧ (∀ b,(b || false) = b) ∧ (∀ x y : Bool,(bif true then x else y) = x) ∧ (∀ x y : Bool,(bif false then x else y) = y) := by simp
end Go.Proofs.YtpckgggmgijiiaaGreatDoor
