/- Long lists: what appends may come to is bounded by bytes, not by a number of elements. Conditions: none. -/
import Derived.Test.YtdllfdmdfdfilaaDoorOC
namespace Go.Proofs.YtdllfdmdfdfilaaDoor
set_option linter.unusedVariables false
set_option linter.unusedSimpArgs false
set_option linter.unusedSectionVars false
open Go Go.RowKit
def appL (by_ : Nat) {α : Type} (l m : List α) : Option (List α) := if (l.length + m.length) * by_ ≤ 140737488355328 then some (l ++ m) else none
theorem appL_some {by_ : Nat} {α : Type} {l m k : List α} (h : appL by_ l m = some k) : (l.length + m.length) * by_ ≤ 140737488355328 ∧ k = l ++ m := by
  unfold appL at h
  split at h
  · rename_i h1; exact ⟨h1, (Option.some.inj h).symm⟩
  · cases h
section
variable {α : Type} {r : Rp α} {l l2 l3 : List α} {v u : Value} {t e by_ : Nat}
variable {P : Program} {B : Bs} {M M' : Blks} {Z Z' Z1 : List It} {n : Nat} {ds : List Deferred} {F F' : List (Nat × Value)} {a : Act} {w w' : World}
variable {ops : Array Oper} {Q : Exit → Act → World → Prop} {rest : List Oper} {o : Oper}
variable {dst : Option Tmp} {ty : TypeId} {pos : String} {aft : Array Edge} {g : Option (Nat × Bool)}
theorem l_appendL {s q : Operand} {d i : Nat} (hF : Fr n ds F a) (hW : Stw B M Z w) (hn : Nat.blt d n = true) (E : Et P t e r.sz by_) (hs : opv F s = some v) (hx : opv F q = some u)
    (hZ : Z[i]? = some (row v e r l)) (hZ1 : Z.eraseIdx i = Z1) (hsrc : Src w (Fz B (blks M Z)) r u l2) (hap : appL by_ l l2 = some l3) (hby : Nat.ble 1 by_ = true)
    (k : ∀ v' a' w', Fr n ds ((d, v') :: F) a' → Stw B M (row v' e r l3 :: Z1) w' → wpList P ops Q rest a' w') :
    wpList P ops Q (⟨some d, .call ⟨.builtin .append, #[s, q], #[t, t]⟩, ty, pos, aft, none⟩ :: rest) a w := by
  obtain ⟨hmax, rfl⟩ := appL_some hap
  have hW1 := hW.permZ (perm_get hZ hZ1)
  have hbl : ∀ b, Fz B (blks M Z) b → Fz B (blks M (row v e r l :: Z1)) b := fun b hb => hb.mono fun g hg => (List.Perm.append_left _ ((perm_get hZ hZ1).flatMap_right _)).mem_iff.2 hg
  have hsrc1 : Src w (Fz B (blks M (row v e r l :: Z1))) r u l2 := by
    rcases hsrc with h | ⟨b, o2, c2, news, h1, h2, h3, h4⟩
    · exact .inl h
    · exact .inr ⟨b, o2, c2, news, h1, h2, h3, h4.stab fun b hb _ => ⟨hbl b hb, rfl⟩⟩
  have h1 : l.length + l2.length ≤ 140737488355328 := Nat.le_trans (Nat.le_mul_of_pos_right _ (Nat.le_of_ble_eq_true hby)) hmax
  obtain ⟨v', w', hr, hgr, hblk, hown⟩ := run_append_own3 (P := P) (w := w) (ty := ty) E (hW1.items _ (List.mem_cons_self ..) : Own w _ e r v l) hsrc1 h1 hmax
  refine ls_wp hF hn (v := v') (w' := w') ?_ (fun a' h => k v' a' w' h ?_)
  · simp [execOp, resolve_builtin, invoke, builtin, hF.eval hs, hF.eval hx, hr]
  · exact hW1.rowTurn hgr (fun A _ hk => hown A hk) hblk
end
end Go.Proofs.YtdllfdmdfdfilaaDoor
