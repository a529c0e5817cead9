/- Arguments that are arrays; rows that know the shape of memory. Conditions: none. -/
import Derived.Test.YtbiekjhlijdjbaaGreatbOT
import Derived.Handed
import Derived.Shelf.Vars
import Derived.Lib.LaidTab
set_option linter.unusedVariables false
set_option linter.unusedSimpArgs false
open Go Go.RowKit
namespace Go.Proofs.YtbiekjhlijdjbaaGreat
section
variable {P : Program} {t e : TypeId}
def HQ {α : Type} (P : Program) (e : TypeId) (i n : Nat) (r : Rp α) (ok : α → Prop) : Prop :=
  ∀ (H : Type) (enc : TypeId × Value → H) (W : World) (base : Nat) (sp : Nat → Bool) (m : Nat) (cs : List Value),(∀ j,i ≤ j → j < n → ∃ y,DataW.trod enc P W base sp true m e ((cs.drop (j * P.cellsOf e)).take (P.cellsOf e)) = some y) →
    cs.length = n * P.cellsOf e → ∃ a,r.rep W any (cs.drop (i * P.cellsOf e)) a ∧ ok a
theorem HQ.one {α : Type} {r : Rp α} {ok : α → Prop} {i : Nat} (hc : P.cellsOf e = r.sz) (h : Bk P e r ok) : HQ P e i (i + 1) r ok := by
  intro H enc W base sp m cs hx hl
  obtain ⟨y,hy⟩ := hx i (Nat.le_refl _) (Nat.lt_succ_self _)
  rw [List.take_of_length_le (by rw [List.length_drop,hl,Nat.succ_mul]; omega)] at hy
  exact h H enc W base sp m _ y hy
theorem HQ.cons {α β : Type} {r : Rp α} {s : Rp β} {ok : α → Prop} {ok' : β → Prop} {i n : Nat} (hc : P.cellsOf e = r.sz) (hi : i < n) (h : Bk P e r ok) (h' : HQ P e (i + 1) n s ok') : HQ P e i n (r.pair s) (Gs ok ok') := by
  intro H enc W base sp m cs hx hl
  obtain ⟨y,hy⟩ := hx i (Nat.le_refl _) hi
  obtain ⟨a,ha,hoa⟩ := h H enc W base sp m _ y hy
  obtain ⟨b,hb,hob⟩ := h' H enc W base sp m cs (fun j h1 h2 => hx j (by omega) h2) hl
  refine ⟨(a,b),⟨_,_, ?_,ha,hb⟩,hoa,hob⟩
  rw [Nat.succ_mul, ← List.drop_drop,List.take_append_drop]
theorem Bk.array {α : Type} {r : Rp α} {ok : α → Prop} {n : Nat} (hu : P.underlying t = some (.array n e)) (hc : P.cellsOf t = n * P.cellsOf e) (h : HQ P e 0 n r ok) : Bk P t r ok := by
  intro H enc W base sp fuel cs x hx
  obtain ⟨xs,m,rfl,_,hlen,hn,hel⟩ := DataW.trod_array hu hx
  obtain ⟨a,h1,h2⟩ := h H enc W base sp m cs (fun j _ hj => ⟨xs[j]'(by omega),by rw [hel j hj,zb (by omega)]⟩) (by rw [hlen,hc])
  exact ⟨a,by simpa using h1,h2⟩
end
section
variable {H : Type} {enc : TypeId × Value → H}
end
section
variable {P : Program} {W : World} {t e : TypeId} {g : Nat}
end
end Go.Proofs.YtbiekjhlijdjbaaGreat
