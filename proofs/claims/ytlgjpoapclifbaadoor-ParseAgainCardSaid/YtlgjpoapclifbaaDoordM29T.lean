/- Layer 29: trees. Conditions: none. -/
import Derived.Test.YtlgjpoapclifbaaDoordLP
import Derived.Test.YtlgjpoapclifbaaDoordA13
import Derived.Test.YtlgjpoapclifbaaDoordEV
namespace Go.Proofs.YtlgjpoapclifbaaDoor
set_option linter.unusedVariables false
set_option linter.unusedSimpArgs false
open Go Go.RowKit
theorem OD {t x : Tr25} (h : x ∈ t.un.2.2.2) : SizeOf.sizeOf x < SizeOf.sizeOf t := by
  cases t with
  | mk k f v l =>
    have h' : x ∈ l := h
    have := List.sizeOf_lt_of_mem h'
    simp only [Tr25.mk.sizeOf_spec]; omega
theorem II (t : Tr25) : t.cnt = 1 + (t.un.2.2.2.map Tr25.cnt).sum := by cases t; rw [Tr25.cnt]; rfl
theorem Kv {α : Type} {g : α → Nat} : ∀ {l : List α} {x : α}, x ∈ l → g x ≤ (l.map g).sum
  | y :: l, x, h => by
    rw [List.map_cons, List.sum_cons]
    rcases List.mem_cons.1 h with e | h
    · rw [e]; omega
    · have := Kv (g := g) h; omega
theorem Lt {α : Type} {g : α → Nat} (hg : ∀ x, 1 ≤ g x) : ∀ l : List α, l.length ≤ (l.map g).sum
  | [] => Nat.zero_le _
  | y :: l => by
    have := hg y
    have := Lt hg l
    rw [List.map_cons, List.sum_cons, List.length_cons]; omega
theorem LU {α : Type} {g : α → Nat} (l : List α) (i : Nat) : ((l.take i).map g).sum ≤ (l.map g).sum := by
  have h : (l.map g).sum = ((l.take i).map g).sum + ((l.drop i).map g).sum := by
    rw [← List.sum_append, ← List.map_append, List.take_append_drop]
  omega
theorem Tr {t x : Tr25} (h : x ∈ t.un.2.2.2) : x.cnt ≤ t.cnt := by rw [II t]; have := Kv (g := Tr25.cnt) h; omega
theorem TI (t : Tr25) : t.un.2.2.2.length + 1 ≤ t.cnt := by rw [II t]; have := Lt (g := Tr25.cnt) (fun x => by rw [II x]; omega) t.un.2.2.2; omega
def th : Tr25 → Tr34
  | .mk k f v l => .mk k f v (l.map th)
theorem To (t : Tr25) : th t = Tr34.of (t.un.1, t.un.2.1, t.un.2.2.1, t.un.2.2.2.map th) := by cases t; rw [th]; rfl
theorem SE (t : Tr34) : Tr34.of t.un = t := by cases t; rfl
theorem Ts (t : Tr25) : Tr25.of t.un = t := by cases t; rfl
theorem Pg {α : Type} {l m : List α} (hl : l.length = m.length) : (∃ k, k < l.length ∧ l[k]? ≠ m[k]?) ↔ l ≠ m := by
  constructor
  · rintro ⟨k, _, h⟩ rfl; exact h rfl
  · intro h
    refine Classical.byContradiction fun hn => h (List.ext_getElem? fun k => ?_)
    by_cases hk : k < l.length
    · exact Classical.byContradiction fun h2 => hn ⟨k, hk, h2⟩
    · rw [List.getElem?_eq_none (by omega), List.getElem?_eq_none (by omega)]
theorem Ss (t : Tr34) : Tr34.of (t.un.1, t.un.2.1, t.un.2.2.1, t.un.2.2.2) = t := by cases t; rfl
theorem Gw (t : Tr25) : Tr25.of (t.un.1, t.un.2.1, t.un.2.2.1, t.un.2.2.2) = t := by cases t; rfl
theorem RY (t : Tr37) : Tr37.of (t.un.1, t.un.2.1, t.un.2.2.1, t.un.2.2.2.1, t.un.2.2.2.2) = t := by cases t; rfl
theorem GE (t : Tr28) : Tr28.of (t.un.1, t.un.2.1, t.un.2.2.1, t.un.2.2.2.1, t.un.2.2.2.2) = t := by cases t; rfl
theorem Se {t x : Tr28} (h : x ∈ t.un.2.2.2.2) : SizeOf.sizeOf x < SizeOf.sizeOf t := by
  cases t with
  | mk k p f v l =>
    have h' : x ∈ l := h
    have := List.sizeOf_lt_of_mem h'
    simp only [Tr28.mk.sizeOf_spec]; omega
theorem TW (t : Tr37) : t.cnt = 1 + (t.un.2.1.cnt + (t.un.2.2.2.2.map Tr37.cnt).sum) := by cases t; rw [Tr37.cnt]; rfl
theorem QW (t : Tr28) : t.cnt = 1 + (t.un.2.1.cnt + (t.un.2.2.2.2.map Tr28.cnt).sum) := by cases t; rw [Tr28.cnt]; rfl
theorem cD {t x : Tr37} (h : x ∈ t.un.2.2.2.2) : x.cnt ≤ t.cnt := by rw [TW t]; have := Kv (g := Tr37.cnt) h; omega
theorem cP {t x : Tr28} (h : x ∈ t.un.2.2.2.2) : x.cnt ≤ t.cnt := by rw [QW t]; have := Kv (g := Tr28.cnt) h; omega
theorem qP (t : Tr28) : t.un.2.1.cnt + 1 ≤ t.cnt := by rw [QW t]; omega
theorem lP (t : Tr28) : t.un.2.2.2.2.length + 1 ≤ t.cnt := by rw [QW t]; have := Lt (g := Tr28.cnt) (fun x => by rw [QW x]; omega) t.un.2.2.2.2; omega
def pt : Tr28 → Tr37
  | .mk k p f v l => .mk k (th p) f v (l.map pt)
theorem Te (t : Tr28) : pt t = Tr37.of (t.un.1, th t.un.2.1, t.un.2.2.1, t.un.2.2.2.1, t.un.2.2.2.2.map pt) := by cases t; rw [pt]; rfl
end Go.Proofs.YtlgjpoapclifbaaDoor
