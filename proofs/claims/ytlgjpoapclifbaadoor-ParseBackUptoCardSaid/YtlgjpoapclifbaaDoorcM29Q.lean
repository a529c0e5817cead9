/- Layer 29: whole texts. Conditions: none. -/
import Derived.Test.YtlgjpoapclifbaaDoorcM29P
namespace Go.Proofs.YtlgjpoapclifbaaDoor
set_option linter.unusedVariables false
set_option linter.unusedSimpArgs false
open Go Go.RowKit
theorem Tg : ∀ w ∈ W6, 0 < Cf Kq w ∧ 0 < w.length ∧ w.length ≤ 5000 := by decide +kernel
theorem Rj {t : Hj} (h : Good t) (h3 : t.1 = 3) : ∀ w ∈ W6, t.2.2.1 ≠ w := fun w hw e => by
  have h1 := h.fst
  have h2 : tx t = w := by unfold tx; rw [if_neg (by omega)]; exact e
  obtain ⟨g1, g2, g3⟩ := Tg w hw
  rw [h2, E2 g2 g3, if_pos g1] at h1
  have h4 := congrArg (fun q : Hj × Int => q.1.1) (Option.some.inj h1)
  simp only at h4
  omega
theorem Ub {s : List UInt8} (hs : s.length ≤ 4000) {a : Nat} {ts : List Hj} (h : Run s a ts) (hl : ts.length ≤ 500) : Tks (ts ++ [Lv s]) where
  len := by simp; omega
  nxt := fun i hi hk => by
    rw [List.length_append, List.length_singleton] at hi ⊢
    by_cases c : i < ts.length
    · omega
    · exfalso
      obtain rfl : i = ts.length := by omega
      rw [List.getElem_append_right (by omega)] at hk
      simp at hk
  sgn := fun i hi hk => by
    rw [List.length_append, List.length_singleton] at hi
    by_cases c : i < ts.length
    · rw [List.getElem_append_left c] at hk ⊢
      exact Rj ((SK hs h).1 _ (List.getElem_mem c)) hk
    · exfalso
      obtain rfl : i = ts.length := by omega
      rw [List.getElem_append_right (by omega)] at hk
      simp at hk
theorem Tq {l : List Hj} {i : Nat} (h : i < l.length) (c : l[i].1 = 4) : Cb (l, (i : Int)) = some (.inl ()) := by
  unfold Cb
  rw [L9 h, Option.bind_some, if_neg (fun q => q c)]
end Go.Proofs.YtlgjpoapclifbaaDoor
