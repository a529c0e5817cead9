/- Layer 29: whole texts. Conditions: none. -/
import Derived.Test.YtlgjpoapclifbaaDoordM29P
namespace Go.Proofs.YtlgjpoapclifbaaDoor
set_option linter.unusedVariables false
set_option linter.unusedSimpArgs false
open Go Go.RowKit
theorem RG : ∀ w ∈ W6, 0 < Cc Jt w ∧ 0 < w.length ∧ w.length ≤ 5000 := by decide +kernel
theorem P2 {t : C2} (h : Good t) (h3 : t.1 = 3) : ∀ w ∈ W6, t.2.2.1 ≠ w := fun w hw e => by
  have h1 := h.fst
  have h2 : tx t = w := by unfold tx; rw [if_neg (by omega)]; exact e
  obtain ⟨g1, g2, g3⟩ := RG w hw
  rw [h2, DQ g2 g3, if_pos g1] at h1
  have h4 := congrArg (fun q : C2 × Int => q.1.1) (Option.some.inj h1)
  simp only at h4
  omega
theorem Nj {s : List UInt8} (hs : s.length ≤ 4000) {a : Nat} {ts : List C2} (h : Run s a ts) (hl : ts.length ≤ 500) : Tks (ts ++ [Fh s]) where
  len := by simp; omega
  nxt := fun i hi hk => by
    rw [List.length_append, List.length_singleton] at hi ⊢
    by_cases c : i < ts.length
    · omega
    · exfalso
      obtain rfl : i = ts.length := by omega
      rw [List.getElem_append_right (by omega)] at hk
      simp at hk
  sgn := fun i hi hk => by
    rw [List.length_append, List.length_singleton] at hi
    by_cases c : i < ts.length
    · rw [List.getElem_append_left c] at hk ⊢
      exact P2 ((NT hs h).1 _ (List.getElem_mem c)) hk
    · exfalso
      obtain rfl : i = ts.length := by omega
      rw [List.getElem_append_right (by omega)] at hk
      simp at hk
theorem Q1 {l : List C2} {i : Nat} (h : i < l.length) (c : l[i].1 = 4) : BS (l, (i : Int)) = some (.inl ()) := by
  unfold BS
  rw [GX h, Option.bind_some, if_neg (fun q => q c)]
theorem TE {l : List C2} {i : Nat} (h : i < l.length) (c : l[i].1 ≠ 4) : BS (l, (i : Int)) = some (.inr (l[i].2.2.2, 10)) := by
  unfold BS
  rw [GX h, Option.bind_some, if_pos c, JY h]; rfl
abbrev Mn : Tr28 := Tr28.of (0, Tr25.of (0, 0, 0, []), 0, 0, [])
theorem LK : Mn.cnt ≤ 100000 := by rw [Mn, Hj, Um]; simp
end Go.Proofs.YtlgjpoapclifbaaDoor
