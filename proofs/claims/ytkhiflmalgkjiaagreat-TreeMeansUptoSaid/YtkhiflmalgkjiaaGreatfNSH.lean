/- Layer 31: numbers in order, each once. Conditions: none. -/
import Derived.Test.YtkhiflmalgkjiaaGreatfLP
import Derived.Test.YtkhiflmalgkjiaaGreatfA2
set_option linter.unusedVariables false
set_option linter.unusedSimpArgs false
open Go Go.RowKit
namespace Go.Proofs.YtkhiflmalgkjiaaGreat
theorem YY {L : List Int} (hL : L.length ≤ 1000000000) : ∃ L',Cm L = some L' ∧ L'.Perm L ∧ L'.Pairwise (· ≤ ·) := ⟨WC L,by unfold Cm Wp; rw [if_pos hL],Nk L,VN L⟩
theorem eC {L : List Int} (hs : L.Pairwise (· ≤ ·)) : ∀ m,m ≤ L.length → (Lib.compactUpTo L.toArray m).Pairwise (· < ·) ∧ ∀ x,x ∈ Lib.compactUpTo L.toArray m ↔ x ∈ L.take m
  | 0,_ => by simp [Lib.compactUpTo]
  | m + 1,h => by
    obtain ⟨h1,h2⟩ := eC hs m (by omega)
    have hm : m < L.length := by omega
    have e1 : L.toArray[m]! = L[m] := by simp [hm]
    rw [Lib.compactUpTo_succ,List.take_succ_eq_append_getElem hm,e1]
    have le : ∀ x ∈ L.take m,0 < m ∧ ∀ h' : m - 1 < L.length,x ≤ L[m - 1] := fun x hx => by
      obtain ⟨i,hi,rfl⟩ := List.mem_iff_getElem.1 hx
      rw [List.length_take] at hi
      refine ⟨by omega,fun h' => ?_⟩
      rw [List.getElem_take]
      rcases Nat.lt_or_ge i (m - 1) with c | c
      · exact List.pairwise_iff_getElem.1 hs i (m - 1) (by omega) h' c
      · have : i = m - 1 := by omega
        subst this; exact Int.le_refl _
    cases hk : Lib.keeps L.toArray m with
    | true =>
      rw [if_pos rfl]
      have hk' : m = 0 ∨ L.toArray[m]! ≠ L.toArray[m - 1]! := by simpa [Lib.keeps] using hk
      have lt : ∀ x ∈ L.take m,x < L[m] := fun x hx => by
        obtain ⟨g1,g2⟩ := le x hx
        have e2 : L.toArray[m - 1]! = L[m - 1]'(by omega) := by simp [show m - 1 < L.length by omega]
        have g3 := List.pairwise_iff_getElem.1 hs (m - 1) m (by omega) hm (by omega)
        have g4 := g2 (by omega)
        rcases hk' with c | c
        · omega
        · rw [e1,e2] at c; omega
      refine ⟨List.pairwise_append.2 ⟨h1,List.pairwise_singleton _ _,fun a ha b hb => ?_⟩,fun x => by rw [List.mem_append,List.mem_append,h2]⟩
      rw [List.mem_singleton.1 hb]
      exact lt a ((h2 a).1 ha)
    | false =>
      rw [if_neg (by decide),List.append_nil]
      have hk' : ¬ (m = 0 ∨ L.toArray[m]! ≠ L.toArray[m - 1]!) := by simpa [Lib.keeps] using hk
      have h0 : 0 < m := by omega
      have e2 : L.toArray[m - 1]! = L[m - 1]'(by omega) := by simp [show m - 1 < L.length by omega]
      have e3 : L[m] = L[m - 1]'(by omega) := by rw [← e1, ← e2]; exact Classical.byContradiction fun c => hk' (.inr c)
      refine ⟨h1,fun x => ?_⟩
      rw [h2,List.mem_append,List.mem_singleton]
      refine ⟨.inl,fun hx => hx.elim id fun hx => ?_⟩
      rw [hx,e3]
      exact List.mem_iff_getElem.2 ⟨m - 1,by rw [List.length_take]; omega,by rw [List.getElem_take]⟩
theorem RG {L : List Int} (hl : L.length ≤ 1000000) (hs : L.Pairwise (· ≤ ·)) : ∃ R,BZ L = some R ∧ R.Pairwise (· < ·) ∧ ∀ x,x ∈ R ↔ x ∈ L := by
  obtain ⟨h1,h2⟩ := eC hs L.length (Nat.le_refl _)
  rw [List.take_length] at h2
  exact ⟨Lib.compact L,by unfold BZ MX; rw [if_pos (by omega)],h1,h2⟩
theorem Xd : ∀ {A B : List Int},A.Pairwise (· < ·) → B.Pairwise (· < ·) → (∀ x,x ∈ A ↔ x ∈ B) → A = B
  | [],[],_,_,_ => rfl
  | [],b :: B,_,_,h => by have := (h b).2 (List.mem_cons_self ..); cases this
  | a :: A,[],_,_,h => by have := (h a).1 (List.mem_cons_self ..); cases this
  | a :: A,b :: B,ha,hb,h => by
    rw [List.pairwise_cons] at ha hb
    have hab : a = b := by
      have h1 := (h a).1 (List.mem_cons_self ..)
      have h2 := (h b).2 (List.mem_cons_self ..)
      rcases List.mem_cons.1 h1 with e | e
      · exact e
      · rcases List.mem_cons.1 h2 with e2 | e2
        · exact e2.symm
        · have := ha.1 b e2
          have := hb.1 a e
          omega
    subst hab
    rw [Xd ha.2 hb.2 fun x => ?_]
    constructor
    · intro hx
      rcases List.mem_cons.1 ((h x).1 (zd _ hx)) with e | e
      · have := ha.1 x hx; omega
      · exact e
    · intro hx
      rcases List.mem_cons.1 ((h x).2 (zd _ hx)) with e | e
      · have := hb.1 x hx; omega
      · exact e
end Go.Proofs.YtkhiflmalgkjiaaGreat
