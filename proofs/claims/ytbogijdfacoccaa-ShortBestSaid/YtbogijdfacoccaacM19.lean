/- Layer 19: costs. Conditions: none. -/
import Derived.Test.YtbogijdfacoccaacM19A
import Derived.Test.YtbogijdfacoccaacM19F
namespace Go.Proofs.Ytbogijdfacoccaa
set_option linter.unusedVariables false
set_option linter.unusedSimpArgs false
open Go Go.RowKit
def E (t : Tp) (u v k : Int) : Prop := ∃ p, Hj t u (p, v, k)
theorem Mg {x : Lk} (hne : x.1 ≠ x.2.2.1) {i : Nat} {u p v k : Int} (h : (p, v, k) ∈ Lg u i x) : k = (i : Int) ∧ ((u = x.1 ∧ v = x.2.2.1 ∧ p = x.2.1) ∨ (u = x.2.2.1 ∧ v = x.1 ∧ p = x.2.2.2.1)) := by
  unfold Lg at h
  by_cases c : u = x.1
  · rw [if_pos c, List.mem_singleton] at h
    cases h
    exact ⟨rfl, .inl ⟨c, rfl, rfl⟩⟩
  · rw [if_neg c] at h
    by_cases c2 : u = x.2.2.1
    · rw [if_pos c2, List.mem_singleton] at h
      cases h
      exact ⟨rfl, .inr ⟨c2, rfl, rfl⟩⟩
    · rw [if_neg c2] at h; cases h
theorem E.symm {t : Tp} (hok : Fq t) {u v k : Int} (h : E t u v k) : E t v u k := by
  obtain ⟨p, i, x, h1, h2⟩ := h
  have hne := (hok.2.1 x (List.mem_of_getElem? h1)).1
  obtain ⟨rfl, ⟨a, b, _⟩ | ⟨a, b, _⟩⟩ := Mg hne h2
  · exact ⟨x.2.2.2.1, i, x, h1, by unfold Lg; rw [if_neg (fun e => hne (e.symm.trans b).symm.symm |>.elim), if_pos b, a]; simp⟩
  · exact ⟨x.2.1, i, x, h1, by unfold Lg; rw [if_pos b, a]; simp⟩
theorem E.V {t : Tp} (hok : Fq t) {u v k : Int} (h : E t u v k) : VV t u ∧ VV t v ∧ u ≠ v ∧ 0 ≤ k ∧ k < (t.2.1.length : Int) := by
  obtain ⟨p, i, x, h1, h2⟩ := h
  have hi := (List.getElem?_eq_some_iff.1 h1).1
  obtain ⟨hne, _, _, _, k5, k6⟩ := hok.2.1 x (List.mem_of_getElem? h1)
  have a1 := k5.1
  have a2 := k5.2.1
  have a3 := k6.1
  have a4 := k6.2.1
  simp only at a1 a2 a3 a4
  obtain ⟨rfl, ⟨a, b, _⟩ | ⟨a, b, _⟩⟩ := Mg hne h2
  · subst a b; exact ⟨⟨a1, a2⟩, ⟨a3, a4⟩, hne, by omega, by omega⟩
  · subst a b; exact ⟨⟨a3, a4⟩, ⟨a1, a2⟩, fun e => hne e.symm, by omega, by omega⟩
theorem Ox {a b : Nat} (ha : BH a) (hb : b ≤ DP) : Hg a b ≤ DP := LS ha (C0 hb)
theorem GU {a b c : Nat} (ha : BH a) (hb : b ≤ c) (hc : c ≤ DP) : Hg a b ≤ Hg a c := MD ha (C0 (Nat.le_trans hb hc)) (C0 hc) (by rw [GN (Nat.le_trans hb hc), GN hc]; exact hb)
theorem Ou {a b : Nat} (ha : BH a) (hb : b ≤ DP) : b ≤ Hg a b := by
  have h := Pa (C0 hb) ha
  rw [GN hb, M9 (C0 hb) ha] at h
  exact h
theorem Md {b : Nat} (hb : b ≤ DP) : Hg DP b = DP := by
  show A4 DP b = DP
  rw [Eh (C0 (Nat.le_refl _)) (C0 hb), if_pos (.inl rfl)]
theorem PX {a : Nat} (ha : BH a) : Ow a = true ↔ rn a ≠ DP := by
  obtain ⟨h1, h2⟩ := Ez ha
  have h3 := Po ha
  unfold Ow
  rw [decide_eq_true_eq, h1]
  constructor
  · rintro ⟨_, h⟩ e; rw [e] at h; exact absurd h (by decide)
  · intro h; exact ⟨h2, by have : rn a ≠ 9218868437227405312 := h; omega⟩
theorem Me {a : Nat} (ha : BH a) (h : ¬ Ow a = true) : a = DP := by
  have h1 : rn a = DP := Classical.byContradiction fun hn => h ((PX ha).2 hn)
  unfold rn at h1
  split at h1
  · cases h1
  · exact h1
theorem Ks {c : List Nat} {v : Int} {y : Nat} : (AA c v y).length = c.length := by unfold AA; simp
theorem N0 {c : List Nat} {v u : Int} {y : Nat} (h0 : 0 ≤ v) (h1 : v < (c.length : Int)) (h2 : 0 ≤ u) : wg (AA c v y) u = if u = v then y else wg c u := by
  unfold wg AA
  rw [List.getD_eq_getElem?_getD, List.getElem?_set]
  by_cases e : u = v
  · subst e
    rw [if_pos rfl, if_pos rfl, if_pos (by omega)]; rfl
  · rw [if_neg (by omega), if_neg e, List.getD_eq_getElem?_getD]
theorem PO {n : Nat} {x : Nat} {v : Int} (h0 : 0 ≤ v) (h1 : v < n) : wg (List.replicate n x) v = x := by
  unfold wg
  rw [List.getD_eq_getElem?_getD, List.getElem?_replicate, if_pos (by omega)]; rfl
abbrev Li (t : Tp) (L : List Nat) : Prop := Pm L ∧ (L.length : Int) = (t.2.1.length : Int)
theorem Li.cost {t : Tp} {L : List Nat} (hw : Li t L) (hok : Fq t) {u v k : Int} (h : E t u v k) : In L k ∧ BH (wg L k) := by
  have := (h.V hok).2.2.2
  have hi : In L k := ⟨this.1, by rw [hw.2]; exact this.2⟩
  exact ⟨hi, O2 hw.1 hi⟩
structure Sol (t : Tp) (L : List Nat) (s : Int) (c : List Nat) : Prop where
  len : (c.length : Int) = t.1
  src : wg c s = 0
  bd : ∀ v, VV t v → wg c v ≤ DP
  edge : ∀ u v k, E t u v k → wg c u ≤ Hg (wg L k) (wg c v)
structure Best (t : Tp) (L : List Nat) (s : Int) (r : Int → Nat) (c : List Nat) : Prop extends Sol t L s c where
  rk : ∀ v, VV t v → (r v : Int) < t.1
  att : ∀ u, VV t u → wg c u = DP ∨ u = s ∨ ∃ v k, E t u v k ∧ wg c u = Hg (wg L k) (wg c v) ∧ r v < r u
section
variable {t : Tp} {L : List Nat} {s : Int}
theorem Sol.le (hok : Fq t) (hw : Li t L) {c d : List Nat} {r : Int → Nat} (H : Sol t L s c) (G : Best t L s r d) : ∀ (n : Nat) (u : Int), r u = n → VV t u → wg c u ≤ wg d u := by
  intro n
  induction n using Nat.strongRecOn with
  | ind n ih =>
    intro u hn hu
    rcases G.att u hu with h | h | ⟨v, k, he, h, hr⟩
    · rw [h]; exact H.bd u hu
    · subst h; rw [H.src]; exact Nat.zero_le _
    · have hV := (he.V hok).2.1
      rw [h]
      exact Nat.le_trans (H.edge u v k he) (GU (hw.cost hok he).2 (ih (r v) (by omega) v rfl hV) (G.bd v hV))
structure Rnd (t : Tp) (L : List Nat) (c c' : List Nat) : Prop where
  len : c'.length = c.length
  le : ∀ v, VV t v → wg c' v ≤ wg c v
  edge : ∀ u v k, E t u v k → wg c' u ≤ Hg (wg L k) (wg c v)
  one : ∀ u, VV t u → wg c' u = wg c u ∨ ∃ v k, E t u v k ∧ wg c' u = Hg (wg L k) (wg c v)
theorem Rnd.keeps (hok : Fq t) (hw : Li t L) {D c c' : List Nat} {r : Int → Nat} (H : Best t L s r D) (R : Rnd t L c c') {n : Nat}
    (h : ∀ u, VV t u → wg D u ≤ wg c u ∧ wg c u ≤ DP ∧ (r u < n ∨ u = s → wg c u ≤ wg D u)) : ∀ u, VV t u → wg D u ≤ wg c' u ∧ wg c' u ≤ DP ∧ (r u < n + 1 ∨ u = s → wg c' u ≤ wg D u) := by
  intro u hu
  obtain ⟨h1, h2, h3⟩ := h u hu
  refine ⟨?_, Nat.le_trans (R.le u hu) h2, fun hr => ?_⟩
  · rcases R.one u hu with e | ⟨v, k, he, e⟩
    · rw [e]; exact h1
    · have hV := (he.V hok).2.1
      rw [e]
      exact Nat.le_trans (H.edge u v k he) (GU (hw.cost hok he).2 (h v hV).1 (h v hV).2.1)
  · rcases H.att u hu with e | e | ⟨v, k, he, e, hlt⟩
    · rw [e]; exact Nat.le_trans (R.le u hu) h2
    · exact Nat.le_trans (R.le u hu) (h3 (.inr e))
    · have hV := (he.V hok).2.1
      rcases hr with hr | hr
      · rw [e]
        exact Nat.le_trans (R.edge u v k he) (GU (hw.cost hok he).2 ((h v hV).2.2 (.inl (by omega))) (H.bd v hV))
      · exact Nat.le_trans (R.le u hu) (h3 (.inr hr))
theorem Qc {c : List Nat} : (nz c).length = c.length := List.length_map _
end
end Go.Proofs.Ytbogijdfacoccaa
