/- Layer 19: costs. Conditions: none. -/
import Derived.Test.YtbogijdfacoccaadM19A
import Derived.Test.YtbogijdfacoccaadM19F
namespace Go.Proofs.Ytbogijdfacoccaa
set_option linter.unusedVariables false
set_option linter.unusedSimpArgs false
open Go Go.RowKit
def E (t : Tp) (u v k : Int) : Prop := ∃ p, GS t u (p, v, k)
theorem LS {x : Lk} (hne : x.1 ≠ x.2.2.1) {i : Nat} {u p v k : Int} (h : (p, v, k) ∈ K9 u i x) : k = (i : Int) ∧ ((u = x.1 ∧ v = x.2.2.1 ∧ p = x.2.1) ∨ (u = x.2.2.1 ∧ v = x.1 ∧ p = x.2.2.2.1)) := by
  unfold K9 at h
  by_cases c : u = x.1
  · rw [if_pos c, List.mem_singleton] at h
    cases h
    exact ⟨rfl, .inl ⟨c, rfl, rfl⟩⟩
  · rw [if_neg c] at h
    by_cases c2 : u = x.2.2.1
    · rw [if_pos c2, List.mem_singleton] at h
      cases h
      exact ⟨rfl, .inr ⟨c2, rfl, rfl⟩⟩
    · rw [if_neg c2] at h; cases h
theorem E.symm {t : Tp} (hok : Fh t) {u v k : Int} (h : E t u v k) : E t v u k := by
  obtain ⟨p, i, x, h1, h2⟩ := h
  have hne := (hok.2.1 x (List.mem_of_getElem? h1)).1
  obtain ⟨rfl, ⟨a, b, _⟩ | ⟨a, b, _⟩⟩ := LS hne h2
  · exact ⟨x.2.2.2.1, i, x, h1, by unfold K9; rw [if_neg (fun e => hne (e.symm.trans b).symm.symm |>.elim), if_pos b, a]; simp⟩
  · exact ⟨x.2.1, i, x, h1, by unfold K9; rw [if_pos b, a]; simp⟩
theorem E.V {t : Tp} (hok : Fh t) {u v k : Int} (h : E t u v k) : VV t u ∧ VV t v ∧ u ≠ v ∧ 0 ≤ k ∧ k < (t.2.1.length : Int) := by
  obtain ⟨p, i, x, h1, h2⟩ := h
  have hi := (List.getElem?_eq_some_iff.1 h1).1
  obtain ⟨hne, _, _, _, k5, k6⟩ := hok.2.1 x (List.mem_of_getElem? h1)
  have a1 := k5.1
  have a2 := k5.2.1
  have a3 := k6.1
  have a4 := k6.2.1
  simp only at a1 a2 a3 a4
  obtain ⟨rfl, ⟨a, b, _⟩ | ⟨a, b, _⟩⟩ := LS hne h2
  · subst a b; exact ⟨⟨a1, a2⟩, ⟨a3, a4⟩, hne, by omega, by omega⟩
  · subst a b; exact ⟨⟨a3, a4⟩, ⟨a1, a2⟩, fun e => hne e.symm, by omega, by omega⟩
theorem NI {a b : Nat} (ha : BC a) (hb : b ≤ D4) : Hn a b ≤ D4 := LI ha (Dc hb)
theorem GI {a b c : Nat} (ha : BC a) (hb : b ≤ c) (hc : c ≤ D4) : Hn a b ≤ Hn a c := Jv ha (Dc (Nat.le_trans hb hc)) (Dc hc) (by rw [Ir (Nat.le_trans hb hc), Ir hc]; exact hb)
theorem Np {a b : Nat} (ha : BC a) (hb : b ≤ D4) : b ≤ Hn a b := by
  have h := N9 (Dc hb) ha
  rw [Ir hb, Hv (Dc hb) ha] at h
  exact h
theorem L8 {b : Nat} (hb : b ≤ D4) : Hn D4 b = D4 := by
  show A5 D4 b = D4
  rw [Eg (Dc (Nat.le_refl _)) (Dc hb), if_pos (.inl rfl)]
theorem O0 {a : Nat} (ha : BC a) : NV a = true ↔ rn a ≠ D4 := by
  obtain ⟨h1, h2⟩ := Ez ha
  have h3 := OC ha
  unfold NV
  rw [decide_eq_true_eq, h1]
  constructor
  · rintro ⟨_, h⟩ e; rw [e] at h; exact absurd h (by decide)
  · intro h; exact ⟨h2, by have : rn a ≠ 9218868437227405312 := h; omega⟩
theorem LT {a : Nat} (ha : BC a) (h : ¬ NV a = true) : a = D4 := by
  have h1 : rn a = D4 := Classical.byContradiction fun hn => h ((O0 ha).2 hn)
  unfold rn at h1
  split at h1
  · cases h1
  · exact h1
theorem EZ {c : List Nat} {v : Int} {y : Nat} : (Au c v y).length = c.length := by unfold Au; simp
theorem Kl {c : List Nat} {v u : Int} {y : Nat} (h0 : 0 ≤ v) (h1 : v < (c.length : Int)) (h2 : 0 ≤ u) : wg (Au c v y) u = if u = v then y else wg c u := by
  unfold wg Au
  rw [List.getD_eq_getElem?_getD, List.getElem?_set]
  by_cases e : u = v
  · subst e
    rw [if_pos rfl, if_pos rfl, if_pos (by omega)]; rfl
  · rw [if_neg (by omega), if_neg e, List.getD_eq_getElem?_getD]
theorem OY {n : Nat} {x : Nat} {v : Int} (h0 : 0 ≤ v) (h1 : v < n) : wg (List.replicate n x) v = x := by
  unfold wg
  rw [List.getD_eq_getElem?_getD, List.getElem?_replicate, if_pos (by omega)]; rfl
abbrev Kz (t : Tp) (L : List Nat) : Prop := OI L ∧ (L.length : Int) = (t.2.1.length : Int)
theorem Kz.cost {t : Tp} {L : List Nat} (hw : Kz t L) (hok : Fh t) {u v k : Int} (h : E t u v k) : In L k ∧ BC (wg L k) := by
  have := (h.V hok).2.2.2
  have hi : In L k := ⟨this.1, by rw [hw.2]; exact this.2⟩
  exact ⟨hi, JY hw.1 hi⟩
structure Sol (t : Tp) (L : List Nat) (s : Int) (c : List Nat) : Prop where
  len : (c.length : Int) = t.1
  src : wg c s = 0
  bd : ∀ v, VV t v → wg c v ≤ D4
  edge : ∀ u v k, E t u v k → wg c u ≤ Hn (wg L k) (wg c v)
structure Best (t : Tp) (L : List Nat) (s : Int) (r : Int → Nat) (c : List Nat) : Prop extends Sol t L s c where
  rk : ∀ v, VV t v → (r v : Int) < t.1
  att : ∀ u, VV t u → wg c u = D4 ∨ u = s ∨ ∃ v k, E t u v k ∧ wg c u = Hn (wg L k) (wg c v) ∧ r v < r u
section
variable {t : Tp} {L : List Nat} {s : Int}
theorem Sol.le (hok : Fh t) (hw : Kz t L) {c d : List Nat} {r : Int → Nat} (H : Sol t L s c) (G : Best t L s r d) : ∀ (n : Nat) (u : Int), r u = n → VV t u → wg c u ≤ wg d u := by
  intro n
  induction n using Nat.strongRecOn with
  | ind n ih =>
    intro u hn hu
    rcases G.att u hu with h | h | ⟨v, k, he, h, hr⟩
    · rw [h]; exact H.bd u hu
    · subst h; rw [H.src]; exact Nat.zero_le _
    · have hV := (he.V hok).2.1
      rw [h]
      exact Nat.le_trans (H.edge u v k he) (GI (hw.cost hok he).2 (ih (r v) (by omega) v rfl hV) (G.bd v hV))
structure Rnd (t : Tp) (L : List Nat) (c c' : List Nat) : Prop where
  len : c'.length = c.length
  le : ∀ v, VV t v → wg c' v ≤ wg c v
  edge : ∀ u v k, E t u v k → wg c' u ≤ Hn (wg L k) (wg c v)
  one : ∀ u, VV t u → wg c' u = wg c u ∨ ∃ v k, E t u v k ∧ wg c' u = Hn (wg L k) (wg c v)
theorem Rnd.keeps (hok : Fh t) (hw : Kz t L) {D c c' : List Nat} {r : Int → Nat} (H : Best t L s r D) (R : Rnd t L c c') {n : Nat}
    (h : ∀ u, VV t u → wg D u ≤ wg c u ∧ wg c u ≤ D4 ∧ (r u < n ∨ u = s → wg c u ≤ wg D u)) : ∀ u, VV t u → wg D u ≤ wg c' u ∧ wg c' u ≤ D4 ∧ (r u < n + 1 ∨ u = s → wg c' u ≤ wg D u) := by
  intro u hu
  obtain ⟨h1, h2, h3⟩ := h u hu
  refine ⟨?_, Nat.le_trans (R.le u hu) h2, fun hr => ?_⟩
  · rcases R.one u hu with e | ⟨v, k, he, e⟩
    · rw [e]; exact h1
    · have hV := (he.V hok).2.1
      rw [e]
      exact Nat.le_trans (H.edge u v k he) (GI (hw.cost hok he).2 (h v hV).1 (h v hV).2.1)
  · rcases H.att u hu with e | e | ⟨v, k, he, e, hlt⟩
    · rw [e]; exact Nat.le_trans (R.le u hu) h2
    · exact Nat.le_trans (R.le u hu) (h3 (.inr e))
    · have hV := (he.V hok).2.1
      rcases hr with hr | hr
      · rw [e]
        exact Nat.le_trans (R.edge u v k he) (GI (hw.cost hok he).2 ((h v hV).2.2 (.inl (by omega))) (H.bd v hV))
      · exact Nat.le_trans (R.le u hu) (h3 (.inr hr))
theorem HM {c : List Nat} : (nz c).length = c.length := List.length_map _
end
end Go.Proofs.Ytbogijdfacoccaa
