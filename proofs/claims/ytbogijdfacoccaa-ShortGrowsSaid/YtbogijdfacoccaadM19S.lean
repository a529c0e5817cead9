/- Layer 19: steps, trees, routes. Conditions: none. -/
import Derived.Test.YtbogijdfacoccaadM19B
namespace Go.Proofs.Ytbogijdfacoccaa
set_option linter.unusedVariables false
set_option linter.unusedSimpArgs false
open Go Go.RowKit
abbrev P0 (L c : List Nat) (u v k : Int) : Prop := NV (wg L k) = true ∧ wg c u ≠ D4 ∧ Hn (wg L k) (wg c v) = wg c u
def Td (t : Tp) (L c : List Nat) (v u : Int) : Prop := ∃ k, E t u v k ∧ P0 L c u v k
theorem Td.V {t : Tp} (hok : Fh t) {L c : List Nat} {u v : Int} (h : Td t L c u v) : VV t u ∧ VV t v := by
  obtain ⟨k, he, _⟩ := h
  exact ⟨(he.V hok).2.1, (he.V hok).1⟩
theorem Nz {a b : Nat} (ha : a ≤ D4) (hb : b ≤ D4) : Kn a b = decide (a < b) := by
  obtain ⟨k1, n1⟩ := Ez (Dc ha)
  obtain ⟨k2, n2⟩ := Ez (Dc hb)
  rw [Ii, k1, k2, Ir ha, Ir hb]
  exact decide_eq_decide.2 ⟨fun h => by have := h.2.2; omega, fun h => ⟨n1, n2, by omega⟩⟩
section
variable {t : Tp} {L c : List Nat} {s : Int}
structure J19 (t : Tp) (A : Int → Int → Prop) (s k : Int) (Dn : Int → Int → Prop) (h : List Int) : Prop extends Bs17 t A s h where
  top : ∀ v, VV t v → hv h v ≤ k + 1
  nn : 0 ≤ k
  up : ∀ u v, A u v → 0 ≤ hv h u → hv h u < k → 0 ≤ hv h v ∧ hv h v ≤ hv h u + 1
  dd : ∀ u v, Dn u v → A u v → hv h u = k → 0 ≤ hv h v
theorem J19.put {A : Int → Int → Prop} (hok : Fh t) (hA : ∀ {u v : Int}, A u v → VV t u ∧ VV t v) {k : Int} {Dn : Int → Int → Prop} {h : List Int} (H : J19 t A s k Dn h) {u v : Int} (ha : A u v) (hu : hv h u = k) (hv0 : hv h v < 0) : J19 t A s k Dn (Au h v (k + 1)) ∧ 0 ≤ hv (Au h v (k + 1)) v := by
  obtain ⟨Vu, Vv⟩ := hA ha
  have hl := H.len
  have hnn := H.nn
  have g : ∀ w, VV t w → hv (Au h v (k + 1)) w = if w = v then k + 1 else hv h w := fun w hw => Ka Vv.1 (by omega) hw.1
  have hB : Bs17 t A s (Au h v (k + 1)) := by
    have := H.toBs17.set hok hA ha (by omega) hv0
    rwa [hu] at this
  refine ⟨{ toBs17 := hB, top := fun w hw => ?_, nn := hnn, up := fun a b hab h0 hlt => ?_, dd := fun a b hD hab he => ?_ }, by rw [g v Vv, if_pos rfl]; omega⟩
  · rw [g w hw]
    have := H.top w hw
    split <;> omega
  · obtain ⟨Va, Vb⟩ := hA hab
    rw [g a Va] at h0 hlt ⊢
    by_cases q : a = v
    · rw [if_pos q] at hlt; omega
    · rw [if_neg q] at h0 hlt ⊢
      have := H.up a b hab h0 hlt
      rw [g b Vb, if_neg (fun e => by subst e; omega)]
      exact this
  · obtain ⟨Va, Vb⟩ := hA hab
    rw [g a Va] at he
    rw [g b Vb]
    by_cases q : a = v
    · rw [if_pos q] at he; omega
    · rw [if_neg q] at he
      have := H.dd a b hD hab he
      split <;> omega
theorem Bs17.chain2 {A : Int → Int → Prop} (hA : ∀ {u v : Int}, A u v → VV t u ∧ VV t v) {h : List Int} (H : Bs17 t A s h) : ∀ (m : Nat) (v : Int), VV t v → hv h v = m → ∃ l : List Int, l.length = m + 1 ∧ l.Nodup ∧ ∀ x ∈ l, VV t x ∧ hv h x ≤ m ∧ 0 ≤ hv h x
  | 0, v, hV, e => ⟨[v], rfl, by simp, fun x hx => by rw [List.mem_singleton.1 hx]; exact ⟨hV, by omega, by omega⟩⟩
  | m + 1, v, hV, e => by
    obtain ⟨u, hu, e2⟩ := H.dn v hV (by omega)
    obtain ⟨l, l1, l2, l3⟩ := H.chain2 hA m u (hA hu).1 (by omega)
    refine ⟨v :: l, by simp [l1], List.nodup_cons.2 ⟨fun hm => by have := (l3 v hm).2; omega, l2⟩, fun x hx => ?_⟩
    rcases List.mem_cons.1 hx with rfl | hx
    · exact ⟨hV, by omega, by omega⟩
    · have := l3 x hx
      exact ⟨this.1, by omega, this.2.2⟩
theorem R17.sp {A : Int → Int → Prop} (hok : Fh t) (hA : ∀ {u v : Int}, A u v → VV t u ∧ VV t v) {h : List Int} (H : R17 t A s (t.1 - 1) h) : Sp t A s h := by
  refine { toBs17 := H.toBs17, up := fun u v hu h0 => ?_ }
  obtain ⟨Vu, Vv⟩ := hA hu
  by_cases q : hv h u < t.1 - 1
  · exact H.up u v hu h0 q
  · have hlt := H.toBs17.lt hok hA Vu
    obtain ⟨l, l1, l2, l3⟩ := H.toBs17.chain2 hA (hv h u).toNat u Vu (by omega)
    have htop := H.top v Vv
    by_cases hm : v ∈ l
    · exact ⟨(l3 v hm).2.2, by omega⟩
    · have := Eu t.1.toNat (v :: l) (List.nodup_cons.2 ⟨hm, l2⟩) (fun x hx => by
        rcases List.mem_cons.1 hx with rfl | hx
        · have := Vv.1; have := Vv.2; omega
        · have q5 := (l3 x hx).1; have := q5.1; have := q5.2; omega)
      simp only [List.length_cons] at this
      omega
end
end Go.Proofs.Ytbogijdfacoccaa
