/- Layer 17: peers. Conditions: none. -/
import Derived.Test.YtnkleniifdkpmaaM17
namespace Go.Proofs.Ytnkleniifdkpmaa
set_option linter.unusedVariables false
set_option linter.unusedSimpArgs false
open Go Go.RowKit
/-! ### Who is at the other end -/
abbrev Pr := Int × Int × Int × Bool
/-- What a link at (a, p) says. -/
def side (i : Nat) (x : Lk) (a p : Int) (R : Pr) : Prop := (a = x.1 ∧ p = x.2.1 ∧ R = (x.2.2.1, x.2.2.2.1, (i : Int), true)) ∨ (¬ (a = x.1 ∧ p = x.2.1) ∧ a = x.2.2.1 ∧ p = x.2.2.2.1 ∧ R = (x.1, x.2.1, (i : Int), true))
theorem peer_spec {t : Tp} (hl : t.2.1.length ≤ 24) (a p : Int) : ∃ R : Pr, topo_Peer t a p = some R ∧ ((R = (0, 0, 0, false) ∧ ∀ x ∈ t.2.1, (a, p) ∉ ends2 x) ∨ ∃ i x, t.2.1[i]? = some x ∧ side i x a p R) := by
  have key : ∀ (d k : Nat), k + d = t.2.1.length → (∀ x ∈ t.2.1.take k, (a, p) ∉ ends2 x) → ∃ R : Pr, orR (loopW (topo_Peer_l1 t a p) (k : Int)) (fun _ => some (0, 0, 0, false)) = some R ∧ ((R = (0, 0, 0, false) ∧ ∀ x ∈ t.2.1, (a, p) ∉ ends2 x) ∨ ∃ i x, t.2.1[i]? = some x ∧ side i x a p R) := by
    intro d
    induction d with
    | zero =>
      intro k hk hn
      rw [List.take_of_length_le (by omega)] at hn
      exact ⟨_, by rw [loopW_end (by rw [topo_Peer_l1, if_neg (by omega)])]; rfl, .inl ⟨rfl, hn⟩⟩
    | succ d ih =>
      intro k hk hn
      have hkl : k < t.2.1.length := by omega
      have hg := List.getElem?_eq_getElem hkl
      by_cases c1 : a = t.2.1[k].1 ∧ p = t.2.1[k].2.1
      · exact ⟨_, by rw [loopW_end (by rw [topo_Peer_l1, if_pos (by omega), ix_nat hg, Option.bind_some, if_pos c1])]; rfl, .inr ⟨k, _, hg, .inl ⟨c1.1, c1.2, rfl⟩⟩⟩
      by_cases c2 : a = t.2.1[k].2.2.1 ∧ p = t.2.1[k].2.2.2.1
      · exact ⟨_, by rw [loopW_end (by rw [topo_Peer_l1, if_pos (by omega), ix_nat hg, Option.bind_some, if_neg c1, if_pos c2])]; rfl, .inr ⟨k, _, hg, .inr ⟨c1, c2.1, c2.2, rfl⟩⟩⟩
      have hst : topo_Peer_l1 t a p (k : Int) = some (.inl ((k + 1 : Nat) : Int)) := by
        rw [topo_Peer_l1, if_pos (by omega), ix_nat hg, Option.bind_some, if_neg c1, if_neg c2, w64_id (by omega)]; rfl
      rw [loopW_go hst]
      refine ih (k + 1) (by omega) (fun x hx => ?_)
      rw [List.take_succ_eq_append_getElem hkl] at hx
      rcases List.mem_append.1 hx with hx | hx
      · exact hn x hx
      · rw [List.mem_singleton] at hx
        subst hx
        intro hm
        simp only [ends2, List.mem_cons, Prod.mk.injEq, List.not_mem_nil, or_false] at hm
        exact hm.elim c1 c2
  exact key t.2.1.length 0 (by omega) (fun x hx => by simp at hx)
theorem side_mem {i : Nat} {x : Lk} {a p : Int} {R : Pr} (h : side i x a p R) : (a, p) ∈ ends2 x ∧ (R.1, R.2.1) ∈ ends2 x := by
  rcases h with ⟨h1, h2, h3⟩ | ⟨_, h1, h2, h3⟩
  · subst h1 h2 h3; simp
  · subst h1 h2 h3; simp
theorem cnt_two {l : List Lk} {hs : List (Int × Int)} {i j : Nat} {x y : Lk} {q : Int × Int} (hi : l[i]? = some x) (hj : l[j]? = some y) (hij : i < j) (hx : q ∈ ends2 x) (hy : q ∈ ends2 y) : 2 ≤ (l.flatMap ends2 ++ hs).count q := by
  have hil : i < l.length := (List.getElem?_eq_some_iff.1 hi).1
  have e : l = l.take i ++ x :: l.drop (i + 1) := by
    have h1 := (List.getElem?_eq_some_iff.1 hi).2
    rw [← h1, ← List.drop_eq_getElem_cons hil, List.take_append_drop]
  have hm : y ∈ l.drop (i + 1) := List.mem_of_getElem? (i := j - (i + 1)) (by rw [List.getElem?_drop, show i + 1 + (j - (i + 1)) = j by omega]; exact hj)
  have h2 : 0 < ((l.drop (i + 1)).flatMap ends2).count q := List.count_pos_iff.2 (List.mem_flatMap.2 ⟨y, hm, hy⟩)
  have h3 : 0 < (ends2 x).count q := List.count_pos_iff.2 hx
  rw [e, List.flatMap_append, List.flatMap_cons, List.count_append, List.count_append, List.count_append]; omega
theorem same_link {t : Tp} {i j : Nat} {x y : Lk} {q : Int × Int} (hi : t.2.1[i]? = some x) (hj : t.2.1[j]? = some y) (hx : q ∈ ends2 x) (hy : q ∈ ends2 y) (h1 : (pl t).count q = 1) : i = j := by
  rcases Nat.lt_trichotomy i j with h | h | h
  · have := cnt_two (hs := t.2.2) hi hj h hx hy
    unfold pl at h1; omega
  · exact h
  · have := cnt_two (hs := t.2.2) hj hi h hy hx
    unfold pl at h1; omega
theorem no_host {t : Tp} {x : Lk} {q : Int × Int} (hx : x ∈ t.2.1) (hq : q ∈ ends2 x) (h1 : (pl t).count q = 1) : q ∉ t.2.2 := fun hh => by
  have h2 : 0 < (t.2.1.flatMap ends2).count q := List.count_pos_iff.2 (List.mem_flatMap.2 ⟨x, hx, hq⟩)
  have h3 : 0 < t.2.2.count q := List.count_pos_iff.2 hh
  unfold pl at h1
  rw [List.count_append] at h1; omega
theorem hostat_none {t : Tp} (hl : t.2.2.length ≤ 24) {a p : Int} (h : (a, p) ∉ t.2.2) : topo_HostAt t a p = some (-1) := by
  have key : ∀ (d k : Nat), k + d = t.2.2.length → loopW (slices_Index_api_Host_api_Host_l1 t.2.2 (a, p)) (k : Int) = some (.inl ()) := by
    intro d
    induction d with
    | zero => intro k hk; exact loopW_end (by rw [slices_Index_api_Host_api_Host_l1, if_neg (by omega)])
    | succ d ih =>
      intro k hk
      have hkl : k < t.2.2.length := by omega
      have hst : slices_Index_api_Host_api_Host_l1 t.2.2 (a, p) (k : Int) = some (.inl ((k + 1 : Nat) : Int)) := by
        rw [slices_Index_api_Host_api_Host_l1, if_pos (by omega), ix_nat (List.getElem?_eq_getElem hkl), Option.bind_some, if_neg (fun hh => h (by
          have := List.getElem_mem hkl
          rwa [show t.2.2[k] = (a, p) from Prod.ext hh.1.symm hh.2.symm] at this)), w64_id (by omega)]; rfl
      rw [loopW_go hst]
      exact ih (k + 1) (by omega)
  have h0 : loopW (slices_Index_api_Host_api_Host_l1 t.2.2 (a, p)) 0 = some (.inl ()) := key t.2.2.length 0 (by omega)
  unfold topo_HostAt slices_Index_api_Host_api_Host
  rw [h0]; rfl
theorem TopoPeers_core (p0 : Tp) (p1 p2 : Int) : L17_TopoPeers p0 p1 p2 = some true := by
  unfold L17_TopoPeers
  rw [awake17, rright17]
  by_cases c0 : L17_small p0 = true
  · rw [c0, if_neg (by decide), Option.bind_some]
    by_cases c : OkT p0
    · rw [decide_eq_true c, Option.bind_some, if_neg (by decide)]
      have hl := c.1.2.2.1
      have hh := c.1.2.2.2
      obtain ⟨R, e1, hR⟩ := peer_spec hl p1 p2
      rw [e1, Option.bind_some]
      rcases hR with ⟨rfl, _⟩ | ⟨i, x, hi, hs⟩
      · rfl
      · have hxm := List.mem_of_getElem? hi
        obtain ⟨k1, _, _, _, k5, k6⟩ := c.2.1 x hxm
        obtain ⟨m1, m2⟩ := side_mem hs
        have q1 : (pl p0).count (p1, p2) = 1 := by
          rcases List.mem_cons.1 m1 with h | h
          · rw [h]; exact k5.2.2.2.2
          · rw [List.mem_singleton.1 h]; exact k6.2.2.2.2
        have q2 : (pl p0).count (R.1, R.2.1) = 1 := by
          rcases List.mem_cons.1 m2 with h | h
          · rw [h]; exact k5.2.2.2.2
          · rw [List.mem_singleton.1 h]; exact k6.2.2.2.2
        obtain ⟨R2, e2, hR2⟩ := peer_spec hl R.1 R.2.1
        have hRt : R.2.2.2 = true := by rcases hs with ⟨_, _, h⟩ | ⟨_, _, _, h⟩ <;> rw [h]
        rw [hRt, if_neg (by decide), e2, Option.bind_some]
        have hR2' : R2 = (p1, p2, R.2.2.1, true) ∧ R.1 ≠ p1 := by
          rcases hR2 with ⟨_, hn⟩ | ⟨j, y, hj, hs2⟩
          · exact absurd m2 (hn x hxm)
          · obtain ⟨n1, _⟩ := side_mem hs2
            have hij := same_link hi hj m2 n1 q2
            subst hij
            have hxy : x = y := Option.some.inj (hi.symm.trans hj)
            subst hxy
            rcases hs with ⟨a1, a2, rfl⟩ | ⟨_, a1, a2, rfl⟩
            · rcases hs2 with ⟨b1, b2, rfl⟩ | ⟨_, b1, b2, rfl⟩
              · exact absurd b1.symm k1
              · exact ⟨by rw [a1, a2], fun h => k1 (a1.symm.trans h.symm)⟩
            · rcases hs2 with ⟨b1, b2, rfl⟩ | ⟨b0, b1, b2, rfl⟩
              · exact ⟨by rw [a1, a2], fun h => k1 (h.trans a1)⟩
              · exact absurd b1 k1
        obtain ⟨rfl, hne⟩ := hR2'
        rw [if_pos rfl, if_pos rfl, if_pos rfl, if_pos rfl, if_pos hne, hostat_none (by omega) (no_host hxm m1 q1), Option.bind_some, if_pos rfl]; rfl
    · rw [decide_eq_false c, Option.bind_some]; rfl
  · rw [if_pos (by simpa using c0)]; rfl
theorem TopoPeers_true (p0 : Tp) {A : Prop} (_ : A) (p1 : Int) {B : Prop} (_ : B) (p2 : Int) {C : Prop} (_ : C) : L17_TopoPeers p0 p1 p2 = some true := TopoPeers_core p0 p1 p2
end Go.Proofs.Ytnkleniifdkpmaa
