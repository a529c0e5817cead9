/- Layer 25: topologies, hosts, walks. Conditions: none. -/
import Derived.Test.YthhoflfhegfmcaabLP
import Derived.Test.YthhoflfhegfmcaabA7
namespace Go.Proofs.Ythhoflfhegfmcaa
set_option linter.unusedVariables false
set_option linter.unusedSimpArgs false
open Go Go.RowKit
abbrev Lk := Int × Int × Int × Int × Int × Int
abbrev Tp := Int × List Lk × List (Int × Int)
abbrev FU (l : Lk) : List (Int × Int) := [(l.1, l.2.1), (l.2.2.1, l.2.2.2.1)]
def pl (t : Tp) : List (Int × Int) := t.2.1.flatMap FU ++ t.2.2
abbrev FG (t : Tp) (q : Int × Int) : Prop := 0 ≤ q.1 ∧ q.1 < t.1 ∧ 0 ≤ q.2 ∧ q.2 ≤ 7 ∧ (pl t).count q = 1
abbrev PE (t : Tp) (l : Lk) : Prop := l.1 ≠ l.2.2.1 ∧ 1 ≤ l.2.2.2.2.1 ∧ l.2.2.2.2.1 ≤ l.2.2.2.2.2 ∧ l.2.2.2.2.2 ≤ 1000 ∧ FG t (l.1, l.2.1) ∧ FG t (l.2.2.1, l.2.2.2.1)
abbrev KX (t : Tp) : Prop := (1 ≤ t.1 ∧ t.1 ≤ 8 ∧ t.2.1.length ≤ 24 ∧ t.2.2.length ≤ 8) ∧ (∀ l ∈ t.2.1, PE t l) ∧ ∀ h ∈ t.2.2, FG t h
abbrev Pr := Int × Int × Int × Bool
def R0 (i : Nat) (x : Lk) (a p : Int) (R : Pr) : Prop := (a = x.1 ∧ p = x.2.1 ∧ R = (x.2.2.1, x.2.2.2.1, (i : Int), true)) ∨ (¬ (a = x.1 ∧ p = x.2.1) ∧ a = x.2.2.1 ∧ p = x.2.2.2.1 ∧ R = (x.1, x.2.1, (i : Int), true))
theorem Nv {t : Tp} (hl : t.2.1.length ≤ 24) (a p : Int) : ∃ R : Pr, Dl t a p = some R ∧ ((R = (0, 0, 0, false) ∧ ∀ x ∈ t.2.1, (a, p) ∉ FU x) ∨ ∃ i x, t.2.1[i]? = some x ∧ R0 i x a p R) := by
  have key : ∀ (d k : Nat), k + d = t.2.1.length → (∀ x ∈ t.2.1.take k, (a, p) ∉ FU x) → ∃ R : Pr, Ep (Au (Cy t a p) (k : Int)) (fun _ => some (0, 0, 0, false)) = some R ∧ ((R = (0, 0, 0, false) ∧ ∀ x ∈ t.2.1, (a, p) ∉ FU x) ∨ ∃ i x, t.2.1[i]? = some x ∧ R0 i x a p R) := by
    intro d
    induction d with
    | zero =>
      intro k hk hn
      rw [List.take_of_length_le (by omega)] at hn
      exact ⟨_, by rw [A7 (by rw [Cy, if_neg (by omega)])]; rfl, .inl ⟨rfl, hn⟩⟩
    | succ d ih =>
      intro k hk hn
      have hkl : k < t.2.1.length := by omega
      have hg := List.getElem?_eq_getElem hkl
      by_cases c1 : a = t.2.1[k].1 ∧ p = t.2.1[k].2.1
      · exact ⟨_, by rw [A7 (by rw [Cy, if_pos (by omega), AV hg, Option.bind_some, if_pos c1])]; rfl, .inr ⟨k, _, hg, .inl ⟨c1.1, c1.2, rfl⟩⟩⟩
      by_cases c2 : a = t.2.1[k].2.2.1 ∧ p = t.2.1[k].2.2.2.1
      · exact ⟨_, by rw [A7 (by rw [Cy, if_pos (by omega), AV hg, Option.bind_some, if_neg c1, if_pos c2])]; rfl, .inr ⟨k, _, hg, .inr ⟨c1, c2.1, c2.2, rfl⟩⟩⟩
      have hst : Cy t a p (k : Int) = some (.inl ((k + 1 : Nat) : Int)) := by
        rw [Cy, if_pos (by omega), AV hg, Option.bind_some, if_neg c1, if_neg c2, AJ (by omega)]; rfl
      rw [BO hst]
      refine ih (k + 1) (by omega) (fun x hx => ?_)
      rw [List.take_succ_eq_append_getElem hkl] at hx
      rcases List.mem_append.1 hx with hx | hx
      · exact hn x hx
      · rw [List.mem_singleton] at hx
        subst hx
        intro hm
        simp only [FU, List.mem_cons, Prod.mk.injEq, List.not_mem_nil, or_false] at hm
        exact hm.elim c1 c2
  exact key t.2.1.length 0 (by omega) (fun x hx => by simp at hx)
theorem Sr {i : Nat} {x : Lk} {a p : Int} {R : Pr} (h : R0 i x a p R) : (a, p) ∈ FU x ∧ (R.1, R.2.1) ∈ FU x := by
  rcases h with ⟨h1, h2, h3⟩ | ⟨_, h1, h2, h3⟩
  · subst h1 h2 h3; simp
  · subst h1 h2 h3; simp
theorem HI {α : Type} [BEq α] [LawfulBEq α] : ∀ {l : List α}, l.Nodup ↔ ∀ q ∈ l, l.count q = 1
  | [] => by simp
  | x :: l => by
    rw [List.nodup_cons, HI]
    constructor
    · rintro ⟨h1, h2⟩ q hq
      rw [List.count_cons]
      by_cases c : x = q
      · subst c
        rw [List.count_eq_zero_of_not_mem h1]; simp
      · rcases List.mem_cons.1 hq with h | h
        · exact absurd h.symm c
        · rw [h2 q h, if_neg (by simpa using c)]
    · intro h
      have hx := h x (List.mem_cons_self ..)
      rw [List.count_cons, if_pos (by simp)] at hx
      have h1 : x ∉ l := fun hm => by have := List.count_pos_iff.2 hm; omega
      refine ⟨h1, fun q hq => ?_⟩
      have := h q (List.mem_cons_of_mem _ hq)
      rw [List.count_cons, if_neg (by simp; intro e; subst e; exact h1 hq)] at this
      exact this
abbrev LA (l : List (Int × Int)) : List ((Int × Int) × Unit) := l.map fun q => (q, ())
theorem MB : ∀ (l : List (Int × Int)) (q : Int × Int), (KK (LA l) q).isSome = decide (q ∈ l)
  | [], q => by simp [LA, KK]
  | x :: l, q => by
    show (if q = x then some () else KK (LA l) q).isSome = _
    by_cases c : q = x
    · rw [if_pos c, decide_eq_true (by rw [c]; exact List.mem_cons_self ..)]; rfl
    · rw [if_neg c, MB l q]
      exact decide_eq_decide.2 ⟨fun h => List.mem_cons_of_mem _ h, fun h => (List.mem_cons.1 h).resolve_left c⟩
theorem OK : ∀ (l : List (Int × Int)) (q : Int × Int), q ∉ l → KY (LA l) q () = LA (l ++ [q])
  | [], q, _ => rfl
  | x :: l, q, h => by
    show (if q = x then (q, ()) :: LA l else (x, ()) :: KY (LA l) q ()) = _
    rw [if_neg (fun e => h (by rw [e]; exact List.mem_cons_self ..)), OK l q (fun e => h (List.mem_cons_of_mem _ e))]; rfl
abbrev U7 (t : Tp) (q : Int × Int) : Prop := 0 ≤ q.1 ∧ q.1 < t.1 ∧ 0 ≤ q.2 ∧ q.2 ≤ 7
theorem QM {t : Tp} (hl : t.2.1.length ≤ 24) (hh : t.2.2.length ≤ 8) : EL t = some (pl t) := by
  have fl : ∀ l : List Lk, (l.flatMap FU).length = 2 * l.length := fun l => by
    induction l with
    | nil => rfl
    | cons x l ih => rw [List.flatMap_cons, List.length_append, ih, List.length_cons]; simp; omega
  obtain ⟨s, h1, h2⟩ := CE t.2.1.length (fun (s : List (Int × Int)) (k : Nat) => (s, (k : Int))) (C6 t) id (fun s k => s = (t.2.1.take k).flatMap FU)
    (fun s k hk hI => by
      have hb : s.length ≤ 100 := by rw [hI, fl, List.length_take]; omega
      refine ⟨s ++ FU t.2.1[k], ?_, ?_⟩
      · rw [C6, if_pos (by omega), AV (List.getElem?_eq_getElem hk), Option.bind_some, Dc (by simp; omega), Option.bind_some, AJ (by omega)]; rfl
      · rw [hI, List.take_succ_eq_append_getElem hk, List.flatMap_append, List.flatMap_cons, List.flatMap_nil, List.append_nil])
    (fun s _ => by rw [C6, if_neg (by omega)]; rfl) [] (by simp)
  have e1 : Au (C6 t) ([], 0) = some s := h2
  rw [List.take_length] at h1
  have hb1 : s.length ≤ 100 := by rw [h1, fl]; omega
  obtain ⟨s2, g1, g2⟩ := CE t.2.2.length (fun (s : List (Int × Int)) (k : Nat) => (s, (k : Int))) (C3 t) id (fun s2 k => s2 = s ++ t.2.2.take k)
    (fun s2 k hk hI => by
      have hb : s2.length ≤ 200 := by rw [hI, List.length_append, List.length_take]; omega
      refine ⟨s2 ++ [t.2.2[k]], ?_, ?_⟩
      · rw [C3, if_pos (by omega), AV (List.getElem?_eq_getElem hk), Option.bind_some, Dc (by simp; omega), Option.bind_some, AJ (by omega)]; rfl
      · rw [hI, List.take_succ_eq_append_getElem hk, List.append_assoc])
    (fun s _ => by rw [C3, if_neg (by omega)]; rfl) s (by simp)
  have e2 : Au (C3 t) (s, 0) = some s2 := g2
  rw [List.take_length, h1] at g1
  unfold EL
  rw [e1, Option.bind_some, e2, g1]; rfl
theorem PN {t : Tp} {L : List (Int × Int)} (hL : L.length ≤ 1000) : Au (Cw t L) (0, []) = some (if (∀ q ∈ L, U7 t q) ∧ L.Nodup then .inl (LA L) else .inr false) := by
  have key : ∀ (d k : Nat), k + d = L.length → (∀ q ∈ L.take k, U7 t q) → (L.take k).Nodup → Au (Cw t L) ((k : Int), LA (L.take k)) = some (if (∀ q ∈ L, U7 t q) ∧ L.Nodup then .inl (LA L) else .inr false) := by
    intro d
    induction d with
    | zero =>
      intro k hk h1 h2
      rw [List.take_of_length_le (by omega)] at h1 h2 ⊢
      rw [if_pos ⟨h1, h2⟩]
      exact A7 (by rw [Cw, if_neg (by omega)])
    | succ d ih =>
      intro k hk h1 h2
      have hkl : k < L.length := by omega
      have hm := List.getElem_mem hkl
      have hg := List.getElem?_eq_getElem hkl
      by_cases c1 : U7 t L[k]
      · by_cases c2 : L[k] ∈ L.take k
        · rw [if_neg (fun hh => by
            have h3 := hh.2
            rw [← List.take_append_drop (k + 1) L, List.take_succ_eq_append_getElem hkl] at h3
            have h4 := (List.nodup_append.1 (List.nodup_append.1 h3).1).2.2
            exact h4 _ c2 _ (List.mem_singleton.2 rfl) rfl)]
          exact A7 (by
            rw [Cw, if_pos (by omega), AV hg, Option.bind_some, if_neg (by simp; omega), MB, decide_eq_true c2, if_pos rfl])
        · have hst : Cw t L ((k : Int), LA (L.take k)) = some (.inl (((k + 1 : Nat) : Int), LA (L.take (k + 1)))) := by
            rw [Cw, if_pos (by omega), AV hg, Option.bind_some, if_neg (by simp; omega), MB, decide_eq_false c2, if_neg (by decide), OK _ _ c2, AJ (by omega), List.take_succ_eq_append_getElem hkl]; rfl
          rw [BO hst]
          refine ih (k + 1) (by omega) (fun q hq => ?_) ?_
          · rw [List.take_succ_eq_append_getElem hkl] at hq
            rcases List.mem_append.1 hq with h | h
            · exact h1 q h
            · rw [List.mem_singleton.1 h]; exact c1
          · rw [List.take_succ_eq_append_getElem hkl, List.nodup_append]
            exact ⟨h2, by simp, fun a ha b hb => by rw [List.mem_singleton.1 hb]; intro e; subst e; exact c2 ha⟩
      · rw [if_neg (fun hh => c1 (hh.1 _ hm))]
        exact A7 (by
          rw [Cw, if_pos (by omega), AV hg, Option.bind_some, if_pos (by simp; omega)])
  exact key L.length 0 (by omega) (by simp) (by simp)
theorem PO {l : List Lk} (hl : l.length ≤ 1000) : AW l = some (decide (∃ x ∈ l, BC x = true)) := by
  have key : ∀ (d k : Nat), k + d = l.length → (∀ x ∈ l.take k, ¬ BC x = true) → ∃ i : Int, Ep (Au (AC l) (k : Int)) (fun _ => some (-1)) = some i ∧ (0 ≤ i ↔ ∃ x ∈ l, BC x = true) := by
    intro d
    induction d with
    | zero =>
      intro k hk hn
      rw [List.take_of_length_le (by omega)] at hn
      exact ⟨-1, by rw [A7 (by rw [AC, if_neg (by omega)])]; rfl, ⟨fun h => by omega, fun ⟨x, hx, h⟩ => absurd h (hn x hx)⟩⟩
    | succ d ih =>
      intro k hk hn
      have hkl : k < l.length := by omega
      have hg := List.getElem?_eq_getElem hkl
      by_cases c : BC l[k] = true
      · exact ⟨(k : Int), by rw [A7 (by rw [AC, if_pos (by omega), AV hg, Option.bind_some, if_pos c])]; rfl, ⟨fun _ => ⟨_, List.getElem_mem hkl, c⟩, fun _ => by omega⟩⟩
      · have hst : AC l (k : Int) = some (.inl ((k + 1 : Nat) : Int)) := by
          rw [AC, if_pos (by omega), AV hg, Option.bind_some, if_neg c, AJ (by omega)]; rfl
        rw [BO hst]
        refine ih (k + 1) (by omega) (fun x hx => ?_)
        rw [List.take_succ_eq_append_getElem hkl] at hx
        rcases List.mem_append.1 hx with h | h
        · exact hn x h
        · rw [List.mem_singleton.1 h]; exact c
  obtain ⟨i, h1, h2⟩ := key l.length 0 (by omega) (by simp)
  have h1' : Ep (Au (AC l) 0) (fun _ => some (-1)) = some i := h1
  unfold AW Bb
  rw [h1', Option.bind_some]
  congr 1
  exact decide_eq_decide.2 h2
theorem Ti {t : Tp} : E5 t = some (decide (KX t)) := by
  unfold E5
  by_cases c : t.1 < 1 ∨ 8 < t.1 ∨ 24 < (t.2.1.length : Int) ∨ 8 < (t.2.2.length : Int)
  · rw [if_pos (by simpa using c), decide_eq_false (fun h => by have := h.1; omega)]
  · rw [if_neg (by simpa using c)]
    have hl : t.2.1.length ≤ 24 := by omega
    have hh : t.2.2.length ≤ 8 := by omega
    have hpl : (pl t).length ≤ 1000 := by
      have fl : ∀ l : List Lk, (l.flatMap FU).length = 2 * l.length := fun l => by
        induction l with
        | nil => rfl
        | cons x l ih => rw [List.flatMap_cons, List.length_append, ih, List.length_cons]; simp; omega
      unfold pl
      rw [List.length_append, fl]; omega
    have hmem : ∀ q, q ∈ pl t ↔ (∃ x ∈ t.2.1, q ∈ FU x) ∨ q ∈ t.2.2 := fun q => by
      unfold pl
      rw [List.mem_append, List.mem_flatMap]
    rw [QM hl hh, Option.bind_some, PN hpl, PO (by omega)]
    have hok : KX t ↔ ((∀ q ∈ pl t, U7 t q) ∧ (pl t).Nodup) ∧ ¬ ∃ x ∈ t.2.1, BC x = true := by
      have hw : ∀ x : Lk, ¬ BC x = true ↔ (x.1 ≠ x.2.2.1 ∧ 1 ≤ x.2.2.2.2.1 ∧ x.2.2.2.2.1 ≤ x.2.2.2.2.2 ∧ x.2.2.2.2.2 ≤ 1000) := fun x => by
        unfold BC
        simp only [Bool.or_eq_true, decide_eq_true_eq]
        omega
      constructor
      · rintro ⟨h0, h1, h2⟩
        have hp : ∀ q ∈ pl t, FG t q := fun q hq => by
          rcases (hmem q).1 hq with ⟨x, hx, hq⟩ | hq
          · obtain ⟨_, _, _, _, k5, k6⟩ := h1 x hx
            rcases List.mem_cons.1 hq with h | h
            · rw [h]; exact k5
            · rw [List.mem_singleton.1 h]; exact k6
          · exact h2 q hq
        refine ⟨⟨fun q hq => ?_, HI.2 fun q hq => (hp q hq).2.2.2.2⟩, fun ⟨x, hx, hwx⟩ => ?_⟩
        · obtain ⟨a1, a2, a3, a4, _⟩ := hp q hq
          exact ⟨a1, a2, a3, a4⟩
        · obtain ⟨k1, k2, k3, k4, _⟩ := h1 x hx
          exact (hw x).2 ⟨k1, k2, k3, k4⟩ hwx
      · rintro ⟨⟨h1, h2⟩, h3⟩
        have hp : ∀ q ∈ pl t, FG t q := fun q hq => by
          obtain ⟨a1, a2, a3, a4⟩ := h1 q hq
          exact ⟨a1, a2, a3, a4, HI.1 h2 q hq⟩
        refine ⟨by omega, fun x hx => ?_, fun q hq => hp q ((hmem q).2 (.inr hq))⟩
        obtain ⟨k1, k2, k3, k4⟩ := (hw x).1 (fun h => h3 ⟨x, hx, h⟩)
        exact ⟨k1, k2, k3, k4, hp _ ((hmem _).2 (.inl ⟨x, hx, by simp⟩)), hp _ ((hmem _).2 (.inl ⟨x, hx, by simp⟩))⟩
    by_cases c1 : (∀ q ∈ pl t, U7 t q) ∧ (pl t).Nodup
    · rw [if_pos c1]
      show some (!decide (∃ x ∈ t.2.1, BC x = true)) = _
      by_cases c2 : ∃ x ∈ t.2.1, BC x = true
      · rw [decide_eq_true c2, decide_eq_false (fun h => (hok.1 h).2 c2)]; rfl
      · rw [decide_eq_false c2, decide_eq_true (hok.2 ⟨c1, c2⟩)]; rfl
    · rw [if_neg c1, decide_eq_false (fun h => c1 (hok.1 h).1)]; rfl
theorem Jp : ∀ (m : Nat) (got : List Int), got.Nodup → (∀ x ∈ got, 0 ≤ x ∧ x < (m : Int)) → got.length ≤ m
  | 0, got, _, h => by
    cases got with
    | nil => simp
    | cons x l => have := h x (List.mem_cons_self ..); omega
  | m + 1, got, hn, h => by
    have h2 := Jp m (got.erase (m : Int)) (hn.erase _) (fun x hx => by
      have h3 := h x (List.mem_of_mem_erase hx)
      have h4 : x ≠ (m : Int) := fun e => by
        subst e
        exact (List.Nodup.not_mem_erase hn) hx
      omega)
    have h5 : got.length ≤ (got.erase (m : Int)).length + 1 := by
      rw [List.length_erase]; split <;> omega
    omega
theorem Ry {α : Type} {l : List α} (h : l.Nodup) {i j : Nat} {a : α} (hi : l[i]? = some a) (hj : l[j]? = some a) : i = j := by
  obtain ⟨l1, e1⟩ := List.getElem?_eq_some_iff.1 hi
  obtain ⟨l2, e2⟩ := List.getElem?_eq_some_iff.1 hj
  have hp := List.pairwise_iff_getElem.1 h
  rcases Nat.lt_trichotomy i j with c | c | c
  · exact absurd (e1.trans e2.symm) (hp i j l1 l2 c)
  · exact c
  · exact absurd (e2.trans e1.symm) (hp j i l2 l1 c)
theorem RU {t : Tp} (hok : KX t) {q : Int × Int} (hq : q ∈ pl t) : FG t q := by
  unfold pl at hq
  rcases List.mem_append.1 hq with h | h
  · obtain ⟨x, hx, h⟩ := List.mem_flatMap.1 h
    obtain ⟨_, _, _, _, k5, k6⟩ := hok.2.1 x hx
    rcases List.mem_cons.1 h with h | h
    · rw [h]; exact k5
    · rw [List.mem_singleton.1 h]; exact k6
  · exact hok.2.2 q h
theorem O7 {t : Tp} (hok : KX t) : t.2.2.Nodup := by
  have h : (pl t).Nodup := HI.2 fun q hq => (RU hok hq).2.2.2.2
  unfold pl at h
  exact (List.nodup_append.1 h).2.1
theorem NC (t : Tp) (hh : t.2.2.length ≤ 8) (a p : Int) : ∃ r, Dj t a p = some r ∧ ((r = -1 ∧ (a, p) ∉ t.2.2) ∨ ∃ j : Nat, r = (j : Int) ∧ t.2.2[j]? = some (a, p)) := by
  have key : ∀ (d k : Nat), k + d = t.2.2.length → (a, p) ∉ t.2.2.take k → ∃ r, Ep (Au (AM t.2.2 (a, p)) (k : Int)) (fun _ => some (-1)) = some r ∧ ((r = -1 ∧ (a, p) ∉ t.2.2) ∨ ∃ j : Nat, r = (j : Int) ∧ t.2.2[j]? = some (a, p)) := by
    intro d
    induction d with
    | zero =>
      intro k hk hn
      rw [List.take_of_length_le (by omega)] at hn
      exact ⟨-1, by rw [A7 (by rw [AM, if_neg (by omega)])]; rfl, .inl ⟨rfl, hn⟩⟩
    | succ d ih =>
      intro k hk hn
      have hkl : k < t.2.2.length := by omega
      have hg := List.getElem?_eq_getElem hkl
      by_cases c : a = t.2.2[k].1 ∧ p = t.2.2[k].2
      · exact ⟨(k : Int), by rw [A7 (by rw [AM, if_pos (by omega), AV hg, Option.bind_some, if_pos c])]; rfl, .inr ⟨k, rfl, by rw [hg, show t.2.2[k] = (a, p) from Prod.ext c.1.symm c.2.symm]⟩⟩
      · have hst : AM t.2.2 (a, p) (k : Int) = some (.inl ((k + 1 : Nat) : Int)) := by
          rw [AM, if_pos (by omega), AV hg, Option.bind_some, if_neg c, AJ (by omega)]; rfl
        rw [BO hst]
        refine ih (k + 1) (by omega) (fun hm => ?_)
        rw [List.take_succ_eq_append_getElem hkl] at hm
        rcases List.mem_append.1 hm with h | h
        · exact hn h
        · rw [List.mem_singleton] at h
          exact c ⟨by rw [← h], by rw [← h]⟩
  obtain ⟨r, h1, h2⟩ := key t.2.2.length 0 (by omega) (by simp)
  refine ⟨r, ?_, h2⟩
  unfold Dj Bn
  have h1' : Ep (Au (AM t.2.2 (a, p)) 0) (fun _ => some (-1)) = some r := h1
  rw [h1']; rfl
theorem Nx {t : Tp} (hok : KX t) {h : Int} (h0 : 0 ≤ h) (h1 : h < (t.2.2.length : Int)) (a p : Int) : ∃ r, Dj t a p = some r ∧ (r = h ↔ t.2.2[h.toNat]? = some (a, p)) := by
  obtain ⟨r, e, hr⟩ := NC t (by have := hok.1; omega) a p
  refine ⟨r, e, ?_⟩
  rcases hr with ⟨h2, h3⟩ | ⟨j, h2, h3⟩
  · exact ⟨fun hh => by omega, fun hh => absurd (List.mem_of_getElem? hh) h3⟩
  · constructor
    · intro hh
      rw [show h.toNat = j by omega]; exact h3
    · intro hh
      have := Ry (O7 hok) hh h3
      omega
noncomputable def pe (t : Tp) (a p : Int) : Pr := (Dl t a p).getD (0, 0, 0, false)
theorem Qg {t : Tp} (hok : KX t) (a p : Int) : Dl t a p = some (pe t a p) := by
  obtain ⟨R, e, _⟩ := Nv hok.1.2.2.1 a p
  unfold pe; rw [e]; rfl
theorem Vb {t : Tp} (hok : KX t) {a p : Int} (h : (pe t a p).2.2.2 = true) : (0 ≤ a ∧ a < t.1) ∧ 0 ≤ (pe t a p).1 ∧ (pe t a p).1 < t.1 := by
  obtain ⟨R, e, hR⟩ := Nv hok.1.2.2.1 a p
  have he : pe t a p = R := by unfold pe; rw [e]; rfl
  rw [he] at h ⊢
  rcases hR with ⟨h1, _⟩ | ⟨i, x, hi, hs⟩
  · rw [h1] at h; cases h
  · obtain ⟨m1, m2⟩ := Sr hs
    have hx := List.mem_of_getElem? hi
    have hp : ∀ q ∈ FU x, q ∈ pl t := fun q hq => by
      unfold pl; exact List.mem_append_left _ (List.mem_flatMap.2 ⟨x, hx, hq⟩)
    obtain ⟨a1, a2, _⟩ := RU hok (hp _ m1)
    obtain ⟨b1, b2, _⟩ := RU hok (hp _ m2)
    exact ⟨⟨a1, a2⟩, b1, b2⟩
abbrev Rt := List (List Int)
abbrev EY (t : Tp) (r : Rt) : Prop := KX t ∧ (r.length : Int) = t.1 ∧ ∀ row ∈ r, row.length = t.2.2.length ∧ ∀ p ∈ row, 0 ≤ p ∧ p ≤ 7
def FQ (r : Rt) (sw h : Int) : Int := (r.getD sw.toNat []).getD h.toNat 0
theorem EY.row {t : Tp} {r : Rt} (ho : EY t r) {sw : Int} (hs : 0 ≤ sw ∧ sw < t.1) : ∃ row, ix r sw = some row ∧ r[sw.toNat]? = some row ∧ row.length = t.2.2.length ∧ (∀ p ∈ row, 0 ≤ p ∧ p ≤ 7) ∧ r.getD sw.toNat [] = row := by
  obtain ⟨_, h2, h3⟩ := ho
  obtain ⟨row, e1, e2⟩ := KG (l := r) hs.1 (by omega)
  obtain ⟨k1, k2⟩ := h3 row (List.mem_of_getElem? e2)
  exact ⟨row, e1, e2, k1, k2, by rw [List.getD_eq_getElem?_getD, e2]; rfl⟩
theorem EY.port {t : Tp} {r : Rt} (ho : EY t r) {sw h : Int} (hs : 0 ≤ sw ∧ sw < t.1) (hh : 0 ≤ h ∧ h < (t.2.2.length : Int)) : ∃ row, ix r sw = some row ∧ (row.length : Int) = t.2.2.length ∧ ix row h = some (FQ r sw h) ∧ 0 ≤ FQ r sw h ∧ FQ r sw h ≤ 7 := by
  obtain ⟨row, e1, e2, e3, e4, e5⟩ := ho.row hs
  obtain ⟨p, f1, f2⟩ := KG (l := row) hh.1 (by omega)
  have : FQ r sw h = p := by unfold FQ; rw [e5, List.getD_eq_getElem?_getD, f2]; rfl
  rw [this]
  obtain ⟨g1, g2⟩ := e4 p (List.mem_of_getElem? f2)
  exact ⟨row, e1, by omega, f1, g1, g2⟩
theorem PS {l : List Int} (hl : l.length ≤ 1000000000) : Bm l = some (decide (∃ x ∈ l, ¬ (0 ≤ x ∧ x ≤ 7))) := by
  have key : ∀ (d k : Nat), k + d = l.length → (∀ x ∈ l.take k, (0 ≤ x ∧ x ≤ 7)) → ∃ i : Int, Ep (Au (AY l) (k : Int)) (fun _ => some (-1)) = some i ∧ (0 ≤ i ↔ ∃ x ∈ l, ¬ (0 ≤ x ∧ x ≤ 7)) := by
    intro d
    induction d with
    | zero =>
      intro k hk hn
      rw [List.take_of_length_le (by omega)] at hn
      exact ⟨-1, by rw [A7 (by rw [AY, if_neg (by omega)])]; rfl, ⟨fun h => by omega, fun ⟨x, hx, h⟩ => absurd (hn x hx) h⟩⟩
    | succ d ih =>
      intro k hk hn
      have hkl : k < l.length := by omega
      have hg := List.getElem?_eq_getElem hkl
      have hw : CP l[k] = true ↔ ¬ (0 ≤ l[k] ∧ l[k] ≤ 7) := by
        unfold CP; simp only [Bool.or_eq_true, decide_eq_true_eq]; omega
      by_cases c : CP l[k] = true
      · exact ⟨(k : Int), by rw [A7 (by rw [AY, if_pos (by omega), AV hg, Option.bind_some, if_pos c])]; rfl, ⟨fun _ => ⟨_, List.getElem_mem hkl, hw.1 c⟩, fun _ => by omega⟩⟩
      · have hst : AY l (k : Int) = some (.inl ((k + 1 : Nat) : Int)) := by
          rw [AY, if_pos (by omega), AV hg, Option.bind_some, if_neg c, AJ (by omega)]; rfl
        rw [BO hst]
        refine ih (k + 1) (by omega) (fun x hx => ?_)
        rw [List.take_succ_eq_append_getElem hkl] at hx
        rcases List.mem_append.1 hx with h | h
        · exact hn x h
        · rw [List.mem_singleton.1 h]; exact Decidable.not_not.1 (fun hc => c (hw.2 hc))
  obtain ⟨i, h1, h2⟩ := key l.length 0 (by omega) (by simp)
  have h1' : Ep (Au (AY l) 0) (fun _ => some (-1)) = some i := h1
  unfold Bm B9
  rw [h1', Option.bind_some]
  congr 1
  exact decide_eq_decide.2 h2
theorem S1 {t : Tp} {r : Rt} (hr : r.length ≤ 12) (hw : ∀ row ∈ r, row.length ≤ 1000000000) : Ey t r = some (decide (EY t r)) := by
  unfold Ey
  rw [Ti, Option.bind_some]
  by_cases c : KX t
  · rw [decide_eq_true c, if_neg (by decide)]
    by_cases c2 : (r.length : Int) = t.1
    · rw [decide_eq_false (by omega : ¬ (r.length : Int) ≠ t.1), Option.bind_some, if_neg (by decide)]
      rw [Eh r (by omega) (Dq t r) (fun row => ¬ (row.length = t.2.2.length ∧ ∀ p ∈ row, 0 ≤ p ∧ p ≤ 7)) false (fun k hk => by
        rw [Dq, if_pos (by omega), AV (List.getElem?_eq_getElem hk), Option.bind_some]
        have hb := hw _ (List.getElem_mem hk)
        generalize r[k] = x at hb ⊢
        by_cases d1 : (x.length : Int) ≠ (t.2.2.length : Int)
        · rw [if_pos d1, Option.bind_some, if_pos rfl, if_pos (fun h => d1 (by omega))]
        · rw [if_neg d1, PS (by omega), Option.bind_some]
          by_cases d2 : ∃ y ∈ x, ¬ (0 ≤ y ∧ y ≤ 7)
          · rw [decide_eq_true d2, Option.bind_some, if_pos rfl, if_pos (fun h => by obtain ⟨y, hy, hn⟩ := d2; exact hn (h.2 y hy))]
          · rw [decide_eq_false d2, Option.bind_some, if_neg (by decide), if_neg (fun h => h ⟨by omega, fun p hp => Decidable.not_not.1 fun hn => d2 ⟨p, hp, hn⟩⟩)]) (by rw [Dq, if_neg (by omega)])]
      by_cases d : ∃ row ∈ r, ¬ (row.length = t.2.2.length ∧ ∀ p ∈ row, 0 ≤ p ∧ p ≤ 7)
      · rw [if_pos d]
        show some false = _
        rw [decide_eq_false (fun h => by obtain ⟨row, hm, hn⟩ := d; exact hn (h.2.2 row hm))]
      · rw [if_neg d]
        show some true = _
        rw [decide_eq_true (⟨c, c2, fun row hm => Decidable.not_not.1 fun hn => d ⟨row, hm, hn⟩⟩ : EY t r)]
    · rw [decide_eq_true (show (r.length : Int) ≠ t.1 from c2), Option.bind_some, if_pos rfl, decide_eq_false (fun h => c2 h.2.1)]
  · rw [decide_eq_false c, if_pos (by decide), Option.bind_some, if_pos rfl, decide_eq_false (fun h => c h.1)]
def KP (t : Tp) (r : Rt) (h sw : Int) : Prop := t.2.2[h.toNat]? = some (sw, FQ r sw h)
noncomputable def nx (t : Tp) (r : Rt) (h sw : Int) : Option Int := if (pe t sw (FQ r sw h)).2.2.2 = true then some (pe t sw (FQ r sw h)).1 else none
inductive Wy (t : Tp) (r : Rt) (h : Int) : List Int → Prop
  | last {s : Int} : KP t r h s → Wy t r h [s]
  | go {s v : Int} {l : List Int} : ¬ KP t r h s → nx t r h s = some v → Wy t r h (v :: l) → Wy t r h (s :: v :: l)
theorem Se {t : Tp} {r : Rt} (hok : KX t) {h s v : Int} (e : nx t r h s = some v) : (0 ≤ s ∧ s < t.1) ∧ 0 ≤ v ∧ v < t.1 := by
  unfold nx at e
  by_cases c : (pe t s (FQ r s h)).2.2.2 = true
  · rw [if_pos c] at e
    have := Vb hok c
    rw [← Option.some.inj e]; exact this
  · rw [if_neg c] at e; cases e
theorem Wy.det {t : Tp} {r : Rt} {h : Int} {a b : List Int} (ha : Wy t r h a) : Wy t r h b → a.head? = b.head? → a = b := by
  induction ha generalizing b with
  | last hs =>
    intro hb e
    cases hb with
    | last _ => simp at e; rw [e]
    | go hn _ _ => simp at e; rw [e] at hs; exact absurd hs hn
  | go hn hx hw ih =>
    intro hb e
    cases hb with
    | last hs => simp at e; rw [← e] at hs; exact absurd hs hn
    | go hn2 hx2 hw2 =>
      simp at e
      subst e
      have := Option.some.inj (hx.symm.trans hx2)
      subst this
      rw [ih hw2 rfl]
theorem Wy.tail {t : Tp} {r : Rt} {h : Int} : ∀ {a b : List Int}, Wy t r h (a ++ b) → b ≠ [] → Wy t r h b
  | [], b, hw, _ => hw
  | [x], b, hw, hb => by
    cases b with
    | nil => exact absurd rfl hb
    | cons y b =>
      cases hw with
      | go _ _ h => exact h
  | x :: y :: a, b, hw, hb => by
    cases hw with
    | go _ _ h => exact Wy.tail (a := y :: a) h hb
theorem Wy.nodup {t : Tp} {r : Rt} {h : Int} : ∀ {a : List Int}, Wy t r h a → a.Nodup
  | [], _ => List.nodup_nil
  | x :: a, hw => by
    rw [List.nodup_cons]
    constructor
    · intro hm
      obtain ⟨p, q, e⟩ := List.append_of_mem hm
      have h2 : Wy t r h (x :: q) := Wy.tail (a := x :: p) (b := x :: q) (by rw [List.cons_append, ← e]; exact hw) (by simp)
      have h3 := congrArg List.length (Wy.det hw h2 rfl)
      have h4 := congrArg List.length e
      simp only [List.length_cons, List.length_append] at h3 h4; omega
    · cases a with
      | nil => exact List.nodup_nil
      | cons y a => exact Wy.nodup (Wy.tail (a := [x]) hw (by simp))
theorem Wy.in_ {t : Tp} {r : Rt} (hok : KX t) {h : Int} {a : List Int} (hw : Wy t r h a) (h0 : ∀ s, a.head? = some s → 0 ≤ s ∧ s < t.1) : ∀ s ∈ a, 0 ≤ s ∧ s < t.1 := by
  induction hw with
  | last _ => intro s hs; rw [List.mem_singleton.1 hs]; exact h0 _ rfl
  | go _ hx _ ih =>
    intro s hs
    have := Se hok hx
    rcases List.mem_cons.1 hs with h | h
    · rw [h]; exact this.1
    · exact ih (fun s e => by rw [← Option.some.inj e]; exact this.2) s h
theorem Md (l : List Int) (hl : l.length ≤ 1000000000) (x : Int) : CA l x = some (decide (x ∈ l)) := by
  unfold CA
  rw [Eh l (by omega) (Cb l x) (fun y => x = y) true (fun k hk => by
    rw [Cb, if_pos (by omega), AV (List.getElem?_eq_getElem hk), Option.bind_some]) (by rw [Cb, if_neg (by omega)])]
  by_cases c : x ∈ l
  · rw [if_pos ⟨x, c, rfl⟩, decide_eq_true c]; rfl
  · rw [if_neg (fun ⟨y, hy, e⟩ => c (e ▸ hy)), decide_eq_false c]; rfl
theorem PR {t : Tp} {r : Rt} (ho : EY t r) {sw h : Int} (hs : 0 ≤ sw ∧ sw < t.1) (hh : 0 ≤ h ∧ h < (t.2.2.length : Int)) : E6 t r sw h = some ((pe t sw (FQ r sw h)).1, (pe t sw (FQ r sw h)).2.2.2) := by
  obtain ⟨row, e1, e2, e3, _⟩ := ho.port hs hh
  have h2 := ho.2.1
  unfold E6
  rw [if_neg (by omega), if_neg (by omega), if_neg (by omega), e1, Option.bind_some, Option.bind_some, decide_eq_false (by omega), if_neg (by decide), Option.bind_some, e3, Option.bind_some, Qg ho.1, Option.bind_some]
def Nw (t : Tp) (r : Rt) (h sw : Int) (q : List Int × Int) : Prop := (q.2 = 0 ∧ Wy t r h q.1 ∧ q.1.head? = some sw) ∨ ((q.2 = 12 ∨ q.2 = 13) ∧ q.1 = [] ∧ ∀ l, ¬ Wy t r h (sw :: l))
theorem UT {t : Tp} {r : Rt} (ho : EY t r) {sw h : Int} (hs : 0 ≤ sw ∧ sw < t.1) (hh : 0 ≤ h ∧ h < (t.2.2.length : Int)) : ∃ q, E7 t r sw h = some q ∧ Nw t r h sw q := by
  have hok := ho.1
  have h8 : t.1 ≤ 8 := hok.1.2.1
  obtain ⟨e, he, hP⟩ := R6 (step := C0 t r h)
    (fun s => ∃ pre, s.2 = pre ++ [s.1] ∧ s.2.Nodup ∧ (∀ x ∈ s.2, 0 ≤ x ∧ x < t.1) ∧ s.2.head? = some sw ∧ (∀ l, Wy t r h (s.1 :: l) → Wy t r h (pre ++ s.1 :: l)) ∧ ∀ l, Wy t r h (sw :: l) → ∃ l', sw :: l = pre ++ s.1 :: l' ∧ Wy t r h (s.1 :: l'))
    (fun s => 9 - s.2.length)
    (fun e => match e with | .inl w => Wy t r h w ∧ w.head? = some sw | .inr q => (q.2 = 12 ∨ q.2 = 13) ∧ q.1 = [] ∧ ∀ l, ¬ Wy t r h (sw :: l))
    (by
      rintro ⟨a, w⟩ ⟨pre, e1, e2, e3, e4, e5, e6⟩
      simp only at e1 e2 e3 e4 e5 e6
      have ha := e3 a (by rw [e1]; simp)
      have hlen : w.length ≤ 8 := Nat.le_trans (Jp t.1.toNat w e2 (fun x hx => by have := e3 x hx; omega)) (by omega)
      obtain ⟨row, f1, f2, f3, _⟩ := ho.port ha hh
      obtain ⟨k, g1, g2⟩ := Nx hok hh.1 hh.2 a (FQ r a h)
      by_cases c : k = h
      · refine .inr ⟨.inl w, ?_, ?_, e4⟩
        · rw [C0, f1, Option.bind_some, f3, Option.bind_some, g1, Option.bind_some, if_neg (by simpa using c)]
        · rw [e1]; exact e5 [] (.last (g2.1 c))
      · have hnh : ¬ KP t r h a := fun hm => c (g2.2 hm)
        by_cases c2 : (pe t a (FQ r a h)).2.2.2 = true
        · have hnx : nx t r h a = some (pe t a (FQ r a h)).1 := by unfold nx; rw [if_pos c2]
          have hv := (Se hok hnx).2
          by_cases c3 : (pe t a (FQ r a h)).1 ∈ w
          · refine .inr ⟨.inr ([], 12), ?_, .inl rfl, rfl, fun l hl => ?_⟩
            · rw [C0, f1, Option.bind_some, f3, Option.bind_some, g1, Option.bind_some, if_pos c, PR ho ha hh, Option.bind_some, if_neg (by simp [c2]), Md w (by omega), Option.bind_some, decide_eq_true c3, if_pos rfl]
            · obtain ⟨l', k1, k2⟩ := e6 l hl
              cases k2 with
              | last hm => exact hnh hm
              | go _ hx hw =>
                rename_i v l2 _
                have hv2 := Option.some.inj (hx.symm.trans hnx)
                have hnd := Wy.nodup hl
                rw [k1, show pre ++ a :: v :: l2 = w ++ v :: l2 by rw [e1]; simp] at hnd
                exact (List.nodup_append.1 hnd).2.2 v (by rw [hv2]; exact c3) v (List.mem_cons_self ..) rfl
          · refine .inl ⟨((pe t a (FQ r a h)).1, w ++ [(pe t a (FQ r a h)).1]), ?_, ⟨w, rfl, ?_, ?_, ?_, ?_, ?_⟩, ?_⟩
            · rw [C0, f1, Option.bind_some, f3, Option.bind_some, g1, Option.bind_some, if_pos c, PR ho ha hh, Option.bind_some, if_neg (by simp [c2]), Md w (by omega), Option.bind_some, decide_eq_false c3, if_neg (by decide), Dc (by simp; omega), Option.bind_some]
            · rw [List.nodup_append]
              exact ⟨e2, by simp, fun x hx y hy => by rw [List.mem_singleton.1 hy]; intro ee; subst ee; exact c3 hx⟩
            · intro x hx
              rcases List.mem_append.1 hx with hx | hx
              · exact e3 x hx
              · rw [List.mem_singleton.1 hx]; exact hv
            · rw [List.head?_append, e4]; rfl
            · intro l hl
              have := e5 ((pe t a (FQ r a h)).1 :: l) (.go hnh hnx hl)
              simp only
              rw [e1, List.append_assoc]; exact this
            · intro l hl
              obtain ⟨l', k1, k2⟩ := e6 l hl
              cases k2 with
              | last hm => exact absurd hm hnh
              | go _ hx hw =>
                rename_i v l2 _
                have hv2 := Option.some.inj (hx.symm.trans hnx)
                subst hv2
                exact ⟨l2, by rw [k1, e1]; simp, hw⟩
            · simp; omega
        · refine .inr ⟨.inr ([], 13), ?_, .inr rfl, rfl, fun l hl => ?_⟩
          · rw [C0, f1, Option.bind_some, f3, Option.bind_some, g1, Option.bind_some, if_pos c, PR ho ha hh, Option.bind_some, if_pos (by simpa using c2)]
          · obtain ⟨l', k1, k2⟩ := e6 l hl
            cases k2 with
            | last hm => exact hnh hm
            | go _ hx hw =>
              unfold nx at hx
              rw [if_neg c2] at hx; cases hx)
    (sw, [sw]) ⟨[], rfl, by simp, by simpa using hs, rfl, fun l h => h, fun l h => ⟨l, rfl, h⟩⟩
  unfold E7
  rw [he]
  cases e with
  | inl w => exact ⟨(w, 0), rfl, .inl ⟨rfl, hP⟩⟩
  | inr q => exact ⟨q, rfl, .inr hP⟩
theorem Nw.of {t : Tp} {r : Rt} {h sw : Int} {q : List Int × Int} (hq : Nw t r h sw q) {l : List Int} (hl : Wy t r h (sw :: l)) : q = (sw :: l, 0) := by
  rcases hq with ⟨h1, h2, h3⟩ | ⟨_, _, h3⟩
  · exact Prod.ext (Wy.det h2 hl h3) h1
  · exact absurd hl (h3 l)
def IQ (t : Tp) (r : Rt) : Prop := EY t r ∧ ∀ sw h : Int, 0 ≤ sw ∧ sw < t.1 → 0 ≤ h ∧ h < (t.2.2.length : Int) → ∃ l, Wy t r h (sw :: l)
noncomputable instance IQ.dec (t : Tp) (r : Rt) : Decidable (IQ t r) := Classical.propDecidable _
theorem Nw.zero {t : Tp} {r : Rt} {h sw : Int} {q : List Int × Int} (hq : Nw t r h sw q) : q.2 = 0 ↔ ∃ l, Wy t r h (sw :: l) := by
  rcases hq with ⟨h1, h2, h3⟩ | ⟨h1, h2, h3⟩
  · refine ⟨fun _ => ?_, fun _ => h1⟩
    cases hl : q.1 with
    | nil => rw [hl] at h3; cases h3
    | cons a l =>
      rw [hl] at h2 h3
      have : a = sw := by simpa using h3
      subst this; exact ⟨l, h2⟩
  · exact ⟨fun h => by omega, fun ⟨l, hl⟩ => absurd hl (h3 l)⟩
open Classical in
theorem Sw {t : Tp} {r : Rt} (hr : r.length ≤ 12) (hw : ∀ row ∈ r, row.length ≤ 1000000000) : EJ t r = some (decide (IQ t r)) := by
  unfold EJ
  rw [S1 hr hw, Option.bind_some]
  by_cases c : EY t r
  · rw [decide_eq_true c, if_neg (by decide)]
    have hlen := c.2.1
    have hin : ∀ (k : Nat), k < r.length → ∃ row, ix r (k : Int) = some row ∧ Au (Di t r (k : Int) row) 0 = some (if ∃ h : Nat, h < t.2.2.length ∧ ¬ ∃ l, Wy t r (h : Int) ((k : Int) :: l) then .inr (.inr (.inr false)) else .inl ()) := fun k hk => by
      obtain ⟨row, f1, f2, f3, _⟩ := c.row (sw := (k : Int)) (by omega)
      refine ⟨row, f1, ?_⟩
      have := J7 (ε := Int ⊕ (Unit ⊕ Bool)) row.length (Di t r (k : Int) row) (fun h => if ¬ ∃ l, Wy t r (h : Int) ((k : Int) :: l) then some (.inr (.inr false)) else none) (fun h hh => by
        obtain ⟨q, e, hq⟩ := UT c (sw := (k : Int)) (h := (h : Int)) (by omega) (by omega)
        rw [Di, if_pos (by omega), e, Option.bind_some]
        have hz := hq.zero
        by_cases d : ∃ l, Wy t r (h : Int) ((k : Int) :: l)
        · rw [if_neg (fun h => h (hz.2 d)), if_neg (fun h => h d), AJ (by omega)]; rfl
        · rw [if_pos (fun h => d (hz.1 h)), if_pos d]) (by rw [Di, if_neg (by omega)])
      rw [this]
      by_cases d : ∃ h : Nat, h < t.2.2.length ∧ ¬ ∃ l, Wy t r (h : Int) ((k : Int) :: l)
      · rw [if_pos d]
        obtain ⟨h, h1, h2⟩ := d
        cases e : (List.range row.length).findSome? (fun h : Nat => if ¬ ∃ l, Wy t r (h : Int) ((k : Int) :: l) then some (.inr (.inr false) : Int ⊕ (Unit ⊕ Bool)) else none) with
        | none =>
          rw [List.findSome?_eq_none_iff] at e
          have := e h (List.mem_range.2 (by omega))
          rw [if_pos h2] at this; cases this
        | some x =>
          obtain ⟨y, _, hy⟩ := List.exists_of_findSome?_eq_some e
          by_cases d2 : ¬ ∃ l, Wy t r (y : Int) ((k : Int) :: l)
          · rw [if_pos d2] at hy; rw [← Option.some.inj hy]
          · rw [if_neg d2] at hy; cases hy
      · rw [if_neg d, Is fun h hh => if_neg fun h2 => d ⟨h, by omega, h2⟩]
    have := J7 (ε := Bool) r.length (DI t r) (fun k => if ∃ h : Nat, h < t.2.2.length ∧ ¬ ∃ l, Wy t r (h : Int) ((k : Int) :: l) then some false else none) (fun k hk => by
      obtain ⟨row, f1, f2⟩ := hin k hk
      rw [DI, if_pos (by omega), f1, Option.bind_some, f2]
      by_cases d : ∃ h : Nat, h < t.2.2.length ∧ ¬ ∃ l, Wy t r (h : Int) ((k : Int) :: l)
      · rw [if_pos d, if_pos d]; rfl
      · rw [if_neg d, if_neg d, AJ (by omega)]; rfl) (by rw [DI, if_neg (by omega)])
    rw [this]
    by_cases d : IQ t r
    · rw [decide_eq_true d, Is fun k hk => if_neg fun ⟨h, h1, h2⟩ => h2 (d.2 _ _ (by omega) (by omega))]; rfl
    · rw [decide_eq_false d]
      cases e : (List.range r.length).findSome? (fun k : Nat => if ∃ h : Nat, h < t.2.2.length ∧ ¬ ∃ l, Wy t r (h : Int) ((k : Int) :: l) then some false else none) with
      | none =>
        rw [List.findSome?_eq_none_iff] at e
        refine absurd ⟨c, fun sw h hs hh => Classical.byContradiction fun hn => ?_⟩ d
        have := e sw.toNat (List.mem_range.2 (by omega))
        rw [if_pos ⟨h.toNat, by omega, by rw [show ((h.toNat : Nat) : Int) = h by omega, show ((sw.toNat : Nat) : Int) = sw by omega]; exact hn⟩] at this
        cases this
      | some x =>
        obtain ⟨y, _, hy⟩ := List.exists_of_findSome?_eq_some e
        split at hy
        · rw [← Option.some.inj hy]; rfl
        · cases hy
  · rw [decide_eq_false c, if_pos (by decide), decide_eq_false (fun h => c h.1)]
end Go.Proofs.Ythhoflfhegfmcaa
