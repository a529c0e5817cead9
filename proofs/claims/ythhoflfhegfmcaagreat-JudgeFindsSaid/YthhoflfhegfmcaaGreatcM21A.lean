/- Layer 25: topologies, hosts, walks. Conditions: none. -/
import Derived.Test.YthhoflfhegfmcaaGreatcLP
import Derived.Test.YthhoflfhegfmcaaGreatcA7
namespace Go.Proofs.YthhoflfhegfmcaaGreat
set_option linter.unusedVariables false
set_option linter.unusedSimpArgs false
open Go Go.RowKit
abbrev Lk := Int × Int × Int × Int × Int × Int
abbrev Tp := Int × List Lk × List (Int × Int)
abbrev Ix (l : Lk) : List (Int × Int) := [(l.1, l.2.1), (l.2.2.1, l.2.2.2.1)]
def pl (t : Tp) : List (Int × Int) := t.2.1.flatMap Ix ++ t.2.2
abbrev MR (t : Tp) (q : Int × Int) : Prop := 0 ≤ q.1 ∧ q.1 < t.1 ∧ 0 ≤ q.2 ∧ q.2 ≤ 7 ∧ (pl t).count q = 1
abbrev Wq (t : Tp) (l : Lk) : Prop := l.1 ≠ l.2.2.1 ∧ 1 ≤ l.2.2.2.2.1 ∧ l.2.2.2.2.1 ≤ l.2.2.2.2.2 ∧ l.2.2.2.2.2 ≤ 1000 ∧ MR t (l.1, l.2.1) ∧ MR t (l.2.2.1, l.2.2.2.1)
abbrev OD (t : Tp) : Prop := (1 ≤ t.1 ∧ t.1 ≤ 8 ∧ t.2.1.length ≤ 24 ∧ t.2.2.length ≤ 8) ∧ (∀ l ∈ t.2.1, Wq t l) ∧ ∀ h ∈ t.2.2, MR t h
abbrev Pr := Int × Int × Int × Bool
def Uv (i : Nat) (x : Lk) (a p : Int) (R : Pr) : Prop := (a = x.1 ∧ p = x.2.1 ∧ R = (x.2.2.1, x.2.2.2.1, (i : Int), true)) ∨ (¬ (a = x.1 ∧ p = x.2.1) ∧ a = x.2.2.1 ∧ p = x.2.2.2.1 ∧ R = (x.1, x.2.1, (i : Int), true))
theorem MD {t : Tp} (hl : t.2.1.length ≤ 24) (a p : Int) : ∃ R : Pr, F5 t a p = some R ∧ ((R = (0, 0, 0, false) ∧ ∀ x ∈ t.2.1, (a, p) ∉ Ix x) ∨ ∃ i x, t.2.1[i]? = some x ∧ Uv i x a p R) := by
  have key : ∀ (d k : Nat), k + d = t.2.1.length → (∀ x ∈ t.2.1.take k, (a, p) ∉ Ix x) → ∃ R : Pr, GT (Aq (D9 t a p) (k : Int)) (fun _ => some (0, 0, 0, false)) = some R ∧ ((R = (0, 0, 0, false) ∧ ∀ x ∈ t.2.1, (a, p) ∉ Ix x) ∨ ∃ i x, t.2.1[i]? = some x ∧ Uv i x a p R) := by
    intro d
    induction d with
    | zero =>
      intro k hk hn
      rw [List.take_of_length_le (by omega)] at hn
      exact ⟨_, by rw [Av (by rw [D9, if_neg (by omega)])]; rfl, .inl ⟨rfl, hn⟩⟩
    | succ d ih =>
      intro k hk hn
      have hkl : k < t.2.1.length := by omega
      have hg := List.getElem?_eq_getElem hkl
      by_cases c1 : a = t.2.1[k].1 ∧ p = t.2.1[k].2.1
      · exact ⟨_, by rw [Av (by rw [D9, if_pos (by omega), BA hg, Option.bind_some, if_pos c1])]; rfl, .inr ⟨k, _, hg, .inl ⟨c1.1, c1.2, rfl⟩⟩⟩
      by_cases c2 : a = t.2.1[k].2.2.1 ∧ p = t.2.1[k].2.2.2.1
      · exact ⟨_, by rw [Av (by rw [D9, if_pos (by omega), BA hg, Option.bind_some, if_neg c1, if_pos c2])]; rfl, .inr ⟨k, _, hg, .inr ⟨c1, c2.1, c2.2, rfl⟩⟩⟩
      have hst : D9 t a p (k : Int) = some (.inl ((k + 1 : Nat) : Int)) := by
        rw [D9, if_pos (by omega), BA hg, Option.bind_some, if_neg c1, if_neg c2, Aj (by omega)]; rfl
      rw [A7 hst]
      refine ih (k + 1) (by omega) (fun x hx => ?_)
      rw [List.take_succ_eq_append_getElem hkl] at hx
      rcases List.mem_append.1 hx with hx | hx
      · exact hn x hx
      · rw [List.mem_singleton] at hx
        subst hx
        intro hm
        simp only [Ix, List.mem_cons, Prod.mk.injEq, List.not_mem_nil, or_false] at hm
        exact hm.elim c1 c2
  exact key t.2.1.length 0 (by omega) (fun x hx => by simp at hx)
theorem Qy {i : Nat} {x : Lk} {a p : Int} {R : Pr} (h : Uv i x a p R) : (a, p) ∈ Ix x ∧ (R.1, R.2.1) ∈ Ix x := by
  rcases h with ⟨h1, h2, h3⟩ | ⟨_, h1, h2, h3⟩
  · subst h1 h2 h3; simp
  · subst h1 h2 h3; simp
theorem U6 {t : Tp} {x : Lk} {q : Int × Int} (hx : x ∈ t.2.1) (hq : q ∈ Ix x) (h1 : (pl t).count q = 1) : q ∉ t.2.2 := fun hh => by
  have h2 : 0 < (t.2.1.flatMap Ix).count q := List.count_pos_iff.2 (List.mem_flatMap.2 ⟨x, hx, hq⟩)
  have h3 : 0 < t.2.2.count q := List.count_pos_iff.2 hh
  unfold pl at h1
  rw [List.count_append] at h1; omega
theorem Jw {α : Type} [BEq α] [LawfulBEq α] : ∀ {l : List α}, l.Nodup ↔ ∀ q ∈ l, l.count q = 1
  | [] => by simp
  | x :: l => by
    rw [List.nodup_cons, Jw]
    constructor
    · rintro ⟨h1, h2⟩ q hq
      rw [List.count_cons]
      by_cases c : x = q
      · subst c
        rw [List.count_eq_zero_of_not_mem h1]; simp
      · rcases List.mem_cons.1 hq with h | h
        · exact absurd h.symm c
        · rw [h2 q h, if_neg (by simpa using c)]
    · intro h
      have hx := h x (List.mem_cons_self ..)
      rw [List.count_cons, if_pos (by simp)] at hx
      have h1 : x ∉ l := fun hm => by have := List.count_pos_iff.2 hm; omega
      refine ⟨h1, fun q hq => ?_⟩
      have := h q (List.mem_cons_of_mem _ hq)
      rw [List.count_cons, if_neg (by simp; intro e; subst e; exact h1 hq)] at this
      exact this
abbrev Ns (l : List (Int × Int)) : List ((Int × Int) × Unit) := l.map fun q => (q, ())
theorem Om : ∀ (l : List (Int × Int)) (q : Int × Int), (MW (Ns l) q).isSome = decide (q ∈ l)
  | [], q => by simp [Ns, MW]
  | x :: l, q => by
    show (if q = x then some () else MW (Ns l) q).isSome = _
    by_cases c : q = x
    · rw [if_pos c, decide_eq_true (by rw [c]; exact List.mem_cons_self ..)]; rfl
    · rw [if_neg c, Om l q]
      exact decide_eq_decide.2 ⟨fun h => List.mem_cons_of_mem _ h, fun h => (List.mem_cons.1 h).resolve_left c⟩
theorem Qj : ∀ (l : List (Int × Int)) (q : Int × Int), q ∉ l → MG (Ns l) q () = Ns (l ++ [q])
  | [], q, _ => rfl
  | x :: l, q, h => by
    show (if q = x then (q, ()) :: Ns l else (x, ()) :: MG (Ns l) q ()) = _
    rw [if_neg (fun e => h (by rw [e]; exact List.mem_cons_self ..)), Qj l q (fun e => h (List.mem_cons_of_mem _ e))]; rfl
abbrev Xh (t : Tp) (q : Int × Int) : Prop := 0 ≤ q.1 ∧ q.1 < t.1 ∧ 0 ≤ q.2 ∧ q.2 ≤ 7
theorem S0 {t : Tp} (hl : t.2.1.length ≤ 24) (hh : t.2.2.length ≤ 8) : Gs t = some (pl t) := by
  have fl : ∀ l : List Lk, (l.flatMap Ix).length = 2 * l.length := fun l => by
    induction l with
    | nil => rfl
    | cons x l ih => rw [List.flatMap_cons, List.length_append, ih, List.length_cons]; simp; omega
  obtain ⟨s, h1, h2⟩ := DM t.2.1.length (fun (s : List (Int × Int)) (k : Nat) => (s, (k : Int))) (Ee t) id (fun s k => s = (t.2.1.take k).flatMap Ix)
    (fun s k hk hI => by
      have hb : s.length ≤ 100 := by rw [hI, fl, List.length_take]; omega
      refine ⟨s ++ Ix t.2.1[k], ?_, ?_⟩
      · rw [Ee, if_pos (by omega), BA (List.getElem?_eq_getElem hk), Option.bind_some, EC (by simp; omega), Option.bind_some, Aj (by omega)]; rfl
      · rw [hI, List.take_succ_eq_append_getElem hk, List.flatMap_append, List.flatMap_cons, List.flatMap_nil, List.append_nil])
    (fun s _ => by rw [Ee, if_neg (by omega)]; rfl) [] (by simp)
  have e1 : Aq (Ee t) ([], 0) = some s := h2
  rw [List.take_length] at h1
  have hb1 : s.length ≤ 100 := by rw [h1, fl]; omega
  obtain ⟨s2, g1, g2⟩ := DM t.2.2.length (fun (s : List (Int × Int)) (k : Nat) => (s, (k : Int))) (Eg t) id (fun s2 k => s2 = s ++ t.2.2.take k)
    (fun s2 k hk hI => by
      have hb : s2.length ≤ 200 := by rw [hI, List.length_append, List.length_take]; omega
      refine ⟨s2 ++ [t.2.2[k]], ?_, ?_⟩
      · rw [Eg, if_pos (by omega), BA (List.getElem?_eq_getElem hk), Option.bind_some, EC (by simp; omega), Option.bind_some, Aj (by omega)]; rfl
      · rw [hI, List.take_succ_eq_append_getElem hk, List.append_assoc])
    (fun s _ => by rw [Eg, if_neg (by omega)]; rfl) s (by simp)
  have e2 : Aq (Eg t) (s, 0) = some s2 := g2
  rw [List.take_length, h1] at g1
  unfold Gs
  rw [e1, Option.bind_some, e2, g1]; rfl
theorem Rr {t : Tp} {L : List (Int × Int)} (hL : L.length ≤ 1000) : Aq (DD t L) (0, []) = some (if (∀ q ∈ L, Xh t q) ∧ L.Nodup then .inl (Ns L) else .inr false) := by
  have key : ∀ (d k : Nat), k + d = L.length → (∀ q ∈ L.take k, Xh t q) → (L.take k).Nodup → Aq (DD t L) ((k : Int), Ns (L.take k)) = some (if (∀ q ∈ L, Xh t q) ∧ L.Nodup then .inl (Ns L) else .inr false) := by
    intro d
    induction d with
    | zero =>
      intro k hk h1 h2
      rw [List.take_of_length_le (by omega)] at h1 h2 ⊢
      rw [if_pos ⟨h1, h2⟩]
      exact Av (by rw [DD, if_neg (by omega)])
    | succ d ih =>
      intro k hk h1 h2
      have hkl : k < L.length := by omega
      have hm := List.getElem_mem hkl
      have hg := List.getElem?_eq_getElem hkl
      by_cases c1 : Xh t L[k]
      · by_cases c2 : L[k] ∈ L.take k
        · rw [if_neg (fun hh => by
            have h3 := hh.2
            rw [← List.take_append_drop (k + 1) L, List.take_succ_eq_append_getElem hkl] at h3
            have h4 := (List.nodup_append.1 (List.nodup_append.1 h3).1).2.2
            exact h4 _ c2 _ (List.mem_singleton.2 rfl) rfl)]
          exact Av (by
            rw [DD, if_pos (by omega), BA hg, Option.bind_some, if_neg (by simp; omega), Om, decide_eq_true c2, if_pos rfl])
        · have hst : DD t L ((k : Int), Ns (L.take k)) = some (.inl (((k + 1 : Nat) : Int), Ns (L.take (k + 1)))) := by
            rw [DD, if_pos (by omega), BA hg, Option.bind_some, if_neg (by simp; omega), Om, decide_eq_false c2, if_neg (by decide), Qj _ _ c2, Aj (by omega), List.take_succ_eq_append_getElem hkl]; rfl
          rw [A7 hst]
          refine ih (k + 1) (by omega) (fun q hq => ?_) ?_
          · rw [List.take_succ_eq_append_getElem hkl] at hq
            rcases List.mem_append.1 hq with h | h
            · exact h1 q h
            · rw [List.mem_singleton.1 h]; exact c1
          · rw [List.take_succ_eq_append_getElem hkl, List.nodup_append]
            exact ⟨h2, by simp, fun a ha b hb => by rw [List.mem_singleton.1 hb]; intro e; subst e; exact c2 ha⟩
      · rw [if_neg (fun hh => c1 (hh.1 _ hm))]
        exact Av (by
          rw [DD, if_pos (by omega), BA hg, Option.bind_some, if_pos (by simp; omega)])
  exact key L.length 0 (by omega) (by simp) (by simp)
theorem Rz {l : List Lk} (hl : l.length ≤ 1000) : Bl l = some (decide (∃ x ∈ l, Cz x = true)) := by
  have key : ∀ (d k : Nat), k + d = l.length → (∀ x ∈ l.take k, ¬ Cz x = true) → ∃ i : Int, GT (Aq (AQ l) (k : Int)) (fun _ => some (-1)) = some i ∧ (0 ≤ i ↔ ∃ x ∈ l, Cz x = true) := by
    intro d
    induction d with
    | zero =>
      intro k hk hn
      rw [List.take_of_length_le (by omega)] at hn
      exact ⟨-1, by rw [Av (by rw [AQ, if_neg (by omega)])]; rfl, ⟨fun h => by omega, fun ⟨x, hx, h⟩ => absurd h (hn x hx)⟩⟩
    | succ d ih =>
      intro k hk hn
      have hkl : k < l.length := by omega
      have hg := List.getElem?_eq_getElem hkl
      by_cases c : Cz l[k] = true
      · exact ⟨(k : Int), by rw [Av (by rw [AQ, if_pos (by omega), BA hg, Option.bind_some, if_pos c])]; rfl, ⟨fun _ => ⟨_, List.getElem_mem hkl, c⟩, fun _ => by omega⟩⟩
      · have hst : AQ l (k : Int) = some (.inl ((k + 1 : Nat) : Int)) := by
          rw [AQ, if_pos (by omega), BA hg, Option.bind_some, if_neg c, Aj (by omega)]; rfl
        rw [A7 hst]
        refine ih (k + 1) (by omega) (fun x hx => ?_)
        rw [List.take_succ_eq_append_getElem hkl] at hx
        rcases List.mem_append.1 hx with h | h
        · exact hn x h
        · rw [List.mem_singleton.1 h]; exact c
  obtain ⟨i, h1, h2⟩ := key l.length 0 (by omega) (by simp)
  have h1' : GT (Aq (AQ l) 0) (fun _ => some (-1)) = some i := h1
  unfold Bl BU
  rw [h1', Option.bind_some]
  congr 1
  exact decide_eq_decide.2 h2
theorem U7 {t : Tp} : Hg t = some (decide (OD t)) := by
  unfold Hg
  by_cases c : t.1 < 1 ∨ 8 < t.1 ∨ 24 < (t.2.1.length : Int) ∨ 8 < (t.2.2.length : Int)
  · rw [if_pos (by simpa using c), decide_eq_false (fun h => by have := h.1; omega)]
  · rw [if_neg (by simpa using c)]
    have hl : t.2.1.length ≤ 24 := by omega
    have hh : t.2.2.length ≤ 8 := by omega
    have hpl : (pl t).length ≤ 1000 := by
      have fl : ∀ l : List Lk, (l.flatMap Ix).length = 2 * l.length := fun l => by
        induction l with
        | nil => rfl
        | cons x l ih => rw [List.flatMap_cons, List.length_append, ih, List.length_cons]; simp; omega
      unfold pl
      rw [List.length_append, fl]; omega
    have hmem : ∀ q, q ∈ pl t ↔ (∃ x ∈ t.2.1, q ∈ Ix x) ∨ q ∈ t.2.2 := fun q => by
      unfold pl
      rw [List.mem_append, List.mem_flatMap]
    rw [S0 hl hh, Option.bind_some, Rr hpl, Rz (by omega)]
    have hok : OD t ↔ ((∀ q ∈ pl t, Xh t q) ∧ (pl t).Nodup) ∧ ¬ ∃ x ∈ t.2.1, Cz x = true := by
      have hw : ∀ x : Lk, ¬ Cz x = true ↔ (x.1 ≠ x.2.2.1 ∧ 1 ≤ x.2.2.2.2.1 ∧ x.2.2.2.2.1 ≤ x.2.2.2.2.2 ∧ x.2.2.2.2.2 ≤ 1000) := fun x => by
        unfold Cz
        simp only [Bool.or_eq_true, decide_eq_true_eq]
        omega
      constructor
      · rintro ⟨h0, h1, h2⟩
        have hp : ∀ q ∈ pl t, MR t q := fun q hq => by
          rcases (hmem q).1 hq with ⟨x, hx, hq⟩ | hq
          · obtain ⟨_, _, _, _, k5, k6⟩ := h1 x hx
            rcases List.mem_cons.1 hq with h | h
            · rw [h]; exact k5
            · rw [List.mem_singleton.1 h]; exact k6
          · exact h2 q hq
        refine ⟨⟨fun q hq => ?_, Jw.2 fun q hq => (hp q hq).2.2.2.2⟩, fun ⟨x, hx, hwx⟩ => ?_⟩
        · obtain ⟨a1, a2, a3, a4, _⟩ := hp q hq
          exact ⟨a1, a2, a3, a4⟩
        · obtain ⟨k1, k2, k3, k4, _⟩ := h1 x hx
          exact (hw x).2 ⟨k1, k2, k3, k4⟩ hwx
      · rintro ⟨⟨h1, h2⟩, h3⟩
        have hp : ∀ q ∈ pl t, MR t q := fun q hq => by
          obtain ⟨a1, a2, a3, a4⟩ := h1 q hq
          exact ⟨a1, a2, a3, a4, Jw.1 h2 q hq⟩
        refine ⟨by omega, fun x hx => ?_, fun q hq => hp q ((hmem q).2 (.inr hq))⟩
        obtain ⟨k1, k2, k3, k4⟩ := (hw x).1 (fun h => h3 ⟨x, hx, h⟩)
        exact ⟨k1, k2, k3, k4, hp _ ((hmem _).2 (.inl ⟨x, hx, by simp⟩)), hp _ ((hmem _).2 (.inl ⟨x, hx, by simp⟩))⟩
    by_cases c1 : (∀ q ∈ pl t, Xh t q) ∧ (pl t).Nodup
    · rw [if_pos c1]
      show some (!decide (∃ x ∈ t.2.1, Cz x = true)) = _
      by_cases c2 : ∃ x ∈ t.2.1, Cz x = true
      · rw [decide_eq_true c2, decide_eq_false (fun h => (hok.1 h).2 c2)]; rfl
      · rw [decide_eq_false c2, decide_eq_true (hok.2 ⟨c1, c2⟩)]; rfl
    · rw [if_neg c1, decide_eq_false (fun h => c1 (hok.1 h).1)]; rfl
theorem Hn : ∀ (m : Nat) (got : List Int), got.Nodup → (∀ x ∈ got, 0 ≤ x ∧ x < (m : Int)) → got.length ≤ m
  | 0, got, _, h => by
    cases got with
    | nil => simp
    | cons x l => have := h x (List.mem_cons_self ..); omega
  | m + 1, got, hn, h => by
    have h2 := Hn m (got.erase (m : Int)) (hn.erase _) (fun x hx => by
      have h3 := h x (List.mem_of_mem_erase hx)
      have h4 : x ≠ (m : Int) := fun e => by
        subst e
        exact (List.Nodup.not_mem_erase hn) hx
      omega)
    have h5 : got.length ≤ (got.erase (m : Int)).length + 1 := by
      rw [List.length_erase]; split <;> omega
    omega
theorem Tn {α : Type} {l : List α} (h : l.Nodup) {i j : Nat} {a : α} (hi : l[i]? = some a) (hj : l[j]? = some a) : i = j := by
  obtain ⟨l1, e1⟩ := List.getElem?_eq_some_iff.1 hi
  obtain ⟨l2, e2⟩ := List.getElem?_eq_some_iff.1 hj
  have hp := List.pairwise_iff_getElem.1 h
  rcases Nat.lt_trichotomy i j with c | c | c
  · exact absurd (e1.trans e2.symm) (hp i j l1 l2 c)
  · exact c
  · exact absurd (e2.trans e1.symm) (hp j i l2 l1 c)
theorem R7 {t : Tp} (hok : OD t) {q : Int × Int} (hq : q ∈ pl t) : MR t q := by
  unfold pl at hq
  rcases List.mem_append.1 hq with h | h
  · obtain ⟨x, hx, h⟩ := List.mem_flatMap.1 h
    obtain ⟨_, _, _, _, k5, k6⟩ := hok.2.1 x hx
    rcases List.mem_cons.1 h with h | h
    · rw [h]; exact k5
    · rw [List.mem_singleton.1 h]; exact k6
  · exact hok.2.2 q h
theorem Qq {t : Tp} (hok : OD t) : t.2.2.Nodup := by
  have h : (pl t).Nodup := Jw.2 fun q hq => (R7 hok hq).2.2.2.2
  unfold pl at h
  exact (List.nodup_append.1 h).2.1
theorem Ps (t : Tp) (hh : t.2.2.length ≤ 8) (a p : Int) : ∃ r, EE t a p = some r ∧ ((r = -1 ∧ (a, p) ∉ t.2.2) ∨ ∃ j : Nat, r = (j : Int) ∧ t.2.2[j]? = some (a, p)) := by
  have key : ∀ (d k : Nat), k + d = t.2.2.length → (a, p) ∉ t.2.2.take k → ∃ r, GT (Aq (A5 t.2.2 (a, p)) (k : Int)) (fun _ => some (-1)) = some r ∧ ((r = -1 ∧ (a, p) ∉ t.2.2) ∨ ∃ j : Nat, r = (j : Int) ∧ t.2.2[j]? = some (a, p)) := by
    intro d
    induction d with
    | zero =>
      intro k hk hn
      rw [List.take_of_length_le (by omega)] at hn
      exact ⟨-1, by rw [Av (by rw [A5, if_neg (by omega)])]; rfl, .inl ⟨rfl, hn⟩⟩
    | succ d ih =>
      intro k hk hn
      have hkl : k < t.2.2.length := by omega
      have hg := List.getElem?_eq_getElem hkl
      by_cases c : a = t.2.2[k].1 ∧ p = t.2.2[k].2
      · exact ⟨(k : Int), by rw [Av (by rw [A5, if_pos (by omega), BA hg, Option.bind_some, if_pos c])]; rfl, .inr ⟨k, rfl, by rw [hg, show t.2.2[k] = (a, p) from Prod.ext c.1.symm c.2.symm]⟩⟩
      · have hst : A5 t.2.2 (a, p) (k : Int) = some (.inl ((k + 1 : Nat) : Int)) := by
          rw [A5, if_pos (by omega), BA hg, Option.bind_some, if_neg c, Aj (by omega)]; rfl
        rw [A7 hst]
        refine ih (k + 1) (by omega) (fun hm => ?_)
        rw [List.take_succ_eq_append_getElem hkl] at hm
        rcases List.mem_append.1 hm with h | h
        · exact hn h
        · rw [List.mem_singleton] at h
          exact c ⟨by rw [← h], by rw [← h]⟩
  obtain ⟨r, h1, h2⟩ := key t.2.2.length 0 (by omega) (by simp)
  refine ⟨r, ?_, h2⟩
  unfold EE Cl
  have h1' : GT (Aq (A5 t.2.2 (a, p)) 0) (fun _ => some (-1)) = some r := h1
  rw [h1']; rfl
theorem O2 {t : Tp} (hok : OD t) {h : Int} (h0 : 0 ≤ h) (h1 : h < (t.2.2.length : Int)) (a p : Int) : ∃ r, EE t a p = some r ∧ (r = h ↔ t.2.2[h.toNat]? = some (a, p)) := by
  obtain ⟨r, e, hr⟩ := Ps t (by have := hok.1; omega) a p
  refine ⟨r, e, ?_⟩
  rcases hr with ⟨h2, h3⟩ | ⟨j, h2, h3⟩
  · exact ⟨fun hh => by omega, fun hh => absurd (List.mem_of_getElem? hh) h3⟩
  · constructor
    · intro hh
      rw [show h.toNat = j by omega]; exact h3
    · intro hh
      have := Tn (Qq hok) hh h3
      omega
noncomputable def pe (t : Tp) (a p : Int) : Pr := (F5 t a p).getD (0, 0, 0, false)
theorem We {t : Tp} (hok : OD t) (a p : Int) : F5 t a p = some (pe t a p) := by
  obtain ⟨R, e, _⟩ := MD hok.1.2.2.1 a p
  unfold pe; rw [e]; rfl
theorem Uo {t : Tp} (hok : OD t) {a p : Int} (h : (pe t a p).2.2.2 = true) : (0 ≤ a ∧ a < t.1) ∧ 0 ≤ (pe t a p).1 ∧ (pe t a p).1 < t.1 := by
  obtain ⟨R, e, hR⟩ := MD hok.1.2.2.1 a p
  have he : pe t a p = R := by unfold pe; rw [e]; rfl
  rw [he] at h ⊢
  rcases hR with ⟨h1, _⟩ | ⟨i, x, hi, hs⟩
  · rw [h1] at h; cases h
  · obtain ⟨m1, m2⟩ := Qy hs
    have hx := List.mem_of_getElem? hi
    have hp : ∀ q ∈ Ix x, q ∈ pl t := fun q hq => by
      unfold pl; exact List.mem_append_left _ (List.mem_flatMap.2 ⟨x, hx, hq⟩)
    obtain ⟨a1, a2, _⟩ := R7 hok (hp _ m1)
    obtain ⟨b1, b2, _⟩ := R7 hok (hp _ m2)
    exact ⟨⟨a1, a2⟩, b1, b2⟩
abbrev Rt := List (List Int)
abbrev JR (t : Tp) (r : Rt) : Prop := OD t ∧ (r.length : Int) = t.1 ∧ ∀ row ∈ r, row.length = t.2.2.length ∧ ∀ p ∈ row, 0 ≤ p ∧ p ≤ 7
def Fb (r : Rt) (sw h : Int) : Int := (r.getD sw.toNat []).getD h.toNat 0
theorem JR.row {t : Tp} {r : Rt} (ho : JR t r) {sw : Int} (hs : 0 ≤ sw ∧ sw < t.1) : ∃ row, ix r sw = some row ∧ r[sw.toNat]? = some row ∧ row.length = t.2.2.length ∧ (∀ p ∈ row, 0 ≤ p ∧ p ≤ 7) ∧ r.getD sw.toNat [] = row := by
  obtain ⟨_, h2, h3⟩ := ho
  obtain ⟨row, e1, e2⟩ := P5 (l := r) hs.1 (by omega)
  obtain ⟨k1, k2⟩ := h3 row (List.mem_of_getElem? e2)
  exact ⟨row, e1, e2, k1, k2, by rw [List.getD_eq_getElem?_getD, e2]; rfl⟩
theorem JR.port {t : Tp} {r : Rt} (ho : JR t r) {sw h : Int} (hs : 0 ≤ sw ∧ sw < t.1) (hh : 0 ≤ h ∧ h < (t.2.2.length : Int)) : ∃ row, ix r sw = some row ∧ (row.length : Int) = t.2.2.length ∧ ix row h = some (Fb r sw h) ∧ 0 ≤ Fb r sw h ∧ Fb r sw h ≤ 7 := by
  obtain ⟨row, e1, e2, e3, e4, e5⟩ := ho.row hs
  obtain ⟨p, f1, f2⟩ := P5 (l := row) hh.1 (by omega)
  have : Fb r sw h = p := by unfold Fb; rw [e5, List.getD_eq_getElem?_getD, f2]; rfl
  rw [this]
  obtain ⟨g1, g2⟩ := e4 p (List.mem_of_getElem? f2)
  exact ⟨row, e1, by omega, f1, g1, g2⟩
theorem RE {l : List Int} (hl : l.length ≤ 1000000000) : Ci l = some (decide (∃ x ∈ l, ¬ (0 ≤ x ∧ x ≤ 7))) := by
  have key : ∀ (d k : Nat), k + d = l.length → (∀ x ∈ l.take k, (0 ≤ x ∧ x ≤ 7)) → ∃ i : Int, GT (Aq (Bq l) (k : Int)) (fun _ => some (-1)) = some i ∧ (0 ≤ i ↔ ∃ x ∈ l, ¬ (0 ≤ x ∧ x ≤ 7)) := by
    intro d
    induction d with
    | zero =>
      intro k hk hn
      rw [List.take_of_length_le (by omega)] at hn
      exact ⟨-1, by rw [Av (by rw [Bq, if_neg (by omega)])]; rfl, ⟨fun h => by omega, fun ⟨x, hx, h⟩ => absurd (hn x hx) h⟩⟩
    | succ d ih =>
      intro k hk hn
      have hkl : k < l.length := by omega
      have hg := List.getElem?_eq_getElem hkl
      have hw : DZ l[k] = true ↔ ¬ (0 ≤ l[k] ∧ l[k] ≤ 7) := by
        unfold DZ; simp only [Bool.or_eq_true, decide_eq_true_eq]; omega
      by_cases c : DZ l[k] = true
      · exact ⟨(k : Int), by rw [Av (by rw [Bq, if_pos (by omega), BA hg, Option.bind_some, if_pos c])]; rfl, ⟨fun _ => ⟨_, List.getElem_mem hkl, hw.1 c⟩, fun _ => by omega⟩⟩
      · have hst : Bq l (k : Int) = some (.inl ((k + 1 : Nat) : Int)) := by
          rw [Bq, if_pos (by omega), BA hg, Option.bind_some, if_neg c, Aj (by omega)]; rfl
        rw [A7 hst]
        refine ih (k + 1) (by omega) (fun x hx => ?_)
        rw [List.take_succ_eq_append_getElem hkl] at hx
        rcases List.mem_append.1 hx with h | h
        · exact hn x h
        · rw [List.mem_singleton.1 h]; exact Decidable.not_not.1 (fun hc => c (hw.2 hc))
  obtain ⟨i, h1, h2⟩ := key l.length 0 (by omega) (by simp)
  have h1' : GT (Aq (Bq l) 0) (fun _ => some (-1)) = some i := h1
  unfold Ci C8
  rw [h1', Option.bind_some]
  congr 1
  exact decide_eq_decide.2 h2
theorem R4 {t : Tp} {r : Rt} (hr : r.length ≤ 12) (hw : ∀ row ∈ r, row.length ≤ 1000000000) : FO t r = some (decide (JR t r)) := by
  unfold FO
  rw [U7, Option.bind_some]
  by_cases c : OD t
  · rw [decide_eq_true c, if_neg (by decide)]
    by_cases c2 : (r.length : Int) = t.1
    · rw [decide_eq_false (by omega : ¬ (r.length : Int) ≠ t.1), Option.bind_some, if_neg (by decide)]
      rw [MT r (by omega) (EQ t r) (fun row => ¬ (row.length = t.2.2.length ∧ ∀ p ∈ row, 0 ≤ p ∧ p ≤ 7)) false (fun k hk => by
        rw [EQ, if_pos (by omega), BA (List.getElem?_eq_getElem hk), Option.bind_some]
        have hb := hw _ (List.getElem_mem hk)
        generalize r[k] = x at hb ⊢
        by_cases d1 : (x.length : Int) ≠ (t.2.2.length : Int)
        · rw [if_pos d1, Option.bind_some, if_pos rfl, if_pos (fun h => d1 (by omega))]
        · rw [if_neg d1, RE (by omega), Option.bind_some]
          by_cases d2 : ∃ y ∈ x, ¬ (0 ≤ y ∧ y ≤ 7)
          · rw [decide_eq_true d2, Option.bind_some, if_pos rfl, if_pos (fun h => by obtain ⟨y, hy, hn⟩ := d2; exact hn (h.2 y hy))]
          · rw [decide_eq_false d2, Option.bind_some, if_neg (by decide), if_neg (fun h => h ⟨by omega, fun p hp => Decidable.not_not.1 fun hn => d2 ⟨p, hp, hn⟩⟩)]) (by rw [EQ, if_neg (by omega)])]
      by_cases d : ∃ row ∈ r, ¬ (row.length = t.2.2.length ∧ ∀ p ∈ row, 0 ≤ p ∧ p ≤ 7)
      · rw [if_pos d]
        show some false = _
        rw [decide_eq_false (fun h => by obtain ⟨row, hm, hn⟩ := d; exact hn (h.2.2 row hm))]
      · rw [if_neg d]
        show some true = _
        rw [decide_eq_true (⟨c, c2, fun row hm => Decidable.not_not.1 fun hn => d ⟨row, hm, hn⟩⟩ : JR t r)]
    · rw [decide_eq_true (show (r.length : Int) ≠ t.1 from c2), Option.bind_some, if_pos rfl, decide_eq_false (fun h => c2 h.2.1)]
  · rw [decide_eq_false c, if_pos (by decide), Option.bind_some, if_pos rfl, decide_eq_false (fun h => c h.1)]
def Th (t : Tp) (r : Rt) (h sw : Int) : Prop := t.2.2[h.toNat]? = some (sw, Fb r sw h)
noncomputable def nx (t : Tp) (r : Rt) (h sw : Int) : Option Int := if (pe t sw (Fb r sw h)).2.2.2 = true then some (pe t sw (Fb r sw h)).1 else none
inductive Wy (t : Tp) (r : Rt) (h : Int) : List Int → Prop
  | last {s : Int} : Th t r h s → Wy t r h [s]
  | go {s v : Int} {l : List Int} : ¬ Th t r h s → nx t r h s = some v → Wy t r h (v :: l) → Wy t r h (s :: v :: l)
theorem UA {t : Tp} {r : Rt} (hok : OD t) {h s v : Int} (e : nx t r h s = some v) : (0 ≤ s ∧ s < t.1) ∧ 0 ≤ v ∧ v < t.1 := by
  unfold nx at e
  by_cases c : (pe t s (Fb r s h)).2.2.2 = true
  · rw [if_pos c] at e
    have := Uo hok c
    rw [← Option.some.inj e]; exact this
  · rw [if_neg c] at e; cases e
theorem Wy.det {t : Tp} {r : Rt} {h : Int} {a b : List Int} (ha : Wy t r h a) : Wy t r h b → a.head? = b.head? → a = b := by
  induction ha generalizing b with
  | last hs =>
    intro hb e
    cases hb with
    | last _ => simp at e; rw [e]
    | go hn _ _ => simp at e; rw [e] at hs; exact absurd hs hn
  | go hn hx hw ih =>
    intro hb e
    cases hb with
    | last hs => simp at e; rw [← e] at hs; exact absurd hs hn
    | go hn2 hx2 hw2 =>
      simp at e
      subst e
      have := Option.some.inj (hx.symm.trans hx2)
      subst this
      rw [ih hw2 rfl]
theorem Wy.tail {t : Tp} {r : Rt} {h : Int} : ∀ {a b : List Int}, Wy t r h (a ++ b) → b ≠ [] → Wy t r h b
  | [], b, hw, _ => hw
  | [x], b, hw, hb => by
    cases b with
    | nil => exact absurd rfl hb
    | cons y b =>
      cases hw with
      | go _ _ h => exact h
  | x :: y :: a, b, hw, hb => by
    cases hw with
    | go _ _ h => exact Wy.tail (a := y :: a) h hb
theorem Wy.nodup {t : Tp} {r : Rt} {h : Int} : ∀ {a : List Int}, Wy t r h a → a.Nodup
  | [], _ => List.nodup_nil
  | x :: a, hw => by
    rw [List.nodup_cons]
    constructor
    · intro hm
      obtain ⟨p, q, e⟩ := List.append_of_mem hm
      have h2 : Wy t r h (x :: q) := Wy.tail (a := x :: p) (b := x :: q) (by rw [List.cons_append, ← e]; exact hw) (by simp)
      have h3 := congrArg List.length (Wy.det hw h2 rfl)
      have h4 := congrArg List.length e
      simp only [List.length_cons, List.length_append] at h3 h4; omega
    · cases a with
      | nil => exact List.nodup_nil
      | cons y a => exact Wy.nodup (Wy.tail (a := [x]) hw (by simp))
theorem Wy.in_ {t : Tp} {r : Rt} (hok : OD t) {h : Int} {a : List Int} (hw : Wy t r h a) (h0 : ∀ s, a.head? = some s → 0 ≤ s ∧ s < t.1) : ∀ s ∈ a, 0 ≤ s ∧ s < t.1 := by
  induction hw with
  | last _ => intro s hs; rw [List.mem_singleton.1 hs]; exact h0 _ rfl
  | go _ hx _ ih =>
    intro s hs
    have := UA hok hx
    rcases List.mem_cons.1 hs with h | h
    · rw [h]; exact this.1
    · exact ih (fun s e => by rw [← Option.some.inj e]; exact this.2) s h
theorem Wy.end_ {t : Tp} {r : Rt} {h : Int} : ∀ {a : List Int}, Wy t r h a → ∃ s, a.getLast? = some s ∧ Th t r h s
  | _, .last hs => ⟨_, rfl, hs⟩
  | _, .go (v := v) (l := l) _ _ hw => by
    obtain ⟨s, e, hs⟩ := Wy.end_ hw
    exact ⟨s, by rw [List.getLast?_cons_cons]; exact e, hs⟩
theorem Oy (l : List Int) (hl : l.length ≤ 1000000000) (x : Int) : DI l x = some (decide (x ∈ l)) := by
  unfold DI
  rw [MT l (by omega) (Df l x) (fun y => x = y) true (fun k hk => by
    rw [Df, if_pos (by omega), BA (List.getElem?_eq_getElem hk), Option.bind_some]) (by rw [Df, if_neg (by omega)])]
  by_cases c : x ∈ l
  · rw [if_pos ⟨x, c, rfl⟩, decide_eq_true c]; rfl
  · rw [if_neg (fun ⟨y, hy, e⟩ => c (e ▸ hy)), decide_eq_false c]; rfl
theorem Rn {t : Tp} {r : Rt} (ho : JR t r) {sw h : Int} (hs : 0 ≤ sw ∧ sw < t.1) (hh : 0 ≤ h ∧ h < (t.2.2.length : Int)) : Hb t r sw h = some ((pe t sw (Fb r sw h)).1, (pe t sw (Fb r sw h)).2.2.2) := by
  obtain ⟨row, e1, e2, e3, _⟩ := ho.port hs hh
  have h2 := ho.2.1
  unfold Hb
  rw [if_neg (by omega), if_neg (by omega), if_neg (by omega), e1, Option.bind_some, Option.bind_some, decide_eq_false (by omega), if_neg (by decide), Option.bind_some, e3, Option.bind_some, We ho.1, Option.bind_some]
def QD (t : Tp) (r : Rt) (h sw : Int) (q : List Int × Int) : Prop := (q.2 = 0 ∧ Wy t r h q.1 ∧ q.1.head? = some sw) ∨ ((q.2 = 12 ∨ q.2 = 13) ∧ q.1 = [] ∧ ∀ l, ¬ Wy t r h (sw :: l))
theorem TU {t : Tp} {r : Rt} (ho : JR t r) {sw h : Int} (hs : 0 ≤ sw ∧ sw < t.1) (hh : 0 ≤ h ∧ h < (t.2.2.length : Int)) : ∃ q, Gm t r sw h = some q ∧ QD t r h sw q := by
  have hok := ho.1
  have h8 : t.1 ≤ 8 := hok.1.2.1
  obtain ⟨e, he, hP⟩ := Ur (step := Ec t r h)
    (fun s => ∃ pre, s.2 = pre ++ [s.1] ∧ s.2.Nodup ∧ (∀ x ∈ s.2, 0 ≤ x ∧ x < t.1) ∧ s.2.head? = some sw ∧ (∀ l, Wy t r h (s.1 :: l) → Wy t r h (pre ++ s.1 :: l)) ∧ ∀ l, Wy t r h (sw :: l) → ∃ l', sw :: l = pre ++ s.1 :: l' ∧ Wy t r h (s.1 :: l'))
    (fun s => 9 - s.2.length)
    (fun e => match e with | .inl w => Wy t r h w ∧ w.head? = some sw | .inr q => (q.2 = 12 ∨ q.2 = 13) ∧ q.1 = [] ∧ ∀ l, ¬ Wy t r h (sw :: l))
    (by
      rintro ⟨a, w⟩ ⟨pre, e1, e2, e3, e4, e5, e6⟩
      simp only at e1 e2 e3 e4 e5 e6
      have ha := e3 a (by rw [e1]; simp)
      have hlen : w.length ≤ 8 := Nat.le_trans (Hn t.1.toNat w e2 (fun x hx => by have := e3 x hx; omega)) (by omega)
      obtain ⟨row, f1, f2, f3, _⟩ := ho.port ha hh
      obtain ⟨k, g1, g2⟩ := O2 hok hh.1 hh.2 a (Fb r a h)
      by_cases c : k = h
      · refine .inr ⟨.inl w, ?_, ?_, e4⟩
        · rw [Ec, f1, Option.bind_some, f3, Option.bind_some, g1, Option.bind_some, if_neg (by simpa using c)]
        · rw [e1]; exact e5 [] (.last (g2.1 c))
      · have hnh : ¬ Th t r h a := fun hm => c (g2.2 hm)
        by_cases c2 : (pe t a (Fb r a h)).2.2.2 = true
        · have hnx : nx t r h a = some (pe t a (Fb r a h)).1 := by unfold nx; rw [if_pos c2]
          have hv := (UA hok hnx).2
          by_cases c3 : (pe t a (Fb r a h)).1 ∈ w
          · refine .inr ⟨.inr ([], 12), ?_, .inl rfl, rfl, fun l hl => ?_⟩
            · rw [Ec, f1, Option.bind_some, f3, Option.bind_some, g1, Option.bind_some, if_pos c, Rn ho ha hh, Option.bind_some, if_neg (by simp [c2]), Oy w (by omega), Option.bind_some, decide_eq_true c3, if_pos rfl]
            · obtain ⟨l', k1, k2⟩ := e6 l hl
              cases k2 with
              | last hm => exact hnh hm
              | go _ hx hw =>
                rename_i v l2 _
                have hv2 := Option.some.inj (hx.symm.trans hnx)
                have hnd := Wy.nodup hl
                rw [k1, show pre ++ a :: v :: l2 = w ++ v :: l2 by rw [e1]; simp] at hnd
                exact (List.nodup_append.1 hnd).2.2 v (by rw [hv2]; exact c3) v (List.mem_cons_self ..) rfl
          · refine .inl ⟨((pe t a (Fb r a h)).1, w ++ [(pe t a (Fb r a h)).1]), ?_, ⟨w, rfl, ?_, ?_, ?_, ?_, ?_⟩, ?_⟩
            · rw [Ec, f1, Option.bind_some, f3, Option.bind_some, g1, Option.bind_some, if_pos c, Rn ho ha hh, Option.bind_some, if_neg (by simp [c2]), Oy w (by omega), Option.bind_some, decide_eq_false c3, if_neg (by decide), EC (by simp; omega), Option.bind_some]
            · rw [List.nodup_append]
              exact ⟨e2, by simp, fun x hx y hy => by rw [List.mem_singleton.1 hy]; intro ee; subst ee; exact c3 hx⟩
            · intro x hx
              rcases List.mem_append.1 hx with hx | hx
              · exact e3 x hx
              · rw [List.mem_singleton.1 hx]; exact hv
            · rw [List.head?_append, e4]; rfl
            · intro l hl
              have := e5 ((pe t a (Fb r a h)).1 :: l) (.go hnh hnx hl)
              simp only
              rw [e1, List.append_assoc]; exact this
            · intro l hl
              obtain ⟨l', k1, k2⟩ := e6 l hl
              cases k2 with
              | last hm => exact absurd hm hnh
              | go _ hx hw =>
                rename_i v l2 _
                have hv2 := Option.some.inj (hx.symm.trans hnx)
                subst hv2
                exact ⟨l2, by rw [k1, e1]; simp, hw⟩
            · simp; omega
        · refine .inr ⟨.inr ([], 13), ?_, .inr rfl, rfl, fun l hl => ?_⟩
          · rw [Ec, f1, Option.bind_some, f3, Option.bind_some, g1, Option.bind_some, if_pos c, Rn ho ha hh, Option.bind_some, if_pos (by simpa using c2)]
          · obtain ⟨l', k1, k2⟩ := e6 l hl
            cases k2 with
            | last hm => exact hnh hm
            | go _ hx hw =>
              unfold nx at hx
              rw [if_neg c2] at hx; cases hx)
    (sw, [sw]) ⟨[], rfl, by simp, by simpa using hs, rfl, fun l h => h, fun l h => ⟨l, rfl, h⟩⟩
  unfold Gm
  rw [he]
  cases e with
  | inl w => exact ⟨(w, 0), rfl, .inl ⟨rfl, hP⟩⟩
  | inr q => exact ⟨q, rfl, .inr hP⟩
theorem QD.of {t : Tp} {r : Rt} {h sw : Int} {q : List Int × Int} (hq : QD t r h sw q) {l : List Int} (hl : Wy t r h (sw :: l)) : q = (sw :: l, 0) := by
  rcases hq with ⟨h1, h2, h3⟩ | ⟨_, _, h3⟩
  · exact Prod.ext (Wy.det h2 hl h3) h1
  · exact absurd hl (h3 l)
theorem X5 {t : Tp} {r : Rt} (ho : JR t r) (hr : r.length ≤ 12) (hw : ∀ row ∈ r, row.length ≤ 1000000000) {h : Int} (hh : 0 ≤ h ∧ h < (t.2.2.length : Int)) :
    ∃ F, JS t r h = some F ∧ (F.length : Int) = t.1 ∧ ∀ s l, 0 ≤ s ∧ s < t.1 → Wy t r h (s :: l) → ix F s = some (l.length : Int) := by
  have hlen := ho.2.1
  obtain ⟨F, h1, h2⟩ := DM r.length (fun (s : List Int) (k : Nat) => (s, (k : Int))) (GE t r h) id (fun F k => F.length = k ∧ ∀ (s : Nat) l, s < k → Wy t r h ((s : Int) :: l) → F[s]? = some (l.length : Int))
    (fun F k hk hI => by
      obtain ⟨q, e, hq⟩ := TU ho (sw := (k : Int)) (h := h) (by omega) hh
      have hqb : q.1.length ≤ 8 := by
        rcases hq with ⟨_, a2, a3⟩ | ⟨_, a2, _⟩
        · exact Nat.le_trans (Hn t.1.toNat q.1 a2.nodup (fun x hx => by
            have := a2.in_ ho.1 (fun s e => by rw [a3] at e; rw [← Option.some.inj e]; omega) x hx
            omega)) (by have := ho.1.1; omega)
        · rw [a2]; simp
      refine ⟨F ++ [(q.1.length : Int) - 1], ?_, by rw [List.length_append, hI.1]; rfl, fun s l hs hw => ?_⟩
      · rw [GE, if_pos (by omega), e, Option.bind_some, Aj (by omega), EC (by simp; omega), Option.bind_some, Aj (by omega)]; rfl
      · by_cases c : s < k
        · rw [List.getElem?_append_left (by omega)]; exact hI.2 s l c hw
        · obtain rfl : s = k := by omega
          rw [List.getElem?_append_right (by omega), hI.1, Nat.sub_self, hq.of hw]
          simp)
    (fun F _ => by rw [GE, if_neg (by omega)]; rfl) [] ⟨rfl, fun s l hs => by omega⟩
  have e1 : Aq (GE t r h) ([], 0) = some F := h2
  refine ⟨F, ?_, by omega, fun s l hs hw => ?_⟩
  · unfold JS
    rw [R4 hr hw, Option.bind_some, decide_eq_true ho, if_neg (by decide), if_neg (by omega), decide_eq_false (by omega), Option.bind_some, if_neg (by decide), e1]; rfl
  · obtain ⟨n, rfl⟩ : ∃ n : Nat, s = n := ⟨s.toNat, by omega⟩
    exact BA (h1.2 n l (by omega) hw)
def CJ (t : Tp) (r : Rt) : Prop := JR t r ∧ ∀ sw h : Int, 0 ≤ sw ∧ sw < t.1 → 0 ≤ h ∧ h < (t.2.2.length : Int) → ∃ l, Wy t r h (sw :: l)
noncomputable instance CJ.dec (t : Tp) (r : Rt) : Decidable (CJ t r) := Classical.propDecidable _
theorem QD.zero {t : Tp} {r : Rt} {h sw : Int} {q : List Int × Int} (hq : QD t r h sw q) : q.2 = 0 ↔ ∃ l, Wy t r h (sw :: l) := by
  rcases hq with ⟨h1, h2, h3⟩ | ⟨h1, h2, h3⟩
  · refine ⟨fun _ => ?_, fun _ => h1⟩
    cases hl : q.1 with
    | nil => rw [hl] at h3; cases h3
    | cons a l =>
      rw [hl] at h2 h3
      have : a = sw := by simpa using h3
      subst this; exact ⟨l, h2⟩
  · exact ⟨fun h => by omega, fun ⟨l, hl⟩ => absurd hl (h3 l)⟩
open Classical in
theorem MZ {t : Tp} {r : Rt} (hr : r.length ≤ 12) (hw : ∀ row ∈ r, row.length ≤ 1000000000) : Fi t r = some (decide (CJ t r)) := by
  unfold Fi
  rw [R4 hr hw, Option.bind_some]
  by_cases c : JR t r
  · rw [decide_eq_true c, if_neg (by decide)]
    have hlen := c.2.1
    have hin : ∀ (k : Nat), k < r.length → ∃ row, ix r (k : Int) = some row ∧ Aq (EF t r (k : Int) row) 0 = some (if ∃ h : Nat, h < t.2.2.length ∧ ¬ ∃ l, Wy t r (h : Int) ((k : Int) :: l) then .inr (.inr (.inr false)) else .inl ()) := fun k hk => by
      obtain ⟨row, f1, f2, f3, _⟩ := c.row (sw := (k : Int)) (by omega)
      refine ⟨row, f1, ?_⟩
      have := PI (ε := Int ⊕ (Unit ⊕ Bool)) row.length (EF t r (k : Int) row) (fun h => if ¬ ∃ l, Wy t r (h : Int) ((k : Int) :: l) then some (.inr (.inr false)) else none) (fun h hh => by
        obtain ⟨q, e, hq⟩ := TU c (sw := (k : Int)) (h := (h : Int)) (by omega) (by omega)
        rw [EF, if_pos (by omega), e, Option.bind_some]
        have hz := hq.zero
        by_cases d : ∃ l, Wy t r (h : Int) ((k : Int) :: l)
        · rw [if_neg (fun h => h (hz.2 d)), if_neg (fun h => h d), Aj (by omega)]; rfl
        · rw [if_pos (fun h => d (hz.1 h)), if_pos d]) (by rw [EF, if_neg (by omega)])
      rw [this]
      by_cases d : ∃ h : Nat, h < t.2.2.length ∧ ¬ ∃ l, Wy t r (h : Int) ((k : Int) :: l)
      · rw [if_pos d]
        obtain ⟨h, h1, h2⟩ := d
        cases e : (List.range row.length).findSome? (fun h : Nat => if ¬ ∃ l, Wy t r (h : Int) ((k : Int) :: l) then some (.inr (.inr false) : Int ⊕ (Unit ⊕ Bool)) else none) with
        | none =>
          rw [List.findSome?_eq_none_iff] at e
          have := e h (List.mem_range.2 (by omega))
          rw [if_pos h2] at this; cases this
        | some x =>
          obtain ⟨y, _, hy⟩ := List.exists_of_findSome?_eq_some e
          by_cases d2 : ¬ ∃ l, Wy t r (y : Int) ((k : Int) :: l)
          · rw [if_pos d2] at hy; rw [← Option.some.inj hy]
          · rw [if_neg d2] at hy; cases hy
      · rw [if_neg d, Lf fun h hh => if_neg fun h2 => d ⟨h, by omega, h2⟩]
    have := PI (ε := Bool) r.length (Fg t r) (fun k => if ∃ h : Nat, h < t.2.2.length ∧ ¬ ∃ l, Wy t r (h : Int) ((k : Int) :: l) then some false else none) (fun k hk => by
      obtain ⟨row, f1, f2⟩ := hin k hk
      rw [Fg, if_pos (by omega), f1, Option.bind_some, f2]
      by_cases d : ∃ h : Nat, h < t.2.2.length ∧ ¬ ∃ l, Wy t r (h : Int) ((k : Int) :: l)
      · rw [if_pos d, if_pos d]; rfl
      · rw [if_neg d, if_neg d, Aj (by omega)]; rfl) (by rw [Fg, if_neg (by omega)])
    rw [this]
    by_cases d : CJ t r
    · rw [decide_eq_true d, Lf fun k hk => if_neg fun ⟨h, h1, h2⟩ => h2 (d.2 _ _ (by omega) (by omega))]; rfl
    · rw [decide_eq_false d]
      cases e : (List.range r.length).findSome? (fun k : Nat => if ∃ h : Nat, h < t.2.2.length ∧ ¬ ∃ l, Wy t r (h : Int) ((k : Int) :: l) then some false else none) with
      | none =>
        rw [List.findSome?_eq_none_iff] at e
        refine absurd ⟨c, fun sw h hs hh => Classical.byContradiction fun hn => ?_⟩ d
        have := e sw.toNat (List.mem_range.2 (by omega))
        rw [if_pos ⟨h.toNat, by omega, by rw [show ((h.toNat : Nat) : Int) = h by omega, show ((sw.toNat : Nat) : Int) = sw by omega]; exact hn⟩] at this
        cases this
      | some x =>
        obtain ⟨y, _, hy⟩ := List.exists_of_findSome?_eq_some e
        split at hy
        · rw [← Option.some.inj hy]; rfl
        · cases hy
  · rw [decide_eq_false c, if_pos (by decide), decide_eq_false (fun h => c h.1)]
end Go.Proofs.YthhoflfhegfmcaaGreat
