/- Layer 19: topologies. Conditions: none. -/
import Derived.Test.YtbogijdfacoccaabLP
import Derived.Test.YtbogijdfacoccaabA6
namespace Go.Proofs.Ytbogijdfacoccaa
set_option linter.unusedVariables false
set_option linter.unusedSimpArgs false
open Go Go.RowKit
abbrev Lk := Int × Int × Int × Int × Int × Int
abbrev Tp := Int × List Lk × List (Int × Int)
abbrev C5 (l : Lk) : List (Int × Int) := [(l.1, l.2.1), (l.2.2.1, l.2.2.2.1)]
def pl (t : Tp) : List (Int × Int) := t.2.1.flatMap C5 ++ t.2.2
abbrev ED (t : Tp) (q : Int × Int) : Prop := 0 ≤ q.1 ∧ q.1 < t.1 ∧ 0 ≤ q.2 ∧ q.2 ≤ 7 ∧ (pl t).count q = 1
abbrev Ms (t : Tp) (l : Lk) : Prop := l.1 ≠ l.2.2.1 ∧ 1 ≤ l.2.2.2.2.1 ∧ l.2.2.2.2.1 ≤ l.2.2.2.2.2 ∧ l.2.2.2.2.2 ≤ 1000 ∧ ED t (l.1, l.2.1) ∧ ED t (l.2.2.1, l.2.2.2.1)
abbrev D5 (t : Tp) : Prop := (1 ≤ t.1 ∧ t.1 ≤ 8 ∧ t.2.1.length ≤ 24 ∧ t.2.2.length ≤ 8) ∧ (∀ l ∈ t.2.1, Ms t l) ∧ ∀ h ∈ t.2.2, ED t h
theorem Jw (q : Int × Int) : ∀ l : List Lk, (l.flatMap C5).count q ≤ 2 * l.length
  | [] => by simp
  | x :: l => by
    have h := Jw q l
    have h2 : (C5 x).count q ≤ 2 := List.count_le_length
    rw [List.flatMap_cons, List.count_append, List.length_cons]; omega
theorem KM {t : Tp} (hl : t.2.1.length ≤ 24) (hh : t.2.2.length ≤ 8) (a p : Int) : Fc t a p = some (decide (ED t (a, p))) := by
  obtain ⟨s, h1, h2⟩ := BQ t.2.1.length (fun (s : Int) (k : Nat) => (s, (k : Int))) (D4 t a p) id (fun s k => s = (((t.2.1.take k).flatMap C5).count (a, p) : Nat))
    (fun s k hk hI => by
      have hb := Jw (a, p) (t.2.1.take k)
      rw [List.length_take] at hb
      have hx : ∀ c : Prop, [Decidable c] → ∀ s : Int, 0 ≤ s ∧ s ≤ 100 → (if c then some (BH (s + 1)) else some s) = some (s + (if c then 1 else 0)) := fun c _ s hs => by
        by_cases h : c
        · rw [if_pos h, if_pos h, AY (by omega)]
        · rw [if_neg h, if_neg h]; simp
      refine ⟨s + (if (decide (t.2.1[k].1 = a) && decide (t.2.1[k].2.1 = p)) = true then 1 else 0) + (if (decide (t.2.1[k].2.2.1 = a) && decide (t.2.1[k].2.2.2.1 = p)) = true then 1 else 0), ?_, ?_⟩
      · rw [D4, if_pos (by omega), Bl (List.getElem?_eq_getElem hk), Option.bind_some, hx _ s (by omega), Option.bind_some, hx _ _ (by split <;> omega), Option.bind_some, AY (by omega)]; rfl
      · rw [hI, List.take_succ_eq_append_getElem hk, List.flatMap_append, List.count_append, List.flatMap_cons, List.flatMap_nil, List.append_nil]
        have hc : ∀ (x : Lk), (((C5 x).count (a, p) : Nat) : Int) = (if (decide (x.1 = a) && decide (x.2.1 = p)) = true then 1 else 0) + (if (decide (x.2.2.1 = a) && decide (x.2.2.2.1 = p)) = true then 1 else 0) := fun x => by
          simp only [C5, List.count_cons, List.count_nil, beq_iff_eq, Prod.mk.injEq, Bool.and_eq_true, decide_eq_true_eq]
          split <;> split <;> rfl
        rw [Int.natCast_add, hc]; omega)
    (fun s _ => by rw [D4, if_neg (by omega)]; rfl) 0 (by simp)
  have e1 : AF (D4 t a p) (0, 0) = some s := h2
  rw [List.take_length] at h1
  have hb := Jw (a, p) t.2.1
  obtain ⟨s2, g1, g2⟩ := BQ t.2.2.length (fun (s : Int) (k : Nat) => (s, (k : Int))) (D2 t a p) id (fun s2 k => s2 = s + ((t.2.2.take k).count (a, p) : Nat))
    (fun s2 k hk hI => by
      have hb2 : (t.2.2.take k).count (a, p) ≤ k := Nat.le_trans List.count_le_length (by rw [List.length_take]; omega)
      refine ⟨s2 + (if t.2.2[k] = (a, p) then 1 else 0), ?_, ?_⟩
      · rw [D2, if_pos (by omega), Bl (List.getElem?_eq_getElem hk), Option.bind_some, Option.bind_some]
        have hd : (if t.2.2[k].1 = a then some (decide (t.2.2[k].2 = p)) else some false) = some (decide (t.2.2[k] = (a, p))) := by
          by_cases c : t.2.2[k].1 = a
          · rw [if_pos c]; congr 1; exact decide_eq_decide.2 ⟨fun h => Prod.ext c h, fun h => by rw [h]⟩
          · rw [if_neg c, decide_eq_false (fun h => c (by rw [h]))]
        rw [hd, Option.bind_some]
        by_cases c : t.2.2[k] = (a, p)
        · rw [decide_eq_true c, if_pos rfl, if_pos c, Option.bind_some, AY (by omega), AY (by omega)]; rfl
        · rw [decide_eq_false c, if_neg (by decide), if_neg c, Option.bind_some, AY (by omega), Int.add_zero]; rfl
      · rw [hI, List.take_succ_eq_append_getElem hk, List.count_append]
        by_cases c : t.2.2[k] = (a, p)
        · rw [if_pos c, c]; simp; omega
        · rw [if_neg c, List.count_eq_zero_of_not_mem (a := (a, p)) (l := [t.2.2[k]]) (by simp; exact fun h => c h.symm)]; omega)
    (fun s _ => by rw [D2, if_neg (by omega)]; rfl) s (by simp)
  have e2 : AF (D2 t a p) (s, 0) = some s2 := g2
  rw [List.take_length] at g1
  have hcount : ((pl t).count (a, p) : Int) = s2 := by
    unfold pl
    rw [List.count_append, Int.natCast_add, g1, h1]
  unfold Fc
  rw [e1, Option.bind_some, e2, Option.bind_some]
  congr 1
  rw [Bool.eq_iff_iff]
  simp only [Bool.and_eq_true, decide_eq_true_eq]
  have : s2 = 1 ↔ (pl t).count (a, p) = 1 := by omega
  rw [this]
theorem Lv {t : Tp} : FT t = some (decide (D5 t)) := by
  unfold FT
  by_cases c : t.1 < 1 ∨ 8 < t.1 ∨ 24 < (t.2.1.length : Int) ∨ 8 < (t.2.2.length : Int)
  · rw [if_pos (by simpa using c), decide_eq_false (fun h => by have := h.1; omega)]
  · rw [if_neg (by simpa using c)]
    have hl : t.2.1.length ≤ 24 := by omega
    have hh : t.2.2.length ≤ 8 := by omega
    rw [GV t.2.1 (by omega) (Eh t) (fun l => ¬ Ms t l) false (fun k hk => by
      rw [Eh, if_pos (by omega), Bl (List.getElem?_eq_getElem hk), Option.bind_some, KM hl hh, KM hl hh]
      generalize t.2.1[k] = x
      by_cases c1 : x.1 = x.2.2.1
      · rw [if_pos c1, Option.bind_some, if_pos rfl, if_pos (fun h => h.1 c1)]
      rw [if_neg c1]
      by_cases c2 : x.2.2.2.2.1 < 1
      · rw [if_pos c2, Option.bind_some, if_pos rfl, if_pos (fun h => by have := h.2.1; omega)]
      rw [if_neg c2]
      by_cases c3 : x.2.2.2.2.2 < x.2.2.2.2.1
      · rw [if_pos c3, Option.bind_some, if_pos rfl, if_pos (fun h => by have := h.2.2.1; omega)]
      rw [if_neg c3]
      by_cases c4 : 1000 < x.2.2.2.2.2
      · rw [if_pos c4, Option.bind_some, if_pos rfl, if_pos (fun h => by have := h.2.2.2.1; omega)]
      rw [if_neg c4, Option.bind_some]
      by_cases c5 : ED t (x.1, x.2.1)
      · rw [decide_eq_true c5, if_neg (by decide), Option.bind_some]
        by_cases c6 : ED t (x.2.2.1, x.2.2.2.1)
        · rw [decide_eq_true c6, Option.bind_some, if_neg (by decide), if_neg (fun h => h ⟨c1, by omega, by omega, by omega, c5, c6⟩)]
        · rw [decide_eq_false c6, Option.bind_some, if_pos (by decide), if_pos (fun h => c6 h.2.2.2.2.2)]
      · rw [decide_eq_false c5, if_pos (by decide), Option.bind_some, if_pos rfl, if_pos (fun h => c5 h.2.2.2.2.1)]) (by rw [Eh, if_neg (by omega)]),
      GV t.2.2 (by omega) (Ek t) (fun h => ¬ ED t h) false (fun k hk => by
      rw [Ek, if_pos (by omega), Bl (List.getElem?_eq_getElem hk), Option.bind_some, Option.bind_some, KM hl hh, Option.bind_some]
      by_cases c5 : ED t t.2.2[k]
      · rw [decide_eq_true (show ED t (t.2.2[k].1, t.2.2[k].2) from c5), if_neg (by decide), if_neg (fun h => h c5)]
      · rw [decide_eq_false (show ¬ ED t (t.2.2[k].1, t.2.2[k].2) from c5), if_pos (by decide), if_pos c5]) (by rw [Ek, if_neg (by omega)])]
    by_cases d1 : ∃ l ∈ t.2.1, ¬ Ms t l
    · rw [if_pos d1]
      show some false = _
      rw [decide_eq_false (fun h => by obtain ⟨l, hl, hn⟩ := d1; exact hn (h.2.1 l hl))]
    · rw [if_neg d1]
      by_cases d2 : ∃ h ∈ t.2.2, ¬ ED t h
      · rw [if_pos d2]
        show some false = _
        rw [decide_eq_false (fun h => by obtain ⟨l, hl, hn⟩ := d2; exact hn (h.2.2 l hl))]
      · rw [if_neg d2]
        show some true = _
        rw [decide_eq_true (⟨by omega, fun l hl => Decidable.not_not.1 fun hn => d1 ⟨l, hl, hn⟩, fun l hl => Decidable.not_not.1 fun hn => d2 ⟨l, hl, hn⟩⟩ : D5 t)]
abbrev Pr := Int × Int × Int × Bool
def O4 (i : Nat) (x : Lk) (a p : Int) (R : Pr) : Prop := (a = x.1 ∧ p = x.2.1 ∧ R = (x.2.2.1, x.2.2.2.1, (i : Int), true)) ∨ (¬ (a = x.1 ∧ p = x.2.1) ∧ a = x.2.2.1 ∧ p = x.2.2.2.1 ∧ R = (x.1, x.2.1, (i : Int), true))
theorem NA {t : Tp} (hl : t.2.1.length ≤ 24) (a p : Int) : ∃ R : Pr, D0 t a p = some R ∧ ((R = (0, 0, 0, false) ∧ ∀ x ∈ t.2.1, (a, p) ∉ C5 x) ∨ ∃ i x, t.2.1[i]? = some x ∧ O4 i x a p R) := by
  have key : ∀ (d k : Nat), k + d = t.2.1.length → (∀ x ∈ t.2.1.take k, (a, p) ∉ C5 x) → ∃ R : Pr, IW (AF (B7 t a p) (k : Int)) (fun _ => some (0, 0, 0, false)) = some R ∧ ((R = (0, 0, 0, false) ∧ ∀ x ∈ t.2.1, (a, p) ∉ C5 x) ∨ ∃ i x, t.2.1[i]? = some x ∧ O4 i x a p R) := by
    intro d
    induction d with
    | zero =>
      intro k hk hn
      rw [List.take_of_length_le (by omega)] at hn
      exact ⟨_, by rw [Bd (by rw [B7, if_neg (by omega)])]; rfl, .inl ⟨rfl, hn⟩⟩
    | succ d ih =>
      intro k hk hn
      have hkl : k < t.2.1.length := by omega
      have hg := List.getElem?_eq_getElem hkl
      by_cases c1 : a = t.2.1[k].1 ∧ p = t.2.1[k].2.1
      · exact ⟨_, by rw [Bd (by rw [B7, if_pos (by omega), Bl hg, Option.bind_some, if_pos c1])]; rfl, .inr ⟨k, _, hg, .inl ⟨c1.1, c1.2, rfl⟩⟩⟩
      by_cases c2 : a = t.2.1[k].2.2.1 ∧ p = t.2.1[k].2.2.2.1
      · exact ⟨_, by rw [Bd (by rw [B7, if_pos (by omega), Bl hg, Option.bind_some, if_neg c1, if_pos c2])]; rfl, .inr ⟨k, _, hg, .inr ⟨c1, c2.1, c2.2, rfl⟩⟩⟩
      have hst : B7 t a p (k : Int) = some (.inl ((k + 1 : Nat) : Int)) := by
        rw [B7, if_pos (by omega), Bl hg, Option.bind_some, if_neg c1, if_neg c2, AY (by omega)]; rfl
      rw [CQ hst]
      refine ih (k + 1) (by omega) (fun x hx => ?_)
      rw [List.take_succ_eq_append_getElem hkl] at hx
      rcases List.mem_append.1 hx with hx | hx
      · exact hn x hx
      · rw [List.mem_singleton] at hx
        subst hx
        intro hm
        simp only [C5, List.mem_cons, Prod.mk.injEq, List.not_mem_nil, or_false] at hm
        exact hm.elim c1 c2
  exact key t.2.1.length 0 (by omega) (fun x hx => by simp at hx)
theorem OJ {i : Nat} {x : Lk} {a p : Int} {R : Pr} (h : O4 i x a p R) : (a, p) ∈ C5 x ∧ (R.1, R.2.1) ∈ C5 x := by
  rcases h with ⟨h1, h2, h3⟩ | ⟨_, h1, h2, h3⟩
  · subst h1 h2 h3; simp
  · subst h1 h2 h3; simp
theorem Nf {l : List Lk} {hs : List (Int × Int)} {i j : Nat} {x y : Lk} {q : Int × Int} (hi : l[i]? = some x) (hj : l[j]? = some y) (hij : i < j) (hx : q ∈ C5 x) (hy : q ∈ C5 y) : 2 ≤ (l.flatMap C5 ++ hs).count q := by
  have hil : i < l.length := (List.getElem?_eq_some_iff.1 hi).1
  have e : l = l.take i ++ x :: l.drop (i + 1) := by
    have h1 := (List.getElem?_eq_some_iff.1 hi).2
    rw [← h1, ← List.drop_eq_getElem_cons hil, List.take_append_drop]
  have hm : y ∈ l.drop (i + 1) := List.mem_of_getElem? (i := j - (i + 1)) (by rw [List.getElem?_drop, show i + 1 + (j - (i + 1)) = j by omega]; exact hj)
  have h2 : 0 < ((l.drop (i + 1)).flatMap C5).count q := List.count_pos_iff.2 (List.mem_flatMap.2 ⟨y, hm, hy⟩)
  have h3 : 0 < (C5 x).count q := List.count_pos_iff.2 hx
  rw [e, List.flatMap_append, List.flatMap_cons, List.count_append, List.count_append, List.count_append]; omega
theorem Ka {t : Tp} {i j : Nat} {x y : Lk} {q : Int × Int} (hi : t.2.1[i]? = some x) (hj : t.2.1[j]? = some y) (hx : q ∈ C5 x) (hy : q ∈ C5 y) (h1 : (pl t).count q = 1) : i = j := by
  rcases Nat.lt_trichotomy i j with h | h | h
  · have := Nf (hs := t.2.2) hi hj h hx hy
    unfold pl at h1; omega
  · exact h
  · have := Nf (hs := t.2.2) hj hi h hy hx
    unfold pl at h1; omega
section sorting
variable {α : Type} (key : α → Int)
def Ln (L : List α) (j : Nat) (h : j < L.length) : List α := (L.set j (L[j - 1]'(by omega))).set (j - 1) L[j]
theorem F8 (L : List α) (j : Nat) (h : j < L.length) : (Ln L j h).length = L.length := by simp [Ln]
theorem Kt {L : List α} {j : Nat} (h : j < L.length) (h0 : 0 < j) {u : Nat} (hu : u < L.length) : (Ln L j h)[u]'(by rw [F8]; exact hu) = if u = j - 1 then L[j] else if u = j then L[j - 1]'(by omega) else L[u] := by
  unfold Ln
  rw [List.getElem_set]
  by_cases c1 : j - 1 = u
  · rw [if_pos c1, if_pos c1.symm]
  · rw [if_neg c1, if_neg (fun e => c1 e.symm), List.getElem_set]
    by_cases c2 : j = u
    · rw [if_pos c2, if_pos c2.symm]
    · rw [if_neg c2, if_neg (fun e => c2 e.symm)]
theorem Jd {L : List α} {j : Nat} (h : j < L.length) (h0 : 0 < j) : (Ln L j h).Perm L := by
  obtain ⟨i, rfl⟩ : ∃ i, j = i + 1 := ⟨j - 1, by omega⟩
  have hi : i < L.length := by omega
  have e : L = L.take i ++ L[i] :: L[i + 1] :: L.drop (i + 2) := by
    rw [← List.drop_eq_getElem_cons h, ← List.drop_eq_getElem_cons hi, List.take_append_drop]
  have e2 : Ln L (i + 1) h = L.take i ++ L[i + 1] :: L[i] :: L.drop (i + 2) := by
    apply List.ext_getElem
    · rw [F8]; simp; omega
    · intro u h1 h2
      rw [F8] at h1
      rw [Kt h h0 h1]
      have hlen0 : (L.take i).length = i := by simp; omega
      by_cases c1 : u = i
      · subst c1
        rw [if_pos (by omega), List.getElem_append_right (by omega)]
        simp only [hlen0, Nat.sub_self, List.getElem_cons_zero]
      · by_cases c2 : u = i + 1
        · subst c2
          rw [if_neg (by omega), if_pos rfl, List.getElem_append_right (by omega)]
          simp only [hlen0, Nat.add_sub_cancel_left, List.getElem_cons_succ, List.getElem_cons_zero]
          rfl
        · rw [if_neg (by omega), if_neg c2]
          by_cases c3 : u < i
          · rw [List.getElem_append_left (by simp; omega), List.getElem_take]
          · rw [List.getElem_append_right (by simp; omega)]
            have hlen : (L.take i).length = i := by simp; omega
            obtain ⟨v, hv⟩ : ∃ v, u - (L.take i).length = v + 2 := ⟨u - i - 2, by rw [hlen]; omega⟩
            simp only [hv, List.getElem_cons_succ, List.getElem_drop]
            congr 1; rw [hlen] at hv; omega
  rw [e2]
  conv => rhs; rw [e]
  exact List.Perm.append_left _ (List.Perm.swap _ _ _)
def OL (L : List α) (n : Nat) : Prop := ∀ u v (hv : v < L.length) (huv : u < v), v < n → key (L[u]'(by omega)) ≤ key L[v]
def Pl (L : List α) (n j : Nat) : Prop := ∀ u v (hv : v < L.length) (huv : u < v), v < n → v ≠ j → key (L[u]'(by omega)) ≤ key L[v]
variable {key}
theorem HS {L : List α} {n j : Nat} (h : Pl key L n j) (hj : j < L.length) (hn : ¬ (0 < j ∧ key L[j] < key (L[j - 1]'(by omega)))) : OL key L n := fun u v hv huv hvn => by
  by_cases c : v = j
  · subst c
    have h1 : key (L[v - 1]'(by omega)) ≤ key L[v] := by
      have := fun hh => hn ⟨by omega, hh⟩
      omega
    by_cases c2 : u = v - 1
    · subst c2; exact h1
    · exact Int.le_trans (h u (v - 1) (by omega) (by omega) (by omega) (by omega)) h1
  · exact h u v hv huv hvn c
theorem Lo {L : List α} {n j : Nat} (h : Pl key L n j) (hj : j < L.length) (h0 : 0 < j) (hjn : j < n) (hlt : key L[j] < key (L[j - 1]'(by omega))) : Pl key (Ln L j hj) n (j - 1) := fun u v hv huv hvn hne => by
  rw [F8] at hv
  rw [Kt hj h0 hv, Kt hj h0 (by omega : u < L.length), if_neg hne]
  by_cases c1 : v = j
  · subst c1
    rw [if_pos rfl, if_neg (by omega : ¬ u = v)]
    by_cases c2 : u = v - 1
    · rw [if_pos c2]; omega
    · rw [if_neg c2]; exact h u (v - 1) (by omega) (by omega) (by omega) (by omega)
  · rw [if_neg c1]
    by_cases c2 : u = j - 1
    · rw [if_pos c2]
      exact h j v hv (by omega) hvn c1
    · rw [if_neg c2]
      by_cases c3 : u = j
      · rw [if_pos c3]; exact h (j - 1) v hv (by omega) hvn c1
      · rw [if_neg c3]; exact h u v hv huv hvn c1
theorem Mz {N : Nat} {S : List α × Int → Option ((List α × Int) ⊕ List α)} (hS : ∀ L (j : Nat) (h : j < L.length), L.length = N → S (L, (j : Int)) = if 0 < j ∧ key L[j] < key (L[j - 1]'(by omega)) then some (.inl (Ln L j h, ((j - 1 : Nat) : Int))) else some (.inr L)) {n : Nat} :
    ∀ (j : Nat) (L : List α), L.length = N → j < L.length → j < n → Pl key L n j → ∃ L', AF S (L, (j : Int)) = some L' ∧ L'.Perm L ∧ OL key L' n := by
  intro j
  induction j with
  | zero =>
    intro L hN hj hjn h
    exact ⟨L, Bd (by rw [hS L 0 hj hN, if_neg (fun hh => Nat.lt_irrefl _ hh.1)]), List.Perm.refl _, HS h hj (fun hh => Nat.lt_irrefl _ hh.1)⟩
  | succ j ih =>
    intro L hN hj hjn h
    by_cases c : 0 < j + 1 ∧ key L[j + 1] < key (L[j + 1 - 1]'(by omega))
    · have h1 := Lo h hj c.1 hjn c.2
      obtain ⟨L', e, p, o⟩ := ih (Ln L (j + 1) hj) (by rw [F8]; exact hN) (by rw [F8]; omega) (by omega) h1
      exact ⟨L', by rw [CQ (by rw [hS L (j + 1) hj hN, if_pos c])]; exact e, p.trans (Jd hj c.1), o⟩
    · exact ⟨L, Bd (by rw [hS L (j + 1) hj hN, if_neg c]), List.Perm.refl _, HS h hj c⟩
theorem Mg {L0 : List α} {S : List α × Int → Option ((List α × Int) ⊕ List α)} {T : List α × Int → Option ((List α × Int) ⊕ List α)} (hS : ∀ L (j : Nat) (h : j < L.length), L.length = L0.length → S (L, (j : Int)) = if 0 < j ∧ key L[j] < key (L[j - 1]'(by omega)) then some (.inl (Ln L j h, ((j - 1 : Nat) : Int))) else some (.inr L))
    (hT : ∀ L (i : Nat), L.length = L0.length → i < L0.length → T (L, (i : Int)) = (AF S (L, (i : Int))).bind fun x => some (.inl (x, ((i + 1 : Nat) : Int)))) (hTe : ∀ L (i : Nat), L0.length ≤ i → T (L, (i : Int)) = some (.inr L)) :
    ∃ L', AF T (L0, 1) = some L' ∧ L'.Perm L0 ∧ OL key L' L0.length := by
  have keyl : ∀ (d i : Nat) (L : List α), i + d = L0.length → 1 ≤ i → L.Perm L0 → OL key L i → ∃ L', AF T (L, (i : Int)) = some L' ∧ L'.Perm L0 ∧ OL key L' L0.length := by
    intro d
    induction d with
    | zero =>
      intro i L hi h1 hp ho
      exact ⟨L, Bd (hTe L i (by omega)), hp, by rw [← hi]; exact ho⟩
    | succ d ih =>
      intro i L hi h1 hp ho
      have hlen := hp.length_eq
      obtain ⟨L', e, p, o⟩ := Mz (key := key) hS (n := i + 1) i L hlen (by omega) (by omega) (fun u v hv huv hvn hne => ho u v hv huv (by omega))
      have hst : T (L, (i : Int)) = some (.inl (L', ((i + 1 : Nat) : Int))) := by rw [hT L i hlen (by omega), e]; rfl
      rw [CQ hst]
      exact ih (i + 1) L' (by omega) (by omega) (p.trans hp) o
  by_cases c : L0.length = 0
  · exact ⟨L0, Bd (hTe L0 1 (by omega)), List.Perm.refl _, fun u v hv huv hvn => by omega⟩
  · exact keyl (L0.length - 1) 1 L0 (by omega) (Nat.le_refl _) (List.Perm.refl _) (fun u v hv huv hvn => by omega)
end sorting
theorem GB {α : Type} [BEq α] [LawfulBEq α] : ∀ {l : List α}, l.Nodup ↔ ∀ q ∈ l, l.count q = 1
  | [] => by simp
  | x :: l => by
    rw [List.nodup_cons, GB]
    constructor
    · rintro ⟨h1, h2⟩ q hq
      rw [List.count_cons]
      by_cases c : x = q
      · subst c
        rw [List.count_eq_zero_of_not_mem h1]; simp
      · rcases List.mem_cons.1 hq with h | h
        · exact absurd h.symm c
        · rw [h2 q h, if_neg (by simpa using c)]
    · intro h
      have hx := h x (List.mem_cons_self ..)
      rw [List.count_cons, if_pos (by simp)] at hx
      have h1 : x ∉ l := fun hm => by have := List.count_pos_iff.2 hm; omega
      refine ⟨h1, fun q hq => ?_⟩
      have := h q (List.mem_cons_of_mem _ hq)
      rw [List.count_cons, if_neg (by simp; intro e; subst e; exact h1 hq)] at this
      exact this
abbrev IM (l : List (Int × Int)) : List ((Int × Int) × Unit) := l.map fun q => (q, ())
theorem Jz : ∀ (l : List (Int × Int)) (q : Int × Int), (Ie (IM l) q).isSome = decide (q ∈ l)
  | [], q => by simp [IM, Ie]
  | x :: l, q => by
    show (if q = x then some () else Ie (IM l) q).isSome = _
    by_cases c : q = x
    · rw [if_pos c, decide_eq_true (by rw [c]; exact List.mem_cons_self ..)]; rfl
    · rw [if_neg c, Jz l q]
      exact decide_eq_decide.2 ⟨fun h => List.mem_cons_of_mem _ h, fun h => (List.mem_cons.1 h).resolve_left c⟩
theorem KV : ∀ (l : List (Int × Int)) (q : Int × Int), q ∉ l → Ia (IM l) q () = IM (l ++ [q])
  | [], q, _ => rfl
  | x :: l, q, h => by
    show (if q = x then (q, ()) :: IM l else (x, ()) :: Ia (IM l) q ()) = _
    rw [if_neg (fun e => h (by rw [e]; exact List.mem_cons_self ..)), KV l q (fun e => h (List.mem_cons_of_mem _ e))]; rfl
abbrev QR (t : Tp) (q : Int × Int) : Prop := 0 ≤ q.1 ∧ q.1 < t.1 ∧ 0 ≤ q.2 ∧ q.2 ≤ 7
theorem Nq {t : Tp} (hl : t.2.1.length ≤ 24) (hh : t.2.2.length ≤ 8) : Ds t = some (pl t) := by
  have fl : ∀ l : List Lk, (l.flatMap C5).length = 2 * l.length := fun l => by
    induction l with
    | nil => rfl
    | cons x l ih => rw [List.flatMap_cons, List.length_append, ih, List.length_cons]; simp; omega
  obtain ⟨s, h1, h2⟩ := BQ t.2.1.length (fun (s : List (Int × Int)) (k : Nat) => (s, (k : Int))) (B9 t) id (fun s k => s = (t.2.1.take k).flatMap C5)
    (fun s k hk hI => by
      have hb : s.length ≤ 100 := by rw [hI, fl, List.length_take]; omega
      refine ⟨s ++ C5 t.2.1[k], ?_, ?_⟩
      · rw [B9, if_pos (by omega), Bl (List.getElem?_eq_getElem hk), Option.bind_some, DH (by simp; omega), Option.bind_some, AY (by omega)]; rfl
      · rw [hI, List.take_succ_eq_append_getElem hk, List.flatMap_append, List.flatMap_cons, List.flatMap_nil, List.append_nil])
    (fun s _ => by rw [B9, if_neg (by omega)]; rfl) [] (by simp)
  have e1 : AF (B9 t) ([], 0) = some s := h2
  rw [List.take_length] at h1
  have hb1 : s.length ≤ 100 := by rw [h1, fl]; omega
  obtain ⟨s2, g1, g2⟩ := BQ t.2.2.length (fun (s : List (Int × Int)) (k : Nat) => (s, (k : Int))) (Cb t) id (fun s2 k => s2 = s ++ t.2.2.take k)
    (fun s2 k hk hI => by
      have hb : s2.length ≤ 200 := by rw [hI, List.length_append, List.length_take]; omega
      refine ⟨s2 ++ [t.2.2[k]], ?_, ?_⟩
      · rw [Cb, if_pos (by omega), Bl (List.getElem?_eq_getElem hk), Option.bind_some, DH (by simp; omega), Option.bind_some, AY (by omega)]; rfl
      · rw [hI, List.take_succ_eq_append_getElem hk, List.append_assoc])
    (fun s _ => by rw [Cb, if_neg (by omega)]; rfl) s (by simp)
  have e2 : AF (Cb t) (s, 0) = some s2 := g2
  rw [List.take_length, h1] at g1
  unfold Ds
  rw [e1, Option.bind_some, e2, g1]; rfl
theorem Mu {t : Tp} {L : List (Int × Int)} (hL : L.length ≤ 1000) : AF (BM t L) (0, []) = some (if (∀ q ∈ L, QR t q) ∧ L.Nodup then .inl (IM L) else .inr false) := by
  have key : ∀ (d k : Nat), k + d = L.length → (∀ q ∈ L.take k, QR t q) → (L.take k).Nodup → AF (BM t L) ((k : Int), IM (L.take k)) = some (if (∀ q ∈ L, QR t q) ∧ L.Nodup then .inl (IM L) else .inr false) := by
    intro d
    induction d with
    | zero =>
      intro k hk h1 h2
      rw [List.take_of_length_le (by omega)] at h1 h2 ⊢
      rw [if_pos ⟨h1, h2⟩]
      exact Bd (by rw [BM, if_neg (by omega)])
    | succ d ih =>
      intro k hk h1 h2
      have hkl : k < L.length := by omega
      have hm := List.getElem_mem hkl
      have hg := List.getElem?_eq_getElem hkl
      by_cases c1 : QR t L[k]
      · by_cases c2 : L[k] ∈ L.take k
        · rw [if_neg (fun hh => by
            have h3 := hh.2
            rw [← List.take_append_drop (k + 1) L, List.take_succ_eq_append_getElem hkl] at h3
            have h4 := (List.nodup_append.1 (List.nodup_append.1 h3).1).2.2
            exact h4 _ c2 _ (List.mem_singleton.2 rfl) rfl)]
          exact Bd (by
            rw [BM, if_pos (by omega), Bl hg, Option.bind_some, if_neg (by simp; omega), Jz, decide_eq_true c2, if_pos rfl])
        · have hst : BM t L ((k : Int), IM (L.take k)) = some (.inl (((k + 1 : Nat) : Int), IM (L.take (k + 1)))) := by
            rw [BM, if_pos (by omega), Bl hg, Option.bind_some, if_neg (by simp; omega), Jz, decide_eq_false c2, if_neg (by decide), KV _ _ c2, AY (by omega), List.take_succ_eq_append_getElem hkl]; rfl
          rw [CQ hst]
          refine ih (k + 1) (by omega) (fun q hq => ?_) ?_
          · rw [List.take_succ_eq_append_getElem hkl] at hq
            rcases List.mem_append.1 hq with h | h
            · exact h1 q h
            · rw [List.mem_singleton.1 h]; exact c1
          · rw [List.take_succ_eq_append_getElem hkl, List.nodup_append]
            exact ⟨h2, by simp, fun a ha b hb => by rw [List.mem_singleton.1 hb]; intro e; subst e; exact c2 ha⟩
      · rw [if_neg (fun hh => c1 (hh.1 _ hm))]
        exact Bd (by
          rw [BM, if_pos (by omega), Bl hg, Option.bind_some, if_pos (by simp; omega)])
  exact key L.length 0 (by omega) (by simp) (by simp)
theorem Mh {l : List Lk} (hl : l.length ≤ 1000) : AM l = some (decide (∃ x ∈ l, Bc x = true)) := by
  have key : ∀ (d k : Nat), k + d = l.length → (∀ x ∈ l.take k, ¬ Bc x = true) → ∃ i : Int, IW (AF (AB l) (k : Int)) (fun _ => some (-1)) = some i ∧ (0 ≤ i ↔ ∃ x ∈ l, Bc x = true) := by
    intro d
    induction d with
    | zero =>
      intro k hk hn
      rw [List.take_of_length_le (by omega)] at hn
      exact ⟨-1, by rw [Bd (by rw [AB, if_neg (by omega)])]; rfl, ⟨fun h => by omega, fun ⟨x, hx, h⟩ => absurd h (hn x hx)⟩⟩
    | succ d ih =>
      intro k hk hn
      have hkl : k < l.length := by omega
      have hg := List.getElem?_eq_getElem hkl
      by_cases c : Bc l[k] = true
      · exact ⟨(k : Int), by rw [Bd (by rw [AB, if_pos (by omega), Bl hg, Option.bind_some, if_pos c])]; rfl, ⟨fun _ => ⟨_, List.getElem_mem hkl, c⟩, fun _ => by omega⟩⟩
      · have hst : AB l (k : Int) = some (.inl ((k + 1 : Nat) : Int)) := by
          rw [AB, if_pos (by omega), Bl hg, Option.bind_some, if_neg c, AY (by omega)]; rfl
        rw [CQ hst]
        refine ih (k + 1) (by omega) (fun x hx => ?_)
        rw [List.take_succ_eq_append_getElem hkl] at hx
        rcases List.mem_append.1 hx with h | h
        · exact hn x h
        · rw [List.mem_singleton.1 h]; exact c
  obtain ⟨i, h1, h2⟩ := key l.length 0 (by omega) (by simp)
  have h1' : IW (AF (AB l) 0) (fun _ => some (-1)) = some i := h1
  unfold AM A4
  rw [h1', Option.bind_some]
  congr 1
  exact decide_eq_decide.2 h2
theorem PN {t : Tp} : DY t = some (decide (D5 t)) := by
  unfold DY
  by_cases c : t.1 < 1 ∨ 8 < t.1 ∨ 24 < (t.2.1.length : Int) ∨ 8 < (t.2.2.length : Int)
  · rw [if_pos (by simpa using c), decide_eq_false (fun h => by have := h.1; omega)]
  · rw [if_neg (by simpa using c)]
    have hl : t.2.1.length ≤ 24 := by omega
    have hh : t.2.2.length ≤ 8 := by omega
    have hpl : (pl t).length ≤ 1000 := by
      have fl : ∀ l : List Lk, (l.flatMap C5).length = 2 * l.length := fun l => by
        induction l with
        | nil => rfl
        | cons x l ih => rw [List.flatMap_cons, List.length_append, ih, List.length_cons]; simp; omega
      unfold pl
      rw [List.length_append, fl]; omega
    have hmem : ∀ q, q ∈ pl t ↔ (∃ x ∈ t.2.1, q ∈ C5 x) ∨ q ∈ t.2.2 := fun q => by
      unfold pl
      rw [List.mem_append, List.mem_flatMap]
    rw [Nq hl hh, Option.bind_some, Mu hpl, Mh (by omega)]
    have hok : D5 t ↔ ((∀ q ∈ pl t, QR t q) ∧ (pl t).Nodup) ∧ ¬ ∃ x ∈ t.2.1, Bc x = true := by
      have hw : ∀ x : Lk, ¬ Bc x = true ↔ (x.1 ≠ x.2.2.1 ∧ 1 ≤ x.2.2.2.2.1 ∧ x.2.2.2.2.1 ≤ x.2.2.2.2.2 ∧ x.2.2.2.2.2 ≤ 1000) := fun x => by
        unfold Bc
        simp only [Bool.or_eq_true, decide_eq_true_eq]
        omega
      constructor
      · rintro ⟨h0, h1, h2⟩
        have hp : ∀ q ∈ pl t, ED t q := fun q hq => by
          rcases (hmem q).1 hq with ⟨x, hx, hq⟩ | hq
          · obtain ⟨_, _, _, _, k5, k6⟩ := h1 x hx
            rcases List.mem_cons.1 hq with h | h
            · rw [h]; exact k5
            · rw [List.mem_singleton.1 h]; exact k6
          · exact h2 q hq
        refine ⟨⟨fun q hq => ?_, GB.2 fun q hq => (hp q hq).2.2.2.2⟩, fun ⟨x, hx, hwx⟩ => ?_⟩
        · obtain ⟨a1, a2, a3, a4, _⟩ := hp q hq
          exact ⟨a1, a2, a3, a4⟩
        · obtain ⟨k1, k2, k3, k4, _⟩ := h1 x hx
          exact (hw x).2 ⟨k1, k2, k3, k4⟩ hwx
      · rintro ⟨⟨h1, h2⟩, h3⟩
        have hp : ∀ q ∈ pl t, ED t q := fun q hq => by
          obtain ⟨a1, a2, a3, a4⟩ := h1 q hq
          exact ⟨a1, a2, a3, a4, GB.1 h2 q hq⟩
        refine ⟨by omega, fun x hx => ?_, fun q hq => hp q ((hmem q).2 (.inr hq))⟩
        obtain ⟨k1, k2, k3, k4⟩ := (hw x).1 (fun h => h3 ⟨x, hx, h⟩)
        exact ⟨k1, k2, k3, k4, hp _ ((hmem _).2 (.inl ⟨x, hx, by simp⟩)), hp _ ((hmem _).2 (.inl ⟨x, hx, by simp⟩))⟩
    by_cases c1 : (∀ q ∈ pl t, QR t q) ∧ (pl t).Nodup
    · rw [if_pos c1]
      show some (!decide (∃ x ∈ t.2.1, Bc x = true)) = _
      by_cases c2 : ∃ x ∈ t.2.1, Bc x = true
      · rw [decide_eq_true c2, decide_eq_false (fun h => (hok.1 h).2 c2)]; rfl
      · rw [decide_eq_false c2, decide_eq_true (hok.2 ⟨c1, c2⟩)]; rfl
    · rw [if_neg c1, decide_eq_false (fun h => c1 (hok.1 h).1)]; rfl
abbrev Sd := Int × Int × Int
def LV (sw : Int) (i : Nat) (x : Lk) : List Sd := if sw = x.1 then [(x.2.1, x.2.2.1, (i : Int))] else if sw = x.2.2.1 then [(x.2.2.2.1, x.1, (i : Int))] else []
def FP (t : Tp) (sw : Int) (s : Sd) : Prop := ∃ i x, t.2.1[i]? = some x ∧ s ∈ LV sw i x
theorem Hh {sw : Int} {i : Nat} {x : Lk} {s : Sd} (h : s ∈ LV sw i x) : s.2.2 = (i : Int) ∧ (sw, s.1) ∈ C5 x := by
  unfold LV at h
  by_cases c1 : sw = x.1
  · rw [if_pos c1, List.mem_singleton] at h; subst h; simp [c1]
  · rw [if_neg c1] at h
    by_cases c2 : sw = x.2.2.1
    · rw [if_pos c2, List.mem_singleton] at h; subst h; simp [c2]
    · rw [if_neg c2] at h; cases h
theorem Mb {t : Tp} (hl : t.2.1.length ≤ 24) (sw : Int) : ∃ out, AF (CB t sw) ([], 0) = some out ∧ (∀ s, s ∈ out ↔ FP t sw s) ∧ out.Pairwise fun a b => a.2.2 < b.2.2 := by
  obtain ⟨out, ⟨h1, h3, _⟩, h2⟩ := BQ t.2.1.length (fun (s : List Sd) (k : Nat) => (s, (k : Int))) (CB t sw) id
    (fun out k => (∀ s, s ∈ out ↔ ∃ i x, i < k ∧ t.2.1[i]? = some x ∧ s ∈ LV sw i x) ∧ out.Pairwise (fun a b => a.2.2 < b.2.2) ∧ out.length ≤ k)
    (fun out k hk ⟨i1, i2, i3⟩ => by
      have hg := List.getElem?_eq_getElem hk
      refine ⟨out ++ LV sw k t.2.1[k], ?_, fun s => ?_, ?_, ?_⟩
      · rw [CB, if_pos (by omega), Bl hg, Option.bind_some]
        unfold LV
        by_cases c1 : sw = t.2.1[k].1
        · rw [if_pos c1, if_pos c1, DH (by simp; omega), Option.bind_some, Option.bind_some, AY (by omega)]; rfl
        · rw [if_neg c1, if_neg c1]
          by_cases c2 : sw = t.2.1[k].2.2.1
          · rw [if_pos c2, if_pos c2, DH (by simp; omega), Option.bind_some, Option.bind_some, AY (by omega)]; rfl
          · rw [if_neg c2, if_neg c2, Option.bind_some, AY (by omega), List.append_nil]; rfl
      · rw [List.mem_append, i1]
        constructor
        · rintro (⟨i, x, a, b, c⟩ | h)
          · exact ⟨i, x, by omega, b, c⟩
          · exact ⟨k, _, by omega, hg, h⟩
        · rintro ⟨i, x, a, b, c⟩
          by_cases e : i = k
          · subst e
            rw [hg] at b
            cases b
            exact .inr c
          · exact .inl ⟨i, x, by omega, b, c⟩
      · rw [List.pairwise_append]
        refine ⟨i2, ?_, fun a ha b hb => ?_⟩
        · unfold LV
          split
          · simp
          · split <;> simp
        · obtain ⟨i, x, a1, a2, a3⟩ := (i1 a).1 ha
          rw [(Hh a3).1, (Hh hb).1]; omega
      · have : (LV sw k t.2.1[k]).length ≤ 1 := by
          unfold LV
          split
          · simp
          · split <;> simp
        rw [List.length_append]; omega)
    (fun s _ => by rw [CB, if_neg (by omega)]; rfl) [] ⟨fun s => by simp, List.Pairwise.nil, by simp⟩
  refine ⟨out, h2, fun s => ?_, h3⟩
  rw [h1]
  exact ⟨fun ⟨i, x, _, b, c⟩ => ⟨i, x, b, c⟩, fun ⟨i, x, b, c⟩ => ⟨i, x, (List.getElem?_eq_some_iff.1 b).1, b, c⟩⟩
theorem OT {t : Tp} (hok : D5 t) {sw : Int} {a b : Sd} (ha : FP t sw a) (hb : FP t sw b) (hne : a.2.2 ≠ b.2.2) : a.1 ≠ b.1 := fun e => by
  obtain ⟨i, x, a1, a2⟩ := ha
  obtain ⟨j, y, b1, b2⟩ := hb
  obtain ⟨a3, a4⟩ := Hh a2
  obtain ⟨b3, b4⟩ := Hh b2
  have hxm := List.mem_of_getElem? a1
  have q1 : (pl t).count (sw, a.1) = 1 := by
    obtain ⟨_, _, _, _, k5, k6⟩ := hok.2.1 x hxm
    rcases List.mem_cons.1 a4 with h | h
    · rw [h]; exact k5.2.2.2.2
    · rw [List.mem_singleton.1 h]; exact k6.2.2.2.2
  have := Ka a1 b1 a4 (by rw [e]; exact b4) q1
  rw [a3, b3, this] at hne
  exact hne rfl
theorem FJ {t : Tp} (hok : D5 t) {sw : Int} {a : Sd} (ha : FP t sw a) : 0 ≤ a.1 ∧ a.1 ≤ 7 := by
  obtain ⟨i, x, a1, a2⟩ := ha
  obtain ⟨_, a4⟩ := Hh a2
  obtain ⟨_, _, _, _, k5, k6⟩ := hok.2.1 x (List.mem_of_getElem? a1)
  rcases List.mem_cons.1 a4 with h | h
  · have h2 : a.1 = x.2.1 := congrArg Prod.snd h
    have := k5.2.2.1
    have := k5.2.2.2.1
    simp only at *; omega
  · have h2 : a.1 = x.2.2.2.1 := congrArg Prod.snd (List.mem_singleton.1 h)
    have := k6.2.2.1
    have := k6.2.2.2.1
    simp only at *; omega
theorem Qj (a b : Int) : Cz a b < 0 ↔ a < b := by
  unfold Cz Co
  rw [if_neg (by simp), if_neg (by simp)]
  by_cases c : a < b
  · rw [if_pos c]; simp [c]
  · rw [if_neg c]
    split <;> simp [c]
theorem Nb (a b : Sd) : DZ a b < 0 ↔ a.1 < b.1 := Qj a.1 b.1
theorem NM (L : List Sd) (j : Nat) (h : j < L.length) (hL : L.length ≤ 1000) : AJ 0 (L, (j : Int)) = if 0 < j ∧ L[j].1 < (L[j - 1]'(by omega)).1 then some (.inl (Ln L j h, ((j - 1 : Nat) : Int))) else some (.inr L) := by
  rw [AJ]
  by_cases c : 0 < j
  · have hw : BH ((j : Int) - 1) = ((j - 1 : Nat) : Int) := by rw [AY (by omega)]; omega
    have g1 := Bl (List.getElem?_eq_getElem h)
    have g2 := Bl (List.getElem?_eq_getElem (show j - 1 < L.length by omega))
    rw [if_pos (by omega), hw, g1, Option.bind_some, g2, Option.bind_some, Option.bind_some]
    by_cases c2 : L[j].1 < (L[j - 1]'(by omega)).1
    · have hlen : j - 1 < (AA L (j : Int) (L[j - 1]'(by omega))).length := by unfold AA; simp; omega
      rw [decide_eq_true ((Nb _ _).2 c2), if_pos rfl, if_pos ⟨c, c2⟩, Option.bind_some, Option.bind_some, Option.bind_some, Bl (List.getElem?_eq_getElem hlen), Option.bind_some]
      unfold AA Ln
      rw [Int.toNat_natCast, Int.toNat_natCast]
    · rw [decide_eq_false (fun hh => c2 ((Nb _ _).1 hh)), if_neg (by decide), if_neg (fun hh => c2 hh.2)]
  · rw [if_neg (by omega), Option.bind_some, if_neg (by decide), if_neg (fun hh => c hh.1)]
theorem Qz {L : List Sd} (hL : L.length ≤ 12) : ∃ L', AQ L = some L' ∧ L'.Perm L ∧ OL (fun s : Sd => s.1) L' L.length := by
  have hlen : ∀ n : Nat, n ≤ 12 → ∃ v, Cn (IntKind.u64.wrap (n : Int)) = some v := fun n hn => by
    have : n = 0 ∨ n = 1 ∨ n = 2 ∨ n = 3 ∨ n = 4 ∨ n = 5 ∨ n = 6 ∨ n = 7 ∨ n = 8 ∨ n = 9 ∨ n = 10 ∨ n = 11 ∨ n = 12 := by omega
    apply Option.isSome_iff_exists.1
    rcases this with rfl | rfl | rfl | rfl | rfl | rfl | rfl | rfl | rfl | rfl | rfl | rfl | rfl <;> kernel_rfl
  obtain ⟨v, hv⟩ := hlen L.length hL
  have hn : (L.length : Int) = ((L.length : Nat) : Int) := rfl
  obtain ⟨L', e, p, o⟩ := Mg (key := fun s : Sd => s.1) (L0 := L) (S := AJ 0) (T := AG 0 (L.length : Int)) (fun M j h hM => NM M j h (by omega))
    (fun M i hM hi => by rw [AG, if_pos (by omega), AY (by omega)]; rfl) (fun M i hi => by rw [AG, if_neg (by omega)])
  refine ⟨L', ?_, p, o⟩
  have hp : A3 L 0 (L.length : Int) v = some L' := by
    unfold A3
    refine Bd ?_
    rw [A8, if_pos (by rw [AY (by omega)]; omega)]
    unfold AW
    show (AF (AG 0 (L.length : Int)) (L, 1)).bind _ = _
    rw [e]; rfl
  unfold AQ
  rw [hv, Option.bind_some, hp]; rfl
theorem CX : ∀ (m : Nat) (got : List Int), got.Nodup → (∀ x ∈ got, 0 ≤ x ∧ x < (m : Int)) → got.length ≤ m
  | 0, got, _, h => by
    cases got with
    | nil => simp
    | cons x l => have := h x (List.mem_cons_self ..); omega
  | m + 1, got, hn, h => by
    have h2 := CX m (got.erase (m : Int)) (hn.erase _) (fun x hx => by
      have h3 := h x (List.mem_of_mem_erase hx)
      have h4 : x ≠ (m : Int) := fun e => by
        subst e
        exact (List.Nodup.not_mem_erase hn) hx
      omega)
    have h5 : got.length ≤ (got.erase (m : Int)).length + 1 := by
      rw [List.length_erase]; split <;> omega
    omega
theorem Ig {t : Tp} (hok : D5 t) (sw : Int) : ∃ N, CO t sw = some N ∧ (∀ s, s ∈ N ↔ FP t sw s) ∧ N.Pairwise (fun a b => a.1 < b.1) ∧ N.length ≤ 8 := by
  obtain ⟨out, e, hm, hp⟩ := Mb hok.1.2.2.1 sw
  have hd : out.Pairwise fun a b => a.1 ≠ b.1 := hp.imp_of_mem fun {a b} ha hb hab => OT hok ((hm a).1 ha) ((hm b).1 hb) (by omega)
  have hlen : out.length ≤ 8 := by
    have := CX 8 (out.map (·.1)) (List.pairwise_map.2 hd) (fun x hx => by
      obtain ⟨s, hs, rfl⟩ := List.mem_map.1 hx
      have := FJ hok ((hm s).1 hs)
      omega)
    rwa [List.length_map] at this
  obtain ⟨N, e2, p, o⟩ := Qz (L := out) (by omega)
  have hN := p.length_eq
  refine ⟨N, ?_, fun s => by rw [p.mem_iff, hm], ?_, by omega⟩
  · unfold CO
    rw [e, Option.bind_some, e2]; rfl
  · have hd2 : N.Pairwise fun a b => a.1 ≠ b.1 := (p.pairwise_iff (fun {a b} h => Ne.symm h)).2 hd
    rw [List.pairwise_iff_getElem] at hd2 ⊢
    intro i j hi hj hij
    have h1 := hd2 i j hi hj hij
    have h2 : N[i].1 ≤ N[j].1 := o i j hj hij (by omega)
    omega
def hv (h : List Int) (v : Int) : Int := h.getD v.toNat (-1)
theorem GK {h : List Int} {v : Int} (h0 : 0 ≤ v) (h1 : v < (h.length : Int)) : ix h v = some (hv h v) := by
  obtain ⟨k, rfl⟩ : ∃ k : Nat, v = k := ⟨v.toNat, by omega⟩
  have hk : k < h.length := by omega
  rw [Bl (List.getElem?_eq_getElem hk)]
  unfold hv
  rw [Int.toNat_natCast, List.getD_eq_getElem?_getD, List.getElem?_eq_getElem hk]; rfl
theorem H3 {h : List Int} {v y : Int} : (AA h v y).length = h.length := by unfold AA; simp
theorem Hm {h : List Int} {v u y : Int} (h0 : 0 ≤ v) (h1 : v < (h.length : Int)) (h2 : 0 ≤ u) : hv (AA h v y) u = if u = v then y else hv h u := by
  unfold hv AA
  rw [List.getD_eq_getElem?_getD, List.getElem?_set]
  by_cases c : u = v
  · subst c
    rw [if_pos rfl, if_pos rfl, if_pos (by omega)]; rfl
  · rw [if_neg (by omega), if_neg c, List.getD_eq_getElem?_getD]
theorem Qg {h g : List Int} (hl : h.length = g.length) (he : ∀ v : Int, 0 ≤ v → v < (h.length : Int) → hv h v = hv g v) : h = g := by
  apply List.ext_getElem hl
  intro i h1 h2
  have := he (i : Int) (by omega) (by omega)
  unfold hv at this
  rw [Int.toNat_natCast, List.getD_eq_getElem?_getD, List.getD_eq_getElem?_getD, List.getElem?_eq_getElem h1, List.getElem?_eq_getElem h2] at this
  exact this
abbrev VV (t : Tp) (v : Int) : Prop := 0 ≤ v ∧ v < t.1
theorem Rt : Av [-1] 1 = some [-1] := by
  unfold Av
  rw [if_neg (by decide), if_neg (by decide)]
  show (mk (BH 1) (0 : Int)).bind _ = _
  rw [HC (by decide), Option.bind_some]
  show (AF Aq ([-1], 1)).bind _ = _
  rw [Cf.2 (⟨6, by kernel_rfl⟩ : ∃ n, C7 Aq n ([-1], 1) = some [-1])]; rfl
theorem RF : Av [-1] 2 = some [-1, -1] := by
  unfold Av
  rw [if_neg (by decide), if_neg (by decide)]
  show (mk (BH 2) (0 : Int)).bind _ = _
  rw [HC (by decide), Option.bind_some]
  show (AF Aq ([-1, 0], 1)).bind _ = _
  rw [Cf.2 (⟨6, by kernel_rfl⟩ : ∃ n, C7 Aq n ([-1, 0], 1) = some [-1, -1])]; rfl
theorem RC : Av [-1] 3 = some [-1, -1, -1] := by
  unfold Av
  rw [if_neg (by decide), if_neg (by decide)]
  show (mk (BH 3) (0 : Int)).bind _ = _
  rw [HC (by decide), Option.bind_some]
  show (AF Aq ([-1, 0, 0], 1)).bind _ = _
  rw [Cf.2 (⟨6, by kernel_rfl⟩ : ∃ n, C7 Aq n ([-1, 0, 0], 1) = some [-1, -1, -1])]; rfl
theorem RB : Av [-1] 4 = some [-1, -1, -1, -1] := by
  unfold Av
  rw [if_neg (by decide), if_neg (by decide)]
  show (mk (BH 4) (0 : Int)).bind _ = _
  rw [HC (by decide), Option.bind_some]
  show (AF Aq ([-1, 0, 0, 0], 1)).bind _ = _
  rw [Cf.2 (⟨6, by kernel_rfl⟩ : ∃ n, C7 Aq n ([-1, 0, 0, 0], 1) = some [-1, -1, -1, -1])]; rfl
theorem RI : Av [-1] 5 = some [-1, -1, -1, -1, -1] := by
  unfold Av
  rw [if_neg (by decide), if_neg (by decide)]
  show (mk (BH 5) (0 : Int)).bind _ = _
  rw [HC (by decide), Option.bind_some]
  show (AF Aq ([-1, 0, 0, 0, 0], 1)).bind _ = _
  rw [Cf.2 (⟨6, by kernel_rfl⟩ : ∃ n, C7 Aq n ([-1, 0, 0, 0, 0], 1) = some [-1, -1, -1, -1, -1])]; rfl
theorem RK : Av [-1] 6 = some [-1, -1, -1, -1, -1, -1] := by
  unfold Av
  rw [if_neg (by decide), if_neg (by decide)]
  show (mk (BH 6) (0 : Int)).bind _ = _
  rw [HC (by decide), Option.bind_some]
  show (AF Aq ([-1, 0, 0, 0, 0, 0], 1)).bind _ = _
  rw [Cf.2 (⟨6, by kernel_rfl⟩ : ∃ n, C7 Aq n ([-1, 0, 0, 0, 0, 0], 1) = some [-1, -1, -1, -1, -1, -1])]; rfl
theorem Rw : Av [-1] 7 = some [-1, -1, -1, -1, -1, -1, -1] := by
  unfold Av
  rw [if_neg (by decide), if_neg (by decide)]
  show (mk (BH 7) (0 : Int)).bind _ = _
  rw [HC (by decide), Option.bind_some]
  show (AF Aq ([-1, 0, 0, 0, 0, 0, 0], 1)).bind _ = _
  rw [Cf.2 (⟨6, by kernel_rfl⟩ : ∃ n, C7 Aq n ([-1, 0, 0, 0, 0, 0, 0], 1) = some [-1, -1, -1, -1, -1, -1, -1])]; rfl
theorem Rs : Av [-1] 8 = some [-1, -1, -1, -1, -1, -1, -1, -1] := by
  unfold Av
  rw [if_neg (by decide), if_neg (by decide)]
  show (mk (BH 8) (0 : Int)).bind _ = _
  rw [HC (by decide), Option.bind_some]
  show (AF Aq ([-1, 0, 0, 0, 0, 0, 0, 0], 1)).bind _ = _
  rw [Cf.2 (⟨6, by kernel_rfl⟩ : ∃ n, C7 Aq n ([-1, 0, 0, 0, 0, 0, 0, 0], 1) = some [-1, -1, -1, -1, -1, -1, -1, -1])]; rfl
theorem Pq {n : Int} (h : 1 ≤ n ∧ n ≤ 8) : Av [-1] n = some (List.replicate n.toNat (-1)) := by
  have : n = 1 ∨ n = 2 ∨ n = 3 ∨ n = 4 ∨ n = 5 ∨ n = 6 ∨ n = 7 ∨ n = 8 := by omega
  rcases this with rfl | rfl | rfl | rfl | rfl | rfl | rfl | rfl
  · exact Rt
  · exact RF
  · exact RC
  · exact RB
  · exact RI
  · exact RK
  · exact Rw
  · exact Rs
theorem Pd {n : Nat} {v : Int} : hv (List.replicate n (-1)) v = -1 := by
  unfold hv
  rw [List.getD_eq_getElem?_getD, List.getElem?_replicate]
  split <;> rfl
theorem Km (t : Tp) (a p : Int) : Jh t a p = D0 t a p := by
  have : Gw t a p = B7 t a p := by
    funext i
    rw [Gw, B7]
    congr 2
    funext x
    by_cases c1 : a = x.1 ∧ p = x.2.1
    · rw [if_pos c1, if_pos (by simp [c1.1, c1.2])]
    · rw [if_neg c1, if_neg (by simp only [Bool.and_eq_true, decide_eq_true_eq]; exact fun h => c1 ⟨h.1.symm, h.2.symm⟩)]
      by_cases c2 : a = x.2.2.1 ∧ p = x.2.2.2.1
      · rw [if_pos c2, if_pos (by simp [c2.1, c2.2])]
      · rw [if_neg c2, if_neg (by simp only [Bool.and_eq_true, decide_eq_true_eq]; exact fun h => c2 ⟨h.1.symm, h.2.symm⟩)]
  unfold Jh D0
  rw [this]
theorem Oy : ∀ {A B : List Sd}, A.Pairwise (fun a b => a.1 < b.1) → B.Pairwise (fun a b => a.1 < b.1) → (∀ s, s ∈ A ↔ s ∈ B) → A = B
  | [], [], _, _, _ => rfl
  | [], b :: B, _, _, h => by have := (h b).2 (List.mem_cons_self ..); cases this
  | a :: A, [], _, _, h => by have := (h a).1 (List.mem_cons_self ..); cases this
  | a :: A, b :: B, hA, hB, h => by
    obtain ⟨a1, a2⟩ := List.pairwise_cons.1 hA
    obtain ⟨b1, b2⟩ := List.pairwise_cons.1 hB
    have hab : a = b := by
      rcases List.mem_cons.1 ((h a).1 (List.mem_cons_self ..)) with e | e
      · exact e
      · rcases List.mem_cons.1 ((h b).2 (List.mem_cons_self ..)) with e2 | e2
        · exact e2.symm
        · have := b1 a e
          have := a1 b e2
          omega
    subst hab
    rw [Oy a2 b2 (fun s => ?_)]
    constructor
    · intro hs
      rcases List.mem_cons.1 ((h s).1 (List.mem_cons_of_mem _ hs)) with e | e
      · subst e; have := a1 s hs; omega
      · exact e
    · intro hs
      rcases List.mem_cons.1 ((h s).2 (List.mem_cons_of_mem _ hs)) with e | e
      · subst e; have := b1 s hs; omega
      · exact e
theorem MH {t : Tp} (hok : D5 t) (sw p : Int) : ∃ R : Pr, D0 t sw p = some R ∧ ((R.2.2.2 = true ∧ FP t sw (p, R.1, R.2.2.1)) ∨ (R.2.2.2 = false ∧ ∀ s : Sd, FP t sw s → s.1 ≠ p)) ∧ ∀ s : Sd, FP t sw s → s.1 = p → R.2.2.2 = true ∧ s = (p, R.1, R.2.2.1) := by
  obtain ⟨R, e, h⟩ := NA hok.1.2.2.1 sw p
  refine ⟨R, e, ?_, ?_⟩
  · rcases h with ⟨rfl, hn⟩ | ⟨i, x, hi, hs⟩
    · refine .inr ⟨rfl, fun s ⟨j, y, hj, hy⟩ e => ?_⟩
      have := (Hh hy).2
      rw [e] at this
      exact hn y (List.mem_of_getElem? hj) this
    · refine .inl ?_
      have hne := (hok.2.1 x (List.mem_of_getElem? hi)).1
      rcases hs with ⟨a1, a2, rfl⟩ | ⟨_, a1, a2, rfl⟩
      · exact ⟨rfl, i, x, hi, by unfold LV; rw [if_pos a1, a2]; simp⟩
      · exact ⟨rfl, i, x, hi, by unfold LV; rw [if_neg (fun e => hne (e.symm.trans a1)), if_pos a1, a2]; simp⟩
  · rintro s ⟨j, y, hj, hy⟩ hsp
    obtain ⟨s1, s2⟩ := Hh hy
    rcases h with ⟨rfl, hn⟩ | ⟨i, x, hi, hs⟩
    · rw [hsp] at s2
      exact absurd s2 (hn y (List.mem_of_getElem? hj))
    · have m1 := (OJ hs).1
      have hxm := List.mem_of_getElem? hi
      obtain ⟨hne, _, _, _, k5, k6⟩ := hok.2.1 x hxm
      have q1 : (pl t).count (sw, p) = 1 := by
        rcases List.mem_cons.1 m1 with h | h
        · rw [h]; exact k5.2.2.2.2
        · rw [List.mem_singleton.1 h]; exact k6.2.2.2.2
      have hij := Ka hi hj m1 (by rw [← hsp]; exact s2) q1
      subst hij
      have hxy : x = y := Option.some.inj (hi.symm.trans hj)
      subst hxy
      unfold LV at hy
      rcases hs with ⟨a1, a2, rfl⟩ | ⟨_, a1, a2, rfl⟩
      · rw [if_pos a1, List.mem_singleton] at hy
        subst hy
        exact ⟨rfl, by rw [← hsp]⟩
      · rw [if_neg (fun e => hne (e.symm.trans a1)), if_pos a1, List.mem_singleton] at hy
        subst hy
        exact ⟨rfl, by rw [← hsp]⟩
theorem Hj {t : Tp} (hok : D5 t) (sw : Int) : ∃ N, FR t sw = some N ∧ (∀ s, s ∈ N ↔ FP t sw s) ∧ N.Pairwise (fun a b => a.1 < b.1) := by
  obtain ⟨out, ⟨h1, h3, _⟩, h2⟩ := BQ 8 (fun (s : List Sd) (k : Nat) => (s, (k : Int))) (D6 t sw) id
    (fun out k => (∀ s, s ∈ out ↔ FP t sw s ∧ s.1 < (k : Int)) ∧ out.Pairwise (fun a b => a.1 < b.1) ∧ out.length ≤ k)
    (fun out k hk ⟨i1, i2, i3⟩ => by
      obtain ⟨R, e, hR, hu⟩ := MH hok sw (k : Int)
      rcases hR with ⟨hR, hat⟩ | ⟨hR, hno⟩
      · refine ⟨out ++ [((k : Int), R.1, R.2.2.1)], ?_, fun s => ?_, ?_, by simp; omega⟩
        · rw [D6, if_pos (by omega), Km, e, Option.bind_some, if_pos hR, DH (by simp; omega), Option.bind_some, Option.bind_some, AY (by omega)]; rfl
        · rw [List.mem_append, i1, List.mem_singleton]
          constructor
          · rintro (⟨a, b⟩ | rfl)
            · exact ⟨a, by omega⟩
            · exact ⟨hat, by show (k : Int) < _; omega⟩
          · rintro ⟨a, b⟩
            by_cases c : s.1 = (k : Int)
            · exact .inr (hu s a c).2
            · exact .inl ⟨a, by omega⟩
        · rw [List.pairwise_append]
          exact ⟨i2, by simp, fun a ha b hb => by rw [List.mem_singleton.1 hb]; exact ((i1 a).1 ha).2⟩
      · refine ⟨out, ?_, fun s => ?_, i2, by omega⟩
        · rw [D6, if_pos (by omega), Km, e, Option.bind_some, if_neg (by rw [hR]; decide), Option.bind_some, AY (by omega)]; rfl
        · rw [i1]
          exact ⟨fun ⟨a, b⟩ => ⟨a, by omega⟩, fun ⟨a, b⟩ => ⟨a, by have := hno s a; omega⟩⟩)
    (fun s _ => by rw [D6, if_neg (by omega)]; rfl) [] ⟨fun s => ⟨fun h => (by cases h), fun ⟨a, b⟩ => (by have := (FJ hok a).1; omega)⟩, List.Pairwise.nil, by simp⟩
  have e1 : AF (D6 t sw) ([], 0) = some out := h2
  refine ⟨out, ?_, fun s => ?_, h3⟩
  · unfold FR; rw [e1]; rfl
  · rw [h1]
    exact ⟨fun h => h.1, fun h => ⟨h, by have := (FJ hok h).2; omega⟩⟩
end Go.Proofs.Ytbogijdfacoccaa
