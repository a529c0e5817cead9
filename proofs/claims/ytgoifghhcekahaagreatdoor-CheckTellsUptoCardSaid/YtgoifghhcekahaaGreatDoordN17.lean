/- Layer 30: which networks may be. Conditions: none. -/
import Derived.Test.YtgoifghhcekahaaGreatDoordN30
namespace Go.Proofs.YtgoifghhcekahaaGreatDoor
set_option linter.unusedVariables false
set_option linter.unusedSimpArgs false
open Go Go.RowKit
abbrev Lk := Int × Int × Int × Int × Int × Int
abbrev Tp := Int × List Lk × List (Int × Int)
abbrev JW (l : Lk) : List (Int × Int) := [(l.1, l.2.1), (l.2.2.1, l.2.2.2.1)]
def pl (t : Tp) : List (Int × Int) := t.2.1.flatMap JW ++ t.2.2
abbrev Hc (t : Tp) (q : Int × Int) : Prop := 0 ≤ q.1 ∧ q.1 < t.1 ∧ 0 ≤ q.2 ∧ q.2 ≤ 7 ∧ (pl t).count q = 1
abbrev SQ (t : Tp) (l : Lk) : Prop := l.1 ≠ l.2.2.1 ∧ 1 ≤ l.2.2.2.2.1 ∧ l.2.2.2.2.1 ≤ l.2.2.2.2.2 ∧ l.2.2.2.2.2 ≤ 1000 ∧ Hc t (l.1, l.2.1) ∧ Hc t (l.2.2.1, l.2.2.2.1)
abbrev XI (t : Tp) : Prop := (1 ≤ t.1 ∧ t.1 ≤ 8 ∧ t.2.1.length ≤ 24 ∧ t.2.2.length ≤ 8) ∧ (∀ l ∈ t.2.1, SQ t l) ∧ ∀ h ∈ t.2.2, Hc t h
theorem NT (q : Int × Int) : ∀ l : List Lk, (l.flatMap JW).count q ≤ 2 * l.length
  | [] => by simp
  | x :: l => by
    have h := NT q l
    have h2 : (JW x).count q ≤ 2 := List.count_le_length
    rw [List.flatMap_cons, List.count_append, List.length_cons]; omega
theorem QP {t : Tp} (hl : t.2.1.length ≤ 24) (hh : t.2.2.length ≤ 8) (a p : Int) : H2 t a p = some (decide (Hc t (a, p))) := by
  obtain ⟨s, h1, h2⟩ := CV t.2.1.length (fun (s : Int) (k : Nat) => (s, (k : Int))) (Gu t a p) id (fun s k => s = (((t.2.1.take k).flatMap JW).count (a, p) : Nat))
    (fun s k hk hI => by
      have hb := NT (a, p) (t.2.1.take k)
      rw [List.length_take] at hb
      have hx : ∀ c : Prop, [Decidable c] → ∀ s : Int, 0 ≤ s ∧ s ≤ 100 → (if c then some (AJ (s + 1)) else some s) = some (s + (if c then 1 else 0)) := fun c _ s hs => by
        by_cases h : c
        · rw [if_pos h, if_pos h, Ax (by omega)]
        · rw [if_neg h, if_neg h]; simp
      refine ⟨s + (if (decide (t.2.1[k].1 = a) && decide (t.2.1[k].2.1 = p)) = true then 1 else 0) + (if (decide (t.2.1[k].2.2.1 = a) && decide (t.2.1[k].2.2.2.1 = p)) = true then 1 else 0), ?_, ?_⟩
      · rw [Gu, if_pos (by omega), Bl (List.getElem?_eq_getElem hk), Option.bind_some, hx _ s (by omega), Option.bind_some, hx _ _ (by split <;> omega), Option.bind_some, Ax (by omega)]; rfl
      · rw [hI, List.take_succ_eq_append_getElem hk, List.flatMap_append, List.count_append, List.flatMap_cons, List.flatMap_nil, List.append_nil]
        have hc : ∀ (x : Lk), (((JW x).count (a, p) : Nat) : Int) = (if (decide (x.1 = a) && decide (x.2.1 = p)) = true then 1 else 0) + (if (decide (x.2.2.1 = a) && decide (x.2.2.2.1 = p)) = true then 1 else 0) := fun x => by
          simp only [JW, List.count_cons, List.count_nil, beq_iff_eq, Prod.mk.injEq, Bool.and_eq_true, decide_eq_true_eq]
          split <;> split <;> rfl
        rw [Int.natCast_add, hc]; omega)
    (fun s _ => by rw [Gu, if_neg (by omega)]; rfl) 0 (by simp)
  have e1 : AB (Gu t a p) (0, 0) = some s := h2
  rw [List.take_length] at h1
  have hb := NT (a, p) t.2.1
  obtain ⟨s2, g1, g2⟩ := CV t.2.2.length (fun (s : Int) (k : Nat) => (s, (k : Int))) (Gr t a p) id (fun s2 k => s2 = s + ((t.2.2.take k).count (a, p) : Nat))
    (fun s2 k hk hI => by
      have hb2 : (t.2.2.take k).count (a, p) ≤ k := Nat.le_trans List.count_le_length (by rw [List.length_take]; omega)
      refine ⟨s2 + (if t.2.2[k] = (a, p) then 1 else 0), ?_, ?_⟩
      · rw [Gr, if_pos (by omega), Bl (List.getElem?_eq_getElem hk), Option.bind_some, Option.bind_some]
        have hd : (if t.2.2[k].1 = a then some (decide (t.2.2[k].2 = p)) else some false) = some (decide (t.2.2[k] = (a, p))) := by
          by_cases c : t.2.2[k].1 = a
          · rw [if_pos c]; congr 1; exact decide_eq_decide.2 ⟨fun h => Prod.ext c h, fun h => by rw [h]⟩
          · rw [if_neg c, decide_eq_false (fun h => c (by rw [h]))]
        rw [hd, Option.bind_some]
        by_cases c : t.2.2[k] = (a, p)
        · rw [decide_eq_true c, if_pos rfl, if_pos c, Option.bind_some, Ax (by omega), Ax (by omega)]; rfl
        · rw [decide_eq_false c, if_neg (by decide), if_neg c, Option.bind_some, Ax (by omega), Int.add_zero]; rfl
      · rw [hI, List.take_succ_eq_append_getElem hk, List.count_append]
        by_cases c : t.2.2[k] = (a, p)
        · rw [if_pos c, c]; simp; omega
        · rw [if_neg c, List.count_eq_zero_of_not_mem (a := (a, p)) (l := [t.2.2[k]]) (by simp; exact fun h => c h.symm)]; omega)
    (fun s _ => by rw [Gr, if_neg (by omega)]; rfl) s (by simp)
  have e2 : AB (Gr t a p) (s, 0) = some s2 := g2
  rw [List.take_length] at g1
  have hcount : ((pl t).count (a, p) : Int) = s2 := by
    unfold pl
    rw [List.count_append, Int.natCast_add, g1, h1]
  unfold H2
  rw [e1, Option.bind_some, e2, Option.bind_some]
  congr 1
  rw [Bool.eq_iff_iff]
  simp only [Bool.and_eq_true, decide_eq_true_eq]
  have : s2 = 1 ↔ (pl t).count (a, p) = 1 := by omega
  rw [this]
theorem Vu {t : Tp} : IK t = some (decide (XI t)) := by
  unfold IK
  by_cases c : t.1 < 1 ∨ 8 < t.1 ∨ 24 < (t.2.1.length : Int) ∨ 8 < (t.2.2.length : Int)
  · rw [if_pos (by simpa using c), decide_eq_false (fun h => by have := h.1; omega)]
  · rw [if_neg (by simpa using c)]
    have hl : t.2.1.length ≤ 24 := by omega
    have hh : t.2.2.length ≤ 8 := by omega
    rw [Gp t.2.1 (by omega) (GJ t) (fun l => ¬ SQ t l) false (fun k hk => by
      rw [GJ, if_pos (by omega), Bl (List.getElem?_eq_getElem hk), Option.bind_some, QP hl hh, QP hl hh]
      generalize t.2.1[k] = x
      by_cases c1 : x.1 = x.2.2.1
      · rw [if_pos c1, Option.bind_some, if_pos rfl, if_pos (fun h => h.1 c1)]
      rw [if_neg c1]
      by_cases c2 : x.2.2.2.2.1 < 1
      · rw [if_pos c2, Option.bind_some, if_pos rfl, if_pos (fun h => by have := h.2.1; omega)]
      rw [if_neg c2]
      by_cases c3 : x.2.2.2.2.2 < x.2.2.2.2.1
      · rw [if_pos c3, Option.bind_some, if_pos rfl, if_pos (fun h => by have := h.2.2.1; omega)]
      rw [if_neg c3]
      by_cases c4 : 1000 < x.2.2.2.2.2
      · rw [if_pos c4, Option.bind_some, if_pos rfl, if_pos (fun h => by have := h.2.2.2.1; omega)]
      rw [if_neg c4, Option.bind_some]
      by_cases c5 : Hc t (x.1, x.2.1)
      · rw [decide_eq_true c5, if_neg (by decide), Option.bind_some]
        by_cases c6 : Hc t (x.2.2.1, x.2.2.2.1)
        · rw [decide_eq_true c6, Option.bind_some, if_neg (by decide), if_neg (fun h => h ⟨c1, by omega, by omega, by omega, c5, c6⟩)]
        · rw [decide_eq_false c6, Option.bind_some, if_pos (by decide), if_pos (fun h => c6 h.2.2.2.2.2)]
      · rw [decide_eq_false c5, if_pos (by decide), Option.bind_some, if_pos rfl, if_pos (fun h => c5 h.2.2.2.2.1)]) (by rw [GJ, if_neg (by omega)]),
      Gp t.2.2 (by omega) (GM t) (fun h => ¬ Hc t h) false (fun k hk => by
      rw [GM, if_pos (by omega), Bl (List.getElem?_eq_getElem hk), Option.bind_some, Option.bind_some, QP hl hh, Option.bind_some]
      by_cases c5 : Hc t t.2.2[k]
      · rw [decide_eq_true (show Hc t (t.2.2[k].1, t.2.2[k].2) from c5), if_neg (by decide), if_neg (fun h => h c5)]
      · rw [decide_eq_false (show ¬ Hc t (t.2.2[k].1, t.2.2[k].2) from c5), if_pos (by decide), if_pos c5]) (by rw [GM, if_neg (by omega)])]
    by_cases d1 : ∃ l ∈ t.2.1, ¬ SQ t l
    · rw [if_pos d1]
      show some false = _
      rw [decide_eq_false (fun h => by obtain ⟨l, hl, hn⟩ := d1; exact hn (h.2.1 l hl))]
    · rw [if_neg d1]
      by_cases d2 : ∃ h ∈ t.2.2, ¬ Hc t h
      · rw [if_pos d2]
        show some false = _
        rw [decide_eq_false (fun h => by obtain ⟨l, hl, hn⟩ := d2; exact hn (h.2.2 l hl))]
      · rw [if_neg d2]
        show some true = _
        rw [decide_eq_true (⟨by omega, fun l hl => Decidable.not_not.1 fun hn => d1 ⟨l, hl, hn⟩, fun l hl => Decidable.not_not.1 fun hn => d2 ⟨l, hl, hn⟩⟩ : XI t)]
theorem JS {α : Type} [BEq α] [LawfulBEq α] : ∀ {l : List α}, l.Nodup ↔ ∀ q ∈ l, l.count q = 1
  | [] => by simp
  | x :: l => by
    rw [List.nodup_cons, JS]
    constructor
    · rintro ⟨h1, h2⟩ q hq
      rw [List.count_cons]
      by_cases c : x = q
      · subst c
        rw [List.count_eq_zero_of_not_mem h1]; simp
      · rcases List.mem_cons.1 hq with h | h
        · exact absurd h.symm c
        · rw [h2 q h, if_neg (by simpa using c)]
    · intro h
      have hx := h x (List.mem_cons_self ..)
      rw [List.count_cons, if_pos (by simp)] at hx
      have h1 : x ∉ l := fun hm => by have := List.count_pos_iff.2 hm; omega
      refine ⟨h1, fun q hq => ?_⟩
      have := h q (List.mem_cons_of_mem _ hq)
      rw [List.count_cons, if_neg (by simp; intro e; subst e; exact h1 hq)] at this
      exact this
abbrev MS (l : List (Int × Int)) : List ((Int × Int) × Unit) := l.map fun q => (q, ())
theorem OL : ∀ (l : List (Int × Int)) (q : Int × Int), (Nb (MS l) q).isSome = decide (q ∈ l)
  | [], q => by simp [MS, Nb]
  | x :: l, q => by
    show (if q = x then some () else Nb (MS l) q).isSome = _
    by_cases c : q = x
    · rw [if_pos c, decide_eq_true (by rw [c]; exact List.mem_cons_self ..)]; rfl
    · rw [if_neg c, OL l q]
      exact decide_eq_decide.2 ⟨fun h => List.mem_cons_of_mem _ h, fun h => (List.mem_cons.1 h).resolve_left c⟩
theorem RE : ∀ (l : List (Int × Int)) (q : Int × Int), q ∉ l → MW (MS l) q () = MS (l ++ [q])
  | [], q, _ => rfl
  | x :: l, q, h => by
    show (if q = x then (q, ()) :: MS l else (x, ()) :: MW (MS l) q ()) = _
    rw [if_neg (fun e => h (by rw [e]; exact List.mem_cons_self ..)), RE l q (fun e => h (List.mem_cons_of_mem _ e))]; rfl
abbrev XH (t : Tp) (q : Int × Int) : Prop := 0 ≤ q.1 ∧ q.1 < t.1 ∧ 0 ≤ q.2 ∧ q.2 ≤ 7
theorem TH {t : Tp} (hl : t.2.1.length ≤ 24) (hh : t.2.2.length ≤ 8) : Hj t = some (pl t) := by
  have fl : ∀ l : List Lk, (l.flatMap JW).length = 2 * l.length := fun l => by
    induction l with
    | nil => rfl
    | cons x l ih => rw [List.flatMap_cons, List.length_append, ih, List.length_cons]; simp; omega
  obtain ⟨s, h1, h2⟩ := CV t.2.1.length (fun (s : List (Int × Int)) (k : Nat) => (s, (k : Int))) (EV t) id (fun s k => s = (t.2.1.take k).flatMap JW)
    (fun s k hk hI => by
      have hb : s.length ≤ 100 := by rw [hI, fl, List.length_take]; omega
      refine ⟨s ++ JW t.2.1[k], ?_, ?_⟩
      · rw [EV, if_pos (by omega), Bl (List.getElem?_eq_getElem hk), Option.bind_some, Hz (by simp; omega), Option.bind_some, Ax (by omega)]; rfl
      · rw [hI, List.take_succ_eq_append_getElem hk, List.flatMap_append, List.flatMap_cons, List.flatMap_nil, List.append_nil])
    (fun s _ => by rw [EV, if_neg (by omega)]; rfl) [] (by simp)
  have e1 : AB (EV t) ([], 0) = some s := h2
  rw [List.take_length] at h1
  have hb1 : s.length ≤ 100 := by rw [h1, fl]; omega
  obtain ⟨s2, g1, g2⟩ := CV t.2.2.length (fun (s : List (Int × Int)) (k : Nat) => (s, (k : Int))) (EW t) id (fun s2 k => s2 = s ++ t.2.2.take k)
    (fun s2 k hk hI => by
      have hb : s2.length ≤ 200 := by rw [hI, List.length_append, List.length_take]; omega
      refine ⟨s2 ++ [t.2.2[k]], ?_, ?_⟩
      · rw [EW, if_pos (by omega), Bl (List.getElem?_eq_getElem hk), Option.bind_some, Hz (by simp; omega), Option.bind_some, Ax (by omega)]; rfl
      · rw [hI, List.take_succ_eq_append_getElem hk, List.append_assoc])
    (fun s _ => by rw [EW, if_neg (by omega)]; rfl) s (by simp)
  have e2 : AB (EW t) (s, 0) = some s2 := g2
  rw [List.take_length, h1] at g1
  unfold Hj
  rw [e1, Option.bind_some, e2, g1]; rfl
theorem Su {t : Tp} {L : List (Int × Int)} (hL : L.length ≤ 1000) : AB (DC t L) (0, []) = some (if (∀ q ∈ L, XH t q) ∧ L.Nodup then .inl (MS L) else .inr false) := by
  have key : ∀ (d k : Nat), k + d = L.length → (∀ q ∈ L.take k, XH t q) → (L.take k).Nodup → AB (DC t L) ((k : Int), MS (L.take k)) = some (if (∀ q ∈ L, XH t q) ∧ L.Nodup then .inl (MS L) else .inr false) := by
    intro d
    induction d with
    | zero =>
      intro k hk h1 h2
      rw [List.take_of_length_le (by omega)] at h1 h2 ⊢
      rw [if_pos ⟨h1, h2⟩]
      exact AV (by rw [DC, if_neg (by omega)])
    | succ d ih =>
      intro k hk h1 h2
      have hkl : k < L.length := by omega
      have hm := List.getElem_mem hkl
      have hg := List.getElem?_eq_getElem hkl
      by_cases c1 : XH t L[k]
      · by_cases c2 : L[k] ∈ L.take k
        · rw [if_neg (fun hh => by
            have h3 := hh.2
            rw [← List.take_append_drop (k + 1) L, List.take_succ_eq_append_getElem hkl] at h3
            have h4 := (List.nodup_append.1 (List.nodup_append.1 h3).1).2.2
            exact h4 _ c2 _ (List.mem_singleton.2 rfl) rfl)]
          exact AV (by
            rw [DC, if_pos (by omega), Bl hg, Option.bind_some, if_neg (by simp; omega), OL, decide_eq_true c2, if_pos rfl])
        · have hst : DC t L ((k : Int), MS (L.take k)) = some (.inl (((k + 1 : Nat) : Int), MS (L.take (k + 1)))) := by
            rw [DC, if_pos (by omega), Bl hg, Option.bind_some, if_neg (by simp; omega), OL, decide_eq_false c2, if_neg (by decide), RE _ _ c2, Ax (by omega), List.take_succ_eq_append_getElem hkl]; rfl
          rw [BU hst]
          refine ih (k + 1) (by omega) (fun q hq => ?_) ?_
          · rw [List.take_succ_eq_append_getElem hkl] at hq
            rcases List.mem_append.1 hq with h | h
            · exact h1 q h
            · rw [List.mem_singleton.1 h]; exact c1
          · rw [List.take_succ_eq_append_getElem hkl, List.nodup_append]
            exact ⟨h2, by simp, fun a ha b hb => by rw [List.mem_singleton.1 hb]; intro e; subst e; exact c2 ha⟩
      · rw [if_neg (fun hh => c1 (hh.1 _ hm))]
        exact AV (by
          rw [DC, if_pos (by omega), Bl hg, Option.bind_some, if_pos (by simp; omega)])
  exact key L.length 0 (by omega) (by simp) (by simp)
theorem Sz {l : List Lk} (hl : l.length ≤ 1000) : BO l = some (decide (∃ x ∈ l, Ct x = true)) := by
  have key : ∀ (d k : Nat), k + d = l.length → (∀ x ∈ l.take k, ¬ Ct x = true) → ∃ i : Int, HA (AB (A7 l) (k : Int)) (fun _ => some (-1)) = some i ∧ (0 ≤ i ↔ ∃ x ∈ l, Ct x = true) := by
    intro d
    induction d with
    | zero =>
      intro k hk hn
      rw [List.take_of_length_le (by omega)] at hn
      exact ⟨-1, by rw [AV (by rw [A7, if_neg (by omega)])]; rfl, ⟨fun h => by omega, fun ⟨x, hx, h⟩ => absurd h (hn x hx)⟩⟩
    | succ d ih =>
      intro k hk hn
      have hkl : k < l.length := by omega
      have hg := List.getElem?_eq_getElem hkl
      by_cases c : Ct l[k] = true
      · exact ⟨(k : Int), by rw [AV (by rw [A7, if_pos (by omega), Bl hg, Option.bind_some, if_pos c])]; rfl, ⟨fun _ => ⟨_, List.getElem_mem hkl, c⟩, fun _ => by omega⟩⟩
      · have hst : A7 l (k : Int) = some (.inl ((k + 1 : Nat) : Int)) := by
          rw [A7, if_pos (by omega), Bl hg, Option.bind_some, if_neg c, Ax (by omega)]; rfl
        rw [BU hst]
        refine ih (k + 1) (by omega) (fun x hx => ?_)
        rw [List.take_succ_eq_append_getElem hkl] at hx
        rcases List.mem_append.1 hx with h | h
        · exact hn x h
        · rw [List.mem_singleton.1 h]; exact c
  obtain ⟨i, h1, h2⟩ := key l.length 0 (by omega) (by simp)
  have h1' : HA (AB (A7 l) 0) (fun _ => some (-1)) = some i := h1
  unfold BO CH
  rw [h1', Option.bind_some]
  congr 1
  exact decide_eq_decide.2 h2
theorem Tf {t : Tp} : H4 t = some (decide (XI t)) := by
  unfold H4
  by_cases c : t.1 < 1 ∨ 8 < t.1 ∨ 24 < (t.2.1.length : Int) ∨ 8 < (t.2.2.length : Int)
  · rw [if_pos (by simpa using c), decide_eq_false (fun h => by have := h.1; omega)]
  · rw [if_neg (by simpa using c)]
    have hl : t.2.1.length ≤ 24 := by omega
    have hh : t.2.2.length ≤ 8 := by omega
    have hpl : (pl t).length ≤ 1000 := by
      have fl : ∀ l : List Lk, (l.flatMap JW).length = 2 * l.length := fun l => by
        induction l with
        | nil => rfl
        | cons x l ih => rw [List.flatMap_cons, List.length_append, ih, List.length_cons]; simp; omega
      unfold pl
      rw [List.length_append, fl]; omega
    have hmem : ∀ q, q ∈ pl t ↔ (∃ x ∈ t.2.1, q ∈ JW x) ∨ q ∈ t.2.2 := fun q => by
      unfold pl
      rw [List.mem_append, List.mem_flatMap]
    rw [TH hl hh, Option.bind_some, Su hpl, Sz (by omega)]
    have hok : XI t ↔ ((∀ q ∈ pl t, XH t q) ∧ (pl t).Nodup) ∧ ¬ ∃ x ∈ t.2.1, Ct x = true := by
      have hw : ∀ x : Lk, ¬ Ct x = true ↔ (x.1 ≠ x.2.2.1 ∧ 1 ≤ x.2.2.2.2.1 ∧ x.2.2.2.2.1 ≤ x.2.2.2.2.2 ∧ x.2.2.2.2.2 ≤ 1000) := fun x => by
        unfold Ct
        simp only [Bool.or_eq_true, decide_eq_true_eq]
        omega
      constructor
      · rintro ⟨h0, h1, h2⟩
        have hp : ∀ q ∈ pl t, Hc t q := fun q hq => by
          rcases (hmem q).1 hq with ⟨x, hx, hq⟩ | hq
          · obtain ⟨_, _, _, _, k5, k6⟩ := h1 x hx
            rcases List.mem_cons.1 hq with h | h
            · rw [h]; exact k5
            · rw [List.mem_singleton.1 h]; exact k6
          · exact h2 q hq
        refine ⟨⟨fun q hq => ?_, JS.2 fun q hq => (hp q hq).2.2.2.2⟩, fun ⟨x, hx, hwx⟩ => ?_⟩
        · obtain ⟨a1, a2, a3, a4, _⟩ := hp q hq
          exact ⟨a1, a2, a3, a4⟩
        · obtain ⟨k1, k2, k3, k4, _⟩ := h1 x hx
          exact (hw x).2 ⟨k1, k2, k3, k4⟩ hwx
      · rintro ⟨⟨h1, h2⟩, h3⟩
        have hp : ∀ q ∈ pl t, Hc t q := fun q hq => by
          obtain ⟨a1, a2, a3, a4⟩ := h1 q hq
          exact ⟨a1, a2, a3, a4, JS.1 h2 q hq⟩
        refine ⟨by omega, fun x hx => ?_, fun q hq => hp q ((hmem q).2 (.inr hq))⟩
        obtain ⟨k1, k2, k3, k4⟩ := (hw x).1 (fun h => h3 ⟨x, hx, h⟩)
        exact ⟨k1, k2, k3, k4, hp _ ((hmem _).2 (.inl ⟨x, hx, by simp⟩)), hp _ ((hmem _).2 (.inl ⟨x, hx, by simp⟩))⟩
    by_cases c1 : (∀ q ∈ pl t, XH t q) ∧ (pl t).Nodup
    · rw [if_pos c1]
      show some (!decide (∃ x ∈ t.2.1, Ct x = true)) = _
      by_cases c2 : ∃ x ∈ t.2.1, Ct x = true
      · rw [decide_eq_true c2, decide_eq_false (fun h => (hok.1 h).2 c2)]; rfl
      · rw [decide_eq_false c2, decide_eq_true (hok.2 ⟨c1, c2⟩)]; rfl
    · rw [if_neg c1, decide_eq_false (fun h => c1 (hok.1 h).1)]; rfl
end Go.Proofs.YtgoifghhcekahaaGreatDoor
