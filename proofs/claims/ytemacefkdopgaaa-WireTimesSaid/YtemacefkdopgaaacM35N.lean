/- Layer 35: networks. Conditions: none. -/
import Derived.Test.YtemacefkdopgaaacM35S
namespace Go.Proofs.Ytemacefkdopgaaa
set_option linter.unusedVariables false
set_option linter.unusedSimpArgs false
open Go Go.RowKit
abbrev Lk := Int × Int × Int × Int × Int × Int
abbrev Tp := Int × List Lk × List (Int × Int)
abbrev CO (l : Lk) : List (Int × Int) := [(l.1, l.2.1), (l.2.2.1, l.2.2.2.1)]
def pl (t : Tp) : List (Int × Int) := t.2.1.flatMap CO ++ t.2.2
abbrev DG (t : Tp) (q : Int × Int) : Prop := 0 ≤ q.1 ∧ q.1 < t.1 ∧ 0 ≤ q.2 ∧ q.2 ≤ 7 ∧ (pl t).count q = 1
abbrev H5 (t : Tp) (l : Lk) : Prop := l.1 ≠ l.2.2.1 ∧ 1 ≤ l.2.2.2.2.1 ∧ l.2.2.2.2.1 ≤ l.2.2.2.2.2 ∧ l.2.2.2.2.2 ≤ 1000 ∧ DG t (l.1, l.2.1) ∧ DG t (l.2.2.1, l.2.2.2.1)
abbrev JD (t : Tp) : Prop := (1 ≤ t.1 ∧ t.1 ≤ 8 ∧ t.2.1.length ≤ 24 ∧ t.2.2.length ≤ 8) ∧ (∀ l ∈ t.2.1, H5 t l) ∧ ∀ h ∈ t.2.2, DG t h
theorem Gl (q : Int × Int) : ∀ l : List Lk, (l.flatMap CO).count q ≤ 2 * l.length
  | [] => by simp
  | x :: l => by
    have h := Gl q l
    have h2 : (CO x).count q ≤ 2 := List.count_le_length
    rw [List.flatMap_cons, List.count_append, List.length_cons]; omega
theorem Hj {t : Tp} (hl : t.2.1.length ≤ 24) (hh : t.2.2.length ≤ 8) (a p : Int) : D4 t a p = some (decide (DG t (a, p))) := by
  obtain ⟨s, h1, h2⟩ := FL t.2.1.length (fun (s : Int) (k : Nat) => (s, (k : Int))) (Dj t a p) id (fun s k => s = (((t.2.1.take k).flatMap CO).count (a, p) : Nat))
    (fun s k hk hI => by
      have hb := Gl (a, p) (t.2.1.take k)
      rw [List.length_take] at hb
      have hx : ∀ c : Prop, [Decidable c] → ∀ s : Int, 0 ≤ s ∧ s ≤ 100 → (if c then some (Ay (s + 1)) else some s) = some (s + (if c then 1 else 0)) := fun c _ s hs => by
        by_cases h : c
        · rw [if_pos h, if_pos h, AJ (by omega)]
        · rw [if_neg h, if_neg h]; simp
      refine ⟨s + (if (decide (t.2.1[k].1 = a) && decide (t.2.1[k].2.1 = p)) = true then 1 else 0) + (if (decide (t.2.1[k].2.2.1 = a) && decide (t.2.1[k].2.2.2.1 = p)) = true then 1 else 0), ?_, ?_⟩
      · rw [Dj, if_pos (by omega), BO (List.getElem?_eq_getElem hk), Option.bind_some, hx _ s (by omega), Option.bind_some, hx _ _ (by split <;> omega), Option.bind_some, AJ (by omega)]; rfl
      · rw [hI, List.take_succ_eq_append_getElem hk, List.flatMap_append, List.count_append, List.flatMap_cons, List.flatMap_nil, List.append_nil]
        have hc : ∀ (x : Lk), (((CO x).count (a, p) : Nat) : Int) = (if (decide (x.1 = a) && decide (x.2.1 = p)) = true then 1 else 0) + (if (decide (x.2.2.1 = a) && decide (x.2.2.2.1 = p)) = true then 1 else 0) := fun x => by
          simp only [CO, List.count_cons, List.count_nil, beq_iff_eq, Prod.mk.injEq, Bool.and_eq_true, decide_eq_true_eq]
          split <;> split <;> rfl
        rw [Int.natCast_add, hc]; omega)
    (fun s _ => by rw [Dj, if_neg (by omega)]; rfl) 0 (by simp)
  have e1 : AM (Dj t a p) (0, 0) = some s := h2
  rw [List.take_length] at h1
  have hb := Gl (a, p) t.2.1
  obtain ⟨s2, g1, g2⟩ := FL t.2.2.length (fun (s : Int) (k : Nat) => (s, (k : Int))) (Dl t a p) id (fun s2 k => s2 = s + ((t.2.2.take k).count (a, p) : Nat))
    (fun s2 k hk hI => by
      have hb2 : (t.2.2.take k).count (a, p) ≤ k := Nat.le_trans List.count_le_length (by rw [List.length_take]; omega)
      refine ⟨s2 + (if t.2.2[k] = (a, p) then 1 else 0), ?_, ?_⟩
      · rw [Dl, if_pos (by omega), BO (List.getElem?_eq_getElem hk), Option.bind_some, Option.bind_some]
        have hd : (if t.2.2[k].1 = a then some (decide (t.2.2[k].2 = p)) else some false) = some (decide (t.2.2[k] = (a, p))) := by
          by_cases c : t.2.2[k].1 = a
          · rw [if_pos c]; congr 1; exact decide_eq_decide.2 ⟨fun h => Prod.ext c h, fun h => by rw [h]⟩
          · rw [if_neg c, decide_eq_false (fun h => c (by rw [h]))]
        rw [hd, Option.bind_some]
        by_cases c : t.2.2[k] = (a, p)
        · rw [decide_eq_true c, if_pos rfl, if_pos c, Option.bind_some, AJ (by omega), AJ (by omega)]; rfl
        · rw [decide_eq_false c, if_neg (by decide), if_neg c, Option.bind_some, AJ (by omega), Int.add_zero]; rfl
      · rw [hI, List.take_succ_eq_append_getElem hk, List.count_append]
        by_cases c : t.2.2[k] = (a, p)
        · rw [if_pos c, c]; simp; omega
        · rw [if_neg c, List.count_eq_zero_of_not_mem (a := (a, p)) (l := [t.2.2[k]]) (by simp; exact fun h => c h.symm)]; omega)
    (fun s _ => by rw [Dl, if_neg (by omega)]; rfl) s (by simp)
  have e2 : AM (Dl t a p) (s, 0) = some s2 := g2
  rw [List.take_length] at g1
  have hcount : ((pl t).count (a, p) : Int) = s2 := by
    unfold pl
    rw [List.count_append, Int.natCast_add, g1, h1]
  unfold D4
  rw [e1, Option.bind_some, e2, Option.bind_some]
  congr 1
  rw [Bool.eq_iff_iff]
  simp only [Bool.and_eq_true, decide_eq_true_eq]
  have : s2 = 1 ↔ (pl t).count (a, p) = 1 := by omega
  rw [this]
theorem HC {t : Tp} : D2 t = some (decide (JD t)) := by
  unfold D2
  by_cases c : t.1 < 1 ∨ 8 < t.1 ∨ 24 < (t.2.1.length : Int) ∨ 8 < (t.2.2.length : Int)
  · rw [if_pos (by simpa using c), decide_eq_false (fun h => by have := h.1; omega)]
  · rw [if_neg (by simpa using c)]
    have hl : t.2.1.length ≤ 24 := by omega
    have hh : t.2.2.length ≤ 8 := by omega
    rw [GT t.2.1 (by omega) (DA t) (fun l => ¬ H5 t l) false (fun k hk => by
      rw [DA, if_pos (by omega), BO (List.getElem?_eq_getElem hk), Option.bind_some, Hj hl hh, Hj hl hh]
      generalize t.2.1[k] = x
      by_cases c1 : x.1 = x.2.2.1
      · rw [if_pos c1, Option.bind_some, if_pos rfl, if_pos (fun h => h.1 c1)]
      rw [if_neg c1]
      by_cases c2 : x.2.2.2.2.1 < 1
      · rw [if_pos c2, Option.bind_some, if_pos rfl, if_pos (fun h => by have := h.2.1; omega)]
      rw [if_neg c2]
      by_cases c3 : x.2.2.2.2.2 < x.2.2.2.2.1
      · rw [if_pos c3, Option.bind_some, if_pos rfl, if_pos (fun h => by have := h.2.2.1; omega)]
      rw [if_neg c3]
      by_cases c4 : 1000 < x.2.2.2.2.2
      · rw [if_pos c4, Option.bind_some, if_pos rfl, if_pos (fun h => by have := h.2.2.2.1; omega)]
      rw [if_neg c4, Option.bind_some]
      by_cases c5 : DG t (x.1, x.2.1)
      · rw [decide_eq_true c5, if_neg (by decide), Option.bind_some]
        by_cases c6 : DG t (x.2.2.1, x.2.2.2.1)
        · rw [decide_eq_true c6, Option.bind_some, if_neg (by decide), if_neg (fun h => h ⟨c1, by omega, by omega, by omega, c5, c6⟩)]
        · rw [decide_eq_false c6, Option.bind_some, if_pos (by decide), if_pos (fun h => c6 h.2.2.2.2.2)]
      · rw [decide_eq_false c5, if_pos (by decide), Option.bind_some, if_pos rfl, if_pos (fun h => c5 h.2.2.2.2.1)]) (by rw [DA, if_neg (by omega)]),
      GT t.2.2 (by omega) (Dx t) (fun h => ¬ DG t h) false (fun k hk => by
      rw [Dx, if_pos (by omega), BO (List.getElem?_eq_getElem hk), Option.bind_some, Option.bind_some, Hj hl hh, Option.bind_some]
      by_cases c5 : DG t t.2.2[k]
      · rw [decide_eq_true (show DG t (t.2.2[k].1, t.2.2[k].2) from c5), if_neg (by decide), if_neg (fun h => h c5)]
      · rw [decide_eq_false (show ¬ DG t (t.2.2[k].1, t.2.2[k].2) from c5), if_pos (by decide), if_pos c5]) (by rw [Dx, if_neg (by omega)])]
    by_cases d1 : ∃ l ∈ t.2.1, ¬ H5 t l
    · rw [if_pos d1]
      show some false = _
      rw [decide_eq_false (fun h => by obtain ⟨l, hl, hn⟩ := d1; exact hn (h.2.1 l hl))]
    · rw [if_neg d1]
      by_cases d2 : ∃ h ∈ t.2.2, ¬ DG t h
      · rw [if_pos d2]
        show some false = _
        rw [decide_eq_false (fun h => by obtain ⟨l, hl, hn⟩ := d2; exact hn (h.2.2 l hl))]
      · rw [if_neg d2]
        show some true = _
        rw [decide_eq_true (⟨by omega, fun l hl => Decidable.not_not.1 fun hn => d1 ⟨l, hl, hn⟩, fun l hl => Decidable.not_not.1 fun hn => d2 ⟨l, hl, hn⟩⟩ : JD t)]
theorem EY {α : Type} [BEq α] [LawfulBEq α] : ∀ {l : List α}, l.Nodup ↔ ∀ q ∈ l, l.count q = 1
  | [] => by simp
  | x :: l => by
    rw [List.nodup_cons, EY]
    constructor
    · rintro ⟨h1, h2⟩ q hq
      rw [List.count_cons]
      by_cases c : x = q
      · subst c
        rw [List.count_eq_zero_of_not_mem h1]; simp
      · rcases List.mem_cons.1 hq with h | h
        · exact absurd h.symm c
        · rw [h2 q h, if_neg (by simpa using c)]
    · intro h
      have hx := h x (List.mem_cons_self ..)
      rw [List.count_cons, if_pos (by simp)] at hx
      have h1 : x ∉ l := fun hm => by have := List.count_pos_iff.2 hm; omega
      refine ⟨h1, fun q hq => ?_⟩
      have := h q (List.mem_cons_of_mem _ hq)
      rw [List.count_cons, if_neg (by simp; intro e; subst e; exact h1 hq)] at this
      exact this
abbrev Gc (l : List (Int × Int)) : List ((Int × Int) × Unit) := l.map fun q => (q, ())
theorem Gp : ∀ (l : List (Int × Int)) (q : Int × Int), (FW (Gc l) q).isSome = decide (q ∈ l)
  | [], q => by simp [Gc, FW]
  | x :: l, q => by
    show (if q = x then some () else FW (Gc l) q).isSome = _
    by_cases c : q = x
    · rw [if_pos c, decide_eq_true (by rw [c]; exact List.mem_cons_self ..)]; rfl
    · rw [if_neg c, Gp l q]
      exact decide_eq_decide.2 ⟨fun h => List.mem_cons_of_mem _ h, fun h => (List.mem_cons.1 h).resolve_left c⟩
theorem Hy : ∀ (l : List (Int × Int)) (q : Int × Int), q ∉ l → FU (Gc l) q () = Gc (l ++ [q])
  | [], q, _ => rfl
  | x :: l, q, h => by
    show (if q = x then (q, ()) :: Gc l else (x, ()) :: FU (Gc l) q ()) = _
    rw [if_neg (fun e => h (by rw [e]; exact List.mem_cons_self ..)), Hy l q (fun e => h (List.mem_cons_of_mem _ e))]; rfl
abbrev Ky (t : Tp) (q : Int × Int) : Prop := 0 ≤ q.1 ∧ q.1 < t.1 ∧ 0 ≤ q.2 ∧ q.2 ≤ 7
theorem Iz {t : Tp} (hl : t.2.1.length ≤ 24) (hh : t.2.2.length ≤ 8) : CU t = some (pl t) := by
  have fl : ∀ l : List Lk, (l.flatMap CO).length = 2 * l.length := fun l => by
    induction l with
    | nil => rfl
    | cons x l ih => rw [List.flatMap_cons, List.length_append, ih, List.length_cons]; simp; omega
  obtain ⟨s, h1, h2⟩ := FL t.2.1.length (fun (s : List (Int × Int)) (k : Nat) => (s, (k : Int))) (Ce t) id (fun s k => s = (t.2.1.take k).flatMap CO)
    (fun s k hk hI => by
      have hb : s.length ≤ 100 := by rw [hI, fl, List.length_take]; omega
      refine ⟨s ++ CO t.2.1[k], ?_, ?_⟩
      · rw [Ce, if_pos (by omega), BO (List.getElem?_eq_getElem hk), Option.bind_some, DK (by simp; omega), Option.bind_some, AJ (by omega)]; rfl
      · rw [hI, List.take_succ_eq_append_getElem hk, List.flatMap_append, List.flatMap_cons, List.flatMap_nil, List.append_nil])
    (fun s _ => by rw [Ce, if_neg (by omega)]; rfl) [] (by simp)
  have e1 : AM (Ce t) ([], 0) = some s := h2
  rw [List.take_length] at h1
  have hb1 : s.length ≤ 100 := by rw [h1, fl]; omega
  obtain ⟨s2, g1, g2⟩ := FL t.2.2.length (fun (s : List (Int × Int)) (k : Nat) => (s, (k : Int))) (Cg t) id (fun s2 k => s2 = s ++ t.2.2.take k)
    (fun s2 k hk hI => by
      have hb : s2.length ≤ 200 := by rw [hI, List.length_append, List.length_take]; omega
      refine ⟨s2 ++ [t.2.2[k]], ?_, ?_⟩
      · rw [Cg, if_pos (by omega), BO (List.getElem?_eq_getElem hk), Option.bind_some, DK (by simp; omega), Option.bind_some, AJ (by omega)]; rfl
      · rw [hI, List.take_succ_eq_append_getElem hk, List.append_assoc])
    (fun s _ => by rw [Cg, if_neg (by omega)]; rfl) s (by simp)
  have e2 : AM (Cg t) (s, 0) = some s2 := g2
  rw [List.take_length, h1] at g1
  unfold CU
  rw [e1, Option.bind_some, e2, g1]; rfl
theorem H1 {t : Tp} {L : List (Int × Int)} (hL : L.length ≤ 1000) : AM (BM t L) (0, []) = some (if (∀ q ∈ L, Ky t q) ∧ L.Nodup then .inl (Gc L) else .inr false) := by
  have key : ∀ (d k : Nat), k + d = L.length → (∀ q ∈ L.take k, Ky t q) → (L.take k).Nodup → AM (BM t L) ((k : Int), Gc (L.take k)) = some (if (∀ q ∈ L, Ky t q) ∧ L.Nodup then .inl (Gc L) else .inr false) := by
    intro d
    induction d with
    | zero =>
      intro k hk h1 h2
      rw [List.take_of_length_le (by omega)] at h1 h2 ⊢
      rw [if_pos ⟨h1, h2⟩]
      exact Bh (by rw [BM, if_neg (by omega)])
    | succ d ih =>
      intro k hk h1 h2
      have hkl : k < L.length := by omega
      have hm := List.getElem_mem hkl
      have hg := List.getElem?_eq_getElem hkl
      by_cases c1 : Ky t L[k]
      · by_cases c2 : L[k] ∈ L.take k
        · rw [if_neg (fun hh => by
            have h3 := hh.2
            rw [← List.take_append_drop (k + 1) L, List.take_succ_eq_append_getElem hkl] at h3
            have h4 := (List.nodup_append.1 (List.nodup_append.1 h3).1).2.2
            exact h4 _ c2 _ (List.mem_singleton.2 rfl) rfl)]
          exact Bh (by
            rw [BM, if_pos (by omega), BO hg, Option.bind_some, if_neg (by simp; omega), Gp, decide_eq_true c2, if_pos rfl])
        · have hst : BM t L ((k : Int), Gc (L.take k)) = some (.inl (((k + 1 : Nat) : Int), Gc (L.take (k + 1)))) := by
            rw [BM, if_pos (by omega), BO hg, Option.bind_some, if_neg (by simp; omega), Gp, decide_eq_false c2, if_neg (by decide), Hy _ _ c2, AJ (by omega), List.take_succ_eq_append_getElem hkl]; rfl
          rw [Cj hst]
          refine ih (k + 1) (by omega) (fun q hq => ?_) ?_
          · rw [List.take_succ_eq_append_getElem hkl] at hq
            rcases List.mem_append.1 hq with h | h
            · exact h1 q h
            · rw [List.mem_singleton.1 h]; exact c1
          · rw [List.take_succ_eq_append_getElem hkl, List.nodup_append]
            exact ⟨h2, by simp, fun a ha b hb => by rw [List.mem_singleton.1 hb]; intro e; subst e; exact c2 ha⟩
      · rw [if_neg (fun hh => c1 (hh.1 _ hm))]
        exact Bh (by
          rw [BM, if_pos (by omega), BO hg, Option.bind_some, if_pos (by simp; omega)])
  exact key L.length 0 (by omega) (by simp) (by simp)
theorem HV {l : List Lk} (hl : l.length ≤ 1000) : AG l = some (decide (∃ x ∈ l, Bf x = true)) := by
  have key : ∀ (d k : Nat), k + d = l.length → (∀ x ∈ l.take k, ¬ Bf x = true) → ∃ i : Int, F3 (AM (Aq l) (k : Int)) (fun _ => some (-1)) = some i ∧ (0 ≤ i ↔ ∃ x ∈ l, Bf x = true) := by
    intro d
    induction d with
    | zero =>
      intro k hk hn
      rw [List.take_of_length_le (by omega)] at hn
      exact ⟨-1, by rw [Bh (by rw [Aq, if_neg (by omega)])]; rfl, ⟨fun h => by omega, fun ⟨x, hx, h⟩ => absurd h (hn x hx)⟩⟩
    | succ d ih =>
      intro k hk hn
      have hkl : k < l.length := by omega
      have hg := List.getElem?_eq_getElem hkl
      by_cases c : Bf l[k] = true
      · exact ⟨(k : Int), by rw [Bh (by rw [Aq, if_pos (by omega), BO hg, Option.bind_some, if_pos c])]; rfl, ⟨fun _ => ⟨_, List.getElem_mem hkl, c⟩, fun _ => by omega⟩⟩
      · have hst : Aq l (k : Int) = some (.inl ((k + 1 : Nat) : Int)) := by
          rw [Aq, if_pos (by omega), BO hg, Option.bind_some, if_neg c, AJ (by omega)]; rfl
        rw [Cj hst]
        refine ih (k + 1) (by omega) (fun x hx => ?_)
        rw [List.take_succ_eq_append_getElem hkl] at hx
        rcases List.mem_append.1 hx with h | h
        · exact hn x h
        · rw [List.mem_singleton.1 h]; exact c
  obtain ⟨i, h1, h2⟩ := key l.length 0 (by omega) (by simp)
  have h1' : F3 (AM (Aq l) 0) (fun _ => some (-1)) = some i := h1
  unfold AG AX
  rw [h1', Option.bind_some]
  congr 1
  exact decide_eq_decide.2 h2
theorem J5 {t : Tp} : De t = some (decide (JD t)) := by
  unfold De
  by_cases c : t.1 < 1 ∨ 8 < t.1 ∨ 24 < (t.2.1.length : Int) ∨ 8 < (t.2.2.length : Int)
  · rw [if_pos (by simpa using c), decide_eq_false (fun h => by have := h.1; omega)]
  · rw [if_neg (by simpa using c)]
    have hl : t.2.1.length ≤ 24 := by omega
    have hh : t.2.2.length ≤ 8 := by omega
    have hpl : (pl t).length ≤ 1000 := by
      have fl : ∀ l : List Lk, (l.flatMap CO).length = 2 * l.length := fun l => by
        induction l with
        | nil => rfl
        | cons x l ih => rw [List.flatMap_cons, List.length_append, ih, List.length_cons]; simp; omega
      unfold pl
      rw [List.length_append, fl]; omega
    have hmem : ∀ q, q ∈ pl t ↔ (∃ x ∈ t.2.1, q ∈ CO x) ∨ q ∈ t.2.2 := fun q => by
      unfold pl
      rw [List.mem_append, List.mem_flatMap]
    rw [Iz hl hh, Option.bind_some, H1 hpl, HV (by omega)]
    have hok : JD t ↔ ((∀ q ∈ pl t, Ky t q) ∧ (pl t).Nodup) ∧ ¬ ∃ x ∈ t.2.1, Bf x = true := by
      have hw : ∀ x : Lk, ¬ Bf x = true ↔ (x.1 ≠ x.2.2.1 ∧ 1 ≤ x.2.2.2.2.1 ∧ x.2.2.2.2.1 ≤ x.2.2.2.2.2 ∧ x.2.2.2.2.2 ≤ 1000) := fun x => by
        unfold Bf
        simp only [Bool.or_eq_true, decide_eq_true_eq]
        omega
      constructor
      · rintro ⟨h0, h1, h2⟩
        have hp : ∀ q ∈ pl t, DG t q := fun q hq => by
          rcases (hmem q).1 hq with ⟨x, hx, hq⟩ | hq
          · obtain ⟨_, _, _, _, k5, k6⟩ := h1 x hx
            rcases List.mem_cons.1 hq with h | h
            · rw [h]; exact k5
            · rw [List.mem_singleton.1 h]; exact k6
          · exact h2 q hq
        refine ⟨⟨fun q hq => ?_, EY.2 fun q hq => (hp q hq).2.2.2.2⟩, fun ⟨x, hx, hwx⟩ => ?_⟩
        · obtain ⟨a1, a2, a3, a4, _⟩ := hp q hq
          exact ⟨a1, a2, a3, a4⟩
        · obtain ⟨k1, k2, k3, k4, _⟩ := h1 x hx
          exact (hw x).2 ⟨k1, k2, k3, k4⟩ hwx
      · rintro ⟨⟨h1, h2⟩, h3⟩
        have hp : ∀ q ∈ pl t, DG t q := fun q hq => by
          obtain ⟨a1, a2, a3, a4⟩ := h1 q hq
          exact ⟨a1, a2, a3, a4, EY.1 h2 q hq⟩
        refine ⟨by omega, fun x hx => ?_, fun q hq => hp q ((hmem q).2 (.inr hq))⟩
        obtain ⟨k1, k2, k3, k4⟩ := (hw x).1 (fun h => h3 ⟨x, hx, h⟩)
        exact ⟨k1, k2, k3, k4, hp _ ((hmem _).2 (.inl ⟨x, hx, by simp⟩)), hp _ ((hmem _).2 (.inl ⟨x, hx, by simp⟩))⟩
    by_cases c1 : (∀ q ∈ pl t, Ky t q) ∧ (pl t).Nodup
    · rw [if_pos c1]
      show some (!decide (∃ x ∈ t.2.1, Bf x = true)) = _
      by_cases c2 : ∃ x ∈ t.2.1, Bf x = true
      · rw [decide_eq_true c2, decide_eq_false (fun h => (hok.1 h).2 c2)]; rfl
      · rw [decide_eq_false c2, decide_eq_true (hok.2 ⟨c1, c2⟩)]; rfl
    · rw [if_neg c1, decide_eq_false (fun h => c1 (hok.1 h).1)]; rfl
abbrev Pr := Int × Int × Int × Bool
def H0 (i : Nat) (x : Lk) (a p : Int) (R : Pr) : Prop := (a = x.1 ∧ p = x.2.1 ∧ R = (x.2.2.1, x.2.2.2.1, (i : Int), true)) ∨ (¬ (a = x.1 ∧ p = x.2.1) ∧ a = x.2.2.1 ∧ p = x.2.2.2.1 ∧ R = (x.1, x.2.1, (i : Int), true))
theorem GX {t : Tp} (hl : t.2.1.length ≤ 24) (a p : Int) : ∃ R : Pr, Cu t a p = some R ∧ ((R = (0, 0, 0, false) ∧ ∀ x ∈ t.2.1, (a, p) ∉ CO x) ∨ ∃ i x, t.2.1[i]? = some x ∧ H0 i x a p R) := by
  have key : ∀ (d k : Nat), k + d = t.2.1.length → (∀ x ∈ t.2.1.take k, (a, p) ∉ CO x) → ∃ R : Pr, F3 (AM (BR t a p) (k : Int)) (fun _ => some (0, 0, 0, false)) = some R ∧ ((R = (0, 0, 0, false) ∧ ∀ x ∈ t.2.1, (a, p) ∉ CO x) ∨ ∃ i x, t.2.1[i]? = some x ∧ H0 i x a p R) := by
    intro d
    induction d with
    | zero =>
      intro k hk hn
      rw [List.take_of_length_le (by omega)] at hn
      exact ⟨_, by rw [Bh (by rw [BR, if_neg (by omega)])]; rfl, .inl ⟨rfl, hn⟩⟩
    | succ d ih =>
      intro k hk hn
      have hkl : k < t.2.1.length := by omega
      have hg := List.getElem?_eq_getElem hkl
      by_cases c1 : a = t.2.1[k].1 ∧ p = t.2.1[k].2.1
      · exact ⟨_, by rw [Bh (by rw [BR, if_pos (by omega), BO hg, Option.bind_some, if_pos c1])]; rfl, .inr ⟨k, _, hg, .inl ⟨c1.1, c1.2, rfl⟩⟩⟩
      by_cases c2 : a = t.2.1[k].2.2.1 ∧ p = t.2.1[k].2.2.2.1
      · exact ⟨_, by rw [Bh (by rw [BR, if_pos (by omega), BO hg, Option.bind_some, if_neg c1, if_pos c2])]; rfl, .inr ⟨k, _, hg, .inr ⟨c1, c2.1, c2.2, rfl⟩⟩⟩
      have hst : BR t a p (k : Int) = some (.inl ((k + 1 : Nat) : Int)) := by
        rw [BR, if_pos (by omega), BO hg, Option.bind_some, if_neg c1, if_neg c2, AJ (by omega)]; rfl
      rw [Cj hst]
      refine ih (k + 1) (by omega) (fun x hx => ?_)
      rw [List.take_succ_eq_append_getElem hkl] at hx
      rcases List.mem_append.1 hx with hx | hx
      · exact hn x hx
      · rw [List.mem_singleton] at hx
        subst hx
        intro hm
        simp only [CO, List.mem_cons, Prod.mk.injEq, List.not_mem_nil, or_false] at hm
        exact hm.elim c1 c2
  exact key t.2.1.length 0 (by omega) (fun x hx => by simp at hx)
theorem HE {i : Nat} {x : Lk} {a p : Int} {R : Pr} (h : H0 i x a p R) : (a, p) ∈ CO x ∧ (R.1, R.2.1) ∈ CO x := by
  rcases h with ⟨h1, h2, h3⟩ | ⟨_, h1, h2, h3⟩
  · subst h1 h2 h3; simp
  · subst h1 h2 h3; simp
theorem Ir {l : List Lk} {hs : List (Int × Int)} {i j : Nat} {x y : Lk} {q : Int × Int} (hi : l[i]? = some x) (hj : l[j]? = some y) (hij : i < j) (hx : q ∈ CO x) (hy : q ∈ CO y) : 2 ≤ (l.flatMap CO ++ hs).count q := by
  have hil : i < l.length := (List.getElem?_eq_some_iff.1 hi).1
  have e : l = l.take i ++ x :: l.drop (i + 1) := by
    have h1 := (List.getElem?_eq_some_iff.1 hi).2
    rw [← h1, ← List.drop_eq_getElem_cons hil, List.take_append_drop]
  have hm : y ∈ l.drop (i + 1) := List.mem_of_getElem? (i := j - (i + 1)) (by rw [List.getElem?_drop, show i + 1 + (j - (i + 1)) = j by omega]; exact hj)
  have h2 : 0 < ((l.drop (i + 1)).flatMap CO).count q := List.count_pos_iff.2 (List.mem_flatMap.2 ⟨y, hm, hy⟩)
  have h3 : 0 < (CO x).count q := List.count_pos_iff.2 hx
  rw [e, List.flatMap_append, List.flatMap_cons, List.count_append, List.count_append, List.count_append]; omega
theorem IG {t : Tp} {i j : Nat} {x y : Lk} {q : Int × Int} (hi : t.2.1[i]? = some x) (hj : t.2.1[j]? = some y) (hx : q ∈ CO x) (hy : q ∈ CO y) (h1 : (pl t).count q = 1) : i = j := by
  rcases Nat.lt_trichotomy i j with h | h | h
  · have := Ir (hs := t.2.2) hi hj h hx hy
    unfold pl at h1; omega
  · exact h
  · have := Ir (hs := t.2.2) hj hi h hy hx
    unfold pl at h1; omega
def KN {α : Type} (z : α) (p0 : List α) (p1 p2 : Int) : Option (List α) := (C3 p0 p1 p2).bind fun x1 => (if p1 = p2 then some p0 else (C3 p0 0 p1).bind fun x2 => (C3 p0 p2 (p0.length : Int)).bind fun x3 => (HS p0 (x2.length : Int) x3).bind fun x4 => (C3 x4 0 ((x2.length : Int) + (x3.length : Int))).bind fun x5 => (C3 x4 (x5.length : Int) (p0.length : Int)).bind fun x6 => (HS x4 (x5.length : Int) (List.replicate (x6.length) z)).bind fun x7 => some x5)
theorem Kp {α : Type} (z : α) (l : List α) (k : Nat) (hk : k < l.length) : KN z l (k : Int) (((k + 1 : Nat)) : Int) = some (l.eraseIdx k) := by
  unfold KN
  have hspl : ∀ (l : List α) (p : Nat) (m : List α), p + m.length ≤ l.length → HS l (p : Int) m = some (l.take p ++ m ++ l.drop (p + m.length)) := fun l p m h => by
    unfold HS; rw [if_pos (by omega), Int.toNat_natCast]
  rw [FQ (by omega), Option.bind_some, if_neg (by omega), FQ (by omega), Option.bind_some, FQ (by omega), Option.bind_some]
  have e2 : (l.take (k : Int).toNat).drop (0 : Int).toNat = l.take k := by rw [Int.toNat_natCast]; rfl
  have e3 : (l.take ((l.length : Int)).toNat).drop (((k + 1 : Nat) : Int)).toNat = l.drop (k + 1) := by rw [Int.toNat_natCast, Int.toNat_natCast, List.take_length]
  have h2 : (l.take k).length = k := by rw [List.length_take]; omega
  have h3 : (l.drop (k + 1)).length = l.length - (k + 1) := List.length_drop
  rw [e2, e3, h2, hspl _ _ _ (by rw [h3]; omega), Option.bind_some, h3]
  have hx4 : (l.take k ++ l.drop (k + 1) ++ l.drop (k + (l.length - (k + 1)))).length = l.length := by simp only [List.length_append, List.length_take, List.length_drop]; omega
  rw [FQ (by rw [hx4]; omega), Option.bind_some]
  have e5 : ((l.take k ++ l.drop (k + 1) ++ l.drop (k + (l.length - (k + 1)))).take ((k : Int) + ((l.length - (k + 1) : Nat) : Int)).toNat).drop (0 : Int).toNat = l.eraseIdx k := by
    rw [List.eraseIdx_eq_take_drop_succ]
    have hl : (l.take k ++ l.drop (k + 1)).length = ((k : Int) + ((l.length - (k + 1) : Nat) : Int)).toNat := by simp only [List.length_append, List.length_take, List.length_drop]; omega
    show (l.take k ++ l.drop (k + 1) ++ l.drop (k + (l.length - (k + 1)))).take _ = _
    rw [← hl, List.take_left]
  rw [e5]
  have h5 : (l.eraseIdx k).length = l.length - 1 := by rw [List.length_eraseIdx, if_pos hk]
  rw [h5, FQ (by rw [hx4]; omega), Option.bind_some, hspl _ _ _ (by rw [hx4]; simp; omega)]; rfl
end Go.Proofs.Ytemacefkdopgaaa
