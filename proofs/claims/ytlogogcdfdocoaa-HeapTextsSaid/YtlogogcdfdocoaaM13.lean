/- Layer 13: numbers are sorted. Conditions: none. -/
import Derived.Test.YtlogogcdfdocoaaM13G
namespace Go.Proofs.Ytlogogcdfdocoaa
set_option linter.unusedVariables false
set_option linter.unusedSimpArgs false
open Go Go.RowKit
/-! ### Numbers -/
theorem lessI_eq (a b : Int) : cmp_Less_int a b = decide (a < b) := by simp [cmp_Less_int, cmp_isNaN_int]
theorem leI {a b : Int} : le cmp_Less_int a b ↔ a ≤ b := by unfold le; rw [lessI_eq, decide_eq_false_iff_not]; omega
theorem ordI : Ordr cmp_Less_int :=
  ⟨fun a b h => by rw [lessI_eq] at h ⊢; have := of_decide_eq_true h; exact decide_eq_false (by omega), fun a b c h1 h2 => by
    rw [lessI_eq] at h1 h2 ⊢
    have e1 := of_decide_eq_false h1
    have e2 := of_decide_eq_false h2
    exact decide_eq_false (by omega)⟩
theorem up_int (l : List Int) (i : Int) : heap_Queue_int_up l i = upP cmp_Less_int l i := rfl
theorem down_int (l : List Int) (i : Int) : heap_Queue_int_down l i = downP cmp_Less_int l i := rfl
theorem push_int (l : List Int) (x : Int) : heap_Queue_int_Push l x = pushP cmp_Less_int l x := rfl
theorem del_int (l : List Int) (i j : Int) : slices_Delete_int_int l i j = delP 0 l i j := rfl
theorem remove_int (l : List Int) (i : Int) : heap_Queue_int_remove l i = removeP cmp_Less_int 0 l i := rfl
theorem peek_int (l : List Int) : heap_Queue_int_Peek l = peekP 0 l := rfl
theorem drain_int (l : List Int) (x : Int) : heap_Queue_int_Drain l x = drainP cmp_Less_int 0 l x := rfl
abbrev HpI (l : List Int) : Prop := Hp cmp_Less_int 0 l
theorem pop_some {q : List Int} (hl : q.length ≤ 1000) (h0 : 0 < q.length) (hp : HpI q) : ∃ q', heap_Queue_int_Pop q = some (gg 0 q 0, true, q') ∧ HpI q' ∧ q.Perm (gg 0 q 0 :: q') := by
  obtain ⟨q', h1, h2, h3⟩ := remove_ok ordI hl h0 hp
  refine ⟨q', ?_, h2, h3⟩
  unfold heap_Queue_int_Pop
  have h1' : removeP cmp_Less_int 0 q 0 = some q' := h1
  rw [peek_int, peek_some h0, Option.bind_some, if_pos rfl, remove_int, h1']; rfl
theorem pop_none : heap_Queue_int_Pop [] = some (0, false, []) := rfl
theorem root_min {q : List Int} (h0 : 0 < q.length) (hp : HpI q) : gg 0 q 0 ∈ q ∧ ∀ x ∈ q, gg 0 q 0 ≤ x := by
  refine ⟨by rw [gg_get 0 h0]; exact List.getElem_mem h0, fun x hx => leI.1 (root_le ordI hp x hx)⟩
theorem same_eq {a b : List Int} (hl : a.length ≤ 100000) : r13_Same a b = some (decide (a = b)) := by
  unfold r13_Same
  by_cases hlen : a.length = b.length
  · rw [if_neg (by omega)]
    have key : ∀ (d k : Nat), k + d = a.length → a.take k = b.take k → orR (loopW (r13_Same_l1 a b) (k : Int)) (fun _ => some true) = some (decide (a = b)) := by
      intro d
      induction d with
      | zero =>
        intro k hk he
        rw [List.take_of_length_le (by omega), List.take_of_length_le (by omega)] at he
        rw [loopW_end (by rw [r13_Same_l1, if_neg (by omega)]), decide_eq_true he]; rfl
      | succ d ih =>
        intro k hk he
        have h1 : k < a.length := by omega
        have h2 : k < b.length := by omega
        by_cases c : a[k] = b[k]
        · rw [loopW_go (s' := ((k + 1 : Nat) : Int)) (by rw [r13_Same_l1, if_pos (by omega), ix_nat (List.getElem?_eq_getElem h1), ix_nat (List.getElem?_eq_getElem h2)]; simp only [Option.bind_some]; rw [if_neg (by simp [c]), w64_id (by omega)]; rfl)]
          exact ih (k + 1) (by omega) (by rw [List.take_succ_eq_append_getElem h1, List.take_succ_eq_append_getElem h2, he, c])
        · rw [loopW_end (e := .inr false) (by rw [r13_Same_l1, if_pos (by omega), ix_nat (List.getElem?_eq_getElem h1), ix_nat (List.getElem?_eq_getElem h2)]; simp only [Option.bind_some]; rw [if_pos c]), decide_eq_false (fun h => c (by subst h; rfl))]; rfl
    exact key a.length 0 (by omega) rfl
  · rw [if_pos (by omega), decide_eq_false (fun h => hlen (by rw [h]))]
theorem drain_I {l : List Int} (most : Int) (hl : l.length ≤ 900) (hp : HpI l) : ∃ o r, heap_Queue_int_Drain l most = some (o, r) ∧ HpI r ∧ o.Pairwise (· ≤ ·) ∧ (∀ a ∈ o, a ≤ most) ∧ (∀ b ∈ r, most < b) ∧ (o ++ r).Perm l := by
  obtain ⟨o, r, h1, h2, h3, h4, h5, h6⟩ := drain_ok ordI most l.length [] l rfl (by simpa using hl) hp List.Pairwise.nil (fun a ha => by simp at ha) (fun a ha => by simp at ha)
  refine ⟨o, r, h1, h2, h3.imp fun h => leI.1 h, fun a ha => leI.1 (h4 a ha), fun b hb => ?_, by simpa using h6⟩
  have := h5 b hb
  rw [lessI_eq] at this; exact of_decide_eq_true this
theorem min_of {q : List Int} (h0 : 0 < q.length) (hp : HpI q) {a : Int} {r : List Int} (h : q.Perm (a :: r)) (ha : ∀ x ∈ r, a ≤ x) : gg 0 q 0 = a := by
  obtain ⟨h1, h2⟩ := root_min h0 hp
  have e1 := h2 a (h.mem_iff.2 (List.mem_cons_self ..))
  rcases List.mem_cons.1 (h.mem_iff.1 h1) with h3 | h3
  · exact h3
  · have := ha _ h3; omega
theorem awake13 : L13_awake = some true := by
  unfold L13_awake
  obtain ⟨q1, a1, a2, a3⟩ := push_ok ordI (d := 0) (l := []) 3 (by decide) hp_nil
  obtain ⟨q2, b1, b2, b3⟩ := push_ok ordI (d := 0) (l := q1) 1 (by rw [a3.length_eq]; decide) a2
  obtain ⟨q3, c1, c2, c3⟩ := push_ok ordI (d := 0) (l := q2) 2 (by rw [b3.length_eq, List.length_cons, a3.length_eq]; decide) b2
  have hq3 : q3.Perm (1 :: [2, 3]) := by
    have h1 : q2.Perm [1, 3] := b3.trans (a3.cons 1)
    have h2 : q3.Perm [2, 1, 3] := c3.trans (h1.cons 2)
    exact h2.trans (List.Perm.swap ..)
  have l3 : q3.length = 3 := hq3.length_eq
  obtain ⟨q4, d1, d2, d3⟩ := pop_some (q := q3) (by omega) (by omega) c2
  have m1 : gg 0 q3 0 = 1 := min_of (by omega) c2 hq3 (by decide)
  rw [m1] at d1 d3
  have hq4 : q4.Perm (2 :: [3]) := (d3.symm.trans hq3).cons_inv
  have l4 : q4.length = 2 := hq4.length_eq
  obtain ⟨q5, e1, e2, e3⟩ := pop_some (q := q4) (by omega) (by omega) d2
  have m2 : gg 0 q4 0 = 2 := min_of (by omega) d2 hq4 (by decide)
  rw [m2] at e1 e3
  have hq5 : q5.Perm [3] := (e3.symm.trans hq4).cons_inv
  have l5 : q5.length = 1 := hq5.length_eq
  obtain ⟨o, r, f1, f2, f3, f4, f5, f6⟩ := drain_I (l := q5) 9 (by omega) e2
  have hr : r = [] := by
    cases r with
    | nil => rfl
    | cons b r =>
      have h1 := f5 b (List.mem_cons_self ..)
      have h2 := (f6.trans hq5).mem_iff.1 (List.mem_append_right o (List.mem_cons_self ..))
      simp at h2; omega
  subst hr
  rw [List.append_nil] at f6
  have ho : o = [3] := List.perm_singleton.1 (f6.trans hq5)
  subst ho
  have a1' : heap_Queue_int_Push heap_New_int 3 = some q1 := a1
  have b1' : heap_Queue_int_Push q1 1 = some q2 := b1
  have c1' : heap_Queue_int_Push q2 2 = some q3 := c1
  have hlen : heap_Queue_int_Len q5 = 1 := by unfold heap_Queue_int_Len; omega
  rw [a1', Option.bind_some, b1', Option.bind_some, c1', Option.bind_some, d1, Option.bind_some, e1, Option.bind_some]
  simp only [hlen, if_true, if_pos, f1, Option.bind_some, same_eq (a := [3]) (b := [3]) (by decide), decide_true]
/-! ### What was pushed is popped, rising -/
theorem push_loop {p0 : List Int} {x : Int} (hl : p0.length ≤ 100) : ∃ q, loopW (L13_HeapSorts_l1 p0 x) (0, 0, heap_New_int) = some ((p0.count x : Int), q) ∧ HpI q ∧ q.Perm p0 := by
  have key : ∀ (d k : Nat), k + d = p0.length → ∀ q : List Int, HpI q → q.Perm (p0.take k) → ∃ q', loopW (L13_HeapSorts_l1 p0 x) (((p0.take k).count x : Int), (k : Int), q) = some ((p0.count x : Int), q') ∧ HpI q' ∧ q'.Perm p0 := by
    intro d
    induction d with
    | zero =>
      intro k hk q hq hp
      obtain rfl : k = p0.length := by omega
      rw [List.take_length] at hp ⊢
      exact ⟨q, loopW_end (by rw [L13_HeapSorts_l1, if_neg (by omega)]), hq, hp⟩
    | succ d ih =>
      intro k hk q hq hp
      have hkl : k < p0.length := by omega
      have hql : q.length = k := by rw [hp.length_eq, List.length_take]; omega
      obtain ⟨q1, h1, h2, h3⟩ := push_ok ordI (d := 0) (l := q) p0[k] (by omega) hq
      have h1' : heap_Queue_int_Push q p0[k] = some q1 := h1
      have hp1 : q1.Perm (p0.take (k + 1)) := by
        rw [List.take_succ_eq_append_getElem hkl]
        exact (h3.trans (hp.cons _)).trans (List.perm_append_comm (l₁ := [p0[k]]) (l₂ := p0.take k))
      have hcl : (p0.take k).count x ≤ k := by
        have := List.count_le_length (a := x) (l := p0.take k)
        rw [List.length_take] at this; omega
      have hst : L13_HeapSorts_l1 p0 x (((p0.take k).count x : Int), (k : Int), q) = some (.inl (((p0.take (k + 1)).count x : Int), ((k + 1 : Nat) : Int), q1)) := by
        rw [L13_HeapSorts_l1, if_pos (by omega), ix_nat (List.getElem?_eq_getElem hkl), Option.bind_some, h1', Option.bind_some, Option.bind_some, List.take_succ_eq_append_getElem hkl, List.count_append, List.count_singleton]
        by_cases c : p0[k] = x
        · rw [if_pos c, Option.bind_some, w64_id (by omega), w64_id (by omega), if_pos (by simp [c])]; rfl
        · rw [if_neg c, Option.bind_some, w64_id (by omega), if_neg (by simp [c])]; rfl
      rw [loopW_go hst]
      exact ih (k + 1) (by omega) q1 h2 hp1
  exact key p0.length 0 (by omega) [] hp_nil (List.Perm.refl _)
theorem pop_loop {p0 : List Int} {x : Int} (hl : p0.length ≤ 100) : ∀ (d k : Nat), k + d = p0.length → ∀ (ps q : List Int) (last : Int), ps.length = k → HpI q → (ps ++ q).Perm p0 → (0 < k → ∀ y ∈ q, last ≤ y) →
    loopW (L13_HeapSorts_l2 p0 x) ((ps.count x : Int), last, (k : Int), q) = some (.inl ((p0.count x : Int), [])) := by
  intro d
  induction d with
  | zero =>
    intro k hk ps q last h1 h2 h3 h4
    have hq : q = [] := by
      have := h3.length_eq
      rw [List.length_append] at this
      exact List.eq_nil_of_length_eq_zero (by omega)
    subst hq
    rw [List.append_nil] at h3
    rw [loopW_end (by rw [L13_HeapSorts_l2, if_neg (by omega)]), h3.count_eq]
  | succ d ih =>
    intro k hk ps q last h1 h2 h3 h4
    have hlen := h3.length_eq
    rw [List.length_append] at hlen
    have h0 : 0 < q.length := by omega
    obtain ⟨q', g1, g2, g3⟩ := pop_some (q := q) (by omega) h0 h2
    obtain ⟨r1, r2⟩ := root_min h0 h2
    have hcl : ps.count x ≤ k := by
      have := List.count_le_length (a := x) (l := ps)
      omega
    have hc : (!true || (decide ((0 : Int) < (k : Int)) && decide (gg 0 q 0 < last))) = false := by
      rw [Bool.not_true, Bool.false_or, Bool.and_eq_false_iff]
      by_cases ck : 0 < k
      · right; have := h4 ck _ r1; exact decide_eq_false (by omega)
      · left; exact decide_eq_false (by omega)
    have hst : L13_HeapSorts_l2 p0 x ((ps.count x : Int), last, (k : Int), q) = some (.inl (((ps ++ [gg 0 q 0]).count x : Int), gg 0 q 0, ((k + 1 : Nat) : Int), q')) := by
      rw [L13_HeapSorts_l2, if_pos (by omega), g1, Option.bind_some]
      simp only
      rw [hc, if_neg (by decide), List.count_append, List.count_singleton]
      by_cases c : gg 0 q 0 = x
      · rw [if_pos c, Option.bind_some, w64_id (by omega), w64_id (by omega), if_pos (by simp [c])]; rfl
      · rw [if_neg c, Option.bind_some, w64_id (by omega), if_neg (by simp [c])]; rfl
    rw [loopW_go hst]
    refine ih (k + 1) (by omega) (ps ++ [gg 0 q 0]) q' _ (by simp [h1]) g2 ?_ (fun _ y hy => r2 y (g3.mem_iff.2 (List.mem_cons_of_mem _ hy)))
    rw [List.append_assoc]
    exact (List.Perm.append_left _ g3.symm).trans h3
theorem HeapSorts_core (p0 : List Int) (x : Int) : L13_HeapSorts p0 x = some true := by
  unfold L13_HeapSorts
  rw [awake13]
  by_cases c : p0.length ≤ 100
  · rw [if_neg (by omega)]
    obtain ⟨q, h1, h2, h3⟩ := push_loop (x := x) c
    rw [h1, Option.bind_some]
    have h4 := pop_loop (x := x) c p0.length 0 (by omega) [] q 0 rfl h2 (by simpa using h3) (fun h => absurd h (by decide))
    have h4' : loopW (L13_HeapSorts_l2 p0 x) (0, 0, 0, q) = some (.inl ((p0.count x : Int), [])) := h4
    show orR (loopW (L13_HeapSorts_l2 p0 x) (0, 0, 0, q)) _ = _
    rw [h4']
    simp [orR, pop_none]
  · rw [if_pos (by omega)]; rfl
theorem HeapSorts_true (p0 : List Int) {A : Prop} (_ : A) (p1 : Int) {B : Prop} (_ : B) : L13_HeapSorts p0 p1 = some true := HeapSorts_core p0 p1
end Go.Proofs.Ytlogogcdfdocoaa
