/- Layer 13: queues of numbers. Conditions: none. -/
import Derived.Test.YtlogogcdfdocoaaM13
namespace Go.Proofs.Ytlogogcdfdocoaa
set_option linter.unusedVariables false
set_option linter.unusedSimpArgs false
open Go Go.RowKit
/-! ### The document's list -/
def insR (x : Int) : List Int → List Int
  | [] => [x]
  | a :: t => if x < a then x :: a :: t else a :: insR x t
theorem insR_perm (x : Int) : ∀ l, (insR x l).Perm (x :: l)
  | [] => List.Perm.refl _
  | a :: t => by
    unfold insR
    split
    · exact List.Perm.refl _
    · exact ((insR_perm x t).cons a).trans (List.Perm.swap ..)
theorem insR_sorted (x : Int) : ∀ {l : List Int}, l.Pairwise (· ≤ ·) → (insR x l).Pairwise (· ≤ ·)
  | [], _ => by simp [insR]
  | a :: t, h => by
    have h1 := List.pairwise_cons.1 h
    unfold insR
    split
    · refine List.pairwise_cons.2 ⟨fun y hy => ?_, h⟩
      rcases List.mem_cons.1 hy with rfl | hy
      · omega
      · have := h1.1 y hy; omega
    · refine List.pairwise_cons.2 ⟨fun y hy => ?_, insR_sorted x h1.2⟩
      rcases List.mem_cons.1 ((insR_perm x t).mem_iff.1 hy) with rfl | hy
      · omega
      · exact h1.1 y hy
theorem insR_split {x : Int} : ∀ {a : List Int} (b : List Int), (∀ y ∈ a, ¬ x < y) → insR x (a ++ b) = a ++ insR x b
  | [], b, _ => rfl
  | y :: a, b, h => by
    show (if x < y then _ else y :: insR x (a ++ b)) = _
    rw [if_neg (h y (List.mem_cons_self ..)), insR_split b fun z hz => h z (List.mem_cons_of_mem _ hz)]; rfl
theorem rpush_eq {l : List Int} (x : Int) (hl : l.length ≤ 900) : r13_Push l x = some (insR x l) := by
  have key : ∀ (d k : Nat), k + d = l.length → ∀ (out : List Int) (done : Bool), (done = false → out = l.take k ∧ ∀ y ∈ l.take k, ¬ x < y) → (done = true → insR x l = out ++ l.drop k ∧ out.length = k + 1) →
      ∃ out' done', loopW (r13_Push_l1 l x) (out, done, (k : Int)) = some (out', done') ∧ (done' = false → out' = l ∧ insR x l = l ++ [x]) ∧ (done' = true → insR x l = out') := by
    intro d
    induction d with
    | zero =>
      intro k hk out done h1 h2
      obtain rfl : k = l.length := by omega
      refine ⟨out, done, loopW_end (by rw [r13_Push_l1, if_neg (by omega)]), fun h => ?_, fun h => ?_⟩
      · obtain ⟨e1, e2⟩ := h1 h
        rw [List.take_length] at e1 e2
        refine ⟨e1, ?_⟩
        have := insR_split (x := x) (a := l) [] e2
        rw [List.append_nil] at this
        rw [this]; rfl
      · obtain ⟨e1, _⟩ := h2 h
        rw [e1, List.drop_length, List.append_nil]
    | succ d ih =>
      intro k hk out done h1 h2
      have hkl : k < l.length := by omega
      have hlen : out.length ≤ k + 1 := by
        cases done with
        | false => rw [(h1 rfl).1, List.length_take]; omega
        | true => rw [(h2 rfl).2]; exact Nat.le_refl _
      rw [show loopW (r13_Push_l1 l x) (out, done, (k : Int)) = loopW (r13_Push_l1 l x) ((if (!done) = true ∧ x < l[k] then (out ++ [x]) ++ [l[k]] else out ++ [l[k]]), (if (!done) = true ∧ x < l[k] then true else done), ((k + 1 : Nat) : Int)) from ?_]
      · refine ih (k + 1) (by omega) _ _ (fun h => ?_) (fun h => ?_)
        · by_cases c : (!done) = true ∧ x < l[k]
          · rw [if_pos c] at h; cases h
          · rw [if_neg c] at h ⊢
            obtain ⟨e1, e2⟩ := h1 h
            subst h
            have hx : ¬ x < l[k] := fun hx => c ⟨rfl, hx⟩
            refine ⟨by rw [e1, List.take_succ_eq_append_getElem hkl], fun y hy => ?_⟩
            rw [List.take_succ_eq_append_getElem hkl] at hy
            rcases List.mem_append.1 hy with hy | hy
            · exact e2 y hy
            · rw [List.mem_singleton] at hy; subst hy; exact hx
        · by_cases c : (!done) = true ∧ x < l[k]
          · rw [if_pos c]
            have hd : done = false := by simpa using c.1
            obtain ⟨e1, e2⟩ := h1 hd
            refine ⟨?_, by rw [e1]; simp; omega⟩
            have e3 : insR x l = l.take k ++ insR x (l.drop k) := by
              conv => lhs; rw [← List.take_append_drop k l]
              exact insR_split _ e2
            rw [e3, e1, List.drop_eq_getElem_cons hkl]
            unfold insR
            rw [if_pos c.2]; simp
          · rw [if_neg c] at h ⊢
            subst h
            obtain ⟨e1, e2⟩ := h2 rfl
            refine ⟨by rw [e1, List.drop_eq_getElem_cons hkl]; simp, by simp [e2]⟩
      · refine loopW_go ?_
        rw [r13_Push_l1, if_pos (by omega)]
        cases done with
        | true =>
          rw [if_neg (by decide), Option.bind_some, if_neg (by decide), Option.bind_some]
          dsimp only
          rw [ix_nat (List.getElem?_eq_getElem hkl), Option.bind_some, app_is (by simp; omega), Option.bind_some, w64_id (by omega), if_neg (by simp), if_neg (by simp)]; rfl
        | false =>
          rw [if_pos (by decide), ix_nat (List.getElem?_eq_getElem hkl)]
          simp only [Option.bind_some]
          by_cases c : x < l[k]
          · rw [if_pos (by simp [c]), app_is (by simp; omega), Option.bind_some, Option.bind_some]
            dsimp only
            rw [app_is (by simp; omega), Option.bind_some, w64_id (by omega), if_pos (by simp [c]), if_pos (by simp [c])]; rfl
          · rw [if_neg (by simp [c]), Option.bind_some]
            dsimp only
            rw [app_is (by simp; omega), Option.bind_some, w64_id (by omega), if_neg (by simp [c]), if_neg (by simp [c])]; rfl
  obtain ⟨out, done, h1, h2, h3⟩ := key l.length 0 (by omega) [] false (fun _ => ⟨rfl, fun y hy => by simp at hy⟩) (fun h => by cases h)
  unfold r13_Push
  have h1' : loopW (r13_Push_l1 l x) ([], false, 0) = some (out, done) := h1
  rw [h1', Option.bind_some]
  cases done with
  | false =>
    obtain ⟨e1, e2⟩ := h2 rfl
    subst e1
    simp only
    rw [if_pos (by decide), app_is (by simp; omega), e2]; rfl
  | true =>
    simp only
    rw [if_neg (by decide), h3 rfl]; rfl
theorem rpop_nil : r13_Pop [] = some (0, [], false) := rfl
theorem rpop_cons (a : Int) (r : List Int) : r13_Pop (a :: r) = some (a, r, true) := by
  unfold r13_Pop
  rw [if_neg (by simp; omega), show ix (a :: r) 0 = some a from rfl, Option.bind_some, subl_is (by simp; omega)]
  simp
theorem rdrain_eq {l : List Int} (most : Int) (hl : l.length ≤ 900) : ∃ n, n ≤ l.length ∧ r13_Drain l most = some (l.take n, l.drop n) ∧ (∀ a ∈ l.take n, a ≤ most) ∧ (∀ a, l[n]? = some a → most < a) := by
  have key : ∀ (d k : Nat), k + d = l.length → (∀ a ∈ l.take k, a ≤ most) → ∃ n, n ≤ l.length ∧ loopW (r13_Drain_l1 l most) (k : Int) = some (n : Int) ∧ (∀ a ∈ l.take n, a ≤ most) ∧ (∀ a, l[n]? = some a → most < a) := by
    intro d
    induction d with
    | zero =>
      intro k hk h
      exact ⟨k, by omega, loopW_end (by rw [r13_Drain_l1, if_neg (by omega)]; rfl), h, fun a ha => by rw [List.getElem?_eq_none (by omega)] at ha; cases ha⟩
    | succ d ih =>
      intro k hk h
      have hkl : k < l.length := by omega
      by_cases c : l[k] ≤ most
      · obtain ⟨n, h1, h2, h3, h4⟩ := ih (k + 1) (by omega) (fun a ha => by
          rw [List.take_succ_eq_append_getElem hkl] at ha
          rcases List.mem_append.1 ha with ha | ha
          · exact h a ha
          · rw [List.mem_singleton] at ha; subst ha; exact c)
        refine ⟨n, h1, ?_, h3, h4⟩
        rw [loopW_go (s' := ((k + 1 : Nat) : Int)) ?_]
        · exact h2
        · rw [r13_Drain_l1, if_pos (by omega), ix_nat (List.getElem?_eq_getElem hkl), Option.bind_some, decide_eq_true c, Option.bind_some, if_pos rfl, w64_id (by omega)]; rfl
      · refine ⟨k, by omega, loopW_end ?_, h, fun a ha => ?_⟩
        · rw [r13_Drain_l1, if_pos (by omega), ix_nat (List.getElem?_eq_getElem hkl), Option.bind_some, decide_eq_false c, Option.bind_some, if_neg (by decide)]
        · rw [List.getElem?_eq_getElem hkl] at ha; cases ha; omega
  obtain ⟨n, h1, h2, h3, h4⟩ := key l.length 0 (by omega) (fun a ha => by simp at ha)
  refine ⟨n, h1, ?_, h3, h4⟩
  unfold r13_Drain
  have h2' : loopW (r13_Drain_l1 l most) 0 = some (n : Int) := h2
  rw [h2', Option.bind_some, subl_is (by omega), Option.bind_some, subl_is (by omega), Option.bind_some]
  simp
theorem rdrop_eq {l : List Int} (x : Int) (hl : l.length ≤ 900) : r13_Drop l x = some (l.erase x, decide (x ∈ l)) := by
  have key : ∀ (d k : Nat), k + d = l.length → ∀ (out : List Int) (gone : Bool), out ++ (if gone = true then l.drop k else (l.drop k).erase x) = l.erase x → out.length ≤ k → gone = decide (x ∈ l.take k) →
      loopW (r13_Drop_l1 l x) (out, gone, (k : Int)) = some (l.erase x, decide (x ∈ l)) := by
    intro d
    induction d with
    | zero =>
      intro k hk out gone h1 h2 h3
      obtain rfl : k = l.length := by omega
      rw [List.take_length] at h3
      have : out = l.erase x := by rw [← h1, List.drop_length]; cases gone <;> simp
      rw [loopW_end (by rw [r13_Drop_l1, if_neg (by omega)]), this, h3]
    | succ d ih =>
      intro k hk out gone h1 h2 h3
      have hkl : k < l.length := by omega
      have hd := List.drop_eq_getElem_cons hkl
      have ht : decide (x ∈ l.take (k + 1)) = (decide (x ∈ l.take k) || decide (l[k] = x)) := by
        have hm : (x ∈ l.take k ++ [l[k]]) ↔ (x ∈ l.take k ∨ l[k] = x) := by rw [List.mem_append, List.mem_singleton]; exact or_congr Iff.rfl eq_comm
        rw [List.take_succ_eq_append_getElem hkl, decide_eq_decide.2 hm, Bool.decide_or]
      cases gone with
      | true =>
        rw [if_pos rfl] at h1
        rw [loopW_go (s' := (out ++ [l[k]], true, ((k + 1 : Nat) : Int))) (by
          rw [r13_Drop_l1, if_pos (by omega), if_neg (by decide), Option.bind_some, if_neg (by decide), ix_nat (List.getElem?_eq_getElem hkl), Option.bind_some, app_is (by simp; omega), Option.bind_some, Option.bind_some, w64_id (by omega)]; rfl)]
        exact ih (k + 1) (by omega) _ _ (by rw [if_pos rfl, ← h1, hd]; simp) (by simp; omega) (by rw [ht, ← h3]; rfl)
      | false =>
        rw [if_neg (by decide), hd] at h1
        by_cases c : l[k] = x
        · rw [loopW_go (s' := (out, true, ((k + 1 : Nat) : Int))) (by
            rw [r13_Drop_l1, if_pos (by omega), if_pos (by decide), ix_nat (List.getElem?_eq_getElem hkl)]
            simp only [Option.bind_some]
            rw [if_pos (by simp [c]), Option.bind_some, w64_id (by omega)]; rfl)]
          refine ih (k + 1) (by omega) _ _ (by rw [if_pos rfl, ← h1, c, List.erase_cons_head]) (by omega) (by rw [ht, ← h3]; simp [c])
        · rw [loopW_go (s' := (out ++ [l[k]], false, ((k + 1 : Nat) : Int))) (by
            rw [r13_Drop_l1, if_pos (by omega), if_pos (by decide), ix_nat (List.getElem?_eq_getElem hkl)]
            simp only [Option.bind_some]
            rw [if_neg (by simp [c]), app_is (by simp; omega), Option.bind_some, Option.bind_some, w64_id (by omega)]; rfl)]
          refine ih (k + 1) (by omega) _ _ (by rw [if_neg (by decide), ← h1, List.erase_cons_tail (by simp [c])]; simp) (by simp; omega) (by rw [ht, ← h3]; simp [c])
  have := key l.length 0 (by omega) [] false (by simp) (Nat.le_refl _) (by simp)
  unfold r13_Drop
  have h0 : loopW (r13_Drop_l1 l x) ([], false, 0) = _ := this
  rw [h0]; rfl
theorem index_ok {q : List Int} (x : Int) (hl : q.length ≤ 900) : (x ∉ q ∧ slices_IndexFunc_int_int q x = some (-1)) ∨ ∃ i : Nat, ∃ h : i < q.length, slices_IndexFunc_int_int q x = some (i : Int) ∧ q[i] = x := by
  have hcmp : ∀ y : Int, heap_Queue_int_Drop_1 y x = decide (y = x) := fun y => by
    unfold heap_Queue_int_Drop_1 cmp_Compare_int
    have h1 : ∀ z, cmp_isNaN_int z = false := fun z => by simp [cmp_isNaN_int]
    rw [h1, h1, if_neg (by decide), if_neg (by decide)]
    by_cases c1 : x < y
    · rw [if_pos c1]; simp; omega
    · rw [if_neg c1]
      by_cases c2 : y < x
      · rw [if_pos c2]; simp; omega
      · rw [if_neg c2]; simp; omega
  have key : ∀ (d k : Nat), k + d = q.length → x ∉ q.take k → (x ∉ q ∧ orR (loopW (slices_IndexFunc_int_int_l1 q x) (k : Int)) (fun _ => some (-1)) = some (-1)) ∨ ∃ i : Nat, ∃ h : i < q.length, orR (loopW (slices_IndexFunc_int_int_l1 q x) (k : Int)) (fun _ => some (-1)) = some (i : Int) ∧ q[i] = x := by
    intro d
    induction d with
    | zero =>
      intro k hk h
      rw [List.take_of_length_le (by omega)] at h
      exact .inl ⟨h, by rw [loopW_end (by rw [slices_IndexFunc_int_int_l1, if_neg (by omega)])]; rfl⟩
    | succ d ih =>
      intro k hk h
      have hkl : k < q.length := by omega
      by_cases c : q[k] = x
      · refine .inr ⟨k, hkl, ?_, c⟩
        rw [loopW_end (by rw [slices_IndexFunc_int_int_l1, if_pos (by omega), ix_nat (List.getElem?_eq_getElem hkl), Option.bind_some, hcmp, if_pos (by simp [c])])]; rfl
      · rw [loopW_go (s' := ((k + 1 : Nat) : Int)) (by rw [slices_IndexFunc_int_int_l1, if_pos (by omega), ix_nat (List.getElem?_eq_getElem hkl), Option.bind_some, hcmp, if_neg (by simp [c]), w64_id (by omega)]; rfl)]
        exact ih (k + 1) (by omega) (by
          rw [List.take_succ_eq_append_getElem hkl]
          intro hm
          rcases List.mem_append.1 hm with hm | hm
          · exact h hm
          · rw [List.mem_singleton] at hm; exact c hm.symm)
  exact key q.length 0 (by omega) (by simp)
theorem sorted_root {q r : List Int} (hp : HpI q) (h : q.Perm r) {a : Int} {t : List Int} (e : r = a :: t) (hs : r.Pairwise (· ≤ ·)) : gg 0 q 0 = a := by
  subst e
  exact min_of (by rw [h.length_eq]; simp) hp h (fun x hx => (List.pairwise_cons.1 hs).1 x hx)
/-! ### All deeds -/
structure Inv (r q : List Int) (k : Nat) : Prop where
  hp : HpI q
  pm : q.Perm r
  so : r.Pairwise (· ≤ ·)
  ln : r.length ≤ k
theorem plays_step (p0 : List (Int × Int)) (k : Nat) (hk : k < p0.length) (hk2 : k < 80) {r q : List Int} (h : Inv r q k) : ∃ r' q', L13_HeapPlays_l1 p0 (r, (k : Int), q) = some (.inl (r', ((k + 1 : Nat) : Int), q')) ∧ Inv r' q' (k + 1) := by
  have hq := h.pm.length_eq
  have hln := h.ln
  rcases hx : p0[k] with ⟨kd, n⟩
  have hix : ix p0 (k : Int) = some (kd, n) := by rw [ix_nat (List.getElem?_eq_getElem hk), hx]
  have fin : ∀ r' q' : List Int, Inv r' q' (k + 1) → (if (heap_Queue_int_Len q') ≠ (r'.length : Int) then some (.inr (.inr false)) else some (.inl (r', w64 ((k : Int) + 1), q')) : Option ((List Int × Int × List Int) ⊕ ((List Int) ⊕ Bool))) = some (.inl (r', ((k + 1 : Nat) : Int), q')) := fun r' q' hi => by
    rw [if_neg (by unfold heap_Queue_int_Len; rw [hi.pm.length_eq]; simp), w64_id (by omega)]; rfl
  have hb : (if kd = 0 then some true else (if kd = 1 then some true else some (decide (kd = 2)))) = some (decide (kd = 0 ∨ kd = 1 ∨ kd = 2)) := by
    by_cases c1 : kd = 0
    · rw [if_pos c1]; simp [c1]
    · rw [if_neg c1]
      by_cases c2 : kd = 1
      · rw [if_pos c2]; simp [c2]
      · rw [if_neg c2]; simp [c1, c2]
  have hb2 : (if kd = 3 then some true else some (decide (kd = 4))) = some (decide (kd = 3 ∨ kd = 4)) := by
    by_cases c1 : kd = 3
    · rw [if_pos c1]; simp [c1]
    · rw [if_neg c1]; simp [c1]
  rw [L13_HeapPlays_l1, if_pos (by simp; omega), hix]
  simp only [Option.bind_some]
  rw [hb, Option.bind_some]
  by_cases c0 : kd = 0 ∨ kd = 1 ∨ kd = 2
  · rw [decide_eq_true c0, if_pos rfl]
    obtain ⟨q', g1, g2, g3⟩ := push_ok ordI (d := 0) (l := q) n (by omega) h.hp
    have g1' : heap_Queue_int_Push q n = some q' := g1
    have hi : Inv (insR n r) q' (k + 1) := ⟨g2, g3.trans ((h.pm.cons n).trans (insR_perm n r).symm), insR_sorted n h.so, by rw [(insR_perm n r).length_eq]; simp; omega⟩
    refine ⟨_, _, ?_, hi⟩
    rw [g1', Option.bind_some, rpush_eq n (by omega), Option.bind_some]
    exact fin _ _ hi
  · rw [decide_eq_false c0, if_neg (by decide), hb2, Option.bind_some]
    have keep : Inv r q (k + 1) := ⟨h.hp, h.pm, h.so, by omega⟩
    by_cases c3 : kd = 3 ∨ kd = 4
    · rw [decide_eq_true c3, if_pos rfl]
      cases hr : r with
      | nil =>
        have hqn : q = [] := by rw [hr] at h; exact List.perm_nil.1 h.pm
        refine ⟨[], [], ?_, by rw [hr, hqn] at keep; exact keep⟩
        rw [hqn, pop_none, Option.bind_some, rpop_nil, Option.bind_some, if_neg (by decide)]
        exact fin _ _ (by rw [hr, hqn] at keep; exact keep)
      | cons a t =>
        obtain ⟨q', g1, g2, g3⟩ := pop_some (q := q) (by omega) (by rw [hq, hr]; simp) h.hp
        have hm := sorted_root h.hp h.pm hr h.so
        rw [hm] at g1 g3
        have hi : Inv t q' (k + 1) := ⟨g2, by
          have := g3.symm.trans h.pm
          rw [hr] at this
          exact this.cons_inv, by rw [hr] at h; exact (List.pairwise_cons.1 h.so).2, by rw [hr] at hln; simp at hln; omega⟩
        refine ⟨_, _, ?_, hi⟩
        rw [g1, Option.bind_some, rpop_cons, Option.bind_some, if_neg (by simp)]
        exact fin _ _ hi
    · rw [decide_eq_false c3, if_neg (by decide)]
      by_cases c5 : kd = 5
      · rw [if_pos c5]
        obtain ⟨m, m1, m2, m3, m4⟩ := rdrain_eq (l := r) n (by omega)
        obtain ⟨o, rest, d1, d2, d3, d4, d5, d6⟩ := drain_I (l := q) n (by omega) h.hp
        have hperm : (o ++ rest).Perm (r.take m ++ r.drop m) := by rw [List.take_append_drop]; exact d6.trans h.pm
        have hrest : ∀ b ∈ r.drop m, n < b := fun b hb => by
          cases hd : r.drop m with
          | nil => rw [hd] at hb; simp at hb
          | cons c t =>
            have hc : r[m]? = some c := by
              have := congrArg (fun l => l[0]?) hd
              simpa [List.getElem?_drop] using this
            have h1 := m4 c hc
            have hs : (r.drop m).Pairwise (· ≤ ·) := h.so.sublist (List.drop_sublist m r)
            rw [hd] at hs hb
            rcases List.mem_cons.1 hb with rfl | hb
            · exact h1
            · have := (List.pairwise_cons.1 hs).1 b hb; omega
        have f1 : o = r.take m := by
          have hf := hperm.filter (fun a => decide (a ≤ n))
          rw [List.filter_append, List.filter_append, List.filter_eq_self.2 (fun a ha => by simpa using d4 a ha), List.filter_eq_nil_iff.2 (fun a ha => by have := d5 a ha; simp; omega), List.filter_eq_self.2 (fun a ha => by simpa using m3 a ha), List.filter_eq_nil_iff.2 (fun a ha => by have := hrest a ha; simp; omega), List.append_nil, List.append_nil] at hf
          exact List.Perm.eq_of_pairwise (fun a b _ _ h1 h2 => Int.le_antisymm h1 h2) d3 (h.so.sublist (List.take_sublist m r)) hf
        have f2 : rest.Perm (r.drop m) := by
          rw [f1] at hperm
          exact (List.perm_append_left_iff _).1 hperm
        have hi : Inv (r.drop m) rest (k + 1) := ⟨d2, f2, h.so.sublist (List.drop_sublist m r), by rw [List.length_drop]; omega⟩
        refine ⟨_, _, ?_, hi⟩
        rw [m2, Option.bind_some, d1, Option.bind_some, same_eq (by rw [f1, List.length_take]; omega), Option.bind_some, decide_eq_true f1, if_neg (by decide)]
        exact fin _ _ hi
      · rw [if_neg c5]
        by_cases c6 : kd = 6
        · rw [if_pos c6, rdrop_eq n (by omega), Option.bind_some]
          unfold heap_Queue_int_Drop
          rcases index_ok n (q := q) (by omega) with ⟨i1, i2⟩ | ⟨i, i1, i2, i3⟩
          · have hnr : n ∉ r := fun hm => i1 (h.pm.mem_iff.2 hm)
            refine ⟨r, q, ?_, keep⟩
            rw [i2, Option.bind_some, if_pos (by decide), Option.bind_some, List.erase_of_not_mem hnr, if_neg (by simp [hnr])]
            exact fin _ _ keep
          · obtain ⟨q', g1, g2, g3⟩ := remove_ok ordI (d := 0) (l := q) (by omega) i1 h.hp
            rw [gg_get 0 i1, i3] at g3
            have hnq : n ∈ q := i3 ▸ List.getElem_mem i1
            have hnr : n ∈ r := h.pm.mem_iff.1 hnq
            have g1' : heap_Queue_int_remove q (i : Int) = some q' := g1
            have hi : Inv (r.erase n) q' (k + 1) := ⟨g2, by
              have := (g3.symm.trans h.pm).trans (List.perm_cons_erase hnr)
              exact this.cons_inv, h.so.sublist List.erase_sublist, by have := List.length_erase_le (a := n) (l := r); omega⟩
            refine ⟨_, _, ?_, hi⟩
            rw [i2, Option.bind_some, if_neg (by omega), g1', Option.bind_some, Option.bind_some, if_neg (by simp [hnr])]
            exact fin _ _ hi
        · rw [if_neg c6]
          by_cases c7 : kd = 7
          · rw [if_pos c7]
            refine ⟨r, q, ?_, keep⟩
            cases hr : r with
            | nil =>
              have hqn : q = [] := by rw [hr] at h; exact List.perm_nil.1 h.pm
              rw [hqn, show heap_Queue_int_Peek [] = some (0, false) from rfl, Option.bind_some, rpop_nil, Option.bind_some, if_neg (by decide)]
              exact fin _ _ (by rw [hr, hqn] at keep; exact keep)
            | cons a t =>
              have hm := sorted_root h.hp h.pm hr h.so
              rw [peek_int, peek_some (by rw [hq, hr]; simp), hm, Option.bind_some, rpop_cons, Option.bind_some, if_neg (by simp)]
              exact fin _ _ (by rw [hr] at keep; exact keep)
          · rw [if_neg c7]
            exact ⟨r, q, fin _ _ keep, keep⟩
theorem HeapPlays_core (p0 : List (Int × Int)) : L13_HeapPlays p0 = some true := by
  have key : ∀ (d k : Nat), k + d = min p0.length 80 → ∀ r q : List Int, Inv r q k → ∃ q', loopW (L13_HeapPlays_l1 p0) (r, (k : Int), q) = some (.inl q') := by
    intro d
    induction d with
    | zero =>
      intro k hk r q h
      exact ⟨q, loopW_end (by rw [L13_HeapPlays_l1, if_neg (by simp; omega)])⟩
    | succ d ih =>
      intro k hk r q h
      obtain ⟨r', q', h1, h2⟩ := plays_step p0 k (by omega) (by omega) h
      rw [loopW_go h1]
      exact ih (k + 1) (by omega) r' q' h2
  obtain ⟨q', h⟩ := key (min p0.length 80) 0 (by omega) [] [] ⟨hp_nil, List.Perm.refl _, List.Pairwise.nil, Nat.le_refl _⟩
  unfold L13_HeapPlays
  have h' : loopW (L13_HeapPlays_l1 p0) ([], 0, heap_New_int) = some (.inl q') := h
  rw [h', awake13]; rfl
theorem HeapPlays_true (p0 : List (Int × Int)) {A : Prop} (_ : A) : L13_HeapPlays p0 = some true := HeapPlays_core p0
end Go.Proofs.Ytlogogcdfdocoaa
