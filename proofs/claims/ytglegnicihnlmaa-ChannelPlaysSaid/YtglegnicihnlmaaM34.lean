/- Layer 34: the channel. Conditions: none. -/
import Derived.Test.YtglegnicihnlmaaA2
import Derived.Test.YtglegnicihnlmaaLP
import Derived.Test.YtglegnicihnlmaaOC
namespace Go.Proofs.Ytglegnicihnlmaa
set_option linter.unusedVariables false
set_option linter.unusedSimpArgs false
open Go Go.RowKit

/-! ### slices.Delete of one element -/
def delP {α : Type} (z : α) (p0 : List α) (p1 p2 : Int) : Option (List α) := (subl p0 p1 p2).bind fun x1 => (if p1 = p2 then some p0 else (subl p0 0 p1).bind fun x2 => (subl p0 p2 (p0.length : Int)).bind fun x3 => (spl p0 (x2.length : Int) x3).bind fun x4 => (subl x4 0 ((x2.length : Int) + (x3.length : Int))).bind fun x5 => (subl x4 (x5.length : Int) (p0.length : Int)).bind fun x6 => (spl x4 (x5.length : Int) (List.replicate (x6.length) z)).bind fun x7 => some x5)
theorem del_eq {α : Type} (z : α) (l : List α) (k : Nat) (hk : k < l.length) : delP z l (k : Int) (((k + 1 : Nat)) : Int) = some (l.eraseIdx k) := by
  unfold delP
  have hspl : ∀ (l : List α) (p : Nat) (m : List α), p + m.length ≤ l.length → spl l (p : Int) m = some (l.take p ++ m ++ l.drop (p + m.length)) := fun l p m h => by
    unfold spl; rw [if_pos (by omega), Int.toNat_natCast]
  rw [subl_is (by omega), Option.bind_some, if_neg (by omega), subl_is (by omega), Option.bind_some, subl_is (by omega), Option.bind_some]
  have e2 : (l.take (k : Int).toNat).drop (0 : Int).toNat = l.take k := by rw [Int.toNat_natCast]; rfl
  have e3 : (l.take ((l.length : Int)).toNat).drop (((k + 1 : Nat) : Int)).toNat = l.drop (k + 1) := by rw [Int.toNat_natCast, Int.toNat_natCast, List.take_length]
  have h2 : (l.take k).length = k := by rw [List.length_take]; omega
  have h3 : (l.drop (k + 1)).length = l.length - (k + 1) := List.length_drop
  rw [e2, e3, h2, hspl _ _ _ (by rw [h3]; omega), Option.bind_some, h3]
  have hx4 : (l.take k ++ l.drop (k + 1) ++ l.drop (k + (l.length - (k + 1)))).length = l.length := by simp only [List.length_append, List.length_take, List.length_drop]; omega
  rw [subl_is (by rw [hx4]; omega), Option.bind_some]
  have e5 : ((l.take k ++ l.drop (k + 1) ++ l.drop (k + (l.length - (k + 1)))).take ((k : Int) + ((l.length - (k + 1) : Nat) : Int)).toNat).drop (0 : Int).toNat = l.eraseIdx k := by
    rw [List.eraseIdx_eq_take_drop_succ]
    have hl : (l.take k ++ l.drop (k + 1)).length = ((k : Int) + ((l.length - (k + 1) : Nat) : Int)).toNat := by simp only [List.length_append, List.length_take, List.length_drop]; omega
    show (l.take k ++ l.drop (k + 1) ++ l.drop (k + (l.length - (k + 1)))).take _ = _
    rw [← hl, List.take_left]
  rw [e5]
  have h5 : (l.eraseIdx k).length = l.length - 1 := by rw [List.length_eraseIdx, if_pos hk]
  rw [h5, subl_is (by rw [hx4]; omega), Option.bind_some, hspl _ _ _ (by rw [hx4]; simp; omega)]; rfl

/-! ### Counting, the first one -/
section
variable {α : Type}
def nx : Option Nat → Int | none => -1 | some i => (i : Int)
def cntq (q : α → Bool) (l : List α) : Nat := (l.filter q).length
theorem cnt_le (q : α → Bool) (l : List α) : cntq q l ≤ l.length := List.length_filter_le _ _
theorem cnt_succ (q : α → Bool) (l : List α) (k : Nat) (hk : k < l.length) : cntq q (l.take (k + 1)) = if q l[k] = true then cntq q (l.take k) + 1 else cntq q (l.take k) := by
  unfold cntq
  rw [List.take_succ_eq_append_getElem hk, List.filter_append, List.length_append]
  by_cases h : q l[k] = true <;> simp [h]
theorem nx_succ (q : α → Bool) (l : List α) (k : Nat) (hk : k < l.length) : nx ((l.take (k + 1)).findIdx? q) = if q l[k] = true then (if nx ((l.take k).findIdx? q) < 0 then (k : Int) else nx ((l.take k).findIdx? q)) else nx ((l.take k).findIdx? q) := by
  rw [List.take_succ_eq_append_getElem hk, List.findIdx?_append]
  cases h : (l.take k).findIdx? q with
  | none =>
    by_cases c : q l[k] = true
    · rw [if_pos c, if_pos (by decide)]
      simp [List.findIdx?_cons, c, nx]
      try omega
    · rw [if_neg c]; simp [List.findIdx?_cons, c]
  | some i =>
    have : ¬ nx (some i) < 0 := by simp only [nx]; omega
    rw [if_neg this, ite_self]; simp
theorem find_gen {step : (Int × Int × Int) → Option ((Int × Int × Int) ⊕ (Int × Int))} (q : α → Bool) (l : List α) (hl : l.length ≤ 1000)
    (hs : ∀ (x y : Int) (k : Nat) (hk : k < l.length), step (x, y, (k : Int)) = some (.inl (if q l[k] = true then (w64 (x + 1), (if y < 0 then (k : Int) else y), w64 ((k : Int) + 1)) else (x, y, w64 ((k : Int) + 1)))))
    (he : ∀ x y, step (x, y, (l.length : Int)) = some (.inr (x, y))) : loopW step (0, -1, 0) = some ((cntq q l : Int), nx (l.findIdx? q)) := by
  have key : ∀ (d k : Nat), k + d = l.length → loopW step ((cntq q (l.take k) : Int), nx ((l.take k).findIdx? q), (k : Int)) = some ((cntq q l : Int), nx (l.findIdx? q)) := by
    intro d
    induction d with
    | zero =>
      intro k hk
      obtain rfl : k = l.length := by omega
      rw [loopW_end (he _ _), List.take_length]
    | succ d ih =>
      intro k hk
      have hkl : k < l.length := by omega
      have hc := cnt_le q (l.take k)
      rw [List.length_take] at hc
      rw [loopW_go (s' := ((cntq q (l.take (k + 1)) : Int), nx ((l.take (k + 1)).findIdx? q), ((k + 1 : Nat) : Int))) ?_, ih (k + 1) (by omega)]
      rw [hs _ _ k hkl, cnt_succ q l k hkl, nx_succ q l k hkl]
      by_cases c : q l[k] = true
      · rw [if_pos c, if_pos c, if_pos c, w64_id (by omega), w64_id (by omega)]; rfl
      · rw [if_neg c, if_neg c, if_neg c, w64_id (by omega)]; rfl
  have := key l.length 0 (by omega)
  exact this
end
/-! ### The channel -/
abbrev Fg := Int × Bool × List UInt8
abbrev Ch := List Fg × Int
abbrev z0 : Fg := (0, false, [])
theorem delete_eq (l : List Fg) (k : Nat) (hk : k < l.length) : slices_Delete_channel_Flight_channel_Flight l (k : Int) (((k + 1 : Nat)) : Int) = some (l.eraseIdx k) := del_eq z0 l k hk
theorem len_eq {l : List Fg} {n : Int} (hl : l.length ≤ 256) : channel_Channel_Len (l, n) = some (l.length : Int) := by
  unfold channel_Channel_Len channel_Channel_count channel_Channel_find
  rw [find_gen (fun _ => true) l (by omega) (fun x y k hk => by
    rw [channel_Channel_find_l1, if_pos (by simp only; omega), ix_nat (List.getElem?_eq_getElem hk), Option.bind_some]
    unfold channel_Channel_Len_1
    rw [if_neg (by decide), if_pos rfl]
    by_cases c : y < 0
    · rw [if_pos c, if_pos c]; rfl
    · rw [if_neg c, if_neg c]; rfl) (fun x y => by rw [channel_Channel_find_l1, if_neg (by simp only; omega)])]
  show some (cntq (fun _ => true) l : Int) = _
  unfold cntq
  rw [List.filter_eq_self.2 (fun _ _ => rfl)]
theorem of_eq {l : List Fg} {n s : Int} (hl : l.length ≤ 256) : channel_Channel_Of (l, n) s = some (cntq (fun f => decide (f.1 = s)) l : Int) := by
  unfold channel_Channel_Of channel_Channel_count_2 channel_Channel_find_2
  rw [find_gen (fun f : Fg => decide (f.1 = s)) l (by omega) (fun x y k hk => by
    rw [channel_Channel_find_2_l1, if_pos (by simp only; omega), ix_nat (List.getElem?_eq_getElem hk), Option.bind_some]
    unfold channel_Channel_Of_1
    by_cases c1 : l[k].1 = s
    · rw [decide_eq_true c1, if_neg (by decide), if_pos rfl]
      by_cases c : y < 0
      · rw [if_pos c, if_pos c]; rfl
      · rw [if_neg c, if_neg c]; rfl
    · rw [decide_eq_false c1, if_pos (by decide), if_neg (by decide)]; rfl) (fun x y => by rw [channel_Channel_find_2_l1, if_neg (by simp only; omega)])]; rfl
theorem next_eq {l : List Fg} {n s : Int} {u : Bool} (hl : l.length ≤ 256) : channel_Channel_Next (l, n) s u = some (nx (l.findIdx? (fun f => decide (f.1 = s) && decide (f.2.1 = u)))) := by
  unfold channel_Channel_Next channel_Channel_find_3
  rw [find_gen (fun f : Fg => decide (f.1 = s) && decide (f.2.1 = u)) l (by omega) (fun x y k hk => by
    rw [channel_Channel_find_3_l1, if_pos (by simp only; omega), ix_nat (List.getElem?_eq_getElem hk), Option.bind_some]
    unfold channel_Channel_Next_1
    by_cases c1 : (decide (l[k].1 = s) && decide (l[k].2.1 = u)) = true
    · rw [c1, if_neg (by decide), if_pos rfl]
      by_cases c : y < 0
      · rw [if_pos c, if_pos c]; rfl
      · rw [if_neg c, if_neg c]; rfl
    · rw [Bool.not_eq_true] at c1
      rw [c1, if_pos (by decide), if_neg (by decide)]; rfl) (fun x y => by rw [channel_Channel_find_3_l1, if_neg (by simp only; omega)])]; rfl
theorem rof_eq {l : List Fg} {n s : Int} (hl : l.length ≤ 256) : r34_Channel_Of (l, n) s = some (cntq (fun f => decide (f.1 = s)) l : Int) := by
  unfold r34_Channel_Of
  have key : ∀ (d k : Nat), k + d = l.length → loopW (r34_Channel_Of_l1 (l, n) s) ((cntq (fun f : Fg => decide (f.1 = s)) (l.take k) : Int), (k : Int)) = some (cntq (fun f => decide (f.1 = s)) l : Int) := by
    intro d
    induction d with
    | zero =>
      intro k hk
      obtain rfl : k = l.length := by omega
      rw [loopW_end (by rw [r34_Channel_Of_l1, if_neg (by simp only; omega)]), List.take_length]
    | succ d ih =>
      intro k hk
      have hkl : k < l.length := by omega
      have hc := cnt_le (fun f : Fg => decide (f.1 = s)) (l.take k)
      rw [List.length_take] at hc
      rw [loopW_go (s' := ((cntq (fun f : Fg => decide (f.1 = s)) (l.take (k + 1)) : Int), ((k + 1 : Nat) : Int))) ?_, ih (k + 1) (by omega)]
      rw [r34_Channel_Of_l1, if_pos (by simp only; omega), ix_nat (List.getElem?_eq_getElem hkl), Option.bind_some, cnt_succ _ l k hkl]
      by_cases c : l[k].1 = s
      · rw [if_pos c, if_pos (by simp [c]), Option.bind_some, w64_id (by omega), w64_id (by omega)]; rfl
      · rw [if_neg c, if_neg (by simp [c]), Option.bind_some, w64_id (by omega)]; rfl
  have := key l.length 0 (by omega)
  have h0 : loopW (r34_Channel_Of_l1 (l, n) s) (0, 0) = _ := this
  rw [h0]; rfl
theorem rnext_eq {l : List Fg} {n s : Int} {u : Bool} (hl : l.length ≤ 256) : r34_Channel_Next (l, n) s u = some (nx (l.findIdx? (fun f => decide (f.1 = s) && decide (f.2.1 = u)))) := by
  unfold r34_Channel_Next
  have key : ∀ (d k : Nat), k + d = l.length → (l.take k).findIdx? (fun f : Fg => decide (f.1 = s) && decide (f.2.1 = u)) = none → orR (loopW (r34_Channel_Next_l1 (l, n) s u) (k : Int)) (fun _ => some (-1)) = some (nx (l.findIdx? (fun f => decide (f.1 = s) && decide (f.2.1 = u)))) := by
    intro d
    induction d with
    | zero =>
      intro k hk hn
      obtain rfl : k = l.length := by omega
      rw [List.take_length] at hn
      rw [loopW_end (by rw [r34_Channel_Next_l1, if_neg (by simp only; omega)]), hn]; rfl
    | succ d ih =>
      intro k hk hn
      have hkl : k < l.length := by omega
      have hst : r34_Channel_Next_l1 (l, n) s u (k : Int) = if (decide (l[k].1 = s) && decide (l[k].2.1 = u)) = true then some (.inr (.inr (k : Int))) else some (.inl ((k + 1 : Nat) : Int)) := by
        rw [r34_Channel_Next_l1, if_pos (by simp only; omega), ix_nat (List.getElem?_eq_getElem hkl), Option.bind_some]
        by_cases c1 : l[k].1 = s
        · rw [if_pos c1, Option.bind_some, Option.bind_some, decide_eq_true c1, Bool.true_and, w64_id (by omega)]; rfl
        · rw [if_neg c1, Option.bind_some, decide_eq_false c1, Bool.false_and, if_neg (by decide), if_neg (by decide), w64_id (by omega)]; rfl
      by_cases c : (decide (l[k].1 = s) && decide (l[k].2.1 = u)) = true
      · rw [if_pos c] at hst
        rw [loopW_end hst]
        have h1 : l.findIdx? (fun f => decide (f.1 = s) && decide (f.2.1 = u)) = some k := by
          rw [List.findIdx?_eq_some_iff_getElem]
          refine ⟨hkl, c, fun j hj => ?_⟩
          rw [List.findIdx?_eq_none_iff] at hn
          have := hn l[j] (by rw [List.mem_take_iff_getElem]; exact ⟨j, by omega, rfl⟩)
          simp only [this, Bool.false_eq_true, not_false_eq_true]
        rw [h1]; rfl
      · rw [if_neg c] at hst
        rw [loopW_go hst, ih (k + 1) (by omega) (by
          rw [List.take_succ_eq_append_getElem hkl, List.findIdx?_append, hn]
          rw [Bool.not_eq_true] at c
          simp only [List.findIdx?_cons, c]; rfl)]
  exact key l.length 0 (by omega) (by simp)
theorem look_eq (l : List Fg) (n k : Int) : channel_Channel_Look (l, n) k = r34_Channel_Look (l, n) k := by
  unfold channel_Channel_Look r34_Channel_Look
  by_cases c : 0 ≤ k ∧ k < (l.length : Int)
  · rw [if_neg (by simp; omega), if_pos (by simp; omega)]
  · rw [if_pos (by simp; omega), if_neg (by simp; omega)]
theorem look_in {l : List Fg} {n : Int} {k : Nat} (hk : k < l.length) : channel_Channel_Look (l, n) (k : Int) = some (l[k], 0) := by
  rw [look_eq]; unfold r34_Channel_Look
  rw [if_pos (by simp; omega), ix_nat (List.getElem?_eq_getElem hk)]; rfl
theorem look_out {l : List Fg} {n k : Int} (h : ¬ (0 ≤ k ∧ k < (l.length : Int))) : channel_Channel_Look (l, n) k = some (z0, 7) := by
  rw [look_eq]; unfold r34_Channel_Look
  rw [if_neg (by simp; omega)]
theorem rtake_loop {l : List Fg} {n p : Int} (hl : l.length ≤ 256) : loopW (r34_Channel_Take_l1 (l, n) p) ([], 0) = some (if 0 ≤ p then l.eraseIdx p.toNat else l) := by
  have key : ∀ (d k : Nat), k + d = l.length → loopW (r34_Channel_Take_l1 (l, n) p) ((if 0 ≤ p then (l.take k).eraseIdx p.toNat else l.take k), (k : Int)) = some (if 0 ≤ p then l.eraseIdx p.toNat else l) := by
    intro d
    induction d with
    | zero =>
      intro k hk
      obtain rfl : k = l.length := by omega
      rw [loopW_end (by rw [r34_Channel_Take_l1, if_neg (by simp only; omega)]), List.take_length]
    | succ d ih =>
      intro k hk
      have hkl : k < l.length := by omega
      have hlen : (if 0 ≤ p then (l.take k).eraseIdx p.toNat else l.take k).length ≤ 256 := by
        split
        · have := List.length_eraseIdx_le (l.take k) p.toNat
          rw [List.length_take] at this; omega
        · rw [List.length_take]; omega
      rw [loopW_go (s' := ((if 0 ≤ p then (l.take (k + 1)).eraseIdx p.toNat else l.take (k + 1)), ((k + 1 : Nat) : Int))) ?_, ih (k + 1) (by omega)]
      rw [r34_Channel_Take_l1, if_pos (by simp only; omega)]
      by_cases c : (k : Int) ≠ p
      · rw [if_pos c, ix_nat (List.getElem?_eq_getElem hkl), Option.bind_some, app_is (by simp only [List.length_singleton]; omega), Option.bind_some, Option.bind_some, w64_id (by omega), List.take_succ_eq_append_getElem hkl]
        by_cases c2 : 0 ≤ p
        · rw [if_pos c2, if_pos c2]
          by_cases c3 : p.toNat < k
          · rw [List.eraseIdx_append_of_lt_length (by rw [List.length_take]; omega)]; rfl
          · rw [List.eraseIdx_of_length_le (by rw [List.length_take]; omega), List.eraseIdx_of_length_le (by rw [List.length_append, List.length_take, List.length_singleton]; omega)]; rfl
        · rw [if_neg c2, if_neg c2]; rfl
      · have c' : p = (k : Int) := by omega
        subst c'
        rw [if_neg c, Option.bind_some, w64_id (by omega), if_pos (by omega), if_pos (by omega), Int.toNat_natCast, List.take_succ_eq_append_getElem hkl, List.eraseIdx_of_length_le (by rw [List.length_take]; omega)]
        have : (l.take k ++ [l[k]]).eraseIdx k = l.take k := by
          rw [List.eraseIdx_append_of_length_le (by rw [List.length_take]; omega), List.length_take, Nat.min_eq_left (by omega), Nat.sub_self]; simp
        rw [this]; rfl
  have := key l.length 0 (by omega)
  simp only [List.take_zero, List.eraseIdx_nil, ite_self] at this
  exact this
theorem take_in {l : List Fg} {n : Int} {k : Nat} (hl : l.length ≤ 256) (hk : k < l.length) : channel_Channel_Take (l, n) (k : Int) = some (l[k], 0, (l.eraseIdx k, n)) ∧ r34_Channel_Take (l, n) (k : Int) = some (l[k], 0, (l.eraseIdx k, n)) := by
  constructor
  · unfold channel_Channel_Take
    rw [look_in hk, Option.bind_some, if_pos rfl, w64_id (by omega)]
    show ((slices_Delete_channel_Flight_channel_Flight l (k : Int) ((k + 1 : Nat) : Int)).bind _).bind _ = _
    rw [delete_eq l k hk]; rfl
  · unfold r34_Channel_Take
    rw [← look_eq, look_in hk, Option.bind_some, rtake_loop hl, if_pos (by omega), Int.toNat_natCast]; rfl
theorem take_out {l : List Fg} {n k : Int} (hl : l.length ≤ 256) (h : ¬ (0 ≤ k ∧ k < (l.length : Int))) : channel_Channel_Take (l, n) k = some (z0, 7, (l, n)) ∧ r34_Channel_Take (l, n) k = some (z0, 7, (l, n)) := by
  constructor
  · unfold channel_Channel_Take
    rw [look_out h, Option.bind_some, if_neg (by decide)]; rfl
  · unfold r34_Channel_Take
    rw [← look_eq, look_out h, Option.bind_some, rtake_loop hl]
    have : (if 0 ≤ k then l.eraseIdx k.toNat else l) = l := by
      split
      · exact List.eraseIdx_of_length_le (by omega)
      · rfl
    rw [this]; rfl
theorem send_eq {l : List Fg} {n : Int} (f : Fg) (hl : l.length ≤ 256) (hn : 0 ≤ n ∧ n ≤ 1000) : ∃ e l' n', channel_Channel_Send (l, n) f = some (e, (l', n')) ∧ r34_Channel_Send (l, n) f = some (e, (l', n')) ∧ l'.length ≤ 256 ∧ 0 ≤ n' ∧ n' ≤ n + 1 := by
  unfold channel_Channel_Send r34_Channel_Send
  by_cases c : l.length = 256
  · rw [if_pos (by simp only; omega), if_pos (by simp only; omega), w64_id (by omega)]
    exact ⟨6, l, n + 1, rfl, rfl, hl, by omega, by omega⟩
  · rw [if_neg (by simp only; omega), if_neg (by simp only; omega), app_is (by simp; omega)]
    exact ⟨0, l ++ [f], n, rfl, rfl, by simp; omega, by omega, by omega⟩
theorem does_eq {l : List Fg} {n : Int} (d : Int × Int × Fg) (hl : l.length ≤ 256) (hn : 0 ≤ n ∧ n ≤ 1000) : ∃ l' n', L34_does (l, n) (l, n) d = some (true, (l', n'), (l', n')) ∧ l'.length ≤ 256 ∧ 0 ≤ n' ∧ n' ≤ n + 1 := by
  unfold L34_does
  have hb : (if d.1 = 0 then some true else (if d.1 = 1 then some true else some (decide (d.1 = 2)))) = some (decide (d.1 = 0 ∨ d.1 = 1 ∨ d.1 = 2)) := by
    by_cases c1 : d.1 = 0
    · rw [if_pos c1]; simp [c1]
    · rw [if_neg c1]
      by_cases c2 : d.1 = 1
      · rw [if_pos c2]; simp [c2]
      · rw [if_neg c2]; simp [c1, c2]
  rw [hb, Option.bind_some]
  by_cases c : d.1 = 0 ∨ d.1 = 1 ∨ d.1 = 2
  · rw [decide_eq_true c, if_pos rfl]
    obtain ⟨e, l', n', h1, h2, h3, h4⟩ := send_eq d.2.2 hl hn
    have : L34_mine d.2.2 = d.2.2 := rfl
    rw [this, h1, Option.bind_some, h2]
    exact ⟨l', n', by simp, h3, h4⟩
  · rw [decide_eq_false c, if_neg (by decide)]
    by_cases c3 : d.1 = 3
    · rw [if_pos c3]
      by_cases h : 0 ≤ d.2.1 ∧ d.2.1 < (l.length : Int)
      · obtain ⟨k, hk⟩ : ∃ k : Nat, d.2.1 = (k : Int) := ⟨d.2.1.toNat, by omega⟩
        obtain ⟨h1, h2⟩ := take_in (n := n) hl (show k < l.length by omega)
        rw [hk, h1, Option.bind_some, h2]
        refine ⟨_, _, ?_, Nat.le_trans (List.length_eraseIdx_le l k) hl, hn.1, by omega⟩
        simp [L34_mine]
      · obtain ⟨h1, h2⟩ := take_out (n := n) hl h
        rw [h1, Option.bind_some, h2]
        exact ⟨l, n, by simp [L34_mine], hl, hn.1, by omega⟩
    · rw [if_neg c3]
      by_cases c4 : d.1 = 4
      · rw [if_pos c4]
        unfold channel_Channel_Twice r34_Channel_Twice
        rw [← look_eq]
        by_cases h : 0 ≤ d.2.1 ∧ d.2.1 < (l.length : Int)
        · obtain ⟨k, hk⟩ : ∃ k : Nat, d.2.1 = (k : Int) := ⟨d.2.1.toNat, by omega⟩
          have hkl : k < l.length := by omega
          rw [hk, look_in hkl]
          obtain ⟨e, l', n', h1, h2, h3, h4⟩ := send_eq l[k] hl hn
          simp only [Option.bind_some]
          rw [if_neg (by simp), if_neg (by simp), h1, h2]
          exact ⟨l', n', by simp, h3, h4⟩
        · rw [look_out h]
          exact ⟨l, n, by simp, hl, hn.1, by omega⟩
      · rw [if_neg c4]
        by_cases c5 : d.1 = 5
        · rw [if_pos c5, ← look_eq]
          by_cases h : 0 ≤ d.2.1 ∧ d.2.1 < (l.length : Int)
          · obtain ⟨k, hk⟩ : ∃ k : Nat, d.2.1 = (k : Int) := ⟨d.2.1.toNat, by omega⟩
            rw [hk, look_in (show k < l.length by omega)]
            exact ⟨l, n, by simp [L34_mine], hl, hn.1, by omega⟩
          · rw [look_out h]
            exact ⟨l, n, by simp [L34_mine], hl, hn.1, by omega⟩
        · rw [if_neg c5]
          exact ⟨l, n, rfl, hl, hn.1, by omega⟩
theorem awake34 : L34_awake = some true := by
  unfold L34_awake
  have s1 : channel_Channel_Send channel_New (0, false, [97]) = some (0, ([(0, false, [97])], 0)) := rfl
  have s2 : channel_Channel_Send ([(0, false, [97])], 0) (1, false, [98]) = some (0, ([(0, false, [97]), (1, false, [98])], 0)) := rfl
  have s3 : channel_Channel_Send ([(0, false, [97]), (1, false, [98])], 0) (0, false, [99]) = some (0, ([(0, false, [97]), (1, false, [98]), (0, false, [99])], 0)) := rfl
  have t1 : channel_Channel_Take ([(0, false, [97]), (1, false, [98]), (0, false, [99])], 0) 1 = some ((1, false, [98]), 0, ([(0, false, [97]), (0, false, [99])], 0)) := (take_in (l := [(0, false, [97]), (1, false, [98]), (0, false, [99])]) (n := 0) (k := 1) (by decide) (by decide)).1
  have k1 : channel_Channel_Look ([(0, false, [97]), (0, false, [99])], 0) 1 = some ((0, false, [99]), 0) := look_in (l := [(0, false, [97]), (0, false, [99])]) (n := 0) (k := 1) (by decide)
  have l1 : channel_Channel_Len ([(0, false, [97]), (0, false, [99])], 0) = some 2 := len_eq (by decide)
  have o1 : channel_Channel_Of ([(0, false, [97]), (0, false, [99])], 0) 0 = some 2 := of_eq (by decide)
  have n1 : channel_Channel_Next ([(0, false, [97]), (0, false, [99])], 0) 1 false = some (-1) := next_eq (by decide)
  rw [s1, Option.bind_some, s2, Option.bind_some, s3, Option.bind_some, t1, Option.bind_some, k1, Option.bind_some]
  simp only [if_true, if_pos, Option.bind_some, l1, o1, n1]
  rfl
theorem plays_loop (p0 : List (Int × Int × Fg)) (s : Int) (u : Bool) : ∀ (d k : Nat), k + d = min p0.length 300 → ∀ (l : List Fg) (n : Int), l.length ≤ 256 → 0 ≤ n → n ≤ k → loopW (L34_ChannelPlays_l1 p0 s u) ((k : Int), l, n, l, n) = some (.inr true) ∨ ∃ l' n', loopW (L34_ChannelPlays_l1 p0 s u) ((k : Int), l, n, l, n) = some (.inl (l', n', l', n')) ∧ l'.length ≤ 256 := by
  intro d
  induction d with
  | zero =>
    intro k hk l n h1 h2 h3
    exact .inr ⟨l, n, loopW_end (by rw [L34_ChannelPlays_l1, if_neg (by simp; omega)]), h1⟩
  | succ d ih =>
    intro k hk l n h1 h2 h3
    have hkl : k < p0.length := by omega
    by_cases c : 200 < (p0[k].2.2.2.2.length : Int)
    · left
      exact loopW_end (by rw [L34_ChannelPlays_l1, if_pos (by simp; omega), ix_nat (List.getElem?_eq_getElem hkl), Option.bind_some, if_pos c, awake34]; rfl)
    · obtain ⟨l', n', g1, g2, g3, g4⟩ := does_eq p0[k] h1 (show 0 ≤ n ∧ n ≤ 1000 by omega)
      have hst : L34_ChannelPlays_l1 p0 s u ((k : Int), l, n, l, n) = some (.inl (((k + 1 : Nat) : Int), l', n', l', n')) := by
        rw [L34_ChannelPlays_l1, if_pos (by simp; omega), ix_nat (List.getElem?_eq_getElem hkl), Option.bind_some, if_neg c, Option.bind_some, g1, Option.bind_some, if_neg (show ¬ (!true) = true by decide), len_eq g2, Option.bind_some]
        simp only
        rw [if_neg (by simp), if_neg (by simp [channel_Channel_Lost]), of_eq g2, Option.bind_some, rof_eq g2, Option.bind_some, if_neg (by simp), next_eq g2, Option.bind_some, rnext_eq g2, Option.bind_some, Option.bind_some, if_neg (by simp), w64_id (by omega)]; rfl
      rw [loopW_go hst]
      exact ih (k + 1) (by omega) l' n' g2 g3 (by omega)
theorem ChannelPlays_core (p0 : List (Int × Int × Fg)) (s : Int) (u : Bool) : L34_ChannelPlays p0 s u = some true := by
  unfold L34_ChannelPlays
  have h := plays_loop p0 s u (min p0.length 300) 0 (by omega) [] 0 (by decide) (by decide) (by decide)
  have e0 : (((0 : Nat) : Int), ([] : List Fg), (0 : Int), ([] : List Fg), (0 : Int)) = (0, [], 0, channel_New.1, channel_New.2) := rfl
  rw [e0] at h
  rcases h with h | ⟨l', n', h, hl⟩
  · rw [h]; rfl
  · rw [h]
    show orR (loopW (L34_ChannelPlays_l2 l' l' n') 0) _ = _
    have key : ∀ (d k : Nat), k + d = l'.length → loopW (L34_ChannelPlays_l2 l' l' n') (k : Int) = some (.inl ()) := by
      intro d
      induction d with
      | zero =>
        intro k hk
        exact loopW_end (by rw [L34_ChannelPlays_l2, if_neg (by omega)])
      | succ d ih =>
        intro k hk
        have hkl : k < l'.length := by omega
        rw [loopW_go (s' := ((k + 1 : Nat) : Int)) ?_]
        · exact ih (k + 1) (by omega)
        · rw [L34_ChannelPlays_l2, if_pos (by omega), look_in hkl, Option.bind_some, ix_nat (List.getElem?_eq_getElem hkl)]
          simp only [Option.bind_some]
          rw [if_neg (by simp), Option.bind_some, if_neg (by simp [L34_mine]), w64_id (by omega)]; rfl
    rw [show loopW (L34_ChannelPlays_l2 l' l' n') 0 = some (.inl ()) from key l'.length 0 (by omega)]
    show (L34_awake).bind _ = _
    rw [awake34]; rfl
theorem ChannelPlays_true (p0 : List (Int × Int × Fg)) {A : Prop} (_ : A) (p1 : Int) {B : Prop} (_ : B) (p2 : Bool) {C : Prop} (_ : C) : L34_ChannelPlays p0 p1 p2 = some true := ChannelPlays_core p0 p1 p2
end Go.Proofs.Ytglegnicihnlmaa
