/- Layer 9: octets. Conditions: none. -/
import Derived.Test.YtefiglmpdajonaaDoorLP
import Derived.Test.YtefiglmpdajonaaDoorA4
namespace Go.Proofs.YtefiglmpdajonaaDoor
set_option linter.unusedVariables false
set_option linter.unusedSimpArgs false
open Go Go.RowKit
theorem shr8 (n : Int) (j : Nat) (hj : j ≤ 7) : shrI .i64 n (8 * (j : Int)) = n / 256 ^ j := by
  have : j = 0 ∨ j = 1 ∨ j = 2 ∨ j = 3 ∨ j = 4 ∨ j = 5 ∨ j = 6 ∨ j = 7 := by omega
  rcases this with rfl | rfl | rfl | rfl | rfl | rfl | rfl | rfl <;> simp [shrI, IntKind.bits, Int.fdiv_eq_ediv_of_nonneg]
theorem fill_set {α : Type} (l : List α) (m : Nat) (z v : α) : (l ++ List.replicate (m + 1) z).set l.length v = (l ++ [v]) ++ List.replicate m z := by
  rw [List.set_append_right _ _ (Nat.le_refl _)]
  simp [List.replicate_succ]
theorem range_snoc {α : Type} (f : Nat → α) (k : Nat) : (List.range (k + 1)).map f = (List.range k).map f ++ [f k] := by simp [List.range_succ]
def byteI (n : Int) (w i : Nat) : Int := n / 256 ^ (w - 1 - i) % 256
theorem be_str (n : Int) (w : Nat) : strOf ((List.range w).map (byteI n w)) = be w n := by
  refine List.ext_getElem? fun i => ?_
  by_cases hi : i < w
  · rw [be_get w n i hi]
    simp [strOf, hi, byteI]
  · rw [List.getElem?_eq_none (by simp [strOf]; omega), List.getElem?_eq_none (by rw [be_len]; omega)]
theorem bigEndian_eq (n : Int) (w : Nat) (hw : w ≤ 8) : octet_bigEndian n w = some (be w n) := by
  unfold octet_bigEndian
  rw [mk_is (by omega)]
  simp only [Option.bind_some, Int.toNat_natCast]
  have hl : loopW (octet_bigEndian_l1 n w) (List.replicate w 0, 0) = some ((List.range w).map (byteI n w)) := by
    refine loopW_is (fun s => ∃ k, k ≤ w ∧ s = ((List.range k).map (byteI n w) ++ List.replicate (w - k) 0, (k : Int))) (fun s => w - s.2.toNat) _ ?_ _ ⟨0, by omega, by simp⟩
    rintro s ⟨k, hk, rfl⟩
    by_cases hkw : k < w
    · left
      have e1 : w64 (w64 ((w : Int) - 1) - (k : Int)) = ((w - 1 - k : Nat) : Int) := by
        rw [w64_id (x := (w : Int) - 1) (by omega), w64_id (by omega)]; omega
      have e2 : w64 (8 * ((w - 1 - k : Nat) : Int)) = 8 * ((w - 1 - k : Nat) : Int) := w64_id (by omega)
      have hlen : ((List.range k).map (byteI n w)).length = k := by simp
      have hix : ix ((List.range k).map (byteI n w) ++ List.replicate (w - k) 0) (k : Int) = some 0 := by
        refine ix_nat ?_
        rw [List.getElem?_append_right (by omega), hlen, Nat.sub_self]
        have : 0 < w - k := by omega
        simp [this]
      refine ⟨((List.range (k + 1)).map (byteI n w) ++ List.replicate (w - (k + 1)) 0, ((k + 1 : Nat) : Int)), ?_, ⟨k + 1, by omega, rfl⟩, by simp; omega⟩
      rw [octet_bigEndian_l1]
      rw [if_pos (by omega), e1, e2, shN_is (by omega), Option.bind_some, hix, Option.bind_some, shr8 _ _ (by omega), wu8, w64_id (by omega)]
      have hs := fill_set ((List.range k).map (byteI n w)) (w - (k + 1)) 0 (byteI n w k)
      rw [hlen, show w - (k + 1) + 1 = w - k by omega] at hs
      rw [range_snoc, ← hs]
      rfl
    · right
      have : k = w := by omega
      subst this
      rw [octet_bigEndian_l1, if_neg (by omega)]
      simp
  rw [hl, Option.bind_some, be_str]

/-- A number in so many bytes, or none. -/
def numS (n w : Int) : List UInt8 := if 1 ≤ w ∧ w ≤ 7 ∧ 0 ≤ n ∧ n < 256 ^ w.toNat then be w.toNat n else []
theorem num_eq (n w : Int) : octet_Num n w = some (numS n w) := by
  unfold octet_Num numS
  by_cases h1 : w < 1
  · rw [if_pos h1, if_neg (by omega)]; rfl
  · rw [if_neg h1]
    by_cases h2 : 7 < w
    · rw [if_pos h2, if_neg (by omega)]; rfl
    · rw [if_neg h2]
      by_cases h3 : n < 0
      · rw [if_pos h3, if_neg (by omega)]; rfl
      · obtain ⟨k, rfl⟩ : ∃ k : Nat, w = k := ⟨w.toNat, by omega⟩
        rw [if_neg h3, w64_id (by omega), shN_is (by omega), Option.bind_some, shr8 _ _ (by omega), Option.bind_some, Int.toNat_natCast]
        by_cases h4 : n / 256 ^ k = 0
        · have hp := pow_pos256 k
          have h5 : n < 256 ^ k := by
            rcases Int.lt_or_le n (256 ^ k) with h | h
            · exact h
            · have := Int.le_ediv_of_mul_le hp (show 1 * 256 ^ k ≤ n by omega); omega
          have hd : decide (n / 256 ^ k ≠ 0) = false := by simp [h4]
          rw [hd]
          simp only [Bool.false_eq_true, if_false]
          rw [bigEndian_eq n k (by omega), Option.bind_some, if_pos ⟨by omega, by omega, by omega, h5⟩]
        · have h5 : ¬ n < 256 ^ k := fun h => h4 (Int.ediv_eq_zero_of_lt (by omega) h)
          have hd : decide (n / 256 ^ k ≠ 0) = true := by simp [h4]
          rw [hd]
          simp only [if_true]
          rw [if_neg (fun h => h5 h.2.2.2)]
theorem rnum_eq (n w : Int) (hn : n ≤ 9223372036854775807) : r04_Num n w = some (numS n w) := by
  unfold r04_Num numS
  by_cases h1 : 1 ≤ w ∧ w ≤ 7 ∧ 0 ≤ n
  · obtain ⟨k, rfl⟩ : ∃ k : Nat, w = k := ⟨w.toNat, by omega⟩
    rw [if_neg (by simp; omega), Int.toNat_natCast]
    have hl : loopW (r04_Num_l1 k) (n, ([] : List UInt8), 0) = some (n / 256 ^ k, be k n) := by
      refine loopW_is (fun s => ∃ j : Nat, j ≤ k ∧ s = (n / 256 ^ j, be j n, (j : Int))) (fun s => k - s.2.2.toNat) _ ?_ _ ⟨0, by omega, by simp [be]⟩
      rintro s ⟨j, hj, rfl⟩
      by_cases hjk : j < k
      · left
        have hp := pow_pos256 j
        have h0 : 0 ≤ n / 256 ^ j := Int.ediv_nonneg (by omega) (by omega)
        have hle : n / 256 ^ j ≤ n := Int.ediv_le_self _ (by omega)
        refine ⟨(n / 256 ^ (j + 1), be (j + 1) n, ((j + 1 : Nat) : Int)), ?_, ⟨j + 1, by omega, rfl⟩, by simp; omega⟩
        rw [r04_Num_l1, if_pos (by omega), app_is (by rw [be_len]; simp [strOf]; omega), Option.bind_some, w64_id (x := (j : Int) + 1) (by omega)]
        have e1 : Int.tdiv (n / 256 ^ j) 256 = n / 256 ^ (j + 1) := by
          rw [Int.tdiv_eq_ediv_of_nonneg h0, Int.ediv_ediv_of_nonneg (by omega), Int.pow_succ]
        have e2 : Int.tmod (n / 256 ^ j) 256 = n / 256 ^ j % 256 := Int.tmod_eq_emod_of_nonneg h0
        have h1' : 0 ≤ n / 256 ^ (j + 1) := Int.ediv_nonneg (by omega) (by have := pow_pos256 (j + 1); omega)
        have h2' : n / 256 ^ (j + 1) ≤ n := Int.ediv_le_self _ (by omega)
        rw [e1, e2, w64_id (by omega), wu8, Int.emod_emod_of_dvd _ (by decide), be_head]
        rfl
      · right
        have : j = k := by omega
        subst this
        rw [r04_Num_l1, if_neg (by omega)]
    rw [hl, Option.bind_some]
    have hp := pow_pos256 k
    by_cases h4 : n / 256 ^ k = 0
    · have h5 : n < 256 ^ k := by
        rcases Int.lt_or_le n (256 ^ k) with h | h
        · exact h
        · have := Int.le_ediv_of_mul_le hp (show 1 * 256 ^ k ≤ n by omega); omega
      show (if n / 256 ^ k ≠ 0 then some ([] : List UInt8) else some (be k n)) = _
      rw [if_neg (by simp [h4]), if_pos ⟨by omega, by omega, by omega, h5⟩]
    · have h5 : ¬ n < 256 ^ k := fun h => h4 (Int.ediv_eq_zero_of_lt (by omega) h)
      show (if n / 256 ^ k ≠ 0 then some ([] : List UInt8) else some (be k n)) = _
      rw [if_pos h4, if_neg (fun h => h5 h.2.2.2)]
  · rw [if_pos (by simp; omega), if_neg (by omega)]
def takeR (p : List UInt8 × Int) (n : Int) : List UInt8 × (List UInt8 × Int) :=
  if p.2 ≠ 0 then ([], p) else if n < 0 then ([], (p.1, 2)) else if (p.1.length : Int) < n then ([], (p.1, 3)) else (p.1.take n.toNat, (p.1.drop n.toNat, 0))
theorem take_eq (p : List UInt8 × Int) (n : Int) : octet_Reader_Take p n = some (takeR p n) := by
  obtain ⟨s, e⟩ := p
  unfold octet_Reader_Take takeR octet_Reader_Left octet_Reader_Wrong octet_Reader_Ok
  by_cases he : e = 0
  · subst he
    by_cases h1 : n < 0
    · simp [h1]
    · by_cases h2 : (s.length : Int) < n
      · simp [h1, h2]
      · simp [h1, h2]
        rw [subl_is (by omega), Option.bind_some, subl_is (by omega), Option.bind_some]
        simp
  · simp [he]
theorem read_eq (p : List UInt8 × Int) (n : Int) (hl : p.1.length ≤ 1000000) : octet_Reader_read p n = some (w64 (val (takeR p n).1), (takeR p n).2) := by
  unfold octet_Reader_read
  rw [take_eq, Option.bind_some]
  have hlen : (takeR p n).1.length ≤ 1000000 := by
    unfold takeR
    split
    · simp
    · split
      · simp
      · split
        · simp
        · simp; omega
  have h := loop_fold (takeR p n).1 (fun x (c : UInt8) => w64 (x * 256 + (c.toNat : Int))) (octet_Reader_read_l1 (takeR p n)) (by omega) (fun x i => by
    rw [octet_Reader_read_l1]
    split
    · congr 1
      funext c
      have hc := c.toNat_lt
      rw [w64_id (x := (c.toNat : Int)) (by omega), or_step x c.toNat (by omega)]
    · rfl) 0
  rw [h, fold_w64]
  rfl
/-- What Num does to a reader whose width is not one. -/
def preN (p : List UInt8 × Int) (w : Int) : List UInt8 × Int := if (w < 1 ∨ 7 < w) ∧ p.2 = 0 then (p.1, 2) else p
theorem rnumR_eq (p : List UInt8 × Int) (w : Int) (hl : p.1.length ≤ 1000000) : octet_Reader_Num p w = some (w64 (val (takeR (preN p w) w).1), (takeR (preN p w) w).2) := by
  obtain ⟨s, e⟩ := p
  have key : (if (decide (w < 1) || decide (7 < w)) = true then some ((octet_Reader_Wrong (s, e) 2).1, (octet_Reader_Wrong (s, e) 2).2) else some ((s, e).1, (s, e).2)) = some (preN (s, e) w) := by
    unfold preN octet_Reader_Wrong octet_Reader_Ok
    by_cases h1 : w < 1 ∨ 7 < w
    · by_cases he : e = 0
      · simp [h1, he]
      · simp [h1, he]
    · simp [h1]
  unfold octet_Reader_Num
  rw [key, Option.bind_some]
  have h2 : (preN (s, e) w).1 = s := by unfold preN; split <;> rfl
  show (octet_Reader_read (preN (s, e) w) w).bind _ = _
  rw [read_eq _ _ (by rw [h2]; exact hl)]
  rfl
theorem endR_eq (p : List UInt8 × Int) : octet_Reader_End p = some (if p.2 = 0 ∧ p.1 ≠ [] then 5 else p.2, (p.1, if p.2 = 0 ∧ p.1 ≠ [] then 5 else p.2)) := by
  obtain ⟨s, e⟩ := p
  unfold octet_Reader_End octet_Reader_Left octet_Reader_Wrong octet_Reader_Ok
  by_cases he : e = 0
  · subst he
    cases s <;> simp
  · simp [he]

theorem takeR_app (a b : List UInt8) (n : Int) (h : n = a.length) : takeR (a ++ b, 0) n = (a, (b, 0)) := by
  subst h
  unfold takeR
  rw [if_neg (by simp), if_neg (by omega), if_neg (by simp; omega)]
  simp
theorem preN_ok {p : List UInt8 × Int} {w : Int} (h : 1 ≤ w ∧ w ≤ 7) : preN p w = p := by
  unfold preN; rw [if_neg (by omega)]
theorem val_one (b : UInt8) : val [b] = (b.toNat : Int) := by simp [val]
theorem takeR_ok {p : List UInt8 × Int} {n : Int} (h : (takeR p n).2.2 = 0) : p.2 = 0 ∧ 0 ≤ n ∧ n ≤ p.1.length ∧ takeR p n = (p.1.take n.toNat, (p.1.drop n.toNat, 0)) := by
  unfold takeR at *
  by_cases h1 : p.2 ≠ 0
  · rw [if_pos h1] at h; exact absurd h h1
  · rw [if_neg h1] at h ⊢
    by_cases h2 : n < 0
    · rw [if_pos h2] at h; cases h
    · rw [if_neg h2] at h ⊢
      by_cases h3 : (p.1.length : Int) < n
      · rw [if_pos h3] at h; cases h
      · rw [if_neg h3]
        exact ⟨by omega, by omega, by omega, rfl⟩
theorem val_lt7 {l : List UInt8} (h : l.length ≤ 7) : 0 ≤ val l ∧ val l < 72057594037927936 := by
  have h1 := val_bd l
  have h2 : (256 : Int) ^ l.length ≤ 256 ^ 7 := by
    have : l.length = 0 ∨ l.length = 1 ∨ l.length = 2 ∨ l.length = 3 ∨ l.length = 4 ∨ l.length = 5 ∨ l.length = 6 ∨ l.length = 7 := by omega
    rcases this with h | h | h | h | h | h | h | h <;> rw [h] <;> decide
  have h3 : (256 : Int) ^ 7 = 72057594037927936 := by decide
  omega
theorem orR_inl {α β : Type} (t : α) (k : α → Option β) : orR (some (Sum.inl t)) k = k t := rfl
theorem takeR_len (p : List UInt8 × Int) (n : Int) : (takeR p n).2.1.length ≤ p.1.length := by
  unfold takeR
  split
  · simp
  · split
    · simp
    · split <;> simp
structure Rel (p : List UInt8 × Int) (q : List UInt8 × Int × Int) : Prop where
  lo : 0 ≤ q.2.1
  hi : q.2.1 ≤ q.1.length
  rest : p = (q.1.drop q.2.1.toNat, q.2.2)
  len : q.1.length ≤ 500
theorem Rel.plen {p q} (h : Rel p q) : p.1.length ≤ 500 := by
  rw [h.rest]; simp; have := h.len; omega
theorem rel_left {p q} (h : Rel p q) : r04_Reader_Left q = octet_Reader_Left p := by
  obtain ⟨S, at_, bad⟩ := q
  obtain ⟨h1, h2, rfl, h4⟩ := h
  simp only at *
  unfold r04_Reader_Left octet_Reader_Left octet_Reader_Ok
  by_cases hb : bad = 0
  · subst hb
    simp only [ne_eq, not_true_eq_false, if_false, decide_true, Bool.not_true, Bool.false_eq_true]
    rw [w64_id (by omega)]; simp; omega
  · simp [hb]
theorem rel_wrong {p q} (h : Rel p q) (e : Int) : Rel (octet_Reader_Wrong p e) (r04_Reader_Wrong q e) := by
  obtain ⟨S, at_, bad⟩ := q
  obtain ⟨h1, h2, rfl, h4⟩ := h
  simp only at *
  unfold r04_Reader_Wrong octet_Reader_Wrong octet_Reader_Ok
  by_cases hb : bad = 0
  · subst hb; exact ⟨h1, h2, rfl, h4⟩
  · simp only [hb, decide_false, Bool.false_eq_true, if_false]; exact ⟨h1, h2, rfl, h4⟩
theorem rel_take {p q} (h : Rel p q) (n : Int) : ∃ q', r04_Reader_Take q n = some ((takeR p n).1, q') ∧ Rel (takeR p n).2 q' := by
  have hl := rel_left h
  obtain ⟨S, at_, bad⟩ := q
  obtain ⟨h1, h2, rfl, h4⟩ := h
  simp only at *
  unfold r04_Reader_Take takeR
  by_cases hb : bad = 0
  · subst hb
    simp only [ne_eq, not_true_eq_false, if_false]
    by_cases n0 : n < 0
    · have e1 : r04_Reader_Wrong (S, at_, 0) 2 = (S, at_, 2) := rfl
      have e2 : ¬ r04_Reader_Left (S, at_, 2) < n ∨ True := .inr trivial
      simp only [n0, if_true, e1, Option.bind_some]
      by_cases n1 : r04_Reader_Left (S, at_, 2) < n
      · have e3 : r04_Reader_Wrong (S, at_, 2) 3 = (S, at_, 2) := rfl
        simp only [n1, if_true, e3, Option.bind_some]
        exact ⟨(S, at_, 2), rfl, h1, h2, rfl, h4⟩
      · simp only [n1, if_false, Option.bind_some]
        exact ⟨(S, at_, 2), rfl, h1, h2, rfl, h4⟩
    · have hlen : octet_Reader_Left (S.drop at_.toNat, 0) = ((S.drop at_.toNat).length : Int) := rfl
      rw [hlen] at hl
      simp only [n0, if_false, Option.bind_some]
      rw [hl]
      by_cases n1 : ((S.drop at_.toNat).length : Int) < n
      · have e3 : r04_Reader_Wrong (S, at_, 0) 3 = (S, at_, 3) := rfl
        simp only [n1, if_true, e3, Option.bind_some]
        exact ⟨(S, at_, 3), rfl, h1, h2, rfl, h4⟩
      · have hdl : ((S.drop at_.toNat).length : Int) = S.length - at_ := by simp; omega
        have e4 : w64 (at_ + n) = at_ + n := w64_id (by omega)
        have e5 : w64 (at_ + n - n) = at_ := by rw [w64_id (by omega)]; omega
        simp only [n1, if_false, Option.bind_some, not_true_eq_false, e4, e5]
        rw [subl_is (by omega), Option.bind_some]
        refine ⟨(S, at_ + n, 0), ?_, by show 0 ≤ at_ + n; omega, by show at_ + n ≤ S.length; omega, ?_, h4⟩
        · rw [List.drop_take]
          congr 3
          omega
        · show ((S.drop at_.toNat).drop n.toNat, (0 : Int)) = (S.drop (at_ + n).toNat, 0)
          rw [List.drop_drop]
          congr 2
          omega
  · have e0 : ∀ e, r04_Reader_Wrong (S, at_, bad) e = (S, at_, bad) := fun e => by unfold r04_Reader_Wrong; simp [hb]
    have e1 : (if n < 0 then some ((r04_Reader_Wrong (S, at_, bad) 2).1, (r04_Reader_Wrong (S, at_, bad) 2).2.1, (r04_Reader_Wrong (S, at_, bad) 2).2.2) else some ((S, at_, bad).1, (S, at_, bad).2.1, (S, at_, bad).2.2)) = some (S, at_, bad) := by
      rw [e0]; split <;> rfl
    have e2 : (if r04_Reader_Left (S, at_, bad) < n then some ((r04_Reader_Wrong (S, at_, bad) 3).1, (r04_Reader_Wrong (S, at_, bad) 3).2.1, (r04_Reader_Wrong (S, at_, bad) 3).2.2) else some (S, at_, bad)) = some (S, at_, bad) := by
      rw [e0]; split <;> rfl
    rw [e1, Option.bind_some]
    simp only [e2, Option.bind_some, hb, ne_eq, not_false_eq_true, if_true]
    exact ⟨(S, at_, bad), rfl, h1, h2, rfl, h4⟩
theorem takeR_bad {p : List UInt8 × Int} (h : p.2 ≠ 0) (n : Int) : takeR p n = ([], p) := by unfold takeR; rw [if_pos h]
theorem rel_num {p q} (h : Rel p q) (w : Int) : ∃ q', r04_Reader_Num q w = some (w64 (val (takeR (preN p w) w).1), q') ∧ Rel (takeR (preN p w) w).2 q' := by
  obtain ⟨q1, hq1, hr1⟩ : ∃ q1, (if (decide (w < 1) || decide (7 < w)) = true then some ((r04_Reader_Wrong q 2).1, (r04_Reader_Wrong q 2).2.1, (r04_Reader_Wrong q 2).2.2) else some (q.1, q.2.1, q.2.2)) = some q1 ∧ Rel (preN p w) q1 := by
    by_cases hw : w < 1 ∨ 7 < w
    · refine ⟨r04_Reader_Wrong q 2, by simp [hw], ?_⟩
      have := rel_wrong h 2
      have e : preN p w = octet_Reader_Wrong p 2 := by
        unfold preN octet_Reader_Wrong octet_Reader_Ok
        by_cases hb : p.2 = 0 <;> simp [hw, hb]
      rw [e]; exact this
    · refine ⟨q, by simp [hw], ?_⟩
      have e : preN p w = p := by unfold preN; rw [if_neg (fun h => hw h.1)]
      rw [e]; exact h
  obtain ⟨S, at_, bad⟩ := q1
  unfold r04_Reader_Num
  rw [hq1, Option.bind_some]
  obtain ⟨q2, hq2, hr2⟩ : ∃ q2 : List UInt8 × Int × Int, (if bad = 0 then (r04_Reader_Take (S, at_, bad) w).bind fun x8 => some (x8.1, x8.2.1, x8.2.2.1, x8.2.2.2) else some (([] : List UInt8), S, at_, bad)) = some ((takeR (preN p w) w).1, q2.1, q2.2.1, q2.2.2) ∧ Rel (takeR (preN p w) w).2 q2 := by
    by_cases hb : bad = 0
    · obtain ⟨q2, k1, k2⟩ := rel_take hr1 w
      exact ⟨q2, by rw [if_pos hb, k1]; rfl, k2⟩
    · have hp : (preN p w).2 ≠ 0 := by rw [hr1.rest]; exact hb
      refine ⟨(S, at_, bad), by rw [if_neg hb, takeR_bad hp], ?_⟩
      rw [takeR_bad hp]; exact hr1
  simp only [hq2, Option.bind_some]
  have hl : (takeR (preN p w) w).1.length ≤ 1000000 := by
    have h3 := hr1.plen
    unfold takeR
    split
    · simp
    · split
      · simp
      · split
        · simp
        · simp; omega
  have h := loop_fold (takeR (preN p w) w).1 (fun x (c : UInt8) => w64 (x * 256 + (c.toNat : Int))) (r04_Reader_Num_l1 (takeR (preN p w) w).1) (by omega) (fun x i => by
    rw [r04_Reader_Num_l1]
    split
    · congr 1
      funext c
      have hc := c.toNat_lt
      rw [w64_step x c.toNat (by omega)]
    · rfl) 0
  rw [h, fold_w64, Option.bind_some]
  exact ⟨q2, rfl, hr2⟩
theorem rel_end {p q} (h : Rel p q) : ∃ q', r04_Reader_End q = some (if p.2 = 0 ∧ p.1 ≠ [] then 5 else p.2, q') ∧ Rel (p.1, if p.2 = 0 ∧ p.1 ≠ [] then 5 else p.2) q' := by
  have hl := rel_left h
  obtain ⟨S, at_, bad⟩ := q
  obtain ⟨h1, h2, rfl, h4⟩ := h
  simp only at *
  unfold r04_Reader_End
  rw [hl]
  unfold octet_Reader_Left octet_Reader_Ok
  by_cases hb : bad = 0
  · subst hb
    by_cases hne : S.drop at_.toNat = []
    · simp only [decide_true, Bool.not_true, Bool.false_eq_true, if_false, hne, List.length_nil, ne_eq, not_true_eq_false, and_false]
      rw [if_neg (by decide), Option.bind_some]
      exact ⟨_, rfl, h1, h2, by simp [hne], h4⟩
    · have : 0 < ((S.drop at_.toNat).length : Int) := by
        have := List.length_pos_iff.2 hne; omega
      simp only [decide_true, Bool.not_true, Bool.false_eq_true, if_false, this, if_true, Option.bind_some, ne_eq, hne, not_false_eq_true, and_self]
      exact ⟨_, rfl, h1, h2, rfl, h4⟩
  · simp only [hb, decide_false, Bool.not_false, if_true, false_and, if_false]
    rw [if_neg (by decide), Option.bind_some]
    exact ⟨_, rfl, h1, h2, rfl, h4⟩
theorem rel_ok {p q} (h : Rel p q) : octet_Reader_Ok p = decide (q.2.2 = 0) := by
  rw [h.rest]; rfl
end Go.Proofs.YtefiglmpdajonaaDoor
