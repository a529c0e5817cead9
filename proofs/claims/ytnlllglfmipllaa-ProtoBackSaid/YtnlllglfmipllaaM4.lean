/- Layer 16: octets. Conditions: none. -/
import Derived.Test.YtnlllglfmipllaaLP
import Derived.Test.YtnlllglfmipllaaA7
namespace Go.Proofs.Ytnlllglfmipllaa
set_option linter.unusedVariables false
set_option linter.unusedSimpArgs false
open Go Go.RowKit
theorem shr8 (n : Int) (j : Nat) (hj : j ≤ 7) : shrI .i64 n (8 * (j : Int)) = n / 256 ^ j := by
  have : j = 0 ∨ j = 1 ∨ j = 2 ∨ j = 3 ∨ j = 4 ∨ j = 5 ∨ j = 6 ∨ j = 7 := by omega
  rcases this with rfl | rfl | rfl | rfl | rfl | rfl | rfl | rfl <;> simp [shrI, IntKind.bits, Int.fdiv_eq_ediv_of_nonneg]
theorem fill_set {α : Type} (l : List α) (m : Nat) (z v : α) : (l ++ List.replicate (m + 1) z).set l.length v = (l ++ [v]) ++ List.replicate m z := by
  rw [List.set_append_right _ _ (Nat.le_refl _)]
  simp [List.replicate_succ]
theorem range_snoc {α : Type} (f : Nat → α) (k : Nat) : (List.range (k + 1)).map f = (List.range k).map f ++ [f k] := by simp [List.range_succ]
def byteI (n : Int) (w i : Nat) : Int := n / 256 ^ (w - 1 - i) % 256
theorem be_str (n : Int) (w : Nat) : strOf ((List.range w).map (byteI n w)) = be w n := by
  refine List.ext_getElem? fun i => ?_
  by_cases hi : i < w
  · rw [be_get w n i hi]
    simp [strOf, hi, byteI]
  · rw [List.getElem?_eq_none (by simp [strOf]; omega), List.getElem?_eq_none (by rw [be_len]; omega)]
theorem bigEndian_eq (n : Int) (w : Nat) (hw : w ≤ 8) : octet_bigEndian n w = some (be w n) := by
  unfold octet_bigEndian
  rw [mk_is (by omega)]
  simp only [Option.bind_some, Int.toNat_natCast]
  have hl : loopW (octet_bigEndian_l1 n w) (List.replicate w 0, 0) = some ((List.range w).map (byteI n w)) := by
    refine loopW_is (fun s => ∃ k, k ≤ w ∧ s = ((List.range k).map (byteI n w) ++ List.replicate (w - k) 0, (k : Int))) (fun s => w - s.2.toNat) _ ?_ _ ⟨0, by omega, by simp⟩
    rintro s ⟨k, hk, rfl⟩
    by_cases hkw : k < w
    · left
      have e1 : w64 (w64 ((w : Int) - 1) - (k : Int)) = ((w - 1 - k : Nat) : Int) := by
        rw [w64_id (x := (w : Int) - 1) (by omega), w64_id (by omega)]; omega
      have e2 : w64 (8 * ((w - 1 - k : Nat) : Int)) = 8 * ((w - 1 - k : Nat) : Int) := w64_id (by omega)
      have hlen : ((List.range k).map (byteI n w)).length = k := by simp
      have hix : ix ((List.range k).map (byteI n w) ++ List.replicate (w - k) 0) (k : Int) = some 0 := by
        refine ix_nat ?_
        rw [List.getElem?_append_right (by omega), hlen, Nat.sub_self]
        have : 0 < w - k := by omega
        simp [this]
      refine ⟨((List.range (k + 1)).map (byteI n w) ++ List.replicate (w - (k + 1)) 0, ((k + 1 : Nat) : Int)), ?_, ⟨k + 1, by omega, rfl⟩, by simp; omega⟩
      rw [octet_bigEndian_l1]
      rw [if_pos (by omega), e1, e2, shN_is (by omega), Option.bind_some, hix, Option.bind_some, shr8 _ _ (by omega), wu8, w64_id (by omega)]
      have hs := fill_set ((List.range k).map (byteI n w)) (w - (k + 1)) 0 (byteI n w k)
      rw [hlen, show w - (k + 1) + 1 = w - k by omega] at hs
      rw [range_snoc, ← hs]
      rfl
    · right
      have : k = w := by omega
      subst this
      rw [octet_bigEndian_l1, if_neg (by omega)]
      simp
  rw [hl, Option.bind_some, be_str]

def numS (n w : Int) : List UInt8 := if 1 ≤ w ∧ w ≤ 7 ∧ 0 ≤ n ∧ n < 256 ^ w.toNat then be w.toNat n else []
theorem num_eq (n w : Int) : octet_Num n w = some (numS n w) := by
  unfold octet_Num numS
  by_cases h1 : w < 1
  · rw [if_pos h1, if_neg (by omega)]; rfl
  · rw [if_neg h1]
    by_cases h2 : 7 < w
    · rw [if_pos h2, if_neg (by omega)]; rfl
    · rw [if_neg h2]
      by_cases h3 : n < 0
      · rw [if_pos h3, if_neg (by omega)]; rfl
      · obtain ⟨k, rfl⟩ : ∃ k : Nat, w = k := ⟨w.toNat, by omega⟩
        rw [if_neg h3, w64_id (by omega), shN_is (by omega), Option.bind_some, shr8 _ _ (by omega), Option.bind_some, Int.toNat_natCast]
        by_cases h4 : n / 256 ^ k = 0
        · have hp := pow_pos256 k
          have h5 : n < 256 ^ k := by
            rcases Int.lt_or_le n (256 ^ k) with h | h
            · exact h
            · have := Int.le_ediv_of_mul_le hp (show 1 * 256 ^ k ≤ n by omega); omega
          have hd : decide (n / 256 ^ k ≠ 0) = false := by simp [h4]
          rw [hd]
          simp only [Bool.false_eq_true, if_false]
          rw [bigEndian_eq n k (by omega), Option.bind_some, if_pos ⟨by omega, by omega, by omega, h5⟩]
        · have h5 : ¬ n < 256 ^ k := fun h => h4 (Int.ediv_eq_zero_of_lt (by omega) h)
          have hd : decide (n / 256 ^ k ≠ 0) = true := by simp [h4]
          rw [hd]
          simp only [if_true]
          rw [if_neg (fun h => h5 h.2.2.2)]
theorem int_eq (n : Int) : octet_Int n = some (be 8 n) := by
  unfold octet_Int
  rw [show (8 : Int) = ((8 : Nat) : Int) from rfl, bigEndian_eq n 8 (by omega)]
  rfl
def takeR (p : List UInt8 × Int) (n : Int) : List UInt8 × (List UInt8 × Int) :=
  if p.2 ≠ 0 then ([], p) else if n < 0 then ([], (p.1, 2)) else if (p.1.length : Int) < n then ([], (p.1, 3)) else (p.1.take n.toNat, (p.1.drop n.toNat, 0))
theorem take_eq (p : List UInt8 × Int) (n : Int) : octet_Reader_Take p n = some (takeR p n) := by
  obtain ⟨s, e⟩ := p
  unfold octet_Reader_Take takeR octet_Reader_Left octet_Reader_Wrong octet_Reader_Ok
  by_cases he : e = 0
  · subst he
    by_cases h1 : n < 0
    · simp [h1]
    · by_cases h2 : (s.length : Int) < n
      · simp [h1, h2]
      · simp [h1, h2]
        rw [subl_is (by omega), Option.bind_some, subl_is (by omega), Option.bind_some]
        simp
  · simp [he]
theorem read_eq (p : List UInt8 × Int) (n : Int) (hl : p.1.length ≤ 1000000) : octet_Reader_read p n = some (w64 (val (takeR p n).1), (takeR p n).2) := by
  unfold octet_Reader_read
  rw [take_eq, Option.bind_some]
  have hlen : (takeR p n).1.length ≤ 1000000 := by
    unfold takeR
    split
    · simp
    · split
      · simp
      · split
        · simp
        · simp; omega
  have h := loop_fold (takeR p n).1 (fun x (c : UInt8) => w64 (x * 256 + (c.toNat : Int))) (octet_Reader_read_l1 (takeR p n)) (by omega) (fun x i => by
    rw [octet_Reader_read_l1]
    split
    · congr 1
      funext c
      have hc := c.toNat_lt
      rw [w64_id (x := (c.toNat : Int)) (by omega), or_step x c.toNat (by omega)]
    · rfl) 0
  rw [h, fold_w64]
  rfl
def preN (p : List UInt8 × Int) (w : Int) : List UInt8 × Int := if (w < 1 ∨ 7 < w) ∧ p.2 = 0 then (p.1, 2) else p
theorem rnumR_eq (p : List UInt8 × Int) (w : Int) (hl : p.1.length ≤ 1000000) : octet_Reader_Num p w = some (w64 (val (takeR (preN p w) w).1), (takeR (preN p w) w).2) := by
  obtain ⟨s, e⟩ := p
  have key : (if (decide (w < 1) || decide (7 < w)) = true then some ((octet_Reader_Wrong (s, e) 2).1, (octet_Reader_Wrong (s, e) 2).2) else some ((s, e).1, (s, e).2)) = some (preN (s, e) w) := by
    unfold preN octet_Reader_Wrong octet_Reader_Ok
    by_cases h1 : w < 1 ∨ 7 < w
    · by_cases he : e = 0
      · simp [h1, he]
      · simp [h1, he]
    · simp [h1]
  unfold octet_Reader_Num
  rw [key, Option.bind_some]
  have h2 : (preN (s, e) w).1 = s := by unfold preN; split <;> rfl
  show (octet_Reader_read (preN (s, e) w) w).bind _ = _
  rw [read_eq _ _ (by rw [h2]; exact hl)]
  rfl
theorem rintR_eq (p : List UInt8 × Int) (hl : p.1.length ≤ 1000000) : octet_Reader_Int p = some (w64 (val (takeR p 8).1), (takeR p 8).2) := by
  unfold octet_Reader_Int
  rw [read_eq p 8 hl]
  rfl
theorem endR_eq (p : List UInt8 × Int) : octet_Reader_End p = some (if p.2 = 0 ∧ p.1 ≠ [] then 5 else p.2, (p.1, if p.2 = 0 ∧ p.1 ≠ [] then 5 else p.2)) := by
  obtain ⟨s, e⟩ := p
  unfold octet_Reader_End octet_Reader_Left octet_Reader_Wrong octet_Reader_Ok
  by_cases he : e = 0
  · subst he
    cases s <;> simp
  · simp [he]

theorem takeR_app (a b : List UInt8) (n : Int) (h : n = a.length) : takeR (a ++ b, 0) n = (a, (b, 0)) := by
  subst h
  unfold takeR
  rw [if_neg (by simp), if_neg (by omega), if_neg (by simp; omega)]
  simp
theorem preN_ok {p : List UInt8 × Int} {w : Int} (h : 1 ≤ w ∧ w ≤ 7) : preN p w = p := by
  unfold preN; rw [if_neg (by omega)]
theorem val_one (b : UInt8) : val [b] = (b.toNat : Int) := by simp [val]
theorem w64_val_be8 (m : Int) (h : -9223372036854775808 ≤ m ∧ m ≤ 9223372036854775807) : w64 (val (be 8 m)) = m := by
  rw [val_be]
  have e : (256 : Int) ^ 8 = 18446744073709551616 := by decide
  rw [e, ← w64_id h]
  refine w64_congr ?_
  rw [w64_id h]
  omega
theorem takeR_ok {p : List UInt8 × Int} {n : Int} (h : (takeR p n).2.2 = 0) : p.2 = 0 ∧ 0 ≤ n ∧ n ≤ p.1.length ∧ takeR p n = (p.1.take n.toNat, (p.1.drop n.toNat, 0)) := by
  unfold takeR at *
  by_cases h1 : p.2 ≠ 0
  · rw [if_pos h1] at h; exact absurd h h1
  · rw [if_neg h1] at h ⊢
    by_cases h2 : n < 0
    · rw [if_pos h2] at h; cases h
    · rw [if_neg h2] at h ⊢
      by_cases h3 : (p.1.length : Int) < n
      · rw [if_pos h3] at h; cases h
      · rw [if_neg h3]
        exact ⟨by omega, by omega, by omega, rfl⟩
theorem val_lt7 {l : List UInt8} (h : l.length ≤ 7) : 0 ≤ val l ∧ val l < 72057594037927936 := by
  have h1 := val_bd l
  have h2 : (256 : Int) ^ l.length ≤ 256 ^ 7 := by
    have : l.length = 0 ∨ l.length = 1 ∨ l.length = 2 ∨ l.length = 3 ∨ l.length = 4 ∨ l.length = 5 ∨ l.length = 6 ∨ l.length = 7 := by omega
    rcases this with h | h | h | h | h | h | h | h <;> rw [h] <;> decide
  have h3 : (256 : Int) ^ 7 = 72057594037927936 := by decide
  omega
theorem orR_inl {α β : Type} (t : α) (k : α → Option β) : orR (some (Sum.inl t)) k = k t := rfl
theorem takeR_len (p : List UInt8 × Int) (n : Int) : (takeR p n).2.1.length ≤ p.1.length := by
  unfold takeR
  split
  · simp
  · split
    · simp
    · split <;> simp
end Go.Proofs.Ytnlllglfmipllaa
