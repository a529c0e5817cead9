/- Floats as mathematics: their order by keys. Conditions: none. -/
import Derived.Test.YtphhiiemopkinaaOF
import Derived.Test.YtphhiiemopkinaaML
namespace Go.Proofs.Ytphhiiemopkinaa
set_option linter.unusedVariables false
set_option linter.unusedSimpArgs false
open Go Go.RowKit

abbrev nanB (b : Nat) : Prop := 9218868437227405312 < b % 9223372036854775808
def sg (s : Bool) (r : Nat) : Int := if s then -(r : Int) else (r : Int)
def negB (b : Nat) : Bool := b / 9223372036854775808 % 2 == 1
def keyB (b : Nat) : Int := sg (negB b) (b % 9223372036854775808)
def magV (r : Nat) : Nat := if r / 4503599627370496 = 0 then r % 4503599627370496 else (4503599627370496 + r % 4503599627370496) * 2 ^ (r / 4503599627370496 - 1)
theorem magV_succ (r : Nat) : magV r < magV (r + 1) := by
  unfold magV
  have h1 : r % 4503599627370496 < 4503599627370496 := Nat.mod_lt _ (by decide)
  by_cases hf : r % 4503599627370496 + 1 < 4503599627370496
  · have e1 : (r + 1) / 4503599627370496 = r / 4503599627370496 := by omega
    have e2 : (r + 1) % 4503599627370496 = r % 4503599627370496 + 1 := by omega
    rw [e1, e2]
    by_cases hq : r / 4503599627370496 = 0
    · rw [if_pos hq, if_pos hq]; omega
    · rw [if_neg hq, if_neg hq]
      exact Nat.mul_lt_mul_of_pos_right (by omega) (Nat.two_pow_pos _)
  · have e1 : (r + 1) / 4503599627370496 = r / 4503599627370496 + 1 := by omega
    have e2 : (r + 1) % 4503599627370496 = 0 := by omega
    have e3 : r % 4503599627370496 = 4503599627370495 := by omega
    rw [e1, e2, e3, if_neg (show ¬ (r / 4503599627370496 + 1 = 0) by omega)]
    by_cases hq : r / 4503599627370496 = 0
    · rw [if_pos hq, hq]; decide
    · rw [if_neg hq]
      obtain ⟨q, hq2⟩ : ∃ q, r / 4503599627370496 = q + 1 := ⟨r / 4503599627370496 - 1, by omega⟩
      rw [hq2, Nat.add_sub_cancel, Nat.add_sub_cancel, Nat.pow_succ, Nat.mul_comm (2 ^ q) 2, ← Nat.mul_assoc]
      exact Nat.mul_lt_mul_of_pos_right (by decide) (Nat.two_pow_pos _)
theorem magV_lt {r s : Nat} (h : r < s) : magV r < magV s := by
  induction s with
  | zero => omega
  | succ s ih =>
    by_cases hrs : r = s
    · subst hrs; exact magV_succ r
    · exact Nat.lt_trans (ih (by omega)) (magV_succ s)
theorem magV_iff (r s : Nat) : (magV r < magV s ↔ r < s) ∧ (magV r = magV s ↔ r = s) := by
  rcases Nat.lt_trichotomy r s with h | h | h
  · have := magV_lt h; omega
  · subst h; simp
  · have := magV_lt h; omega
theorem magV_zero (r : Nat) : magV r = 0 ↔ r = 0 := by
  have h := (magV_iff r 0).2
  have : magV 0 = 0 := by decide
  rw [this] at h; exact h
theorem sg_iff (s t : Bool) (r q : Nat) : (sg s (magV r) < sg t (magV q) ↔ sg s r < sg t q) ∧ (sg s (magV r) = sg t (magV q) ↔ sg s r = sg t q) := by
  have h1 := magV_iff r q
  have h2 := magV_iff q r
  have h3 := magV_zero r
  have h4 := magV_zero q
  unfold sg
  cases s <;> cases t <;> simp only [Bool.false_eq_true, if_false, if_true] <;> omega
theorem dbl : Ieee.double.signWeight = 9223372036854775808 ∧ Ieee.double.binade = 4503599627370496 ∧ Ieee.double.infRung = 9218868437227405312 := by decide
theorem read_fin {b : Nat} (h : b % 9223372036854775808 < 9218868437227405312) : ∃ (m a : Nat), Ieee.double.read b = .number (negB b) m (Ieee.double.leastPlace + (a : Int)) ∧ m * 2 ^ a = magV (b % 9223372036854775808) := by
  unfold Ieee.Format.read magV
  simp only [dbl.1, dbl.2.1, dbl.2.2]
  by_cases h1 : b % 9223372036854775808 < 4503599627370496
  · rw [if_pos h1, if_pos (by omega)]
    exact ⟨b % 9223372036854775808, 0, by simp [negB], by omega⟩
  · rw [if_neg h1, if_pos h, if_neg (by omega)]
    exact ⟨_, _, rfl, rfl⟩
theorem read_inf {b : Nat} (h : b % 9223372036854775808 = 9218868437227405312) : Ieee.double.read b = .infinity (negB b) := by
  unfold Ieee.Format.read
  simp only [dbl.1, dbl.2.1, dbl.2.2, h]
  rfl
def cmpK (x y : Int) : Ordering := if x < y then .lt else if x = y then .eq else .gt
theorem compare_K (x y : Int) : compare x y = cmpK x y := rfl
theorem cmpK_mul (x y : Int) {k : Int} (hk : 0 < k) : cmpK (x * k) (y * k) = cmpK x y := by
  have h1 : x * k < y * k ↔ x < y := by
    constructor
    · intro h
      rcases Int.lt_or_le x y with h2 | h2
      · exact h2
      · have := Int.mul_le_mul_of_nonneg_right h2 (Int.le_of_lt hk); omega
    · exact fun h => Int.mul_lt_mul_of_pos_right h hk
  have h2 : x * k = y * k ↔ x = y := by
    constructor
    · exact fun h => Int.eq_of_mul_eq_mul_right (by omega) h
    · exact fun h => by rw [h]
  unfold cmpK
  simp only [h1, h2]
theorem signed_mul (s : Bool) (m a c : Nat) (h : c ≤ a) : Ieee.signed s m (a - c) * (2 ^ c : Nat) = sg s (m * 2 ^ a) := by
  have e : (m <<< (a - c)) * 2 ^ c = m * 2 ^ a := by
    rw [Nat.shiftLeft_eq, Nat.mul_assoc, ← Nat.pow_add]; congr 2; omega
  unfold Ieee.signed sg
  cases s
  · simp only [Bool.false_eq_true, if_false]; rw [← e, Int.natCast_mul]
  · simp only [if_true]; rw [← e, Int.neg_mul, Int.natCast_mul]
theorem order_num (s t : Bool) (m n a b : Nat) (L : Int) : Ieee.Datum.order (.number s m (L + (a : Int))) (.number t n (L + (b : Int))) = some (cmpK (sg s (m * 2 ^ a)) (sg t (n * 2 ^ b))) := by
  unfold Ieee.Datum.order
  simp only
  have hc : min (L + (a : Int)) (L + (b : Int)) = L + ((min a b : Nat) : Int) := by omega
  rw [hc, show (L + (a : Int) - (L + ((min a b : Nat) : Int))).toNat = a - min a b by omega, show (L + (b : Int) - (L + ((min a b : Nat) : Int))).toNat = b - min a b by omega]
  rw [compare_K, ← cmpK_mul _ _ (k := ((2 ^ min a b : Nat) : Int)) (by have := Nat.two_pow_pos (min a b); omega), signed_mul _ _ _ _ (Nat.min_le_left a b), signed_mul _ _ _ _ (Nat.min_le_right a b)]
theorem order_key {x y : Nat} (hx : ¬ nanB x) (hy : ¬ nanB y) : Ieee.double.order x y = some (cmpK (keyB x) (keyB y)) := by
  unfold nanB at hx hy
  unfold Ieee.Format.order keyB
  have hlx : x % 9223372036854775808 = 9218868437227405312 ∨ x % 9223372036854775808 < 9218868437227405312 := by omega
  have hly : y % 9223372036854775808 = 9218868437227405312 ∨ y % 9223372036854775808 < 9218868437227405312 := by omega
  rcases hlx with hx | hx <;> rcases hly with hy | hy
  · rw [read_inf hx, read_inf hy, hx, hy]
    cases negB x <;> cases negB y <;> decide
  · obtain ⟨m, a, h1, _⟩ := read_fin hy
    rw [read_inf hx, h1, hx]
    unfold Ieee.Datum.order cmpK sg
    cases negB x <;> cases negB y <;> simp only [Bool.false_eq_true, if_false, if_true] <;> (first | rw [if_pos (by omega)] | rw [if_neg (by omega), if_neg (by omega)])
  · obtain ⟨m, a, h1, _⟩ := read_fin hx
    rw [read_inf hy, h1, hy]
    unfold Ieee.Datum.order cmpK sg
    cases negB x <;> cases negB y <;> simp only [Bool.false_eq_true, if_false, if_true] <;> (first | rw [if_pos (by omega)] | rw [if_neg (by omega), if_neg (by omega)])
  · obtain ⟨m, a, h1, h2⟩ := read_fin hx
    obtain ⟨n, b, h3, h4⟩ := read_fin hy
    rw [h1, h3, order_num, h2, h4]
    have := sg_iff (negB x) (negB y) (x % 9223372036854775808) (y % 9223372036854775808)
    unfold cmpK
    simp only [this.1, this.2]
theorem order_nan {x y : Nat} (h : nanB x ∨ nanB y) : Ieee.double.order x y = none := by
  unfold Ieee.Format.order
  rcases h with h | h
  · obtain ⟨s, f, e⟩ := read_nan h
    rw [e]; rfl
  · obtain ⟨s, f, e⟩ := read_nan h
    rw [e]; cases Ieee.double.read x <;> rfl
theorem fLt_eq (x y : Nat) : fLt x y = decide (¬ nanB x ∧ ¬ nanB y ∧ keyB x < keyB y) := by
  unfold fLt
  by_cases h : nanB x ∨ nanB y
  · rw [order_nan h]
    rcases h with h | h <;> simp [h]
  · rw [order_key (fun h1 => h (.inl h1)) (fun h1 => h (.inr h1))]
    have h1 : ¬ nanB x := fun h1 => h (.inl h1)
    have h2 : ¬ nanB y := fun h1 => h (.inr h1)
    unfold cmpK
    by_cases h3 : keyB x < keyB y
    · simp [h1, h2, h3]
    · by_cases h4 : keyB x = keyB y <;> simp [h1, h2, h3, h4]
theorem fGt_eq (x y : Nat) : fGt x y = decide (¬ nanB x ∧ ¬ nanB y ∧ keyB y < keyB x) := by
  unfold fGt
  by_cases h : nanB x ∨ nanB y
  · rw [order_nan h]
    rcases h with h | h <;> simp [h]
  · rw [order_key (fun h1 => h (.inl h1)) (fun h1 => h (.inr h1))]
    have h1 : ¬ nanB x := fun h1 => h (.inl h1)
    have h2 : ¬ nanB y := fun h1 => h (.inr h1)
    unfold cmpK
    by_cases h3 : keyB x < keyB y
    · have : ¬ keyB y < keyB x := by omega
      simp [h1, h2, h3, this]
    · by_cases h4 : keyB x = keyB y
      · have : ¬ keyB y < keyB x := by omega
        simp [h1, h2, h3, h4]
      · have : keyB y < keyB x := by omega
        simp [h1, h2, h3, h4, this]
theorem fEq_eq (x y : Nat) : fEq x y = decide (¬ nanB x ∧ ¬ nanB y ∧ keyB x = keyB y) := by
  unfold fEq
  by_cases h : nanB x ∨ nanB y
  · rw [order_nan h]
    rcases h with h | h <;> simp [h]
  · rw [order_key (fun h1 => h (.inl h1)) (fun h1 => h (.inr h1))]
    have h1 : ¬ nanB x := fun h1 => h (.inl h1)
    have h2 : ¬ nanB y := fun h1 => h (.inr h1)
    unfold cmpK
    by_cases h3 : keyB x < keyB y
    · have : ¬ keyB x = keyB y := by omega
      simp [h1, h2, h3, this]
    · by_cases h4 : keyB x = keyB y <;> simp [h1, h2, h3, h4]
/-- The key, the NaNs, of a word. -/
theorem key_word {b : Nat} (h : b < 18446744073709551616) : (b < 9223372036854775808 ∧ keyB b = (b : Int) ∧ (nanB b ↔ 9218868437227405312 < b)) ∨ (9223372036854775808 ≤ b ∧ keyB b = 9223372036854775808 - (b : Int) ∧ (nanB b ↔ 18442240474082181120 < b)) := by
  unfold keyB negB nanB sg
  by_cases h1 : b < 9223372036854775808
  · left
    have e1 : b / 9223372036854775808 = 0 := by omega
    have e2 : b % 9223372036854775808 = b := by omega
    rw [e1, e2]
    exact ⟨h1, by simp, Iff.rfl⟩
  · right
    have e1 : b / 9223372036854775808 = 1 := by omega
    have e2 : b % 9223372036854775808 = b - 9223372036854775808 := by omega
    rw [e1, e2]
    refine ⟨by omega, ?_, by omega⟩
    simp; omega
theorem flip_lo {p : Nat} (h : p < 9223372036854775808) : p ^^^ 9223372036854775808 = 9223372036854775808 + p := by
  refine Nat.eq_of_testBit_eq fun i => ?_
  rw [Nat.testBit_xor, show (9223372036854775808 : Nat) = 2 ^ 63 by decide]
  rcases Nat.lt_trichotomy i 63 with hi | hi | hi
  · rw [Nat.testBit_two_pow_add_gt hi, Nat.testBit_two_pow_of_ne (by omega)]; simp
  · subst hi
    rw [Nat.testBit_two_pow_add_eq, Nat.testBit_two_pow_self]; simp
  · rw [Nat.testBit_lt_two_pow (x := p) (Nat.lt_of_lt_of_le h (show (2 : Nat) ^ 63 ≤ 2 ^ i from Nat.pow_le_pow_right (by decide) (by omega))), Nat.testBit_two_pow_of_ne (by omega), Nat.testBit_lt_two_pow (x := 2 ^ 63 + p)]
    · rfl
    · have h2 : (2 : Nat) ^ 64 ≤ 2 ^ i := Nat.pow_le_pow_right (by decide) (by omega)
      have h3 : (2 : Nat) ^ 64 = 18446744073709551616 := by decide
      have h4 : (2 : Nat) ^ 63 = 9223372036854775808 := by decide
      omega
theorem negF_eq {p : Nat} (h : p < 18446744073709551616) : Op.negFloat .f64 p = if p < 9223372036854775808 then 9223372036854775808 + p else p - 9223372036854775808 := by
  have e : Op.negFloat .f64 p = p ^^^ 9223372036854775808 := rfl
  rw [e]
  by_cases h1 : p < 9223372036854775808
  · rw [if_pos h1, flip_lo h1]
  · rw [if_neg h1]
    obtain ⟨q, rfl⟩ : ∃ q, p = 9223372036854775808 + q := ⟨p - 9223372036854775808, by omega⟩
    rw [← flip_lo (p := q) (by omega), Nat.xor_assoc, Nat.xor_self, Nat.xor_zero, flip_lo (by omega)]
    omega
theorem fadd_lt (x y : Nat) : fadd x y < 18446744073709551616 := by
  unfold fadd
  cases h : Ieee.double.add x y with
  | none => decide
  | some r => exact Ieee.Format.add_lt _ h
theorem fadd_nan {x y : Nat} (h : nanB x ∨ nanB y) : fadd x y = 9221120237041090561 := by
  unfold fadd
  rcases h with h | h
  · rw [sum_nanL (read_nan h)]
  · rw [sum_nanR (read_nan h)]
end Go.Proofs.Ytphhiiemopkinaa
