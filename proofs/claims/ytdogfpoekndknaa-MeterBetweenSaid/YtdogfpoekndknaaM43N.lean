/- Layer 43: products. Conditions: none. -/
import Derived.Test.YtdogfpoekndknaaMR
namespace Go.Proofs.Ytdogfpoekndknaa
set_option linter.unusedVariables false
set_option linter.unusedSimpArgs false
open Go Go.RowKit
/-! ### Products with a factor of at most 1 -/
theorem cut_all (T d : Nat) (h0 : T ≠ 0) : Ieee.Toward.even.cut false T d = rhe T d := by
  by_cases h : d ≤ T.log2 + 2
  · exact cut_rhe T d h
  · have hb := (log2_bd h0).2
    have e0 : Ieee.Toward.even.cut false T d = Ieee.Toward.even.cut false T (T.log2 + 2) := by
      unfold Ieee.Toward.cut
      rw [show min d (T.log2 + 2) = T.log2 + 2 by omega, show min (T.log2 + 2) (T.log2 + 2) = T.log2 + 2 by omega]
    have hz : ∀ e, T.log2 + 2 ≤ e → rhe T e = 0 := fun e he => by
      have h1 : 2 ^ (T.log2 + 2) ≤ 2 ^ e := Nat.pow_le_pow_right (by decide) he
      have h2 : (2 : Nat) ^ (T.log2 + 2) = 2 * 2 ^ (T.log2 + 1) := by rw [Nat.pow_succ, Nat.mul_comm]
      have h3 : T / 2 ^ e = 0 := Nat.div_eq_of_lt (by omega)
      have h4 : T % 2 ^ e = T := Nat.mod_eq_of_lt (by omega)
      unfold rhe
      rw [h3, h4, if_neg (by omega)]
    rw [e0, cut_rhe T _ (Nat.le_refl _), hz _ (Nat.le_refl _), hz d (by omega)]
/-- What is written of a number with d places below the least one. -/
def lastD (d T : Nat) : Nat := T.log2 - (d + 52)
def rungD (d T : Nat) : Nat := lastD d T * 4503599627370496 + rhe T (lastD d T + d)
theorem nearest_low (T d : Nat) (h0 : T ≠ 0) : Ieee.double.nearest false T (Ieee.double.leastPlace - (d : Int)) = min (rungD d T) 9218868437227405312 := by
  unfold Ieee.Format.nearest
  rw [if_neg h0]
  simp only [fracB, dbl.2.1, dbl.2.2]
  generalize Ieee.double.leastPlace = L
  have hlast : max (L - (d : Int) + (T.log2 : Int) - (52 : Nat)) L = L + (lastD d T : Int) := by
    unfold lastD; omega
  rw [hlast, show (L + (lastD d T : Int) - L).toNat = lastD d T by omega, show (L - (d : Int) - (L + (lastD d T : Int))).toNat = 0 by omega, show (L + (lastD d T : Int) - (L - (d : Int))).toNat = lastD d T + d by omega, Nat.shiftLeft_zero, cut_all _ _ h0, word_pos]
  rfl
theorem rungD_le {d T X : Nat} (h0 : T ≠ 0) (h : T ≤ X * 2 ^ d) : rungD d T ≤ rungI X := by
  have hX : X ≠ 0 := by rintro rfl; rw [Nat.zero_mul] at h; omega
  have hlog := log2_mono h0 h
  rw [log2_mul X d hX] at hlog
  have hl : lastD d T ≤ lastP X := by unfold lastD lastP; omega
  have hs : rhe (X * 2 ^ d) (lastP X + d) = rhe X (lastP X) := by rw [rhe_scale _ _ _ (by omega)]; congr 1; omega
  unfold rungD rungI
  by_cases he : lastD d T = lastP X
  · rw [he]
    have := rhe_mono (lastP X + d) h
    omega
  · have h1 : rhe T (lastD d T + d) ≤ 9007199254740992 := by
      have h1 := (log2_bd h0).2
      have h2 : T < 2 ^ (lastD d T + d) * 9007199254740992 := by
        refine Nat.lt_of_lt_of_le h1 ?_
        have : (9007199254740992 : Nat) = 2 ^ 53 := by decide
        rw [this, ← Nat.pow_add]
        exact Nat.pow_le_pow_right (by decide) (by unfold lastD; omega)
      have h3 : T / 2 ^ (lastD d T + d) < 9007199254740992 := (Nat.div_lt_iff_lt_mul (Nat.two_pow_pos _)).2 (by rw [Nat.mul_comm]; exact h2)
      unfold rhe
      split <;> omega
    have h2 := rhe_lo (W := X) hX (by omega)
    have h3 : lastD d T + 1 ≤ lastP X := by omega
    have h4 := Nat.mul_le_mul_right 4503599627370496 h3
    omega
theorem read_lo {b : Nat} (h : b < 9218868437227405312) : ∃ (m a : Nat), Ieee.double.read b = .number false m (Ieee.double.leastPlace + (a : Int)) ∧ m * 2 ^ a = magV b := by
  obtain ⟨m, a, h1, h2⟩ := read_fin (b := b) (by omega)
  have e : negB b = false := by unfold negB; rw [show b / 9223372036854775808 = 0 by omega]; rfl
  rw [e] at h1
  rw [show b % 9223372036854775808 = b by omega] at h2
  exact ⟨m, a, h1, h2⟩
theorem least_eq : Ieee.double.leastPlace = -1074 := by decide
theorem mul_le_aux {m n p q K A C : Nat} (h2 : m * 2 ^ p = A) (h4 : n * 2 ^ q = C) (hC : C ≤ 2 ^ K) : (K ≤ p + q → m * n * 2 ^ (p + q - K) ≤ A) ∧ (p + q < K → m * n ≤ A * 2 ^ (K - (p + q))) := by
  have hprod : m * n * 2 ^ (p + q) ≤ A * 2 ^ K := by
    have e : m * n * 2 ^ (p + q) = A * C := by rw [← h2, ← h4, Nat.pow_add, Nat.mul_mul_mul_comm]
    rw [e]; exact Nat.mul_le_mul_left _ hC
  constructor
  · intro h
    refine Nat.le_of_mul_le_mul_right (c := 2 ^ K) ?_ (Nat.two_pow_pos _)
    have e : m * n * 2 ^ (p + q - K) * 2 ^ K = m * n * 2 ^ (p + q) := by rw [Nat.mul_assoc (m * n), ← Nat.pow_add, show p + q - K + K = p + q by omega]
    rw [e]; exact hprod
  · intro h
    refine Nat.le_of_mul_le_mul_right (c := 2 ^ (p + q)) ?_ (Nat.two_pow_pos _)
    have e : A * 2 ^ (K - (p + q)) * 2 ^ (p + q) = A * 2 ^ K := by rw [Nat.mul_assoc A, ← Nat.pow_add, show K - (p + q) + (p + q) = K by omega]
    rw [e]; exact hprod
theorem one_mag {c : Nat} (hc : c ≤ 4607182418800017408) : magV c ≤ 2 ^ 1074 := by
  have hone : magV 4607182418800017408 = 2 ^ 1074 := by decide +kernel
  by_cases e : c = 4607182418800017408
  · rw [e, hone]; exact Nat.le_refl _
  · have := magV_lt (Nat.lt_of_le_of_ne hc e)
    rw [hone] at this; exact Nat.le_of_lt this
theorem mul_le {a c : Nat} (ha : a < 9218868437227405312) (hc : c ≤ 4607182418800017408) : fmul a c ≤ a := by
  obtain ⟨m, p, h1, h2⟩ := read_lo ha
  obtain ⟨n, q, h3, h4⟩ := read_lo (b := c) (by omega)
  obtain ⟨k1, k2⟩ := mul_le_aux h2 h4 (one_mag hc)
  have hra := rung_mag ha
  have hval : fmul a c = Ieee.double.nearest false (m * n) (Ieee.double.leastPlace + (p : Int) + (Ieee.double.leastPlace + (q : Int))) := by
    unfold fmul Ieee.Format.mul
    rw [h1, h3]
    unfold Ieee.Datum.product
    simp only [Option.map_some, Ieee.Format.write, Bool.xor_false]
  rw [hval]
  by_cases hcs : 1074 ≤ p + q
  · have hle := k1 hcs
    clear k1 k2
    rw [show Ieee.double.leastPlace + (p : Int) + (Ieee.double.leastPlace + (q : Int)) = Ieee.double.leastPlace + ((p + q - 1074 : Nat) : Int) by rw [least_eq]; omega, nearest_eq]
    have := rung_mono hle
    rw [hra] at this
    exact this
  · have hle := k2 (by omega)
    clear k1 k2
    rw [show Ieee.double.leastPlace + (p : Int) + (Ieee.double.leastPlace + (q : Int)) = Ieee.double.leastPlace - ((1074 - (p + q) : Nat) : Int) by rw [least_eq]; clear hle; omega]
    by_cases h0 : m * n = 0
    · rw [h0]
      unfold Ieee.Format.nearest
      rw [if_pos rfl, word_pos]; exact Nat.zero_le _
    · rw [nearest_low _ _ h0]
      have := rungD_le h0 hle
      clear hle
      unfold rung at hra
      exact Nat.le_trans (Nat.le_min.2 ⟨Nat.le_trans (Nat.min_le_left _ _) this, Nat.min_le_right _ _⟩) (Nat.le_of_eq hra)
end Go.Proofs.Ytdogfpoekndknaa
