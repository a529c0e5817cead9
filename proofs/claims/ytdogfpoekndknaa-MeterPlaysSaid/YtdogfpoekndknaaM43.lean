/- Layer 43: rates, mixing, meters; two statements. Conditions: none. -/
import Derived.Test.YtdogfpoekndknaaMR
import Derived.Test.YtdogfpoekndknaaA1
namespace Go.Proofs.Ytdogfpoekndknaa
set_option linter.unusedVariables false
set_option linter.unusedSimpArgs false
open Go Go.RowKit
abbrev W64 (p : Nat) : Prop := p < 18446744073709551616
theorem bindT {o : Option Bool} (h : o = some true) : (o.bind fun x => some x) = some true := by rw [h]; rfl
theorem nan_word {p : Nat} (h : W64 p) : nanB p ↔ (9218868437227405312 < p ∧ p < 9223372036854775808) ∨ 18442240474082181120 < p := by
  rcases key_word h with h1 | h1 <;> omega
theorem isnan_eq (p : Nat) : math_IsNaN p = decide (nanB p) := by
  unfold math_IsNaN
  rw [fEq_eq]
  by_cases h : nanB p <;> simp [h]
theorem inf_neg {p : Nat} (h : W64 p) : math_IsInf p (-1) = some (decide (p = 18442240474082181120)) := by
  unfold math_IsInf
  rw [if_neg (by decide), if_pos (by decide), Option.bind_some, negF_eq h, fGt_eq]
  congr 1
  refine decide_eq_decide.2 ?_
  have hm := key_word (b := 9218868437227405311) (by decide)
  by_cases h1 : p < 9223372036854775808
  · rw [if_pos h1]
    have := key_word (b := 9223372036854775808 + p) (by omega)
    omega
  · rw [if_neg h1]
    have := key_word (b := p - 9223372036854775808) (by unfold W64 at h; omega)
    omega
theorem inf_pos {p : Nat} (h : W64 p) : math_IsInf p 1 = some (decide (p = 9218868437227405312)) := by
  unfold math_IsInf
  rw [if_neg (by decide), if_neg (by decide), Option.bind_some, fGt_eq]
  congr 1
  refine decide_eq_decide.2 ?_
  have hm := key_word (b := 9218868437227405311) (by decide)
  have := key_word h
  omega
def cls (p : Nat) : Int := if nanB p then 0 else if p = 18442240474082181120 then 1 else if 9223372036854775808 < p then 2 else if p = 9218868437227405312 then 6 else if p = 9223372036854775808 then 3 else if p = 0 then 4 else 5
theorem sign_eq {p : Nat} (h : W64 p) : math_Signbit p = decide (9223372036854775808 ≤ p) := by
  unfold math_Signbit W64 at *
  refine decide_eq_decide.2 ?_
  rw [w64_def]; split <;> omega
theorem class_eq {p : Nat} (h : W64 p) : float_Class p = some (cls p) := by
  unfold float_Class cls
  rw [isnan_eq, inf_neg h, inf_pos h, fLt_eq, fGt_eq, sign_eq h]
  have hk := key_word h
  have h0 := key_word (b := 0) (by decide)
  simp only [Option.bind_some, decide_eq_true_eq]
  by_cases h1 : nanB p
  · rw [if_pos h1, if_pos h1]
  · rw [if_neg h1, if_neg h1]
    by_cases h2 : p = 18442240474082181120
    · rw [if_pos h2, if_pos h2]
    · rw [if_neg h2, if_neg h2]
      by_cases h3 : 9223372036854775808 < p
      · rw [if_pos h3, if_pos (by omega)]
      · rw [if_neg h3, if_neg (by omega)]
        by_cases h4 : p = 9218868437227405312
        · rw [if_pos h4, if_pos h4]
        · rw [if_neg h4, if_neg h4]
          by_cases h5 : p = 9223372036854775808
          · rw [if_neg (by omega), if_pos (by omega), if_pos h5]
          · rw [if_neg h5]
            by_cases h6 : p = 0
            · rw [if_neg (by omega), if_neg (by omega), if_pos h6]
            · rw [if_pos (by omega), if_neg h6]
theorem rclean_eq {p : Nat} (h : W64 p) : r03_Clean (p : Int) = ((cfn p : Nat) : Int) := by
  unfold r03_Clean cfn
  rw [Int.tmod_eq_emod_of_nonneg (by omega)]
  by_cases h1 : 9218868437227405312 < p % 9223372036854775808
  · rw [if_pos h1, if_pos (by omega)]; rfl
  · rw [if_neg h1, if_neg (by omega)]
theorem cfn_nan {p : Nat} (h : nanB p) : cfn p = 9221120237041090561 := if_pos h
theorem cfn_ok {p : Nat} (h : ¬ nanB p) : cfn p = p := if_neg h
theorem cfn_one {p : Nat} (h : W64 p) : cfn p = 9221120237041090561 ↔ nanB p := by
  by_cases h1 : nanB p
  · simp [cfn_nan h1, h1]
  · rw [cfn_ok h1]
    simp only [h1, iff_false]
    rintro rfl
    exact h1 (by unfold nanB; decide)
theorem rclass_eq {p : Nat} (h : W64 p) : r03_Class (p : Int) = cls p := by
  unfold r03_Class cls
  rw [rclean_eq h]
  have hw := nan_word h
  by_cases h1 : nanB p
  · rw [if_pos h1, cfn_nan h1, if_pos (by decide)]
  · rw [if_neg h1, cfn_ok h1, if_neg (by rintro h9; exact h1 ((cfn_one h).1 (by rw [cfn_ok h1]; omega)))]
    by_cases h2 : p = 18442240474082181120
    · rw [if_pos h2, if_pos (by omega)]
    · rw [if_neg h2, if_neg (by omega)]
      by_cases h3 : 9223372036854775808 < p
      · rw [if_pos h3, if_pos (by omega)]
      · rw [if_neg h3, if_neg (by omega)]
        by_cases h4 : p = 9218868437227405312
        · rw [if_pos h4, if_neg (by omega), if_neg (by omega), if_neg (by omega)]
        · rw [if_neg h4]
          by_cases h5 : p = 9223372036854775808
          · rw [if_pos (by omega), if_pos h5]
          · rw [if_neg (by omega), if_neg h5]
            by_cases h6 : p = 0
            · rw [if_pos (by omega), if_pos h6]
            · rw [if_neg (by omega), if_neg h6, if_pos (by omega)]
theorem fclean_eq (p : Nat) : float_Clean p = cfn p := by
  unfold float_Clean cfn
  rw [isnan_eq]
  unfold nanB
  simp only [decide_eq_true_eq]
theorem fbits_eq (p : Nat) : float_Bits p = ((cfn p : Nat) : Int) := by
  unfold float_Bits cfn
  rw [isnan_eq]
  unfold nanB
  simp only [decide_eq_true_eq]
  split <;> rfl
theorem cfn_cfn (p : Nat) : cfn (cfn p) = cfn p := by
  by_cases h : nanB p
  · rw [cfn_nan h]; decide
  · rw [cfn_ok h, cfn_ok h]
theorem cfn_lt {p : Nat} (h : W64 p) : W64 (cfn p) := by
  by_cases h1 : nanB p
  · rw [cfn_nan h1]; unfold W64; decide
  · rw [cfn_ok h1]; exact h
def rk (p : Nat) : Int := if cls p ≠ 0 then cls p else 7
def plc (p : Nat) : Int := if 9223372036854775808 ≤ cfn p then 9223372036854775807 - ((cfn p % 9223372036854775808 : Nat) : Int) else 9223372036854775808 + ((cfn p : Nat) : Int)
theorem wu64 (x : Int) : IntKind.u64.wrap x = x % 18446744073709551616 := by
  unfold IntKind.wrap
  simp only [IntKind.bits, IntKind.signed]
  simp
theorem rplace_eq {p : Nat} (h : W64 p) : r03_Place (p : Int) = plc p := by
  unfold r03_Place plc
  rw [rclean_eq h, wu64, wu64, Int.tmod_eq_emod_of_nonneg (by omega)]
  have := cfn_lt h
  unfold W64 at this
  split <;> split <;> omega
theorem rk_cases {p : Nat} (h : W64 p) : (nanB p ∧ rk p = 7 ∧ plc p = 18444492273895866369) ∨ (¬ nanB p ∧ ((p = 18442240474082181120 ∧ rk p = 1 ∧ plc p = 4503599627370495 ∧ keyB p = -9218868437227405312) ∨ (9223372036854775808 < p ∧ p < 18442240474082181120 ∧ rk p = 2 ∧ plc p = 18446744073709551615 - (p : Int) ∧ keyB p = 9223372036854775808 - (p : Int))
    ∨ (p = 9223372036854775808 ∧ rk p = 3 ∧ plc p = 9223372036854775807 ∧ keyB p = 0) ∨ (p = 0 ∧ rk p = 4 ∧ plc p = 9223372036854775808 ∧ keyB p = 0) ∨ (0 < p ∧ p < 9218868437227405312 ∧ rk p = 5 ∧ plc p = 9223372036854775808 + (p : Int) ∧ keyB p = (p : Int)) ∨ (p = 9218868437227405312 ∧ rk p = 6 ∧ plc p = 18442240474082181120 ∧ keyB p = 9218868437227405312))) := by
  have hk := key_word h
  have hw := nan_word h
  unfold W64 at h
  by_cases h1 : nanB p
  · left
    refine ⟨h1, ?_, ?_⟩
    · unfold rk cls; rw [if_pos h1]; decide
    · unfold plc; rw [cfn_nan h1]; decide
  · right
    refine ⟨h1, ?_⟩
    have e2 : rk p = (if p = 18442240474082181120 then 1 else if 9223372036854775808 < p then 2 else if p = 9218868437227405312 then 6 else if p = 9223372036854775808 then 3 else if p = 0 then 4 else 5) := by
      unfold rk cls
      rw [if_neg h1]
      by_cases c1 : p = 18442240474082181120 <;> by_cases c2 : 9223372036854775808 < p <;> by_cases c3 : p = 9218868437227405312 <;> by_cases c4 : p = 9223372036854775808 <;> by_cases c5 : p = 0 <;> simp only [c1, c2, c3, c4, c5, if_true, if_false] <;> decide
    have e3 : plc p = (if 9223372036854775808 ≤ p then 9223372036854775807 - ((p % 9223372036854775808 : Nat) : Int) else 9223372036854775808 + (p : Int)) := by
      unfold plc; rw [cfn_ok h1]
    generalize rk p = a at *
    generalize plc p = b at *
    generalize keyB p = c at *
    by_cases c1 : p = 18442240474082181120
    · rw [if_pos c1] at e2; rw [if_pos (by omega)] at e3; left; omega
    · rw [if_neg c1] at e2
      by_cases c2 : 9223372036854775808 < p
      · rw [if_pos c2] at e2; rw [if_pos (by omega)] at e3; right; left; omega
      · rw [if_neg c2] at e2
        by_cases c3 : p = 9218868437227405312
        · rw [if_pos c3] at e2; rw [if_neg (by omega)] at e3; right; right; right; right; right; omega
        · rw [if_neg c3] at e2
          by_cases c4 : p = 9223372036854775808
          · rw [if_pos c4] at e2; rw [if_pos (by omega)] at e3; right; right; left; omega
          · rw [if_neg c4] at e2
            by_cases c5 : p = 0
            · rw [if_pos c5] at e2; rw [if_neg (by omega)] at e3; right; right; right; left; omega
            · rw [if_neg c5] at e2; rw [if_neg (by omega)] at e3; right; right; right; right; left; omega
def cmpP (a b : Int) : Int := if a < b then -1 else if b < a then 1 else 0
theorem cmpP_cases (a b : Int) : (a < b ∧ cmpP a b = -1) ∨ (b < a ∧ cmpP a b = 1) ∨ (a = b ∧ cmpP a b = 0) := by
  unfold cmpP
  by_cases h1 : a < b
  · rw [if_pos h1]; exact .inl ⟨h1, rfl⟩
  · rw [if_neg h1]
    by_cases h2 : b < a
    · rw [if_pos h2]; exact .inr (.inl ⟨h2, rfl⟩)
    · rw [if_neg h2]; exact .inr (.inr ⟨by omega, rfl⟩)
theorem rcompare_eq {p q : Nat} (hp : W64 p) (hq : W64 q) : r03_Compare (p : Int) (q : Int) = cmpP (plc p) (plc q) := by
  unfold r03_Compare cmpP
  rw [rplace_eq hp, rplace_eq hq]
theorem wf_u64 {n : Int} (h : (Lit.int .u64 n).wf = true) : ∃ p : Nat, n = (p : Int) ∧ W64 p := by
  simp only [Lit.wf, IntKind.has] at h
  have : 0 ≤ n ∧ n ≤ 18446744073709551615 := by simpa [IntKind.min, IntKind.max, IntKind.bits, IntKind.signed] using h
  exact ⟨n.toNat, by omega, by unfold W64; omega⟩
/-! ### Meters -/
theorem cls_zero {p : Nat} : cls p = 0 ↔ nanB p := by
  unfold cls
  by_cases h : nanB p
  · simp [h]
  · rw [if_neg h]
    simp only [h, iff_false]
    repeat' split
    all_goals decide
theorem fdiv_lt (x y : Nat) : W64 (fdiv x y) := by
  unfold fdiv
  cases h : Ieee.double.div x y with
  | none => unfold W64; decide
  | some r => exact Ieee.Format.div_lt _ h
def one64 : Nat := 4607182418800017408
def mixN (old x share : Nat) : Nat :=
  if nanB old then cfn x else if nanB x ∨ nanB share ∨ keyB share ≤ 0 then old else if 4607182418800017408 ≤ keyB share then x else cfn (fadd (fmul old (fsub 4607182418800017408 share)) (fmul x share))
theorem isNaN_eq {p : Nat} (h : W64 p) : meter_isNaN p = some (decide (nanB p)) := by
  unfold meter_isNaN
  rw [class_eq h, Option.bind_some]
  congr 1
  exact decide_eq_decide.2 cls_zero
theorem key_zero : keyB 0 = 0 ∧ ¬ nanB 0 := by have := key_word (b := 0) (by decide); omega
theorem key_one : keyB 4607182418800017408 = 4607182418800017408 ∧ ¬ nanB 4607182418800017408 := by have := key_word (b := 4607182418800017408) (by decide); omega
theorem mix_eq {old x share : Nat} (h1 : W64 old) (h2 : W64 x) (h3 : W64 share) : meter_Mix old x share = some (mixN old x share) := by
  unfold meter_Mix mixN
  rw [isNaN_eq h1, isNaN_eq h2, isNaN_eq h3]
  simp only [Option.bind_some, decide_eq_true_eq, fclean_eq]
  by_cases c1 : nanB old
  · rw [if_pos c1, if_pos c1]
  · rw [if_neg c1, if_neg c1]
    have e0 : (fLt share 0 || fEq share 0) = decide (¬ nanB share ∧ keyB share ≤ 0) := by
      rw [fLt_eq, fEq_eq, ← Bool.decide_or]
      refine decide_eq_decide.2 ?_
      have := key_zero
      omega
    have e1 : (fGt share 4607182418800017408 || fEq share 4607182418800017408) = decide (¬ nanB share ∧ 4607182418800017408 ≤ keyB share) := by
      rw [fGt_eq, fEq_eq, ← Bool.decide_or]
      refine decide_eq_decide.2 ?_
      have := key_one
      omega
    rw [e0, e1]
    by_cases c2 : nanB x
    · have hp : nanB x ∨ nanB share ∨ keyB share ≤ 0 := .inl c2
      rw [if_pos c2, if_pos hp]; rfl
    · rw [if_neg c2]
      by_cases c3 : nanB share
      · have hp : nanB x ∨ nanB share ∨ keyB share ≤ 0 := .inr (.inl c3)
        rw [if_pos c3, if_pos hp]; rfl
      · rw [if_neg c3]
        by_cases c4 : keyB share ≤ 0
        · have hp : nanB x ∨ nanB share ∨ keyB share ≤ 0 := .inr (.inr c4)
          rw [decide_eq_true (p := ¬ nanB share ∧ keyB share ≤ 0) ⟨c3, c4⟩, if_pos hp]; rfl
        · have hp : ¬ (nanB x ∨ nanB share ∨ keyB share ≤ 0) := fun h => h.elim c2 fun h => h.elim c3 c4
          rw [decide_eq_false (p := ¬ nanB share ∧ keyB share ≤ 0) (fun h => c4 h.2), if_neg hp, Option.bind_some, if_neg Bool.false_ne_true]
          by_cases c5 : 4607182418800017408 ≤ keyB share
          · rw [decide_eq_true (p := ¬ nanB share ∧ 4607182418800017408 ≤ keyB share) ⟨c3, c5⟩, if_pos c5, if_pos rfl]
          · rw [decide_eq_false (p := ¬ nanB share ∧ 4607182418800017408 ≤ keyB share) (fun h => c5 h.2), if_neg c5, if_neg Bool.false_ne_true]
theorem mix_lt {old x share : Nat} (h1 : W64 old) (h2 : W64 x) : W64 (mixN old x share) := by
  unfold mixN
  repeat' split
  · exact cfn_lt h2
  · exact h1
  · exact h2
  · exact cfn_lt (fadd_lt _ _)
theorem rnan_eq {p : Nat} (h : W64 p) : r43_nan (p : Int) = decide (nanB p) := by
  unfold r43_nan
  rw [rclass_eq h]
  exact decide_eq_decide.2 cls_zero
theorem cls_pos {p : Nat} (h : W64 p) (hn : ¬ nanB p) : cls p < 5 ↔ keyB p ≤ 0 := by
  have hc := rk_cases h
  have e : rk p = cls p := by unfold rk; rw [if_pos (fun h => hn (cls_zero.1 h))]
  rw [e] at hc
  rcases hc with ⟨h1, _⟩ | ⟨_, hc⟩
  · exact absurd h1 hn
  · omega
theorem or3 {A B C : Prop} [Decidable A] [Decidable B] [Decidable C] : (decide A || (decide B || decide C)) = true ↔ A ∨ B ∨ C := by simp
theorem rmix_eq {old x share : Nat} (h1 : W64 old) (h2 : W64 x) (h3 : W64 share) : r43_Mix (old : Int) (x : Int) (share : Int) = ((mixN old x share : Nat) : Int) := by
  unfold r43_Mix mixN
  rw [rnan_eq h1, rnan_eq h2, rnan_eq h3, rclean_eq h2, rclass_eq h3]
  simp only [decide_eq_true_eq, Int.toNat_natCast]
  by_cases c1 : nanB old
  · rw [if_pos c1, if_pos c1]
  · rw [if_neg c1, if_neg c1]
    have or3 := or3 (A := nanB x) (B := nanB share) (C := cls share < 5)
    by_cases c2 : nanB x
    · have hp : nanB x ∨ nanB share ∨ keyB share ≤ 0 := .inl c2
      rw [if_pos hp, if_pos (or3.2 (.inl c2))]
    · by_cases c3 : nanB share
      · have hp : nanB x ∨ nanB share ∨ keyB share ≤ 0 := .inr (.inl c3)
        rw [if_pos hp, if_pos (or3.2 (.inr (.inl c3)))]
      · have hq := cls_pos h3 c3
        by_cases c4 : keyB share ≤ 0
        · have hp : nanB x ∨ nanB share ∨ keyB share ≤ 0 := .inr (.inr c4)
          rw [if_pos hp, if_pos (or3.2 (.inr (.inr (hq.2 c4))))]
        · have hp : ¬ (nanB x ∨ nanB share ∨ keyB share ≤ 0) := fun h => h.elim c2 fun h => h.elim c3 c4
          rw [if_neg hp, if_neg (fun h => (or3.1 h).elim c2 fun h => h.elim c3 fun h => c4 (hq.1 h))]
          have ec : 0 ≤ r03_Compare (share : Int) 4607182418800017408 ↔ 4607182418800017408 ≤ keyB share := by
            rw [show (4607182418800017408 : Int) = ((4607182418800017408 : Nat) : Int) from rfl, rcompare_eq h3 (by unfold W64; decide)]
            have k1 := cmpP_cases (plc share) (plc 4607182418800017408)
            have k2 : plc 4607182418800017408 = 13830554455654793216 := by decide
            rcases rk_cases h3 with ⟨h, _⟩ | ⟨_, hc⟩
            · exact absurd h c3
            · rw [k2] at k1 ⊢
              generalize cmpP (plc share) 13830554455654793216 = z at *
              generalize plc share = y at *
              generalize keyB share = kk at *
              generalize rk share = rr at *
              omega
          by_cases c5 : 4607182418800017408 ≤ keyB share
          · rw [if_pos c5, if_pos (ec.2 c5)]
          · rw [if_neg c5, if_neg (fun h => c5 (ec.1 h))]
            unfold r43_bits
            rw [rclean_eq (fadd_lt _ _)]
theorem rate_eq (n s : Int) : meter_Rate n s = cfn (fdiv (fInt n) (fInt s)) ∧ r43_Rate n s = ((cfn (fdiv (fInt n) (fInt s)) : Nat) : Int) := by
  unfold meter_Rate r43_Rate r43_bits
  rw [fclean_eq, rclean_eq (fdiv_lt _ _)]
  exact ⟨rfl, rfl⟩
theorem rate_lt (n s : Int) : W64 (meter_Rate n s) := by rw [(rate_eq n s).1]; exact cfn_lt (fdiv_lt _ _)
abbrev Mt := Nat × Nat × Int × Int
def closeN (m : Mt) (at' : Int) : Mt := if at' ≤ m.2.2.2 ∨ 1125899906842624 < at' then m else (m.1, mixN m.2.1 (cfn (fdiv (fInt m.2.2.1) (fInt (at' - m.2.2.2)))) m.1, 0, at')
theorem close_eq (m : Mt) (at' : Int) (h1 : W64 m.1) (h2 : W64 m.2.1) (h3 : 0 ≤ m.2.2.2) : meter_Meter_Close m at' = some (closeN m at') := by
  unfold meter_Meter_Close closeN
  by_cases h : at' ≤ m.2.2.2 ∨ 1125899906842624 < at'
  · rw [if_pos (by simpa using h), if_pos h]
  · rw [if_neg (by simpa using h), if_neg h, w64_id (by omega), mix_eq h2 (rate_lt _ _) h1, (rate_eq _ _).1]; rfl
theorem awake43 : L43_awake = some true := by
  unfold L43_awake
  have e1 : meter_Meter_Count (meter_New 4602678819172646912) 4 = (4602678819172646912, 9221120237041090561, 4, 0) := by decide +kernel
  rw [e1, close_eq _ _ (by unfold W64; decide) (by unfold W64; decide) (by decide)]
  have e2 : closeN (4602678819172646912, 9221120237041090561, 4, 0) 2 = (4602678819172646912, 4611686018427387904, 0, 2) := by decide +kernel
  rw [e2, Option.bind_some, close_eq _ _ (by unfold W64; decide) (by unfold W64; decide) (by decide)]
  have e3 : closeN (4602678819172646912, 4611686018427387904, 0, 2) 4 = (4602678819172646912, 4607182418800017408, 0, 4) := by decide +kernel
  rw [e3, Option.bind_some, class_eq (rate_lt _ _), class_eq (rate_lt _ _), (rate_eq _ _).1, (rate_eq _ _).1]
  have e4 : cls (cfn (fdiv (fInt 0) (fInt 0))) = 0 := by decide +kernel
  have e5 : cls (cfn (fdiv (fInt (-1)) (fInt 0))) = 1 := by decide +kernel
  rw [e4, e5]
  have e6 : fEq (meter_Meter_Value (4602678819172646912, 4611686018427387904, 0, 2)) 4611686018427387904 = true := by decide +kernel
  have e7 : fEq (meter_Meter_Value (4602678819172646912, 4607182418800017408, 0, 4)) 4607182418800017408 = true := by decide +kernel
  rw [if_pos e6, if_pos e7]
  decide
theorem raw43 (p : Nat) : L43_raw (p : Int) = p := by unfold L43_raw; simp
theorem MeterTells_true (p0 : Int) (ok0 : (Lit.int .i64 p0).wf = true) (p1 : Int) (ok1 : (Lit.int .i64 p1).wf = true) (p2 : Int) (ok2 : (Lit.int .u64 p2).wf = true) (p3 : Int) (ok3 : (Lit.int .u64 p3).wf = true) (p4 : Int) (ok4 : (Lit.int .u64 p4).wf = true) : L43_MeterTells p0 p1 p2 p3 p4 = some true := by
  obtain ⟨a, rfl, ha⟩ := wf_u64 ok2
  obtain ⟨b, rfl, hb⟩ := wf_u64 ok3
  obtain ⟨c, rfl, hc⟩ := wf_u64 ok4
  unfold L43_MeterTells
  by_cases h : p0 < -1125899906842624 ∨ 1125899906842624 < p0 ∨ p1 < -1125899906842624 ∨ 1125899906842624 < p1
  · rw [if_pos (by simpa using h)]; exact bindT awake43
  · rw [if_neg (by simpa using h), raw43, raw43, raw43, mix_eq ha hb hc, rmix_eq ha hb hc, rclean_eq (mix_lt ha hb), (rate_eq _ _).1, (rate_eq _ _).2, fbits_eq, cfn_cfn, if_pos rfl, Option.bind_some, fbits_eq, if_pos rfl]
    exact bindT (bindT awake43)

/-! ### Costs -/
set_option exponentiation.threshold 3000
theorem nearest_le (M : Nat) (e : Int) : Ieee.double.nearest false M e ≤ 9218868437227405312 := by
  unfold Ieee.Format.nearest
  by_cases h : M = 0
  · rw [if_pos h, word_pos]; exact Nat.zero_le _
  · rw [if_neg h]
    simp only [dbl.2.1, dbl.2.2]
    rw [word_pos]
    exact Nat.min_le_right _ _
theorem rung_pos {W : Nat} (h : 0 < W) : 1 ≤ rung W := by
  have h1 : rung 1 = 1 := by
    have := rung_mag (r := 1) (by decide)
    have e : magV 1 = 1 := by decide
    rw [e] at this; exact this
  have := rung_mono (show 1 ≤ W by omega)
  omega
theorem least_eq : Ieee.double.leastPlace = -1074 := by decide
theorem fInt_eq {n : Int} (h : 0 ≤ n) : fInt n = rung (n.toNat * 2 ^ 1074) := by
  have e : fInt n = Ieee.double.nearest (decide (n < 0)) n.natAbs 0 := rfl
  rw [e, decide_eq_false (by omega), ← nearest_eq, least_eq]
  congr 1
  omega
theorem fInt_bd {n : Int} (h : 0 ≤ n) (h2 : n ≤ 1125899906842624) : fInt n < 9218868437227405312 ∧ (0 < n → 1 ≤ fInt n) := by
  rw [fInt_eq h]
  constructor
  · have e : magV 4832362400168542208 = 1125899906842624 * 2 ^ 1074 := by decide +kernel
    have h1 := rung_mag (r := 4832362400168542208) (by decide)
    rw [e] at h1
    have := rung_mono (Nat.mul_le_mul_right (2 ^ 1074) (show n.toNat ≤ 1125899906842624 by omega))
    omega
  · intro h3
    exact rung_pos (Nat.mul_pos (by omega) (Nat.two_pow_pos _))
theorem read_lo {b : Nat} (h : b < 9218868437227405312) : ∃ (m a : Nat), Ieee.double.read b = .number false m (Ieee.double.leastPlace + (a : Int)) ∧ m * 2 ^ a = magV b := by
  obtain ⟨m, a, h1, h2⟩ := read_fin (b := b) (by omega)
  have e : negB b = false := by unfold negB; rw [show b / 9223372036854775808 = 0 by omega]; rfl
  rw [e] at h1
  rw [show b % 9223372036854775808 = b by omega] at h2
  exact ⟨m, a, h1, h2⟩
theorem div_cost {x y : Nat} (hx : x < 9218868437227405312) (hy : y < 9218868437227405312) (h0 : 1 ≤ y) : costB (fdiv x y) := by
  obtain ⟨m, a, h1, _⟩ := read_lo hx
  obtain ⟨n, b, h2, h3⟩ := read_lo hy
  have hn : n ≠ 0 := by
    rintro rfl
    rw [Nat.zero_mul] at h3
    have := (magV_zero y).1 h3.symm
    omega
  unfold fdiv Ieee.Format.div
  rw [h1, h2]
  unfold Ieee.Datum.quotient
  simp only [if_neg hn, Option.map_some, Ieee.Format.write, Bool.xor_false]
  exact .inl (nearest_le _ _)
theorem mul_cost {a b : Nat} (ha : costB a) (h0 : 1 ≤ b) (hb : b < 9218868437227405312) : costB (fmul a b) := by
  obtain ⟨n, e, h2, h3⟩ := read_lo hb
  have hn : n ≠ 0 := by
    rintro rfl
    rw [Nat.zero_mul] at h3
    have := (magV_zero b).1 h3.symm
    omega
  unfold fmul Ieee.Format.mul
  rw [h2]
  by_cases hi : a = 9218868437227405312
  · subst hi
    rw [show Ieee.double.read 9218868437227405312 = .infinity false by rw [read_inf (by decide)]; rfl]
    unfold Ieee.Datum.product
    simp only [if_neg hn, Option.map_some]
    exact .inl (by decide)
  · by_cases h9 : a = 9223372036854775808
    · subst h9
      rw [show Ieee.double.read 9223372036854775808 = .number true 0 (-1074) by decide]
      unfold Ieee.Datum.product
      simp only [Option.map_some, Ieee.Format.write, Nat.zero_mul]
      unfold Ieee.Format.nearest
      rw [if_pos rfl]
      exact .inr (by decide)
    · obtain ⟨m, c, h4, _⟩ := read_lo (b := a) (by unfold costB at ha; omega)
      rw [h4]
      unfold Ieee.Datum.product
      simp only [Option.map_some, Ieee.Format.write, Bool.xor_false]
      exact .inl (nearest_le _ _)
theorem sub_pos {s : Nat} (h0 : 1 ≤ s) (h1 : s < 4607182418800017408) : 1 ≤ fsub 4607182418800017408 s ∧ fsub 4607182418800017408 s < 9218868437227405312 := by
  obtain ⟨m, a, e1, e2⟩ := read_lo (b := 4607182418800017408) (by decide)
  obtain ⟨n, b, f1, f2⟩ := read_lo (b := s) (by omega)
  have hlt := magV_lt h1
  have hW : fsub 4607182418800017408 s = rung (magV 4607182418800017408 - magV s) := by
    unfold fsub Ieee.Format.sub
    rw [e1, f1]
    have hc : min (Ieee.double.leastPlace + (a : Int)) (Ieee.double.leastPlace + (b : Int)) = Ieee.double.leastPlace + ((min a b : Nat) : Int) := by omega
    have hsum : Ieee.Datum.sum (.number false m (Ieee.double.leastPlace + (a : Int))) (Ieee.Datum.opposite (.number false n (Ieee.double.leastPlace + (b : Int)))) = some (.number false (m * 2 ^ (a - min a b) - n * 2 ^ (b - min a b)) (Ieee.double.leastPlace + ((min a b : Nat) : Int))) := by
      unfold Ieee.Datum.opposite Ieee.Datum.sum
      simp only [hc]
      rw [show (Ieee.double.leastPlace + (a : Int) - (Ieee.double.leastPlace + ((min a b : Nat) : Int))).toNat = a - min a b by omega, show (Ieee.double.leastPlace + (b : Int) - (Ieee.double.leastPlace + ((min a b : Nat) : Int))).toNat = b - min a b by omega]
      have g1 : Ieee.signed false m (a - min a b) = ((m * 2 ^ (a - min a b) : Nat) : Int) := by unfold Ieee.signed; rw [Nat.shiftLeft_eq]; rfl
      have g2 : Ieee.signed (!false) n (b - min a b) = -((n * 2 ^ (b - min a b) : Nat) : Int) := by unfold Ieee.signed; rw [Nat.shiftLeft_eq]; rfl
      rw [g1, g2]
      have hgt : n * 2 ^ (b - min a b) < m * 2 ^ (a - min a b) := by
        have hp := Nat.two_pow_pos (min a b)
        refine Nat.lt_of_mul_lt_mul_right (a := 2 ^ min a b) ?_
        rw [Nat.mul_assoc, Nat.mul_assoc, ← Nat.pow_add, ← Nat.pow_add, show b - min a b + min a b = b by omega, show a - min a b + min a b = a by omega, e2, f2]
        exact hlt
      generalize m * 2 ^ (a - min a b) = u at *
      generalize n * 2 ^ (b - min a b) = v at *
      rw [if_neg (by omega), decide_eq_false (by omega), show ((u : Int) + -(v : Int)).natAbs = u - v by omega]
    rw [hsum]
    simp only [Option.map_some, Ieee.Format.write]
    rw [nearest_eq]
    congr 1
    rw [Nat.sub_mul, Nat.mul_assoc, Nat.mul_assoc, ← Nat.pow_add, ← Nat.pow_add, show a - min a b + min a b = a by omega, show b - min a b + min a b = b by omega, e2, f2]
  rw [hW]
  constructor
  · exact rung_pos (by omega)
  · have h2 := rung_mono (show magV 4607182418800017408 - magV s ≤ magV 4607182418800017408 by omega)
    rw [rung_mag (r := 4607182418800017408) (by decide)] at h2
    omega
theorem cost_ok {p : Nat} (h : costB p) : W64 p ∧ ¬ nanB p ∧ cfn p = p := by
  have hn : ¬ nanB p := by unfold costB at h; omega
  exact ⟨by unfold costB at h; unfold W64; omega, hn, cfn_ok hn⟩
theorem add_cost {a b : Nat} (ha : costB a) (hb : costB b) : costB (fadd a b) := by
  rcases sum_cost ha hb with ⟨h1, _⟩ | ⟨_, h1⟩ | ⟨_, _, _, h1⟩ <;> rw [h1]
  · exact .inr rfl
  · exact .inl (Nat.le_refl _)
  · exact .inl (by unfold rung; omega)
theorem mix_cost {old x share : Nat} (h3 : W64 share) (ho : nanB old ∨ costB old) (hx : costB x) : costB (mixN old x share) := by
  unfold mixN
  by_cases c1 : nanB old
  · rw [if_pos c1, (cost_ok hx).2.2]; exact hx
  · rw [if_neg c1]
    have ho := ho.resolve_left c1
    by_cases c2 : nanB x ∨ nanB share ∨ keyB share ≤ 0
    · rw [if_pos c2]; exact ho
    · rw [if_neg c2]
      by_cases c3 : 4607182418800017408 ≤ keyB share
      · rw [if_pos c3]; exact hx
      · rw [if_neg c3]
        have hk := key_word h3
        have hs : 1 ≤ share ∧ share < 4607182418800017408 := by omega
        have hsb := sub_pos hs.1 hs.2
        have := add_cost (mul_cost ho hsb.1 hsb.2) (mul_cost hx hs.1 (by omega))
        rw [(cost_ok this).2.2]; exact this
def countN (m : Mt) (n : Int) : Mt := if -m.2.2.1 ≤ n ∧ n ≤ 1125899906842624 - m.2.2.1 then (m.1, m.2.1, m.2.2.1 + n, m.2.2.2) else m
structure Ok43 (m : Mt) : Prop where
  sh : W64 m.1
  v : W64 m.2.1
  cl : cfn m.2.1 = m.2.1
  c0 : 0 ≤ m.2.2.1
  c1 : m.2.2.1 ≤ 1125899906842624
  s0 : 0 ≤ m.2.2.2
  s1 : m.2.2.2 ≤ 1125899906842624
  k : (m.2.2.2 = 0 ∧ nanB m.2.1) ∨ (0 < m.2.2.2 ∧ costB m.2.1)
def up (m : Mt) : Int × Int × Int × Int := ((m.1 : Int), (m.2.1 : Int), m.2.2.1, m.2.2.2)
theorem count_eq {m : Mt} (h : Ok43 m) (n : Int) (hn : -9223372036854775808 ≤ n ∧ n ≤ 9223372036854775807) : meter_Meter_Count m n = countN m n ∧ r43_Meter_Count (up m) n = up (countN m n) ∧ Ok43 (countN m n) := by
  have c0 := h.c0
  have c1 := h.c1
  unfold meter_Meter_Count r43_Meter_Count countN up
  simp only
  rw [w64_id (x := 0 - m.2.2.1) (by omega), w64_id (x := 1125899906842624 - m.2.2.1) (by omega)]
  by_cases hc : -m.2.2.1 ≤ n ∧ n ≤ 1125899906842624 - m.2.2.1
  · rw [if_pos hc, if_pos (by simp; omega), w64_id (by omega), if_pos (by simp; omega)]
    exact ⟨rfl, rfl, ⟨h.sh, h.v, h.cl, by simp only; omega, by simp only; omega, h.s0, h.s1, h.k⟩⟩
  · rw [if_neg hc, if_neg (by simp; omega), if_neg (by
      simp only [Bool.and_eq_true, decide_eq_true_eq]
      rintro ⟨a1, a2, a3, a4⟩
      rw [w64_id (by omega)] at a3 a4
      omega)]
    exact ⟨rfl, rfl, h⟩
theorem close_ok {m : Mt} (h : Ok43 m) (n : Int) : meter_Meter_Close m n = some (closeN m n) ∧ r43_Meter_Close (up m) n = up (closeN m n) ∧ Ok43 (closeN m n) := by
  have s0 := h.s0
  have s1 := h.s1
  refine ⟨close_eq m n h.sh h.v s0, ?_, ?_⟩
  · unfold r43_Meter_Close closeN up
    simp only
    by_cases hc : n ≤ m.2.2.2 ∨ 1125899906842624 < n
    · rw [if_pos hc, if_neg (by simp; omega)]
    · rw [if_neg hc, if_pos (by simp; omega), w64_id (by omega), (rate_eq _ _).2, rmix_eq h.v (cfn_lt (fdiv_lt _ _)) h.sh]
  · unfold closeN
    by_cases hc : n ≤ m.2.2.2 ∨ 1125899906842624 < n
    · rw [if_pos hc]; exact h
    · rw [if_neg hc]
      have f1 := fInt_bd h.c0 h.c1
      have f2 := fInt_bd (n := n - m.2.2.2) (by omega) (by omega)
      have hr := div_cost f1.1 f2.1 (f2.2 (by omega))
      rw [(cost_ok hr).2.2]
      have hm := mix_cost h.sh (h.k.imp (·.2) (·.2)) hr
      have ho := cost_ok hm
      exact ⟨h.sh, ho.1, ho.2.2, by simp, by simp, by simp only; omega, by simp only; omega, .inr ⟨by simp only; omega, hm⟩⟩
theorem kindG {A B : Prop} [Decidable A] [Decidable B] : (if A then some true else some (decide B)) = some (decide (A ∨ B)) := by
  by_cases h0 : A <;> simp [h0]
theorem MeterPlays_true (p0 : Int) (ok0 : (Lit.int .u64 p0).wf = true) (p1 : List (Int × Int)) (ok1 : okL (okP (fun n => (Lit.int .i64 n).wf = true) (fun n => (Lit.int .i64 n).wf = true)) p1) : L43_MeterPlays p0 p1 = some true := by
  obtain ⟨sh, rfl, hsh⟩ := wf_u64 ok0
  unfold L43_MeterPlays
  have hnew : meter_New (L43_raw (sh : Int)) = (sh, 9221120237041090561, 0, 0) := by
    unfold meter_New
    rw [raw43, fclean_eq]
    rfl
  have hok : Ok43 (sh, 9221120237041090561, 0, 0) := ⟨hsh, (by decide : (9221120237041090561 : Nat) < 18446744073709551616), (by decide : cfn 9221120237041090561 = 9221120237041090561), by simp, by simp, by simp, by simp, .inl ⟨rfl, (by decide : nanB 9221120237041090561)⟩⟩
  obtain ⟨e, h1, h2⟩ := loopW_ex (step := L43_MeterPlays_l1 p1) (fun s => ∃ (k : Nat) (m : Mt), k ≤ p1.length ∧ Ok43 m ∧ s = ((k : Int), (m.1 : Int), (m.2.1 : Int), m.2.2.1, m.2.2.2, m.1, m.2.1, m.2.2.1, m.2.2.2)) (fun s => p1.length - s.1.toNat)
    (fun e => ∃ t, e = .inl t) (by
      rintro s ⟨k, ⟨a, b, c, d⟩, hk, hm, rfl⟩
      rw [L43_MeterPlays_l1]
      by_cases hkl : k < p1.length ∧ k < 60
      · left
        have hg : p1[k]? = some p1[k] := List.getElem?_eq_getElem hkl.1
        have hx := ok1.2 p1[k] (List.getElem_mem hkl.1)
        generalize p1[k] = x at *
        have hx2 := wf_i64 hx.2
        obtain ⟨hc1, hc2, hc3⟩ := count_eq hm x.2 hx2
        obtain ⟨hd1, hd2, hd3⟩ := close_ok hm x.2
        have hu : up (a, b, c, d) = ((a : Int), (b : Int), c, d) := rfl
        rw [hu] at hc2 hd2
        rw [if_pos (by simp; omega), ix_nat hg]
        simp only [Option.bind_some, kindG, hc1, hc2, hd1, hd2]
        obtain ⟨m2, hm2, hmid⟩ : ∃ m2 : Mt, Ok43 m2 ∧ (if decide (x.1 = 0 ∨ x.1 = 1 ∨ x.1 = 2) = true then some ((up (countN (a, b, c, d) x.2)).1, (up (countN (a, b, c, d) x.2)).2.1, (up (countN (a, b, c, d) x.2)).2.2.1, (up (countN (a, b, c, d) x.2)).2.2.2, (countN (a, b, c, d) x.2).1, (countN (a, b, c, d) x.2).2.1, (countN (a, b, c, d) x.2).2.2.1, (countN (a, b, c, d) x.2).2.2.2) else (if decide (x.1 = 3 ∨ x.1 = 4) = true then some ((up (closeN (a, b, c, d) x.2)).1, (up (closeN (a, b, c, d) x.2)).2.1, (up (closeN (a, b, c, d) x.2)).2.2.1, (up (closeN (a, b, c, d) x.2)).2.2.2, (closeN (a, b, c, d) x.2).1, (closeN (a, b, c, d) x.2).2.1, (closeN (a, b, c, d) x.2).2.2.1, (closeN (a, b, c, d) x.2).2.2.2) else some ((a : Int), (b : Int), c, d, a, b, c, d))) = some ((m2.1 : Int), (m2.2.1 : Int), m2.2.2.1, m2.2.2.2, m2.1, m2.2.1, m2.2.2.1, m2.2.2.2) := by
          by_cases q1 : x.1 = 0 ∨ x.1 = 1 ∨ x.1 = 2
          · exact ⟨_, hc3, by rw [if_pos (decide_eq_true q1)]; rfl⟩
          · by_cases q2 : x.1 = 3 ∨ x.1 = 4
            · exact ⟨_, hd3, by rw [if_neg (by simpa using q1), if_pos (decide_eq_true q2)]; rfl⟩
            · exact ⟨_, hm, by rw [if_neg (by simpa using q1), if_neg (by simpa using q2)]⟩
        rw [hmid]
        obtain ⟨a2, b2, c2, d2⟩ := m2
        refine ⟨(((k + 1 : Nat) : Int), (a2 : Int), (b2 : Int), c2, d2, a2, b2, c2, d2), ?_, ⟨k + 1, (a2, b2, c2, d2), by omega, hm2, rfl⟩, by simp; omega⟩
        simp only [Option.bind_some]
        have e1 : float_Bits (meter_Meter_Value (a2, b2, c2, d2)) = (b2 : Int) := by
          unfold meter_Meter_Value
          rw [fbits_eq]
          have := hm2.cl
          simp only at this ⊢
          rw [this]
        have e2 : 0 < d2 → float_Cost b2 = true := by
          intro hd
          have hk := hm2.k
          simp only at hk
          have hcb : costB b2 := by
            rcases hk with ⟨h, _⟩ | ⟨_, h⟩
            · omega
            · exact h
          have hkc := key_word (b := b2) (cost_ok hcb).1
          have hz := key_zero
          have hnn := (cost_ok hcb).2.1
          unfold float_Cost
          rw [fGt_eq, fEq_eq, ← Bool.decide_or, decide_eq_true_eq]
          unfold costB at hcb
          omega
        rw [e1]
        have e3 : meter_Meter_Counted (a2, b2, c2, d2) = c2 := rfl
        have e4 : meter_Meter_Since (a2, b2, c2, d2) = d2 := rfl
        have e5 : meter_Meter_Value (a2, b2, c2, d2) = b2 := rfl
        rw [e3, e4, e5]
        by_cases hd : 0 < d2
        · rw [if_neg (by simp [e2 hd]), w64_id (by omega)]; rfl
        · rw [if_neg (by simp [hd]), w64_id (by omega)]; rfl
      · right
        exact ⟨_, by rw [if_neg (by simp; omega)], _, rfl⟩) (0, (sh : Int), 9221120237041090561, 0, 0, sh, 9221120237041090561, 0, 0) ⟨0, (sh, 9221120237041090561, 0, 0), by omega, hok, rfl⟩
  obtain ⟨⟨t1, t2, t3, t4, t5, t6, t7, t8⟩, rfl⟩ := h2
  rw [hnew]
  have hr : r43_New (sh : Int) = ((sh : Int), 9221120237041090561, 0, 0) := rfl
  rw [hr]
  simp only
  unfold orR
  rw [h1]
  have e9 : float_Bits meter_Meter_Value_2 = 9221120237041090561 := by
    unfold meter_Meter_Value_2
    rw [fbits_eq, fclean_eq, cfn_cfn]; rfl
  simp only [Option.bind_some]
  rw [if_pos e9]
  exact bindT (bindT awake43)
end Go.Proofs.Ytdogfpoekndknaa
