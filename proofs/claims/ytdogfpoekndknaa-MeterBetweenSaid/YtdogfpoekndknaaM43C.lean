/- Layer 43: floats. Conditions: none. -/
import Derived.Test.YtdogfpoekndknaaM43N
import Derived.Test.YtdogfpoekndknaaB0
namespace Go.Proofs.Ytdogfpoekndknaa
set_option linter.unusedVariables false
set_option linter.unusedSimpArgs false
open Go Go.RowKit
abbrev W64 (p : Nat) : Prop := p < 18446744073709551616
theorem bindT {o : Option Bool} (h : o = some true) : (o.bind fun x => some x) = some true := by rw [h]; rfl
theorem nan_word {p : Nat} (h : W64 p) : nanB p ↔ (9218868437227405312 < p ∧ p < 9223372036854775808) ∨ 18442240474082181120 < p := by
  rcases key_word h with h1 | h1 <;> omega
theorem isnan_eq (p : Nat) : math_IsNaN p = decide (nanB p) := by
  unfold math_IsNaN
  rw [fEq_eq]
  by_cases h : nanB p <;> simp [h]
theorem inf_neg {p : Nat} (h : W64 p) : math_IsInf p (-1) = some (decide (p = 18442240474082181120)) := by
  unfold math_IsInf
  rw [if_neg (by decide), if_pos (by decide), Option.bind_some, negF_eq h, fGt_eq]
  congr 1
  refine decide_eq_decide.2 ?_
  have hm := key_word (b := 9218868437227405311) (by decide)
  by_cases h1 : p < 9223372036854775808
  · rw [if_pos h1]
    have := key_word (b := 9223372036854775808 + p) (by omega)
    omega
  · rw [if_neg h1]
    have := key_word (b := p - 9223372036854775808) (by unfold W64 at h; omega)
    omega
theorem inf_pos {p : Nat} (h : W64 p) : math_IsInf p 1 = some (decide (p = 9218868437227405312)) := by
  unfold math_IsInf
  rw [if_neg (by decide), if_neg (by decide), Option.bind_some, fGt_eq]
  congr 1
  refine decide_eq_decide.2 ?_
  have hm := key_word (b := 9218868437227405311) (by decide)
  have := key_word h
  omega
def cls (p : Nat) : Int := if nanB p then 0 else if p = 18442240474082181120 then 1 else if 9223372036854775808 < p then 2 else if p = 9218868437227405312 then 6 else if p = 9223372036854775808 then 3 else if p = 0 then 4 else 5
theorem sign_eq {p : Nat} (h : W64 p) : math_Signbit p = decide (9223372036854775808 ≤ p) := by
  unfold math_Signbit W64 at *
  refine decide_eq_decide.2 ?_
  rw [w64_def]; split <;> omega
theorem class_eq {p : Nat} (h : W64 p) : float_Class p = some (cls p) := by
  unfold float_Class cls
  rw [isnan_eq, inf_neg h, inf_pos h, fLt_eq, fGt_eq, sign_eq h]
  have hk := key_word h
  have h0 := key_word (b := 0) (by decide)
  simp only [Option.bind_some, decide_eq_true_eq]
  by_cases h1 : nanB p
  · rw [if_pos h1, if_pos h1]
  · rw [if_neg h1, if_neg h1]
    by_cases h2 : p = 18442240474082181120
    · rw [if_pos h2, if_pos h2]
    · rw [if_neg h2, if_neg h2]
      by_cases h3 : 9223372036854775808 < p
      · rw [if_pos h3, if_pos (by omega)]
      · rw [if_neg h3, if_neg (by omega)]
        by_cases h4 : p = 9218868437227405312
        · rw [if_pos h4, if_pos h4]
        · rw [if_neg h4, if_neg h4]
          by_cases h5 : p = 9223372036854775808
          · rw [if_neg (by omega), if_pos (by omega), if_pos h5]
          · rw [if_neg h5]
            by_cases h6 : p = 0
            · rw [if_neg (by omega), if_neg (by omega), if_pos h6]
            · rw [if_pos (by omega), if_neg h6]
theorem cfn_nan {p : Nat} (h : nanB p) : cfn p = 9221120237041090561 := if_pos h
theorem cfn_ok {p : Nat} (h : ¬ nanB p) : cfn p = p := if_neg h
theorem fclean_eq (p : Nat) : float_Clean p = cfn p := by
  unfold float_Clean cfn
  rw [isnan_eq]
  unfold nanB
  simp only [decide_eq_true_eq]
theorem cfn_cfn (p : Nat) : cfn (cfn p) = cfn p := by
  by_cases h : nanB p
  · rw [cfn_nan h]; decide
  · rw [cfn_ok h, cfn_ok h]
theorem cfn_lt {p : Nat} (h : W64 p) : W64 (cfn p) := by
  by_cases h1 : nanB p
  · rw [cfn_nan h1]; unfold W64; decide
  · rw [cfn_ok h1]; exact h
theorem wf_u64 {n : Int} (h : (Lit.int .u64 n).wf = true) : ∃ p : Nat, n = (p : Int) ∧ W64 p := by
  simp only [Lit.wf, IntKind.has] at h
  have : 0 ≤ n ∧ n ≤ 18446744073709551615 := by simpa [IntKind.min, IntKind.max, IntKind.bits, IntKind.signed] using h
  exact ⟨n.toNat, by omega, by unfold W64; omega⟩
theorem cost_eq {p : Nat} (h : W64 p) : float_Cost p = r03_Cost (p : Int) := by
  unfold float_Cost r03_Cost
  rw [fGt_eq, fEq_eq, ← Bool.decide_or, ← Bool.decide_or]
  refine decide_eq_decide.2 ?_
  have hk := key_word h
  have h0 := key_word (b := 0) (by decide)
  omega
theorem cost_iff {p : Nat} : r03_Cost (p : Int) = true ↔ costB p := by
  unfold r03_Cost costB
  simp only [Bool.or_eq_true, decide_eq_true_eq]
  omega
theorem cls_zero {p : Nat} : cls p = 0 ↔ nanB p := by
  unfold cls
  by_cases h : nanB p
  · simp [h]
  · rw [if_neg h]
    simp only [h, iff_false]
    repeat' split
    all_goals decide
theorem fdiv_lt (x y : Nat) : W64 (fdiv x y) := by
  unfold fdiv
  cases h : Ieee.double.div x y with
  | none => unfold W64; decide
  | some r => exact Ieee.Format.div_lt _ h
def mixN (old x share : Nat) : Nat :=
  if nanB old then cfn x else if nanB x ∨ nanB share ∨ keyB share ≤ 0 then old else if 4607182418800017408 ≤ keyB share then x else cfn (fadd (fmul old (fsub 4607182418800017408 share)) (fmul x share))
theorem isNaN_eq {p : Nat} (h : W64 p) : meter_isNaN p = some (decide (nanB p)) := by
  unfold meter_isNaN
  rw [class_eq h, Option.bind_some]
  congr 1
  exact decide_eq_decide.2 cls_zero
theorem key_zero : keyB 0 = 0 ∧ ¬ nanB 0 := by have := key_word (b := 0) (by decide); omega
theorem key_one : keyB 4607182418800017408 = 4607182418800017408 ∧ ¬ nanB 4607182418800017408 := by have := key_word (b := 4607182418800017408) (by decide); omega
theorem mix_eq {old x share : Nat} (h1 : W64 old) (h2 : W64 x) (h3 : W64 share) : meter_Mix old x share = some (mixN old x share) := by
  unfold meter_Mix mixN
  rw [isNaN_eq h1, isNaN_eq h2, isNaN_eq h3]
  simp only [Option.bind_some, decide_eq_true_eq, fclean_eq]
  by_cases c1 : nanB old
  · rw [if_pos c1, if_pos c1]
  · rw [if_neg c1, if_neg c1]
    have e0 : (fLt share 0 || fEq share 0) = decide (¬ nanB share ∧ keyB share ≤ 0) := by
      rw [fLt_eq, fEq_eq, ← Bool.decide_or]
      refine decide_eq_decide.2 ?_
      have := key_zero
      omega
    have e1 : (fGt share 4607182418800017408 || fEq share 4607182418800017408) = decide (¬ nanB share ∧ 4607182418800017408 ≤ keyB share) := by
      rw [fGt_eq, fEq_eq, ← Bool.decide_or]
      refine decide_eq_decide.2 ?_
      have := key_one
      omega
    rw [e0, e1]
    by_cases c2 : nanB x
    · have hp : nanB x ∨ nanB share ∨ keyB share ≤ 0 := .inl c2
      rw [if_pos c2, if_pos hp]; rfl
    · rw [if_neg c2]
      by_cases c3 : nanB share
      · have hp : nanB x ∨ nanB share ∨ keyB share ≤ 0 := .inr (.inl c3)
        rw [if_pos c3, if_pos hp]; rfl
      · rw [if_neg c3]
        by_cases c4 : keyB share ≤ 0
        · have hp : nanB x ∨ nanB share ∨ keyB share ≤ 0 := .inr (.inr c4)
          rw [decide_eq_true (p := ¬ nanB share ∧ keyB share ≤ 0) ⟨c3, c4⟩, if_pos hp]; rfl
        · have hp : ¬ (nanB x ∨ nanB share ∨ keyB share ≤ 0) := fun h => h.elim c2 fun h => h.elim c3 c4
          rw [decide_eq_false (p := ¬ nanB share ∧ keyB share ≤ 0) (fun h => c4 h.2), if_neg hp, Option.bind_some, if_neg Bool.false_ne_true]
          by_cases c5 : 4607182418800017408 ≤ keyB share
          · rw [decide_eq_true (p := ¬ nanB share ∧ 4607182418800017408 ≤ keyB share) ⟨c3, c5⟩, if_pos c5, if_pos rfl]
          · rw [decide_eq_false (p := ¬ nanB share ∧ 4607182418800017408 ≤ keyB share) (fun h => c5 h.2), if_neg c5, if_neg Bool.false_ne_true]
abbrev Mt := Nat × Nat × Int × Int
def closeN (m : Mt) (at' : Int) : Mt := if at' ≤ m.2.2.2 ∨ 1125899906842624 < at' then m else (m.1, mixN m.2.1 (cfn (fdiv (fInt m.2.2.1) (fInt (at' - m.2.2.2)))) m.1, 0, at')
theorem rate_eq (n s : Int) : meter_Rate n s = cfn (fdiv (fInt n) (fInt s)) ∧ True := by
  unfold meter_Rate
  rw [fclean_eq]
  exact ⟨rfl, trivial⟩
theorem rate_lt (n s : Int) : W64 (meter_Rate n s) := by rw [(rate_eq n s).1]; exact cfn_lt (fdiv_lt _ _)
theorem close_eq (m : Mt) (at' : Int) (h1 : W64 m.1) (h2 : W64 m.2.1) (h3 : 0 ≤ m.2.2.2) : meter_Meter_Close m at' = some (closeN m at') := by
  unfold meter_Meter_Close closeN
  by_cases h : at' ≤ m.2.2.2 ∨ 1125899906842624 < at'
  · rw [if_pos (by simpa using h), if_pos h]
  · rw [if_neg (by simpa using h), if_neg h, w64_id (by omega), mix_eq h2 (rate_lt _ _) h1, (rate_eq _ _).1]; rfl
theorem awake43 : L43_awake = some true := by
  unfold L43_awake
  have e1 : meter_Meter_Count (meter_New 4602678819172646912) 4 = (4602678819172646912, 9221120237041090561, 4, 0) := by decide +kernel
  rw [e1, close_eq _ _ (by unfold W64; decide) (by unfold W64; decide) (by decide)]
  have e2 : closeN (4602678819172646912, 9221120237041090561, 4, 0) 2 = (4602678819172646912, 4611686018427387904, 0, 2) := by decide +kernel
  rw [e2, Option.bind_some, close_eq _ _ (by unfold W64; decide) (by unfold W64; decide) (by decide)]
  have e3 : closeN (4602678819172646912, 4611686018427387904, 0, 2) 4 = (4602678819172646912, 4607182418800017408, 0, 4) := by decide +kernel
  rw [e3, Option.bind_some, class_eq (rate_lt _ _), class_eq (rate_lt _ _), (rate_eq _ _).1, (rate_eq _ _).1]
  have e4 : cls (cfn (fdiv (fInt 0) (fInt 0))) = 0 := by decide +kernel
  have e5 : cls (cfn (fdiv (fInt (-1)) (fInt 0))) = 1 := by decide +kernel
  rw [e4, e5]
  have e6 : fEq (meter_Meter_Value (4602678819172646912, 4611686018427387904, 0, 2)) 4611686018427387904 = true := by decide +kernel
  have e7 : fEq (meter_Meter_Value (4602678819172646912, 4607182418800017408, 0, 4)) 4607182418800017408 = true := by decide +kernel
  rw [if_pos e6, if_pos e7]
  decide
theorem raw43 (p : Nat) : L43_raw (p : Int) = p := by unfold L43_raw; simp
theorem nearest_le (M : Nat) (e : Int) : Ieee.double.nearest false M e ≤ 9218868437227405312 := by
  unfold Ieee.Format.nearest
  by_cases h : M = 0
  · rw [if_pos h, word_pos]; exact Nat.zero_le _
  · rw [if_neg h]
    simp only [dbl.2.1, dbl.2.2]
    rw [word_pos]
    exact Nat.min_le_right _ _
theorem rung_pos {W : Nat} (h : 0 < W) : 1 ≤ rung W := by
  have h1 : rung 1 = 1 := by
    have := rung_mag (r := 1) (by decide)
    have e : magV 1 = 1 := by decide
    rw [e] at this; exact this
  have := rung_mono (show 1 ≤ W by omega)
  omega
theorem mul_cost {a b : Nat} (ha : costB a) (h0 : 1 ≤ b) (hb : b < 9218868437227405312) : costB (fmul a b) := by
  obtain ⟨n, e, h2, h3⟩ := read_lo hb
  have hn : n ≠ 0 := by
    rintro rfl
    rw [Nat.zero_mul] at h3
    have := (magV_zero b).1 h3.symm
    omega
  unfold fmul Ieee.Format.mul
  rw [h2]
  by_cases hi : a = 9218868437227405312
  · subst hi
    rw [show Ieee.double.read 9218868437227405312 = .infinity false by rw [read_inf (by decide)]; rfl]
    unfold Ieee.Datum.product
    simp only [if_neg hn, Option.map_some]
    exact .inl (by decide)
  · by_cases h9 : a = 9223372036854775808
    · subst h9
      rw [show Ieee.double.read 9223372036854775808 = .number true 0 (-1074) by decide]
      unfold Ieee.Datum.product
      simp only [Option.map_some, Ieee.Format.write, Nat.zero_mul]
      unfold Ieee.Format.nearest
      rw [if_pos rfl]
      exact .inr (by decide)
    · obtain ⟨m, c, h4, _⟩ := read_lo (b := a) (by unfold costB at ha; omega)
      rw [h4]
      unfold Ieee.Datum.product
      simp only [Option.map_some, Ieee.Format.write, Bool.xor_false]
      exact .inl (nearest_le _ _)
theorem sub_pos {s : Nat} (h0 : 1 ≤ s) (h1 : s < 4607182418800017408) : 1 ≤ fsub 4607182418800017408 s ∧ fsub 4607182418800017408 s < 9218868437227405312 := by
  obtain ⟨m, a, e1, e2⟩ := read_lo (b := 4607182418800017408) (by decide)
  obtain ⟨n, b, f1, f2⟩ := read_lo (b := s) (by omega)
  have hlt := magV_lt h1
  have hW : fsub 4607182418800017408 s = rung (magV 4607182418800017408 - magV s) := by
    unfold fsub Ieee.Format.sub
    rw [e1, f1]
    have hc : min (Ieee.double.leastPlace + (a : Int)) (Ieee.double.leastPlace + (b : Int)) = Ieee.double.leastPlace + ((min a b : Nat) : Int) := by omega
    have hsum : Ieee.Datum.sum (.number false m (Ieee.double.leastPlace + (a : Int))) (Ieee.Datum.opposite (.number false n (Ieee.double.leastPlace + (b : Int)))) = some (.number false (m * 2 ^ (a - min a b) - n * 2 ^ (b - min a b)) (Ieee.double.leastPlace + ((min a b : Nat) : Int))) := by
      unfold Ieee.Datum.opposite Ieee.Datum.sum
      simp only [hc]
      rw [show (Ieee.double.leastPlace + (a : Int) - (Ieee.double.leastPlace + ((min a b : Nat) : Int))).toNat = a - min a b by omega, show (Ieee.double.leastPlace + (b : Int) - (Ieee.double.leastPlace + ((min a b : Nat) : Int))).toNat = b - min a b by omega]
      have g1 : Ieee.signed false m (a - min a b) = ((m * 2 ^ (a - min a b) : Nat) : Int) := by unfold Ieee.signed; rw [Nat.shiftLeft_eq]; rfl
      have g2 : Ieee.signed (!false) n (b - min a b) = -((n * 2 ^ (b - min a b) : Nat) : Int) := by unfold Ieee.signed; rw [Nat.shiftLeft_eq]; rfl
      rw [g1, g2]
      have hgt : n * 2 ^ (b - min a b) < m * 2 ^ (a - min a b) := by
        have hp := Nat.two_pow_pos (min a b)
        refine Nat.lt_of_mul_lt_mul_right (a := 2 ^ min a b) ?_
        rw [Nat.mul_assoc, Nat.mul_assoc, ← Nat.pow_add, ← Nat.pow_add, show b - min a b + min a b = b by omega, show a - min a b + min a b = a by omega, e2, f2]
        exact hlt
      generalize m * 2 ^ (a - min a b) = u at *
      generalize n * 2 ^ (b - min a b) = v at *
      rw [if_neg (by omega), decide_eq_false (by omega), show ((u : Int) + -(v : Int)).natAbs = u - v by omega]
    rw [hsum]
    simp only [Option.map_some, Ieee.Format.write]
    rw [nearest_eq]
    congr 1
    rw [Nat.sub_mul, Nat.mul_assoc, Nat.mul_assoc, ← Nat.pow_add, ← Nat.pow_add, show a - min a b + min a b = a by omega, show b - min a b + min a b = b by omega, e2, f2]
  rw [hW]
  constructor
  · exact rung_pos (by omega)
  · have h2 := rung_mono (show magV 4607182418800017408 - magV s ≤ magV 4607182418800017408 by omega)
    rw [rung_mag (r := 4607182418800017408) (by decide)] at h2
    omega
theorem sub_le {s : Nat} (h0 : 1 ≤ s) (h1 : s < 4607182418800017408) : 1 ≤ fsub 4607182418800017408 s ∧ fsub 4607182418800017408 s ≤ 4607182418800017408 := by
  obtain ⟨m, a, e1, e2⟩ := read_lo (b := 4607182418800017408) (by decide)
  obtain ⟨n, b, f1, f2⟩ := read_lo (b := s) (by omega)
  have hlt := magV_lt h1
  have hW : fsub 4607182418800017408 s = rung (magV 4607182418800017408 - magV s) := by
    unfold fsub Ieee.Format.sub
    rw [e1, f1]
    have hc : min (Ieee.double.leastPlace + (a : Int)) (Ieee.double.leastPlace + (b : Int)) = Ieee.double.leastPlace + ((min a b : Nat) : Int) := by omega
    have hsum : Ieee.Datum.sum (.number false m (Ieee.double.leastPlace + (a : Int))) (Ieee.Datum.opposite (.number false n (Ieee.double.leastPlace + (b : Int)))) = some (.number false (m * 2 ^ (a - min a b) - n * 2 ^ (b - min a b)) (Ieee.double.leastPlace + ((min a b : Nat) : Int))) := by
      unfold Ieee.Datum.opposite Ieee.Datum.sum
      simp only [hc]
      rw [show (Ieee.double.leastPlace + (a : Int) - (Ieee.double.leastPlace + ((min a b : Nat) : Int))).toNat = a - min a b by omega, show (Ieee.double.leastPlace + (b : Int) - (Ieee.double.leastPlace + ((min a b : Nat) : Int))).toNat = b - min a b by omega]
      have g1 : Ieee.signed false m (a - min a b) = ((m * 2 ^ (a - min a b) : Nat) : Int) := by unfold Ieee.signed; rw [Nat.shiftLeft_eq]; rfl
      have g2 : Ieee.signed (!false) n (b - min a b) = -((n * 2 ^ (b - min a b) : Nat) : Int) := by unfold Ieee.signed; rw [Nat.shiftLeft_eq]; rfl
      rw [g1, g2]
      have hgt : n * 2 ^ (b - min a b) < m * 2 ^ (a - min a b) := by
        have hp := Nat.two_pow_pos (min a b)
        refine Nat.lt_of_mul_lt_mul_right (a := 2 ^ min a b) ?_
        rw [Nat.mul_assoc, Nat.mul_assoc, ← Nat.pow_add, ← Nat.pow_add, show b - min a b + min a b = b by omega, show a - min a b + min a b = a by omega, e2, f2]
        exact hlt
      generalize m * 2 ^ (a - min a b) = u at *
      generalize n * 2 ^ (b - min a b) = v at *
      rw [if_neg (by omega), decide_eq_false (by omega), show ((u : Int) + -(v : Int)).natAbs = u - v by omega]
    rw [hsum]
    simp only [Option.map_some, Ieee.Format.write]
    rw [nearest_eq]
    congr 1
    rw [Nat.sub_mul, Nat.mul_assoc, Nat.mul_assoc, ← Nat.pow_add, ← Nat.pow_add, show a - min a b + min a b = a by omega, show b - min a b + min a b = b by omega, e2, f2]
  rw [hW]
  constructor
  · exact rung_pos (by omega)
  · have h2 := rung_mono (show magV 4607182418800017408 - magV s ≤ magV 4607182418800017408 by omega)
    rw [rung_mag (r := 4607182418800017408) (by decide)] at h2
    omega
theorem cost_ok {p : Nat} (h : costB p) : W64 p ∧ ¬ nanB p ∧ cfn p = p := by
  have hn : ¬ nanB p := by unfold costB at h; omega
  exact ⟨by unfold costB at h; unfold W64; omega, hn, cfn_ok hn⟩
theorem add_cost {a b : Nat} (ha : costB a) (hb : costB b) : costB (fadd a b) := by
  rcases sum_cost ha hb with ⟨h1, _⟩ | ⟨_, h1⟩ | ⟨_, _, _, h1⟩ <;> rw [h1]
  · exact .inr rfl
  · exact .inl (Nat.le_refl _)
  · exact .inl (by unfold rung; omega)
theorem mix_cost {old x share : Nat} (h3 : W64 share) (ho : nanB old ∨ costB old) (hx : costB x) : costB (mixN old x share) := by
  unfold mixN
  by_cases c1 : nanB old
  · rw [if_pos c1, (cost_ok hx).2.2]; exact hx
  · rw [if_neg c1]
    have ho := ho.resolve_left c1
    by_cases c2 : nanB x ∨ nanB share ∨ keyB share ≤ 0
    · rw [if_pos c2]; exact ho
    · rw [if_neg c2]
      by_cases c3 : 4607182418800017408 ≤ keyB share
      · rw [if_pos c3]; exact hx
      · rw [if_neg c3]
        have hk := key_word h3
        have hs : 1 ≤ share ∧ share < 4607182418800017408 := by omega
        have hsb := sub_pos hs.1 hs.2
        have := add_cost (mul_cost ho hsb.1 hsb.2) (mul_cost hx hs.1 (by omega))
        rw [(cost_ok this).2.2]; exact this
end Go.Proofs.Ytdogfpoekndknaa
