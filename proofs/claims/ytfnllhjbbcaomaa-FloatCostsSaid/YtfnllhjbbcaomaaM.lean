/- Layer 3: what the functions answer; the statements, in plain words. Conditions: none. -/
import Derived.Test.YtfnllhjbbcaomaaMF
import Derived.Test.YtfnllhjbbcaomaaA2
namespace Go.Proofs.Ytfnllhjbbcaomaa
set_option linter.unusedVariables false
set_option linter.unusedSimpArgs false
open Go Go.RowKit

abbrev W64 (p : Nat) : Prop := p < 18446744073709551616
theorem bindT {o : Option Bool} (h : o = some true) : (o.bind fun x => some x) = some true := by rw [h]; rfl
theorem nan_word {p : Nat} (h : W64 p) : nanB p ↔ (9218868437227405312 < p ∧ p < 9223372036854775808) ∨ 18442240474082181120 < p := by
  rcases key_word h with h1 | h1 <;> omega
theorem isnan_eq (p : Nat) : math_IsNaN p = decide (nanB p) := by
  unfold math_IsNaN
  rw [fEq_eq]
  by_cases h : nanB p <;> simp [h]
theorem inf_neg {p : Nat} (h : W64 p) : math_IsInf p (-1) = some (decide (p = 18442240474082181120)) := by
  unfold math_IsInf
  rw [if_neg (by decide), if_pos (by decide), Option.bind_some, negF_eq h, fGt_eq]
  congr 1
  refine decide_eq_decide.2 ?_
  have hm := key_word (b := 9218868437227405311) (by decide)
  by_cases h1 : p < 9223372036854775808
  · rw [if_pos h1]
    have := key_word (b := 9223372036854775808 + p) (by omega)
    omega
  · rw [if_neg h1]
    have := key_word (b := p - 9223372036854775808) (by unfold W64 at h; omega)
    omega
theorem inf_pos {p : Nat} (h : W64 p) : math_IsInf p 1 = some (decide (p = 9218868437227405312)) := by
  unfold math_IsInf
  rw [if_neg (by decide), if_neg (by decide), Option.bind_some, fGt_eq]
  congr 1
  refine decide_eq_decide.2 ?_
  have hm := key_word (b := 9218868437227405311) (by decide)
  have := key_word h
  omega
def cls (p : Nat) : Int := if nanB p then 0 else if p = 18442240474082181120 then 1 else if 9223372036854775808 < p then 2 else if p = 9218868437227405312 then 6 else if p = 9223372036854775808 then 3 else if p = 0 then 4 else 5
theorem sign_eq {p : Nat} (h : W64 p) : math_Signbit p = decide (9223372036854775808 ≤ p) := by
  unfold math_Signbit W64 at *
  refine decide_eq_decide.2 ?_
  rw [w64_def]; split <;> omega
theorem class_eq {p : Nat} (h : W64 p) : float_Class p = some (cls p) := by
  unfold float_Class cls
  rw [isnan_eq, inf_neg h, inf_pos h, fLt_eq, fGt_eq, sign_eq h]
  have hk := key_word h
  have h0 := key_word (b := 0) (by decide)
  simp only [Option.bind_some, decide_eq_true_eq]
  by_cases h1 : nanB p
  · rw [if_pos h1, if_pos h1]
  · rw [if_neg h1, if_neg h1]
    by_cases h2 : p = 18442240474082181120
    · rw [if_pos h2, if_pos h2]
    · rw [if_neg h2, if_neg h2]
      by_cases h3 : 9223372036854775808 < p
      · rw [if_pos h3, if_pos (by omega)]
      · rw [if_neg h3, if_neg (by omega)]
        by_cases h4 : p = 9218868437227405312
        · rw [if_pos h4, if_pos h4]
        · rw [if_neg h4, if_neg h4]
          by_cases h5 : p = 9223372036854775808
          · rw [if_neg (by omega), if_pos (by omega), if_pos h5]
          · rw [if_neg h5]
            by_cases h6 : p = 0
            · rw [if_neg (by omega), if_neg (by omega), if_pos h6]
            · rw [if_pos (by omega), if_neg h6]
theorem rclean_eq {p : Nat} (h : W64 p) : r03_Clean (p : Int) = ((cfn p : Nat) : Int) := by
  unfold r03_Clean cfn
  rw [Int.tmod_eq_emod_of_nonneg (by omega)]
  by_cases h1 : 9218868437227405312 < p % 9223372036854775808
  · rw [if_pos h1, if_pos (by omega)]; rfl
  · rw [if_neg h1, if_neg (by omega)]
theorem cfn_nan {p : Nat} (h : nanB p) : cfn p = 9221120237041090561 := if_pos h
theorem cfn_ok {p : Nat} (h : ¬ nanB p) : cfn p = p := if_neg h
theorem cfn_one {p : Nat} (h : W64 p) : cfn p = 9221120237041090561 ↔ nanB p := by
  by_cases h1 : nanB p
  · simp [cfn_nan h1, h1]
  · rw [cfn_ok h1]
    simp only [h1, iff_false]
    rintro rfl
    exact h1 (by unfold nanB; decide)
theorem rclass_eq {p : Nat} (h : W64 p) : r03_Class (p : Int) = cls p := by
  unfold r03_Class cls
  rw [rclean_eq h]
  have hw := nan_word h
  by_cases h1 : nanB p
  · rw [if_pos h1, cfn_nan h1, if_pos (by decide)]
  · rw [if_neg h1, cfn_ok h1, if_neg (by rintro h9; exact h1 ((cfn_one h).1 (by rw [cfn_ok h1]; omega)))]
    by_cases h2 : p = 18442240474082181120
    · rw [if_pos h2, if_pos (by omega)]
    · rw [if_neg h2, if_neg (by omega)]
      by_cases h3 : 9223372036854775808 < p
      · rw [if_pos h3, if_pos (by omega)]
      · rw [if_neg h3, if_neg (by omega)]
        by_cases h4 : p = 9218868437227405312
        · rw [if_pos h4, if_neg (by omega), if_neg (by omega), if_neg (by omega)]
        · rw [if_neg h4]
          by_cases h5 : p = 9223372036854775808
          · rw [if_pos (by omega), if_pos h5]
          · rw [if_neg (by omega), if_neg h5]
            by_cases h6 : p = 0
            · rw [if_pos (by omega), if_pos h6]
            · rw [if_neg (by omega), if_neg h6, if_pos (by omega)]
theorem fclean_eq (p : Nat) : float_Clean p = cfn p := by
  unfold float_Clean cfn
  rw [isnan_eq]
  unfold nanB
  simp only [decide_eq_true_eq]
theorem fbits_eq (p : Nat) : float_Bits p = ((cfn p : Nat) : Int) := by
  unfold float_Bits cfn
  rw [isnan_eq]
  unfold nanB
  simp only [decide_eq_true_eq]
  split <;> rfl
theorem cfn_cfn (p : Nat) : cfn (cfn p) = cfn p := by
  by_cases h : nanB p
  · rw [cfn_nan h]; decide
  · rw [cfn_ok h, cfn_ok h]
theorem cfn_lt {p : Nat} (h : W64 p) : W64 (cfn p) := by
  by_cases h1 : nanB p
  · rw [cfn_nan h1]; unfold W64; decide
  · rw [cfn_ok h1]; exact h
def rk (p : Nat) : Int := if cls p ≠ 0 then cls p else 7
theorem rank_eq {p : Nat} (h : W64 p) : float_rank p = some (rk p) := by
  unfold float_rank rk
  rw [class_eq h, Option.bind_some]
  split <;> rfl
def plc (p : Nat) : Int := if 9223372036854775808 ≤ cfn p then 9223372036854775807 - ((cfn p % 9223372036854775808 : Nat) : Int) else 9223372036854775808 + ((cfn p : Nat) : Int)
theorem wu64 (x : Int) : IntKind.u64.wrap x = x % 18446744073709551616 := by
  unfold IntKind.wrap
  simp only [IntKind.bits, IntKind.signed]
  simp
theorem rplace_eq {p : Nat} (h : W64 p) : r03_Place (p : Int) = plc p := by
  unfold r03_Place plc
  rw [rclean_eq h, wu64, wu64, Int.tmod_eq_emod_of_nonneg (by omega)]
  have := cfn_lt h
  unfold W64 at this
  split <;> split <;> omega
theorem rk_cases {p : Nat} (h : W64 p) : (nanB p ∧ rk p = 7 ∧ plc p = 18444492273895866369) ∨ (¬ nanB p ∧ ((p = 18442240474082181120 ∧ rk p = 1 ∧ plc p = 4503599627370495 ∧ keyB p = -9218868437227405312) ∨ (9223372036854775808 < p ∧ p < 18442240474082181120 ∧ rk p = 2 ∧ plc p = 18446744073709551615 - (p : Int) ∧ keyB p = 9223372036854775808 - (p : Int))
    ∨ (p = 9223372036854775808 ∧ rk p = 3 ∧ plc p = 9223372036854775807 ∧ keyB p = 0) ∨ (p = 0 ∧ rk p = 4 ∧ plc p = 9223372036854775808 ∧ keyB p = 0) ∨ (0 < p ∧ p < 9218868437227405312 ∧ rk p = 5 ∧ plc p = 9223372036854775808 + (p : Int) ∧ keyB p = (p : Int)) ∨ (p = 9218868437227405312 ∧ rk p = 6 ∧ plc p = 18442240474082181120 ∧ keyB p = 9218868437227405312))) := by
  have hk := key_word h
  have hw := nan_word h
  unfold W64 at h
  by_cases h1 : nanB p
  · left
    refine ⟨h1, ?_, ?_⟩
    · unfold rk cls; rw [if_pos h1]; decide
    · unfold plc; rw [cfn_nan h1]; decide
  · right
    refine ⟨h1, ?_⟩
    have e2 : rk p = (if p = 18442240474082181120 then 1 else if 9223372036854775808 < p then 2 else if p = 9218868437227405312 then 6 else if p = 9223372036854775808 then 3 else if p = 0 then 4 else 5) := by
      unfold rk cls
      rw [if_neg h1]
      by_cases c1 : p = 18442240474082181120 <;> by_cases c2 : 9223372036854775808 < p <;> by_cases c3 : p = 9218868437227405312 <;> by_cases c4 : p = 9223372036854775808 <;> by_cases c5 : p = 0 <;> simp only [c1, c2, c3, c4, c5, if_true, if_false] <;> decide
    have e3 : plc p = (if 9223372036854775808 ≤ p then 9223372036854775807 - ((p % 9223372036854775808 : Nat) : Int) else 9223372036854775808 + (p : Int)) := by
      unfold plc; rw [cfn_ok h1]
    generalize rk p = a at *
    generalize plc p = b at *
    generalize keyB p = c at *
    by_cases c1 : p = 18442240474082181120
    · rw [if_pos c1] at e2; rw [if_pos (by omega)] at e3; left; omega
    · rw [if_neg c1] at e2
      by_cases c2 : 9223372036854775808 < p
      · rw [if_pos c2] at e2; rw [if_pos (by omega)] at e3; right; left; omega
      · rw [if_neg c2] at e2
        by_cases c3 : p = 9218868437227405312
        · rw [if_pos c3] at e2; rw [if_neg (by omega)] at e3; right; right; right; right; right; omega
        · rw [if_neg c3] at e2
          by_cases c4 : p = 9223372036854775808
          · rw [if_pos c4] at e2; rw [if_pos (by omega)] at e3; right; right; left; omega
          · rw [if_neg c4] at e2
            by_cases c5 : p = 0
            · rw [if_pos c5] at e2; rw [if_neg (by omega)] at e3; right; right; right; left; omega
            · rw [if_neg c5] at e2; rw [if_neg (by omega)] at e3; right; right; right; right; left; omega
def cmpP (a b : Int) : Int := if a < b then -1 else if b < a then 1 else 0
theorem cmpP_cases (a b : Int) : (a < b ∧ cmpP a b = -1) ∨ (b < a ∧ cmpP a b = 1) ∨ (a = b ∧ cmpP a b = 0) := by
  unfold cmpP
  by_cases h1 : a < b
  · rw [if_pos h1]; exact .inl ⟨h1, rfl⟩
  · rw [if_neg h1]
    by_cases h2 : b < a
    · rw [if_pos h2]; exact .inr (.inl ⟨h2, rfl⟩)
    · rw [if_neg h2]; exact .inr (.inr ⟨by omega, rfl⟩)
theorem lt_iff {p q : Nat} (hp : W64 p) (hq : W64 q) : (fLt p q = true ↔ rk p ≠ 7 ∧ rk q ≠ 7 ∧ keyB p < keyB q) ∧ (fGt p q = true ↔ rk p ≠ 7 ∧ rk q ≠ 7 ∧ keyB q < keyB p) ∧ (fEq p q = true ↔ rk p ≠ 7 ∧ rk q ≠ 7 ∧ keyB p = keyB q) := by
  have n1 : nanB p ↔ rk p = 7 := by
    rcases rk_cases hp with ⟨h, h2, _⟩ | ⟨h, h2⟩
    · simp [h, h2]
    · simp only [h, false_iff]; omega
  have n2 : nanB q ↔ rk q = 7 := by
    rcases rk_cases hq with ⟨h, h2, _⟩ | ⟨h, h2⟩
    · simp [h, h2]
    · simp only [h, false_iff]; omega
  rw [fLt_eq, fGt_eq, fEq_eq]
  simp only [decide_eq_true_eq]
  rw [n1, n2]
  exact ⟨Iff.rfl, Iff.rfl, Iff.rfl⟩
theorem compare_eq {p q : Nat} (hp : W64 p) (hq : W64 q) : float_Compare p q = some (cmpP (plc p) (plc q)) := by
  unfold float_Compare cmpP
  rw [rank_eq hp, Option.bind_some, rank_eq hq, Option.bind_some]
  obtain ⟨l1, l2, l3⟩ := lt_iff hp hq
  simp only [l1, l2]
  have cp : (rk p = 7 ∧ plc p = 18444492273895866369) ∨ _ := (rk_cases hp).imp (fun h => h.2) (fun h => h.2)
  have cq : (rk q = 7 ∧ plc q = 18444492273895866369) ∨ _ := (rk_cases hq).imp (fun h => h.2) (fun h => h.2)
  clear l1 l2 l3
  generalize rk p = a1 at *
  generalize plc p = a2 at *
  generalize keyB p = a3 at *
  generalize rk q = b1 at *
  generalize plc q = b2 at *
  generalize keyB q = b3 at *
  by_cases h1 : a1 < b1
  · rw [if_pos h1, if_pos (by omega)]
  · rw [if_neg h1]
    by_cases h2 : b1 < a1
    · rw [if_pos h2, if_neg (by omega), if_pos (by omega)]
    · rw [if_neg h2]
      by_cases h3 : a1 ≠ 7 ∧ b1 ≠ 7 ∧ a3 < b3
      · rw [if_pos h3, if_pos (by omega)]
      · rw [if_neg h3]
        by_cases h4 : a1 ≠ 7 ∧ b1 ≠ 7 ∧ b3 < a3
        · rw [if_pos h4, if_neg (by omega), if_pos (by omega)]
        · rw [if_neg h4, if_neg (by omega), if_neg (by omega)]
theorem rcompare_eq {p q : Nat} (hp : W64 p) (hq : W64 q) : r03_Compare (p : Int) (q : Int) = cmpP (plc p) (plc q) := by
  unfold r03_Compare cmpP
  rw [rplace_eq hp, rplace_eq hq]
theorem raw_nat (p : Nat) : L03_raw (p : Int) = p := by unfold L03_raw; simp
theorem wf_u64 {n : Int} (h : (Lit.int .u64 n).wf = true) : ∃ p : Nat, n = (p : Int) ∧ W64 p := by
  simp only [Lit.wf, IntKind.has] at h
  have : 0 ≤ n ∧ n ≤ 18446744073709551615 := by simpa [IntKind.min, IntKind.max, IntKind.bits, IntKind.signed] using h
  exact ⟨n.toNat, by omega, by unfold W64; omega⟩
theorem sum_fold (l : List Nat) (hl : l.length ≤ 1000000000) : float_Sum l = some (cfn (l.foldl fadd 0)) := by
  unfold float_Sum
  rw [loop_fold l fadd (float_Sum_l1 l) hl (fun x i => by rw [float_Sum_l1]) 0, Option.bind_some, fclean_eq]
theorem of_eq (p : Nat) : float_Of (p : Int) = cfn p := by unfold float_Of; rw [fclean_eq]; simp
theorem awake3 : L03_awake = some true := by
  unfold L03_awake
  have e1 : float_Of 9223372036854775808 = 9223372036854775808 := by rw [show (9223372036854775808 : Int) = ((9223372036854775808 : Nat) : Int) from rfl, of_eq]; decide
  have e2 : float_Of 0 = 0 := by rw [show (0 : Int) = ((0 : Nat) : Int) from rfl, of_eq]; decide
  have e3 : float_Of 9218868437227405312 = 9218868437227405312 := by rw [show (9218868437227405312 : Int) = ((9218868437227405312 : Nat) : Int) from rfl, of_eq]; decide
  have e4 : float_Of 18442240474082181120 = 18442240474082181120 := by rw [show (18442240474082181120 : Int) = ((18442240474082181120 : Nat) : Int) from rfl, of_eq]; decide
  rw [e1, e2, e3, e4, compare_eq (by unfold W64; decide) (by unfold W64; decide), Option.bind_some, sum_fold _ (by decide), class_eq (by unfold W64; decide)]
  have e5 : cmpP (plc 9223372036854775808) (plc 0) = -1 := by decide
  have e6 : cfn ([9218868437227405312, 18442240474082181120].foldl fadd 0) = 9221120237041090561 := by decide +kernel
  rw [if_pos e5, Option.bind_some, e6, fbits_eq, if_pos (by decide)]
  decide
theorem row_in {a b : Nat} (ha : W64 a) (hb : W64 b) : (if cmpP (plc a) (plc b) < 0 then (if ((cfn b : Nat) : Int) ≠ 9221120237041090561 then (if fLt a b = (!(fEq a b)) then L03_awake.bind fun x7 => some x7 else some false) else (if fLt a b = false then L03_awake.bind fun x8 => some x8 else some false)) else (if fLt a b = false then L03_awake.bind fun x9 => some x9 else some false)) = some true := by
  obtain ⟨l1, _, l3⟩ := lt_iff ha hb
  have cn := cfn_one hb
  have kab := cmpP_cases (plc a) (plc b)
  have nb : nanB b ↔ rk b = 7 := by
    rcases rk_cases hb with ⟨h, h2, _⟩ | ⟨h, h2⟩
    · simp [h, h2]
    · simp only [h, false_iff]; omega
  have ca' := (rk_cases ha).imp (fun h => h.2) (fun h => h.2)
  have cb' := (rk_cases hb).imp (fun h => h.2) (fun h => h.2)
  generalize rk a = a1 at *
  generalize plc a = a2 at *
  generalize keyB a = a3 at *
  generalize rk b = b1 at *
  generalize plc b = b2 at *
  generalize keyB b = b3 at *
  generalize cmpP a2 b2 = z at *
  by_cases h1 : z < 0
  · rw [if_pos h1]
    by_cases h2 : cfn b = 9221120237041090561
    · have h7 := nb.1 (cn.1 h2)
      have e1 : fLt a b = false := by rw [← Bool.not_eq_true, l1]; omega
      rw [if_neg (by omega), if_pos e1, awake3]; rfl
    · have hb7 : b1 ≠ 7 := fun h => h2 (cn.2 (nb.2 h))
      have e1 : fLt a b = (!(fEq a b)) := by
        rw [Bool.eq_iff_iff, Bool.not_eq_true', ← Bool.not_eq_true, l1, l3]
        clear l1 l3 cn nb
        omega
      rw [if_pos (by omega), if_pos e1, awake3]; rfl
  · have e1 : fLt a b = false := by
      rw [← Bool.not_eq_true, l1]
      clear l1 l3 cn nb
      omega
    rw [if_neg h1, if_pos e1, awake3]; rfl
theorem FloatRow_true (p0 : Int) (ok0 : (Lit.int .u64 p0).wf = true) (p1 : Int) (ok1 : (Lit.int .u64 p1).wf = true) (p2 : Int) (ok2 : (Lit.int .u64 p2).wf = true) : L03_FloatRow p0 p1 p2 = some true := by
  obtain ⟨a, rfl, ha⟩ := wf_u64 ok0
  obtain ⟨b, rfl, hb⟩ := wf_u64 ok1
  obtain ⟨c, rfl, hc⟩ := wf_u64 ok2
  unfold L03_FloatRow
  simp only [raw_nat, compare_eq ha hb, compare_eq hb hc, compare_eq ha hc, compare_eq hb ha, Option.bind_some, rclean_eq ha, rclean_eq hb]
  have ca := rk_cases ha
  have cb := rk_cases hb
  have kab := cmpP_cases (plc a) (plc b)
  have kba := cmpP_cases (plc b) (plc a)
  have kbc := cmpP_cases (plc b) (plc c)
  have kac := cmpP_cases (plc a) (plc c)
  rw [w64_id (x := 0 - cmpP (plc a) (plc b)) (by omega), if_neg (by omega)]
  have hz : cmpP (plc a) (plc b) = 0 ↔ ((cfn a : Nat) : Int) = ((cfn b : Nat) : Int) := by
    have e1 : cmpP (plc a) (plc b) = 0 ↔ plc a = plc b := by omega
    rw [e1]
    have k1 : nanB a → cfn a = 9221120237041090561 := cfn_nan
    have k2 : ¬ nanB a → cfn a = a := cfn_ok
    have k3 : nanB b → cfn b = 9221120237041090561 := cfn_nan
    have k4 : ¬ nanB b → cfn b = b := cfn_ok
    have w1 := nan_word ha
    have w2 := nan_word hb
    rcases ca with ⟨h1, _, h2⟩ | ⟨h1, h2⟩ <;> rcases cb with ⟨h3, _, h4⟩ | ⟨h3, h4⟩
    · rw [k1 h1, k3 h3]; omega
    · rw [k1 h1, k4 h3]; omega
    · rw [k2 h1, k3 h3]; omega
    · rw [k2 h1, k4 h3]; omega
  rw [show (decide ((decide (cmpP (plc a) (plc b) = 0)) ≠ (decide (((cfn a : Nat) : Int) = ((cfn b : Nat) : Int))))) = false from by simp only [hz]; simp, Option.bind_some, if_neg (by simp)]
  rw [row_in ha hb]
  have ht : ¬ 0 < cmpP (plc a) (plc b) → ¬ 0 < cmpP (plc b) (plc c) → cmpP (plc a) (plc c) ≤ 0 := by omega
  by_cases h1 : 0 < cmpP (plc a) (plc b)
  · rw [if_pos h1]; rfl
  · rw [if_neg h1]
    by_cases h2 : 0 < cmpP (plc b) (plc c)
    · rw [if_pos h2]; rfl
    · rw [if_neg h2, if_pos (ht h1 h2)]; rfl
end Go.Proofs.Ytfnllhjbbcaomaa
