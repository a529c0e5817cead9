/- Layer 18: numbers. Conditions: none. -/
import Derived.Test.YtphhiiemopkinaaLP
import Derived.Test.YtphhiiemopkinaaMR
import Derived.Test.YtphhiiemopkinaaRF
import Derived.Test.YtphhiiemopkinaaA1
namespace Go.Proofs.Ytphhiiemopkinaa
set_option linter.unusedVariables false
set_option linter.unusedSimpArgs false
open Go Go.RowKit
abbrev W64 (p : Nat) : Prop := p < 18446744073709551616
theorem bindT {o : Option Bool} (h : o = some true) : (o.bind fun x => some x) = some true := by rw [h]; rfl
theorem nan_word {p : Nat} (h : W64 p) : nanB p ↔ (9218868437227405312 < p ∧ p < 9223372036854775808) ∨ 18442240474082181120 < p := by
  rcases key_word h with h1 | h1 <;> omega
theorem isnan_eq (p : Nat) : math_IsNaN p = decide (nanB p) := by
  unfold math_IsNaN
  rw [fEq_eq]
  by_cases h : nanB p <;> simp [h]
theorem inf_neg {p : Nat} (h : W64 p) : math_IsInf p (-1) = some (decide (p = 18442240474082181120)) := by
  unfold math_IsInf
  rw [if_neg (by decide), if_pos (by decide), Option.bind_some, negF_eq h, fGt_eq]
  congr 1
  refine decide_eq_decide.2 ?_
  have hm := key_word (b := 9218868437227405311) (by decide)
  by_cases h1 : p < 9223372036854775808
  · rw [if_pos h1]
    have := key_word (b := 9223372036854775808 + p) (by omega)
    omega
  · rw [if_neg h1]
    have := key_word (b := p - 9223372036854775808) (by unfold W64 at h; omega)
    omega
theorem inf_pos {p : Nat} (h : W64 p) : math_IsInf p 1 = some (decide (p = 9218868437227405312)) := by
  unfold math_IsInf
  rw [if_neg (by decide), if_neg (by decide), Option.bind_some, fGt_eq]
  congr 1
  refine decide_eq_decide.2 ?_
  have hm := key_word (b := 9218868437227405311) (by decide)
  have := key_word h
  omega
def cls (p : Nat) : Int := if nanB p then 0 else if p = 18442240474082181120 then 1 else if 9223372036854775808 < p then 2 else if p = 9218868437227405312 then 6 else if p = 9223372036854775808 then 3 else if p = 0 then 4 else 5
theorem sign_eq {p : Nat} (h : W64 p) : math_Signbit p = decide (9223372036854775808 ≤ p) := by
  unfold math_Signbit W64 at *
  refine decide_eq_decide.2 ?_
  rw [w64_def]; split <;> omega
theorem class_eq {p : Nat} (h : W64 p) : float_Class p = some (cls p) := by
  unfold float_Class cls
  rw [isnan_eq, inf_neg h, inf_pos h, fLt_eq, fGt_eq, sign_eq h]
  have hk := key_word h
  have h0 := key_word (b := 0) (by decide)
  simp only [Option.bind_some, decide_eq_true_eq]
  by_cases h1 : nanB p
  · rw [if_pos h1, if_pos h1]
  · rw [if_neg h1, if_neg h1]
    by_cases h2 : p = 18442240474082181120
    · rw [if_pos h2, if_pos h2]
    · rw [if_neg h2, if_neg h2]
      by_cases h3 : 9223372036854775808 < p
      · rw [if_pos h3, if_pos (by omega)]
      · rw [if_neg h3, if_neg (by omega)]
        by_cases h4 : p = 9218868437227405312
        · rw [if_pos h4, if_pos h4]
        · rw [if_neg h4, if_neg h4]
          by_cases h5 : p = 9223372036854775808
          · rw [if_neg (by omega), if_pos (by omega), if_pos h5]
          · rw [if_neg h5]
            by_cases h6 : p = 0
            · rw [if_neg (by omega), if_neg (by omega), if_pos h6]
            · rw [if_pos (by omega), if_neg h6]
theorem rclean_eq {p : Nat} (h : W64 p) : r03_Clean (p : Int) = ((cfn p : Nat) : Int) := by
  unfold r03_Clean cfn
  rw [Int.tmod_eq_emod_of_nonneg (by omega)]
  by_cases h1 : 9218868437227405312 < p % 9223372036854775808
  · rw [if_pos h1, if_pos (by omega)]; rfl
  · rw [if_neg h1, if_neg (by omega)]
theorem cfn_nan {p : Nat} (h : nanB p) : cfn p = 9221120237041090561 := if_pos h
theorem cfn_ok {p : Nat} (h : ¬ nanB p) : cfn p = p := if_neg h
theorem cfn_one {p : Nat} (h : W64 p) : cfn p = 9221120237041090561 ↔ nanB p := by
  by_cases h1 : nanB p
  · simp [cfn_nan h1, h1]
  · rw [cfn_ok h1]
    simp only [h1, iff_false]
    rintro rfl
    exact h1 (by unfold nanB; decide)
theorem rclass_eq {p : Nat} (h : W64 p) : r03_Class (p : Int) = cls p := by
  unfold r03_Class cls
  rw [rclean_eq h]
  have hw := nan_word h
  by_cases h1 : nanB p
  · rw [if_pos h1, cfn_nan h1, if_pos (by decide)]
  · rw [if_neg h1, cfn_ok h1, if_neg (by rintro h9; exact h1 ((cfn_one h).1 (by rw [cfn_ok h1]; omega)))]
    by_cases h2 : p = 18442240474082181120
    · rw [if_pos h2, if_pos (by omega)]
    · rw [if_neg h2, if_neg (by omega)]
      by_cases h3 : 9223372036854775808 < p
      · rw [if_pos h3, if_pos (by omega)]
      · rw [if_neg h3, if_neg (by omega)]
        by_cases h4 : p = 9218868437227405312
        · rw [if_pos h4, if_neg (by omega), if_neg (by omega), if_neg (by omega)]
        · rw [if_neg h4]
          by_cases h5 : p = 9223372036854775808
          · rw [if_pos (by omega), if_pos h5]
          · rw [if_neg (by omega), if_neg h5]
            by_cases h6 : p = 0
            · rw [if_pos (by omega), if_pos h6]
            · rw [if_neg (by omega), if_neg h6, if_pos (by omega)]
theorem fclean_eq (p : Nat) : float_Clean p = cfn p := by
  unfold float_Clean cfn
  rw [isnan_eq]
  unfold nanB
  simp only [decide_eq_true_eq]
theorem fbits_eq (p : Nat) : float_Bits p = ((cfn p : Nat) : Int) := by
  unfold float_Bits cfn
  rw [isnan_eq]
  unfold nanB
  simp only [decide_eq_true_eq]
  split <;> rfl
theorem cfn_cfn (p : Nat) : cfn (cfn p) = cfn p := by
  by_cases h : nanB p
  · rw [cfn_nan h]; decide
  · rw [cfn_ok h, cfn_ok h]
theorem cfn_lt {p : Nat} (h : W64 p) : W64 (cfn p) := by
  by_cases h1 : nanB p
  · rw [cfn_nan h1]; unfold W64; decide
  · rw [cfn_ok h1]; exact h
def rk (p : Nat) : Int := if cls p ≠ 0 then cls p else 7
theorem rank_eq {p : Nat} (h : W64 p) : float_rank p = some (rk p) := by
  unfold float_rank rk
  rw [class_eq h, Option.bind_some]
  split <;> rfl
def plc (p : Nat) : Int := if 9223372036854775808 ≤ cfn p then 9223372036854775807 - ((cfn p % 9223372036854775808 : Nat) : Int) else 9223372036854775808 + ((cfn p : Nat) : Int)
theorem wu64 (x : Int) : IntKind.u64.wrap x = x % 18446744073709551616 := by
  unfold IntKind.wrap
  simp only [IntKind.bits, IntKind.signed]
  simp
theorem rplace_eq {p : Nat} (h : W64 p) : r03_Place (p : Int) = plc p := by
  unfold r03_Place plc
  rw [rclean_eq h, wu64, wu64, Int.tmod_eq_emod_of_nonneg (by omega)]
  have := cfn_lt h
  unfold W64 at this
  split <;> split <;> omega
theorem rk_cases {p : Nat} (h : W64 p) : (nanB p ∧ rk p = 7 ∧ plc p = 18444492273895866369) ∨ (¬ nanB p ∧ ((p = 18442240474082181120 ∧ rk p = 1 ∧ plc p = 4503599627370495 ∧ keyB p = -9218868437227405312) ∨ (9223372036854775808 < p ∧ p < 18442240474082181120 ∧ rk p = 2 ∧ plc p = 18446744073709551615 - (p : Int) ∧ keyB p = 9223372036854775808 - (p : Int))
    ∨ (p = 9223372036854775808 ∧ rk p = 3 ∧ plc p = 9223372036854775807 ∧ keyB p = 0) ∨ (p = 0 ∧ rk p = 4 ∧ plc p = 9223372036854775808 ∧ keyB p = 0) ∨ (0 < p ∧ p < 9218868437227405312 ∧ rk p = 5 ∧ plc p = 9223372036854775808 + (p : Int) ∧ keyB p = (p : Int)) ∨ (p = 9218868437227405312 ∧ rk p = 6 ∧ plc p = 18442240474082181120 ∧ keyB p = 9218868437227405312))) := by
  have hk := key_word h
  have hw := nan_word h
  unfold W64 at h
  by_cases h1 : nanB p
  · left
    refine ⟨h1, ?_, ?_⟩
    · unfold rk cls; rw [if_pos h1]; decide
    · unfold plc; rw [cfn_nan h1]; decide
  · right
    refine ⟨h1, ?_⟩
    have e2 : rk p = (if p = 18442240474082181120 then 1 else if 9223372036854775808 < p then 2 else if p = 9218868437227405312 then 6 else if p = 9223372036854775808 then 3 else if p = 0 then 4 else 5) := by
      unfold rk cls
      rw [if_neg h1]
      by_cases c1 : p = 18442240474082181120 <;> by_cases c2 : 9223372036854775808 < p <;> by_cases c3 : p = 9218868437227405312 <;> by_cases c4 : p = 9223372036854775808 <;> by_cases c5 : p = 0 <;> simp only [c1, c2, c3, c4, c5, if_true, if_false] <;> decide
    have e3 : plc p = (if 9223372036854775808 ≤ p then 9223372036854775807 - ((p % 9223372036854775808 : Nat) : Int) else 9223372036854775808 + (p : Int)) := by
      unfold plc; rw [cfn_ok h1]
    generalize rk p = a at *
    generalize plc p = b at *
    generalize keyB p = c at *
    by_cases c1 : p = 18442240474082181120
    · rw [if_pos c1] at e2; rw [if_pos (by omega)] at e3; left; omega
    · rw [if_neg c1] at e2
      by_cases c2 : 9223372036854775808 < p
      · rw [if_pos c2] at e2; rw [if_pos (by omega)] at e3; right; left; omega
      · rw [if_neg c2] at e2
        by_cases c3 : p = 9218868437227405312
        · rw [if_pos c3] at e2; rw [if_neg (by omega)] at e3; right; right; right; right; right; omega
        · rw [if_neg c3] at e2
          by_cases c4 : p = 9223372036854775808
          · rw [if_pos c4] at e2; rw [if_pos (by omega)] at e3; right; right; left; omega
          · rw [if_neg c4] at e2
            by_cases c5 : p = 0
            · rw [if_pos c5] at e2; rw [if_neg (by omega)] at e3; right; right; right; left; omega
            · rw [if_neg c5] at e2; rw [if_neg (by omega)] at e3; right; right; right; right; left; omega
def cmpP (a b : Int) : Int := if a < b then -1 else if b < a then 1 else 0
theorem cmpP_cases (a b : Int) : (a < b ∧ cmpP a b = -1) ∨ (b < a ∧ cmpP a b = 1) ∨ (a = b ∧ cmpP a b = 0) := by
  unfold cmpP
  by_cases h1 : a < b
  · rw [if_pos h1]; exact .inl ⟨h1, rfl⟩
  · rw [if_neg h1]
    by_cases h2 : b < a
    · rw [if_pos h2]; exact .inr (.inl ⟨h2, rfl⟩)
    · rw [if_neg h2]; exact .inr (.inr ⟨by omega, rfl⟩)
theorem lt_iff {p q : Nat} (hp : W64 p) (hq : W64 q) : (fLt p q = true ↔ rk p ≠ 7 ∧ rk q ≠ 7 ∧ keyB p < keyB q) ∧ (fGt p q = true ↔ rk p ≠ 7 ∧ rk q ≠ 7 ∧ keyB q < keyB p) ∧ (fEq p q = true ↔ rk p ≠ 7 ∧ rk q ≠ 7 ∧ keyB p = keyB q) := by
  have n1 : nanB p ↔ rk p = 7 := by
    rcases rk_cases hp with ⟨h, h2, _⟩ | ⟨h, h2⟩
    · simp [h, h2]
    · simp only [h, false_iff]; omega
  have n2 : nanB q ↔ rk q = 7 := by
    rcases rk_cases hq with ⟨h, h2, _⟩ | ⟨h, h2⟩
    · simp [h, h2]
    · simp only [h, false_iff]; omega
  rw [fLt_eq, fGt_eq, fEq_eq]
  simp only [decide_eq_true_eq]
  rw [n1, n2]
  exact ⟨Iff.rfl, Iff.rfl, Iff.rfl⟩
theorem compare_eq {p q : Nat} (hp : W64 p) (hq : W64 q) : float_Compare p q = some (cmpP (plc p) (plc q)) := by
  unfold float_Compare cmpP
  rw [rank_eq hp, Option.bind_some, rank_eq hq, Option.bind_some]
  obtain ⟨l1, l2, l3⟩ := lt_iff hp hq
  simp only [l1, l2]
  have cp : (rk p = 7 ∧ plc p = 18444492273895866369) ∨ _ := (rk_cases hp).imp (fun h => h.2) (fun h => h.2)
  have cq : (rk q = 7 ∧ plc q = 18444492273895866369) ∨ _ := (rk_cases hq).imp (fun h => h.2) (fun h => h.2)
  clear l1 l2 l3
  generalize rk p = a1 at *
  generalize plc p = a2 at *
  generalize keyB p = a3 at *
  generalize rk q = b1 at *
  generalize plc q = b2 at *
  generalize keyB q = b3 at *
  by_cases h1 : a1 < b1
  · rw [if_pos h1, if_pos (by omega)]
  · rw [if_neg h1]
    by_cases h2 : b1 < a1
    · rw [if_pos h2, if_neg (by omega), if_pos (by omega)]
    · rw [if_neg h2]
      by_cases h3 : a1 ≠ 7 ∧ b1 ≠ 7 ∧ a3 < b3
      · rw [if_pos h3, if_pos (by omega)]
      · rw [if_neg h3]
        by_cases h4 : a1 ≠ 7 ∧ b1 ≠ 7 ∧ b3 < a3
        · rw [if_pos h4, if_neg (by omega), if_pos (by omega)]
        · rw [if_neg h4, if_neg (by omega), if_neg (by omega)]
theorem wf_u64 {n : Int} (h : (Lit.int .u64 n).wf = true) : ∃ p : Nat, n = (p : Int) ∧ W64 p := by
  simp only [Lit.wf, IntKind.has] at h
  have : 0 ≤ n ∧ n ≤ 18446744073709551615 := by simpa [IntKind.min, IntKind.max, IntKind.bits, IntKind.signed] using h
  exact ⟨n.toNat, by omega, by unfold W64; omega⟩
theorem of_eq (p : Nat) : float_Of (p : Int) = cfn p := by unfold float_Of; rw [fclean_eq]; simp
theorem plus_eq (a b : Nat) : float_Plus a b = if cfn (fadd a b) = 9223372036854775808 then 0 else cfn (fadd a b) := by
  unfold float_Plus
  rw [fclean_eq, fEq_eq]
  have h := cfn_lt (fadd_lt a b)
  have hk := key_word h
  have hw := nan_word h
  have h0 := key_word (b := 0) (by decide)
  simp only [decide_eq_true_eq]
  generalize cfn (fadd a b) = s at *
  by_cases h1 : s = 9223372036854775808
  · rw [if_pos h1, if_pos (by omega)]
  · rw [if_neg h1]
    by_cases h2 : s = 0
    · subst h2; split <;> rfl
    · rw [if_neg (by omega)]
theorem cost_eq {p : Nat} (h : W64 p) : float_Cost p = r03_Cost (p : Int) := by
  unfold float_Cost r03_Cost
  rw [fGt_eq, fEq_eq, ← Bool.decide_or, ← Bool.decide_or]
  refine decide_eq_decide.2 ?_
  have hk := key_word h
  have h0 := key_word (b := 0) (by decide)
  omega
theorem nats {l : List Int} (h : okL (fun n => (Lit.int .u64 n).wf = true) l) : ∃ L : List Nat, l = L.map (fun n : Nat => (n : Int)) ∧ ∀ x ∈ L, W64 x := by
  have key : ∀ l : List Int, (∀ x ∈ l, (Lit.int .u64 x).wf = true) → ∃ L : List Nat, l = L.map (fun n : Nat => (n : Int)) ∧ ∀ x ∈ L, W64 x := by
    intro l
    induction l with
    | nil => exact fun _ => ⟨[], rfl, by simp⟩
    | cons a l ih =>
      intro h
      obtain ⟨L, rfl, hL⟩ := ih fun x hx => h x (List.mem_cons_of_mem _ hx)
      obtain ⟨n, rfl, hn⟩ := wf_u64 (h a (List.mem_cons_self ..))
      exact ⟨n :: L, rfl, fun x hx => (List.mem_cons.1 hx).elim (fun e => e ▸ hn) (hL x)⟩
  exact key l h.2
theorem cls_zero {p : Nat} : cls p = 0 ↔ nanB p := by
  unfold cls
  by_cases h : nanB p
  · simp [h]
  · rw [if_neg h]
    simp only [h, iff_false]
    repeat' split
    all_goals decide
theorem cmp_lt (a b : Int) : cmpP a b < 0 ↔ a < b := by have := cmpP_cases a b; omega
theorem inf_eq : math_Inf 1 = some 9218868437227405312 ∧ math_Inf (-1) = some 18442240474082181120 := ⟨by unfold math_Inf; rfl, by unfold math_Inf; rfl⟩
def rn (p : Nat) : Nat := if p = 9223372036854775808 then 0 else p
theorem rn_le {p : Nat} (h : costB p) : rn p ≤ 9218868437227405312 := by unfold rn costB at *; split <;> omega
theorem key_cost {p : Nat} (h : costB p) : keyB p = (rn p : Int) ∧ ¬ nanB p := by
  unfold costB at h
  have hk := key_word (b := p) (by omega)
  unfold rn
  split <;> omega
theorem magB_rn (p : Nat) : magB p = magV (rn p) := by
  unfold magB rn
  split
  · decide
  · rfl
theorem rung_le (W : Nat) : rung W ≤ 9218868437227405312 := by unfold rung; omega
theorem plus_cost {a b : Nat} (ha : costB a) (hb : costB b) : float_Plus a b = if a = 9218868437227405312 ∨ b = 9218868437227405312 then 9218868437227405312 else rung (magB a + magB b) := by
  rw [plus_eq]
  rcases sum_cost ha hb with ⟨h1, h2, h3⟩ | ⟨h1, h2⟩ | ⟨h1, h2, h3, h4⟩
  · have e : cfn (fadd a b) = 9223372036854775808 := by rw [h1]; decide
    rw [e, if_pos rfl, if_neg (by omega), h2, h3]; decide
  · have e : cfn (fadd a b) = 9218868437227405312 := by rw [h2]; decide
    rw [e, if_neg (by decide), if_pos h1]
  · have hr := rung_le (magB a + magB b)
    have e : cfn (fadd a b) = rung (magB a + magB b) := by rw [h4]; exact cfn_ok (by omega)
    rw [e, if_neg (by omega), if_neg (by omega)]
theorem plus_le {a b : Nat} (ha : costB a) (hb : costB b) : float_Plus a b ≤ 9218868437227405312 := by
  rw [plus_cost ha hb]
  have := rung_le (magB a + magB b)
  split <;> omega
theorem plus_ge {a b : Nat} (ha : costB a) (hb : costB b) : rn a ≤ float_Plus a b := by
  rw [plus_cost ha hb]
  have h1 := rn_le ha
  by_cases h : a = 9218868437227405312 ∨ b = 9218868437227405312
  · rw [if_pos h]; exact h1
  · rw [if_neg h]
    have h2 : rung (magB a) = rn a := by rw [magB_rn]; exact rung_mag (by have h9 := ha; unfold costB at h9; unfold rn; split <;> omega)
    have h3 := rung_mono (Nat.le_add_right (magB a) (magB b))
    omega
theorem plus_comm {a b : Nat} (ha : costB a) (hb : costB b) : float_Plus a b = float_Plus b a := by
  rw [plus_cost ha hb, plus_cost hb ha, Nat.add_comm]
  by_cases h : a = 9218868437227405312 ∨ b = 9218868437227405312
  · rw [if_pos h, if_pos h.symm]
  · rw [if_neg h, if_neg (fun h2 => h h2.symm)]
theorem cost_iff {p : Nat} : r03_Cost (p : Int) = true ↔ costB p := by
  unfold r03_Cost costB
  simp only [Bool.or_eq_true, decide_eq_true_eq]
  omega
theorem bwd_map {α : Type} (l : List α) : (bwd l).map (·.2) = l.reverse := by
  unfold bwd
  rw [List.map_reverse, List.map_map]
  congr 1
  refine List.ext_getElem (by simp) fun i h1 h2 => by simp
theorem orR_inl {α β : Type} (t : α) (k : α → Option β) : orR (some (Sum.inl t)) k = k t := rfl
end Go.Proofs.Ytphhiiemopkinaa
