/- Layer 3: costs. Conditions: none. -/
import Derived.Test.YtfnllhjbbcaomaaMB
import Derived.Test.YtfnllhjbbcaomaaMR
namespace Go.Proofs.Ytfnllhjbbcaomaa
set_option linter.unusedVariables false
set_option linter.unusedSimpArgs false
open Go Go.RowKit

def rn (p : Nat) : Nat := if p = 9223372036854775808 then 0 else p
theorem rn_le {p : Nat} (h : costB p) : rn p ≤ 9218868437227405312 := by unfold rn costB at *; split <;> omega
theorem key_cost {p : Nat} (h : costB p) : keyB p = (rn p : Int) ∧ ¬ nanB p := by
  unfold costB at h
  have hk := key_word (b := p) (by omega)
  unfold rn
  split <;> omega
theorem magB_rn (p : Nat) : magB p = magV (rn p) := by
  unfold magB rn
  split
  · decide
  · rfl
theorem rung_le (W : Nat) : rung W ≤ 9218868437227405312 := by unfold rung; omega
theorem plus_cost {a b : Nat} (ha : costB a) (hb : costB b) : float_Plus a b = if a = 9218868437227405312 ∨ b = 9218868437227405312 then 9218868437227405312 else rung (magB a + magB b) := by
  rw [plus_eq]
  rcases sum_cost ha hb with ⟨h1, h2, h3⟩ | ⟨h1, h2⟩ | ⟨h1, h2, h3, h4⟩
  · have e : cfn (fadd a b) = 9223372036854775808 := by rw [h1]; decide
    rw [e, if_pos rfl, if_neg (by omega), h2, h3]; decide
  · have e : cfn (fadd a b) = 9218868437227405312 := by rw [h2]; decide
    rw [e, if_neg (by decide), if_pos h1]
  · have hr := rung_le (magB a + magB b)
    have e : cfn (fadd a b) = rung (magB a + magB b) := by rw [h4]; exact cfn_ok (by omega)
    rw [e, if_neg (by omega), if_neg (by omega)]
theorem plus_le {a b : Nat} (ha : costB a) (hb : costB b) : float_Plus a b ≤ 9218868437227405312 := by
  rw [plus_cost ha hb]
  have := rung_le (magB a + magB b)
  split <;> omega
theorem plus_ge {a b : Nat} (ha : costB a) (hb : costB b) : rn a ≤ float_Plus a b := by
  rw [plus_cost ha hb]
  have h1 := rn_le ha
  by_cases h : a = 9218868437227405312 ∨ b = 9218868437227405312
  · rw [if_pos h]; exact h1
  · rw [if_neg h]
    have h2 : rung (magB a) = rn a := by rw [magB_rn]; exact rung_mag (by have h9 := ha; unfold costB at h9; unfold rn; split <;> omega)
    have h3 := rung_mono (Nat.le_add_right (magB a) (magB b))
    omega
theorem plus_comm {a b : Nat} (ha : costB a) (hb : costB b) : float_Plus a b = float_Plus b a := by
  rw [plus_cost ha hb, plus_cost hb ha, Nat.add_comm]
  by_cases h : a = 9218868437227405312 ∨ b = 9218868437227405312
  · rw [if_pos h, if_pos h.symm]
  · rw [if_neg h, if_neg (fun h2 => h h2.symm)]
theorem plus_mono {a b c : Nat} (ha : costB a) (hb : costB b) (hc : costB c) (h : rn b ≤ rn c) : float_Plus a b ≤ float_Plus a c := by
  have h1 := plus_le ha hb
  rw [plus_cost ha hc]
  by_cases hi : a = 9218868437227405312 ∨ c = 9218868437227405312
  · rw [if_pos hi]; exact h1
  · rw [if_neg hi, plus_cost ha hb]
    have hb2 : ¬ (a = 9218868437227405312 ∨ b = 9218868437227405312) := by
      unfold costB rn at *
      split at h <;> split at h <;> omega
    rw [if_neg hb2]
    refine rung_mono ?_
    rw [magB_rn b, magB_rn c]
    have := magV_iff (rn c) (rn b)
    omega
theorem cost_iff {p : Nat} : r03_Cost (p : Int) = true ↔ costB p := by
  unfold r03_Cost costB
  simp only [Bool.or_eq_true, decide_eq_true_eq]
  omega
theorem FloatCosts_true (p0 : Int) (ok0 : (Lit.int .u64 p0).wf = true) (p1 : Int) (ok1 : (Lit.int .u64 p1).wf = true) (p2 : Int) (ok2 : (Lit.int .u64 p2).wf = true) : L03_FloatCosts p0 p1 p2 = some true := by
  obtain ⟨a, rfl, ha⟩ := wf_u64 ok0
  obtain ⟨b, rfl, hb⟩ := wf_u64 ok1
  obtain ⟨c, rfl, hc⟩ := wf_u64 ok2
  unfold L03_FloatCosts
  simp only [raw_nat]
  by_cases hbad : costB a ∧ costB b ∧ costB c
  · obtain ⟨ca, cb, cc⟩ := hbad
    rw [if_neg (by rw [cost_iff.2 ca, cost_iff.2 cb, cost_iff.2 cc]; simp)]
    have hs := plus_le ca cb
    have hs2 := plus_le ca cc
    have g1 := plus_ge ca cb
    have g2 := plus_ge cb ca
    rw [← plus_comm ca cb] at g2
    have ka := key_cost ca
    have kb := key_cost cb
    have kc := key_cost cc
    have hmono := plus_mono ca cb cc
    rw [← plus_comm ca cb]
    generalize float_Plus a b = s at *
    generalize float_Plus a c = t at *
    have cs : costB s := .inl hs
    have ct : costB t := .inl hs2
    have ks := key_cost cs
    have kt := key_cost ct
    have es : rn s = s := by unfold rn; rw [if_neg (by omega)]
    have et : rn t = t := by unfold rn; rw [if_neg (by omega)]
    have hws : W64 s := by unfold W64; omega
    have e1 : (!(float_Cost s)) = true ↔ False := by rw [cost_eq hws, cost_iff.2 cs]; simp
    have e2 : fLt s a = false := by rw [fLt_eq]; exact decide_eq_false (by omega)
    have e3 : fLt s b = false := by rw [fLt_eq]; exact decide_eq_false (by omega)
    have e4 : cls s ≠ 3 := by
      unfold cls
      rw [if_neg ks.2]
      split
      · decide
      · split
        · decide
        · split
          · decide
          · rw [if_neg (by omega)]; split <;> decide
    rw [if_neg (fun h => e1.1 h), e2, e3, class_eq hws]
    simp only [Bool.false_eq_true, if_false, Option.bind_some, e4, ne_eq, not_true_eq_false, decide_false]
    by_cases hg : fGt b c = true
    · rw [if_pos hg]; exact bindT (bindT awake3)
    · rw [if_neg hg]
      have hle : rn b ≤ rn c := by
        rw [fGt_eq, decide_eq_true_eq] at hg
        omega
      have hst := hmono hle
      have e5 : (fLt s t || fEq s t) = true := by
        rw [fLt_eq, fEq_eq, ← Bool.decide_or, decide_eq_true_eq]
        omega
      rw [if_pos e5]
      exact bindT (bindT awake3)
  · rw [if_pos (by
      rw [Bool.or_eq_true, Bool.or_eq_true, Bool.not_eq_true', Bool.not_eq_true', Bool.not_eq_true', ← Bool.not_eq_true, ← Bool.not_eq_true, ← Bool.not_eq_true, cost_iff, cost_iff, cost_iff]
      by_cases h1 : costB a
      · by_cases h2 : costB b
        · exact .inr (.inr fun h3 => hbad ⟨h1, h2, h3⟩)
        · exact .inr (.inl h2)
      · exact .inl h1)]
    exact bindT awake3
end Go.Proofs.Ytfnllhjbbcaomaa
