/- Layer 43: the statement. Conditions: none. -/
import Derived.Test.YtdogfpoekndknaaM43C
namespace Go.Proofs.Ytdogfpoekndknaa
set_option linter.unusedVariables false
set_option linter.unusedSimpArgs false
open Go Go.RowKit
/-! ### What is mixed of one number -/
theorem fmul_sign {b : Nat} (h0 : 1 ≤ b) (hb : b < 9218868437227405312) : fmul 9223372036854775808 b = 9223372036854775808 := by
  obtain ⟨n, e, h2, h3⟩ := read_lo hb
  unfold fmul Ieee.Format.mul
  rw [h2, show Ieee.double.read 9223372036854775808 = .number true 0 (-1074) by decide]
  unfold Ieee.Datum.product
  simp only [Option.map_some, Ieee.Format.write, Nat.zero_mul]
  unfold Ieee.Format.nearest
  rw [if_pos rfl]
  decide
theorem key_cost {p : Nat} (h : costB p) : keyB p = if p = 9223372036854775808 then 0 else (p : Int) := by
  have hk := key_word (cost_ok h).1
  unfold costB at h
  by_cases e : p = 9223372036854775808
  · rw [if_pos e]; omega
  · rw [if_neg e]; omega
theorem sum_lo {x y : Nat} (hx : x < 9218868437227405312) (hy : y < 9218868437227405312) : fadd x y = rung (magV x + magV y) := by
  rcases sum_cost (a := x) (b := y) (.inl (by omega)) (.inl (by omega)) with ⟨_, h, _⟩ | ⟨h, _⟩ | ⟨_, _, _, h⟩
  · omega
  · omega
  · rw [h]; unfold magB; rw [if_neg (by omega), if_neg (by omega)]
theorem mag_le {x y : Nat} (h : x ≤ y) : magV x ≤ magV y := by
  by_cases e : x = y
  · rw [e]; exact Nat.le_refl _
  · exact Nat.le_of_lt (magV_lt (by omega))
theorem mix_self {a s : Nat} (ha : a < 9218868437227405312 ∨ a = 9223372036854775808) (hs : costB s) (hk : keyB s ≤ 4607182418800017408) : keyB (mixN a a s) ≤ keyB (fadd a a) := by
  have hca : costB a := by unfold costB; omega
  have hcs := cost_ok hs
  have hks := key_cost hs
  have hkt := key_cost (add_cost hca hca)
  rcases ha with ha | ha
  · have hka := key_cost hca
    rw [if_neg (by omega)] at hka
    have hsum := sum_lo ha ha
    have hra := rung_mag ha
    have hge : a ≤ fadd a a := by
      have := rung_mono (show magV a ≤ magV a + magV a by omega)
      rw [hra, ← hsum] at this; exact this
    have hne : fadd a a ≤ 9218868437227405312 := by rw [hsum]; unfold rung; exact Nat.min_le_right _ _
    rw [if_neg (by omega)] at hkt
    have hself : keyB a ≤ keyB (fadd a a) := by rw [hka, hkt]; omega
    unfold mixN
    rw [if_neg (cost_ok hca).2.1]
    by_cases c2 : nanB a ∨ nanB s ∨ keyB s ≤ 0
    · rw [if_pos c2]; exact hself
    · rw [if_neg c2]
      by_cases c3 : 4607182418800017408 ≤ keyB s
      · rw [if_pos c3]; exact hself
      · rw [if_neg c3]
        have hs1 : 1 ≤ s ∧ s < 4607182418800017408 := by
          have h0 : ¬ keyB s ≤ 0 := fun h => c2 (.inr (.inr h))
          by_cases e : s = 9223372036854775808
          · rw [if_pos e] at hks; omega
          · rw [if_neg e] at hks; omega
        have hx := mul_le ha (sub_le hs1.1 hs1.2).2
        have hy := mul_le ha (Nat.le_of_lt hs1.2)
        have hsx := sum_lo (x := fmul a (fsub 4607182418800017408 s)) (y := fmul a s) (by omega) (by omega)
        have hle : fadd (fmul a (fsub 4607182418800017408 s)) (fmul a s) ≤ fadd a a := by
          rw [hsx, hsum]
          exact rung_mono (Nat.add_le_add (mag_le hx) (mag_le hy))
        have hcx : costB (fadd (fmul a (fsub 4607182418800017408 s)) (fmul a s)) := .inl (by omega)
        have hkx := key_cost hcx
        rw [if_neg (by omega)] at hkx
        rw [(cost_ok hcx).2.2, hkx, hkt]; omega
  · subst ha
    have e1 : fadd 9223372036854775808 9223372036854775808 = 9223372036854775808 := by decide +kernel
    rw [e1]
    unfold mixN
    rw [if_neg (cost_ok hca).2.1]
    by_cases c2 : nanB 9223372036854775808 ∨ nanB s ∨ keyB s ≤ 0
    · rw [if_pos c2]; exact Int.le_refl _
    · rw [if_neg c2]
      by_cases c3 : 4607182418800017408 ≤ keyB s
      · rw [if_pos c3]; exact Int.le_refl _
      · rw [if_neg c3]
        have hs1 : 1 ≤ s ∧ s < 4607182418800017408 := by
          have h0 : ¬ keyB s ≤ 0 := fun h => c2 (.inr (.inr h))
          by_cases e : s = 9223372036854775808
          · rw [if_pos e] at hks; omega
          · rw [if_neg e] at hks; omega
        have hsb := sub_pos hs1.1 hs1.2
        rw [fmul_sign hsb.1 hsb.2, fmul_sign hs1.1 (by omega), e1, (cost_ok hca).2.2]; exact Int.le_refl _
theorem MeterBetween_true (p0 : Int) (ok0 : (Lit.int .u64 p0).wf = true) (p1 : Int) (ok1 : (Lit.int .u64 p1).wf = true) (p2 : Int) (ok2 : (Lit.int .u64 p2).wf = true) : L43_MeterBetween p0 p1 p2 = some true := by
  obtain ⟨a, rfl, ha⟩ := wf_u64 ok0
  obtain ⟨b, rfl, hb⟩ := wf_u64 ok1
  obtain ⟨s, rfl, hs⟩ := wf_u64 ok2
  unfold L43_MeterBetween
  simp only [raw43]
  split
  · rw [awake43]; rfl
  · rename_i h
    rw [Bool.not_eq_true] at h
    simp only [Bool.or_eq_false_iff, Bool.not_eq_false'] at h
    obtain ⟨h1, h2, h3, h4⟩ := h
    have ca := cost_iff.1 h1
    have cb := cost_iff.1 h2
    have cs := cost_iff.1 h3
    have h5 : (a < 9218868437227405312 ∨ a = 9223372036854775808) ∧ (bif decide (9218868437227405312 ≤ (b : Int)) then (decide ((b : Int) ≠ 9223372036854775808) || fGt s 4607182418800017408) else fGt s 4607182418800017408) = false := by
      by_cases q : 9218868437227405312 ≤ (a : Int)
      · rw [decide_eq_true q, cond_true, Bool.or_eq_false_iff] at h4
        have := of_decide_eq_false h4.1
        exact ⟨.inr (by omega), h4.2⟩
      · rw [decide_eq_false q, cond_false] at h4
        exact ⟨.inl (by omega), h4⟩
    obtain ⟨hal, h6⟩ := h5
    have h7 : fGt s 4607182418800017408 = false := by
      by_cases q : 9218868437227405312 ≤ (b : Int)
      · rw [decide_eq_true q, cond_true, Bool.or_eq_false_iff] at h6
        exact h6.2
      · rw [decide_eq_false q, cond_false] at h6
        exact h6
    have hk : keyB s ≤ 4607182418800017408 := by
      rw [fGt_eq] at h7
      have := of_decide_eq_false h7
      have h1 := key_one
      rw [h1.1] at this
      have hn := (cost_ok cs).2.1
      exact Int.not_lt.1 fun h => this ⟨hn, h1.2, h⟩
    have cm := mix_cost (old := a) (x := b) hs (.inr ca) cb
    have cn := mix_cost (old := a) (x := a) hs (.inr ca) ca
    have hfc : ∀ {p : Nat}, costB p → float_Cost p = true := fun hp => by rw [cost_eq (cost_ok hp).1]; exact cost_iff.2 hp
    have hge : (fGt (mixN a a s) 0 || fEq (mixN a a s) 0) = true := hfc cn
    have ct := add_cost ca ca
    have hle : (fLt (mixN a a s) (fadd a a) || fEq (mixN a a s) (fadd a a)) = true := by
      rw [fLt_eq, fEq_eq, ← Bool.decide_or]
      have hm := mix_self hal cs hk
      have n1 := (cost_ok cn).2.1
      have n2 := (cost_ok ct).2.1
      refine decide_eq_true ?_
      by_cases e : keyB (mixN a a s) < keyB (fadd a a)
      · exact .inl ⟨n1, n2, e⟩
      · exact .inr ⟨n1, n2, by omega⟩
    rw [mix_eq ha hb hs, Option.bind_some, mix_eq ha ha hs, Option.bind_some, if_pos (hfc cm), if_pos hge, if_pos hle, awake43]; rfl
end Go.Proofs.Ytdogfpoekndknaa
