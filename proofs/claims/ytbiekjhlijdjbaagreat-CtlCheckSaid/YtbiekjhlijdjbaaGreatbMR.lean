/- Sums of floats that are not negative: rounding is monotonic. Conditions: none. -/
import Derived.Test.YtbiekjhlijdjbaaGreatbMF
set_option linter.unusedVariables false
set_option linter.unusedSimpArgs false
open Go Go.RowKit
namespace Go.Proofs.YtbiekjhlijdjbaaGreat
def Pm (W e : Nat) : Nat := W / 2 ^ e + (if 2 ^ e < 2 * (W % 2 ^ e) ∨ (2 ^ e = 2 * (W % 2 ^ e) ∧ W / 2 ^ e % 2 = 1) then 1 else 0)
theorem TD {W X : Nat} (e : Nat) (h : W ≤ X) : Pm W e ≤ Pm X e := by
  unfold Pm
  have hp := Nat.two_pow_pos e
  have h1 : W / 2 ^ e ≤ X / 2 ^ e := Nat.div_le_div_right h
  have h2 := Nat.div_add_mod W (2 ^ e)
  have h3 := Nat.div_add_mod X (2 ^ e)
  have h4 := Nat.mod_lt W hp
  have h5 := Nat.mod_lt X hp
  generalize W % 2 ^ e = r at *
  generalize X % 2 ^ e = s at *
  by_cases hq : W / 2 ^ e = X / 2 ^ e
  · rw [hq] at h2 ⊢
    have hrs : r ≤ s := by omega
    split <;> split <;> omega
  · split <;> split <;> omega
theorem HM (q e : Nat) : Pm (q * 2 ^ e) e = q := by
  unfold Pm
  have hp := Nat.two_pow_pos e
  rw [Nat.mul_div_cancel _ hp,Nat.mul_mod_left,if_neg (by omega)]
  omega
theorem Sh (T c e : Nat) (h : c ≤ e) : Pm (T * 2 ^ c) e = Pm T (e - c) := by
  unfold Pm
  obtain ⟨d,rfl⟩ : ∃ d,e = d + c := ⟨e - c,by omega⟩
  have hp := Nat.two_pow_pos c
  have e1 : T * 2 ^ c / 2 ^ (d + c) = T / 2 ^ d := by rw [Nat.pow_add,Nat.mul_div_mul_right _ _ hp]
  have e2 : T * 2 ^ c % 2 ^ (d + c) = (T % 2 ^ d) * 2 ^ c := by rw [Nat.pow_add,Nat.mul_mod_mul_right]
  rw [e1,e2,Nat.add_sub_cancel]
  have e3 : (2 ^ (d + c) < 2 * (T % 2 ^ d * 2 ^ c)) ↔ (2 ^ d < 2 * (T % 2 ^ d)) := by
    rw [Nat.pow_add, ← Nat.mul_assoc]
    exact ⟨fun h => Nat.lt_of_mul_lt_mul_right h,fun h => Nat.mul_lt_mul_of_pos_right h hp⟩
  have e4 : (2 ^ (d + c) = 2 * (T % 2 ^ d * 2 ^ c)) ↔ (2 ^ d = 2 * (T % 2 ^ d)) := by
    rw [Nat.pow_add, ← Nat.mul_assoc]
    exact ⟨fun h => Nat.eq_of_mul_eq_mul_right hp h,fun h => congrArg (fun x => x * 2 ^ c) h⟩
  simp only [e3,e4]
def Cl (W : Nat) : Nat := W.log2 - 52
def IV (W : Nat) : Nat := Cl W * 4503599627370496 + Pm W (Cl W)
def JC (W : Nat) : Nat := min (IV W) 9218868437227405312
theorem N1 (T c : Nat) (h : T ≠ 0) : (T * 2 ^ c).log2 = T.log2 + c := by
  induction c with
  | zero => simp
  | succ c ih =>
    rw [Nat.pow_succ, ← Nat.mul_assoc,Nat.mul_comm _ 2,Nat.log2_two_mul (by have := Nat.two_pow_pos c; exact Nat.mul_ne_zero h (by omega)),ih]
    omega
theorem NG {W : Nat} (h : W ≠ 0) : 2 ^ W.log2 ≤ W ∧ W < 2 ^ (W.log2 + 1) := ⟨Nat.log2_self_le h,Nat.lt_log2_self⟩
theorem R4 {W X : Nat} (hW : W ≠ 0) (h : W ≤ X) : W.log2 ≤ X.log2 := (Nat.le_log2 (by omega)).2 (Nat.le_trans (NG hW).1 h)
theorem XG {W : Nat} (h : W ≠ 0) : Pm W (Cl W) ≤ 9007199254740992 := by
  have h1 := (NG h).2
  have h2 : W < 2 ^ Cl W * 9007199254740992 := by
    refine Nat.lt_of_lt_of_le h1 ?_
    have : (9007199254740992 : Nat) = 2 ^ 53 := by decide
    rw [this, ← Nat.pow_add]
    exact Nat.pow_le_pow_right (by decide) (by unfold Cl; omega)
  have h3 : W / 2 ^ Cl W < 9007199254740992 := (Nat.div_lt_iff_lt_mul (Nat.two_pow_pos _)).2 (by rw [Nat.mul_comm]; exact h2)
  unfold Pm
  split <;> omega
theorem XO {W : Nat} (h : W ≠ 0) (hl : 0 < Cl W) : 4503599627370496 ≤ Pm W (Cl W) := by
  have h1 := (NG h).1
  have h2 : 4503599627370496 * 2 ^ Cl W ≤ W := by
    refine Nat.le_trans ?_ h1
    have : (4503599627370496 : Nat) = 2 ^ 52 := by decide
    rw [this, ← Nat.pow_add]
    exact Nat.pow_le_pow_right (by decide) (by unfold Cl at *; omega)
  have h3 : 4503599627370496 ≤ W / 2 ^ Cl W := (Nat.le_div_iff_mul_le (Nat.two_pow_pos _)).2 h2
  unfold Pm
  omega
theorem Pv {W X : Nat} (h : W ≤ X) : IV W ≤ IV X := by
  by_cases hW : W = 0
  · subst hW
    have : IV 0 = 0 := by decide
    omega
  · have hl : Cl W ≤ Cl X := by have := R4 hW h; unfold Cl; omega
    unfold IV
    by_cases he : Cl W = Cl X
    · rw [he]
      have := TD (Cl X) h
      omega
    · have h1 := XG hW
      have h2 := XO (W := X) (by omega) (by omega)
      have h3 : Cl W + 1 ≤ Cl X := by omega
      have h4 := Nat.mul_le_mul_right 4503599627370496 h3
      omega
theorem ML {W X : Nat} (h : W ≤ X) : JC W ≤ JC X := by
  have := Pv h
  unfold JC; omega
theorem SA {r : Nat} (h : r < 9218868437227405312) : JC (Fu r) = r := by
  have key : IV (Fu r) = r := by
    unfold Fu
    have hm : r % 4503599627370496 < 4503599627370496 := Nat.mod_lt _ (by decide)
    by_cases hq : r / 4503599627370496 = 0
    · rw [if_pos hq]
      have hr : r % 4503599627370496 = r := by omega
      rw [hr]
      by_cases h0 : r = 0
      · subst h0; decide
      · have hl : Cl r = 0 := by
          have h1 : r.log2 < 52 := (Nat.log2_lt h0).2 (by have : (2 : Nat) ^ 52 = 4503599627370496 := by decide
                                                          omega)
          unfold Cl; omega
        unfold IV
        rw [hl]
        have := HM r 0
        rw [Nat.pow_zero,Nat.mul_one] at this
        rw [this]; omega
    · rw [if_neg hq]
      have hl : Cl ((4503599627370496 + r % 4503599627370496) * 2 ^ (r / 4503599627370496 - 1)) = r / 4503599627370496 - 1 := by
        unfold Cl
        rw [N1 _ _ (by omega)]
        have h1 : (4503599627370496 + r % 4503599627370496).log2 = 52 := by
          have e52 : (2 : Nat) ^ 52 = 4503599627370496 := by decide
          have e53 : (2 : Nat) ^ 53 = 9007199254740992 := by decide
          refine (Nat.log2_eq_iff (by omega)).2 ⟨by omega,by rw [show 52 + 1 = 53 from rfl]; omega⟩
        rw [h1]; omega
      unfold IV
      rw [hl,HM]
      omega
  unfold JC
  rw [key]; omega
theorem Q1 (T d : Nat) (h : d ≤ T.log2 + 2) : Ieee.Toward.even.cut false T d = Pm T d := by
  unfold Ieee.Toward.cut Pm
  have e1 : (1 : Nat) <<< min d (T.log2 + 2) = 2 ^ d := by rw [Nat.min_eq_left h,Nat.one_shiftLeft]
  simp only [e1]
  congr 1
  by_cases h1 : 2 ^ d < 2 * (T % 2 ^ d)
  · simp [h1]
  · by_cases h2 : 2 ^ d = 2 * (T % 2 ^ d) ∧ T / 2 ^ d % 2 = 1
    · have h3 := h2.1
      simp [h2.2, ← h3]
    · rw [if_neg (by omega)]
      have h3 : decide (2 ^ d < 2 * (T % 2 ^ d)) = false := decide_eq_false h1
      have h4 : ((2 ^ d == 2 * (T % 2 ^ d)) && (T / 2 ^ d % 2 == 1)) = false := by
        rw [Bool.and_eq_false_iff]
        by_cases h5 : 2 ^ d = 2 * (T % 2 ^ d)
        · right; simp only [beq_eq_false_iff_ne]; exact fun h6 => h2 ⟨h5,h6⟩
        · left; simp only [beq_eq_false_iff_ne]; exact h5
      rw [h3,h4]; rfl
theorem YM : Ieee.double.fractionBits = 52 := rfl
theorem N8 (x : Nat) : Ieee.double.word false x = x := rfl
theorem Qi (T c : Nat) : Ieee.double.nearest false T (Ieee.double.leastPlace + (c : Int)) = JC (T * 2 ^ c) := by
  unfold Ieee.Format.nearest
  by_cases h0 : T = 0
  · subst h0
    rw [if_pos rfl,Nat.zero_mul,N8]; decide
  · rw [if_neg h0]
    simp only [YM,V8.2.1,V8.2.2]
    generalize Ieee.double.leastPlace = L
    have hlog := N1 T c h0
    have hlast : max (L + (c : Int) + (T.log2 : Int) - (52 : Nat)) L = L + (Cl (T * 2 ^ c) : Int) := by
      unfold Cl; rw [hlog]; omega
    rw [hlast,show (L + (Cl (T * 2 ^ c) : Int) - L).toNat = Cl (T * 2 ^ c) by omega]
    have hk : Ieee.Toward.even.cut false (T <<< (L + (c : Int) - (L + (Cl (T * 2 ^ c) : Int))).toNat) (L + (Cl (T * 2 ^ c) : Int) - (L + (c : Int))).toNat = Pm (T * 2 ^ c) (Cl (T * 2 ^ c)) := by
      generalize hE : Cl (T * 2 ^ c) = e
      by_cases hce : e ≤ c
      · rw [show (L + (c : Int) - (L + (e : Int))).toNat = c - e by omega,show (L + (e : Int) - (L + (c : Int))).toNat = 0 by omega,Q1 _ _ (by omega),Nat.shiftLeft_eq]
        have e1 : T * 2 ^ c = (T * 2 ^ (c - e)) * 2 ^ e := by rw [Nat.mul_assoc, ← Nat.pow_add,show c - e + e = c by omega]
        rw [e1,HM]
        have := HM (T * 2 ^ (c - e)) 0
        rwa [Nat.pow_zero,Nat.mul_one] at this
      · rw [show (L + (c : Int) - (L + (e : Int))).toNat = 0 by omega,show (L + (e : Int) - (L + (c : Int))).toNat = e - c by omega,Nat.shiftLeft_zero,Sh _ _ _ (by omega)]
        refine Q1 _ _ ?_
        unfold Cl at hE
        omega
    rw [hk,N8]
    unfold JC IV
    rfl
def BH (p : Nat) : Prop := p ≤ 9218868437227405312 ∨ p = 9223372036854775808
def Gu (p : Nat) : Nat := if p = 9223372036854775808 then 0 else Fu p
theorem SP {a b : Nat} (ha : BH a) (hb : BH b) : (FS a b = 9223372036854775808 ∧ a = 9223372036854775808 ∧ b = 9223372036854775808) ∨ ((a = 9218868437227405312 ∨ b = 9218868437227405312) ∧ FS a b = 9218868437227405312) ∨ (a ≠ 9218868437227405312 ∧ b ≠ 9218868437227405312 ∧ ¬ (a = 9223372036854775808 ∧ b = 9223372036854775808) ∧ FS a b = JC (Gu a + Gu b)) := by
  have word : ∀ p,BH p → p ≠ 9218868437227405312 → ∃ (s : Bool) (m e : Nat),Ieee.double.read p = .number s m (Ieee.double.leastPlace + (e : Int)) ∧ m * 2 ^ e = Gu p ∧ (s = true ↔ p = 9223372036854775808) ∧ (s = true → m = 0) := by
    intro p hp hi
    have hlt : p % 9223372036854775808 < 9218868437227405312 := by unfold BH at hp; omega
    obtain ⟨m,e,h1,h2⟩ := He hlt
    refine ⟨HX p,m,e,h1, ?_, ?_, ?_⟩
    · rw [h2]; unfold Gu
      by_cases h9 : p = 9223372036854775808
      · rw [if_pos h9,h9]; decide
      · rw [if_neg h9]; congr 1; unfold BH at hp; omega
    · unfold HX; simp only [beq_iff_eq]; unfold BH at hp; omega
    · intro hs
      have hp9 : p = 9223372036854775808 := by unfold HX at hs; simp only [beq_iff_eq] at hs; unfold BH at hp; omega
      subst hp9
      have h3 : Fu (9223372036854775808 % 9223372036854775808) = 0 := by decide
      rw [h3] at h2
      rcases Nat.mul_eq_zero.1 h2 with h | h
      · exact h
      · have := Nat.two_pow_pos e; omega
  by_cases hai : a = 9218868437227405312
  · right; left
    refine ⟨.inl hai, ?_⟩
    subst hai
    have h1 : Ieee.double.read 9218868437227405312 = .infinity false := by rw [F6 (by decide)]; rfl
    unfold FS Ieee.Format.add
    rw [h1]
    by_cases hbi : b = 9218868437227405312
    · subst hbi; rw [h1]; decide
    · obtain ⟨s,m,e,h2,_⟩ := word b hb hbi
      rw [h2]; rfl
  · by_cases hbi : b = 9218868437227405312
    · right; left
      refine ⟨.inr hbi, ?_⟩
      subst hbi
      have h1 : Ieee.double.read 9218868437227405312 = .infinity false := by rw [F6 (by decide)]; rfl
      obtain ⟨s,m,e,h2,_⟩ := word a ha hai
      unfold FS Ieee.Format.add
      rw [h1,h2]; rfl
    · obtain ⟨s,m,e,h1,h2,h3,h4⟩ := word a ha hai
      obtain ⟨t,n,f,g1,g2,g3,g4⟩ := word b hb hbi
      have hc : min (Ieee.double.leastPlace + (e : Int)) (Ieee.double.leastPlace + (f : Int)) = Ieee.double.leastPlace + ((min e f : Nat) : Int) := by omega
      have sgn : ∀ (s : Bool) (m u : Nat),(s = true → m = 0) → Ieee.signed s m u = ((m * 2 ^ u : Nat) : Int) := by
        intro s m u hs
        unfold Ieee.signed
        rw [Nat.shiftLeft_eq]
        cases s with
        | false => rfl
        | true => rw [hs rfl]; simp
      have hsum : Ieee.Datum.sum (.number s m (Ieee.double.leastPlace + (e : Int))) (.number t n (Ieee.double.leastPlace + (f : Int))) = some (.number (if m * 2 ^ (e - min e f) + n * 2 ^ (f - min e f) = 0 then s && t else false) (m * 2 ^ (e - min e f) + n * 2 ^ (f - min e f)) (Ieee.double.leastPlace + ((min e f : Nat) : Int))) := by
        unfold Ieee.Datum.sum
        simp only [hc]
        rw [show (Ieee.double.leastPlace + (e : Int) - (Ieee.double.leastPlace + ((min e f : Nat) : Int))).toNat = e - min e f by omega,show (Ieee.double.leastPlace + (f : Int) - (Ieee.double.leastPlace + ((min e f : Nat) : Int))).toNat = f - min e f by omega]
        rw [sgn s m _ h4,sgn t n _ g4]
        generalize m * 2 ^ (e - min e f) = u
        generalize n * 2 ^ (f - min e f) = v
        congr 2
        · by_cases hz : u + v = 0
          · rw [if_pos hz,if_pos (by omega)]
          · rw [if_neg hz,if_neg (by omega)]; simp; omega
      have hval : (m * 2 ^ (e - min e f) + n * 2 ^ (f - min e f)) * 2 ^ (min e f) = Gu a + Gu b := by
        rw [Nat.add_mul,Nat.mul_assoc,Nat.mul_assoc, ← Nat.pow_add, ← Nat.pow_add,show e - min e f + min e f = e by omega,show f - min e f + min e f = f by omega,h2,g2]
      unfold FS Ieee.Format.add
      rw [h1,g1,hsum]
      simp only [Option.map_some,Ieee.Format.write]
      by_cases hb9 : a = 9223372036854775808 ∧ b = 9223372036854775808
      · left
        refine ⟨?_,hb9⟩
        have hs := h3.2 hb9.1
        have ht := g3.2 hb9.2
        rw [h4 hs,g4 ht,hs,ht]
        simp only [Nat.zero_mul,Nat.add_zero,if_true]
        unfold Ieee.Format.nearest
        rw [if_pos rfl]; decide
      · right; right
        refine ⟨hai,hbi,hb9, ?_⟩
        have hneg : (if m * 2 ^ (e - min e f) + n * 2 ^ (f - min e f) = 0 then s && t else false) = false := by
          split
          · cases hs : s with
            | false => rfl
            | true =>
              cases ht : t with
              | false => rfl
              | true => exact absurd ⟨h3.1 hs,g3.1 ht⟩ hb9
          · rfl
        rw [hneg,Qi,hval]
end Go.Proofs.YtbiekjhlijdjbaaGreat
