/- Floats as mathematics: their order by keys. Conditions: none. -/
import Derived.Test.YtbiekjhlijdjbaaGreatbOF
import Derived.Test.YtbiekjhlijdjbaaGreatbML
set_option linter.unusedVariables false
set_option linter.unusedSimpArgs false
open Go Go.RowKit
namespace Go.Proofs.YtbiekjhlijdjbaaGreat
abbrev Ce (b : Nat) : Prop := 9218868437227405312 < b % 9223372036854775808
def sg (s : Bool) (r : Nat) : Int := if s then -(r : Int) else (r : Int)
def HX (b : Nat) : Bool := b / 9223372036854775808 % 2 == 1
def Ci (b : Nat) : Int := sg (HX b) (b % 9223372036854775808)
def Fu (r : Nat) : Nat := if r / 4503599627370496 = 0 then r % 4503599627370496 else (4503599627370496 + r % 4503599627370496) * 2 ^ (r / 4503599627370496 - 1)
theorem MV (r : Nat) : Fu r < Fu (r + 1) := by
  unfold Fu
  have h1 : r % 4503599627370496 < 4503599627370496 := Nat.mod_lt _ (by decide)
  by_cases hf : r % 4503599627370496 + 1 < 4503599627370496
  · have e1 : (r + 1) / 4503599627370496 = r / 4503599627370496 := by omega
    have e2 : (r + 1) % 4503599627370496 = r % 4503599627370496 + 1 := by omega
    rw [e1,e2]
    by_cases hq : r / 4503599627370496 = 0
    · rw [if_pos hq,if_pos hq]; omega
    · rw [if_neg hq,if_neg hq]
      exact Nat.mul_lt_mul_of_pos_right (by omega) (Nat.two_pow_pos _)
  · have e1 : (r + 1) / 4503599627370496 = r / 4503599627370496 + 1 := by omega
    have e2 : (r + 1) % 4503599627370496 = 0 := by omega
    have e3 : r % 4503599627370496 = 4503599627370495 := by omega
    rw [e1,e2,e3,if_neg (show ¬ (r / 4503599627370496 + 1 = 0) by omega)]
    by_cases hq : r / 4503599627370496 = 0
    · rw [if_pos hq,hq]; decide
    · rw [if_neg hq]
      obtain ⟨q,hq2⟩ : ∃ q,r / 4503599627370496 = q + 1 := ⟨r / 4503599627370496 - 1,by omega⟩
      rw [hq2,Nat.add_sub_cancel,Nat.add_sub_cancel,Nat.pow_succ,Nat.mul_comm (2 ^ q) 2, ← Nat.mul_assoc]
      exact Nat.mul_lt_mul_of_pos_right (by decide) (Nat.two_pow_pos _)
theorem Q2 {r s : Nat} (h : r < s) : Fu r < Fu s := by
  induction s with
  | zero => omega
  | succ s ih =>
    by_cases hrs : r = s
    · subst hrs; exact MV r
    · exact Nat.lt_trans (ih (by omega)) (MV s)
theorem Jd (r s : Nat) : (Fu r < Fu s ↔ r < s) ∧ (Fu r = Fu s ↔ r = s) := by
  rcases Nat.lt_trichotomy r s with h | h | h
  · have := Q2 h; omega
  · subst h; simp
  · have := Q2 h; omega
theorem My (r : Nat) : Fu r = 0 ↔ r = 0 := by
  have h := (Jd r 0).2
  have : Fu 0 = 0 := by decide
  rw [this] at h; exact h
theorem WR (s t : Bool) (r q : Nat) : (sg s (Fu r) < sg t (Fu q) ↔ sg s r < sg t q) ∧ (sg s (Fu r) = sg t (Fu q) ↔ sg s r = sg t q) := by
  have h1 := Jd r q
  have h2 := Jd q r
  have h3 := My r
  have h4 := My q
  unfold sg
  cases s <;> cases t <;> simp only [Bool.false_eq_true,if_false,if_true] <;> omega
theorem V8 : Ieee.double.signWeight = 9223372036854775808 ∧ Ieee.double.binade = 4503599627370496 ∧ Ieee.double.infRung = 9218868437227405312 := by decide
theorem He {b : Nat} (h : b % 9223372036854775808 < 9218868437227405312) : ∃ (m a : Nat),Ieee.double.read b = .number (HX b) m (Ieee.double.leastPlace + (a : Int)) ∧ m * 2 ^ a = Fu (b % 9223372036854775808) := by
  unfold Ieee.Format.read Fu
  simp only [V8.1,V8.2.1,V8.2.2]
  by_cases h1 : b % 9223372036854775808 < 4503599627370496
  · rw [if_pos h1,if_pos (by omega)]
    exact ⟨b % 9223372036854775808,0,by simp [HX],by omega⟩
  · rw [if_neg h1,if_pos h,if_neg (by omega)]
    exact ⟨_,_,rfl,rfl⟩
theorem F6 {b : Nat} (h : b % 9223372036854775808 = 9218868437227405312) : Ieee.double.read b = .infinity (HX b) := by
  unfold Ieee.Format.read
  simp only [V8.1,V8.2.1,V8.2.2,h]
  rfl
def Hw (x y : Int) : Ordering := if x < y then .lt else if x = y then .eq else .gt
theorem RA (x y : Int) : compare x y = Hw x y := rfl
theorem Ub (x y : Int) {k : Int} (hk : 0 < k) : Hw (x * k) (y * k) = Hw x y := by
  have h1 : x * k < y * k ↔ x < y := by
    constructor
    · intro h
      rcases Int.lt_or_le x y with h2 | h2
      · exact h2
      · have := Int.mul_le_mul_of_nonneg_right h2 (Int.le_of_lt hk); omega
    · exact fun h => Int.mul_lt_mul_of_pos_right h hk
  have h2 : x * k = y * k ↔ x = y := by
    constructor
    · exact fun h => Int.eq_of_mul_eq_mul_right (by omega) h
    · exact fun h => by rw [h]
  unfold Hw
  simp only [h1,h2]
theorem Li (s : Bool) (m a c : Nat) (h : c ≤ a) : Ieee.signed s m (a - c) * (2 ^ c : Nat) = sg s (m * 2 ^ a) := by
  have e : (m <<< (a - c)) * 2 ^ c = m * 2 ^ a := by
    rw [Nat.shiftLeft_eq,Nat.mul_assoc, ← Nat.pow_add]; congr 2; omega
  unfold Ieee.signed sg
  cases s
  · simp only [Bool.false_eq_true,if_false]; rw [← e,Int.natCast_mul]
  · simp only [if_true]; rw [← e,Int.neg_mul,Int.natCast_mul]
theorem R2 (s t : Bool) (m n a b : Nat) (L : Int) : Ieee.Datum.order (.number s m (L + (a : Int))) (.number t n (L + (b : Int))) = some (Hw (sg s (m * 2 ^ a)) (sg t (n * 2 ^ b))) := by
  unfold Ieee.Datum.order
  simp only
  have hc : min (L + (a : Int)) (L + (b : Int)) = L + ((min a b : Nat) : Int) := by omega
  rw [hc,show (L + (a : Int) - (L + ((min a b : Nat) : Int))).toNat = a - min a b by omega,show (L + (b : Int) - (L + ((min a b : Nat) : Int))).toNat = b - min a b by omega]
  rw [RA, ← Ub _ _ (k := ((2 ^ min a b : Nat) : Int)) (by have := Nat.two_pow_pos (min a b); omega),Li _ _ _ _ (Nat.min_le_left a b),Li _ _ _ _ (Nat.min_le_right a b)]
theorem HF {x y : Nat} (hx : ¬ Ce x) (hy : ¬ Ce y) : Ieee.double.order x y = some (Hw (Ci x) (Ci y)) := by
  unfold Ce at hx hy
  unfold Ieee.Format.order Ci
  have hlx : x % 9223372036854775808 = 9218868437227405312 ∨ x % 9223372036854775808 < 9218868437227405312 := by omega
  have hly : y % 9223372036854775808 = 9218868437227405312 ∨ y % 9223372036854775808 < 9218868437227405312 := by omega
  rcases hlx with hx | hx <;> rcases hly with hy | hy
  · rw [F6 hx,F6 hy,hx,hy]
    cases HX x <;> cases HX y <;> decide
  · obtain ⟨m,a,h1,_⟩ := He hy
    rw [F6 hx,h1,hx]
    unfold Ieee.Datum.order Hw sg
    cases HX x <;> cases HX y <;> simp only [Bool.false_eq_true,if_false,if_true] <;> (first | rw [if_pos (by omega)] | rw [if_neg (by omega),if_neg (by omega)])
  · obtain ⟨m,a,h1,_⟩ := He hx
    rw [F6 hy,h1,hy]
    unfold Ieee.Datum.order Hw sg
    cases HX x <;> cases HX y <;> simp only [Bool.false_eq_true,if_false,if_true] <;> (first | rw [if_pos (by omega)] | rw [if_neg (by omega),if_neg (by omega)])
  · obtain ⟨m,a,h1,h2⟩ := He hx
    obtain ⟨n,b,h3,h4⟩ := He hy
    rw [h1,h3,R2,h2,h4]
    have := WR (HX x) (HX y) (x % 9223372036854775808) (y % 9223372036854775808)
    unfold Hw
    simp only [this.1,this.2]
theorem JM {x y : Nat} (h : Ce x ∨ Ce y) : Ieee.double.order x y = none := by
  unfold Ieee.Format.order
  rcases h with h | h
  · obtain ⟨s,f,e⟩ := La h
    rw [e]; rfl
  · obtain ⟨s,f,e⟩ := La h
    rw [e]; cases Ieee.double.read x <;> rfl
theorem Qe (x y : Nat) : RO x y = decide (¬ Ce x ∧ ¬ Ce y ∧ Ci x < Ci y) := by
  unfold RO
  by_cases h : Ce x ∨ Ce y
  · rw [JM h]
    rcases h with h | h <;> simp [h]
  · rw [HF (fun h1 => h (.inl h1)) (fun h1 => h (.inr h1))]
    have h1 : ¬ Ce x := fun h1 => h (.inl h1)
    have h2 : ¬ Ce y := fun h1 => h (.inr h1)
    unfold Hw
    by_cases h3 : Ci x < Ci y
    · simp [h1,h2,h3]
    · by_cases h4 : Ci x = Ci y <;> simp [h1,h2,h3,h4]
theorem LL (x y : Nat) : SF x y = decide (¬ Ce x ∧ ¬ Ce y ∧ Ci y < Ci x) := by
  unfold SF
  by_cases h : Ce x ∨ Ce y
  · rw [JM h]
    rcases h with h | h <;> simp [h]
  · rw [HF (fun h1 => h (.inl h1)) (fun h1 => h (.inr h1))]
    have h1 : ¬ Ce x := fun h1 => h (.inl h1)
    have h2 : ¬ Ce y := fun h1 => h (.inr h1)
    unfold Hw
    by_cases h3 : Ci x < Ci y
    · have : ¬ Ci y < Ci x := by omega
      simp [h1,h2,h3,this]
    · by_cases h4 : Ci x = Ci y
      · have : ¬ Ci y < Ci x := by omega
        simp [h1,h2,h3,h4]
      · have : Ci y < Ci x := by omega
        simp [h1,h2,h3,h4,this]
theorem LE (x y : Nat) : Ni x y = decide (¬ Ce x ∧ ¬ Ce y ∧ Ci x = Ci y) := by
  unfold Ni
  by_cases h : Ce x ∨ Ce y
  · rw [JM h]
    rcases h with h | h <;> simp [h]
  · rw [HF (fun h1 => h (.inl h1)) (fun h1 => h (.inr h1))]
    have h1 : ¬ Ce x := fun h1 => h (.inl h1)
    have h2 : ¬ Ce y := fun h1 => h (.inr h1)
    unfold Hw
    by_cases h3 : Ci x < Ci y
    · have : ¬ Ci x = Ci y := by omega
      simp [h1,h2,h3,this]
    · by_cases h4 : Ci x = Ci y <;> simp [h1,h2,h3,h4]
theorem CB {b : Nat} (h : b < 18446744073709551616) : (b < 9223372036854775808 ∧ Ci b = (b : Int) ∧ (Ce b ↔ 9218868437227405312 < b)) ∨ (9223372036854775808 ≤ b ∧ Ci b = 9223372036854775808 - (b : Int) ∧ (Ce b ↔ 18442240474082181120 < b)) := by
  unfold Ci HX Ce sg
  by_cases h1 : b < 9223372036854775808
  · left
    have e1 : b / 9223372036854775808 = 0 := by omega
    have e2 : b % 9223372036854775808 = b := by omega
    rw [e1,e2]
    exact ⟨h1,by simp,Iff.rfl⟩
  · right
    have e1 : b / 9223372036854775808 = 1 := by omega
    have e2 : b % 9223372036854775808 = b - 9223372036854775808 := by omega
    rw [e1,e2]
    refine ⟨by omega, ?_,by omega⟩
    simp; omega
theorem NM {p : Nat} (h : p < 9223372036854775808) : p ^^^ 9223372036854775808 = 9223372036854775808 + p := by
  refine Nat.eq_of_testBit_eq fun i => ?_
  rw [Nat.testBit_xor,show (9223372036854775808 : Nat) = 2 ^ 63 by decide]
  rcases Nat.lt_trichotomy i 63 with hi | hi | hi
  · rw [Nat.testBit_two_pow_add_gt hi,Nat.testBit_two_pow_of_ne (by omega)]; simp
  · subst hi
    rw [Nat.testBit_two_pow_add_eq,Nat.testBit_two_pow_self]; simp
  · rw [Nat.testBit_lt_two_pow (x := p) (Nat.lt_of_lt_of_le h (show (2 : Nat) ^ 63 ≤ 2 ^ i from Nat.pow_le_pow_right (by decide) (by omega))),Nat.testBit_two_pow_of_ne (by omega),Nat.testBit_lt_two_pow (x := 2 ^ 63 + p)]
    · rfl
    · have h2 : (2 : Nat) ^ 64 ≤ 2 ^ i := Nat.pow_le_pow_right (by decide) (by omega)
      have h3 : (2 : Nat) ^ 64 = 18446744073709551616 := by decide
      have h4 : (2 : Nat) ^ 63 = 9223372036854775808 := by decide
      omega
theorem Vl {p : Nat} (h : p < 18446744073709551616) : Op.negFloat .f64 p = if p < 9223372036854775808 then 9223372036854775808 + p else p - 9223372036854775808 := by
  have e : Op.negFloat .f64 p = p ^^^ 9223372036854775808 := rfl
  rw [e]
  by_cases h1 : p < 9223372036854775808
  · rw [if_pos h1,NM h1]
  · rw [if_neg h1]
    obtain ⟨q,rfl⟩ : ∃ q,p = 9223372036854775808 + q := ⟨p - 9223372036854775808,by omega⟩
    rw [← NM (p := q) (by omega),Nat.xor_assoc,Nat.xor_self,Nat.xor_zero,NM (by omega)]
    omega
theorem Rh (x y : Nat) : FS x y < 18446744073709551616 := by
  unfold FS
  cases h : Ieee.double.add x y with
  | none => decide
  | some r => exact Ieee.Format.add_lt _ h
end Go.Proofs.YtbiekjhlijdjbaaGreat
