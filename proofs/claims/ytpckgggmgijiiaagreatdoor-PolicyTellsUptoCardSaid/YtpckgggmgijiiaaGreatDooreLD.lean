/- Plain mathematics: decimal numerals, cuts. Conditions: none. -/
import Derived.Test.YtpckgggmgijiiaaGreatDooreLP
import Derived.Test.YtpckgggmgijiiaaGreatDooreOG
import Derived.Test.YtpckgggmgijiiaaGreatDooreOT
import Derived.Lib.ItoaLen
import Derived.Lib.ItoaMem
import Derived.Lib.IndexMore
namespace Go.Proofs.YtpckgggmgijiiaaGreatDoor
set_option linter.unusedVariables false
set_option linter.unusedSimpArgs false
open Go Go.RowKit
theorem Wv {n : Int} (h : -9223372036854775808 ≤ n ∧ n ≤ 9223372036854775807) : Px n = some (Lib.itoa n) := if_pos h
theorem UQ (u : Nat) (h : u ≤ 9223372036854775808) : (Lib.decDigits u).length ≤ 20 := by
  by_cases h1 : u = 0
  · subst h1; rw [Lib.decDigits_one (by decide)]; decide
  · have := Lib.itoa_length_le (-(u : Int)) (by omega) (by omega)
    rw [Lib.itoa_neg u (by omega)] at this
    simp at this; omega
theorem JZ {n : Int} (h : -9223372036854775808 ≤ n ∧ n ≤ 9223372036854775807) : (Lib.itoa n).length ≤ 21 := Lib.itoa_length_le n h.1 h.2
theorem Wt {u : Nat} (h : 10 ≤ u) : Lib.decDigits u = Lib.decDigits (u / 10) ++ [UInt8.ofNat (48 + u % 10)] := by rw [Lib.decDigits,dif_neg (by omega)]
theorem Pi {d : Nat} (h : d < 10) : K0 ([48,49,50,51,52,53,54,55,56,57] : List UInt8) (d : Int) ((d : Int) + 1) = some [UInt8.ofNat (48 + d)] := by
  have : d = 0 ∨ d = 1 ∨ d = 2 ∨ d = 3 ∨ d = 4 ∨ d = 5 ∨ d = 6 ∨ d = 7 ∨ d = 8 ∨ d = 9 := by omega
  rcases this with rfl | rfl | rfl | rfl | rfl | rfl | rfl | rfl | rfl | rfl <;> rfl
abbrev i64 (n : Int) : Prop := -9223372036854775808 ≤ n ∧ n ≤ 9223372036854775807
theorem Zg {st : (Int → Option (List UInt8)) → Int → Option (List UInt8)} {run : Nat → Int → Option (List UInt8)} (h0 : ∀ n,run 0 n = none) (hs : ∀ m n,run (m + 1) n = st (run m) n)
    (hst : ∀ (f : Int → Option (List UInt8)) (p0 : Int),st f p0 = (if p0 < 0 then (if (-10) < p0 then (f (Aq (0 - p0))).bind fun x1 => (Dg ([45] : List UInt8) x1).bind fun x2 => some x2 else (f (Aq (0 - (Aq (Int.tdiv p0 10))))).bind fun x3 => (Dg ([45] : List UInt8) x3).bind fun x4 => (f (Aq (0 - (Int.tmod p0 10)))).bind fun x5 => (Dg x4 x5).bind fun x6 => some x6) else (if p0 < 10 then (K0 ([48,49,50,51,52,53,54,55,56,57] : List UInt8) p0 (Aq (p0 + 1))).bind fun x7 => some x7 else (f (Aq (Int.tdiv p0 10))).bind fun x8 => (K0 ([48,49,50,51,52,53,54,55,56,57] : List UInt8) (Int.tmod p0 10) (Aq ((Int.tmod p0 10) + 1))).bind fun x9 => (Dg x8 x9).bind fun x10 => some x10)))
    (n : Int) (hn : i64 n) : E2 (fun m => run m n) = some (Lib.itoa n) := by
  have pos : ∀ (d : Nat) (u : Nat),u < 10 ^ (d + 1) → u ≤ 9223372036854775807 → ∀ m,d + 1 ≤ m → run m (u : Int) = some (Lib.itoa (u : Int)) := by
    intro d
    induction d with
    | zero =>
      intro u hu hul m hm
      obtain ⟨m',rfl⟩ : ∃ m',m = m' + 1 := ⟨m - 1,by omega⟩
      rw [hs,hst,if_neg (by omega),if_pos (by omega),Ad (by omega),Pi (by omega),Lib.itoa_nonneg,Lib.decDigits_one (by omega)]; rfl
    | succ d ih =>
      intro u hu hul m hm
      obtain ⟨m',rfl⟩ : ∃ m',m = m' + 1 := ⟨m - 1,by omega⟩
      by_cases c : u < 10
      · rw [hs,hst,if_neg (by omega),if_pos (by omega),Ad (by omega),Pi (by omega),Lib.itoa_nonneg,Lib.decDigits_one (by omega)]; rfl
      · have e1 : Int.tdiv (u : Int) 10 = ((u / 10 : Nat) : Int) := rfl
        have e2 : Int.tmod (u : Int) 10 = ((u % 10 : Nat) : Int) := rfl
        have := UQ (u / 10) (by omega)
        rw [hs,hst,if_neg (by omega),if_neg (by omega),e1,e2,Ad (by omega),Ad (by omega),ih (u / 10) (by rw [Nat.pow_succ] at hu; omega) (by omega) m' (by omega),Lib.itoa_nonneg,Lib.itoa_nonneg,Pi (by omega),Wt (show 10 ≤ u by omega),Option.bind_some,Option.bind_some,Bv (by simp; omega)]; rfl
  have big : ∀ m,20 ≤ m → run m n = some (Lib.itoa n) := by
    intro m hm
    by_cases c1 : n < 0
    · obtain ⟨u,rfl⟩ : ∃ u : Nat,n = -(u : Int) := ⟨n.natAbs,by omega⟩
      obtain ⟨m',rfl⟩ : ∃ m',m = m' + 1 := ⟨m - 1,by omega⟩
      have hu : 1 ≤ u := by omega
      have hul : u ≤ 9223372036854775808 := by omega
      rw [hs,hst,if_pos c1,Lib.itoa_neg u hu]
      by_cases c2 : (-10 : Int) < -(u : Int)
      · have := UQ u hul
        rw [if_pos c2,Ad (by omega),show (0 : Int) - -(u : Int) = (u : Int) by omega,pos 18 u (by omega) (by omega) m' (by omega),Lib.itoa_nonneg,Option.bind_some,Bv (by simp; omega)]; rfl
      · have e1 : Int.tdiv (-(u : Int)) 10 = -((u / 10 : Nat) : Int) := by rw [Int.neg_tdiv]; rfl
        have e2 : Int.tmod (-(u : Int)) 10 = -((u % 10 : Nat) : Int) := by rw [Int.neg_tmod]; rfl
        have h10 : 10 ≤ u := by omega
        have := UQ (u / 10) (by omega)
        rw [if_neg c2,e1,e2,Ad (x := -((u / 10 : Nat) : Int)) (by omega),Ad (by omega),Ad (by omega),show (0 : Int) - -((u / 10 : Nat) : Int) = ((u / 10 : Nat) : Int) by omega,show (0 : Int) - -((u % 10 : Nat) : Int) = ((u % 10 : Nat) : Int) by omega,
          pos 18 (u / 10) (by omega) (by omega) m' (by omega),pos 18 (u % 10) (by omega) (by omega) m' (by omega),Lib.itoa_nonneg,Lib.itoa_nonneg,Lib.decDigits_one (show u % 10 < 10 by omega),Wt h10,
          Option.bind_some,Bv (by simp; omega),Option.bind_some,Option.bind_some,Bv (by simp; omega)]; rfl
    · obtain ⟨u,rfl⟩ : ∃ u : Nat,n = (u : Int) := ⟨n.toNat,by omega⟩
      exact pos 18 u (by omega) (by omega) m (by omega)
  -- more rounds say nothing else
  have mono : ∀ (m : Nat) (n : Int) (r : List UInt8),run m n = some r → run (m + 1) n = some r := by
    intro m
    induction m with
    | zero => intro n r h; rw [h0] at h; cases h
    | succ m ih =>
      intro n r h
      rw [hs,hst] at h ⊢
      by_cases c1 : n < 0
      · rw [if_pos c1] at h ⊢
        by_cases c2 : (-10 : Int) < n
        · rw [if_pos c2] at h ⊢
          obtain ⟨x,h1,h2⟩ := A1 h
          rw [ih _ _ h1]; exact h2
        · rw [if_neg c2] at h ⊢
          obtain ⟨x,h1,h2⟩ := A1 h
          obtain ⟨y,h3,h4⟩ := A1 h2
          obtain ⟨z,h5,h6⟩ := A1 h4
          rw [ih _ _ h1,Option.bind_some,h3,Option.bind_some,ih _ _ h5]; exact h6
      · rw [if_neg c1] at h ⊢
        by_cases c2 : n < 10
        · rw [if_pos c2] at h ⊢; exact h
        · rw [if_neg c2] at h ⊢
          obtain ⟨x,h1,h2⟩ := A1 h
          rw [ih _ _ h1]; exact h2
  have mono' : ∀ (k m : Nat) (n : Int) (r : List UInt8),run m n = some r → run (m + k) n = some r := by
    intro k
    induction k with
    | zero => intro m n r h; exact h
    | succ k ih => intro m n r h; exact mono _ _ _ (ih m n r h)
  refine UO 20 (big 20 (by omega)) fun m r h => ?_
  have h1 := mono' 20 m n r h
  rw [big (m + 20) (by omega)] at h1
  exact (Option.some.inj h1).symm
def d3 (u : Nat) : List UInt8 := if u < 10 then [UInt8.ofNat (48 + u)] else if u < 100 then [UInt8.ofNat (48 + u / 10),UInt8.ofNat (48 + u % 10)] else [UInt8.ofNat (48 + u / 100),UInt8.ofNat (48 + u / 10 % 10),UInt8.ofNat (48 + u % 10)]
end Go.Proofs.YtpckgggmgijiiaaGreatDoor
