/- Plain mathematics: decimal numerals, cuts. Conditions: none. -/
import Derived.Test.YthmkgdnnocemmaaGreatDoorbLP
import Derived.Test.YthmkgdnnocemmaaGreatDoorbOG
import Derived.Test.YthmkgdnnocemmaaGreatDoorbOT
import Derived.Lib.ItoaLen
import Derived.Lib.ItoaMem
import Derived.Lib.IndexMore
namespace Go.Proofs.YthmkgdnnocemmaaGreatDoor
set_option linter.unusedVariables false
set_option linter.unusedSimpArgs false
open Go Go.RowKit
theorem Mu {n : Int} (h : -9223372036854775808 ≤ n ∧ n ≤ 9223372036854775807) : JG n = some (Lib.itoa n) := if_pos h
theorem Lw (u : Nat) (h : u ≤ 9223372036854775808) : (Lib.decDigits u).length ≤ 20 := by
  by_cases h1 : u = 0
  · subst h1; rw [Lib.decDigits_one (by decide)]; decide
  · have := Lib.itoa_length_le (-(u : Int)) (by omega) (by omega)
    rw [Lib.itoa_neg u (by omega)] at this
    simp at this; omega
theorem Po {n : Int} (h : -9223372036854775808 ≤ n ∧ n ≤ 9223372036854775807) : (Lib.itoa n).length ≤ 21 := Lib.itoa_length_le n h.1 h.2
theorem Jt {u : Nat} (h : 10 ≤ u) : Lib.decDigits u = Lib.decDigits (u / 10) ++ [UInt8.ofNat (48 + u % 10)] := by rw [Lib.decDigits, dif_neg (by omega)]
theorem IX {d : Nat} (h : d < 10) : D3 ([48, 49, 50, 51, 52, 53, 54, 55, 56, 57] : List UInt8) (d : Int) ((d : Int) + 1) = some [UInt8.ofNat (48 + d)] := by
  have : d = 0 ∨ d = 1 ∨ d = 2 ∨ d = 3 ∨ d = 4 ∨ d = 5 ∨ d = 6 ∨ d = 7 ∨ d = 8 ∨ d = 9 := by omega
  rcases this with rfl | rfl | rfl | rfl | rfl | rfl | rfl | rfl | rfl | rfl <;> rfl
abbrev i64 (n : Int) : Prop := -9223372036854775808 ≤ n ∧ n ≤ 9223372036854775807
theorem Of {st : (Int → Option (List UInt8)) → Int → Option (List UInt8)} {run : Nat → Int → Option (List UInt8)} (h0 : ∀ n, run 0 n = none) (hs : ∀ m n, run (m + 1) n = st (run m) n)
    (hst : ∀ (f : Int → Option (List UInt8)) (p0 : Int), st f p0 = (if p0 < 0 then (if (-10) < p0 then (f (BD (0 - p0))).bind fun x1 => (Dg ([45] : List UInt8) x1).bind fun x2 => some x2 else (f (BD (0 - (BD (Int.tdiv p0 10))))).bind fun x3 => (Dg ([45] : List UInt8) x3).bind fun x4 => (f (BD (0 - (Int.tmod p0 10)))).bind fun x5 => (Dg x4 x5).bind fun x6 => some x6) else (if p0 < 10 then (D3 ([48, 49, 50, 51, 52, 53, 54, 55, 56, 57] : List UInt8) p0 (BD (p0 + 1))).bind fun x7 => some x7 else (f (BD (Int.tdiv p0 10))).bind fun x8 => (D3 ([48, 49, 50, 51, 52, 53, 54, 55, 56, 57] : List UInt8) (Int.tmod p0 10) (BD ((Int.tmod p0 10) + 1))).bind fun x9 => (Dg x8 x9).bind fun x10 => some x10)))
    (n : Int) (hn : i64 n) : N1 (fun m => run m n) = some (Lib.itoa n) := by
  have pos : ∀ (d : Nat) (u : Nat), u < 10 ^ (d + 1) → u ≤ 9223372036854775807 → ∀ m, d + 1 ≤ m → run m (u : Int) = some (Lib.itoa (u : Int)) := by
    intro d
    induction d with
    | zero =>
      intro u hu hul m hm
      obtain ⟨m', rfl⟩ : ∃ m', m = m' + 1 := ⟨m - 1, by omega⟩
      rw [hs, hst, if_neg (by omega), if_pos (by omega), Bx (by omega), IX (by omega), Lib.itoa_nonneg, Lib.decDigits_one (by omega)]; rfl
    | succ d ih =>
      intro u hu hul m hm
      obtain ⟨m', rfl⟩ : ∃ m', m = m' + 1 := ⟨m - 1, by omega⟩
      by_cases c : u < 10
      · rw [hs, hst, if_neg (by omega), if_pos (by omega), Bx (by omega), IX (by omega), Lib.itoa_nonneg, Lib.decDigits_one (by omega)]; rfl
      · have e1 : Int.tdiv (u : Int) 10 = ((u / 10 : Nat) : Int) := rfl
        have e2 : Int.tmod (u : Int) 10 = ((u % 10 : Nat) : Int) := rfl
        have := Lw (u / 10) (by omega)
        rw [hs, hst, if_neg (by omega), if_neg (by omega), e1, e2, Bx (by omega), Bx (by omega), ih (u / 10) (by rw [Nat.pow_succ] at hu; omega) (by omega) m' (by omega), Lib.itoa_nonneg, Lib.itoa_nonneg, IX (by omega), Jt (show 10 ≤ u by omega), Option.bind_some, Option.bind_some, Bo (by simp; omega)]; rfl
  have big : ∀ m, 20 ≤ m → run m n = some (Lib.itoa n) := by
    intro m hm
    by_cases c1 : n < 0
    · obtain ⟨u, rfl⟩ : ∃ u : Nat, n = -(u : Int) := ⟨n.natAbs, by omega⟩
      obtain ⟨m', rfl⟩ : ∃ m', m = m' + 1 := ⟨m - 1, by omega⟩
      have hu : 1 ≤ u := by omega
      have hul : u ≤ 9223372036854775808 := by omega
      rw [hs, hst, if_pos c1, Lib.itoa_neg u hu]
      by_cases c2 : (-10 : Int) < -(u : Int)
      · have := Lw u hul
        rw [if_pos c2, Bx (by omega), show (0 : Int) - -(u : Int) = (u : Int) by omega, pos 18 u (by omega) (by omega) m' (by omega), Lib.itoa_nonneg, Option.bind_some, Bo (by simp; omega)]; rfl
      · have e1 : Int.tdiv (-(u : Int)) 10 = -((u / 10 : Nat) : Int) := by rw [Int.neg_tdiv]; rfl
        have e2 : Int.tmod (-(u : Int)) 10 = -((u % 10 : Nat) : Int) := by rw [Int.neg_tmod]; rfl
        have h10 : 10 ≤ u := by omega
        have := Lw (u / 10) (by omega)
        rw [if_neg c2, e1, e2, Bx (x := -((u / 10 : Nat) : Int)) (by omega), Bx (by omega), Bx (by omega), show (0 : Int) - -((u / 10 : Nat) : Int) = ((u / 10 : Nat) : Int) by omega, show (0 : Int) - -((u % 10 : Nat) : Int) = ((u % 10 : Nat) : Int) by omega,
          pos 18 (u / 10) (by omega) (by omega) m' (by omega), pos 18 (u % 10) (by omega) (by omega) m' (by omega), Lib.itoa_nonneg, Lib.itoa_nonneg, Lib.decDigits_one (show u % 10 < 10 by omega), Jt h10,
          Option.bind_some, Bo (by simp; omega), Option.bind_some, Option.bind_some, Bo (by simp; omega)]; rfl
    · obtain ⟨u, rfl⟩ : ∃ u : Nat, n = (u : Int) := ⟨n.toNat, by omega⟩
      exact pos 18 u (by omega) (by omega) m (by omega)
  -- more rounds say nothing else
  have mono : ∀ (m : Nat) (n : Int) (r : List UInt8), run m n = some r → run (m + 1) n = some r := by
    intro m
    induction m with
    | zero => intro n r h; rw [h0] at h; cases h
    | succ m ih =>
      intro n r h
      rw [hs, hst] at h ⊢
      by_cases c1 : n < 0
      · rw [if_pos c1] at h ⊢
        by_cases c2 : (-10 : Int) < n
        · rw [if_pos c2] at h ⊢
          obtain ⟨x, h1, h2⟩ := Ae h
          rw [ih _ _ h1]; exact h2
        · rw [if_neg c2] at h ⊢
          obtain ⟨x, h1, h2⟩ := Ae h
          obtain ⟨y, h3, h4⟩ := Ae h2
          obtain ⟨z, h5, h6⟩ := Ae h4
          rw [ih _ _ h1, Option.bind_some, h3, Option.bind_some, ih _ _ h5]; exact h6
      · rw [if_neg c1] at h ⊢
        by_cases c2 : n < 10
        · rw [if_pos c2] at h ⊢; exact h
        · rw [if_neg c2] at h ⊢
          obtain ⟨x, h1, h2⟩ := Ae h
          rw [ih _ _ h1]; exact h2
  have mono' : ∀ (k m : Nat) (n : Int) (r : List UInt8), run m n = some r → run (m + k) n = some r := by
    intro k
    induction k with
    | zero => intro m n r h; exact h
    | succ k ih => intro m n r h; exact mono _ _ _ (ih m n r h)
  refine P3 20 (big 20 (by omega)) fun m r h => ?_
  have h1 := mono' 20 m n r h
  rw [big (m + 20) (by omega)] at h1
  exact (Option.some.inj h1).symm
def d3 (u : Nat) : List UInt8 := if u < 10 then [UInt8.ofNat (48 + u)] else if u < 100 then [UInt8.ofNat (48 + u / 10), UInt8.ofNat (48 + u % 10)] else [UInt8.ofNat (48 + u / 100), UInt8.ofNat (48 + u / 10 % 10), UInt8.ofNat (48 + u % 10)]
theorem LN {d r : List UInt8} {c : UInt8} (h : c ∉ d) : Lib.index (d ++ c :: r) [c] = (d.length : Int) := by
  induction d with
  | nil => simp [Lib.index, List.isPrefixOf]
  | cons b l ih =>
    have h1 : c ≠ b := fun e => h (by rw [e]; exact List.mem_cons_self ..)
    have h2 := ih fun hm => h (List.mem_cons_of_mem _ hm)
    have h3 : (c == b) = false := by simpa using h1
    simp only [List.cons_append, Lib.index, List.isPrefixOf, h3, Bool.false_and, Bool.false_eq_true, if_false, h2]
    rw [if_neg (by first | (simp; done) | (simp; omega))]
    simp
theorem LU {d : List UInt8} {c : UInt8} (h : c ∉ d) : Lib.index d [c] = -1 := by
  induction d with
  | nil => rfl
  | cons b l ih =>
    have h1 : c ≠ b := fun e => h (by rw [e]; exact List.mem_cons_self ..)
    have h2 := ih fun hm => h (List.mem_cons_of_mem _ hm)
    have h3 : (c == b) = false := by simpa using h1
    simp only [Lib.index, List.isPrefixOf, h3, Bool.false_and, Bool.false_eq_true, if_false, h2]
    simp
theorem PE {d r : List UInt8} {c : UInt8} (h : c ∉ d) : Lib.cut (d ++ c :: r) [c] = (d, r, true) := by
  unfold Lib.cut
  rw [LN h, if_pos (by omega)]
  simp
theorem Oq {d : List UInt8} {c : UInt8} (h : c ∉ d) : Lib.cut d [c] = (d, [], false) := by
  unfold Lib.cut
  rw [LU h, if_neg (by decide)]
theorem Li {s sep : List UInt8} (h : s.length ≤ 1000000000) : Jl s sep = some (Lib.cut s sep) := if_pos h
theorem PD {s : List UInt8} {v : Int} (h : s.length ≤ 1000000000) (hv : Lib.atoiAll s = .ok v) : HR s = some (.inl v) := by unfold HR; rw [if_pos h, hv]
end Go.Proofs.YthmkgdnnocemmaaGreatDoor
