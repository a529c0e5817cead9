/- Layer 11: packets, matches. Conditions: none. -/
import Derived.Test.YtkjjioigbpkifaabLP
import Derived.Test.YtkjjioigbpkifaabOA
import Derived.Test.YtkjjioigbpkifaabA10
namespace Go.Proofs.Ytkjjioigbpkifaa
set_option linter.unusedVariables false
set_option linter.unusedSimpArgs false
set_option synthInstance.maxSize 1000
open Go Go.RowKit
abbrev P4 := Int × Int × Int × Int
abbrev i64 (n : Int) : Prop := -9223372036854775808 ≤ n ∧ n ≤ 9223372036854775807
theorem IZ {α β : Type} (t : α) (k : α → Option β) : FC (some (Sum.inl t)) k = k t := rfl
abbrev Lu (f v : Int) : Prop := 0 ≤ v ∧ v ≤ BC f
abbrev p4 (p : P4) (k : Nat) : Int := match k with | 0 => p.1 | 1 => p.2.1 | 2 => p.2.2.1 | _ => p.2.2.2
theorem Kh (p : P4) {k : Nat} (h : k < 4) : ix ([p.1, p.2.1, p.2.2.1, p.2.2.2] : List Int) (k : Int) = some (p4 p k) := by
  have : k = 0 ∨ k = 1 ∨ k = 2 ∨ k = 3 := by omega
  rcases this with rfl | rfl | rfl | rfl <;> rfl
abbrev KY (p : P4) : Prop := (0 ≤ p.1 ∧ p.1 ≤ 255) ∧ (0 ≤ p.2.1 ∧ p.2.1 ≤ 255) ∧ (0 ≤ p.2.2.1 ∧ p.2.2.1 ≤ 15) ∧ (0 ≤ p.2.2.2 ∧ p.2.2.2 ≤ 255)
theorem IU (p : P4) : KY p ↔ ¬ ∃ k : Nat, k < 4 ∧ ¬ Lu (k : Int) (p4 p k) := by
  constructor
  · rintro ⟨h0, h1, h2, h3⟩ ⟨k, hk, hn⟩
    have : k = 0 ∨ k = 1 ∨ k = 2 ∨ k = 3 := by omega
    rcases this with rfl | rfl | rfl | rfl
    · exact hn h0
    · exact hn h1
    · exact hn h2
    · exact hn h3
  · intro h
    have g : ∀ k : Nat, k < 4 → Lu (k : Int) (p4 p k) := fun k hk => Classical.byContradiction fun hn => h ⟨k, hk, hn⟩
    exact ⟨g 0 (by decide), g 1 (by decide), g 2 (by decide), g 3 (by decide)⟩
theorem IE (p : P4) : E9 p = some (decide (KY p)) := by
  unfold E9
  rw [G6 4 _ (fun k => ¬ Lu (k : Int) (p4 p k)) false (fun k hk => by
    unfold En
    rw [if_pos (by omega), Kh p hk]
    simp only [Option.bind_some]
    rw [D9 (by omega)]
    by_cases c : p4 p k < 0
    · rw [if_pos c, if_pos (fun h => by have := h.1; omega)]; rfl
    · rw [if_neg c]
      by_cases c2 : BC (k : Int) < p4 p k
      · rw [decide_eq_true c2, if_pos (fun h => by have := h.2; omega)]; rfl
      · rw [decide_eq_false c2, if_neg (fun h => h ⟨by omega, by omega⟩)]; rfl) (by unfold En; rw [if_neg (by decide)])]
  unfold FC
  by_cases h : KY p
  · rw [if_neg ((IU p).1 h), decide_eq_true h]; rfl
  · rw [if_pos (Classical.byContradiction fun h2 => h ((IU p).2 h2)), decide_eq_false h]; rfl
theorem Ls {a : Nat} (h : a < 9223372036854775808) : (BitVec.ofInt 64 (a : Int)).toNat = a := by rw [BitVec.toNat_ofInt]; omega
theorem KP {a b : Nat} (ha : a < 256) (hb : b < 256) : Hb .i64 (a : Int) (b : Int) = ((a &&& b : Nat) : Int) := by
  have hl : a &&& b < 2 ^ 8 := Nat.and_lt_two_pow a hb
  show C3 ((BitVec.ofInt 64 (a : Int) &&& BitVec.ofInt 64 (b : Int)).toNat : Int) = _
  rw [BitVec.toNat_and, Ls (by omega), Ls (by omega)]; exact D9 (by omega)
theorem KR {a b : Nat} (ha : a < 256) (hb : b < 256) : H0 .i64 (a : Int) (b : Int) = ((a ^^^ b : Nat) : Int) := by
  have hl : a ^^^ b < 2 ^ 8 := Nat.xor_lt_two_pow ha hb
  show C3 ((BitVec.ofInt 64 (a : Int) ^^^ BitVec.ofInt 64 (b : Int)).toNat : Int) = _
  rw [BitVec.toNat_xor, Ls (by omega), Ls (by omega)]; exact D9 (by omega)
theorem LF {x y : Nat} (hx : x < 256) (hy : y < 256) (h : ∀ i : Nat, i < 8 → x.testBit i = y.testBit i) : x = y := by
  refine Nat.eq_of_testBit_eq fun i => ?_
  by_cases hi : i < 8
  · exact h i hi
  · have hp : 2 ^ 8 ≤ 2 ^ i := Nat.pow_le_pow_right (by decide) (by omega)
    rw [Nat.testBit_lt_two_pow (Nat.lt_of_lt_of_le hx hp), Nat.testBit_lt_two_pow (Nat.lt_of_lt_of_le hy hp)]
theorem MR {x : Nat} (hx : x < 256) : ((x : Int) ≠ 0) ↔ ∃ i : Nat, i < 8 ∧ x.testBit i = true := by
  constructor
  · intro h
    refine Classical.byContradiction fun hn => h ?_
    have : x = 0 := LF hx (by decide) fun i hi => by
      cases hb : x.testBit i
      · simp
      · exact absurd ⟨i, hi, hb⟩ hn
    rw [this]; rfl
  · rintro ⟨i, hi, hb⟩ h
    have : x = 0 := by omega
    rw [this] at hb; simp at hb
abbrev tb (x : Int) (i : Nat) : Bool := x.toNat.testBit i
abbrev By (x : Int) : Prop := 0 ≤ x ∧ x ≤ 255
theorem JH (a : Nat) (ha : a ≤ 7) : ∀ (d j x : Nat), j + d = a → x ≤ 255 → BG (EI (a : Int)) ((x : Int), (j : Int)) = some ((x / 2 ^ d : Nat) : Int) := by
  intro d
  induction d with
  | zero =>
    intro j x hj hx
    rw [E1 (by rw [EI, if_neg (by omega)])]
    simp
  | succ d ih =>
    intro j x hj hx
    rw [F7 (s' := (((x / 2 : Nat) : Int), ((j + 1 : Nat) : Int))) (by
      rw [EI, if_pos (by omega), show Int.tdiv (x : Int) 2 = ((x / 2 : Nat) : Int) from rfl, D9 (by omega), D9 (by omega)]; rfl)]
    rw [ih (j + 1) (x / 2) (by omega) (by omega), Nat.div_div_eq_div_mul, Nat.pow_succ, Nat.mul_comm]
theorem JE {x : Int} {a : Nat} (hx : By x) (ha : a < 8) : FT x (a : Int) = some (if tb x a then 1 else 0) := by
  obtain ⟨n, rfl⟩ : ∃ n : Nat, x = (n : Int) := ⟨x.toNat, by have := hx.1; omega⟩
  have h1 := hx.2
  unfold FT tb
  rw [show ((n : Int), (0 : Int)) = ((n : Int), ((0 : Nat) : Int)) from rfl, JH a (by omega) a 0 n (by omega) (by omega), Option.bind_some, Int.toNat_natCast]
  have e := Nat.toNat_testBit n a
  show some (((n / 2 ^ a % 2 : Nat)) : Int) = _
  rw [← e]
  cases n.testBit a <;> rfl
theorem FP {ε : Type} (n : Nat) (step : Int → Option (Int ⊕ (Unit ⊕ ε))) (q : Nat → Prop) [DecidablePred q] (e : ε)
    (hs : ∀ k, k < n → step (k : Int) = some (if q k then .inr (.inr e) else .inl ((k + 1 : Nat) : Int))) (he : step (n : Int) = some (.inr (.inl ()))) :
    BG step 0 = some (if ∃ k : Nat, k < n ∧ q k then .inr e else .inl ()) := by
  by_cases h : ∃ k : Nat, k < n ∧ q k
  · rw [if_pos h]
    have key : ∀ (d k : Nat), k + d = n → (∃ j, k ≤ j ∧ j < n ∧ q j) → BG step (k : Int) = some (.inr e) := by
      intro d
      induction d with
      | zero => rintro k hk ⟨j, h1, h2, h3⟩; omega
      | succ d ih =>
        rintro k hk ⟨j, h1, h2, h3⟩
        have hs' := hs k (by omega)
        by_cases hq : q k
        · rw [if_pos hq] at hs'; exact E1 hs'
        · rw [if_neg hq] at hs'
          rw [F7 hs']
          exact ih (k + 1) (by omega) ⟨j, by
            have : k ≠ j := fun e => hq (e ▸ h3)
            omega, h2, h3⟩
    obtain ⟨k, h1, h2⟩ := h
    exact key n 0 (by omega) ⟨k, by omega, h1, h2⟩
  · rw [if_neg h]
    have key : ∀ (d k : Nat), k + d = n → BG step (k : Int) = some (.inl ()) := by
      intro d
      induction d with
      | zero =>
        intro k hk
        obtain rfl : k = n := by omega
        exact E1 he
      | succ d ih =>
        intro k hk
        have hs' := hs k (by omega)
        rw [if_neg (fun hq => h ⟨k, by omega, hq⟩)] at hs'
        rw [F7 hs']
        exact ih (k + 1) (by omega)
    exact key n 0 (by omega)
theorem I1 {E : Prop} [Decidable E] : FC (some (if E then (.inr false : Unit ⊕ Bool) else .inl ())) (fun _ => some true) = some (decide (¬ E)) := by
  by_cases h : E
  · rw [if_pos h, decide_eq_false (fun hn => hn h)]; rfl
  · rw [if_neg h, decide_eq_true h]; rfl
abbrev Mt := Int × P4 × P4
abbrev Lp (f : Nat) (v m : Int) : Prop := (0 ≤ m ∧ m ≤ BC (f : Int)) ∧ (0 ≤ v ∧ v ≤ BC (f : Int)) ∧ ∀ i : Nat, i < 8 → tb v i = true → tb m i = true
abbrev Jo (m : Mt) : Prop := (-1 ≤ m.1 ∧ m.1 ≤ 7) ∧ ∀ f : Nat, f < 4 → Lp f (p4 m.2.1 f) (p4 m.2.2 f)
theorem Lc {f : Nat} (h : f < 4) : BC (f : Int) = 255 ∨ BC (f : Int) = 15 := by
  have : f = 0 ∨ f = 1 ∨ f = 2 ∨ f = 3 := by omega
  rcases this with rfl | rfl | rfl | rfl
  · exact .inl rfl
  · exact .inl rfl
  · exact .inr rfl
  · exact .inl rfl
theorem Kp {f : Nat} {v m : Int} (hf : f < 4) (h : Lp f v m) : By v ∧ By m := by
  have := Lc hf
  obtain ⟨h1, h2, _⟩ := h
  exact ⟨⟨h2.1, by omega⟩, ⟨h1.1, by omega⟩⟩
theorem JT (m : Mt) (hp : -1 ≤ m.1 ∧ m.1 ≤ 7) : decide (¬ ∃ f : Nat, f < 4 ∧ ¬ Lp f (p4 m.2.1 f) (p4 m.2.2 f)) = decide (Jo m) :=
  decide_eq_decide.2 ⟨fun h => ⟨hp, fun f hf => Classical.byContradiction fun hn => h ⟨f, hf, hn⟩⟩, fun h ⟨f, hf, hn⟩ => hn (h.2 f hf)⟩
theorem IG (m : Mt) : E2 m = some (decide (Jo m)) := by
  unfold E2
  by_cases hp : -1 ≤ m.1 ∧ m.1 ≤ 7
  · rw [if_neg (by simp; omega), FP 4 _ (fun f : Nat => ¬ Lp f (p4 m.2.1 f) (p4 m.2.2 f)) false (fun k hk => by
      unfold Eu
      have ht := Lc hk
      rw [if_pos (by omega), Kh m.2.2 hk, Option.bind_some, Kh m.2.1 hk]
      simp only [Option.bind_some]
      by_cases c : (0 ≤ p4 m.2.2 k ∧ p4 m.2.2 k ≤ BC (k : Int)) ∧ (0 ≤ p4 m.2.1 k ∧ p4 m.2.1 k ≤ BC (k : Int))
      · obtain ⟨⟨h1, h2⟩, ⟨h3, h4⟩⟩ := c
        rw [if_neg (by omega), if_neg (by omega), if_neg (by omega), decide_eq_false (by omega)]
        simp only [Option.bind_some]
        rw [if_neg (by decide), FP 8 _ (fun i : Nat => ¬ (tb (p4 m.2.1 k) i = true → tb (p4 m.2.2 k) i = true)) (.inr (.inr false)) (fun i hi => by
          unfold Eo
          rw [if_pos (by omega), Kh m.2.1 hk, Option.bind_some, JE ⟨h3, by omega⟩ hi, Option.bind_some, Kh m.2.2 hk, Option.bind_some, JE ⟨h1, by omega⟩ hi, Option.bind_some, D9 (by omega)]
          by_cases x : tb (p4 m.2.1 k) i = true <;> by_cases y : tb (p4 m.2.2 k) i = true <;> simp [x, y]) (by unfold Eo; rw [if_neg (by decide)]), D9 (by omega)]
        by_cases hb : ∃ i : Nat, i < 8 ∧ ¬ (tb (p4 m.2.1 k) i = true → tb (p4 m.2.2 k) i = true)
        · rw [if_pos hb, if_pos (fun h => by obtain ⟨i, h5, h6⟩ := hb; exact h6 (h.2.2 i h5))]; rfl
        · rw [if_neg hb, if_neg (fun h => h ⟨⟨h1, h2⟩, ⟨h3, h4⟩, fun i hi => Classical.byContradiction fun hn => hb ⟨i, hi, hn⟩⟩)]; rfl
      · rw [if_pos (fun h => c ⟨h.1, h.2.1⟩)]
        have hb : (if p4 m.2.2 k < 0 then some true else if BC (k : Int) < p4 m.2.2 k then some true else if p4 m.2.1 k < 0 then some true else some (decide (BC (k : Int) < p4 m.2.1 k))) = some true := by
          by_cases c1 : p4 m.2.2 k < 0
          · rw [if_pos c1]
          · rw [if_neg c1]
            by_cases c2 : BC (k : Int) < p4 m.2.2 k
            · rw [if_pos c2]
            · rw [if_neg c2]
              by_cases c3 : p4 m.2.1 k < 0
              · rw [if_pos c3]
              · rw [if_neg c3, decide_eq_true (by omega)]
        rw [hb]; rfl) (by unfold Eu; rw [if_neg (by decide)]), I1, JT m hp]
  · rw [if_pos (by simp; omega), decide_eq_false (fun h => hp h.1)]
abbrev Kb (m : Mt) (port : Int) (p : P4) : Prop := (m.1 = -1 ∨ m.1 = port) ∧ ∀ f : Nat, f < 4 → ∀ i : Nat, i < 8 → tb (p4 m.2.2 f) i = true → tb (p4 m.2.1 f) i = tb (p4 p f) i
theorem I5 {m : Mt} (h : Jo m) {k : Nat} (hk : k < 4) : By (p4 m.2.1 k) ∧ By (p4 m.2.2 k) := Kp hk (h.2 k hk)
abbrev LM (p : P4) : Prop := ∀ k, k < 4 → By (p4 p k)
theorem Ky {p : P4} (h : KY p) : LM p := fun k hk => by
  obtain ⟨h0, h1, h2, h3⟩ := h
  have : k = 0 ∨ k = 1 ∨ k = 2 ∨ k = 3 := by omega
  rcases this with rfl | rfl | rfl | rfl
  · exact h0
  · exact h1
  · exact ⟨h2.1, by have := h2.2; show p.2.2.1 ≤ 255; omega⟩
  · exact h3
theorem KA {v m p : Int} (hv : By v) (hm : By m) (hp : By p) : (Hb .i64 (H0 .i64 p v) m ≠ 0) ↔ ∃ i : Nat, i < 8 ∧ ¬ (tb m i = true → tb v i = tb p i) := by
  obtain ⟨v, rfl⟩ : ∃ n : Nat, v = (n : Int) := ⟨v.toNat, by have := hv.1; omega⟩
  obtain ⟨m, rfl⟩ : ∃ n : Nat, m = (n : Int) := ⟨m.toNat, by have := hm.1; omega⟩
  obtain ⟨p, rfl⟩ : ∃ n : Nat, p = (n : Int) := ⟨p.toNat, by have := hp.1; omega⟩
  have a1 := hv.2
  have a2 := hm.2
  have a3 := hp.2
  have l1 : p ^^^ v < 2 ^ 8 := Nat.xor_lt_two_pow (by omega) (by omega)
  have l2 : (p ^^^ v) &&& m < 2 ^ 8 := Nat.and_lt_two_pow _ (by omega)
  rw [KR (by omega) (by omega), KP l1 (by omega), MR l2]
  constructor
  · rintro ⟨i, hi, h⟩
    refine ⟨i, hi, fun hn => ?_⟩
    simp only [Nat.testBit_and, Nat.testBit_xor, tb, Int.toNat_natCast] at h hn
    cases h1 : m.testBit i <;> cases h2 : v.testBit i <;> cases h3 : p.testBit i <;> simp_all
  · rintro ⟨i, hi, h⟩
    refine ⟨i, hi, ?_⟩
    simp only [Nat.testBit_and, Nat.testBit_xor, tb, Int.toNat_natCast] at h ⊢
    cases h1 : m.testBit i <;> cases h2 : v.testBit i <;> cases h3 : p.testBit i <;> simp_all
theorem J6 (a b : Int) : (decide (a ≠ (-1)) && decide (a ≠ b)) = decide (¬ (a = -1 ∨ a = b)) := by
  rw [← Bool.decide_and]; exact decide_eq_decide.2 ⟨fun h h2 => by omega, fun h => by omega⟩
theorem I8 {m : Mt} (h : Jo m) (port : Int) {p : P4} (hp : LM p) : C4 m port p = some (decide (Kb m port p)) := by
  unfold C4
  rw [J6]
  by_cases hq : m.1 = -1 ∨ m.1 = port
  · rw [decide_eq_false (fun hn => hn hq), if_neg (by decide), FP 4 _ (fun f : Nat => ∃ i : Nat, i < 8 ∧ ¬ (tb (p4 m.2.2 f) i = true → tb (p4 m.2.1 f) i = tb (p4 p f) i)) false (fun k hk => by
      unfold CO
      rw [if_pos (by omega), Kh m.2.2 hk, Option.bind_some, Kh p hk, Option.bind_some, Kh m.2.1 hk, Option.bind_some, D9 (by omega)]
      have hi := KA (I5 h hk).1 (I5 h hk).2 (hp k hk)
      by_cases c : Hb .i64 (H0 .i64 (p4 p k) (p4 m.2.1 k)) (p4 m.2.2 k) ≠ 0
      · rw [if_pos c, if_pos (hi.1 c)]
      · rw [if_neg c, if_neg (fun h2 => c (hi.2 h2))]; rfl) (by unfold CO; rw [if_neg (by decide)]), I1]
    congr 1
    exact decide_eq_decide.2 ⟨fun h2 => ⟨hq, fun f hf i hi => Classical.byContradiction fun hn => h2 ⟨f, hf, i, hi, hn⟩⟩, fun h2 ⟨f, hf, i, hi, hn⟩ => hn (h2.2 f hf i hi)⟩
  · rw [decide_eq_true hq, if_pos rfl, decide_eq_false (fun h2 => hq h2.1)]
end Go.Proofs.Ytkjjioigbpkifaa
