/- Layer 12: packets, matches, rules, tables. Conditions: none. -/
import Derived.Test.YtfnmlmglmegamaacLP
import Derived.Test.YtfnmlmglmegamaacOA
import Derived.Test.YtfnmlmglmegamaacA8
namespace Go.Proofs.Ytfnmlmglmegamaa
set_option linter.unusedVariables false
set_option linter.unusedSimpArgs false
set_option synthInstance.maxSize 1000
open Go Go.RowKit
abbrev P4 := Int × Int × Int × Int
abbrev i64 (n : Int) : Prop := -9223372036854775808 ≤ n ∧ n ≤ 9223372036854775807
theorem Gw {α β : Type} (t : α) (k : α → Option β) : Fu (some (Sum.inl t)) k = k t := rfl
theorem LR (f : Int) : ((f = 0 ∨ f = 1 ∨ f = 3) ∧ Bu f = 255) ∨ (f = 2 ∧ Bu f = 15) ∨ ((f < 0 ∨ 3 < f) ∧ Bu f = 0) := by
  unfold Bu
  by_cases h2 : f = 2
  · exact .inr (.inl ⟨h2, if_pos h2⟩)
  · rw [if_neg h2]
    by_cases h : f = 0 ∨ f = 1 ∨ f = 3
    · exact .inl ⟨h, if_pos (by simpa using h)⟩
    · exact .inr (.inr ⟨by omega, if_neg (by simpa using h)⟩)
def In (f : Int) : Int := if f = 0 ∨ f = 1 ∨ f = 3 then 8 else if f = 2 then 4 else 0
theorem Oj (f : Int) : Dq f = some (In f) := by
  unfold Dq In
  by_cases h0 : f = 0
  · subst h0; rfl
  · rw [if_neg h0]
    by_cases h1 : f = 1
    · subst h1; rfl
    · rw [if_neg h1]
      by_cases h3 : f = 3
      · subst h3; rfl
      · rw [decide_eq_false h3]
        by_cases h2 : f = 2
        · subst h2; rfl
        · simp [h0, h1, h2, h3]
theorem Np (f : Int) : CM f = some (Bu f) := by
  unfold CM
  rw [Oj]
  rcases LR f with ⟨h, e⟩ | ⟨h, e⟩ | ⟨h, e⟩
  · rw [e, show In f = 8 from if_pos h]; rfl
  · rw [e, show In f = 4 by unfold In; rw [if_neg (by omega), if_pos h]]; rfl
  · rw [e, show In f = 0 by unfold In; rw [if_neg (by omega), if_neg (by omega)]]; rfl
abbrev p4 (p : P4) (k : Nat) : Int := match k with | 0 => p.1 | 1 => p.2.1 | 2 => p.2.2.1 | _ => p.2.2.2
theorem Ju (p : P4) {k : Nat} (h : k < 4) : ix ([p.1, p.2.1, p.2.2.1, p.2.2.2] : List Int) (k : Int) = some (p4 p k) := by
  have : k = 0 ∨ k = 1 ∨ k = 2 ∨ k = 3 := by omega
  rcases this with rfl | rfl | rfl | rfl <;> rfl
abbrev Hq (p : P4) (f v : Int) : P4 := ((if f = 0 then v else p.1), (if f = 1 then v else p.2.1), (if f = 2 then v else p.2.2.1), (if f = 3 then v else p.2.2.2))
theorem Oq {a : Nat} (h : a < 9223372036854775808) : (BitVec.ofInt 64 (a : Int)).toNat = a := by rw [BitVec.toNat_ofInt]; omega
theorem OI {a b : Nat} (ha : a < 256) (hb : b < 256) : IX .i64 (a : Int) (b : Int) = ((a &&& b : Nat) : Int) := by
  have hl : a &&& b < 2 ^ 8 := Nat.and_lt_two_pow a hb
  show Cs ((BitVec.ofInt 64 (a : Int) &&& BitVec.ofInt 64 (b : Int)).toNat : Int) = _
  rw [BitVec.toNat_and, Oq (by omega), Oq (by omega)]; exact Bg (by omega)
theorem Q1 {a b : Nat} (ha : a < 256) (hb : b < 256) : FI .i64 (a : Int) (b : Int) = ((a ||| b : Nat) : Int) := by
  have hl : a ||| b < 2 ^ 8 := Nat.or_lt_two_pow ha hb
  show Cs ((BitVec.ofInt 64 (a : Int) ||| BitVec.ofInt 64 (b : Int)).toNat : Int) = _
  rw [BitVec.toNat_or, Oq (by omega), Oq (by omega)]; exact Bg (by omega)
theorem PU {a b : Nat} (ha : a < 256) (hb : b < 256) : KJ .i64 (a : Int) (b : Int) = ((a ^^^ b : Nat) : Int) := by
  have hl : a ^^^ b < 2 ^ 8 := Nat.xor_lt_two_pow ha hb
  show Cs ((BitVec.ofInt 64 (a : Int) ^^^ BitVec.ofInt 64 (b : Int)).toNat : Int) = _
  rw [BitVec.toNat_xor, Oq (by omega), Oq (by omega)]; exact Bg (by omega)
theorem Pj {x y : Nat} (hx : x < 256) (hy : y < 256) (h : ∀ i : Nat, i < 8 → x.testBit i = y.testBit i) : x = y := by
  refine Nat.eq_of_testBit_eq fun i => ?_
  by_cases hi : i < 8
  · exact h i hi
  · have hp : 2 ^ 8 ≤ 2 ^ i := Nat.pow_le_pow_right (by decide) (by omega)
    rw [Nat.testBit_lt_two_pow (Nat.lt_of_lt_of_le hx hp), Nat.testBit_lt_two_pow (Nat.lt_of_lt_of_le hy hp)]
theorem RB {x : Nat} (hx : x < 256) : ((x : Int) ≠ 0) ↔ ∃ i : Nat, i < 8 ∧ x.testBit i = true := by
  constructor
  · intro h
    refine Classical.byContradiction fun hn => h ?_
    have : x = 0 := Pj hx (by decide) fun i hi => by
      cases hb : x.testBit i
      · simp
      · exact absurd ⟨i, hi, hb⟩ hn
    rw [this]; rfl
  · rintro ⟨i, hi, hb⟩ h
    have : x = 0 := by omega
    rw [this] at hb; simp at hb
theorem JV {a b : Nat} (ha : a < 9223372036854775808) (hb : b < 256) : E4 .i64 (a : Int) (b : Int) = 0 ↔ a &&& b = a := by
  have e : E4 .i64 (a : Int) (b : Int) = ((BitVec.ofInt 64 (a : Int) &&& ~~~ BitVec.ofInt 64 (b : Int)).toNat : Int) := by
    show Cs ((BitVec.ofInt 64 (a : Int) &&& ~~~ BitVec.ofInt 64 (b : Int)).toNat : Int) = _
    have hl : (BitVec.ofInt 64 (a : Int) &&& ~~~ BitVec.ofInt 64 (b : Int)).toNat ≤ a := by
      rw [BitVec.toNat_and, Oq ha]; exact Nat.and_le_left
    generalize (BitVec.ofInt 64 (a : Int) &&& ~~~ BitVec.ofInt 64 (b : Int)).toNat = z at hl
    exact Bg (by omega)
  rw [e]
  have ga : ∀ i, (BitVec.ofInt 64 (a : Int)).getLsbD i = a.testBit i := fun i => by unfold BitVec.getLsbD; rw [Oq ha]
  have gb : ∀ i, (BitVec.ofInt 64 (b : Int)).getLsbD i = b.testBit i := fun i => by unfold BitVec.getLsbD; rw [Oq (by omega)]
  have ha64 : ∀ i, 64 ≤ i → a.testBit i = false := fun i hi => Nat.testBit_lt_two_pow (Nat.lt_of_lt_of_le (show a < 2 ^ 64 by omega) (Nat.pow_le_pow_right (by decide) hi))
  constructor
  · intro h
    have hz : (BitVec.ofInt 64 (a : Int) &&& ~~~ BitVec.ofInt 64 (b : Int)) = 0#64 := BitVec.eq_of_toNat_eq (by simpa using (Int.ofNat.inj h))
    refine Nat.eq_of_testBit_eq fun i => ?_
    rw [Nat.testBit_and]
    by_cases hi : i < 64
    · have := congrArg (fun v => v.getLsbD i) hz
      simp only [BitVec.getLsbD_and, BitVec.getLsbD_not, ga, gb, hi, decide_true, Bool.true_and, BitVec.getLsbD_zero] at this
      cases h1 : a.testBit i <;> cases h2 : b.testBit i <;> simp_all
    · rw [ha64 i (by omega)]; rfl
  · intro h
    have hz : (BitVec.ofInt 64 (a : Int) &&& ~~~ BitVec.ofInt 64 (b : Int)) = 0#64 := by
      refine BitVec.eq_of_getLsbD_eq fun i hi => ?_
      have h2 := congrArg (fun v => Nat.testBit v i) h
      simp only [Nat.testBit_and] at h2
      simp only [BitVec.getLsbD_and, BitVec.getLsbD_not, ga, gb, hi, decide_true, Bool.true_and, BitVec.getLsbD_zero]
      cases h1 : a.testBit i <;> cases h3 : b.testBit i <;> simp_all
    rw [hz]; rfl
abbrev tb (x : Int) (i : Nat) : Bool := x.toNat.testBit i
abbrev By (x : Int) : Prop := 0 ≤ x ∧ x ≤ 255
theorem Nv (a : Nat) (ha : a ≤ 7) : ∀ (d j x : Nat), j + d = a → x ≤ 255 → AJ (ES (a : Int)) ((x : Int), (j : Int)) = some ((x / 2 ^ d : Nat) : Int) := by
  intro d
  induction d with
  | zero =>
    intro j x hj hx
    rw [Bw (by rw [ES, if_neg (by omega)])]
    simp
  | succ d ih =>
    intro j x hj hx
    rw [BG (s' := (((x / 2 : Nat) : Int), ((j + 1 : Nat) : Int))) (by
      rw [ES, if_pos (by omega), show Int.tdiv (x : Int) 2 = ((x / 2 : Nat) : Int) from rfl, Bg (by omega), Bg (by omega)]; rfl)]
    rw [ih (j + 1) (x / 2) (by omega) (by omega), Nat.div_div_eq_div_mul, Nat.pow_succ, Nat.mul_comm]
theorem EX {x : Int} {a : Nat} (hx : By x) (ha : a < 8) : CH x (a : Int) = some (if tb x a then 1 else 0) := by
  obtain ⟨n, rfl⟩ : ∃ n : Nat, x = (n : Int) := ⟨x.toNat, by have := hx.1; omega⟩
  have h1 := hx.2
  unfold CH tb
  rw [show ((n : Int), (0 : Int)) = ((n : Int), ((0 : Nat) : Int)) from rfl, Nv a (by omega) a 0 n (by omega) (by omega), Option.bind_some, Int.toNat_natCast]
  have e := Nat.toNat_testBit n a
  show some (((n / 2 ^ a % 2 : Nat)) : Int) = _
  rw [← e]
  cases n.testBit a <;> rfl
theorem Ei {ε : Type} (n : Nat) (step : Int → Option (Int ⊕ (Unit ⊕ ε))) (q : Nat → Prop) [DecidablePred q] (e : ε)
    (hs : ∀ k, k < n → step (k : Int) = some (if q k then .inr (.inr e) else .inl ((k + 1 : Nat) : Int))) (he : step (n : Int) = some (.inr (.inl ()))) :
    AJ step 0 = some (if ∃ k : Nat, k < n ∧ q k then .inr e else .inl ()) := by
  by_cases h : ∃ k : Nat, k < n ∧ q k
  · rw [if_pos h]
    have key : ∀ (d k : Nat), k + d = n → (∃ j, k ≤ j ∧ j < n ∧ q j) → AJ step (k : Int) = some (.inr e) := by
      intro d
      induction d with
      | zero => rintro k hk ⟨j, h1, h2, h3⟩; omega
      | succ d ih =>
        rintro k hk ⟨j, h1, h2, h3⟩
        have hs' := hs k (by omega)
        by_cases hq : q k
        · rw [if_pos hq] at hs'; exact Bw hs'
        · rw [if_neg hq] at hs'
          rw [BG hs']
          exact ih (k + 1) (by omega) ⟨j, by
            have : k ≠ j := fun e => hq (e ▸ h3)
            omega, h2, h3⟩
    obtain ⟨k, h1, h2⟩ := h
    exact key n 0 (by omega) ⟨k, by omega, h1, h2⟩
  · rw [if_neg h]
    have key : ∀ (d k : Nat), k + d = n → AJ step (k : Int) = some (.inl ()) := by
      intro d
      induction d with
      | zero =>
        intro k hk
        obtain rfl : k = n := by omega
        exact Bw he
      | succ d ih =>
        intro k hk
        have hs' := hs k (by omega)
        rw [if_neg (fun hq => h ⟨k, by omega, hq⟩)] at hs'
        rw [BG hs']
        exact ih (k + 1) (by omega)
    exact key n 0 (by omega)
theorem Hc {E : Prop} [Decidable E] : Fu (some (if E then (.inr false : Unit ⊕ Bool) else .inl ())) (fun _ => some true) = some (decide (¬ E)) := by
  by_cases h : E
  · rw [if_pos h, decide_eq_false (fun hn => hn h)]; rfl
  · rw [if_neg h, decide_eq_true h]; rfl
abbrev Mt := Int × P4 × P4
abbrev PN (f : Nat) (v m : Int) : Prop := (0 ≤ m ∧ m ≤ Bu (f : Int)) ∧ (0 ≤ v ∧ v ≤ Bu (f : Int)) ∧ ∀ i : Nat, i < 8 → tb v i = true → tb m i = true
abbrev Ec (m : Mt) : Prop := (-1 ≤ m.1 ∧ m.1 ≤ 7) ∧ ∀ f : Nat, f < 4 → PN f (p4 m.2.1 f) (p4 m.2.2 f)
theorem NY {f : Nat} (h : f < 4) : Bu (f : Int) = 255 ∨ Bu (f : Int) = 15 := by
  have : f = 0 ∨ f = 1 ∨ f = 2 ∨ f = 3 := by omega
  rcases this with rfl | rfl | rfl | rfl
  · exact .inl rfl
  · exact .inl rfl
  · exact .inr rfl
  · exact .inl rfl
theorem MI {f : Nat} {v m : Int} (hf : f < 4) (h : PN f v m) : By v ∧ By m := by
  have := NY hf
  obtain ⟨h1, h2, _⟩ := h
  exact ⟨⟨h2.1, by omega⟩, ⟨h1.1, by omega⟩⟩
theorem NW {f : Nat} {v m : Int} (hf : f < 4) (hv : v ≤ 9223372036854775807) : PN f v m ↔ (0 ≤ m ∧ m ≤ Bu (f : Int) ∧ 0 ≤ v ∧ E4 .i64 v m = 0) := by
  have ht := NY hf
  constructor
  · intro h
    obtain ⟨⟨b1, b2⟩, ⟨b3, b4⟩⟩ := MI hf h
    obtain ⟨⟨h1, h2⟩, ⟨h3, h4⟩, h5⟩ := h
    obtain ⟨a, rfl⟩ : ∃ n : Nat, v = (n : Int) := ⟨v.toNat, by omega⟩
    obtain ⟨b, rfl⟩ : ∃ n : Nat, m = (n : Int) := ⟨m.toNat, by omega⟩
    refine ⟨h1, h2, h3, (JV (by omega) (by omega)).2 (Pj (Nat.lt_of_le_of_lt Nat.and_le_left (by omega)) (by omega) fun i hi => ?_)⟩
    have := h5 i hi
    simp only [tb, Int.toNat_natCast] at this
    rw [Nat.testBit_and]
    cases h6 : a.testBit i
    · rfl
    · rw [this h6]; rfl
  · rintro ⟨h1, h2, h3, h4⟩
    obtain ⟨a, rfl⟩ : ∃ n : Nat, v = (n : Int) := ⟨v.toNat, by omega⟩
    obtain ⟨b, rfl⟩ : ∃ n : Nat, m = (n : Int) := ⟨m.toNat, by omega⟩
    have h5 := (JV (a := a) (b := b) (by omega) (by omega)).1 h4
    have h6 : a &&& b ≤ b := Nat.and_le_right
    rw [h5] at h6
    refine ⟨⟨h1, h2⟩, ⟨h3, by omega⟩, fun i hi ha => ?_⟩
    simp only [tb, Int.toNat_natCast] at ha ⊢
    have := congrArg (fun x => Nat.testBit x i) h5
    simp only [Nat.testBit_and, ha, Bool.true_and] at this
    exact this
theorem Kv (m : Mt) (hp : -1 ≤ m.1 ∧ m.1 ≤ 7) : decide (¬ ∃ f : Nat, f < 4 ∧ ¬ PN f (p4 m.2.1 f) (p4 m.2.2 f)) = decide (Ec m) :=
  decide_eq_decide.2 ⟨fun h => ⟨hp, fun f hf => Classical.byContradiction fun hn => h ⟨f, hf, hn⟩⟩, fun h ⟨f, hf, hn⟩ => hn (h.2 f hf)⟩
abbrev I4 (p : P4) : Prop := i64 p.1 ∧ i64 p.2.1 ∧ i64 p.2.2.1 ∧ i64 p.2.2.2
theorem PD {p : P4} (h : I4 p) {k : Nat} (hk : k < 4) : i64 (p4 p k) := by
  obtain ⟨h0, h1, h2, h3⟩ := h
  have : k = 0 ∨ k = 1 ∨ k = 2 ∨ k = 3 := by omega
  rcases this with rfl | rfl | rfl | rfl <;> assumption
theorem M8 {m : Mt} (hv : I4 m.2.1) : Es m = some (decide (Ec m)) := by
  unfold Es
  by_cases hp : -1 ≤ m.1 ∧ m.1 ≤ 7
  · rw [if_neg (by simp; omega), Ei 4 _ (fun f : Nat => ¬ PN f (p4 m.2.1 f) (p4 m.2.2 f)) false (fun k hk => by
      unfold DZ
      rw [if_pos (by omega), Ju m.2.2 hk, Option.bind_some, Np, Option.bind_some, Ju m.2.1 hk, Option.bind_some, Option.bind_some, Bg (by omega)]
      have hi := NW (m := p4 m.2.2 k) hk (PD hv hk).2
      by_cases c1 : p4 m.2.2 k < 0
      · rw [if_pos c1, if_pos (fun h => by have := (hi.1 h).1; omega)]; rfl
      · rw [if_neg c1]
        by_cases c2 : Bu (k : Int) < p4 m.2.2 k
        · rw [if_pos c2, if_pos (fun h => by have := (hi.1 h).2.1; omega)]; rfl
        · rw [if_neg c2]
          by_cases c3 : p4 m.2.1 k < 0
          · rw [if_pos c3, if_pos (fun h => by have := (hi.1 h).2.2.1; omega)]; rfl
          · rw [if_neg c3]
            by_cases c4 : E4 .i64 (p4 m.2.1 k) (p4 m.2.2 k) = 0
            · rw [decide_eq_false (by simpa using c4), if_neg (fun h => h (hi.2 ⟨by omega, by omega, by omega, c4⟩))]; rfl
            · rw [decide_eq_true c4, if_pos (fun h => c4 (hi.1 h).2.2.2)]; rfl) (by unfold DZ; rw [if_neg (by decide)]), Hc, Kv m hp]
  · rw [if_pos (by simp; omega), decide_eq_false (fun h => hp h.1)]
theorem KK (m : Mt) : FJ m = some (decide (Ec m)) := by
  unfold FJ
  by_cases hp : -1 ≤ m.1 ∧ m.1 ≤ 7
  · rw [if_neg (by simp; omega), Ei 4 _ (fun f : Nat => ¬ PN f (p4 m.2.1 f) (p4 m.2.2 f)) false (fun k hk => by
      unfold EA
      have ht := NY hk
      rw [if_pos (by omega), Ju m.2.2 hk, Option.bind_some, Ju m.2.1 hk]
      simp only [Option.bind_some]
      by_cases c : (0 ≤ p4 m.2.2 k ∧ p4 m.2.2 k ≤ Bu (k : Int)) ∧ (0 ≤ p4 m.2.1 k ∧ p4 m.2.1 k ≤ Bu (k : Int))
      · obtain ⟨⟨h1, h2⟩, ⟨h3, h4⟩⟩ := c
        rw [if_neg (by omega), if_neg (by omega), if_neg (by omega), decide_eq_false (by omega)]
        simp only [Option.bind_some]
        rw [if_neg (by decide), Ei 8 _ (fun i : Nat => ¬ (tb (p4 m.2.1 k) i = true → tb (p4 m.2.2 k) i = true)) (.inr (.inr false)) (fun i hi => by
          unfold EI
          rw [if_pos (by omega), Ju m.2.1 hk, Option.bind_some, EX ⟨h3, by omega⟩ hi, Option.bind_some, Ju m.2.2 hk, Option.bind_some, EX ⟨h1, by omega⟩ hi, Option.bind_some, Bg (by omega)]
          by_cases x : tb (p4 m.2.1 k) i = true <;> by_cases y : tb (p4 m.2.2 k) i = true <;> simp [x, y]) (by unfold EI; rw [if_neg (by decide)]), Bg (by omega)]
        by_cases hb : ∃ i : Nat, i < 8 ∧ ¬ (tb (p4 m.2.1 k) i = true → tb (p4 m.2.2 k) i = true)
        · rw [if_pos hb, if_pos (fun h => by obtain ⟨i, h5, h6⟩ := hb; exact h6 (h.2.2 i h5))]; rfl
        · rw [if_neg hb, if_neg (fun h => h ⟨⟨h1, h2⟩, ⟨h3, h4⟩, fun i hi => Classical.byContradiction fun hn => hb ⟨i, hi, hn⟩⟩)]; rfl
      · rw [if_pos (fun h => c ⟨h.1, h.2.1⟩)]
        have hb : (if p4 m.2.2 k < 0 then some true else if Bu (k : Int) < p4 m.2.2 k then some true else if p4 m.2.1 k < 0 then some true else some (decide (Bu (k : Int) < p4 m.2.1 k))) = some true := by
          by_cases c1 : p4 m.2.2 k < 0
          · rw [if_pos c1]
          · rw [if_neg c1]
            by_cases c2 : Bu (k : Int) < p4 m.2.2 k
            · rw [if_pos c2]
            · rw [if_neg c2]
              by_cases c3 : p4 m.2.1 k < 0
              · rw [if_pos c3]
              · rw [if_neg c3, decide_eq_true (by omega)]
        rw [hb]; rfl) (by unfold EA; rw [if_neg (by decide)]), Hc, Kv m hp]
  · rw [if_pos (by simp; omega), decide_eq_false (fun h => hp h.1)]
theorem Dg {m : Mt} (h : Ec m) {k : Nat} (hk : k < 4) : By (p4 m.2.1 k) ∧ By (p4 m.2.2 k) := MI hk (h.2 k hk)
abbrev N8 (m n : Mt) : Prop := m.1 = n.1 ∧ m.2.1.1 = n.2.1.1 ∧ m.2.1.2.1 = n.2.1.2.1 ∧ m.2.1.2.2.1 = n.2.1.2.2.1 ∧ m.2.1.2.2.2 = n.2.1.2.2.2 ∧ m.2.2.1 = n.2.2.1 ∧ m.2.2.2.1 = n.2.2.2.1 ∧ m.2.2.2.2.1 = n.2.2.2.2.1 ∧ m.2.2.2.2.2 = n.2.2.2.2.2
theorem Fd {m n : Mt} : N8 m n ↔ m = n := by
  obtain ⟨a, ⟨b, c, d, e⟩, ⟨f, g, i, j⟩⟩ := m
  obtain ⟨a', ⟨b', c', d', e'⟩, ⟨f', g', i', j'⟩⟩ := n
  constructor
  · rintro ⟨h1, h2, h3, h4, h5, h6, h7, h8, h9⟩
    simp only at *
    subst h1 h2 h3 h4 h5 h6 h7 h8 h9; rfl
  · rintro h; cases h; exact ⟨rfl, rfl, rfl, rfl, rfl, rfl, rfl, rfl, rfl⟩
def GB (x y : Int) : Int := ((x.toNat ||| y.toNat : Nat) : Int)
abbrev Ln (a b : P4) : P4 := (GB a.1 b.1, GB a.2.1 b.2.1, GB a.2.2.1 b.2.2.1, GB a.2.2.2 b.2.2.2)
theorem M3 {x y : Int} (hx : By x) (hy : By y) : FI .i64 x y = GB x y := by
  obtain ⟨n, rfl⟩ : ∃ n : Nat, x = (n : Int) := ⟨x.toNat, by have := hx.1; omega⟩
  obtain ⟨m, rfl⟩ : ∃ n : Nat, y = (n : Int) := ⟨y.toNat, by have := hy.1; omega⟩
  have h1 := hx.2
  have h2 := hy.2
  unfold GB
  rw [Q1 (by omega) (by omega), Int.toNat_natCast, Int.toNat_natCast]
theorem O0 (x y : Int) (i : Nat) : tb (GB x y) i = (tb x i || tb y i) := by
  unfold GB tb
  rw [Int.toNat_natCast, Nat.testBit_or]
theorem O4 {x y : Int} {f : Nat} (hf : f < 4) (hx : 0 ≤ x ∧ x ≤ Bu (f : Int)) (hy : 0 ≤ y ∧ y ≤ Bu (f : Int)) : 0 ≤ GB x y ∧ GB x y ≤ Bu (f : Int) := by
  unfold GB
  rcases NY hf with e | e
  · rw [e] at hx hy ⊢
    have : x.toNat ||| y.toNat < 2 ^ 8 := Nat.or_lt_two_pow (by omega) (by omega)
    omega
  · rw [e] at hx hy ⊢
    have : x.toNat ||| y.toNat < 2 ^ 4 := Nat.or_lt_two_pow (by omega) (by omega)
    omega
theorem MK (x y : P4) {k : Nat} (hk : k < 4) : p4 (Ln x y) k = GB (p4 x k) (p4 y k) := by
  have : k = 0 ∨ k = 1 ∨ k = 2 ∨ k = 3 := by omega
  rcases this with rfl | rfl | rfl | rfl <;> rfl
theorem M4 {x y : P4} (h : ∀ k, k < 4 → p4 x k = p4 y k) : x = y := by
  obtain ⟨a, b, c, d⟩ := x
  obtain ⟨a', b', c', d'⟩ := y
  have h0 : a = a' := h 0 (by decide)
  have h1 : b = b' := h 1 (by decide)
  have h2 : c = c' := h 2 (by decide)
  have h3 : d = d' := h 3 (by decide)
  subst h0 h1 h2 h3; rfl
theorem GU (v : P4) {k : Nat} (hk : k < 4) : Hq v (k : Int) (p4 v k) = v := by
  have : k = 0 ∨ k = 1 ∨ k = 2 ∨ k = 3 := by omega
  rcases this with rfl | rfl | rfl | rfl <;> rfl
theorem K8 (v : P4) {k : Nat} (hk : k < 4) (x y : Int) : Hq (Hq v (k : Int) x) (k : Int) y = Hq v (k : Int) y := by
  have : k = 0 ∨ k = 1 ∨ k = 2 ∨ k = 3 := by omega
  rcases this with rfl | rfl | rfl | rfl <;> rfl
theorem NG (v : P4) {k : Nat} (hk : k < 4) (x : Int) : p4 (Hq v (k : Int) x) k = x := by
  have : k = 0 ∨ k = 1 ∨ k = 2 ∨ k = 3 := by omega
  rcases this with rfl | rfl | rfl | rfl <;> rfl
theorem Pv {x y : Int} (hx : By x) (hy : By y) (h : ∀ i : Nat, i < 8 → tb x i = tb y i) : x = y := by
  have h1 := hx.1
  have h2 := hx.2
  have h3 := hy.1
  have h4 := hy.2
  have := Pj (x := x.toNat) (y := y.toNat) (by omega) (by omega) h
  omega
abbrev cb (a b : Mt) (f i : Nat) : Prop := tb (p4 a.2.2 f) i = true ∧ tb (p4 b.2.2 f) i = true ∧ tb (p4 a.2.1 f) i ≠ tb (p4 b.2.1 f) i
abbrev Cl (a b : Mt) (f : Nat) : Prop := ∃ i : Nat, i < 8 ∧ cb a b f i
abbrev PC (a b : Mt) : Prop := a.1 ≠ -1 ∧ b.1 ≠ -1 ∧ a.1 ≠ b.1
abbrev GT (a b : Mt) : Prop := PC a b ∨ ∃ f : Nat, f < 4 ∧ Cl a b f
abbrev Iq (a b : Mt) : Mt := ((if a.1 = -1 then b.1 else a.1), Ln a.2.1 b.2.1, Ln a.2.2 b.2.2)
abbrev FY : Mt := (0, (0, 0, 0, 0), (0, 0, 0, 0))
theorem PW {va vb ma mb : Int} (h1 : By va) (h2 : By vb) (h3 : By ma) (h4 : By mb) : (IX .i64 (IX .i64 (KJ .i64 va vb) ma) mb ≠ 0) ↔ ∃ i : Nat, i < 8 ∧ (tb ma i = true ∧ tb mb i = true ∧ tb va i ≠ tb vb i) := by
  obtain ⟨va, rfl⟩ : ∃ n : Nat, va = (n : Int) := ⟨va.toNat, by have := h1.1; omega⟩
  obtain ⟨vb, rfl⟩ : ∃ n : Nat, vb = (n : Int) := ⟨vb.toNat, by have := h2.1; omega⟩
  obtain ⟨ma, rfl⟩ : ∃ n : Nat, ma = (n : Int) := ⟨ma.toNat, by have := h3.1; omega⟩
  obtain ⟨mb, rfl⟩ : ∃ n : Nat, mb = (n : Int) := ⟨mb.toNat, by have := h4.1; omega⟩
  have a1 := h1.2
  have a2 := h2.2
  have a3 := h3.2
  have a4 := h4.2
  have l1 : va ^^^ vb < 2 ^ 8 := Nat.xor_lt_two_pow (by omega) (by omega)
  have l2 : (va ^^^ vb) &&& ma < 2 ^ 8 := Nat.and_lt_two_pow _ (by omega)
  have l3 : (va ^^^ vb) &&& ma &&& mb < 2 ^ 8 := Nat.and_lt_two_pow _ (by omega)
  rw [PU (by omega) (by omega), OI l1 (by omega), OI l2 (by omega), RB l3]
  constructor
  · rintro ⟨i, hi, h⟩
    refine ⟨i, hi, ?_⟩
    simp only [Nat.testBit_and, Nat.testBit_xor, tb, Int.toNat_natCast] at h ⊢
    cases h1 : ma.testBit i <;> cases h2 : mb.testBit i <;> cases h3 : va.testBit i <;> cases h4 : vb.testBit i <;> simp_all
  · rintro ⟨i, hi, h⟩
    refine ⟨i, hi, ?_⟩
    simp only [Nat.testBit_and, Nat.testBit_xor, tb, Int.toNat_natCast] at h ⊢
    cases h1 : ma.testBit i <;> cases h2 : mb.testBit i <;> cases h3 : va.testBit i <;> cases h4 : vb.testBit i <;> simp_all
abbrev T8 := Int × Int × Int × Int × Int × Int × Int × Int
abbrev t8 (v m : P4) : T8 := (v.1, v.2.1, v.2.2.1, v.2.2.2, m)
theorem Je {a b : Mt} {S : (Int × T8) → Option ((Int × T8) ⊕ (T8 ⊕ (Mt × Bool)))}
    (hs : ∀ k, k < 4 → ∀ v m : P4, p4 v k = p4 a.2.1 k → p4 m k = p4 a.2.2 k → S ((k : Int), t8 v m) = some (if Cl a b k then .inr (.inr (FY, false)) else .inl (((k + 1 : Nat) : Int), t8 (Hq v (k : Int) (GB (p4 a.2.1 k) (p4 b.2.1 k))) (Hq m (k : Int) (GB (p4 a.2.2 k) (p4 b.2.2 k))))))
    (he : ∀ v m : P4, S (4, t8 v m) = some (.inr (.inl (t8 v m)))) :
    AJ S (0, t8 a.2.1 a.2.2) = some (if ∃ f : Nat, f < 4 ∧ Cl a b f then .inr (FY, false) else .inl (t8 (Ln a.2.1 b.2.1) (Ln a.2.2 b.2.2))) := by
  have s0 := hs 0 (by decide) a.2.1 a.2.2 rfl rfl
  have s1 := hs 1 (by decide) (GB a.2.1.1 b.2.1.1, a.2.1.2) (GB a.2.2.1 b.2.2.1, a.2.2.2) rfl rfl
  have s2 := hs 2 (by decide) (GB a.2.1.1 b.2.1.1, GB a.2.1.2.1 b.2.1.2.1, a.2.1.2.2) (GB a.2.2.1 b.2.2.1, GB a.2.2.2.1 b.2.2.2.1, a.2.2.2.2) rfl rfl
  have s3 := hs 3 (by decide) (GB a.2.1.1 b.2.1.1, GB a.2.1.2.1 b.2.1.2.1, GB a.2.1.2.2.1 b.2.1.2.2.1, a.2.1.2.2.2) (GB a.2.2.1 b.2.2.1, GB a.2.2.2.1 b.2.2.2.1, GB a.2.2.2.2.1 b.2.2.2.2.1, a.2.2.2.2.2) rfl rfl
  by_cases c0 : Cl a b 0
  · rw [if_pos ⟨0, by decide, c0⟩]
    rw [if_pos c0] at s0
    exact Bw s0
  rw [if_neg c0] at s0
  by_cases c1 : Cl a b 1
  · rw [if_pos ⟨1, by decide, c1⟩]
    rw [if_pos c1] at s1
    exact (BG s0).trans (Bw s1)
  rw [if_neg c1] at s1
  by_cases c2 : Cl a b 2
  · rw [if_pos ⟨2, by decide, c2⟩]
    rw [if_pos c2] at s2
    exact (BG s0).trans ((BG s1).trans (Bw s2))
  rw [if_neg c2] at s2
  by_cases c3 : Cl a b 3
  · rw [if_pos ⟨3, by decide, c3⟩]
    rw [if_pos c3] at s3
    exact (BG s0).trans ((BG s1).trans ((BG s2).trans (Bw s3)))
  rw [if_neg c3] at s3
  rw [if_neg (by
    rintro ⟨f, hf, h⟩
    have : f = 0 ∨ f = 1 ∨ f = 2 ∨ f = 3 := by omega
    rcases this with rfl | rfl | rfl | rfl
    · exact c0 h
    · exact c1 h
    · exact c2 h
    · exact c3 h)]
  exact (BG s0).trans ((BG s1).trans ((BG s2).trans ((BG s3).trans (Bw (he (Ln a.2.1 b.2.1) (Ln a.2.2 b.2.2))))))
abbrev E9 (a b : Mt) : Mt × Bool := if GT a b then (FY, false) else (Iq a b, true)
theorem JW {a b : Mt} {S : (Int × T8) → Option ((Int × T8) ⊕ (T8 ⊕ (Mt × Bool)))}
    (h : AJ S (0, t8 a.2.1 a.2.2) = some (if ∃ f : Nat, f < 4 ∧ Cl a b f then .inr (FY, false) else .inl (t8 (Ln a.2.1 b.2.1) (Ln a.2.2 b.2.2)))) :
    ((if a.1 = (-1) then some b.1 else some a.1).bind fun x1 => (if (decide (b.1 ≠ (-1)) && decide (x1 ≠ b.1)) = true then some ((0, (0, 0, 0, 0), (0, 0, 0, 0)), false) else Fu (AJ S (0, a.2.1.1, a.2.1.2.1, a.2.1.2.2.1, a.2.1.2.2.2, a.2.2.1, a.2.2.2.1, a.2.2.2.2.1, a.2.2.2.2.2)) fun (x2, x3, x4, x5, x6, x7, x8, x9) => some ((x1, (x2, x3, x4, x5), (x6, x7, x8, x9)), true))) = some (E9 a b) := by
  have h' : AJ S (0, a.2.1.1, a.2.1.2.1, a.2.1.2.2.1, a.2.1.2.2.2, a.2.2.1, a.2.2.2.1, a.2.2.2.2.1, a.2.2.2.2.2) = _ := h
  have hp : (if a.1 = (-1) then some b.1 else some a.1) = some (if a.1 = -1 then b.1 else a.1) := by split <;> rfl
  rw [hp, Option.bind_some, h']
  by_cases c : PC a b
  · rw [if_pos (by rw [if_neg c.1]; simpa using c.2), show E9 a b = (FY, false) from if_pos (.inl c)]
  · rw [if_neg (by
      intro hn
      apply c
      simp only [Bool.and_eq_true, decide_eq_true_eq] at hn
      by_cases ca : a.1 = -1
      · rw [if_pos ca] at hn; exact absurd rfl hn.2
      · rw [if_neg ca] at hn; exact ⟨ca, hn.1, hn.2⟩)]
    by_cases c2 : ∃ f : Nat, f < 4 ∧ Cl a b f
    · rw [if_pos c2, show E9 a b = (FY, false) from if_pos (.inr c2)]; rfl
    · rw [if_neg c2, show E9 a b = (Iq a b, true) from if_neg (fun h => h.elim c c2)]; rfl
theorem LL {a b : Mt} (ha : Ec a) (hb : Ec b) : D8 a b = some (E9 a b) := by
  unfold D8
  exact JW (Je (fun k hk v m hv hm => by
    obtain ⟨g1, g2⟩ := Dg ha hk
    obtain ⟨g3, g4⟩ := Dg hb hk
    show Dc b ((k : Int), v.1, v.2.1, v.2.2.1, v.2.2.2, m.1, m.2.1, m.2.2.1, m.2.2.2) = _
    rw [Dc, if_pos (by omega), Ju v hk, Option.bind_some, Ju b.2.1 hk, Option.bind_some, Ju m hk, Option.bind_some, Ju b.2.2 hk, Option.bind_some]
    simp only [Option.bind_some]
    rw [hv, hm, Bg (by omega), M3 g1 g3, M3 g2 g4]
    have hi := PW g1 g3 g2 g4
    by_cases c : IX .i64 (IX .i64 (KJ .i64 (p4 a.2.1 k) (p4 b.2.1 k)) (p4 a.2.2 k)) (p4 b.2.2 k) ≠ 0
    · rw [if_pos c, if_pos (hi.1 c)]
    · rw [if_neg c, if_neg (fun h => c (hi.2 h))]; rfl) (fun v m => by
    show Dc b (4, v.1, v.2.1, v.2.2.1, v.2.2.2, m.1, m.2.1, m.2.2.1, m.2.2.2) = _
    rw [Dc, if_neg (by decide)]))
theorem Oy : ∀ x : Fin 256, ∀ i : Fin 8, x.val.testBit i.val = false → x.val ||| 2 ^ i.val = x.val + 2 ^ i.val := by decide +kernel
theorem PE : ∀ x : Fin 256, ∀ i : Fin 8, x.val.testBit i.val = true → x.val ||| 2 ^ i.val = x.val := by decide +kernel
theorem Oo : ∀ x : Fin 256, ∀ i : Fin 8, x.val.testBit i.val = true → x.val % 2 ^ (i.val + 1) = x.val % 2 ^ i.val ||| 2 ^ i.val := by decide +kernel
theorem LS : ∀ x : Fin 256, ∀ i : Fin 8, x.val.testBit i.val = false → x.val % 2 ^ (i.val + 1) = x.val % 2 ^ i.val := by decide +kernel
theorem NC {x y i : Nat} (hx : x < 256) (hy : y < 256) (hi : i < 8) : (x ||| y % 2 ^ (i + 1)) = if y.testBit i = true ∧ x.testBit i = false then (x ||| y % 2 ^ i) + 2 ^ i else (x ||| y % 2 ^ i) := by
  have hz : y % 2 ^ i < 256 := Nat.lt_of_le_of_lt (Nat.mod_le _ _) hy
  have hw : x ||| y % 2 ^ i < 2 ^ 8 := Nat.or_lt_two_pow hx hz
  cases h1 : y.testBit i
  · rw [if_neg (fun h => by cases h.1), LS ⟨y, hy⟩ ⟨i, hi⟩ h1]
  · have h3 := Oo ⟨y, hy⟩ ⟨i, hi⟩ h1
    simp only at h3
    rw [h3]
    cases h2 : x.testBit i
    · rw [if_pos ⟨rfl, rfl⟩, ← Nat.or_assoc]
      exact Oy ⟨x ||| y % 2 ^ i, hw⟩ ⟨i, hi⟩ (by simp [h2])
    · have h4 := PE ⟨x, hx⟩ ⟨i, hi⟩ h2
      simp only at h4
      rw [if_neg (fun h => by cases h.2), Nat.or_comm (y % 2 ^ i), ← Nat.or_assoc, h4]
def lo (x y : Int) (i : Nat) : Int := ((x.toNat ||| y.toNat % 2 ^ i : Nat) : Int)
theorem Q4 {x y : Int} (hx : By x) : lo x y 0 = x := by
  have := hx.1
  unfold lo
  rw [Nat.pow_zero, Nat.mod_one, Nat.or_zero]; omega
theorem Ru {x y : Int} (hy : By y) : lo x y 8 = GB x y := by
  have := hy.1
  have := hy.2
  unfold lo GB
  rw [Nat.mod_eq_of_lt (by omega)]
theorem OK {x y : Int} (hx : By x) (hy : By y) (i : Nat) : By (lo x y i) := by
  have h1 := hx.1
  have h2 := hx.2
  have h3 := hy.1
  have h4 := hy.2
  have : x.toNat ||| y.toNat % 2 ^ i < 2 ^ 8 := Nat.or_lt_two_pow (by omega) (Nat.lt_of_le_of_lt (Nat.mod_le _ _) (by omega))
  unfold lo
  constructor <;> omega
theorem Lo {x y : Int} (hx : By x) (hy : By y) {i : Nat} (hi : i < 8) : lo x y (i + 1) = if tb y i = true ∧ tb x i = false then lo x y i + ((2 ^ i : Nat) : Int) else lo x y i := by
  have h1 := hx.1
  have h2 := hx.2
  have h3 := hy.1
  have h4 := hy.2
  unfold lo
  rw [NC (by omega) (by omega) hi]
  by_cases c : y.toNat.testBit i = true ∧ x.toNat.testBit i = false
  · rw [if_pos c, if_pos c]; simp
  · rw [if_neg c, if_neg c]
theorem Ms {a b : Mt} (ha : Ec a) (hb : Ec b) {k : Nat} (hk : k < 4) {i : Nat} (hi : i < 8) (v m : P4) (hv : p4 v k = lo (p4 a.2.1 k) (p4 b.2.1 k) i) (hm : p4 m k = lo (p4 a.2.2 k) (p4 b.2.2 k) i) :
    Cw a b (k : Int) (((2 ^ i : Nat) : Int), (i : Int), t8 v m) = some (if cb a b k i then .inr (.inr (.inr (.inr (FY, false)))) else .inl (((2 ^ (i + 1) : Nat) : Int), ((i + 1 : Nat) : Int), t8 (Hq v (k : Int) (lo (p4 a.2.1 k) (p4 b.2.1 k) (i + 1))) (Hq m (k : Int) (lo (p4 a.2.2 k) (p4 b.2.2 k) (i + 1))))) := by
  obtain ⟨g1, g2⟩ := Dg ha hk
  obtain ⟨g3, g4⟩ := Dg hb hk
  have ga := (ha.2 k hk).2.2 i hi
  have gb := (hb.2 k hk).2.2 i hi
  have l1 := Lo g1 g3 hi
  have l2 := Lo g2 g4 hi
  have b1 := OK g1 g3 i
  have b2 := OK g2 g4 i
  have hp : 2 ^ i ≤ 2 ^ 7 := Nat.pow_le_pow_right (by decide) (by omega)
  have hq : 2 ^ (i + 1) = 2 ^ i * 2 := Nat.pow_succ ..
  rw [hq]
  generalize 2 ^ i = q at hp l1 l2
  show Cw a b (k : Int) ((q : Int), (i : Int), v.1, v.2.1, v.2.2.1, v.2.2.2, m.1, m.2.1, m.2.2.1, m.2.2.2) = _
  rw [Cw, if_pos (by omega), Ju b.2.2 hk, Option.bind_some, EX g4 hi, Option.bind_some, Ju a.2.2 hk, Ju a.2.1 hk, Ju b.2.1 hk, Ju v hk, Ju m hk]
  simp only [Option.bind_some]
  rw [EX g2 hi, EX g1 hi, EX g3 hi, EX g4 hi]
  simp only [Option.bind_some]
  rw [hv, hm, Bg (x := (q : Int) * 2) (by omega), Bg (x := (i : Int) + 1) (by omega)]
  generalize lo (p4 a.2.1 k) (p4 b.2.1 k) i = V at *
  generalize lo (p4 a.2.2 k) (p4 b.2.2 k) i = M at *
  have sv := GU v hk
  have sm := GU m hk
  rw [hv] at sv
  rw [hm] at sm
  have o1 := b1.1
  have o2 := b1.2
  have o3 := b2.1
  have o4 := b2.2
  by_cases c1 : tb (p4 b.2.2 k) i = true
  · by_cases c2 : tb (p4 a.2.2 k) i = true
    · have e2 : lo (p4 a.2.2 k) (p4 b.2.2 k) (i + 1) = M := by rw [l2, if_neg (fun h => by rw [c2] at h; cases h.2)]
      by_cases c3 : tb (p4 a.2.1 k) i = tb (p4 b.2.1 k) i
      · have e1 : lo (p4 a.2.1 k) (p4 b.2.1 k) (i + 1) = V := by rw [l1, if_neg (fun h => by rw [c3, h.1] at h; cases h.2)]
        rw [if_neg (show ¬ cb a b k i from fun h => h.2.2 c3), e1, e2, sv, sm]
        rw [c1, c2, c3]
        simp
      · rw [if_pos (show cb a b k i from ⟨c2, c1, c3⟩), c1, c2]
        by_cases c4 : tb (p4 a.2.1 k) i = true <;> by_cases c5 : tb (p4 b.2.1 k) i = true <;> simp_all
    · have c2' : tb (p4 a.2.2 k) i = false := by simpa using c2
      have c4 : tb (p4 a.2.1 k) i = false := by
        cases h : tb (p4 a.2.1 k) i
        · rfl
        · exact absurd (ga h) c2
      have e2 : lo (p4 a.2.2 k) (p4 b.2.2 k) (i + 1) = M + (q : Int) := by rw [l2, if_pos ⟨c1, c2'⟩]
      rw [if_neg (show ¬ cb a b k i from fun h => c2 h.1), e2, c1, c2', c4]
      by_cases c5 : tb (p4 b.2.1 k) i = true
      · have e1 : lo (p4 a.2.1 k) (p4 b.2.1 k) (i + 1) = V + (q : Int) := by rw [l1, if_pos ⟨c5, c4⟩]
        rw [e1, c5, if_pos rfl, Bg (x := (q : Int) * 1) (by omega), Bg (x := V + (q : Int) * 1) (by omega), Bg (x := M + (q : Int)) (by omega), Int.mul_one]
        simp
      · have c5' : tb (p4 b.2.1 k) i = false := by simpa using c5
        have e1 : lo (p4 a.2.1 k) (p4 b.2.1 k) (i + 1) = V := by rw [l1, if_neg (fun h => by rw [c5'] at h; cases h.1)]
        rw [e1, c5', if_neg (show ¬ (false = true) by decide), Bg (x := (q : Int) * 0) (by omega), Bg (x := V + (q : Int) * 0) (by omega), Bg (x := M + (q : Int)) (by omega), Int.mul_zero, Int.add_zero]
        simp
  · have c1' : tb (p4 b.2.2 k) i = false := by simpa using c1
    have c5 : tb (p4 b.2.1 k) i = false := by
      cases h : tb (p4 b.2.1 k) i
      · rfl
      · exact absurd (gb h) c1
    have e1 : lo (p4 a.2.1 k) (p4 b.2.1 k) (i + 1) = V := by rw [l1, if_neg (fun h => by rw [c5] at h; cases h.1)]
    have e2 : lo (p4 a.2.2 k) (p4 b.2.2 k) (i + 1) = M := by rw [l2, if_neg (fun h => by rw [c1'] at h; cases h.1)]
    rw [if_neg (show ¬ cb a b k i from fun h => c1 h.2.1), e1, e2, sv, sm, c1']
    simp
theorem Kp {a b : Mt} (ha : Ec a) (hb : Ec b) {k : Nat} (hk : k < 4) (v m : P4) (hv : p4 v k = p4 a.2.1 k) (hm : p4 m k = p4 a.2.2 k) :
    AJ (Cw a b (k : Int)) (1, 0, t8 v m) = some (if Cl a b k then .inr (.inr (.inr (FY, false))) else .inl (t8 (Hq v (k : Int) (GB (p4 a.2.1 k) (p4 b.2.1 k))) (Hq m (k : Int) (GB (p4 a.2.2 k) (p4 b.2.2 k))))) := by
  obtain ⟨g1, g2⟩ := Dg ha hk
  obtain ⟨g3, g4⟩ := Dg hb hk
  have key : ∀ (d i : Nat), i + d = 8 → ∀ v m : P4, p4 v k = lo (p4 a.2.1 k) (p4 b.2.1 k) i → p4 m k = lo (p4 a.2.2 k) (p4 b.2.2 k) i →
      AJ (Cw a b (k : Int)) (((2 ^ i : Nat) : Int), (i : Int), t8 v m) = some (if ∃ j : Nat, j < 8 ∧ (i ≤ j ∧ cb a b k j) then .inr (.inr (.inr (FY, false))) else .inl (t8 (Hq v (k : Int) (GB (p4 a.2.1 k) (p4 b.2.1 k))) (Hq m (k : Int) (GB (p4 a.2.2 k) (p4 b.2.2 k))))) := by
    intro d
    induction d with
    | zero =>
      intro i hi v m hv hm
      obtain rfl : i = 8 := by omega
      rw [if_neg (by rintro ⟨j, h1, h2, _⟩; omega), ← Ru g3, ← Ru g4, ← hv, ← hm, GU v hk, GU m hk]
      refine Bw ?_
      show Cw a b (k : Int) (((2 ^ 8 : Nat) : Int), ((8 : Nat) : Int), v.1, v.2.1, v.2.2.1, v.2.2.2, m.1, m.2.1, m.2.2.1, m.2.2.2) = _
      rw [Cw, if_neg (by decide)]
    | succ d ih =>
      intro i hi v m hv hm
      have hs := Ms ha hb hk (i := i) (by omega) v m hv hm
      by_cases c : cb a b k i
      · rw [if_pos c] at hs
        rw [if_pos ⟨i, by omega, Nat.le_refl _, c⟩]
        exact Bw hs
      · rw [if_neg c] at hs
        rw [BG hs, ih (i + 1) (by omega) _ _ (NG v hk _) (NG m hk _), K8 v hk, K8 m hk]
        by_cases c2 : ∃ j : Nat, j < 8 ∧ (i + 1 ≤ j ∧ cb a b k j)
        · rw [if_pos c2, if_pos (by obtain ⟨j, h1, h2, h3⟩ := c2; exact ⟨j, h1, by omega, h3⟩)]
        · rw [if_neg c2, if_neg (by
            rintro ⟨j, h1, h2, h3⟩
            have : i ≠ j := fun e => c (e ▸ h3)
            exact c2 ⟨j, h1, by omega, h3⟩)]
  have h := key 8 0 rfl v m (by rw [Q4 g1, hv]) (by rw [Q4 g2, hm])
  have h' : AJ (Cw a b (k : Int)) (1, 0, t8 v m) = _ := h
  rw [h']
  by_cases c : Cl a b k
  · rw [if_pos c, if_pos (by obtain ⟨j, h1, h2⟩ := c; exact ⟨j, h1, by omega, h2⟩)]
  · rw [if_neg c, if_neg (by rintro ⟨j, h1, _, h2⟩; exact c ⟨j, h1, h2⟩)]
theorem NA {a b : Mt} (ha : Ec a) (hb : Ec b) : Iw a b = some (E9 a b) := by
  unfold Iw
  exact JW (Je (fun k hk v m hv hm => by
    show Em a b ((k : Int), v.1, v.2.1, v.2.2.1, v.2.2.2, m.1, m.2.1, m.2.2.1, m.2.2.2) = _
    have hf := Kp ha hb hk v m hv hm
    have hf' : AJ (Cw a b (k : Int)) (1, 0, v.1, v.2.1, v.2.2.1, v.2.2.2, m.1, m.2.1, m.2.2.1, m.2.2.2) = _ := hf
    rw [Em, if_pos (by omega), hf', Bg (by omega)]
    by_cases c : Cl a b k
    · rw [if_pos c, if_pos c]; rfl
    · rw [if_neg c, if_neg c]; rfl) (fun v m => by
    show Em a b (4, v.1, v.2.1, v.2.2.1, v.2.2.2, m.1, m.2.1, m.2.2.1, m.2.2.2) = _
    rw [Em, if_neg (by decide)]))
abbrev WI (a b : Mt) : Prop := (b.1 = -1 ∨ a.1 = b.1) ∧ ∀ f : Nat, f < 4 → ∀ i : Nat, i < 8 → tb (p4 b.2.2 f) i = true → (tb (p4 a.2.2 f) i = true ∧ tb (p4 a.2.1 f) i = tb (p4 b.2.1 f) i)
theorem Lj {x y : Int} (hx : By x) (hy : By y) (h : ∀ i : Nat, i < 8 → tb y i = true → tb x i = true) : GB x y = x := by
  refine Pv (by have := O4 (f := 0) (by decide) (show 0 ≤ x ∧ x ≤ Bu ((0 : Nat) : Int) from hx) (show 0 ≤ y ∧ y ≤ Bu ((0 : Nat) : Int) from hy); exact this) hx fun i hi => ?_
  rw [O0]
  cases h1 : tb y i
  · simp
  · rw [h i hi h1]; rfl
theorem Hz {a b : Mt} (ha : Ec a) (hb : Ec b) : (¬ GT a b ∧ Iq a b = a) ↔ WI a b := by
  constructor
  · rintro ⟨h1, h2⟩
    have e1 : (if a.1 = -1 then b.1 else a.1) = a.1 := congrArg Prod.fst h2
    have e2 : Ln a.2.2 b.2.2 = a.2.2 := congrArg (fun m : Mt => m.2.2) h2
    constructor
    · by_cases c : a.1 = -1
      · rw [if_pos c] at e1
        exact .inl (by rw [e1, c])
      · by_cases c2 : b.1 = -1
        · exact .inl c2
        · exact .inr (Classical.byContradiction fun hn => h1 (.inl ⟨c, c2, hn⟩))
    · intro f hf i hi hbi
      have e3 := congrArg (fun p => tb (p4 p f) i) e2
      simp only [MK _ _ hf, O0, hbi, Bool.or_true] at e3
      refine ⟨e3.symm, Classical.byContradiction fun hn => h1 (.inr ⟨f, hf, i, hi, e3.symm, hbi, hn⟩)⟩
  · rintro ⟨h1, h2⟩
    refine ⟨?_, ?_⟩
    · rintro (⟨c1, c2, c3⟩ | ⟨f, hf, i, hi, c1, c2, c3⟩)
      · exact h1.elim c2 c3
      · exact c3 (h2 f hf i hi c2).2
    · have e1 : (if a.1 = -1 then b.1 else a.1) = a.1 := by
        by_cases c : a.1 = -1
        · rw [if_pos c]
          rcases h1 with h | h
          · rw [h, c]
          · exact h.symm
        · rw [if_neg c]
      have e2 : Ln a.2.1 b.2.1 = a.2.1 := M4 fun k hk => by
        rw [MK _ _ hk]
        exact Lj (Dg ha hk).1 (Dg hb hk).1 fun i hi hv => by
          have := h2 k hk i hi ((hb.2 k hk).2.2 i hi hv)
          rw [this.2, hv]
      have e3 : Ln a.2.2 b.2.2 = a.2.2 := M4 fun k hk => by
        rw [MK _ _ hk]
        exact Lj (Dg ha hk).2 (Dg hb hk).2 fun i hi hv => (h2 k hk i hi hv).1
      show ((if a.1 = -1 then b.1 else a.1), Ln a.2.1 b.2.1, Ln a.2.2 b.2.2) = a
      rw [e1, e2, e3]
theorem LX {a b : Mt} (ha : Ec a) (hb : Ec b) : DX a b = some (decide (WI a b)) := by
  unfold DX
  rw [LL ha hb, Option.bind_some]
  congr 1
  by_cases c : GT a b
  · rw [show E9 a b = (FY, false) from if_pos c, decide_eq_false (fun h => ((Hz ha hb).2 h).1 c)]; rfl
  · rw [show E9 a b = (Iq a b, true) from if_neg c]
    show (true && decide (N8 (Iq a b) a)) = _
    rw [Bool.true_and]
    exact decide_eq_decide.2 ⟨fun h => (Hz ha hb).1 ⟨c, Fd.1 h⟩, fun h => Fd.2 ((Hz ha hb).2 h).2⟩
theorem Nl (a b : Int) : (decide (b ≠ (-1)) && decide (a ≠ b)) = decide (¬ (b = -1 ∨ a = b)) := by
  rw [← Bool.decide_and]; exact decide_eq_decide.2 ⟨fun h h2 => by omega, fun h => by omega⟩
theorem KV {a b : Mt} (ha : Ec a) (hb : Ec b) : GJ a b = some (decide (WI a b)) := by
  unfold GJ
  rw [Nl]
  by_cases hq : b.1 = -1 ∨ a.1 = b.1
  · rw [decide_eq_false (fun hn => hn hq), if_neg (by decide), Ei 4 _ (fun f : Nat => ∃ i : Nat, i < 8 ∧ ¬ (tb (p4 b.2.2 f) i = true → (tb (p4 a.2.2 f) i = true ∧ tb (p4 a.2.1 f) i = tb (p4 b.2.1 f) i))) false (fun k hk => by
      unfold Fm
      rw [if_pos (by omega), Bg (by omega), Ei 8 _ (fun i : Nat => ¬ (tb (p4 b.2.2 k) i = true → (tb (p4 a.2.2 k) i = true ∧ tb (p4 a.2.1 k) i = tb (p4 b.2.1 k) i))) (.inr (.inr false)) (fun i hi => by
        unfold Fq
        rw [if_pos (by omega), Ju b.2.2 hk, Option.bind_some, EX (Dg hb hk).2 hi, Option.bind_some, Ju a.2.2 hk, Option.bind_some, EX (Dg ha hk).2 hi, Option.bind_some, Ju a.2.1 hk, Option.bind_some, EX (Dg ha hk).1 hi, Option.bind_some, Ju b.2.1 hk, Option.bind_some, EX (Dg hb hk).1 hi, Option.bind_some, Bg (by omega)]
        by_cases x : tb (p4 b.2.2 k) i = true <;> by_cases y : tb (p4 a.2.2 k) i = true <;> by_cases z : tb (p4 a.2.1 k) i = true <;> by_cases u : tb (p4 b.2.1 k) i = true <;> simp [x, y, z, u]) (by unfold Fq; rw [if_neg (by decide)])]
      by_cases c : ∃ i : Nat, i < 8 ∧ ¬ (tb (p4 b.2.2 k) i = true → (tb (p4 a.2.2 k) i = true ∧ tb (p4 a.2.1 k) i = tb (p4 b.2.1 k) i))
      · rw [if_pos c, if_pos c]; rfl
      · rw [if_neg c, if_neg c]; rfl) (by unfold Fm; rw [if_neg (by decide)]), Hc]
    congr 1
    exact decide_eq_decide.2 ⟨fun h2 => ⟨hq, fun f hf i hi => Classical.byContradiction fun hn => h2 ⟨f, hf, i, hi, hn⟩⟩, fun h2 ⟨f, hf, i, hi, hn⟩ => hn (h2.2 f hf i hi)⟩
  · rw [decide_eq_true hq, if_pos rfl, decide_eq_false (fun h2 => hq h2.1)]
abbrev A3 := Int × Int × Int
abbrev NO (ports : Int) (a : A3) : Prop := (a.1 = 1 ∧ (0 ≤ a.2.1 ∧ a.2.1 < 4) ∧ (0 ≤ a.2.2 ∧ a.2.2 ≤ Bu a.2.1)) ∨ (a.1 = 2 ∧ a.2.1 = 0 ∧ 0 ≤ a.2.2 ∧ a.2.2 < ports) ∨ (a.1 = 3 ∧ a.2.1 = 0 ∧ a.2.2 = 0)
theorem Pk (a : A3) (ports : Int) : FG a ports = some (decide (NO ports a)) := by
  obtain ⟨k, f, v⟩ := a
  unfold FG
  simp only
  by_cases k1 : k = 1
  · subst k1
    rw [if_pos rfl, Np]
    by_cases c : (0 ≤ f ∧ f < 4) ∧ (0 ≤ v ∧ v ≤ Bu f)
    · rw [if_pos c.1.1, if_pos c.1.2, if_pos c.2.1, Option.bind_some, decide_eq_true c.2.2, decide_eq_true (show NO ports (1, f, v) from .inl ⟨rfl, c.1, c.2⟩)]; rfl
    · have hn : ¬ NO ports (1, f, v) := by
        rintro (⟨_, h1, h2⟩ | ⟨h, _⟩ | ⟨h, _⟩)
        · exact c ⟨h1, h2⟩
        · cases h
        · cases h
      rw [decide_eq_false hn]
      by_cases c1 : 0 ≤ f
      · rw [if_pos c1]
        by_cases c2 : f < 4
        · rw [if_pos c2]
          by_cases c3 : 0 ≤ v
          · rw [if_pos c3, Option.bind_some, decide_eq_false (fun h => c ⟨⟨c1, c2⟩, ⟨c3, h⟩⟩)]; rfl
          · rw [if_neg c3]; rfl
        · rw [if_neg c2]; rfl
      · rw [if_neg c1]; rfl
  · rw [if_neg k1]
    by_cases k2 : k = 2
    · subst k2
      rw [if_pos rfl]
      congr 1
      rw [← Bool.decide_and, ← Bool.decide_and]
      exact decide_eq_decide.2 ⟨fun h => .inr (.inl ⟨rfl, h.1, h.2.1, h.2.2⟩), fun h => by
        rcases h with ⟨h, _⟩ | ⟨_, h⟩ | ⟨h, _⟩
        · cases h
        · exact h
        · cases h⟩
    · rw [if_neg k2]
      by_cases k3 : k = 3
      · subst k3
        rw [if_pos rfl]
        congr 1
        rw [← Bool.decide_and]
        exact decide_eq_decide.2 ⟨fun h => .inr (.inr ⟨rfl, h.1, h.2⟩), fun h => by
          rcases h with ⟨h, _⟩ | ⟨h, _⟩ | ⟨_, h⟩
          · cases h
          · cases h
          · exact h⟩
      · rw [if_neg k3, decide_eq_false (by
          rintro (⟨h, _⟩ | ⟨h, _⟩ | ⟨h, _⟩)
          · exact k1 h
          · exact k2 h
          · exact k3 h)]
theorem Pq (a : A3) (ports : Int) : Gv a ports = decide (NO ports a) := by
  obtain ⟨k, f, v⟩ := a
  unfold Gv
  simp only
  by_cases k1 : k = 1
  · subst k1
    rw [if_pos rfl, ← Bool.decide_and, ← Bool.decide_and, ← Bool.decide_and]
    exact decide_eq_decide.2 ⟨fun h => .inl ⟨rfl, ⟨h.1, by have := h.2.1; show f < 4; omega⟩, h.2.2⟩, fun h => by
      rcases h with ⟨_, h1, h2⟩ | ⟨h, _⟩ | ⟨h, _⟩
      · exact ⟨h1.1, by have := h1.2; simp only at this; omega, h2⟩
      · cases h
      · cases h⟩
  · rw [if_neg k1]
    by_cases k3 : k = 3
    · subst k3
      rw [if_pos rfl, ← Bool.decide_and]
      exact decide_eq_decide.2 ⟨fun h => .inr (.inr ⟨rfl, h.1, h.2⟩), fun h => by
        rcases h with ⟨h, _⟩ | ⟨h, _⟩ | ⟨_, h⟩
        · cases h
        · cases h
        · exact h⟩
    · rw [if_neg k3, ← Bool.decide_and, ← Bool.decide_and, ← Bool.decide_and]
      exact decide_eq_decide.2 ⟨fun h => .inr (.inl h), fun h => by
        rcases h with ⟨h, _⟩ | h | ⟨h, _⟩
        · exact absurd h k1
        · exact h
        · exact absurd h k3⟩
abbrev Ox (ports : Int) (l : List A3) : Prop := l.length ≤ 16 ∧ ∀ a ∈ l, NO ports a
theorem NT (l : List A3) (ports : Int) : Fx l ports = some (decide (Ox ports l)) := by
  unfold Fx
  by_cases hl : 16 < (l.length : Int)
  · rw [if_pos hl, decide_eq_false (fun h => by have := h.1; omega)]
  · rw [if_neg hl, Gz l (by omega) _ (fun a => ¬ NO ports a) false (fun k hk => by
      unfold EE
      rw [if_pos (by omega), BL (List.getElem?_eq_getElem hk), Option.bind_some, Pk, Option.bind_some]
      by_cases c : NO ports l[k]
      · rw [decide_eq_true c, if_neg (by decide), if_neg (fun h => h c)]
      · rw [decide_eq_false c, if_pos (by decide), if_pos c]) (by unfold EE; rw [if_neg (by omega)]), Hc]
    congr 1
    exact decide_eq_decide.2 ⟨fun h => ⟨by omega, fun a ha => Classical.byContradiction fun hn => h ⟨a, ha, hn⟩⟩, fun h ⟨a, ha, hn⟩ => hn (h.2 a ha)⟩
theorem MU {l : List A3} (hl : l.length ≤ 9223372036854775807) (ports : Int) : Fv l ports = some (decide (Ox ports l)) := by
  unfold Fv
  rw [Gz l hl _ (fun a => ¬ NO ports a) false (fun k hk => by
      unfold EF
      rw [if_pos (by omega), BL (List.getElem?_eq_getElem hk), Option.bind_some, Pq]
      by_cases c : NO ports l[k]
      · rw [decide_eq_true c, if_neg (by decide), if_neg (fun h => h c)]
      · rw [decide_eq_false c, if_pos (by decide), if_pos c]) (by unfold EF; rw [if_neg (by omega)])]
  by_cases h : ∃ a ∈ l, ¬ NO ports a
  · rw [if_pos h, decide_eq_false (show ¬ Ox ports l from fun h2 => by obtain ⟨a, ha, hn⟩ := h; exact hn (h2.2 a ha))]; rfl
  · rw [if_neg h]
    show some (decide ((l.length : Int) ≤ 16)) = _
    congr 1
    exact decide_eq_decide.2 ⟨fun h1 => ⟨by omega, fun a ha => Classical.byContradiction fun hn => h ⟨a, ha, hn⟩⟩, fun h1 => by have := h1.1; omega⟩
theorem Rf {x y : A3} : (x.1 = y.1 ∧ x.2.1 = y.2.1 ∧ x.2.2 = y.2.2) ↔ x = y := by
  obtain ⟨a, b, c⟩ := x
  obtain ⟨a', b', c'⟩ := y
  constructor
  · rintro ⟨h1, h2, h3⟩
    simp only at h1 h2 h3
    subst h1 h2 h3; rfl
  · rintro h; cases h; exact ⟨rfl, rfl, rfl⟩
theorem Jp {S : Int → Option (Int ⊕ (Unit ⊕ Bool))} {a b : List A3} (hl : a.length ≤ 9223372036854775807) (he : a.length = b.length)
    (hs : ∀ k (h1 : k < a.length) (h2 : k < b.length), S (k : Int) = if (!(decide (a[k].1 = b[k].1 ∧ a[k].2.1 = b[k].2.1 ∧ a[k].2.2 = b[k].2.2))) = true then some (.inr (.inr false)) else some (.inl (Cs ((k : Int) + 1)))) (hE : S (a.length : Int) = some (.inr (.inl ()))) :
    Fu (AJ S 0) (fun _ => some true) = some (decide (a = b)) := by
  have hd : DecidablePred fun k : Nat => a[k]? ≠ b[k]? := fun _ => inferInstance
  rw [Ei a.length S (fun k : Nat => a[k]? ≠ b[k]?) false (fun k hk => by
    have h2 : k < b.length := by omega
    rw [hs k hk h2, Bg (by omega)]
    by_cases c : a[k] = b[k]
    · have c' : a[k]? = b[k]? := by rw [List.getElem?_eq_getElem hk, List.getElem?_eq_getElem h2, c]
      rw [if_neg (by rw [decide_eq_true (Rf.2 c)]; decide), if_neg (fun h => h c')]; rfl
    · have c' : a[k]? ≠ b[k]? := by rw [List.getElem?_eq_getElem hk, List.getElem?_eq_getElem h2]; simpa using c
      rw [if_pos (by rw [decide_eq_false (fun h => c (Rf.1 h))]; rfl), if_pos c']) hE, Hc]
  congr 1
  exact decide_eq_decide.2 ⟨fun h => List.ext_getElem? fun k => Classical.byContradiction fun hn => by
    by_cases hk : k < a.length
    · exact h ⟨k, hk, hn⟩
    · exact hn (by rw [List.getElem?_eq_none (by omega), List.getElem?_eq_none (by omega)]), fun h ⟨k, hk, hn⟩ => hn (by rw [h])⟩
theorem Ov {a b : List A3} (hl : a.length ≤ 9223372036854775807) : EZ a b = some (decide (a = b)) := by
  unfold EZ Bm
  by_cases he : (a.length : Int) ≠ (b.length : Int)
  · rw [if_pos he, decide_eq_false (fun h => he (by rw [h]))]; rfl
  · have he' : a.length = b.length := by omega
    rw [if_neg he, Jp hl he' (fun k h1 h2 => by
      unfold Bb
      rw [if_pos (by omega), BL (List.getElem?_eq_getElem h1), Option.bind_some, BL (List.getElem?_eq_getElem h2), Option.bind_some]) (by unfold Bb; rw [if_neg (by omega)])]; rfl
theorem NL {a b : List A3} (hl : a.length ≤ 9223372036854775807) : EL a b = some (decide (a = b)) := by
  unfold EL
  by_cases he : (a.length : Int) ≠ (b.length : Int)
  · rw [if_pos he, decide_eq_false (fun h => he (by rw [h]))]
  · have he' : a.length = b.length := by omega
    rw [if_neg he, Jp hl he' (fun k h1 h2 => by
      unfold DJ
      rw [if_pos (by omega), BL (List.getElem?_eq_getElem h1), Option.bind_some, BL (List.getElem?_eq_getElem h2), Option.bind_some]) (by unfold DJ; rw [if_neg (by omega)])]
abbrev Rl := Int × Mt × List A3
abbrev Hn (ports : Int) (x : Rl) : Prop := (0 ≤ x.1 ∧ x.1 ≤ 65535) ∧ Ec x.2.1 ∧ Ox ports x.2.2
theorem Oi {x : Rl} (hI : I4 x.2.1.2.1) (ports : Int) : EU x ports = some (decide (Hn ports x)) := by
  unfold EU
  rw [M8 hI, NT]
  by_cases h1 : 0 ≤ x.1
  · rw [if_pos h1]
    by_cases h2 : x.1 < 65536
    · rw [if_pos h2, Option.bind_some]
      by_cases h3 : Ec x.2.1
      · rw [decide_eq_true h3, if_pos rfl]
        show some (decide _) = _
        congr 1
        exact decide_eq_decide.2 ⟨fun h => ⟨⟨h1, by omega⟩, h3, h⟩, fun h => h.2.2⟩
      · rw [decide_eq_false h3, if_neg (by decide), decide_eq_false (fun h => h3 h.2.1)]; rfl
    · rw [if_neg h2, decide_eq_false (fun h => by have := h.1.2; omega)]; rfl
  · rw [if_neg h1, decide_eq_false (fun h => h1 h.1.1)]; rfl
theorem Ip {x : Rl} (hl : x.2.2.length ≤ 9223372036854775807) (ports : Int) : Dt x ports = some (decide (Hn ports x)) := by
  unfold Dt
  rw [KK, MU hl]
  by_cases h1 : 0 ≤ x.1
  · rw [if_pos h1]
    by_cases h2 : x.1 ≤ 65535
    · rw [if_pos h2, Option.bind_some]
      by_cases h3 : Ec x.2.1
      · rw [decide_eq_true h3, if_pos rfl]
        show some (decide _) = _
        congr 1
        exact decide_eq_decide.2 ⟨fun h => ⟨⟨h1, h2⟩, h3, h⟩, fun h => h.2.2⟩
      · rw [decide_eq_false h3, if_neg (by decide), decide_eq_false (fun h => h3 h.2.1)]; rfl
    · rw [if_neg h2, decide_eq_false (fun h => by have := h.1.2; omega)]; rfl
  · rw [if_neg h1, decide_eq_false (fun h => h1 h.1.1)]; rfl
theorem KL (x y : Rl) : DR x y = decide (x.1 = y.1 ∧ x.2.1 = y.2.1) := by
  show (decide (x.1 = y.1) && decide (N8 x.2.1 y.2.1)) = _
  rw [← Bool.decide_and]
  exact decide_eq_decide.2 ⟨fun h => ⟨h.1, Fd.1 h.2⟩, fun h => ⟨h.1, Fd.2 h.2⟩⟩
abbrev Po (x y : Rl) : Prop := x.1 = y.1 ∧ x.2.1 = y.2.1 ∧ x.2.2 = y.2.2
theorem JC {x y : Rl} : Po x y ↔ x = y := by
  obtain ⟨a, b, c⟩ := x
  obtain ⟨a', b', c'⟩ := y
  constructor
  · rintro ⟨h1, h2, h3⟩
    simp only at h1 h2 h3
    subst h1 h2 h3; rfl
  · rintro h; cases h; exact ⟨rfl, rfl, rfl⟩
theorem J9 {x y : Rl} (hl : x.2.2.length ≤ 9223372036854775807) : Ee x y = some (decide (Po x y)) := by
  unfold Ee
  rw [KL, Ov hl]
  by_cases h : x.1 = y.1 ∧ x.2.1 = y.2.1
  · rw [decide_eq_true h, if_pos rfl]
    show some (decide _) = _
    congr 1
    exact decide_eq_decide.2 ⟨fun h3 => ⟨h.1, h.2, h3⟩, fun e => e.2.2⟩
  · rw [decide_eq_false h, if_neg (by decide), decide_eq_false (show ¬ Po x y from fun e => h ⟨e.1, e.2.1⟩)]; rfl
theorem Hi {x y : Rl} (hl : x.2.2.length ≤ 9223372036854775807) : Ek x y = some (decide (Po x y)) := by
  unfold Ek
  rw [NL hl]
  by_cases h1 : x.1 = y.1
  · rw [if_pos h1]
    by_cases h2 : x.2.1 = y.2.1
    · rw [if_pos (show N8 x.2.1 y.2.1 from Fd.2 h2)]
      show some (decide _) = _
      congr 1
      exact decide_eq_decide.2 ⟨fun h3 => ⟨h1, h2, h3⟩, fun e => e.2.2⟩
    · rw [if_neg (show ¬ N8 x.2.1 y.2.1 from fun h => h2 (Fd.1 h)), decide_eq_false (show ¬ Po x y from fun e => h2 e.2.1)]; rfl
  · rw [if_neg h1, decide_eq_false (show ¬ Po x y from fun e => h1 e.1)]; rfl
theorem Ou {x y : Rl} (hx : Ec x.2.1) (hy : Ec y.2.1) : DA x y = some (decide (x.1 = y.1 ∧ x.2.1 ≠ y.2.1 ∧ ¬ GT x.2.1 y.2.1)) := by
  unfold DA
  rw [LL hx hy, Option.bind_some]
  show some (decide (x.1 = y.1) && (!(decide (N8 x.2.1 y.2.1)) && (E9 x.2.1 y.2.1).2)) = _
  congr 1
  have e1 : decide (N8 x.2.1 y.2.1) = decide (x.2.1 = y.2.1) := decide_eq_decide.2 Fd
  rw [e1]
  by_cases c : GT x.2.1 y.2.1
  · rw [show E9 x.2.1 y.2.1 = (FY, false) from if_pos c, decide_eq_false (show ¬ (x.1 = y.1 ∧ x.2.1 ≠ y.2.1 ∧ ¬ GT x.2.1 y.2.1) from fun h => h.2.2 c)]; simp
  · rw [show E9 x.2.1 y.2.1 = (Iq x.2.1 y.2.1, true) from if_neg c]
    by_cases h1 : x.1 = y.1 <;> by_cases h2 : x.2.1 = y.2.1 <;> simp [h1, h2, c]
theorem Nr {x y : Rl} (hx : Ec x.2.1) (hy : Ec y.2.1) : FM x y = some (decide (x.1 = y.1 ∧ x.2.1 ≠ y.2.1 ∧ ¬ GT x.2.1 y.2.1)) := by
  unfold FM
  rw [NA hx hy]
  show (if (decide (x.1 ≠ y.1) || decide (N8 x.2.1 y.2.1)) = true then some false else (some (E9 x.2.1 y.2.1)).bind fun x1 => some x1.2) = _
  have e1 : decide (N8 x.2.1 y.2.1) = decide (x.2.1 = y.2.1) := decide_eq_decide.2 Fd
  rw [e1]
  by_cases h1 : x.1 = y.1
  · by_cases h2 : x.2.1 = y.2.1
    · rw [if_pos (by simp [h2]), decide_eq_false (fun h => h.2.1 h2)]
    · rw [if_neg (by simp [h1, h2]), Option.bind_some]
      by_cases c : GT x.2.1 y.2.1
      · rw [show E9 x.2.1 y.2.1 = (FY, false) from if_pos c, decide_eq_false (fun h => h.2.2 c)]
      · rw [show E9 x.2.1 y.2.1 = (Iq x.2.1 y.2.1, true) from if_neg c, decide_eq_true ⟨h1, h2, c⟩]
  · rw [if_pos (by simp [h1]), decide_eq_false (fun h => h1 h.1)]
abbrev LC : Int → Prop := fun n => (Lit.int .i64 n).wf = true
abbrev NQ : Rl → Prop := CT LC (CT (CT LC (CT (CT LC (CT LC (CT LC LC))) (CT LC (CT LC (CT LC LC))))) (My (CT LC (CT LC LC))))
theorem O6 {x : Rl} (h : NQ x) : x.2.2.length ≤ 9223372036854775807 := h.2.2.1
theorem Qb {x : Rl} (h : NQ x) : I4 x.2.1.2.1 := ⟨JH h.2.1.2.1.1, JH h.2.1.2.1.2.1, JH h.2.1.2.1.2.2.1, JH h.2.1.2.1.2.2.2⟩
theorem HY {α σ τ ε : Type} (l : List α) (mkS : σ → Nat → τ) (f : σ → α → σ) (step : τ → Option (τ ⊕ ε)) (fin : σ → ε) (G : σ → Nat → Prop) (s0 : σ) (h0 : G s0 0)
    (hs : ∀ s k (hk : k < l.length), G s k → step (mkS s k) = some (.inl (mkS (f s l[k]) (k + 1))) ∧ G (f s l[k]) (k + 1))
    (he : ∀ s, step (mkS s l.length) = some (.inr (fin s))) : AJ step (mkS s0 0) = some (fin (l.foldl f s0)) ∧ G (l.foldl f s0) l.length := by
  obtain ⟨s, ⟨h1, h3⟩, h2⟩ := Hd l.length mkS step fin (fun s k => s = (l.take k).foldl f s0 ∧ G s k)
    (fun s k hk ⟨hI, hG⟩ => ⟨f s l[k], (hs s k hk hG).1, by rw [hI, List.take_succ_eq_append_getElem hk, List.foldl_append]; rfl, (hs s k hk hG).2⟩) (fun s _ => he s) s0 ⟨rfl, h0⟩
  rw [List.take_length] at h1
  subst h1
  exact ⟨h2, h3⟩
abbrev kq (a b : Rl) : Prop := a.1 = b.1 ∧ a.2.1 = b.2.1
abbrev Bf (a b : Rl) : Prop := b.1 ≤ a.1 ∧ ¬ kq a b
abbrev IJ (ports room : Int) (t : List Rl) : Prop := (t.length : Int) ≤ room ∧ (∀ x ∈ t, Hn ports x) ∧ t.Pairwise Bf
noncomputable instance (ports room : Int) (t : List Rl) : Decidable (IJ ports room t) := Classical.propDecidable _
theorem Lb (x y : Rl) : FU x y = decide (kq x y) := KL x y
theorem Ns {t : List Rl} : t.Pairwise Bf ↔ ∀ (i j : Nat) (a b : Rl), i < j → t[i]? = some a → t[j]? = some b → Bf a b := by
  rw [List.pairwise_iff_getElem]
  constructor
  · intro h i j a b hij ha hb
    obtain ⟨hi, rfl⟩ := List.getElem?_eq_some_iff.1 ha
    obtain ⟨hj, rfl⟩ := List.getElem?_eq_some_iff.1 hb
    exact h i j hi hj hij
  · intro h i j hi hj hij
    exact h i j _ _ hij (List.getElem?_eq_getElem hi) (List.getElem?_eq_getElem hj)
def Hx {α : Type} (P : α → Bool) : List α → Nat → Int
  | [], _ => -1
  | x :: l, k => if P x = true then (k : Int) else Hx P l (k + 1)
theorem Gr {α : Type} (l : List α) (hl : l.length ≤ 1000000) (P : α → Bool) (step : Int → Option (Int ⊕ (Unit ⊕ Int)))
    (hs : ∀ k (hk : k < l.length), step (k : Int) = if P l[k] = true then some (.inr (.inr (k : Int))) else some (.inl (Cs ((k : Int) + 1)))) (he : step (l.length : Int) = some (.inr (.inl ()))) :
    Fu (AJ step 0) (fun _ => some (-1)) = some (Hx P l 0) := by
  have key : ∀ (d k : Nat), k + d = l.length → Fu (AJ step (k : Int)) (fun _ => some (-1)) = some (Hx P (l.drop k) k) := by
    intro d
    induction d with
    | zero =>
      intro k hk
      obtain rfl : k = l.length := by omega
      rw [Bw he, List.drop_eq_nil_of_le (Nat.le_refl _)]; rfl
    | succ d ih =>
      intro k hk
      have hk2 : k < l.length := by omega
      have h := hs k hk2
      rw [List.drop_eq_getElem_cons hk2]
      show _ = some (if P l[k] = true then (k : Int) else Hx P (l.drop (k + 1)) (k + 1))
      by_cases c : P l[k] = true
      · rw [if_pos c] at h
        rw [if_pos c, Bw h]; rfl
      · rw [if_neg c, Bg (by omega)] at h
        rw [if_neg c, BG h]
        exact ih (k + 1) (by omega)
  exact key l.length 0 (by omega)
theorem FL {α : Type} (P : α → Bool) : ∀ (l : List α) (k : Nat), (Hx P l k = -1 ∧ ∀ x ∈ l, P x = false) ∨ ∃ (j : Nat) (x : α), l[j]? = some x ∧ P x = true ∧ Hx P l k = ((k + j : Nat) : Int) ∧ ∀ (i : Nat) (y : α), i < j → l[i]? = some y → P y = false
  | [], k => .inl ⟨rfl, fun x hx => by cases hx⟩
  | x :: l, k => by
    by_cases c : P x = true
    · exact .inr ⟨0, x, rfl, c, if_pos c, fun i y hi => by omega⟩
    · have e : Hx P (x :: l) k = Hx P l (k + 1) := if_neg c
      rcases FL P l (k + 1) with ⟨h1, h2⟩ | ⟨j, y, h1, h2, h3, h4⟩
      · exact .inl ⟨e.trans h1, fun y hy => by
          rcases List.mem_cons.1 hy with rfl | hy
          · simpa using c
          · exact h2 y hy⟩
      · refine .inr ⟨j + 1, y, h1, h2, by rw [e, h3]; omega, fun i z hi hz => ?_⟩
        cases i with
        | zero => simp at hz; subst hz; simpa using c
        | succ i => exact h4 i z (by omega) (by simpa using hz)
theorem Pu {t : List Rl} (hl : t.length ≤ 1000) (hA : ∀ x ∈ t, x.2.2.length ≤ 9223372036854775807) (ports room : Int) : FK t ports room = some (decide (IJ ports room t)) := by
  have hd : DecidablePred fun i : Nat => ∃ x, t[i]? = some x ∧ (¬ Hn ports x ∨ ∃ k y, k < i ∧ t[k]? = some y ∧ (y.1 < x.1 ∨ kq y x)) := fun _ => Classical.propDecidable _
  unfold FK
  rw [Ei t.length (DV t ports) (fun i : Nat => ∃ x, t[i]? = some x ∧ (¬ Hn ports x ∨ ∃ k y, k < i ∧ t[k]? = some y ∧ (y.1 < x.1 ∨ kq y x))) false (fun i hi => by
    have hx := BL (List.getElem?_eq_getElem hi)
    have hm := hA _ (List.getElem_mem hi)
    rw [DV, if_pos (by omega), hx, Option.bind_some, Ip (by omega), Option.bind_some, Bg (by omega)]
    by_cases c : Hn ports t[i]
    · have hd2 : DecidablePred fun k : Nat => ∃ y, t[k]? = some y ∧ (y.1 < t[i].1 ∨ kq y t[i]) := fun _ => Classical.propDecidable _
      rw [decide_eq_true c, if_neg (by decide), Ei i (D0 t (i : Int)) (fun k : Nat => ∃ y, t[k]? = some y ∧ (y.1 < t[i].1 ∨ kq y t[i])) (.inr (.inr false)) (fun k hk => by
        have hk2 : k < t.length := by omega
        have hy := BL (List.getElem?_eq_getElem hk2)
        rw [D0, if_pos (by omega), hy, hx, Option.bind_some, Option.bind_some, Bg (by omega)]
        have e : (∃ y, t[k]? = some y ∧ (y.1 < t[i].1 ∨ kq y t[i])) ↔ (t[k].1 < t[i].1 ∨ kq t[k] t[i]) := by
          rw [List.getElem?_eq_getElem hk2]
          exact ⟨fun ⟨y, h1, h2⟩ => by cases h1; exact h2, fun h => ⟨_, rfl, h⟩⟩
        by_cases c1 : t[k].1 < t[i].1
        · rw [if_pos c1, Option.bind_some, if_pos rfl, if_pos (e.2 (.inl c1))]
        · rw [if_neg c1, Option.bind_some, Option.bind_some, Lb, Option.bind_some]
          by_cases c2 : kq t[k] t[i]
          · rw [decide_eq_true c2, if_pos rfl, if_pos (e.2 (.inr c2))]
          · rw [decide_eq_false c2, if_neg (by decide), if_neg (fun h => (e.1 h).elim c1 c2)]; rfl) (by rw [D0, if_neg (by omega)])]
      by_cases h : ∃ k, k < i ∧ ∃ y, t[k]? = some y ∧ (y.1 < t[i].1 ∨ kq y t[i])
      · obtain ⟨k, hk, y, h1, h2⟩ := h
        rw [if_pos ⟨k, hk, y, h1, h2⟩, if_pos ⟨t[i], List.getElem?_eq_getElem hi, .inr ⟨k, y, hk, h1, h2⟩⟩]; rfl
      · rw [if_neg h, if_neg (fun ⟨x, h1, h2⟩ => by
          rw [List.getElem?_eq_getElem hi] at h1
          cases h1
          rcases h2 with h2 | ⟨k, y, hk, h3, h4⟩
          · exact h2 c
          · exact h ⟨k, hk, y, h3, h4⟩)]; rfl
    · rw [decide_eq_false c, if_pos (by decide), if_pos ⟨t[i], List.getElem?_eq_getElem hi, .inl c⟩]; rfl) (by rw [DV, if_neg (by omega)])]
  by_cases h : ∃ i, i < t.length ∧ ∃ x, t[i]? = some x ∧ (¬ Hn ports x ∨ ∃ k y, k < i ∧ t[k]? = some y ∧ (y.1 < x.1 ∨ kq y x))
  · rw [if_pos h]
    show some false = _
    rw [decide_eq_false (fun hc => by
      obtain ⟨i, hi, x, h1, h2⟩ := h
      rcases h2 with h2 | ⟨k, y, hk, h3, h4⟩
      · exact h2 (hc.2.1 x (List.mem_of_getElem? h1))
      · have := Ns.1 hc.2.2 k i y x hk h3 h1
        rcases h4 with h4 | h4
        · omega
        · exact this.2 h4)]
  · rw [if_neg h]
    show some (decide ((t.length : Int) ≤ room)) = _
    congr 1
    refine decide_eq_decide.2 ⟨fun h1 => ⟨h1, fun x hx => Classical.byContradiction fun hn => ?_, Ns.2 fun i j a b hij ha hb => ?_⟩, fun h1 => h1.1⟩
    · obtain ⟨i, hi, rfl⟩ := List.getElem_of_mem hx
      exact h ⟨i, hi, _, List.getElem?_eq_getElem hi, .inl hn⟩
    · have hj := (List.getElem?_eq_some_iff.1 hb).1
      have hn : ¬ (a.1 < b.1 ∨ kq a b) := fun hc => h ⟨j, hj, b, hb, .inr ⟨i, a, hij, ha, hc⟩⟩
      exact ⟨by
        have := fun hc => hn (.inl hc)
        omega, fun hc => hn (.inr hc)⟩
end Go.Proofs.Ytfnmlmglmegamaa
