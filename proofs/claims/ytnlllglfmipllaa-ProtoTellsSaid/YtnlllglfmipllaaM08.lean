/- Layer 16: matches. Conditions: none. -/
import Derived.Test.YtnlllglfmipllaaM4
namespace Go.Proofs.Ytnlllglfmipllaa
set_option linter.unusedVariables false
set_option linter.unusedSimpArgs false
open Go Go.RowKit
abbrev P4 := Int × Int × Int × Int
abbrev i64 (n : Int) : Prop := -9223372036854775808 ≤ n ∧ n ≤ 9223372036854775807
theorem top_cases (f : Int) : ((f = 0 ∨ f = 1 ∨ f = 3) ∧ r07_Top f = 255) ∨ (f = 2 ∧ r07_Top f = 15) ∨ ((f < 0 ∨ 3 < f) ∧ r07_Top f = 0) := by
  unfold r07_Top
  by_cases h2 : f = 2
  · exact .inr (.inl ⟨h2, if_pos h2⟩)
  · rw [if_neg h2]
    by_cases h : f = 0 ∨ f = 1 ∨ f = 3
    · exact .inl ⟨h, if_pos (by simpa using h)⟩
    · exact .inr (.inr ⟨by omega, if_neg (by simpa using h)⟩)
def bitsF (f : Int) : Int := if f = 0 ∨ f = 1 ∨ f = 3 then 8 else if f = 2 then 4 else 0
theorem bits_eq (f : Int) : packet_Bits f = some (bitsF f) := by
  unfold packet_Bits bitsF
  by_cases h0 : f = 0
  · subst h0; rfl
  · rw [if_neg h0]
    by_cases h1 : f = 1
    · subst h1; rfl
    · rw [if_neg h1]
      by_cases h3 : f = 3
      · subst h3; rfl
      · rw [decide_eq_false h3]
        by_cases h2 : f = 2
        · subst h2; rfl
        · simp [h0, h1, h2, h3]
theorem top_eq (f : Int) : packet_Top f = some (r07_Top f) := by
  unfold packet_Top
  rw [bits_eq]
  rcases top_cases f with ⟨h, e⟩ | ⟨h, e⟩ | ⟨h, e⟩
  · rw [e, show bitsF f = 8 from if_pos h]; rfl
  · rw [e, show bitsF f = 4 by unfold bitsF; rw [if_neg (by omega), if_pos h]]; rfl
  · rw [e, show bitsF f = 0 by unfold bitsF; rw [if_neg (by omega), if_neg (by omega)]]; rfl
abbrev Fit (f v : Int) : Prop := 0 ≤ v ∧ v ≤ r07_Top f
abbrev p4 (p : P4) (k : Nat) : Int := match k with | 0 => p.1 | 1 => p.2.1 | 2 => p.2.2.1 | _ => p.2.2.2
theorem ix4 (p : P4) {k : Nat} (h : k < 4) : ix ([p.1, p.2.1, p.2.2.1, p.2.2.2] : List Int) (k : Int) = some (p4 p k) := by
  have : k = 0 ∨ k = 1 ∨ k = 2 ∨ k = 3 := by omega
  rcases this with rfl | rfl | rfl | rfl <;> rfl
abbrev Ok4 (p : P4) : Prop := (0 ≤ p.1 ∧ p.1 ≤ 255) ∧ (0 ≤ p.2.1 ∧ p.2.1 ≤ 255) ∧ (0 ≤ p.2.2.1 ∧ p.2.2.1 ≤ 15) ∧ (0 ≤ p.2.2.2 ∧ p.2.2.2 ≤ 255)
abbrev put4 (p : P4) (f v : Int) : P4 := ((if f = 0 then v else p.1), (if f = 1 then v else p.2.1), (if f = 2 then v else p.2.2.1), (if f = 3 then v else p.2.2.2))
theorem num1 {v : Int} (h : 0 ≤ v ∧ v ≤ 255) : numS v 1 = be 1 v := by
  unfold numS
  rw [if_pos ⟨by decide, by decide, h.1, by show v < 256; omega⟩]; rfl
/-! ### Bits -/
theorem b64 {a : Nat} (h : a < 9223372036854775808) : (BitVec.ofInt 64 (a : Int)).toNat = a := by rw [BitVec.toNat_ofInt]; omega
theorem and_n {a b : Nat} (ha : a < 256) (hb : b < 256) : andI .i64 (a : Int) (b : Int) = ((a &&& b : Nat) : Int) := by
  have hl : a &&& b < 2 ^ 8 := Nat.and_lt_two_pow a hb
  show w64 ((BitVec.ofInt 64 (a : Int) &&& BitVec.ofInt 64 (b : Int)).toNat : Int) = _
  rw [BitVec.toNat_and, b64 (by omega), b64 (by omega)]; exact w64_id (by omega)
theorem or_n {a b : Nat} (ha : a < 256) (hb : b < 256) : orI .i64 (a : Int) (b : Int) = ((a ||| b : Nat) : Int) := by
  have hl : a ||| b < 2 ^ 8 := Nat.or_lt_two_pow ha hb
  show w64 ((BitVec.ofInt 64 (a : Int) ||| BitVec.ofInt 64 (b : Int)).toNat : Int) = _
  rw [BitVec.toNat_or, b64 (by omega), b64 (by omega)]; exact w64_id (by omega)
theorem xor_n {a b : Nat} (ha : a < 256) (hb : b < 256) : xorI .i64 (a : Int) (b : Int) = ((a ^^^ b : Nat) : Int) := by
  have hl : a ^^^ b < 2 ^ 8 := Nat.xor_lt_two_pow ha hb
  show w64 ((BitVec.ofInt 64 (a : Int) ^^^ BitVec.ofInt 64 (b : Int)).toNat : Int) = _
  rw [BitVec.toNat_xor, b64 (by omega), b64 (by omega)]; exact w64_id (by omega)
theorem ext8 {x y : Nat} (hx : x < 256) (hy : y < 256) (h : ∀ i : Nat, i < 8 → x.testBit i = y.testBit i) : x = y := by
  refine Nat.eq_of_testBit_eq fun i => ?_
  by_cases hi : i < 8
  · exact h i hi
  · have hp : 2 ^ 8 ≤ 2 ^ i := Nat.pow_le_pow_right (by decide) (by omega)
    rw [Nat.testBit_lt_two_pow (Nat.lt_of_lt_of_le hx hp), Nat.testBit_lt_two_pow (Nat.lt_of_lt_of_le hy hp)]
theorem nz8 {x : Nat} (hx : x < 256) : ((x : Int) ≠ 0) ↔ ∃ i : Nat, i < 8 ∧ x.testBit i = true := by
  constructor
  · intro h
    refine Classical.byContradiction fun hn => h ?_
    have : x = 0 := ext8 hx (by decide) fun i hi => by
      cases hb : x.testBit i
      · simp
      · exact absurd ⟨i, hi, hb⟩ hn
    rw [this]; rfl
  · rintro ⟨i, hi, hb⟩ h
    have : x = 0 := by omega
    rw [this] at hb; simp at hb
theorem andNot_z {a b : Nat} (ha : a < 9223372036854775808) (hb : b < 256) : andNotI .i64 (a : Int) (b : Int) = 0 ↔ a &&& b = a := by
  have e : andNotI .i64 (a : Int) (b : Int) = ((BitVec.ofInt 64 (a : Int) &&& ~~~ BitVec.ofInt 64 (b : Int)).toNat : Int) := by
    show w64 ((BitVec.ofInt 64 (a : Int) &&& ~~~ BitVec.ofInt 64 (b : Int)).toNat : Int) = _
    have hl : (BitVec.ofInt 64 (a : Int) &&& ~~~ BitVec.ofInt 64 (b : Int)).toNat ≤ a := by
      rw [BitVec.toNat_and, b64 ha]; exact Nat.and_le_left
    generalize (BitVec.ofInt 64 (a : Int) &&& ~~~ BitVec.ofInt 64 (b : Int)).toNat = z at hl
    exact w64_id (by omega)
  rw [e]
  have ga : ∀ i, (BitVec.ofInt 64 (a : Int)).getLsbD i = a.testBit i := fun i => by unfold BitVec.getLsbD; rw [b64 ha]
  have gb : ∀ i, (BitVec.ofInt 64 (b : Int)).getLsbD i = b.testBit i := fun i => by unfold BitVec.getLsbD; rw [b64 (by omega)]
  have ha64 : ∀ i, 64 ≤ i → a.testBit i = false := fun i hi => Nat.testBit_lt_two_pow (Nat.lt_of_lt_of_le (show a < 2 ^ 64 by omega) (Nat.pow_le_pow_right (by decide) hi))
  constructor
  · intro h
    have hz : (BitVec.ofInt 64 (a : Int) &&& ~~~ BitVec.ofInt 64 (b : Int)) = 0#64 := BitVec.eq_of_toNat_eq (by simpa using (Int.ofNat.inj h))
    refine Nat.eq_of_testBit_eq fun i => ?_
    rw [Nat.testBit_and]
    by_cases hi : i < 64
    · have := congrArg (fun v => v.getLsbD i) hz
      simp only [BitVec.getLsbD_and, BitVec.getLsbD_not, ga, gb, hi, decide_true, Bool.true_and, BitVec.getLsbD_zero] at this
      cases h1 : a.testBit i <;> cases h2 : b.testBit i <;> simp_all
    · rw [ha64 i (by omega)]; rfl
  · intro h
    have hz : (BitVec.ofInt 64 (a : Int) &&& ~~~ BitVec.ofInt 64 (b : Int)) = 0#64 := by
      refine BitVec.eq_of_getLsbD_eq fun i hi => ?_
      have h2 := congrArg (fun v => Nat.testBit v i) h
      simp only [Nat.testBit_and] at h2
      simp only [BitVec.getLsbD_and, BitVec.getLsbD_not, ga, gb, hi, decide_true, Bool.true_and, BitVec.getLsbD_zero]
      cases h1 : a.testBit i <;> cases h3 : b.testBit i <;> simp_all
    rw [hz]; rfl
abbrev tb (x : Int) (i : Nat) : Bool := x.toNat.testBit i
abbrev By (x : Int) : Prop := 0 ≤ x ∧ x ≤ 255
theorem bit_loop (a : Nat) (ha : a ≤ 7) : ∀ (d j x : Nat), j + d = a → x ≤ 255 → loopW (r08_Bit_l1 (a : Int)) ((x : Int), (j : Int)) = some ((x / 2 ^ d : Nat) : Int) := by
  intro d
  induction d with
  | zero =>
    intro j x hj hx
    rw [loopW_end (by rw [r08_Bit_l1, if_neg (by omega)])]
    simp
  | succ d ih =>
    intro j x hj hx
    rw [loopW_go (s' := (((x / 2 : Nat) : Int), ((j + 1 : Nat) : Int))) (by
      rw [r08_Bit_l1, if_pos (by omega), show Int.tdiv (x : Int) 2 = ((x / 2 : Nat) : Int) from rfl, w64_id (by omega), w64_id (by omega)]; rfl)]
    rw [ih (j + 1) (x / 2) (by omega) (by omega), Nat.div_div_eq_div_mul, Nat.pow_succ, Nat.mul_comm]
theorem bit_eq {x : Int} {a : Nat} (hx : By x) (ha : a < 8) : r08_Bit x (a : Int) = some (if tb x a then 1 else 0) := by
  obtain ⟨n, rfl⟩ : ∃ n : Nat, x = (n : Int) := ⟨x.toNat, by have := hx.1; omega⟩
  have h1 := hx.2
  unfold r08_Bit tb
  rw [show ((n : Int), (0 : Int)) = ((n : Int), ((0 : Nat) : Int)) from rfl, bit_loop a (by omega) a 0 n (by omega) (by omega), Option.bind_some, Int.toNat_natCast]
  have e := Nat.toNat_testBit n a
  show some (((n / 2 ^ a % 2 : Nat)) : Int) = _
  rw [← e]
  cases n.testBit a <;> rfl
/-! ### Loops that look for something -/
theorem any_loop {ε : Type} (n : Nat) (step : Int → Option (Int ⊕ (Unit ⊕ ε))) (q : Nat → Prop) [DecidablePred q] (e : ε)
    (hs : ∀ k, k < n → step (k : Int) = some (if q k then .inr (.inr e) else .inl ((k + 1 : Nat) : Int))) (he : step (n : Int) = some (.inr (.inl ()))) :
    loopW step 0 = some (if ∃ k : Nat, k < n ∧ q k then .inr e else .inl ()) := by
  by_cases h : ∃ k : Nat, k < n ∧ q k
  · rw [if_pos h]
    have key : ∀ (d k : Nat), k + d = n → (∃ j, k ≤ j ∧ j < n ∧ q j) → loopW step (k : Int) = some (.inr e) := by
      intro d
      induction d with
      | zero => rintro k hk ⟨j, h1, h2, h3⟩; omega
      | succ d ih =>
        rintro k hk ⟨j, h1, h2, h3⟩
        have hs' := hs k (by omega)
        by_cases hq : q k
        · rw [if_pos hq] at hs'; exact loopW_end hs'
        · rw [if_neg hq] at hs'
          rw [loopW_go hs']
          exact ih (k + 1) (by omega) ⟨j, by
            have : k ≠ j := fun e => hq (e ▸ h3)
            omega, h2, h3⟩
    obtain ⟨k, h1, h2⟩ := h
    exact key n 0 (by omega) ⟨k, by omega, h1, h2⟩
  · rw [if_neg h]
    have key : ∀ (d k : Nat), k + d = n → loopW step (k : Int) = some (.inl ()) := by
      intro d
      induction d with
      | zero =>
        intro k hk
        obtain rfl : k = n := by omega
        exact loopW_end he
      | succ d ih =>
        intro k hk
        have hs' := hs k (by omega)
        rw [if_neg (fun hq => h ⟨k, by omega, hq⟩)] at hs'
        rw [loopW_go hs']
        exact ih (k + 1) (by omega)
    exact key n 0 (by omega)
theorem orR_any {E : Prop} [Decidable E] : orR (some (if E then (.inr false : Unit ⊕ Bool) else .inl ())) (fun _ => some true) = some (decide (¬ E)) := by
  by_cases h : E
  · rw [if_pos h, decide_eq_false (fun hn => hn h)]; rfl
  · rw [if_neg h, decide_eq_true h]; rfl
/-! ### Matches that may be -/
abbrev Mt := Int × P4 × P4
abbrev FOk (f : Nat) (v m : Int) : Prop := (0 ≤ m ∧ m ≤ r07_Top (f : Int)) ∧ (0 ≤ v ∧ v ≤ r07_Top (f : Int)) ∧ ∀ i : Nat, i < 8 → tb v i = true → tb m i = true
abbrev Good (m : Mt) : Prop := (-1 ≤ m.1 ∧ m.1 ≤ 7) ∧ ∀ f : Nat, f < 4 → FOk f (p4 m.2.1 f) (p4 m.2.2 f)
theorem topB {f : Nat} (h : f < 4) : r07_Top (f : Int) = 255 ∨ r07_Top (f : Int) = 15 := by
  have : f = 0 ∨ f = 1 ∨ f = 2 ∨ f = 3 := by omega
  rcases this with rfl | rfl | rfl | rfl
  · exact .inl rfl
  · exact .inl rfl
  · exact .inr rfl
  · exact .inl rfl
theorem fok_by {f : Nat} {v m : Int} (hf : f < 4) (h : FOk f v m) : By v ∧ By m := by
  have := topB hf
  obtain ⟨h1, h2, _⟩ := h
  exact ⟨⟨h2.1, by omega⟩, ⟨h1.1, by omega⟩⟩
theorem fok_iff {f : Nat} {v m : Int} (hf : f < 4) (hv : v ≤ 9223372036854775807) : FOk f v m ↔ (0 ≤ m ∧ m ≤ r07_Top (f : Int) ∧ 0 ≤ v ∧ andNotI .i64 v m = 0) := by
  have ht := topB hf
  constructor
  · intro h
    obtain ⟨⟨b1, b2⟩, ⟨b3, b4⟩⟩ := fok_by hf h
    obtain ⟨⟨h1, h2⟩, ⟨h3, h4⟩, h5⟩ := h
    obtain ⟨a, rfl⟩ : ∃ n : Nat, v = (n : Int) := ⟨v.toNat, by omega⟩
    obtain ⟨b, rfl⟩ : ∃ n : Nat, m = (n : Int) := ⟨m.toNat, by omega⟩
    refine ⟨h1, h2, h3, (andNot_z (by omega) (by omega)).2 (ext8 (Nat.lt_of_le_of_lt Nat.and_le_left (by omega)) (by omega) fun i hi => ?_)⟩
    have := h5 i hi
    simp only [tb, Int.toNat_natCast] at this
    rw [Nat.testBit_and]
    cases h6 : a.testBit i
    · rfl
    · rw [this h6]; rfl
  · rintro ⟨h1, h2, h3, h4⟩
    obtain ⟨a, rfl⟩ : ∃ n : Nat, v = (n : Int) := ⟨v.toNat, by omega⟩
    obtain ⟨b, rfl⟩ : ∃ n : Nat, m = (n : Int) := ⟨m.toNat, by omega⟩
    have h5 := (andNot_z (a := a) (b := b) (by omega) (by omega)).1 h4
    have h6 : a &&& b ≤ b := Nat.and_le_right
    rw [h5] at h6
    refine ⟨⟨h1, h2⟩, ⟨h3, by omega⟩, fun i hi ha => ?_⟩
    simp only [tb, Int.toNat_natCast] at ha ⊢
    have := congrArg (fun x => Nat.testBit x i) h5
    simp only [Nat.testBit_and, ha, Bool.true_and] at this
    exact this
theorem good_any (m : Mt) (hp : -1 ≤ m.1 ∧ m.1 ≤ 7) : decide (¬ ∃ f : Nat, f < 4 ∧ ¬ FOk f (p4 m.2.1 f) (p4 m.2.2 f)) = decide (Good m) :=
  decide_eq_decide.2 ⟨fun h => ⟨hp, fun f hf => Classical.byContradiction fun hn => h ⟨f, hf, hn⟩⟩, fun h ⟨f, hf, hn⟩ => hn (h.2 f hf)⟩
abbrev I4 (p : P4) : Prop := i64 p.1 ∧ i64 p.2.1 ∧ i64 p.2.2.1 ∧ i64 p.2.2.2
theorem i4_get {p : P4} (h : I4 p) {k : Nat} (hk : k < 4) : i64 (p4 p k) := by
  obtain ⟨h0, h1, h2, h3⟩ := h
  have : k = 0 ∨ k = 1 ∨ k = 2 ∨ k = 3 := by omega
  rcases this with rfl | rfl | rfl | rfl <;> assumption
theorem right_eq {m : Mt} (hv : I4 m.2.1) : match_Right m = some (decide (Good m)) := by
  unfold match_Right
  by_cases hp : -1 ≤ m.1 ∧ m.1 ≤ 7
  · rw [if_neg (by simp; omega), any_loop 4 _ (fun f : Nat => ¬ FOk f (p4 m.2.1 f) (p4 m.2.2 f)) false (fun k hk => by
      unfold match_Right_l1
      rw [if_pos (by omega), ix4 m.2.2 hk, Option.bind_some, top_eq, Option.bind_some, ix4 m.2.1 hk, Option.bind_some, Option.bind_some, w64_id (by omega)]
      have hi := fok_iff (m := p4 m.2.2 k) hk (i4_get hv hk).2
      by_cases c1 : p4 m.2.2 k < 0
      · rw [if_pos c1, if_pos (fun h => by have := (hi.1 h).1; omega)]; rfl
      · rw [if_neg c1]
        by_cases c2 : r07_Top (k : Int) < p4 m.2.2 k
        · rw [if_pos c2, if_pos (fun h => by have := (hi.1 h).2.1; omega)]; rfl
        · rw [if_neg c2]
          by_cases c3 : p4 m.2.1 k < 0
          · rw [if_pos c3, if_pos (fun h => by have := (hi.1 h).2.2.1; omega)]; rfl
          · rw [if_neg c3]
            by_cases c4 : andNotI .i64 (p4 m.2.1 k) (p4 m.2.2 k) = 0
            · rw [decide_eq_false (by simpa using c4), if_neg (fun h => h (hi.2 ⟨by omega, by omega, by omega, c4⟩))]; rfl
            · rw [decide_eq_true c4, if_pos (fun h => c4 (hi.1 h).2.2.2)]; rfl) (by unfold match_Right_l1; rw [if_neg (by decide)]), orR_any, good_any m hp]
  · rw [if_pos (by simp; omega), decide_eq_false (fun h => hp h.1)]
theorem rright8_eq (m : Mt) : r08_Right m = some (decide (Good m)) := by
  unfold r08_Right
  by_cases hp : -1 ≤ m.1 ∧ m.1 ≤ 7
  · rw [if_neg (by simp; omega), any_loop 4 _ (fun f : Nat => ¬ FOk f (p4 m.2.1 f) (p4 m.2.2 f)) false (fun k hk => by
      unfold r08_Right_l1
      have ht := topB hk
      rw [if_pos (by omega), ix4 m.2.2 hk, Option.bind_some, ix4 m.2.1 hk]
      simp only [Option.bind_some]
      by_cases c : (0 ≤ p4 m.2.2 k ∧ p4 m.2.2 k ≤ r07_Top (k : Int)) ∧ (0 ≤ p4 m.2.1 k ∧ p4 m.2.1 k ≤ r07_Top (k : Int))
      · obtain ⟨⟨h1, h2⟩, ⟨h3, h4⟩⟩ := c
        rw [if_neg (by omega), if_neg (by omega), if_neg (by omega), decide_eq_false (by omega)]
        simp only [Option.bind_some]
        rw [if_neg (by decide), any_loop 8 _ (fun i : Nat => ¬ (tb (p4 m.2.1 k) i = true → tb (p4 m.2.2 k) i = true)) (.inr (.inr false)) (fun i hi => by
          unfold r08_Right_l2
          rw [if_pos (by omega), ix4 m.2.1 hk, Option.bind_some, bit_eq ⟨h3, by omega⟩ hi, Option.bind_some, ix4 m.2.2 hk, Option.bind_some, bit_eq ⟨h1, by omega⟩ hi, Option.bind_some, w64_id (by omega)]
          by_cases x : tb (p4 m.2.1 k) i = true <;> by_cases y : tb (p4 m.2.2 k) i = true <;> simp [x, y]) (by unfold r08_Right_l2; rw [if_neg (by decide)]), w64_id (by omega)]
        by_cases hb : ∃ i : Nat, i < 8 ∧ ¬ (tb (p4 m.2.1 k) i = true → tb (p4 m.2.2 k) i = true)
        · rw [if_pos hb, if_pos (fun h => by obtain ⟨i, h5, h6⟩ := hb; exact h6 (h.2.2 i h5))]; rfl
        · rw [if_neg hb, if_neg (fun h => h ⟨⟨h1, h2⟩, ⟨h3, h4⟩, fun i hi => Classical.byContradiction fun hn => hb ⟨i, hi, hn⟩⟩)]; rfl
      · rw [if_pos (fun h => c ⟨h.1, h.2.1⟩)]
        have hb : (if p4 m.2.2 k < 0 then some true else if r07_Top (k : Int) < p4 m.2.2 k then some true else if p4 m.2.1 k < 0 then some true else some (decide (r07_Top (k : Int) < p4 m.2.1 k))) = some true := by
          by_cases c1 : p4 m.2.2 k < 0
          · rw [if_pos c1]
          · rw [if_neg c1]
            by_cases c2 : r07_Top (k : Int) < p4 m.2.2 k
            · rw [if_pos c2]
            · rw [if_neg c2]
              by_cases c3 : p4 m.2.1 k < 0
              · rw [if_pos c3]
              · rw [if_neg c3, decide_eq_true (by omega)]
        rw [hb]; rfl) (by unfold r08_Right_l1; rw [if_neg (by decide)]), orR_any, good_any m hp]
  · rw [if_pos (by simp; omega), decide_eq_false (fun h => hp h.1)]
/-! ### Hits -/
theorem good_by {m : Mt} (h : Good m) {k : Nat} (hk : k < 4) : By (p4 m.2.1 k) ∧ By (p4 m.2.2 k) := fok_by hk (h.2 k hk)
abbrev Bys (p : P4) : Prop := ∀ k, k < 4 → By (p4 p k)
abbrev eqM (m n : Mt) : Prop := m.1 = n.1 ∧ m.2.1.1 = n.2.1.1 ∧ m.2.1.2.1 = n.2.1.2.1 ∧ m.2.1.2.2.1 = n.2.1.2.2.1 ∧ m.2.1.2.2.2 = n.2.1.2.2.2 ∧ m.2.2.1 = n.2.2.1 ∧ m.2.2.2.1 = n.2.2.2.1 ∧ m.2.2.2.2.1 = n.2.2.2.2.1 ∧ m.2.2.2.2.2 = n.2.2.2.2.2
theorem eqM_iff {m n : Mt} : eqM m n ↔ m = n := by
  obtain ⟨a, ⟨b, c, d, e⟩, ⟨f, g, i, j⟩⟩ := m
  obtain ⟨a', ⟨b', c', d', e'⟩, ⟨f', g', i', j'⟩⟩ := n
  constructor
  · rintro ⟨h1, h2, h3, h4, h5, h6, h7, h8, h9⟩
    simp only at *
    subst h1 h2 h3 h4 h5 h6 h7 h8 h9; rfl
  · rintro h; cases h; exact ⟨rfl, rfl, rfl, rfl, rfl, rfl, rfl, rfl, rfl⟩
theorem good_i4 {m : Mt} (h : Good m) : I4 m.2.1 := by
  have g : ∀ k, k < 4 → i64 (p4 m.2.1 k) := fun k hk => by
    have := (good_by h hk).1
    have h1 := this.1
    have h2 := this.2
    constructor <;> omega
  exact ⟨g 0 (by decide), g 1 (by decide), g 2 (by decide), g 3 (by decide)⟩
def codeM (m : Mt) : List UInt8 := be 1 (m.1 + 1) ++ (be 1 m.2.1.1 ++ be 1 m.2.2.1) ++ (be 1 m.2.1.2.1 ++ be 1 m.2.2.2.1) ++ (be 1 m.2.1.2.2.1 ++ be 1 m.2.2.2.2.1) ++ (be 1 m.2.1.2.2.2 ++ be 1 m.2.2.2.2.2)
theorem code_step {m : Mt} (h : Good m) {k : Nat} (hk : k < 4) (o : List UInt8) (ho : o.length ≤ 100) : match_Code_l1 m ((k : Int), o) = some (.inl (((k + 1 : Nat) : Int), o ++ (be 1 (p4 m.2.1 k) ++ be 1 (p4 m.2.2 k)))) := by
  obtain ⟨g1, g2⟩ := good_by h hk
  rw [match_Code_l1, if_pos (by omega), ix4 m.2.2 hk, Option.bind_some, ix4 m.2.1 hk, Option.bind_some, num_eq, Option.bind_some, num1 g1, app_is (by simp [be]; omega), Option.bind_some, num_eq, Option.bind_some, num1 g2, app_is (by simp [be]; omega), Option.bind_some, w64_id (by omega), List.append_assoc]; rfl
theorem code_eq {m : Mt} (h : Good m) : match_Code m = some (codeM m) := by
  have hp := h.1
  unfold match_Code codeM
  rw [w64_id (by omega), num_eq, Option.bind_some, num1 (by omega), app_is (by simp [be]), Option.bind_some, List.nil_append]
  have s0 := code_step h (k := 0) (by decide) (be 1 (m.1 + 1)) (by simp [be])
  have s1 := code_step h (k := 1) (by decide) (be 1 (m.1 + 1) ++ (be 1 m.2.1.1 ++ be 1 m.2.2.1)) (by simp [be])
  have s2 := code_step h (k := 2) (by decide) (be 1 (m.1 + 1) ++ (be 1 m.2.1.1 ++ be 1 m.2.2.1) ++ (be 1 m.2.1.2.1 ++ be 1 m.2.2.2.1)) (by simp [be])
  have s3 := code_step h (k := 3) (by decide) (be 1 (m.1 + 1) ++ (be 1 m.2.1.1 ++ be 1 m.2.2.1) ++ (be 1 m.2.1.2.1 ++ be 1 m.2.2.2.1) ++ (be 1 m.2.1.2.2.1 ++ be 1 m.2.2.2.2.1)) (by simp [be])
  have s4 : ∀ o, match_Code_l1 m (4, o) = some (.inr o) := fun o => by rw [match_Code_l1, if_neg (by decide)]
  have e : loopW (match_Code_l1 m) (0, be 1 (m.1 + 1)) = some (codeM m) := (loopW_go s0).trans ((loopW_go s1).trans ((loopW_go s2).trans ((loopW_go s3).trans (loopW_end (s4 _)))))
  rw [e, Option.bind_some, lenB_is (by unfold codeM; simp [be])]; rfl
theorem num_byte (b : UInt8) (t : List UInt8) (ht : t.length ≤ 900000) : octet_Reader_Num (b :: t, 0) 1 = some ((b.toNat : Int), (t, 0)) := by
  rw [rnumR_eq _ _ (by simp; omega), preN_ok (by decide), show ((b :: t, 0) : List UInt8 × Int) = ([b] ++ t, 0) from rfl, takeR_app [b] t 1 rfl, val_one, w64_id (by have := b.toNat_lt; omega)]
theorem be1_byte {v : Int} (h : By v) : ∃ x : UInt8, be 1 v = [x] ∧ (x.toNat : Int) = v := by
  have h1 := h.1
  have h2 := h.2
  refine ⟨UInt8.ofNat (v % 256).toNat, rfl, ?_⟩
  rw [UInt8.toNat_ofNat_of_lt' (by show (v % 256).toNat < 256; omega)]; omega
theorem read_step8 {k : Nat} (hk : k < 4) (v m : P4) (x y : UInt8) (t : List UInt8) (ht : t.length ≤ 800000) :
    match_Read_l1 ((k : Int), v.1, v.2.1, v.2.2.1, v.2.2.2, m.1, m.2.1, m.2.2.1, m.2.2.2, x :: y :: t, 0) = some (.inl (((k + 1 : Nat) : Int), (put4 v (k : Int) (x.toNat : Int)).1, (put4 v (k : Int) (x.toNat : Int)).2.1, (put4 v (k : Int) (x.toNat : Int)).2.2.1, (put4 v (k : Int) (x.toNat : Int)).2.2.2, (put4 m (k : Int) (y.toNat : Int)).1, (put4 m (k : Int) (y.toNat : Int)).2.1, (put4 m (k : Int) (y.toNat : Int)).2.2.1, (put4 m (k : Int) (y.toNat : Int)).2.2.2, t, 0)) := by
  rw [match_Read_l1, if_pos (by omega), num_byte x (y :: t) (by simp; omega), Option.bind_some, ix4 v hk, Option.bind_some, num_byte y t (by omega), Option.bind_some, ix4 m hk, Option.bind_some, w64_id (by omega)]; rfl
end Go.Proofs.Ytnlllglfmipllaa
