/- Layer 11: packets, matches. Conditions: none. -/
import Derived.Test.YtkjjioigbpkifaadLP
import Derived.Test.YtkjjioigbpkifaadOA
import Derived.Test.YtkjjioigbpkifaadA10
namespace Go.Proofs.Ytkjjioigbpkifaa
set_option linter.unusedVariables false
set_option linter.unusedSimpArgs false
set_option synthInstance.maxSize 1000
open Go Go.RowKit
abbrev P4 := Int × Int × Int × Int
abbrev i64 (n : Int) : Prop := -9223372036854775808 ≤ n ∧ n ≤ 9223372036854775807
theorem IB {α β : Type} (t : α) (k : α → Option β) : FL (some (Sum.inl t)) k = k t := rfl
theorem Kl (f : Int) : ((f = 0 ∨ f = 1 ∨ f = 3) ∧ Bb f = 255) ∨ (f = 2 ∧ Bb f = 15) ∨ ((f < 0 ∨ 3 < f) ∧ Bb f = 0) := by
  unfold Bb
  by_cases h2 : f = 2
  · exact .inr (.inl ⟨h2, if_pos h2⟩)
  · rw [if_neg h2]
    by_cases h : f = 0 ∨ f = 1 ∨ f = 3
    · exact .inl ⟨h, if_pos (by simpa using h)⟩
    · exact .inr (.inr ⟨by omega, if_neg (by simpa using h)⟩)
def HT (f : Int) : Int := if f = 0 ∨ f = 1 ∨ f = 3 then 8 else if f = 2 then 4 else 0
theorem LP (f : Int) : Dj f = some (HT f) := by
  unfold Dj HT
  by_cases h0 : f = 0
  · subst h0; rfl
  · rw [if_neg h0]
    by_cases h1 : f = 1
    · subst h1; rfl
    · rw [if_neg h1]
      by_cases h3 : f = 3
      · subst h3; rfl
      · rw [decide_eq_false h3]
        by_cases h2 : f = 2
        · subst h2; rfl
        · simp [h0, h1, h2, h3]
theorem KJ (f : Int) : Cw f = some (Bb f) := by
  unfold Cw
  rw [LP]
  rcases Kl f with ⟨h, e⟩ | ⟨h, e⟩ | ⟨h, e⟩
  · rw [e, show HT f = 8 from if_pos h]; rfl
  · rw [e, show HT f = 4 by unfold HT; rw [if_neg (by omega), if_pos h]]; rfl
  · rw [e, show HT f = 0 by unfold HT; rw [if_neg (by omega), if_neg (by omega)]]; rfl
abbrev p4 (p : P4) (k : Nat) : Int := match k with | 0 => p.1 | 1 => p.2.1 | 2 => p.2.2.1 | _ => p.2.2.2
theorem Ll (p : P4) {k : Nat} (h : k < 4) : ix ([p.1, p.2.1, p.2.2.1, p.2.2.2] : List Int) (k : Int) = some (p4 p k) := by
  have : k = 0 ∨ k = 1 ∨ k = 2 ∨ k = 3 := by omega
  rcases this with rfl | rfl | rfl | rfl <;> rfl
abbrev ME (p : P4) (f v : Int) : P4 := ((if f = 0 then v else p.1), (if f = 1 then v else p.2.1), (if f = 2 then v else p.2.2.1), (if f = 3 then v else p.2.2.2))
theorem Ly {a : Nat} (h : a < 9223372036854775808) : (BitVec.ofInt 64 (a : Int)).toNat = a := by rw [BitVec.toNat_ofInt]; omega
theorem L6 {a b : Nat} (ha : a < 256) (hb : b < 256) : GR .i64 (a : Int) (b : Int) = ((a &&& b : Nat) : Int) := by
  have hl : a &&& b < 2 ^ 8 := Nat.and_lt_two_pow a hb
  show CG ((BitVec.ofInt 64 (a : Int) &&& BitVec.ofInt 64 (b : Int)).toNat : Int) = _
  rw [BitVec.toNat_and, Ly (by omega), Ly (by omega)]; exact Cy (by omega)
theorem Ni {a b : Nat} (ha : a < 256) (hb : b < 256) : EL .i64 (a : Int) (b : Int) = ((a ||| b : Nat) : Int) := by
  have hl : a ||| b < 2 ^ 8 := Nat.or_lt_two_pow ha hb
  show CG ((BitVec.ofInt 64 (a : Int) ||| BitVec.ofInt 64 (b : Int)).toNat : Int) = _
  rw [BitVec.toNat_or, Ly (by omega), Ly (by omega)]; exact Cy (by omega)
theorem M0 {a b : Nat} (ha : a < 256) (hb : b < 256) : IE .i64 (a : Int) (b : Int) = ((a ^^^ b : Nat) : Int) := by
  have hl : a ^^^ b < 2 ^ 8 := Nat.xor_lt_two_pow ha hb
  show CG ((BitVec.ofInt 64 (a : Int) ^^^ BitVec.ofInt 64 (b : Int)).toNat : Int) = _
  rw [BitVec.toNat_xor, Ly (by omega), Ly (by omega)]; exact Cy (by omega)
theorem Mo {x y : Nat} (hx : x < 256) (hy : y < 256) (h : ∀ i : Nat, i < 8 → x.testBit i = y.testBit i) : x = y := by
  refine Nat.eq_of_testBit_eq fun i => ?_
  by_cases hi : i < 8
  · exact h i hi
  · have hp : 2 ^ 8 ≤ 2 ^ i := Nat.pow_le_pow_right (by decide) (by omega)
    rw [Nat.testBit_lt_two_pow (Nat.lt_of_lt_of_le hx hp), Nat.testBit_lt_two_pow (Nat.lt_of_lt_of_le hy hp)]
theorem NY {x : Nat} (hx : x < 256) : ((x : Int) ≠ 0) ↔ ∃ i : Nat, i < 8 ∧ x.testBit i = true := by
  constructor
  · intro h
    refine Classical.byContradiction fun hn => h ?_
    have : x = 0 := Mo hx (by decide) fun i hi => by
      cases hb : x.testBit i
      · simp
      · exact absurd ⟨i, hi, hb⟩ hn
    rw [this]; rfl
  · rintro ⟨i, hi, hb⟩ h
    have : x = 0 := by omega
    rw [this] at hb; simp at hb
theorem Jp {a b : Nat} (ha : a < 9223372036854775808) (hb : b < 256) : E1 .i64 (a : Int) (b : Int) = 0 ↔ a &&& b = a := by
  have e : E1 .i64 (a : Int) (b : Int) = ((BitVec.ofInt 64 (a : Int) &&& ~~~ BitVec.ofInt 64 (b : Int)).toNat : Int) := by
    show CG ((BitVec.ofInt 64 (a : Int) &&& ~~~ BitVec.ofInt 64 (b : Int)).toNat : Int) = _
    have hl : (BitVec.ofInt 64 (a : Int) &&& ~~~ BitVec.ofInt 64 (b : Int)).toNat ≤ a := by
      rw [BitVec.toNat_and, Ly ha]; exact Nat.and_le_left
    generalize (BitVec.ofInt 64 (a : Int) &&& ~~~ BitVec.ofInt 64 (b : Int)).toNat = z at hl
    exact Cy (by omega)
  rw [e]
  have ga : ∀ i, (BitVec.ofInt 64 (a : Int)).getLsbD i = a.testBit i := fun i => by unfold BitVec.getLsbD; rw [Ly ha]
  have gb : ∀ i, (BitVec.ofInt 64 (b : Int)).getLsbD i = b.testBit i := fun i => by unfold BitVec.getLsbD; rw [Ly (by omega)]
  have ha64 : ∀ i, 64 ≤ i → a.testBit i = false := fun i hi => Nat.testBit_lt_two_pow (Nat.lt_of_lt_of_le (show a < 2 ^ 64 by omega) (Nat.pow_le_pow_right (by decide) hi))
  constructor
  · intro h
    have hz : (BitVec.ofInt 64 (a : Int) &&& ~~~ BitVec.ofInt 64 (b : Int)) = 0#64 := BitVec.eq_of_toNat_eq (by simpa using (Int.ofNat.inj h))
    refine Nat.eq_of_testBit_eq fun i => ?_
    rw [Nat.testBit_and]
    by_cases hi : i < 64
    · have := congrArg (fun v => v.getLsbD i) hz
      simp only [BitVec.getLsbD_and, BitVec.getLsbD_not, ga, gb, hi, decide_true, Bool.true_and, BitVec.getLsbD_zero] at this
      cases h1 : a.testBit i <;> cases h2 : b.testBit i <;> simp_all
    · rw [ha64 i (by omega)]; rfl
  · intro h
    have hz : (BitVec.ofInt 64 (a : Int) &&& ~~~ BitVec.ofInt 64 (b : Int)) = 0#64 := by
      refine BitVec.eq_of_getLsbD_eq fun i hi => ?_
      have h2 := congrArg (fun v => Nat.testBit v i) h
      simp only [Nat.testBit_and] at h2
      simp only [BitVec.getLsbD_and, BitVec.getLsbD_not, ga, gb, hi, decide_true, Bool.true_and, BitVec.getLsbD_zero]
      cases h1 : a.testBit i <;> cases h3 : b.testBit i <;> simp_all
    rw [hz]; rfl
abbrev tb (x : Int) (i : Nat) : Bool := x.toNat.testBit i
abbrev By (x : Int) : Prop := 0 ≤ x ∧ x ≤ 255
theorem Ld (a : Nat) (ha : a ≤ 7) : ∀ (d j x : Nat), j + d = a → x ≤ 255 → Bh (ET (a : Int)) ((x : Int), (j : Int)) = some ((x / 2 ^ d : Nat) : Int) := by
  intro d
  induction d with
  | zero =>
    intro j x hj hx
    rw [Cv (by rw [ET, if_neg (by omega)])]
    simp
  | succ d ih =>
    intro j x hj hx
    rw [Cf (s' := (((x / 2 : Nat) : Int), ((j + 1 : Nat) : Int))) (by
      rw [ET, if_pos (by omega), show Int.tdiv (x : Int) 2 = ((x / 2 : Nat) : Int) from rfl, Cy (by omega), Cy (by omega)]; rfl)]
    rw [ih (j + 1) (x / 2) (by omega) (by omega), Nat.div_div_eq_div_mul, Nat.pow_succ, Nat.mul_comm]
theorem K8 {x : Int} {a : Nat} (hx : By x) (ha : a < 8) : Gc x (a : Int) = some (if tb x a then 1 else 0) := by
  obtain ⟨n, rfl⟩ : ∃ n : Nat, x = (n : Int) := ⟨x.toNat, by have := hx.1; omega⟩
  have h1 := hx.2
  unfold Gc tb
  rw [show ((n : Int), (0 : Int)) = ((n : Int), ((0 : Nat) : Int)) from rfl, Ld a (by omega) a 0 n (by omega) (by omega), Option.bind_some, Int.toNat_natCast]
  have e := Nat.toNat_testBit n a
  show some (((n / 2 ^ a % 2 : Nat)) : Int) = _
  rw [← e]
  cases n.testBit a <;> rfl
theorem Fj {ε : Type} (n : Nat) (step : Int → Option (Int ⊕ (Unit ⊕ ε))) (q : Nat → Prop) [DecidablePred q] (e : ε)
    (hs : ∀ k, k < n → step (k : Int) = some (if q k then .inr (.inr e) else .inl ((k + 1 : Nat) : Int))) (he : step (n : Int) = some (.inr (.inl ()))) :
    Bh step 0 = some (if ∃ k : Nat, k < n ∧ q k then .inr e else .inl ()) := by
  by_cases h : ∃ k : Nat, k < n ∧ q k
  · rw [if_pos h]
    have key : ∀ (d k : Nat), k + d = n → (∃ j, k ≤ j ∧ j < n ∧ q j) → Bh step (k : Int) = some (.inr e) := by
      intro d
      induction d with
      | zero => rintro k hk ⟨j, h1, h2, h3⟩; omega
      | succ d ih =>
        rintro k hk ⟨j, h1, h2, h3⟩
        have hs' := hs k (by omega)
        by_cases hq : q k
        · rw [if_pos hq] at hs'; exact Cv hs'
        · rw [if_neg hq] at hs'
          rw [Cf hs']
          exact ih (k + 1) (by omega) ⟨j, by
            have : k ≠ j := fun e => hq (e ▸ h3)
            omega, h2, h3⟩
    obtain ⟨k, h1, h2⟩ := h
    exact key n 0 (by omega) ⟨k, by omega, h1, h2⟩
  · rw [if_neg h]
    have key : ∀ (d k : Nat), k + d = n → Bh step (k : Int) = some (.inl ()) := by
      intro d
      induction d with
      | zero =>
        intro k hk
        obtain rfl : k = n := by omega
        exact Cv he
      | succ d ih =>
        intro k hk
        have hs' := hs k (by omega)
        rw [if_neg (fun hq => h ⟨k, by omega, hq⟩)] at hs'
        rw [Cf hs']
        exact ih (k + 1) (by omega)
    exact key n 0 (by omega)
theorem Ht {E : Prop} [Decidable E] : FL (some (if E then (.inr false : Unit ⊕ Bool) else .inl ())) (fun _ => some true) = some (decide (¬ E)) := by
  by_cases h : E
  · rw [if_pos h, decide_eq_false (fun hn => hn h)]; rfl
  · rw [if_neg h, decide_eq_true h]; rfl
abbrev Mt := Int × P4 × P4
abbrev MA (f : Nat) (v m : Int) : Prop := (0 ≤ m ∧ m ≤ Bb (f : Int)) ∧ (0 ≤ v ∧ v ≤ Bb (f : Int)) ∧ ∀ i : Nat, i < 8 → tb v i = true → tb m i = true
abbrev FZ (m : Mt) : Prop := (-1 ≤ m.1 ∧ m.1 ≤ 7) ∧ ∀ f : Nat, f < 4 → MA f (p4 m.2.1 f) (p4 m.2.2 f)
theorem Lu {f : Nat} (h : f < 4) : Bb (f : Int) = 255 ∨ Bb (f : Int) = 15 := by
  have : f = 0 ∨ f = 1 ∨ f = 2 ∨ f = 3 := by omega
  rcases this with rfl | rfl | rfl | rfl
  · exact .inl rfl
  · exact .inl rfl
  · exact .inr rfl
  · exact .inl rfl
theorem KG {f : Nat} {v m : Int} (hf : f < 4) (h : MA f v m) : By v ∧ By m := by
  have := Lu hf
  obtain ⟨h1, h2, _⟩ := h
  exact ⟨⟨h2.1, by omega⟩, ⟨h1.1, by omega⟩⟩
theorem Lp {f : Nat} {v m : Int} (hf : f < 4) (hv : v ≤ 9223372036854775807) : MA f v m ↔ (0 ≤ m ∧ m ≤ Bb (f : Int) ∧ 0 ≤ v ∧ E1 .i64 v m = 0) := by
  have ht := Lu hf
  constructor
  · intro h
    obtain ⟨⟨b1, b2⟩, ⟨b3, b4⟩⟩ := KG hf h
    obtain ⟨⟨h1, h2⟩, ⟨h3, h4⟩, h5⟩ := h
    obtain ⟨a, rfl⟩ : ∃ n : Nat, v = (n : Int) := ⟨v.toNat, by omega⟩
    obtain ⟨b, rfl⟩ : ∃ n : Nat, m = (n : Int) := ⟨m.toNat, by omega⟩
    refine ⟨h1, h2, h3, (Jp (by omega) (by omega)).2 (Mo (Nat.lt_of_le_of_lt Nat.and_le_left (by omega)) (by omega) fun i hi => ?_)⟩
    have := h5 i hi
    simp only [tb, Int.toNat_natCast] at this
    rw [Nat.testBit_and]
    cases h6 : a.testBit i
    · rfl
    · rw [this h6]; rfl
  · rintro ⟨h1, h2, h3, h4⟩
    obtain ⟨a, rfl⟩ : ∃ n : Nat, v = (n : Int) := ⟨v.toNat, by omega⟩
    obtain ⟨b, rfl⟩ : ∃ n : Nat, m = (n : Int) := ⟨m.toNat, by omega⟩
    have h5 := (Jp (a := a) (b := b) (by omega) (by omega)).1 h4
    have h6 : a &&& b ≤ b := Nat.and_le_right
    rw [h5] at h6
    refine ⟨⟨h1, h2⟩, ⟨h3, by omega⟩, fun i hi ha => ?_⟩
    simp only [tb, Int.toNat_natCast] at ha ⊢
    have := congrArg (fun x => Nat.testBit x i) h5
    simp only [Nat.testBit_and, ha, Bool.true_and] at this
    exact this
theorem I7 (m : Mt) (hp : -1 ≤ m.1 ∧ m.1 ≤ 7) : decide (¬ ∃ f : Nat, f < 4 ∧ ¬ MA f (p4 m.2.1 f) (p4 m.2.2 f)) = decide (FZ m) :=
  decide_eq_decide.2 ⟨fun h => ⟨hp, fun f hf => Classical.byContradiction fun hn => h ⟨f, hf, hn⟩⟩, fun h ⟨f, hf, hn⟩ => hn (h.2 f hf)⟩
abbrev I4 (p : P4) : Prop := i64 p.1 ∧ i64 p.2.1 ∧ i64 p.2.2.1 ∧ i64 p.2.2.2
theorem Mn {p : P4} (h : I4 p) {k : Nat} (hk : k < 4) : i64 (p4 p k) := by
  obtain ⟨h0, h1, h2, h3⟩ := h
  have : k = 0 ∨ k = 1 ∨ k = 2 ∨ k = 3 := by omega
  rcases this with rfl | rfl | rfl | rfl <;> assumption
theorem Kt {m : Mt} (hv : I4 m.2.1) : Dt m = some (decide (FZ m)) := by
  unfold Dt
  by_cases hp : -1 ≤ m.1 ∧ m.1 ≤ 7
  · rw [if_neg (by simp; omega), Fj 4 _ (fun f : Nat => ¬ MA f (p4 m.2.1 f) (p4 m.2.2 f)) false (fun k hk => by
      unfold CK
      rw [if_pos (by omega), Ll m.2.2 hk, Option.bind_some, KJ, Option.bind_some, Ll m.2.1 hk, Option.bind_some, Option.bind_some, Cy (by omega)]
      have hi := Lp (m := p4 m.2.2 k) hk (Mn hv hk).2
      by_cases c1 : p4 m.2.2 k < 0
      · rw [if_pos c1, if_pos (fun h => by have := (hi.1 h).1; omega)]; rfl
      · rw [if_neg c1]
        by_cases c2 : Bb (k : Int) < p4 m.2.2 k
        · rw [if_pos c2, if_pos (fun h => by have := (hi.1 h).2.1; omega)]; rfl
        · rw [if_neg c2]
          by_cases c3 : p4 m.2.1 k < 0
          · rw [if_pos c3, if_pos (fun h => by have := (hi.1 h).2.2.1; omega)]; rfl
          · rw [if_neg c3]
            by_cases c4 : E1 .i64 (p4 m.2.1 k) (p4 m.2.2 k) = 0
            · rw [decide_eq_false (by simpa using c4), if_neg (fun h => h (hi.2 ⟨by omega, by omega, by omega, c4⟩))]; rfl
            · rw [decide_eq_true c4, if_pos (fun h => c4 (hi.1 h).2.2.2)]; rfl) (by unfold CK; rw [if_neg (by decide)]), Ht, I7 m hp]
  · rw [if_pos (by simp; omega), decide_eq_false (fun h => hp h.1)]
theorem Jy (m : Mt) : Fo m = some (decide (FZ m)) := by
  unfold Fo
  by_cases hp : -1 ≤ m.1 ∧ m.1 ≤ 7
  · rw [if_neg (by simp; omega), Fj 4 _ (fun f : Nat => ¬ MA f (p4 m.2.1 f) (p4 m.2.2 f)) false (fun k hk => by
      unfold EF
      have ht := Lu hk
      rw [if_pos (by omega), Ll m.2.2 hk, Option.bind_some, Ll m.2.1 hk]
      simp only [Option.bind_some]
      by_cases c : (0 ≤ p4 m.2.2 k ∧ p4 m.2.2 k ≤ Bb (k : Int)) ∧ (0 ≤ p4 m.2.1 k ∧ p4 m.2.1 k ≤ Bb (k : Int))
      · obtain ⟨⟨h1, h2⟩, ⟨h3, h4⟩⟩ := c
        rw [if_neg (by omega), if_neg (by omega), if_neg (by omega), decide_eq_false (by omega)]
        simp only [Option.bind_some]
        rw [if_neg (by decide), Fj 8 _ (fun i : Nat => ¬ (tb (p4 m.2.1 k) i = true → tb (p4 m.2.2 k) i = true)) (.inr (.inr false)) (fun i hi => by
          unfold EE
          rw [if_pos (by omega), Ll m.2.1 hk, Option.bind_some, K8 ⟨h3, by omega⟩ hi, Option.bind_some, Ll m.2.2 hk, Option.bind_some, K8 ⟨h1, by omega⟩ hi, Option.bind_some, Cy (by omega)]
          by_cases x : tb (p4 m.2.1 k) i = true <;> by_cases y : tb (p4 m.2.2 k) i = true <;> simp [x, y]) (by unfold EE; rw [if_neg (by decide)]), Cy (by omega)]
        by_cases hb : ∃ i : Nat, i < 8 ∧ ¬ (tb (p4 m.2.1 k) i = true → tb (p4 m.2.2 k) i = true)
        · rw [if_pos hb, if_pos (fun h => by obtain ⟨i, h5, h6⟩ := hb; exact h6 (h.2.2 i h5))]; rfl
        · rw [if_neg hb, if_neg (fun h => h ⟨⟨h1, h2⟩, ⟨h3, h4⟩, fun i hi => Classical.byContradiction fun hn => hb ⟨i, hi, hn⟩⟩)]; rfl
      · rw [if_pos (fun h => c ⟨h.1, h.2.1⟩)]
        have hb : (if p4 m.2.2 k < 0 then some true else if Bb (k : Int) < p4 m.2.2 k then some true else if p4 m.2.1 k < 0 then some true else some (decide (Bb (k : Int) < p4 m.2.1 k))) = some true := by
          by_cases c1 : p4 m.2.2 k < 0
          · rw [if_pos c1]
          · rw [if_neg c1]
            by_cases c2 : Bb (k : Int) < p4 m.2.2 k
            · rw [if_pos c2]
            · rw [if_neg c2]
              by_cases c3 : p4 m.2.1 k < 0
              · rw [if_pos c3]
              · rw [if_neg c3, decide_eq_true (by omega)]
        rw [hb]; rfl) (by unfold EF; rw [if_neg (by decide)]), Ht, I7 m hp]
  · rw [if_pos (by simp; omega), decide_eq_false (fun h => hp h.1)]
theorem Gd {m : Mt} (h : FZ m) {k : Nat} (hk : k < 4) : By (p4 m.2.1 k) ∧ By (p4 m.2.2 k) := KG hk (h.2 k hk)
end Go.Proofs.Ytkjjioigbpkifaa
