/- Layer 11: packets, matches. Conditions: none. -/
import Derived.Test.YtkjjioigbpkifaaaLP
import Derived.Test.YtkjjioigbpkifaaaOA
import Derived.Test.YtkjjioigbpkifaaaA10
namespace Go.Proofs.Ytkjjioigbpkifaa
set_option linter.unusedVariables false
set_option linter.unusedSimpArgs false
set_option synthInstance.maxSize 1000
open Go Go.RowKit
abbrev P4 := Int × Int × Int × Int
abbrev i64 (n : Int) : Prop := -9223372036854775808 ≤ n ∧ n ≤ 9223372036854775807
theorem IZ {α β : Type} (t : α) (k : α → Option β) : Fw (some (Sum.inl t)) k = k t := rfl
theorem KA (f : Int) : ((f = 0 ∨ f = 1 ∨ f = 3) ∧ A0 f = 255) ∨ (f = 2 ∧ A0 f = 15) ∨ ((f < 0 ∨ 3 < f) ∧ A0 f = 0) := by
  unfold A0
  by_cases h2 : f = 2
  · exact .inr (.inl ⟨h2, if_pos h2⟩)
  · rw [if_neg h2]
    by_cases h : f = 0 ∨ f = 1 ∨ f = 3
    · exact .inl ⟨h, if_pos (by simpa using h)⟩
    · exact .inr (.inr ⟨by omega, if_neg (by simpa using h)⟩)
def H6 (f : Int) : Int := if f = 0 ∨ f = 1 ∨ f = 3 then 8 else if f = 2 then 4 else 0
theorem LK (f : Int) : Dl f = some (H6 f) := by
  unfold Dl H6
  by_cases h0 : f = 0
  · subst h0; rfl
  · rw [if_neg h0]
    by_cases h1 : f = 1
    · subst h1; rfl
    · rw [if_neg h1]
      by_cases h3 : f = 3
      · subst h3; rfl
      · rw [decide_eq_false h3]
        by_cases h2 : f = 2
        · subst h2; rfl
        · simp [h0, h1, h2, h3]
theorem JW (f : Int) : Cr f = some (A0 f) := by
  unfold Cr
  rw [LK]
  rcases KA f with ⟨h, e⟩ | ⟨h, e⟩ | ⟨h, e⟩
  · rw [e, show H6 f = 8 from if_pos h]; rfl
  · rw [e, show H6 f = 4 by unfold H6; rw [if_neg (by omega), if_pos h]]; rfl
  · rw [e, show H6 f = 0 by unfold H6; rw [if_neg (by omega), if_neg (by omega)]]; rfl
abbrev Mo (f v : Int) : Prop := 0 ≤ v ∧ v ≤ A0 f
theorem Mb (f v : Int) : Dr f v = some (decide (Mo f v)) := by
  unfold Dr
  by_cases h : 0 ≤ v
  · rw [if_pos h, JW, Option.bind_some, Option.bind_some]
    congr 1
    exact decide_eq_decide.2 ⟨fun h2 => ⟨h, h2⟩, fun h2 => h2.2⟩
  · rw [if_neg h, decide_eq_false (fun h2 => h h2.1)]; rfl
abbrev p4 (p : P4) (k : Nat) : Int := match k with | 0 => p.1 | 1 => p.2.1 | 2 => p.2.2.1 | _ => p.2.2.2
theorem Ks (p : P4) {k : Nat} (h : k < 4) : ix ([p.1, p.2.1, p.2.2.1, p.2.2.2] : List Int) (k : Int) = some (p4 p k) := by
  have : k = 0 ∨ k = 1 ∨ k = 2 ∨ k = 3 := by omega
  rcases this with rfl | rfl | rfl | rfl <;> rfl
abbrev Nr (p : P4) : Prop := (0 ≤ p.1 ∧ p.1 ≤ 255) ∧ (0 ≤ p.2.1 ∧ p.2.1 ≤ 255) ∧ (0 ≤ p.2.2.1 ∧ p.2.2.1 ≤ 15) ∧ (0 ≤ p.2.2.2 ∧ p.2.2.2 ≤ 255)
theorem Ki (p : P4) : Nr p ↔ ¬ ∃ k : Nat, k < 4 ∧ ¬ Mo (k : Int) (p4 p k) := by
  constructor
  · rintro ⟨h0, h1, h2, h3⟩ ⟨k, hk, hn⟩
    have : k = 0 ∨ k = 1 ∨ k = 2 ∨ k = 3 := by omega
    rcases this with rfl | rfl | rfl | rfl
    · exact hn h0
    · exact hn h1
    · exact hn h2
    · exact hn h3
  · intro h
    have g : ∀ k : Nat, k < 4 → Mo (k : Int) (p4 p k) := fun k hk => Classical.byContradiction fun hn => h ⟨k, hk, hn⟩
    exact ⟨g 0 (by decide), g 1 (by decide), g 2 (by decide), g 3 (by decide)⟩
abbrev MR (p : P4) (f v : Int) : P4 := ((if f = 0 then v else p.1), (if f = 1 then v else p.2.1), (if f = 2 then v else p.2.2.1), (if f = 3 then v else p.2.2.2))
def Jn (p : P4) (f v : Int) : P4 := if 0 ≤ f ∧ f < 4 ∧ Mo f v then MR p f v else p
theorem ix4' (p : P4) {f : Int} (h : 0 ≤ f ∧ f < 4) : ∃ x, ix ([p.1, p.2.1, p.2.2.1, p.2.2.2] : List Int) f = some x ∧ x = p4 p f.toNat := by
  have := Ks p (k := f.toNat) (by omega)
  rw [show ((f.toNat : Nat) : Int) = f by omega] at this
  exact ⟨_, this, rfl⟩
theorem LP (p : P4) (f v : Int) : Dt p f v = some (Jn p f v) := by
  unfold Dt Jn
  by_cases hk : 0 ≤ f ∧ f < 4
  · obtain ⟨x, hx, _⟩ := ix4' p hk
    rw [if_pos (by simpa [Cy] using hk), Mb, Option.bind_some, Option.bind_some]
    by_cases hf : Mo f v
    · rw [decide_eq_true hf, if_pos (show true = true from rfl), hx]
      show some (MR p f v) = _
      rw [if_pos ⟨hk.1, hk.2, hf⟩]
    · rw [decide_eq_false hf, if_neg (show ¬ false = true by decide)]
      show some p = _
      rw [if_neg (fun h => hf h.2.2)]
  · rw [if_neg (by simpa [Cy] using hk), Option.bind_some, if_neg (show ¬ false = true by decide)]
    show some p = _
    rw [if_neg (fun h => hk ⟨h.1, h.2.1⟩)]
theorem K7 (p : P4) (f v : Int) : Gv p f v = some (Jn p f v) := by
  unfold Gv Jn
  by_cases h : 0 ≤ f ∧ f < 4 ∧ Mo f v
  · obtain ⟨x, hx, _⟩ := ix4' p ⟨h.1, h.2.1⟩
    rw [if_pos (by simpa using h), hx]
    show some (MR p f v) = _
    rw [if_pos h]
  · rw [if_neg (by simpa using h)]
    show some p = _
    rw [if_neg h]
theorem JZ (p : P4) : FS p = some (decide (Nr p)) := by
  unfold FS
  rw [Im 4 _ (fun k => ¬ Mo (k : Int) (p4 p k)) false (fun k hk => by
    unfold EX
    rw [if_pos (by omega), Ks p hk]
    simp only [Option.bind_some]
    rw [Cj (by omega)]
    by_cases c : p4 p k < 0
    · rw [if_pos c, if_pos (fun h => by have := h.1; omega)]; rfl
    · rw [if_neg c]
      by_cases c2 : A0 (k : Int) < p4 p k
      · rw [decide_eq_true c2, if_pos (fun h => by have := h.2; omega)]; rfl
      · rw [decide_eq_false c2, if_neg (fun h => h ⟨by omega, by omega⟩)]; rfl) (by unfold EX; rw [if_neg (by decide)])]
  unfold Fw
  by_cases h : Nr p
  · rw [if_neg ((Ki p).1 h), decide_eq_true h]; rfl
  · rw [if_pos (Classical.byContradiction fun h2 => h ((Ki p).2 h2)), decide_eq_false h]; rfl
theorem MD {a : Nat} (h : a < 9223372036854775808) : (BitVec.ofInt 64 (a : Int)).toNat = a := by rw [BitVec.toNat_ofInt]; omega
theorem Nh {a b : Nat} (ha : a < 256) (hb : b < 256) : HU .i64 (a : Int) (b : Int) = ((a &&& b : Nat) : Int) := by
  have hl : a &&& b < 2 ^ 8 := Nat.and_lt_two_pow a hb
  show CL ((BitVec.ofInt 64 (a : Int) &&& BitVec.ofInt 64 (b : Int)).toNat : Int) = _
  rw [BitVec.toNat_and, MD (by omega), MD (by omega)]; exact Cj (by omega)
theorem Nf {a b : Nat} (ha : a < 256) (hb : b < 256) : I7 .i64 (a : Int) (b : Int) = ((a ^^^ b : Nat) : Int) := by
  have hl : a ^^^ b < 2 ^ 8 := Nat.xor_lt_two_pow ha hb
  show CL ((BitVec.ofInt 64 (a : Int) ^^^ BitVec.ofInt 64 (b : Int)).toNat : Int) = _
  rw [BitVec.toNat_xor, MD (by omega), MD (by omega)]; exact Cj (by omega)
theorem Nn {x y : Nat} (hx : x < 256) (hy : y < 256) (h : ∀ i : Nat, i < 8 → x.testBit i = y.testBit i) : x = y := by
  refine Nat.eq_of_testBit_eq fun i => ?_
  by_cases hi : i < 8
  · exact h i hi
  · have hp : 2 ^ 8 ≤ 2 ^ i := Nat.pow_le_pow_right (by decide) (by omega)
    rw [Nat.testBit_lt_two_pow (Nat.lt_of_lt_of_le hx hp), Nat.testBit_lt_two_pow (Nat.lt_of_lt_of_le hy hp)]
theorem Pw {x : Nat} (hx : x < 256) : ((x : Int) ≠ 0) ↔ ∃ i : Nat, i < 8 ∧ x.testBit i = true := by
  constructor
  · intro h
    refine Classical.byContradiction fun hn => h ?_
    have : x = 0 := Nn hx (by decide) fun i hi => by
      cases hb : x.testBit i
      · simp
      · exact absurd ⟨i, hi, hb⟩ hn
    rw [this]; rfl
  · rintro ⟨i, hi, hb⟩ h
    have : x = 0 := by omega
    rw [this] at hb; simp at hb
theorem Ju {a b : Nat} (ha : a < 9223372036854775808) (hb : b < 256) : Fk .i64 (a : Int) (b : Int) = 0 ↔ a &&& b = a := by
  have e : Fk .i64 (a : Int) (b : Int) = ((BitVec.ofInt 64 (a : Int) &&& ~~~ BitVec.ofInt 64 (b : Int)).toNat : Int) := by
    show CL ((BitVec.ofInt 64 (a : Int) &&& ~~~ BitVec.ofInt 64 (b : Int)).toNat : Int) = _
    have hl : (BitVec.ofInt 64 (a : Int) &&& ~~~ BitVec.ofInt 64 (b : Int)).toNat ≤ a := by
      rw [BitVec.toNat_and, MD ha]; exact Nat.and_le_left
    generalize (BitVec.ofInt 64 (a : Int) &&& ~~~ BitVec.ofInt 64 (b : Int)).toNat = z at hl
    exact Cj (by omega)
  rw [e]
  have ga : ∀ i, (BitVec.ofInt 64 (a : Int)).getLsbD i = a.testBit i := fun i => by unfold BitVec.getLsbD; rw [MD ha]
  have gb : ∀ i, (BitVec.ofInt 64 (b : Int)).getLsbD i = b.testBit i := fun i => by unfold BitVec.getLsbD; rw [MD (by omega)]
  have ha64 : ∀ i, 64 ≤ i → a.testBit i = false := fun i hi => Nat.testBit_lt_two_pow (Nat.lt_of_lt_of_le (show a < 2 ^ 64 by omega) (Nat.pow_le_pow_right (by decide) hi))
  constructor
  · intro h
    have hz : (BitVec.ofInt 64 (a : Int) &&& ~~~ BitVec.ofInt 64 (b : Int)) = 0#64 := BitVec.eq_of_toNat_eq (by simpa using (Int.ofNat.inj h))
    refine Nat.eq_of_testBit_eq fun i => ?_
    rw [Nat.testBit_and]
    by_cases hi : i < 64
    · have := congrArg (fun v => v.getLsbD i) hz
      simp only [BitVec.getLsbD_and, BitVec.getLsbD_not, ga, gb, hi, decide_true, Bool.true_and, BitVec.getLsbD_zero] at this
      cases h1 : a.testBit i <;> cases h2 : b.testBit i <;> simp_all
    · rw [ha64 i (by omega)]; rfl
  · intro h
    have hz : (BitVec.ofInt 64 (a : Int) &&& ~~~ BitVec.ofInt 64 (b : Int)) = 0#64 := by
      refine BitVec.eq_of_getLsbD_eq fun i hi => ?_
      have h2 := congrArg (fun v => Nat.testBit v i) h
      simp only [Nat.testBit_and] at h2
      simp only [BitVec.getLsbD_and, BitVec.getLsbD_not, ga, gb, hi, decide_true, Bool.true_and, BitVec.getLsbD_zero]
      cases h1 : a.testBit i <;> cases h3 : b.testBit i <;> simp_all
    rw [hz]; rfl
abbrev tb (x : Int) (i : Nat) : Bool := x.toNat.testBit i
abbrev By (x : Int) : Prop := 0 ≤ x ∧ x ≤ 255
theorem KU (a : Nat) (ha : a ≤ 7) : ∀ (d j x : Nat), j + d = a → x ≤ 255 → Bi (E7 (a : Int)) ((x : Int), (j : Int)) = some ((x / 2 ^ d : Nat) : Int) := by
  intro d
  induction d with
  | zero =>
    intro j x hj hx
    rw [El (by rw [E7, if_neg (by omega)])]
    simp
  | succ d ih =>
    intro j x hj hx
    rw [Gp (s' := (((x / 2 : Nat) : Int), ((j + 1 : Nat) : Int))) (by
      rw [E7, if_pos (by omega), show Int.tdiv (x : Int) 2 = ((x / 2 : Nat) : Int) from rfl, Cj (by omega), Cj (by omega)]; rfl)]
    rw [ih (j + 1) (x / 2) (by omega) (by omega), Nat.div_div_eq_div_mul, Nat.pow_succ, Nat.mul_comm]
theorem Ip {x : Int} {a : Nat} (hx : By x) (ha : a < 8) : ES x (a : Int) = some (if tb x a then 1 else 0) := by
  obtain ⟨n, rfl⟩ : ∃ n : Nat, x = (n : Int) := ⟨x.toNat, by have := hx.1; omega⟩
  have h1 := hx.2
  unfold ES tb
  rw [show ((n : Int), (0 : Int)) = ((n : Int), ((0 : Nat) : Int)) from rfl, KU a (by omega) a 0 n (by omega) (by omega), Option.bind_some, Int.toNat_natCast]
  have e := Nat.toNat_testBit n a
  show some (((n / 2 ^ a % 2 : Nat)) : Int) = _
  rw [← e]
  cases n.testBit a <;> rfl
theorem DG {ε : Type} (n : Nat) (step : Int → Option (Int ⊕ (Unit ⊕ ε))) (q : Nat → Prop) [DecidablePred q] (e : ε)
    (hs : ∀ k, k < n → step (k : Int) = some (if q k then .inr (.inr e) else .inl ((k + 1 : Nat) : Int))) (he : step (n : Int) = some (.inr (.inl ()))) :
    Bi step 0 = some (if ∃ k : Nat, k < n ∧ q k then .inr e else .inl ()) := by
  by_cases h : ∃ k : Nat, k < n ∧ q k
  · rw [if_pos h]
    have key : ∀ (d k : Nat), k + d = n → (∃ j, k ≤ j ∧ j < n ∧ q j) → Bi step (k : Int) = some (.inr e) := by
      intro d
      induction d with
      | zero => rintro k hk ⟨j, h1, h2, h3⟩; omega
      | succ d ih =>
        rintro k hk ⟨j, h1, h2, h3⟩
        have hs' := hs k (by omega)
        by_cases hq : q k
        · rw [if_pos hq] at hs'; exact El hs'
        · rw [if_neg hq] at hs'
          rw [Gp hs']
          exact ih (k + 1) (by omega) ⟨j, by
            have : k ≠ j := fun e => hq (e ▸ h3)
            omega, h2, h3⟩
    obtain ⟨k, h1, h2⟩ := h
    exact key n 0 (by omega) ⟨k, by omega, h1, h2⟩
  · rw [if_neg h]
    have key : ∀ (d k : Nat), k + d = n → Bi step (k : Int) = some (.inl ()) := by
      intro d
      induction d with
      | zero =>
        intro k hk
        obtain rfl : k = n := by omega
        exact El he
      | succ d ih =>
        intro k hk
        have hs' := hs k (by omega)
        rw [if_neg (fun hq => h ⟨k, by omega, hq⟩)] at hs'
        rw [Gp hs']
        exact ih (k + 1) (by omega)
    exact key n 0 (by omega)
theorem F0 {E : Prop} [Decidable E] : Fw (some (if E then (.inr false : Unit ⊕ Bool) else .inl ())) (fun _ => some true) = some (decide (¬ E)) := by
  by_cases h : E
  · rw [if_pos h, decide_eq_false (fun hn => hn h)]; rfl
  · rw [if_neg h, decide_eq_true h]; rfl
abbrev Mt := Int × P4 × P4
abbrev MS (f : Nat) (v m : Int) : Prop := (0 ≤ m ∧ m ≤ A0 (f : Int)) ∧ (0 ≤ v ∧ v ≤ A0 (f : Int)) ∧ ∀ i : Nat, i < 8 → tb v i = true → tb m i = true
abbrev I1 (m : Mt) : Prop := (-1 ≤ m.1 ∧ m.1 ≤ 7) ∧ ∀ f : Nat, f < 4 → MS f (p4 m.2.1 f) (p4 m.2.2 f)
theorem ML {f : Nat} (h : f < 4) : A0 (f : Int) = 255 ∨ A0 (f : Int) = 15 := by
  have : f = 0 ∨ f = 1 ∨ f = 2 ∨ f = 3 := by omega
  rcases this with rfl | rfl | rfl | rfl
  · exact .inl rfl
  · exact .inl rfl
  · exact .inr rfl
  · exact .inl rfl
theorem KW {f : Nat} {v m : Int} (hf : f < 4) (h : MS f v m) : By v ∧ By m := by
  have := ML hf
  obtain ⟨h1, h2, _⟩ := h
  exact ⟨⟨h2.1, by omega⟩, ⟨h1.1, by omega⟩⟩
theorem Mf {f : Nat} {v m : Int} (hf : f < 4) (hv : v ≤ 9223372036854775807) : MS f v m ↔ (0 ≤ m ∧ m ≤ A0 (f : Int) ∧ 0 ≤ v ∧ Fk .i64 v m = 0) := by
  have ht := ML hf
  constructor
  · intro h
    obtain ⟨⟨b1, b2⟩, ⟨b3, b4⟩⟩ := KW hf h
    obtain ⟨⟨h1, h2⟩, ⟨h3, h4⟩, h5⟩ := h
    obtain ⟨a, rfl⟩ : ∃ n : Nat, v = (n : Int) := ⟨v.toNat, by omega⟩
    obtain ⟨b, rfl⟩ : ∃ n : Nat, m = (n : Int) := ⟨m.toNat, by omega⟩
    refine ⟨h1, h2, h3, (Ju (by omega) (by omega)).2 (Nn (Nat.lt_of_le_of_lt Nat.and_le_left (by omega)) (by omega) fun i hi => ?_)⟩
    have := h5 i hi
    simp only [tb, Int.toNat_natCast] at this
    rw [Nat.testBit_and]
    cases h6 : a.testBit i
    · rfl
    · rw [this h6]; rfl
  · rintro ⟨h1, h2, h3, h4⟩
    obtain ⟨a, rfl⟩ : ∃ n : Nat, v = (n : Int) := ⟨v.toNat, by omega⟩
    obtain ⟨b, rfl⟩ : ∃ n : Nat, m = (n : Int) := ⟨m.toNat, by omega⟩
    have h5 := (Ju (a := a) (b := b) (by omega) (by omega)).1 h4
    have h6 : a &&& b ≤ b := Nat.and_le_right
    rw [h5] at h6
    refine ⟨⟨h1, h2⟩, ⟨h3, by omega⟩, fun i hi ha => ?_⟩
    simp only [tb, Int.toNat_natCast] at ha ⊢
    have := congrArg (fun x => Nat.testBit x i) h5
    simp only [Nat.testBit_and, ha, Bool.true_and] at this
    exact this
theorem JB (m : Mt) (hp : -1 ≤ m.1 ∧ m.1 ≤ 7) : decide (¬ ∃ f : Nat, f < 4 ∧ ¬ MS f (p4 m.2.1 f) (p4 m.2.2 f)) = decide (I1 m) :=
  decide_eq_decide.2 ⟨fun h => ⟨hp, fun f hf => Classical.byContradiction fun hn => h ⟨f, hf, hn⟩⟩, fun h ⟨f, hf, hn⟩ => hn (h.2 f hf)⟩
abbrev I4 (p : P4) : Prop := i64 p.1 ∧ i64 p.2.1 ∧ i64 p.2.2.1 ∧ i64 p.2.2.2
theorem MA {p : P4} (h : I4 p) {k : Nat} (hk : k < 4) : i64 (p4 p k) := by
  obtain ⟨h0, h1, h2, h3⟩ := h
  have : k = 0 ∨ k = 1 ∨ k = 2 ∨ k = 3 := by omega
  rcases this with rfl | rfl | rfl | rfl <;> assumption
theorem LI {m : Mt} (hv : I4 m.2.1) : Dh m = some (decide (I1 m)) := by
  unfold Dh
  by_cases hp : -1 ≤ m.1 ∧ m.1 ≤ 7
  · rw [if_neg (by simp; omega), DG 4 _ (fun f : Nat => ¬ MS f (p4 m.2.1 f) (p4 m.2.2 f)) false (fun k hk => by
      unfold CG
      rw [if_pos (by omega), Ks m.2.2 hk, Option.bind_some, JW, Option.bind_some, Ks m.2.1 hk, Option.bind_some, Option.bind_some, Cj (by omega)]
      have hi := Mf (m := p4 m.2.2 k) hk (MA hv hk).2
      by_cases c1 : p4 m.2.2 k < 0
      · rw [if_pos c1, if_pos (fun h => by have := (hi.1 h).1; omega)]; rfl
      · rw [if_neg c1]
        by_cases c2 : A0 (k : Int) < p4 m.2.2 k
        · rw [if_pos c2, if_pos (fun h => by have := (hi.1 h).2.1; omega)]; rfl
        · rw [if_neg c2]
          by_cases c3 : p4 m.2.1 k < 0
          · rw [if_pos c3, if_pos (fun h => by have := (hi.1 h).2.2.1; omega)]; rfl
          · rw [if_neg c3]
            by_cases c4 : Fk .i64 (p4 m.2.1 k) (p4 m.2.2 k) = 0
            · rw [decide_eq_false (by simpa using c4), if_neg (fun h => h (hi.2 ⟨by omega, by omega, by omega, c4⟩))]; rfl
            · rw [decide_eq_true c4, if_pos (fun h => c4 (hi.1 h).2.2.2)]; rfl) (by unfold CG; rw [if_neg (by decide)]), F0, JB m hp]
  · rw [if_pos (by simp; omega), decide_eq_false (fun h => hp h.1)]
theorem J3 (m : Mt) : FF m = some (decide (I1 m)) := by
  unfold FF
  by_cases hp : -1 ≤ m.1 ∧ m.1 ≤ 7
  · rw [if_neg (by simp; omega), DG 4 _ (fun f : Nat => ¬ MS f (p4 m.2.1 f) (p4 m.2.2 f)) false (fun k hk => by
      unfold ER
      have ht := ML hk
      rw [if_pos (by omega), Ks m.2.2 hk, Option.bind_some, Ks m.2.1 hk]
      simp only [Option.bind_some]
      by_cases c : (0 ≤ p4 m.2.2 k ∧ p4 m.2.2 k ≤ A0 (k : Int)) ∧ (0 ≤ p4 m.2.1 k ∧ p4 m.2.1 k ≤ A0 (k : Int))
      · obtain ⟨⟨h1, h2⟩, ⟨h3, h4⟩⟩ := c
        rw [if_neg (by omega), if_neg (by omega), if_neg (by omega), decide_eq_false (by omega)]
        simp only [Option.bind_some]
        rw [if_neg (by decide), DG 8 _ (fun i : Nat => ¬ (tb (p4 m.2.1 k) i = true → tb (p4 m.2.2 k) i = true)) (.inr (.inr false)) (fun i hi => by
          unfold EU
          rw [if_pos (by omega), Ks m.2.1 hk, Option.bind_some, Ip ⟨h3, by omega⟩ hi, Option.bind_some, Ks m.2.2 hk, Option.bind_some, Ip ⟨h1, by omega⟩ hi, Option.bind_some, Cj (by omega)]
          by_cases x : tb (p4 m.2.1 k) i = true <;> by_cases y : tb (p4 m.2.2 k) i = true <;> simp [x, y]) (by unfold EU; rw [if_neg (by decide)]), Cj (by omega)]
        by_cases hb : ∃ i : Nat, i < 8 ∧ ¬ (tb (p4 m.2.1 k) i = true → tb (p4 m.2.2 k) i = true)
        · rw [if_pos hb, if_pos (fun h => by obtain ⟨i, h5, h6⟩ := hb; exact h6 (h.2.2 i h5))]; rfl
        · rw [if_neg hb, if_neg (fun h => h ⟨⟨h1, h2⟩, ⟨h3, h4⟩, fun i hi => Classical.byContradiction fun hn => hb ⟨i, hi, hn⟩⟩)]; rfl
      · rw [if_pos (fun h => c ⟨h.1, h.2.1⟩)]
        have hb : (if p4 m.2.2 k < 0 then some true else if A0 (k : Int) < p4 m.2.2 k then some true else if p4 m.2.1 k < 0 then some true else some (decide (A0 (k : Int) < p4 m.2.1 k))) = some true := by
          by_cases c1 : p4 m.2.2 k < 0
          · rw [if_pos c1]
          · rw [if_neg c1]
            by_cases c2 : A0 (k : Int) < p4 m.2.2 k
            · rw [if_pos c2]
            · rw [if_neg c2]
              by_cases c3 : p4 m.2.1 k < 0
              · rw [if_pos c3]
              · rw [if_neg c3, decide_eq_true (by omega)]
        rw [hb]; rfl) (by unfold ER; rw [if_neg (by decide)]), F0, JB m hp]
  · rw [if_pos (by simp; omega), decide_eq_false (fun h => hp h.1)]
abbrev LS (m : Mt) (port : Int) (p : P4) : Prop := (m.1 = -1 ∨ m.1 = port) ∧ ∀ f : Nat, f < 4 → ∀ i : Nat, i < 8 → tb (p4 m.2.2 f) i = true → tb (p4 m.2.1 f) i = tb (p4 p f) i
theorem HP {m : Mt} (h : I1 m) {k : Nat} (hk : k < 4) : By (p4 m.2.1 k) ∧ By (p4 m.2.2 k) := KW hk (h.2 k hk)
abbrev MX (p : P4) : Prop := ∀ k, k < 4 → By (p4 p k)
theorem Mx {p : P4} (h : Nr p) : MX p := fun k hk => by
  obtain ⟨h0, h1, h2, h3⟩ := h
  have : k = 0 ∨ k = 1 ∨ k = 2 ∨ k = 3 := by omega
  rcases this with rfl | rfl | rfl | rfl
  · exact h0
  · exact h1
  · exact ⟨h2.1, by have := h2.2; show p.2.2.1 ≤ 255; omega⟩
  · exact h3
theorem ME {v m p : Int} (hv : By v) (hm : By m) (hp : By p) : (HU .i64 (I7 .i64 p v) m ≠ 0) ↔ ∃ i : Nat, i < 8 ∧ ¬ (tb m i = true → tb v i = tb p i) := by
  obtain ⟨v, rfl⟩ : ∃ n : Nat, v = (n : Int) := ⟨v.toNat, by have := hv.1; omega⟩
  obtain ⟨m, rfl⟩ : ∃ n : Nat, m = (n : Int) := ⟨m.toNat, by have := hm.1; omega⟩
  obtain ⟨p, rfl⟩ : ∃ n : Nat, p = (n : Int) := ⟨p.toNat, by have := hp.1; omega⟩
  have a1 := hv.2
  have a2 := hm.2
  have a3 := hp.2
  have l1 : p ^^^ v < 2 ^ 8 := Nat.xor_lt_two_pow (by omega) (by omega)
  have l2 : (p ^^^ v) &&& m < 2 ^ 8 := Nat.and_lt_two_pow _ (by omega)
  rw [Nf (by omega) (by omega), Nh l1 (by omega), Pw l2]
  constructor
  · rintro ⟨i, hi, h⟩
    refine ⟨i, hi, fun hn => ?_⟩
    simp only [Nat.testBit_and, Nat.testBit_xor, tb, Int.toNat_natCast] at h hn
    cases h1 : m.testBit i <;> cases h2 : v.testBit i <;> cases h3 : p.testBit i <;> simp_all
  · rintro ⟨i, hi, h⟩
    refine ⟨i, hi, ?_⟩
    simp only [Nat.testBit_and, Nat.testBit_xor, tb, Int.toNat_natCast] at h ⊢
    cases h1 : m.testBit i <;> cases h2 : v.testBit i <;> cases h3 : p.testBit i <;> simp_all
theorem Kt (a b : Int) : (decide (a ≠ (-1)) && decide (a ≠ b)) = decide (¬ (a = -1 ∨ a = b)) := by
  rw [← Bool.decide_and]; exact decide_eq_decide.2 ⟨fun h h2 => by omega, fun h => by omega⟩
theorem Ma {m : Mt} (h : I1 m) (port : Int) {p : P4} (hp : MX p) : DP m port p = some (decide (LS m port p)) := by
  unfold DP
  rw [Kt]
  by_cases hq : m.1 = -1 ∨ m.1 = port
  · rw [decide_eq_false (fun hn => hn hq), if_neg (by decide), DG 4 _ (fun f : Nat => ∃ i : Nat, i < 8 ∧ ¬ (tb (p4 m.2.2 f) i = true → tb (p4 m.2.1 f) i = tb (p4 p f) i)) false (fun k hk => by
      unfold C3
      rw [if_pos (by omega), Ks m.2.2 hk, Option.bind_some, Ks p hk, Option.bind_some, Ks m.2.1 hk, Option.bind_some, Cj (by omega)]
      have hi := ME (HP h hk).1 (HP h hk).2 (hp k hk)
      by_cases c : HU .i64 (I7 .i64 (p4 p k) (p4 m.2.1 k)) (p4 m.2.2 k) ≠ 0
      · rw [if_pos c, if_pos (hi.1 c)]
      · rw [if_neg c, if_neg (fun h2 => c (hi.2 h2))]; rfl) (by unfold C3; rw [if_neg (by decide)]), F0]
    congr 1
    exact decide_eq_decide.2 ⟨fun h2 => ⟨hq, fun f hf i hi => Classical.byContradiction fun hn => h2 ⟨f, hf, i, hi, hn⟩⟩, fun h2 ⟨f, hf, i, hi, hn⟩ => hn (h2.2 f hf i hi)⟩
  · rw [decide_eq_true hq, if_pos rfl, decide_eq_false (fun h2 => hq h2.1)]
theorem Lz {m : Mt} (h : I1 m) (port : Int) {p : P4} (hp : MX p) : Gl m port p = some (decide (LS m port p)) := by
  unfold Gl
  rw [Kt]
  by_cases hq : m.1 = -1 ∨ m.1 = port
  · rw [decide_eq_false (fun hn => hn hq), if_neg (by decide), DG 4 _ (fun f : Nat => ∃ i : Nat, i < 8 ∧ ¬ (tb (p4 m.2.2 f) i = true → tb (p4 m.2.1 f) i = tb (p4 p f) i)) false (fun k hk => by
      unfold Fj
      rw [if_pos (by omega), Cj (by omega), DG 8 _ (fun i : Nat => ¬ (tb (p4 m.2.2 k) i = true → tb (p4 m.2.1 k) i = tb (p4 p k) i)) (.inr (.inr false)) (fun i hi => by
        unfold Fi
        rw [if_pos (by omega), Ks m.2.2 hk, Option.bind_some, Ip (HP h hk).2 hi, Option.bind_some, Ks m.2.1 hk, Option.bind_some, Ip (HP h hk).1 hi, Option.bind_some, Ks p hk, Option.bind_some, Ip (hp k hk) hi, Option.bind_some, Cj (by omega)]
        by_cases x : tb (p4 m.2.2 k) i = true <;> by_cases y : tb (p4 m.2.1 k) i = true <;> by_cases z : tb (p4 p k) i = true <;> simp [x, y, z]) (by unfold Fi; rw [if_neg (by decide)])]
      by_cases c : ∃ i : Nat, i < 8 ∧ ¬ (tb (p4 m.2.2 k) i = true → tb (p4 m.2.1 k) i = tb (p4 p k) i)
      · rw [if_pos c, if_pos c]; rfl
      · rw [if_neg c, if_neg c]; rfl) (by unfold Fj; rw [if_neg (by decide)]), F0]
    congr 1
    exact decide_eq_decide.2 ⟨fun h2 => ⟨hq, fun f hf i hi => Classical.byContradiction fun hn => h2 ⟨f, hf, i, hi, hn⟩⟩, fun h2 ⟨f, hf, i, hi, hn⟩ => hn (h2.2 f hf i hi)⟩
  · rw [decide_eq_true hq, if_pos rfl, decide_eq_false (fun h2 => hq h2.1)]
end Go.Proofs.Ytkjjioigbpkifaa
