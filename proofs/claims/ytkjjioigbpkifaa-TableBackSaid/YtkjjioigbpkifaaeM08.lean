/- Layer 11: packets, matches. Conditions: none. -/
import Derived.Test.YtkjjioigbpkifaaeLP
import Derived.Test.YtkjjioigbpkifaaeOA
import Derived.Test.YtkjjioigbpkifaaeA10
namespace Go.Proofs.Ytkjjioigbpkifaa
set_option linter.unusedVariables false
set_option linter.unusedSimpArgs false
set_option synthInstance.maxSize 1000
open Go Go.RowKit
abbrev P4 := Int × Int × Int × Int
abbrev i64 (n : Int) : Prop := -9223372036854775808 ≤ n ∧ n ≤ 9223372036854775807
theorem Ju {α β : Type} (t : α) (k : α → Option β) : Fp (some (Sum.inl t)) k = k t := rfl
theorem Lu (f : Int) : ((f = 0 ∨ f = 1 ∨ f = 3) ∧ A8 f = 255) ∨ (f = 2 ∧ A8 f = 15) ∨ ((f < 0 ∨ 3 < f) ∧ A8 f = 0) := by
  unfold A8
  by_cases h2 : f = 2
  · exact .inr (.inl ⟨h2, if_pos h2⟩)
  · rw [if_neg h2]
    by_cases h : f = 0 ∨ f = 1 ∨ f = 3
    · exact .inl ⟨h, if_pos (by simpa using h)⟩
    · exact .inr (.inr ⟨by omega, if_neg (by simpa using h)⟩)
def Iy (f : Int) : Int := if f = 0 ∨ f = 1 ∨ f = 3 then 8 else if f = 2 then 4 else 0
theorem MH (f : Int) : Dv f = some (Iy f) := by
  unfold Dv Iy
  by_cases h0 : f = 0
  · subst h0; rfl
  · rw [if_neg h0]
    by_cases h1 : f = 1
    · subst h1; rfl
    · rw [if_neg h1]
      by_cases h3 : f = 3
      · subst h3; rfl
      · rw [decide_eq_false h3]
        by_cases h2 : f = 2
        · subst h2; rfl
        · simp [h0, h1, h2, h3]
theorem Kk (f : Int) : CD f = some (A8 f) := by
  unfold CD
  rw [MH]
  rcases Lu f with ⟨h, e⟩ | ⟨h, e⟩ | ⟨h, e⟩
  · rw [e, show Iy f = 8 from if_pos h]; rfl
  · rw [e, show Iy f = 4 by unfold Iy; rw [if_neg (by omega), if_pos h]]; rfl
  · rw [e, show Iy f = 0 by unfold Iy; rw [if_neg (by omega), if_neg (by omega)]]; rfl
abbrev NC (f v : Int) : Prop := 0 ≤ v ∧ v ≤ A8 f
theorem MD (f v : Int) : Dp f v = some (decide (NC f v)) := by
  unfold Dp
  by_cases h : 0 ≤ v
  · rw [if_pos h, Kk, Option.bind_some, Option.bind_some]
    congr 1
    exact decide_eq_decide.2 ⟨fun h2 => ⟨h, h2⟩, fun h2 => h2.2⟩
  · rw [if_neg h, decide_eq_false (fun h2 => h h2.1)]; rfl
abbrev p4 (p : P4) (k : Nat) : Int := match k with | 0 => p.1 | 1 => p.2.1 | 2 => p.2.2.1 | _ => p.2.2.2
theorem JA (p : P4) {k : Nat} (h : k < 4) : ix ([p.1, p.2.1, p.2.2.1, p.2.2.2] : List Int) (k : Int) = some (p4 p k) := by
  have : k = 0 ∨ k = 1 ∨ k = 2 ∨ k = 3 := by omega
  rcases this with rfl | rfl | rfl | rfl <;> rfl
abbrev N0 (p : P4) : Prop := (0 ≤ p.1 ∧ p.1 ≤ 255) ∧ (0 ≤ p.2.1 ∧ p.2.1 ≤ 255) ∧ (0 ≤ p.2.2.1 ∧ p.2.2.1 ≤ 15) ∧ (0 ≤ p.2.2.2 ∧ p.2.2.2 ≤ 255)
theorem KW (p : P4) : N0 p ↔ ¬ ∃ k : Nat, k < 4 ∧ ¬ NC (k : Int) (p4 p k) := by
  constructor
  · rintro ⟨h0, h1, h2, h3⟩ ⟨k, hk, hn⟩
    have : k = 0 ∨ k = 1 ∨ k = 2 ∨ k = 3 := by omega
    rcases this with rfl | rfl | rfl | rfl
    · exact hn h0
    · exact hn h1
    · exact hn h2
    · exact hn h3
  · intro h
    have g : ∀ k : Nat, k < 4 → NC (k : Int) (p4 p k) := fun k hk => Classical.byContradiction fun hn => h ⟨k, hk, hn⟩
    exact ⟨g 0 (by decide), g 1 (by decide), g 2 (by decide), g 3 (by decide)⟩
abbrev L7 (p : P4) (f v : Int) : P4 := ((if f = 0 then v else p.1), (if f = 1 then v else p.2.1), (if f = 2 then v else p.2.2.1), (if f = 3 then v else p.2.2.2))
def Kb (p : P4) (f v : Int) : P4 := if 0 ≤ f ∧ f < 4 ∧ NC f v then L7 p f v else p
theorem ix4' (p : P4) {f : Int} (h : 0 ≤ f ∧ f < 4) : ∃ x, ix ([p.1, p.2.1, p.2.2.1, p.2.2.2] : List Int) f = some x ∧ x = p4 p f.toNat := by
  have := JA p (k := f.toNat) (by omega)
  rw [show ((f.toNat : Nat) : Int) = f by omega] at this
  exact ⟨_, this, rfl⟩
theorem MS (p : P4) (f v : Int) : DB p f v = some (Kb p f v) := by
  unfold DB Kb
  by_cases hk : 0 ≤ f ∧ f < 4
  · obtain ⟨x, hx, _⟩ := ix4' p hk
    rw [if_pos (by simpa [CI] using hk), MD, Option.bind_some, Option.bind_some]
    by_cases hf : NC f v
    · rw [decide_eq_true hf, if_pos (show true = true from rfl), hx]
      show some (L7 p f v) = _
      rw [if_pos ⟨hk.1, hk.2, hf⟩]
    · rw [decide_eq_false hf, if_neg (show ¬ false = true by decide)]
      show some p = _
      rw [if_neg (fun h => hf h.2.2)]
  · rw [if_neg (by simpa [CI] using hk), Option.bind_some, if_neg (show ¬ false = true by decide)]
    show some p = _
    rw [if_neg (fun h => hk ⟨h.1, h.2.1⟩)]
theorem LQ (p : P4) (f v : Int) : Gi p f v = some (Kb p f v) := by
  unfold Gi Kb
  by_cases h : 0 ≤ f ∧ f < 4 ∧ NC f v
  · obtain ⟨x, hx, _⟩ := ix4' p ⟨h.1, h.2.1⟩
    rw [if_pos (by simpa using h), hx]
    show some (L7 p f v) = _
    rw [if_pos h]
  · rw [if_neg (by simpa using h)]
    show some p = _
    rw [if_neg h]
theorem Kl (p : P4) : FG p = some (decide (N0 p)) := by
  unfold FG
  rw [Ig 4 _ (fun k => ¬ NC (k : Int) (p4 p k)) false (fun k hk => by
    unfold E1
    rw [if_pos (by omega), JA p hk]
    simp only [Option.bind_some]
    rw [BW (by omega)]
    by_cases c : p4 p k < 0
    · rw [if_pos c, if_pos (fun h => by have := h.1; omega)]; rfl
    · rw [if_neg c]
      by_cases c2 : A8 (k : Int) < p4 p k
      · rw [decide_eq_true c2, if_pos (fun h => by have := h.2; omega)]; rfl
      · rw [decide_eq_false c2, if_neg (fun h => h ⟨by omega, by omega⟩)]; rfl) (by unfold E1; rw [if_neg (by decide)])]
  unfold Fp
  by_cases h : N0 p
  · rw [if_neg ((KW p).1 h), decide_eq_true h]; rfl
  · rw [if_pos (Classical.byContradiction fun h2 => h ((KW p).2 h2)), decide_eq_false h]; rfl
theorem MW {a : Nat} (h : a < 9223372036854775808) : (BitVec.ofInt 64 (a : Int)).toNat = a := by rw [BitVec.toNat_ofInt]; omega
theorem LK {a b : Nat} (ha : a < 256) (hb : b < 256) : GT .i64 (a : Int) (b : Int) = ((a &&& b : Nat) : Int) := by
  have hl : a &&& b < 2 ^ 8 := Nat.and_lt_two_pow a hb
  show CA ((BitVec.ofInt 64 (a : Int) &&& BitVec.ofInt 64 (b : Int)).toNat : Int) = _
  rw [BitVec.toNat_and, MW (by omega), MW (by omega)]; exact BW (by omega)
theorem OM {a b : Nat} (ha : a < 256) (hb : b < 256) : E4 .i64 (a : Int) (b : Int) = ((a ||| b : Nat) : Int) := by
  have hl : a ||| b < 2 ^ 8 := Nat.or_lt_two_pow ha hb
  show CA ((BitVec.ofInt 64 (a : Int) ||| BitVec.ofInt 64 (b : Int)).toNat : Int) = _
  rw [BitVec.toNat_or, MW (by omega), MW (by omega)]; exact BW (by omega)
theorem Na {a b : Nat} (ha : a < 256) (hb : b < 256) : Iu .i64 (a : Int) (b : Int) = ((a ^^^ b : Nat) : Int) := by
  have hl : a ^^^ b < 2 ^ 8 := Nat.xor_lt_two_pow ha hb
  show CA ((BitVec.ofInt 64 (a : Int) ^^^ BitVec.ofInt 64 (b : Int)).toNat : Int) = _
  rw [BitVec.toNat_xor, MW (by omega), MW (by omega)]; exact BW (by omega)
theorem Nh {x y : Nat} (hx : x < 256) (hy : y < 256) (h : ∀ i : Nat, i < 8 → x.testBit i = y.testBit i) : x = y := by
  refine Nat.eq_of_testBit_eq fun i => ?_
  by_cases hi : i < 8
  · exact h i hi
  · have hp : 2 ^ 8 ≤ 2 ^ i := Nat.pow_le_pow_right (by decide) (by omega)
    rw [Nat.testBit_lt_two_pow (Nat.lt_of_lt_of_le hx hp), Nat.testBit_lt_two_pow (Nat.lt_of_lt_of_le hy hp)]
theorem O7 {x : Nat} (hx : x < 256) : ((x : Int) ≠ 0) ↔ ∃ i : Nat, i < 8 ∧ x.testBit i = true := by
  constructor
  · intro h
    refine Classical.byContradiction fun hn => h ?_
    have : x = 0 := Nh hx (by decide) fun i hi => by
      cases hb : x.testBit i
      · simp
      · exact absurd ⟨i, hi, hb⟩ hn
    rw [this]; rfl
  · rintro ⟨i, hi, hb⟩ h
    have : x = 0 := by omega
    rw [this] at hb; simp at hb
theorem J9 {a b : Nat} (ha : a < 9223372036854775808) (hb : b < 256) : Ft .i64 (a : Int) (b : Int) = 0 ↔ a &&& b = a := by
  have e : Ft .i64 (a : Int) (b : Int) = ((BitVec.ofInt 64 (a : Int) &&& ~~~ BitVec.ofInt 64 (b : Int)).toNat : Int) := by
    show CA ((BitVec.ofInt 64 (a : Int) &&& ~~~ BitVec.ofInt 64 (b : Int)).toNat : Int) = _
    have hl : (BitVec.ofInt 64 (a : Int) &&& ~~~ BitVec.ofInt 64 (b : Int)).toNat ≤ a := by
      rw [BitVec.toNat_and, MW ha]; exact Nat.and_le_left
    generalize (BitVec.ofInt 64 (a : Int) &&& ~~~ BitVec.ofInt 64 (b : Int)).toNat = z at hl
    exact BW (by omega)
  rw [e]
  have ga : ∀ i, (BitVec.ofInt 64 (a : Int)).getLsbD i = a.testBit i := fun i => by unfold BitVec.getLsbD; rw [MW ha]
  have gb : ∀ i, (BitVec.ofInt 64 (b : Int)).getLsbD i = b.testBit i := fun i => by unfold BitVec.getLsbD; rw [MW (by omega)]
  have ha64 : ∀ i, 64 ≤ i → a.testBit i = false := fun i hi => Nat.testBit_lt_two_pow (Nat.lt_of_lt_of_le (show a < 2 ^ 64 by omega) (Nat.pow_le_pow_right (by decide) hi))
  constructor
  · intro h
    have hz : (BitVec.ofInt 64 (a : Int) &&& ~~~ BitVec.ofInt 64 (b : Int)) = 0#64 := BitVec.eq_of_toNat_eq (by simpa using (Int.ofNat.inj h))
    refine Nat.eq_of_testBit_eq fun i => ?_
    rw [Nat.testBit_and]
    by_cases hi : i < 64
    · have := congrArg (fun v => v.getLsbD i) hz
      simp only [BitVec.getLsbD_and, BitVec.getLsbD_not, ga, gb, hi, decide_true, Bool.true_and, BitVec.getLsbD_zero] at this
      cases h1 : a.testBit i <;> cases h2 : b.testBit i <;> simp_all
    · rw [ha64 i (by omega)]; rfl
  · intro h
    have hz : (BitVec.ofInt 64 (a : Int) &&& ~~~ BitVec.ofInt 64 (b : Int)) = 0#64 := by
      refine BitVec.eq_of_getLsbD_eq fun i hi => ?_
      have h2 := congrArg (fun v => Nat.testBit v i) h
      simp only [Nat.testBit_and] at h2
      simp only [BitVec.getLsbD_and, BitVec.getLsbD_not, ga, gb, hi, decide_true, Bool.true_and, BitVec.getLsbD_zero]
      cases h1 : a.testBit i <;> cases h3 : b.testBit i <;> simp_all
    rw [hz]; rfl
abbrev tb (x : Int) (i : Nat) : Bool := x.toNat.testBit i
abbrev By (x : Int) : Prop := 0 ≤ x ∧ x ≤ 255
theorem LF (a : Nat) (ha : a ≤ 7) : ∀ (d j x : Nat), j + d = a → x ≤ 255 → Bk (Fd (a : Int)) ((x : Int), (j : Int)) = some ((x / 2 ^ d : Nat) : Int) := by
  intro d
  induction d with
  | zero =>
    intro j x hj hx
    rw [CR (by rw [Fd, if_neg (by omega)])]
    simp
  | succ d ih =>
    intro j x hj hx
    rw [Cv (s' := (((x / 2 : Nat) : Int), ((j + 1 : Nat) : Int))) (by
      rw [Fd, if_pos (by omega), show Int.tdiv (x : Int) 2 = ((x / 2 : Nat) : Int) from rfl, BW (by omega), BW (by omega)]; rfl)]
    rw [ih (j + 1) (x / 2) (by omega) (by omega), Nat.div_div_eq_div_mul, Nat.pow_succ, Nat.mul_comm]
theorem Iw {x : Int} {a : Nat} (hx : By x) (ha : a < 8) : E0 x (a : Int) = some (if tb x a then 1 else 0) := by
  obtain ⟨n, rfl⟩ : ∃ n : Nat, x = (n : Int) := ⟨x.toNat, by have := hx.1; omega⟩
  have h1 := hx.2
  unfold E0 tb
  rw [show ((n : Int), (0 : Int)) = ((n : Int), ((0 : Nat) : Int)) from rfl, LF a (by omega) a 0 n (by omega) (by omega), Option.bind_some, Int.toNat_natCast]
  have e := Nat.toNat_testBit n a
  show some (((n / 2 ^ a % 2 : Nat)) : Int) = _
  rw [← e]
  cases n.testBit a <;> rfl
theorem DP {ε : Type} (n : Nat) (step : Int → Option (Int ⊕ (Unit ⊕ ε))) (q : Nat → Prop) [DecidablePred q] (e : ε)
    (hs : ∀ k, k < n → step (k : Int) = some (if q k then .inr (.inr e) else .inl ((k + 1 : Nat) : Int))) (he : step (n : Int) = some (.inr (.inl ()))) :
    Bk step 0 = some (if ∃ k : Nat, k < n ∧ q k then .inr e else .inl ()) := by
  by_cases h : ∃ k : Nat, k < n ∧ q k
  · rw [if_pos h]
    have key : ∀ (d k : Nat), k + d = n → (∃ j, k ≤ j ∧ j < n ∧ q j) → Bk step (k : Int) = some (.inr e) := by
      intro d
      induction d with
      | zero => rintro k hk ⟨j, h1, h2, h3⟩; omega
      | succ d ih =>
        rintro k hk ⟨j, h1, h2, h3⟩
        have hs' := hs k (by omega)
        by_cases hq : q k
        · rw [if_pos hq] at hs'; exact CR hs'
        · rw [if_neg hq] at hs'
          rw [Cv hs']
          exact ih (k + 1) (by omega) ⟨j, by
            have : k ≠ j := fun e => hq (e ▸ h3)
            omega, h2, h3⟩
    obtain ⟨k, h1, h2⟩ := h
    exact key n 0 (by omega) ⟨k, by omega, h1, h2⟩
  · rw [if_neg h]
    have key : ∀ (d k : Nat), k + d = n → Bk step (k : Int) = some (.inl ()) := by
      intro d
      induction d with
      | zero =>
        intro k hk
        obtain rfl : k = n := by omega
        exact CR he
      | succ d ih =>
        intro k hk
        have hs' := hs k (by omega)
        rw [if_neg (fun hq => h ⟨k, by omega, hq⟩)] at hs'
        rw [Cv hs']
        exact ih (k + 1) (by omega)
    exact key n 0 (by omega)
theorem FW {E : Prop} [Decidable E] : Fp (some (if E then (.inr false : Unit ⊕ Bool) else .inl ())) (fun _ => some true) = some (decide (¬ E)) := by
  by_cases h : E
  · rw [if_pos h, decide_eq_false (fun hn => hn h)]; rfl
  · rw [if_neg h, decide_eq_true h]; rfl
abbrev Mt := Int × P4 × P4
abbrev NS (f : Nat) (v m : Int) : Prop := (0 ≤ m ∧ m ≤ A8 (f : Int)) ∧ (0 ≤ v ∧ v ≤ A8 (f : Int)) ∧ ∀ i : Nat, i < 8 → tb v i = true → tb m i = true
abbrev FI (m : Mt) : Prop := (-1 ≤ m.1 ∧ m.1 ≤ 7) ∧ ∀ f : Nat, f < 4 → NS f (p4 m.2.1 f) (p4 m.2.2 f)
theorem MB {f : Nat} (h : f < 4) : A8 (f : Int) = 255 ∨ A8 (f : Int) = 15 := by
  have : f = 0 ∨ f = 1 ∨ f = 2 ∨ f = 3 := by omega
  rcases this with rfl | rfl | rfl | rfl
  · exact .inl rfl
  · exact .inl rfl
  · exact .inr rfl
  · exact .inl rfl
theorem Ma {f : Nat} {v m : Int} (hf : f < 4) (h : NS f v m) : By v ∧ By m := by
  have := MB hf
  obtain ⟨h1, h2, _⟩ := h
  exact ⟨⟨h2.1, by omega⟩, ⟨h1.1, by omega⟩⟩
theorem MR {f : Nat} {v m : Int} (hf : f < 4) (hv : v ≤ 9223372036854775807) : NS f v m ↔ (0 ≤ m ∧ m ≤ A8 (f : Int) ∧ 0 ≤ v ∧ Ft .i64 v m = 0) := by
  have ht := MB hf
  constructor
  · intro h
    obtain ⟨⟨b1, b2⟩, ⟨b3, b4⟩⟩ := Ma hf h
    obtain ⟨⟨h1, h2⟩, ⟨h3, h4⟩, h5⟩ := h
    obtain ⟨a, rfl⟩ : ∃ n : Nat, v = (n : Int) := ⟨v.toNat, by omega⟩
    obtain ⟨b, rfl⟩ : ∃ n : Nat, m = (n : Int) := ⟨m.toNat, by omega⟩
    refine ⟨h1, h2, h3, (J9 (by omega) (by omega)).2 (Nh (Nat.lt_of_le_of_lt Nat.and_le_left (by omega)) (by omega) fun i hi => ?_)⟩
    have := h5 i hi
    simp only [tb, Int.toNat_natCast] at this
    rw [Nat.testBit_and]
    cases h6 : a.testBit i
    · rfl
    · rw [this h6]; rfl
  · rintro ⟨h1, h2, h3, h4⟩
    obtain ⟨a, rfl⟩ : ∃ n : Nat, v = (n : Int) := ⟨v.toNat, by omega⟩
    obtain ⟨b, rfl⟩ : ∃ n : Nat, m = (n : Int) := ⟨m.toNat, by omega⟩
    have h5 := (J9 (a := a) (b := b) (by omega) (by omega)).1 h4
    have h6 : a &&& b ≤ b := Nat.and_le_right
    rw [h5] at h6
    refine ⟨⟨h1, h2⟩, ⟨h3, by omega⟩, fun i hi ha => ?_⟩
    simp only [tb, Int.toNat_natCast] at ha ⊢
    have := congrArg (fun x => Nat.testBit x i) h5
    simp only [Nat.testBit_and, ha, Bool.true_and] at this
    exact this
theorem JT (m : Mt) (hp : -1 ≤ m.1 ∧ m.1 ≤ 7) : decide (¬ ∃ f : Nat, f < 4 ∧ ¬ NS f (p4 m.2.1 f) (p4 m.2.2 f)) = decide (FI m) :=
  decide_eq_decide.2 ⟨fun h => ⟨hp, fun f hf => Classical.byContradiction fun hn => h ⟨f, hf, hn⟩⟩, fun h ⟨f, hf, hn⟩ => hn (h.2 f hf)⟩
abbrev I4 (p : P4) : Prop := i64 p.1 ∧ i64 p.2.1 ∧ i64 p.2.2.1 ∧ i64 p.2.2.2
theorem ND {p : P4} (h : I4 p) {k : Nat} (hk : k < 4) : i64 (p4 p k) := by
  obtain ⟨h0, h1, h2, h3⟩ := h
  have : k = 0 ∨ k = 1 ∨ k = 2 ∨ k = 3 := by omega
  rcases this with rfl | rfl | rfl | rfl <;> assumption
theorem LM {m : Mt} (hv : I4 m.2.1) : Dx m = some (decide (FI m)) := by
  unfold Dx
  by_cases hp : -1 ≤ m.1 ∧ m.1 ≤ 7
  · rw [if_neg (by simp; omega), DP 4 _ (fun f : Nat => ¬ NS f (p4 m.2.1 f) (p4 m.2.2 f)) false (fun k hk => by
      unfold CU
      rw [if_pos (by omega), JA m.2.2 hk, Option.bind_some, Kk, Option.bind_some, JA m.2.1 hk, Option.bind_some, Option.bind_some, BW (by omega)]
      have hi := MR (m := p4 m.2.2 k) hk (ND hv hk).2
      by_cases c1 : p4 m.2.2 k < 0
      · rw [if_pos c1, if_pos (fun h => by have := (hi.1 h).1; omega)]; rfl
      · rw [if_neg c1]
        by_cases c2 : A8 (k : Int) < p4 m.2.2 k
        · rw [if_pos c2, if_pos (fun h => by have := (hi.1 h).2.1; omega)]; rfl
        · rw [if_neg c2]
          by_cases c3 : p4 m.2.1 k < 0
          · rw [if_pos c3, if_pos (fun h => by have := (hi.1 h).2.2.1; omega)]; rfl
          · rw [if_neg c3]
            by_cases c4 : Ft .i64 (p4 m.2.1 k) (p4 m.2.2 k) = 0
            · rw [decide_eq_false (by simpa using c4), if_neg (fun h => h (hi.2 ⟨by omega, by omega, by omega, c4⟩))]; rfl
            · rw [decide_eq_true c4, if_pos (fun h => c4 (hi.1 h).2.2.2)]; rfl) (by unfold CU; rw [if_neg (by decide)]), FW, JT m hp]
  · rw [if_pos (by simp; omega), decide_eq_false (fun h => hp h.1)]
theorem Kf (m : Mt) : FR m = some (decide (FI m)) := by
  unfold FR
  by_cases hp : -1 ≤ m.1 ∧ m.1 ≤ 7
  · rw [if_neg (by simp; omega), DP 4 _ (fun f : Nat => ¬ NS f (p4 m.2.1 f) (p4 m.2.2 f)) false (fun k hk => by
      unfold EW
      have ht := MB hk
      rw [if_pos (by omega), JA m.2.2 hk, Option.bind_some, JA m.2.1 hk]
      simp only [Option.bind_some]
      by_cases c : (0 ≤ p4 m.2.2 k ∧ p4 m.2.2 k ≤ A8 (k : Int)) ∧ (0 ≤ p4 m.2.1 k ∧ p4 m.2.1 k ≤ A8 (k : Int))
      · obtain ⟨⟨h1, h2⟩, ⟨h3, h4⟩⟩ := c
        rw [if_neg (by omega), if_neg (by omega), if_neg (by omega), decide_eq_false (by omega)]
        simp only [Option.bind_some]
        rw [if_neg (by decide), DP 8 _ (fun i : Nat => ¬ (tb (p4 m.2.1 k) i = true → tb (p4 m.2.2 k) i = true)) (.inr (.inr false)) (fun i hi => by
          unfold EU
          rw [if_pos (by omega), JA m.2.1 hk, Option.bind_some, Iw ⟨h3, by omega⟩ hi, Option.bind_some, JA m.2.2 hk, Option.bind_some, Iw ⟨h1, by omega⟩ hi, Option.bind_some, BW (by omega)]
          by_cases x : tb (p4 m.2.1 k) i = true <;> by_cases y : tb (p4 m.2.2 k) i = true <;> simp [x, y]) (by unfold EU; rw [if_neg (by decide)]), BW (by omega)]
        by_cases hb : ∃ i : Nat, i < 8 ∧ ¬ (tb (p4 m.2.1 k) i = true → tb (p4 m.2.2 k) i = true)
        · rw [if_pos hb, if_pos (fun h => by obtain ⟨i, h5, h6⟩ := hb; exact h6 (h.2.2 i h5))]; rfl
        · rw [if_neg hb, if_neg (fun h => h ⟨⟨h1, h2⟩, ⟨h3, h4⟩, fun i hi => Classical.byContradiction fun hn => hb ⟨i, hi, hn⟩⟩)]; rfl
      · rw [if_pos (fun h => c ⟨h.1, h.2.1⟩)]
        have hb : (if p4 m.2.2 k < 0 then some true else if A8 (k : Int) < p4 m.2.2 k then some true else if p4 m.2.1 k < 0 then some true else some (decide (A8 (k : Int) < p4 m.2.1 k))) = some true := by
          by_cases c1 : p4 m.2.2 k < 0
          · rw [if_pos c1]
          · rw [if_neg c1]
            by_cases c2 : A8 (k : Int) < p4 m.2.2 k
            · rw [if_pos c2]
            · rw [if_neg c2]
              by_cases c3 : p4 m.2.1 k < 0
              · rw [if_pos c3]
              · rw [if_neg c3, decide_eq_true (by omega)]
        rw [hb]; rfl) (by unfold EW; rw [if_neg (by decide)]), FW, JT m hp]
  · rw [if_pos (by simp; omega), decide_eq_false (fun h => hp h.1)]
abbrev LJ (m : Mt) (port : Int) (p : P4) : Prop := (m.1 = -1 ∨ m.1 = port) ∧ ∀ f : Nat, f < 4 → ∀ i : Nat, i < 8 → tb (p4 m.2.2 f) i = true → tb (p4 m.2.1 f) i = tb (p4 p f) i
theorem Eb {m : Mt} (h : FI m) {k : Nat} (hk : k < 4) : By (p4 m.2.1 k) ∧ By (p4 m.2.2 k) := Ma hk (h.2 k hk)
abbrev NP (p : P4) : Prop := ∀ k, k < 4 → By (p4 p k)
theorem NM {p : P4} (h : N0 p) : NP p := fun k hk => by
  obtain ⟨h0, h1, h2, h3⟩ := h
  have : k = 0 ∨ k = 1 ∨ k = 2 ∨ k = 3 := by omega
  rcases this with rfl | rfl | rfl | rfl
  · exact h0
  · exact h1
  · exact ⟨h2.1, by have := h2.2; show p.2.2.1 ≤ 255; omega⟩
  · exact h3
theorem Nt {v m p : Int} (hv : By v) (hm : By m) (hp : By p) : (GT .i64 (Iu .i64 p v) m ≠ 0) ↔ ∃ i : Nat, i < 8 ∧ ¬ (tb m i = true → tb v i = tb p i) := by
  obtain ⟨v, rfl⟩ : ∃ n : Nat, v = (n : Int) := ⟨v.toNat, by have := hv.1; omega⟩
  obtain ⟨m, rfl⟩ : ∃ n : Nat, m = (n : Int) := ⟨m.toNat, by have := hm.1; omega⟩
  obtain ⟨p, rfl⟩ : ∃ n : Nat, p = (n : Int) := ⟨p.toNat, by have := hp.1; omega⟩
  have a1 := hv.2
  have a2 := hm.2
  have a3 := hp.2
  have l1 : p ^^^ v < 2 ^ 8 := Nat.xor_lt_two_pow (by omega) (by omega)
  have l2 : (p ^^^ v) &&& m < 2 ^ 8 := Nat.and_lt_two_pow _ (by omega)
  rw [Na (by omega) (by omega), LK l1 (by omega), O7 l2]
  constructor
  · rintro ⟨i, hi, h⟩
    refine ⟨i, hi, fun hn => ?_⟩
    simp only [Nat.testBit_and, Nat.testBit_xor, tb, Int.toNat_natCast] at h hn
    cases h1 : m.testBit i <;> cases h2 : v.testBit i <;> cases h3 : p.testBit i <;> simp_all
  · rintro ⟨i, hi, h⟩
    refine ⟨i, hi, ?_⟩
    simp only [Nat.testBit_and, Nat.testBit_xor, tb, Int.toNat_natCast] at h ⊢
    cases h1 : m.testBit i <;> cases h2 : v.testBit i <;> cases h3 : p.testBit i <;> simp_all
theorem Ky (a b : Int) : (decide (a ≠ (-1)) && decide (a ≠ b)) = decide (¬ (a = -1 ∨ a = b)) := by
  rw [← Bool.decide_and]; exact decide_eq_decide.2 ⟨fun h h2 => by omega, fun h => by omega⟩
theorem KP {m : Mt} (h : FI m) (port : Int) {p : P4} (hp : NP p) : Dw m port p = some (decide (LJ m port p)) := by
  unfold Dw
  rw [Ky]
  by_cases hq : m.1 = -1 ∨ m.1 = port
  · rw [decide_eq_false (fun hn => hn hq), if_neg (by decide), DP 4 _ (fun f : Nat => ∃ i : Nat, i < 8 ∧ ¬ (tb (p4 m.2.2 f) i = true → tb (p4 m.2.1 f) i = tb (p4 p f) i)) false (fun k hk => by
      unfold Dd
      rw [if_pos (by omega), JA m.2.2 hk, Option.bind_some, JA p hk, Option.bind_some, JA m.2.1 hk, Option.bind_some, BW (by omega)]
      have hi := Nt (Eb h hk).1 (Eb h hk).2 (hp k hk)
      by_cases c : GT .i64 (Iu .i64 (p4 p k) (p4 m.2.1 k)) (p4 m.2.2 k) ≠ 0
      · rw [if_pos c, if_pos (hi.1 c)]
      · rw [if_neg c, if_neg (fun h2 => c (hi.2 h2))]; rfl) (by unfold Dd; rw [if_neg (by decide)]), FW]
    congr 1
    exact decide_eq_decide.2 ⟨fun h2 => ⟨hq, fun f hf i hi => Classical.byContradiction fun hn => h2 ⟨f, hf, i, hi, hn⟩⟩, fun h2 ⟨f, hf, i, hi, hn⟩ => hn (h2.2 f hf i hi)⟩
  · rw [decide_eq_true hq, if_pos rfl, decide_eq_false (fun h2 => hq h2.1)]
theorem Mi {m : Mt} (h : FI m) (port : Int) {p : P4} (hp : NP p) : Gt m port p = some (decide (LJ m port p)) := by
  unfold Gt
  rw [Ky]
  by_cases hq : m.1 = -1 ∨ m.1 = port
  · rw [decide_eq_false (fun hn => hn hq), if_neg (by decide), DP 4 _ (fun f : Nat => ∃ i : Nat, i < 8 ∧ ¬ (tb (p4 m.2.2 f) i = true → tb (p4 m.2.1 f) i = tb (p4 p f) i)) false (fun k hk => by
      unfold Fs
      rw [if_pos (by omega), BW (by omega), DP 8 _ (fun i : Nat => ¬ (tb (p4 m.2.2 k) i = true → tb (p4 m.2.1 k) i = tb (p4 p k) i)) (.inr (.inr false)) (fun i hi => by
        unfold Fq
        rw [if_pos (by omega), JA m.2.2 hk, Option.bind_some, Iw (Eb h hk).2 hi, Option.bind_some, JA m.2.1 hk, Option.bind_some, Iw (Eb h hk).1 hi, Option.bind_some, JA p hk, Option.bind_some, Iw (hp k hk) hi, Option.bind_some, BW (by omega)]
        by_cases x : tb (p4 m.2.2 k) i = true <;> by_cases y : tb (p4 m.2.1 k) i = true <;> by_cases z : tb (p4 p k) i = true <;> simp [x, y, z]) (by unfold Fq; rw [if_neg (by decide)])]
      by_cases c : ∃ i : Nat, i < 8 ∧ ¬ (tb (p4 m.2.2 k) i = true → tb (p4 m.2.1 k) i = tb (p4 p k) i)
      · rw [if_pos c, if_pos c]; rfl
      · rw [if_neg c, if_neg c]; rfl) (by unfold Fs; rw [if_neg (by decide)]), FW]
    congr 1
    exact decide_eq_decide.2 ⟨fun h2 => ⟨hq, fun f hf i hi => Classical.byContradiction fun hn => h2 ⟨f, hf, i, hi, hn⟩⟩, fun h2 ⟨f, hf, i, hi, hn⟩ => hn (h2.2 f hf i hi)⟩
  · rw [decide_eq_true hq, if_pos rfl, decide_eq_false (fun h2 => hq h2.1)]
end Go.Proofs.Ytkjjioigbpkifaa
