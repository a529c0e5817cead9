/- Layer 19: numbers. Conditions: none. -/
import Derived.Test.YtieebnllkjmjiaabLP
import Derived.Test.YtieebnllkjmjiaabMR
import Derived.Test.YtieebnllkjmjiaabRF
import Derived.Test.YtieebnllkjmjiaabM19D
namespace Go.Proofs.Ytieebnllkjmjiaa
set_option linter.unusedVariables false
set_option linter.unusedSimpArgs false
open Go Go.RowKit
abbrev F2 (p : Nat) : Prop := p < 18446744073709551616
theorem HS {p : Nat} (h : F2 p) : Cg p ↔ (9218868437227405312 < p ∧ p < 9223372036854775808) ∨ 18442240474082181120 < p := by
  rcases Cz h with h1 | h1 <;> omega
theorem Lg (p : Nat) : B9 p = decide (Cg p) := by
  unfold B9
  rw [I1]
  by_cases h : Cg p <;> simp [h]
theorem PN {p : Nat} (h : F2 p) : Do p (-1) = some (decide (p = 18442240474082181120)) := by
  unfold Do
  rw [if_neg (by decide), if_pos (by decide), Option.bind_some, Pf h, Jl]
  congr 1
  refine decide_eq_decide.2 ?_
  have hm := Cz (b := 9218868437227405311) (by decide)
  by_cases h1 : p < 9223372036854775808
  · rw [if_pos h1]
    have := Cz (b := 9223372036854775808 + p) (by omega)
    omega
  · rw [if_neg h1]
    have := Cz (b := p - 9223372036854775808) (by unfold F2 at h; omega)
    omega
theorem PF {p : Nat} (h : F2 p) : Do p 1 = some (decide (p = 9218868437227405312)) := by
  unfold Do
  rw [if_neg (by decide), if_neg (by decide), Option.bind_some, Jl]
  congr 1
  refine decide_eq_decide.2 ?_
  have hm := Cz (b := 9218868437227405311) (by decide)
  have := Cz h
  omega
def cls (p : Nat) : Int := if Cg p then 0 else if p = 18442240474082181120 then 1 else if 9223372036854775808 < p then 2 else if p = 9218868437227405312 then 6 else if p = 9223372036854775808 then 3 else if p = 0 then 4 else 5
theorem Pq {p : Nat} (h : F2 p) : DB p = decide (9223372036854775808 ≤ p) := by
  unfold DB F2 at *
  refine decide_eq_decide.2 ?_
  rw [Pv]; split <;> omega
theorem Oc {p : Nat} (h : F2 p) : EF p = some (cls p) := by
  unfold EF cls
  rw [Lg, PN h, PF h, Mu, Jl, Pq h]
  have hk := Cz h
  have h0 := Cz (b := 0) (by decide)
  simp only [Option.bind_some, decide_eq_true_eq]
  by_cases h1 : Cg p
  · rw [if_pos h1, if_pos h1]
  · rw [if_neg h1, if_neg h1]
    by_cases h2 : p = 18442240474082181120
    · rw [if_pos h2, if_pos h2]
    · rw [if_neg h2, if_neg h2]
      by_cases h3 : 9223372036854775808 < p
      · rw [if_pos h3, if_pos (by omega)]
      · rw [if_neg h3, if_neg (by omega)]
        by_cases h4 : p = 9218868437227405312
        · rw [if_pos h4, if_pos h4]
        · rw [if_neg h4, if_neg h4]
          by_cases h5 : p = 9223372036854775808
          · rw [if_neg (by omega), if_pos (by omega), if_pos h5]
          · rw [if_neg h5]
            by_cases h6 : p = 0
            · rw [if_neg (by omega), if_neg (by omega), if_pos h6]
            · rw [if_pos (by omega), if_neg h6]
theorem JW {p : Nat} (h : F2 p) : C1 (p : Int) = ((Fw p : Nat) : Int) := by
  unfold C1 Fw
  rw [Int.tmod_eq_emod_of_nonneg (by omega)]
  by_cases h1 : 9218868437227405312 < p % 9223372036854775808
  · rw [if_pos h1, if_pos (by omega)]; rfl
  · rw [if_neg h1, if_neg (by omega)]
theorem Hq {p : Nat} (h : Cg p) : Fw p = 9221120237041090561 := if_pos h
theorem F3 {p : Nat} (h : ¬ Cg p) : Fw p = p := if_neg h
theorem Pz {p : Nat} (h : F2 p) : Fw p = 9221120237041090561 ↔ Cg p := by
  by_cases h1 : Cg p
  · simp [Hq h1, h1]
  · rw [F3 h1]
    simp only [h1, iff_false]
    rintro rfl
    exact h1 (by unfold Cg; decide)
theorem Nm {p : Nat} (h : F2 p) : GF (p : Int) = cls p := by
  unfold GF cls
  rw [JW h]
  have hw := HS h
  by_cases h1 : Cg p
  · rw [if_pos h1, Hq h1, if_pos (by decide)]
  · rw [if_neg h1, F3 h1, if_neg (by rintro h9; exact h1 ((Pz h).1 (by rw [F3 h1]; omega)))]
    by_cases h2 : p = 18442240474082181120
    · rw [if_pos h2, if_pos (by omega)]
    · rw [if_neg h2, if_neg (by omega)]
      by_cases h3 : 9223372036854775808 < p
      · rw [if_pos h3, if_pos (by omega)]
      · rw [if_neg h3, if_neg (by omega)]
        by_cases h4 : p = 9218868437227405312
        · rw [if_pos h4, if_neg (by omega), if_neg (by omega), if_neg (by omega)]
        · rw [if_neg h4]
          by_cases h5 : p = 9223372036854775808
          · rw [if_pos (by omega), if_pos h5]
          · rw [if_neg (by omega), if_neg h5]
            by_cases h6 : p = 0
            · rw [if_pos (by omega), if_pos h6]
            · rw [if_neg (by omega), if_neg h6, if_pos (by omega)]
theorem J0 (p : Nat) : BA p = Fw p := by
  unfold BA Fw
  rw [Lg]
  unfold Cg
  simp only [decide_eq_true_eq]
theorem O6 {p : Nat} (h : F2 p) : F2 (Fw p) := by
  by_cases h1 : Cg p
  · rw [Hq h1]; unfold F2; decide
  · rw [F3 h1]; exact h
def rk (p : Nat) : Int := if cls p ≠ 0 then cls p else 7
theorem M5 {p : Nat} (h : F2 p) : Em p = some (rk p) := by
  unfold Em rk
  rw [Oc h, Option.bind_some]
  split <;> rfl
def JE (p : Nat) : Int := if 9223372036854775808 ≤ Fw p then 9223372036854775807 - ((Fw p % 9223372036854775808 : Nat) : Int) else 9223372036854775808 + ((Fw p : Nat) : Int)
theorem Gq {p : Nat} (h : F2 p) : (Cg p ∧ rk p = 7 ∧ JE p = 18444492273895866369) ∨ (¬ Cg p ∧ ((p = 18442240474082181120 ∧ rk p = 1 ∧ JE p = 4503599627370495 ∧ Ce p = -9218868437227405312) ∨ (9223372036854775808 < p ∧ p < 18442240474082181120 ∧ rk p = 2 ∧ JE p = 18446744073709551615 - (p : Int) ∧ Ce p = 9223372036854775808 - (p : Int))
    ∨ (p = 9223372036854775808 ∧ rk p = 3 ∧ JE p = 9223372036854775807 ∧ Ce p = 0) ∨ (p = 0 ∧ rk p = 4 ∧ JE p = 9223372036854775808 ∧ Ce p = 0) ∨ (0 < p ∧ p < 9218868437227405312 ∧ rk p = 5 ∧ JE p = 9223372036854775808 + (p : Int) ∧ Ce p = (p : Int)) ∨ (p = 9218868437227405312 ∧ rk p = 6 ∧ JE p = 18442240474082181120 ∧ Ce p = 9218868437227405312))) := by
  have hk := Cz h
  have hw := HS h
  unfold F2 at h
  by_cases h1 : Cg p
  · left
    refine ⟨h1, ?_, ?_⟩
    · unfold rk cls; rw [if_pos h1]; decide
    · unfold JE; rw [Hq h1]; decide
  · right
    refine ⟨h1, ?_⟩
    have e2 : rk p = (if p = 18442240474082181120 then 1 else if 9223372036854775808 < p then 2 else if p = 9218868437227405312 then 6 else if p = 9223372036854775808 then 3 else if p = 0 then 4 else 5) := by
      unfold rk cls
      rw [if_neg h1]
      by_cases c1 : p = 18442240474082181120 <;> by_cases c2 : 9223372036854775808 < p <;> by_cases c3 : p = 9218868437227405312 <;> by_cases c4 : p = 9223372036854775808 <;> by_cases c5 : p = 0 <;> simp only [c1, c2, c3, c4, c5, if_true, if_false] <;> decide
    have e3 : JE p = (if 9223372036854775808 ≤ p then 9223372036854775807 - ((p % 9223372036854775808 : Nat) : Int) else 9223372036854775808 + (p : Int)) := by
      unfold JE; rw [F3 h1]
    generalize rk p = a at *
    generalize JE p = b at *
    generalize Ce p = c at *
    by_cases c1 : p = 18442240474082181120
    · rw [if_pos c1] at e2; rw [if_pos (by omega)] at e3; left; omega
    · rw [if_neg c1] at e2
      by_cases c2 : 9223372036854775808 < p
      · rw [if_pos c2] at e2; rw [if_pos (by omega)] at e3; right; left; omega
      · rw [if_neg c2] at e2
        by_cases c3 : p = 9218868437227405312
        · rw [if_pos c3] at e2; rw [if_neg (by omega)] at e3; right; right; right; right; right; omega
        · rw [if_neg c3] at e2
          by_cases c4 : p = 9223372036854775808
          · rw [if_pos c4] at e2; rw [if_pos (by omega)] at e3; right; right; left; omega
          · rw [if_neg c4] at e2
            by_cases c5 : p = 0
            · rw [if_pos c5] at e2; rw [if_neg (by omega)] at e3; right; right; right; left; omega
            · rw [if_neg c5] at e2; rw [if_neg (by omega)] at e3; right; right; right; right; left; omega
def Li (a b : Int) : Int := if a < b then -1 else if b < a then 1 else 0
theorem L9 (a b : Int) : (a < b ∧ Li a b = -1) ∨ (b < a ∧ Li a b = 1) ∨ (a = b ∧ Li a b = 0) := by
  unfold Li
  by_cases h1 : a < b
  · rw [if_pos h1]; exact .inl ⟨h1, rfl⟩
  · rw [if_neg h1]
    by_cases h2 : b < a
    · rw [if_pos h2]; exact .inr (.inl ⟨h2, rfl⟩)
    · rw [if_neg h2]; exact .inr (.inr ⟨by omega, rfl⟩)
theorem PY {p q : Nat} (hp : F2 p) (hq : F2 q) : (Pd p q = true ↔ rk p ≠ 7 ∧ rk q ≠ 7 ∧ Ce p < Ce q) ∧ (Pe p q = true ↔ rk p ≠ 7 ∧ rk q ≠ 7 ∧ Ce q < Ce p) ∧ (MT p q = true ↔ rk p ≠ 7 ∧ rk q ≠ 7 ∧ Ce p = Ce q) := by
  have n1 : Cg p ↔ rk p = 7 := by
    rcases Gq hp with ⟨h, h2, _⟩ | ⟨h, h2⟩
    · simp [h, h2]
    · simp only [h, false_iff]; omega
  have n2 : Cg q ↔ rk q = 7 := by
    rcases Gq hq with ⟨h, h2, _⟩ | ⟨h, h2⟩
    · simp [h, h2]
    · simp only [h, false_iff]; omega
  rw [Mu, Jl, I1]
  simp only [decide_eq_true_eq]
  rw [n1, n2]
  exact ⟨Iff.rfl, Iff.rfl, Iff.rfl⟩
theorem Mx {p q : Nat} (hp : F2 p) (hq : F2 q) : DK p q = some (Li (JE p) (JE q)) := by
  unfold DK Li
  rw [M5 hp, Option.bind_some, M5 hq, Option.bind_some]
  obtain ⟨l1, l2, l3⟩ := PY hp hq
  simp only [l1, l2]
  have cp : (rk p = 7 ∧ JE p = 18444492273895866369) ∨ _ := (Gq hp).imp (fun h => h.2) (fun h => h.2)
  have cq : (rk q = 7 ∧ JE q = 18444492273895866369) ∨ _ := (Gq hq).imp (fun h => h.2) (fun h => h.2)
  clear l1 l2 l3
  generalize rk p = a1 at *
  generalize JE p = a2 at *
  generalize Ce p = a3 at *
  generalize rk q = b1 at *
  generalize JE q = b2 at *
  generalize Ce q = b3 at *
  by_cases h1 : a1 < b1
  · rw [if_pos h1, if_pos (by omega)]
  · rw [if_neg h1]
    by_cases h2 : b1 < a1
    · rw [if_pos h2, if_neg (by omega), if_pos (by omega)]
    · rw [if_neg h2]
      by_cases h3 : a1 ≠ 7 ∧ b1 ≠ 7 ∧ a3 < b3
      · rw [if_pos h3, if_pos (by omega)]
      · rw [if_neg h3]
        by_cases h4 : a1 ≠ 7 ∧ b1 ≠ 7 ∧ b3 < a3
        · rw [if_pos h4, if_neg (by omega), if_pos (by omega)]
        · rw [if_neg h4, if_neg (by omega), if_neg (by omega)]
theorem Ql {n : Int} (h : (Lit.int .u64 n).wf = true) : ∃ p : Nat, n = (p : Int) ∧ F2 p := by
  simp only [Lit.wf, IntKind.has] at h
  have : 0 ≤ n ∧ n ≤ 18446744073709551615 := by simpa [IntKind.min, IntKind.max, IntKind.bits, IntKind.signed] using h
  exact ⟨n.toNat, by omega, by unfold F2; omega⟩
theorem Qy (p : Nat) : Dd (p : Int) = Fw p := by unfold Dd; rw [J0]; simp
theorem ME (a b : Nat) : Bp a b = if Fw (Fo a b) = 9223372036854775808 then 0 else Fw (Fo a b) := by
  unfold Bp
  rw [J0, I1]
  have h := O6 (MR a b)
  have hk := Cz h
  have hw := HS h
  have h0 := Cz (b := 0) (by decide)
  simp only [decide_eq_true_eq]
  generalize Fw (Fo a b) = s at *
  by_cases h1 : s = 9223372036854775808
  · rw [if_pos h1, if_pos (by omega)]
  · rw [if_neg h1]
    by_cases h2 : s = 0
    · subst h2; split <;> rfl
    · rw [if_neg (by omega)]
theorem Ph {p : Nat} (h : F2 p) : CR p = Dm (p : Int) := by
  unfold CR Dm
  rw [Jl, I1, ← Bool.decide_or, ← Bool.decide_or]
  refine decide_eq_decide.2 ?_
  have hk := Cz h
  have h0 := Cz (b := 0) (by decide)
  omega
theorem Q5 {l : List Int} (h : PW (fun n => (Lit.int .u64 n).wf = true) l) : ∃ L : List Nat, l = L.map (fun n : Nat => (n : Int)) ∧ ∀ x ∈ L, F2 x := by
  have key : ∀ l : List Int, (∀ x ∈ l, (Lit.int .u64 x).wf = true) → ∃ L : List Nat, l = L.map (fun n : Nat => (n : Int)) ∧ ∀ x ∈ L, F2 x := by
    intro l
    induction l with
    | nil => exact fun _ => ⟨[], rfl, by simp⟩
    | cons a l ih =>
      intro h
      obtain ⟨L, rfl, hL⟩ := ih fun x hx => h x (List.mem_cons_of_mem _ hx)
      obtain ⟨n, rfl, hn⟩ := Ql (h a (List.mem_cons_self ..))
      exact ⟨n :: L, rfl, fun x hx => (List.mem_cons.1 hx).elim (fun e => e ▸ hn) (hL x)⟩
  exact key l h.2
theorem LA {p : Nat} : cls p = 0 ↔ Cg p := by
  unfold cls
  by_cases h : Cg p
  · simp [h]
  · rw [if_neg h]
    simp only [h, iff_false]
    repeat' split
    all_goals decide
theorem PD (a b : Int) : Li a b < 0 ↔ a < b := by have := L9 a b; omega
theorem My : Ed 1 = some 9218868437227405312 ∧ Ed (-1) = some 18442240474082181120 := ⟨by unfold Ed; rfl, by unfold Ed; rfl⟩
def rn (p : Nat) : Nat := if p = 9223372036854775808 then 0 else p
theorem PS {p : Nat} (h : BF p) : rn p ≤ 9218868437227405312 := by unfold rn BF at *; split <;> omega
theorem Fx {p : Nat} (h : BF p) : Ce p = (rn p : Int) ∧ ¬ Cg p := by
  unfold BF at h
  have hk := Cz (b := p) (by omega)
  unfold rn
  split <;> omega
theorem Kr (p : Nat) : FJ p = Fa (rn p) := by
  unfold FJ rn
  split
  · decide
  · rfl
theorem MI (W : Nat) : H3 W ≤ 9218868437227405312 := by unfold H3; omega
theorem Eu {a b : Nat} (ha : BF a) (hb : BF b) : Bp a b = if a = 9218868437227405312 ∨ b = 9218868437227405312 then 9218868437227405312 else H3 (FJ a + FJ b) := by
  rw [ME]
  rcases OX ha hb with ⟨h1, h2, h3⟩ | ⟨h1, h2⟩ | ⟨h1, h2, h3, h4⟩
  · have e : Fw (Fo a b) = 9223372036854775808 := by rw [h1]; decide
    rw [e, if_pos rfl, if_neg (by omega), h2, h3]; decide
  · have e : Fw (Fo a b) = 9218868437227405312 := by rw [h2]; decide
    rw [e, if_neg (by decide), if_pos h1]
  · have hr := MI (FJ a + FJ b)
    have e : Fw (Fo a b) = H3 (FJ a + FJ b) := by rw [h4]; exact F3 (by omega)
    rw [e, if_neg (by omega), if_neg (by omega)]
theorem MV {a b : Nat} (ha : BF a) (hb : BF b) : Bp a b ≤ 9218868437227405312 := by
  rw [Eu ha hb]
  have := MI (FJ a + FJ b)
  split <;> omega
theorem PH {a b : Nat} (ha : BF a) (hb : BF b) : rn a ≤ Bp a b := by
  rw [Eu ha hb]
  have h1 := PS ha
  by_cases h : a = 9218868437227405312 ∨ b = 9218868437227405312
  · rw [if_pos h]; exact h1
  · rw [if_neg h]
    have h2 : H3 (FJ a) = rn a := by rw [Kr]; exact N8 (by have h9 := ha; unfold BF at h9; unfold rn; split <;> omega)
    have h3 := J3 (Nat.le_add_right (FJ a) (FJ b))
    omega
theorem NJ {a b : Nat} (ha : BF a) (hb : BF b) : Bp a b = Bp b a := by
  rw [Eu ha hb, Eu hb ha, Nat.add_comm]
  by_cases h : a = 9218868437227405312 ∨ b = 9218868437227405312
  · rw [if_pos h, if_pos h.symm]
  · rw [if_neg h, if_neg (fun h2 => h h2.symm)]
theorem NG {a b c : Nat} (ha : BF a) (hb : BF b) (hc : BF c) (h : rn b ≤ rn c) : Bp a b ≤ Bp a c := by
  have h1 := MV ha hb
  rw [Eu ha hc]
  by_cases hi : a = 9218868437227405312 ∨ c = 9218868437227405312
  · rw [if_pos hi]; exact h1
  · rw [if_neg hi, Eu ha hb]
    have hb2 : ¬ (a = 9218868437227405312 ∨ b = 9218868437227405312) := by
      unfold BF rn at *
      split at h <;> split at h <;> omega
    rw [if_neg hb2]
    refine J3 ?_
    rw [Kr b, Kr c]
    have := HF (rn c) (rn b)
    omega
theorem Jo {p : Nat} : Dm (p : Int) = true ↔ BF p := by
  unfold Dm BF
  simp only [Bool.or_eq_true, decide_eq_true_eq]
  omega
theorem PI {α β : Type} (t : α) (k : α → Option β) : Fv (some (Sum.inl t)) k = k t := rfl
abbrev In (w : List Nat) (i : Int) : Prop := 0 ≤ i ∧ i < (w.length : Int)
abbrev wg (w : List Nat) (i : Int) : Nat := w.getD i.toNat 0
abbrev CW : Nat := 9218868437227405312
def FR (a b : Nat) : Nat := Bp a b
theorem GS {w : List Nat} {i : Int} (h : In w i) : ix w i = some (wg w i) := by
  have h2 : i.toNat < w.length := by omega
  rw [show i = ((i.toNat : Nat) : Int) by omega]
  refine (Bd (List.getElem?_eq_getElem h2)).trans ?_
  congr 1
  unfold wg
  rw [Int.toNat_natCast, List.getD_eq_getElem?_getD, List.getElem?_eq_getElem h2]; rfl
theorem NA (w : List Nat) (i : Int) : CU w i = decide (In w i) := by unfold CU; rw [← Bool.decide_and]
theorem QA (a b : Nat) : FR a b = if Fw (Fo a b) = 9223372036854775808 then 0 else Fw (Fo a b) := ME a b
abbrev nz (L : List Nat) : List Int := L.map (fun n : Nat => (n : Int))
theorem Im {L : List Nat} {i : Int} (h : In L i) : ix (nz L) i = some ((wg L i : Nat) : Int) := by
  have h2 : i.toNat < L.length := by omega
  rw [show i = ((i.toNat : Nat) : Int) by omega]
  refine (Bd (x := ((L[i.toNat]'h2 : Nat) : Int)) (by rw [List.getElem?_map, List.getElem?_eq_getElem h2]; rfl)).trans ?_
  congr 2
  unfold wg
  rw [Int.toNat_natCast, List.getD_eq_getElem?_getD, List.getElem?_eq_getElem h2]; rfl
theorem Lp {a b : Nat} : Gg (a : Int) (b : Int) = ((FR a b : Nat) : Int) := by
  unfold Gg
  simp only [Int.toNat_natCast]
  rw [JW (MR a b), QA]
  split
  · rename_i h
    rw [if_pos (by omega)]; rfl
  · rename_i h
    rw [if_neg (by omega)]
theorem PB {L : List Nat} (hl : L.length ≤ 1000000) : F5 (nz L) = some (L.map Fw) := by
  unfold F5
  rw [NC (nz L) (by simp; omega) (fun x => Dd x) (EE (nz L)) (fun k hk out ho => by
    rw [EE, if_pos (by omega), Bd (List.getElem?_eq_getElem hk), Option.bind_some]) (fun out => by rw [EE, if_neg (by omega)]), Option.bind_some, List.map_map]
  congr 1
  refine List.map_congr_left fun x _ => ?_
  exact Qy x
theorem On {x : Nat} (h : F2 x) : BF (Fw x) ↔ BF x := by
  by_cases hn : Cg x
  · rw [Hq hn]
    have hw := (HS h).1 hn
    unfold BF
    omega
  · rw [F3 hn]
abbrev PR (L : List Nat) : Prop := ∀ x ∈ L, BF x
noncomputable instance (L : List Nat) : Decidable (PR L) := Classical.propDecidable _
theorem J1 {L : List Nat} (hl : L.length ≤ 1000000) (links : Int) : FF (nz L) links = some (decide (PR L ∧ (L.length : Int) = links)) := by
  have hd : DecidablePred fun x : Int => ¬ Dm x = true := fun _ => inferInstance
  unfold FF
  rw [EY (nz L) (by simp; omega) (D8 (nz L)) (fun x => ¬ Dm x = true) false (fun k hk => by
    rw [D8, if_pos (by omega), Bd (List.getElem?_eq_getElem hk), Option.bind_some]
    by_cases c : Dm (nz L)[k] = true
    · rw [if_neg (by rw [c]; decide), if_neg (fun h => h c)]
    · rw [if_pos (by rw [Bool.eq_false_iff.2 c]; rfl), if_pos c]) (by rw [D8, if_neg (by omega)])]
  by_cases h : PR L
  · rw [if_neg (fun ⟨x, hx, hn⟩ => by
      obtain ⟨y, hy, rfl⟩ := List.mem_map.1 hx
      exact hn (Jo.2 (h y hy))), PI]
    congr 1
    exact decide_eq_decide.2 ⟨fun h1 => ⟨h, by simpa using h1⟩, fun h1 => by simpa using h1.2⟩
  · have hx : ∃ x ∈ L, ¬ BF x := Classical.byContradiction fun hc => h fun x hx => Classical.byContradiction fun hn => hc ⟨x, hx, hn⟩
    obtain ⟨x, hx, hn⟩ := hx
    rw [if_pos ⟨(x : Int), List.mem_map.2 ⟨x, hx, rfl⟩, fun hc => hn (Jo.1 hc)⟩]
    show some false = _
    rw [decide_eq_false (fun hc => h hc.1)]
theorem N6 {L : List Nat} (hL : ∀ x ∈ L, F2 x) (hl : L.length ≤ 1000000) (links : Int) : Ey (L.map Fw) links = some (decide (PR L ∧ (L.length : Int) = links)) := by
  unfold Ey
  by_cases he : ((L.map Fw).length : Int) ≠ links
  · rw [if_pos he, decide_eq_false (fun h => he (by rw [List.length_map]; exact h.2))]
  · have he' : (L.length : Int) = links := by
      have := Classical.byContradiction he
      rw [List.length_map] at this; exact this
    rw [if_neg he, EY (L.map Fw) (by simp; omega) (Dh (L.map Fw)) (fun x => ¬ CR x = true) false (fun k hk => by
      rw [Dh, if_pos (by omega), Bd (List.getElem?_eq_getElem hk), Option.bind_some]
      by_cases c : CR (L.map Fw)[k] = true
      · rw [if_neg (by rw [c]; decide), if_neg (fun h => h c)]
      · rw [if_pos (by rw [Bool.eq_false_iff.2 c]; rfl), if_pos c]) (by rw [Dh, if_neg (by omega)])]
    have hc : ∀ x ∈ L, CR (Fw x) = true ↔ BF x := fun x hx => by
      rw [Ph (O6 (hL x hx)), Jo, On (hL x hx)]
    by_cases h : PR L
    · rw [if_neg (fun ⟨x, hx, hn⟩ => by
        obtain ⟨y, hy, rfl⟩ := List.mem_map.1 hx
        exact hn ((hc y hy).2 (h y hy))), decide_eq_true ⟨h, he'⟩]; rfl
    · have hx : ∃ x ∈ L, ¬ BF x := Classical.byContradiction fun hc => h fun x hx => Classical.byContradiction fun hn => hc ⟨x, hx, hn⟩
      obtain ⟨x, hx, hn⟩ := hx
      rw [if_pos ⟨Fw x, List.mem_map.2 ⟨x, hx, rfl⟩, fun h2 => hn ((hc x hx).1 h2)⟩, decide_eq_false (fun hc => h hc.1)]; rfl
def Lo (x : Nat) : Bool := decide (¬ Cg x ∧ Ce x < 9218868437227405312)
theorem O8 (x : Nat) : Pd x 9218868437227405312 = Lo x := by
  rw [Mu]
  unfold Lo
  have h1 : ¬ Cg 9218868437227405312 := by decide
  have h2 : Ce 9218868437227405312 = 9218868437227405312 := by decide
  rw [h2]
  exact decide_eq_decide.2 ⟨fun h => ⟨h.1, h.2.2⟩, fun h => ⟨h.1, h1, h.2⟩⟩
theorem PP (w : List Nat) (i : Int) : E5 w i = some (decide (In w i) && Lo (wg w i)) := by
  unfold E5
  rw [NA]
  by_cases h : In w i
  · rw [decide_eq_true h, if_pos rfl, GS h, Option.bind_some, My.1, Option.bind_some, O8]; rfl
  · rw [decide_eq_false h]; rfl
theorem Qn {x : Nat} (h : F2 x) : (decide (0 < cls x) && decide (cls x < 6)) = Lo x := by
  rw [← Bool.decide_and]
  unfold Lo
  refine decide_eq_decide.2 ?_
  have hr := Gq h
  unfold rk at hr
  by_cases h0 : cls x ≠ 0
  · rw [if_pos h0] at hr
    rcases hr with ⟨hn, h1, _⟩ | ⟨hn, h1⟩
    · exact absurd ((LA).2 hn) h0
    · constructor
      · rintro ⟨h2, h3⟩
        refine ⟨hn, ?_⟩
        rcases h1 with h1 | h1 | h1 | h1 | h1 | h1 <;> omega
      · rintro ⟨_, h3⟩
        rcases h1 with h1 | h1 | h1 | h1 | h1 | h1 <;> omega
  · have h0 : cls x = 0 := Classical.byContradiction h0
    have hn := LA.1 h0
    exact ⟨fun hc => by omega, fun hc => absurd hn hc.1⟩
theorem P6 {L : List Nat} (hL : ∀ x ∈ L, F2 x) (i : Int) : Mp (nz L) i = some (decide (In L i) && Lo (wg L i)) := by
  unfold Mp
  by_cases h : In L i
  · rw [if_neg (by simp; omega), Im h, Option.bind_some]
    have hw : F2 (wg L i) := hL _ (by
      have h2 : i.toNat < L.length := by omega
      unfold wg
      rw [List.getD_eq_getElem?_getD, List.getElem?_eq_getElem h2]
      exact List.getElem_mem h2)
    rw [Nm hw, Qn hw, decide_eq_true h]; rfl
  · rw [if_pos (by simp; omega), decide_eq_false h]; rfl
theorem Is {p : Nat} (h : p ≤ CW) : rn p = p := by unfold rn; rw [if_neg (by unfold CW at h; omega)]
theorem Dt {p : Nat} (h : p ≤ CW) : BF p := .inl h
theorem cost_cfn' {p : Nat} (h : BF p) : Fw p = p := F3 (Fx h).2
theorem PE {L : List Nat} (h : PR L) {i : Int} (hi : In L i) : BF (wg L i) := h _ (by
  have h2 : i.toNat < L.length := by omega
  unfold wg
  rw [List.getD_eq_getElem?_getD, List.getElem?_eq_getElem h2]
  exact List.getElem_mem h2)
end Go.Proofs.Ytieebnllkjmjiaa
