/- Layer 19: numbers. Conditions: none. -/
import Derived.Test.YtbogijdfacoccaadLP
import Derived.Test.YtbogijdfacoccaadMR
import Derived.Test.YtbogijdfacoccaadRF
import Derived.Test.YtbogijdfacoccaadA6
namespace Go.Proofs.Ytbogijdfacoccaa
set_option linter.unusedVariables false
set_option linter.unusedSimpArgs false
open Go Go.RowKit
abbrev Gy (p : Nat) : Prop := p < 18446744073709551616
theorem IR {p : Nat} (h : Gy p) : Cs p ↔ (9218868437227405312 < p ∧ p < 9223372036854775808) ∨ 18442240474082181120 < p := by
  rcases Cn h with h1 | h1 <;> omega
theorem KU (p : Nat) : BV p = decide (Cs p) := by
  unfold BV
  rw [J5]
  by_cases h : Cs p <;> simp [h]
theorem Oj {p : Nat} (h : Gy p) : Cu p (-1) = some (decide (p = 18442240474082181120)) := by
  unfold Cu
  rw [if_neg (by decide), if_pos (by decide), Option.bind_some, Oo h, IX]
  congr 1
  refine decide_eq_decide.2 ?_
  have hm := Cn (b := 9218868437227405311) (by decide)
  by_cases h1 : p < 9223372036854775808
  · rw [if_pos h1]
    have := Cn (b := 9223372036854775808 + p) (by omega)
    omega
  · rw [if_neg h1]
    have := Cn (b := p - 9223372036854775808) (by unfold Gy at h; omega)
    omega
theorem Ox {p : Nat} (h : Gy p) : Cu p 1 = some (decide (p = 9218868437227405312)) := by
  unfold Cu
  rw [if_neg (by decide), if_neg (by decide), Option.bind_some, IX]
  congr 1
  refine decide_eq_decide.2 ?_
  have hm := Cn (b := 9218868437227405311) (by decide)
  have := Cn h
  omega
def cls (p : Nat) : Int := if Cs p then 0 else if p = 18442240474082181120 then 1 else if 9223372036854775808 < p then 2 else if p = 9218868437227405312 then 6 else if p = 9223372036854775808 then 3 else if p = 0 then 4 else 5
theorem Oh {p : Nat} (h : Gy p) : CL p = decide (9223372036854775808 ≤ p) := by
  unfold CL Gy at *
  refine decide_eq_decide.2 ?_
  rw [Oa]; split <;> omega
theorem MT {p : Nat} (h : Gy p) : C1 p = some (cls p) := by
  unfold C1 cls
  rw [KU, Oj h, Ox h, Ii, IX, Oh h]
  have hk := Cn h
  have h0 := Cn (b := 0) (by decide)
  simp only [Option.bind_some, decide_eq_true_eq]
  by_cases h1 : Cs p
  · rw [if_pos h1, if_pos h1]
  · rw [if_neg h1, if_neg h1]
    by_cases h2 : p = 18442240474082181120
    · rw [if_pos h2, if_pos h2]
    · rw [if_neg h2, if_neg h2]
      by_cases h3 : 9223372036854775808 < p
      · rw [if_pos h3, if_pos (by omega)]
      · rw [if_neg h3, if_neg (by omega)]
        by_cases h4 : p = 9218868437227405312
        · rw [if_pos h4, if_pos h4]
        · rw [if_neg h4, if_neg h4]
          by_cases h5 : p = 9223372036854775808
          · rw [if_neg (by omega), if_pos (by omega), if_pos h5]
          · rw [if_neg h5]
            by_cases h6 : p = 0
            · rw [if_neg (by omega), if_neg (by omega), if_pos h6]
            · rw [if_pos (by omega), if_neg h6]
theorem JS {p : Nat} (h : Cs p) : FQ p = 9221120237041090561 := if_pos h
theorem Il {p : Nat} (h : ¬ Cs p) : FQ p = p := if_neg h
theorem Jt (p : Nat) : Bp p = FQ p := by
  unfold Bp FQ
  rw [KU]
  unfold Cs
  simp only [decide_eq_true_eq]
theorem NE {p : Nat} (h : Gy p) : Gy (FQ p) := by
  by_cases h1 : Cs p
  · rw [JS h1]; unfold Gy; decide
  · rw [Il h1]; exact h
def rk (p : Nat) : Int := if cls p ≠ 0 then cls p else 7
theorem LR {p : Nat} (h : Gy p) : CY p = some (rk p) := by
  unfold CY rk
  rw [MT h, Option.bind_some]
  split <;> rfl
def Jk (p : Nat) : Int := if 9223372036854775808 ≤ FQ p then 9223372036854775807 - ((FQ p % 9223372036854775808 : Nat) : Int) else 9223372036854775808 + ((FQ p : Nat) : Int)
theorem GL {p : Nat} (h : Gy p) : (Cs p ∧ rk p = 7 ∧ Jk p = 18444492273895866369) ∨ (¬ Cs p ∧ ((p = 18442240474082181120 ∧ rk p = 1 ∧ Jk p = 4503599627370495 ∧ B8 p = -9218868437227405312) ∨ (9223372036854775808 < p ∧ p < 18442240474082181120 ∧ rk p = 2 ∧ Jk p = 18446744073709551615 - (p : Int) ∧ B8 p = 9223372036854775808 - (p : Int))
    ∨ (p = 9223372036854775808 ∧ rk p = 3 ∧ Jk p = 9223372036854775807 ∧ B8 p = 0) ∨ (p = 0 ∧ rk p = 4 ∧ Jk p = 9223372036854775808 ∧ B8 p = 0) ∨ (0 < p ∧ p < 9218868437227405312 ∧ rk p = 5 ∧ Jk p = 9223372036854775808 + (p : Int) ∧ B8 p = (p : Int)) ∨ (p = 9218868437227405312 ∧ rk p = 6 ∧ Jk p = 18442240474082181120 ∧ B8 p = 9218868437227405312))) := by
  have hk := Cn h
  have hw := IR h
  unfold Gy at h
  by_cases h1 : Cs p
  · left
    refine ⟨h1, ?_, ?_⟩
    · unfold rk cls; rw [if_pos h1]; decide
    · unfold Jk; rw [JS h1]; decide
  · right
    refine ⟨h1, ?_⟩
    have e2 : rk p = (if p = 18442240474082181120 then 1 else if 9223372036854775808 < p then 2 else if p = 9218868437227405312 then 6 else if p = 9223372036854775808 then 3 else if p = 0 then 4 else 5) := by
      unfold rk cls
      rw [if_neg h1]
      by_cases c1 : p = 18442240474082181120 <;> by_cases c2 : 9223372036854775808 < p <;> by_cases c3 : p = 9218868437227405312 <;> by_cases c4 : p = 9223372036854775808 <;> by_cases c5 : p = 0 <;> simp only [c1, c2, c3, c4, c5, if_true, if_false] <;> decide
    have e3 : Jk p = (if 9223372036854775808 ≤ p then 9223372036854775807 - ((p % 9223372036854775808 : Nat) : Int) else 9223372036854775808 + (p : Int)) := by
      unfold Jk; rw [Il h1]
    generalize rk p = a at *
    generalize Jk p = b at *
    generalize B8 p = c at *
    by_cases c1 : p = 18442240474082181120
    · rw [if_pos c1] at e2; rw [if_pos (by omega)] at e3; left; omega
    · rw [if_neg c1] at e2
      by_cases c2 : 9223372036854775808 < p
      · rw [if_pos c2] at e2; rw [if_pos (by omega)] at e3; right; left; omega
      · rw [if_neg c2] at e2
        by_cases c3 : p = 9218868437227405312
        · rw [if_pos c3] at e2; rw [if_neg (by omega)] at e3; right; right; right; right; right; omega
        · rw [if_neg c3] at e2
          by_cases c4 : p = 9223372036854775808
          · rw [if_pos c4] at e2; rw [if_pos (by omega)] at e3; right; right; left; omega
          · rw [if_neg c4] at e2
            by_cases c5 : p = 0
            · rw [if_pos c5] at e2; rw [if_neg (by omega)] at e3; right; right; right; left; omega
            · rw [if_neg c5] at e2; rw [if_neg (by omega)] at e3; right; right; right; right; left; omega
def Ku (a b : Int) : Int := if a < b then -1 else if b < a then 1 else 0
theorem LA (a b : Int) : (a < b ∧ Ku a b = -1) ∨ (b < a ∧ Ku a b = 1) ∨ (a = b ∧ Ku a b = 0) := by
  unfold Ku
  by_cases h1 : a < b
  · rw [if_pos h1]; exact .inl ⟨h1, rfl⟩
  · rw [if_neg h1]
    by_cases h2 : b < a
    · rw [if_pos h2]; exact .inr (.inl ⟨h2, rfl⟩)
    · rw [if_neg h2]; exact .inr (.inr ⟨by omega, rfl⟩)
theorem OS {p q : Nat} (hp : Gy p) (hq : Gy q) : (Kn p q = true ↔ rk p ≠ 7 ∧ rk q ≠ 7 ∧ B8 p < B8 q) ∧ (ML p q = true ↔ rk p ≠ 7 ∧ rk q ≠ 7 ∧ B8 q < B8 p) ∧ (Mh p q = true ↔ rk p ≠ 7 ∧ rk q ≠ 7 ∧ B8 p = B8 q) := by
  have n1 : Cs p ↔ rk p = 7 := by
    rcases GL hp with ⟨h, h2, _⟩ | ⟨h, h2⟩
    · simp [h, h2]
    · simp only [h, false_iff]; omega
  have n2 : Cs q ↔ rk q = 7 := by
    rcases GL hq with ⟨h, h2, _⟩ | ⟨h, h2⟩
    · simp [h, h2]
    · simp only [h, false_iff]; omega
  rw [Ii, IX, J5]
  simp only [decide_eq_true_eq]
  rw [n1, n2]
  exact ⟨Iff.rfl, Iff.rfl, Iff.rfl⟩
theorem Ly {p q : Nat} (hp : Gy p) (hq : Gy q) : Cw p q = some (Ku (Jk p) (Jk q)) := by
  unfold Cw Ku
  rw [LR hp, Option.bind_some, LR hq, Option.bind_some]
  obtain ⟨l1, l2, l3⟩ := OS hp hq
  simp only [l1, l2]
  have cp : (rk p = 7 ∧ Jk p = 18444492273895866369) ∨ _ := (GL hp).imp (fun h => h.2) (fun h => h.2)
  have cq : (rk q = 7 ∧ Jk q = 18444492273895866369) ∨ _ := (GL hq).imp (fun h => h.2) (fun h => h.2)
  clear l1 l2 l3
  generalize rk p = a1 at *
  generalize Jk p = a2 at *
  generalize B8 p = a3 at *
  generalize rk q = b1 at *
  generalize Jk q = b2 at *
  generalize B8 q = b3 at *
  by_cases h1 : a1 < b1
  · rw [if_pos h1, if_pos (by omega)]
  · rw [if_neg h1]
    by_cases h2 : b1 < a1
    · rw [if_pos h2, if_neg (by omega), if_pos (by omega)]
    · rw [if_neg h2]
      by_cases h3 : a1 ≠ 7 ∧ b1 ≠ 7 ∧ a3 < b3
      · rw [if_pos h3, if_pos (by omega)]
      · rw [if_neg h3]
        by_cases h4 : a1 ≠ 7 ∧ b1 ≠ 7 ∧ b3 < a3
        · rw [if_pos h4, if_neg (by omega), if_pos (by omega)]
        · rw [if_neg h4, if_neg (by omega), if_neg (by omega)]
theorem NF {n : Int} (h : (Lit.int .u64 n).wf = true) : ∃ p : Nat, n = (p : Int) ∧ Gy p := by
  simp only [Lit.wf, IntKind.has] at h
  have : 0 ≤ n ∧ n ≤ 18446744073709551615 := by simpa [IntKind.min, IntKind.max, IntKind.bits, IntKind.signed] using h
  exact ⟨n.toNat, by omega, by unfold Gy; omega⟩
theorem PA (p : Nat) : C5 (p : Int) = FQ p := by unfold C5; rw [Jt]; simp
theorem Ob (a b : Nat) : A5 a b = if FQ (FB a b) = 9223372036854775808 then 0 else FQ (FB a b) := by
  unfold A5
  rw [Jt, J5]
  have h := NE (Oi a b)
  have hk := Cn h
  have hw := IR h
  have h0 := Cn (b := 0) (by decide)
  simp only [decide_eq_true_eq]
  generalize FQ (FB a b) = s at *
  by_cases h1 : s = 9223372036854775808
  · rw [if_pos h1, if_pos (by omega)]
  · rw [if_neg h1]
    by_cases h2 : s = 0
    · subst h2; split <;> rfl
    · rw [if_neg (by omega)]
theorem N4 {p : Nat} (h : Gy p) : Cv p = C0 (p : Int) := by
  unfold Cv C0
  rw [IX, J5, ← Bool.decide_or, ← Bool.decide_or]
  refine decide_eq_decide.2 ?_
  have hk := Cn h
  have h0 := Cn (b := 0) (by decide)
  omega
theorem PP {l : List Int} (h : OA (fun n => (Lit.int .u64 n).wf = true) l) : ∃ L : List Nat, l = L.map (fun n : Nat => (n : Int)) ∧ ∀ x ∈ L, Gy x := by
  have key : ∀ l : List Int, (∀ x ∈ l, (Lit.int .u64 x).wf = true) → ∃ L : List Nat, l = L.map (fun n : Nat => (n : Int)) ∧ ∀ x ∈ L, Gy x := by
    intro l
    induction l with
    | nil => exact fun _ => ⟨[], rfl, by simp⟩
    | cons a l ih =>
      intro h
      obtain ⟨L, rfl, hL⟩ := ih fun x hx => h x (List.mem_cons_of_mem _ hx)
      obtain ⟨n, rfl, hn⟩ := NF (h a (List.mem_cons_self ..))
      exact ⟨n :: L, rfl, fun x hx => (List.mem_cons.1 hx).elim (fun e => e ▸ hn) (hL x)⟩
  exact key l h.2
theorem Oy (a b : Int) : Ku a b < 0 ↔ a < b := by have := LA a b; omega
theorem MZ : C9 1 = some 9218868437227405312 ∧ C9 (-1) = some 18442240474082181120 := ⟨by unfold C9; rfl, by unfold C9; rfl⟩
def rn (p : Nat) : Nat := if p = 9223372036854775808 then 0 else p
theorem OC {p : Nat} (h : BC p) : rn p ≤ 9218868437227405312 := by unfold rn BC at *; split <;> omega
theorem Ez {p : Nat} (h : BC p) : B8 p = (rn p : Int) ∧ ¬ Cs p := by
  unfold BC at h
  have hk := Cn (b := p) (by omega)
  unfold rn
  split <;> omega
theorem Kb (p : Nat) : FH p = E2 (rn p) := by
  unfold FH rn
  split
  · decide
  · rfl
theorem LH (W : Nat) : HD W ≤ 9218868437227405312 := by unfold HD; omega
theorem Eg {a b : Nat} (ha : BC a) (hb : BC b) : A5 a b = if a = 9218868437227405312 ∨ b = 9218868437227405312 then 9218868437227405312 else HD (FH a + FH b) := by
  rw [Ob]
  rcases M0 ha hb with ⟨h1, h2, h3⟩ | ⟨h1, h2⟩ | ⟨h1, h2, h3, h4⟩
  · have e : FQ (FB a b) = 9223372036854775808 := by rw [h1]; decide
    rw [e, if_pos rfl, if_neg (by omega), h2, h3]; decide
  · have e : FQ (FB a b) = 9218868437227405312 := by rw [h2]; decide
    rw [e, if_neg (by decide), if_pos h1]
  · have hr := LH (FH a + FH b)
    have e : FQ (FB a b) = HD (FH a + FH b) := by rw [h4]; exact Il (by omega)
    rw [e, if_neg (by omega), if_neg (by omega)]
theorem LI {a b : Nat} (ha : BC a) (hb : BC b) : A5 a b ≤ 9218868437227405312 := by
  rw [Eg ha hb]
  have := LH (FH a + FH b)
  split <;> omega
theorem N9 {a b : Nat} (ha : BC a) (hb : BC b) : rn a ≤ A5 a b := by
  rw [Eg ha hb]
  have h1 := OC ha
  by_cases h : a = 9218868437227405312 ∨ b = 9218868437227405312
  · rw [if_pos h]; exact h1
  · rw [if_neg h]
    have h2 : HD (FH a) = rn a := by rw [Kb]; exact Nk (by have h9 := ha; unfold BC at h9; unfold rn; split <;> omega)
    have h3 := Ju (Nat.le_add_right (FH a) (FH b))
    omega
theorem Hv {a b : Nat} (ha : BC a) (hb : BC b) : A5 a b = A5 b a := by
  rw [Eg ha hb, Eg hb ha, Nat.add_comm]
  by_cases h : a = 9218868437227405312 ∨ b = 9218868437227405312
  · rw [if_pos h, if_pos h.symm]
  · rw [if_neg h, if_neg (fun h2 => h h2.symm)]
theorem Jv {a b c : Nat} (ha : BC a) (hb : BC b) (hc : BC c) (h : rn b ≤ rn c) : A5 a b ≤ A5 a c := by
  have h1 := LI ha hb
  rw [Eg ha hc]
  by_cases hi : a = 9218868437227405312 ∨ c = 9218868437227405312
  · rw [if_pos hi]; exact h1
  · rw [if_neg hi, Eg ha hb]
    have hb2 : ¬ (a = 9218868437227405312 ∨ b = 9218868437227405312) := by
      unfold BC rn at *
      split at h <;> split at h <;> omega
    rw [if_neg hb2]
    refine Ju ?_
    rw [Kb b, Kb c]
    have := GP (rn c) (rn b)
    omega
theorem IV {p : Nat} : C0 (p : Int) = true ↔ BC p := by
  unfold C0 BC
  simp only [Bool.or_eq_true, decide_eq_true_eq]
  omega
theorem Ot {α β : Type} (t : α) (k : α → Option β) : Iu (some (Sum.inl t)) k = k t := rfl
abbrev In (w : List Nat) (i : Int) : Prop := 0 ≤ i ∧ i < (w.length : Int)
abbrev wg (w : List Nat) (i : Int) : Nat := w.getD i.toNat 0
abbrev D4 : Nat := 9218868437227405312
def Hn (a b : Nat) : Nat := A5 a b
def Oe (w : List Nat) (l : List Int) : Nat := l.foldr (fun i c => Hn (wg w i) c) 0
def PW (w : List Nat) (l : List Int) : Nat := if ∀ i ∈ l, In w i then Oe w l else D4
theorem FV {w : List Nat} {i : Int} (h : In w i) : ix w i = some (wg w i) := by
  have h2 : i.toNat < w.length := by omega
  rw [show i = ((i.toNat : Nat) : Int) by omega]
  refine (BS (List.getElem?_eq_getElem h2)).trans ?_
  congr 1
  unfold wg
  rw [Int.toNat_natCast, List.getD_eq_getElem?_getD, List.getElem?_eq_getElem h2]; rfl
theorem Mu (w : List Nat) (i : Int) : Cr w i = decide (In w i) := by unfold Cr; rw [← Bool.decide_and]
abbrev nz (L : List Nat) : List Int := L.map (fun n : Nat => (n : Int))
theorem Po {L : List Nat} {i : Int} (h : In L i) : ix (nz L) i = some ((wg L i : Nat) : Int) := by
  have h2 : i.toNat < L.length := by omega
  rw [show i = ((i.toNat : Nat) : Int) by omega]
  refine (BS (x := ((L[i.toNat]'h2 : Nat) : Int)) (by rw [List.getElem?_map, List.getElem?_eq_getElem h2]; rfl)).trans ?_
  congr 2
  unfold wg
  rw [Int.toNat_natCast, List.getD_eq_getElem?_getD, List.getElem?_eq_getElem h2]; rfl
theorem LG {L : List Nat} (hl : L.length ≤ 1000000) : Fp (nz L) = some (L.map FQ) := by
  unfold Fp
  rw [MG (nz L) (by simp; omega) (fun x => C5 x) (EA (nz L)) (fun k hk out ho => by
    rw [EA, if_pos (by omega), BS (List.getElem?_eq_getElem hk), Option.bind_some]) (fun out => by rw [EA, if_neg (by omega)]), Option.bind_some, List.map_map]
  congr 1
  refine List.map_congr_left fun x _ => ?_
  exact PA x
theorem Nf {x : Nat} (h : Gy x) : BC (FQ x) ↔ BC x := by
  by_cases hn : Cs x
  · rw [JS hn]
    have hw := (IR h).1 hn
    unfold BC
    omega
  · rw [Il hn]
abbrev OI (L : List Nat) : Prop := ∀ x ∈ L, BC x
noncomputable instance (L : List Nat) : Decidable (OI L) := Classical.propDecidable _
theorem Mm {L : List Nat} (hl : L.length ≤ 1000000) (links : Int) : Fk (nz L) links = some (decide (OI L ∧ (L.length : Int) = links)) := by
  have hd : DecidablePred fun x : Int => ¬ C0 x = true := fun _ => inferInstance
  unfold Fk
  rw [Gl (nz L) (by simp; omega) (DV (nz L)) (fun x => ¬ C0 x = true) false (fun k hk => by
    rw [DV, if_pos (by omega), BS (List.getElem?_eq_getElem hk), Option.bind_some]
    by_cases c : C0 (nz L)[k] = true
    · rw [if_neg (by rw [c]; decide), if_neg (fun h => h c)]
    · rw [if_pos (by rw [Bool.eq_false_iff.2 c]; rfl), if_pos c]) (by rw [DV, if_neg (by omega)])]
  by_cases h : OI L
  · rw [if_neg (fun ⟨x, hx, hn⟩ => by
      obtain ⟨y, hy, rfl⟩ := List.mem_map.1 hx
      exact hn (IV.2 (h y hy))), Ot]
    congr 1
    exact decide_eq_decide.2 ⟨fun h1 => ⟨h, by simpa using h1⟩, fun h1 => by simpa using h1.2⟩
  · have hx : ∃ x ∈ L, ¬ BC x := Classical.byContradiction fun hc => h fun x hx => Classical.byContradiction fun hn => hc ⟨x, hx, hn⟩
    obtain ⟨x, hx, hn⟩ := hx
    rw [if_pos ⟨(x : Int), List.mem_map.2 ⟨x, hx, rfl⟩, fun hc => hn (IV.1 hc)⟩]
    show some false = _
    rw [decide_eq_false (fun hc => h hc.1)]
theorem NK {L : List Nat} (hL : ∀ x ∈ L, Gy x) (hl : L.length ≤ 1000000) (links : Int) : C7 (L.map FQ) links = some (decide (OI L ∧ (L.length : Int) = links)) := by
  unfold C7
  by_cases he : ((L.map FQ).length : Int) ≠ links
  · rw [if_pos he, decide_eq_false (fun h => he (by rw [List.length_map]; exact h.2))]
  · have he' : (L.length : Int) = links := by
      have := Classical.byContradiction he
      rw [List.length_map] at this; exact this
    rw [if_neg he, Gl (L.map FQ) (by simp; omega) (Cg (L.map FQ)) (fun x => ¬ Cv x = true) false (fun k hk => by
      rw [Cg, if_pos (by omega), BS (List.getElem?_eq_getElem hk), Option.bind_some]
      by_cases c : Cv (L.map FQ)[k] = true
      · rw [if_neg (by rw [c]; decide), if_neg (fun h => h c)]
      · rw [if_pos (by rw [Bool.eq_false_iff.2 c]; rfl), if_pos c]) (by rw [Cg, if_neg (by omega)])]
    have hc : ∀ x ∈ L, Cv (FQ x) = true ↔ BC x := fun x hx => by
      rw [N4 (NE (hL x hx)), IV, Nf (hL x hx)]
    by_cases h : OI L
    · rw [if_neg (fun ⟨x, hx, hn⟩ => by
        obtain ⟨y, hy, rfl⟩ := List.mem_map.1 hx
        exact hn ((hc y hy).2 (h y hy))), decide_eq_true ⟨h, he'⟩]; rfl
    · have hx : ∃ x ∈ L, ¬ BC x := Classical.byContradiction fun hc => h fun x hx => Classical.byContradiction fun hn => hc ⟨x, hx, hn⟩
      obtain ⟨x, hx, hn⟩ := hx
      rw [if_pos ⟨FQ x, List.mem_map.2 ⟨x, hx, rfl⟩, fun h2 => hn ((hc x hx).1 h2)⟩, decide_eq_false (fun hc => h hc.1)]; rfl
def NV (x : Nat) : Bool := decide (¬ Cs x ∧ B8 x < 9218868437227405312)
theorem OO (x : Nat) : Kn x 9218868437227405312 = NV x := by
  rw [Ii]
  unfold NV
  have h1 : ¬ Cs 9218868437227405312 := by decide
  have h2 : B8 9218868437227405312 = 9218868437227405312 := by decide
  rw [h2]
  exact decide_eq_decide.2 ⟨fun h => ⟨h.1, h.2.2⟩, fun h => ⟨h.1, h1, h.2⟩⟩
theorem PC (w : List Nat) (i : Int) : DW w i = some (decide (In w i) && NV (wg w i)) := by
  unfold DW
  rw [Mu]
  by_cases h : In w i
  · rw [decide_eq_true h, if_pos rfl, FV h, Option.bind_some, MZ.1, Option.bind_some, OO]; rfl
  · rw [decide_eq_false h]; rfl
theorem Ir {p : Nat} (h : p ≤ D4) : rn p = p := by unfold rn; rw [if_neg (by unfold D4 at h; omega)]
theorem Dc {p : Nat} (h : p ≤ D4) : BC p := .inl h
theorem cost_cfn' {p : Nat} (h : BC p) : FQ p = p := Il (Ez h).2
theorem JY {L : List Nat} (h : OI L) {i : Int} (hi : In L i) : BC (wg L i) := h _ (by
  have h2 : i.toNat < L.length := by omega
  unfold wg
  rw [List.getD_eq_getElem?_getD, List.getElem?_eq_getElem h2]
  exact List.getElem_mem h2)
end Go.Proofs.Ytbogijdfacoccaa
