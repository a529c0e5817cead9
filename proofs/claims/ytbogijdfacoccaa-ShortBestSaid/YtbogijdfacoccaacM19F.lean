/- Layer 19: numbers. Conditions: none. -/
import Derived.Test.YtbogijdfacoccaacLP
import Derived.Test.YtbogijdfacoccaacMR
import Derived.Test.YtbogijdfacoccaacRF
import Derived.Test.YtbogijdfacoccaacA6
namespace Go.Proofs.Ytbogijdfacoccaa
set_option linter.unusedVariables false
set_option linter.unusedSimpArgs false
open Go Go.RowKit
abbrev GM (p : Nat) : Prop := p < 18446744073709551616
theorem IM {p : Nat} (h : GM p) : Co p ↔ (9218868437227405312 < p ∧ p < 9223372036854775808) ∨ 18442240474082181120 < p := by
  rcases Cp h with h1 | h1 <;> omega
theorem KI (p : Nat) : BZ p = decide (Co p) := by
  unfold BZ
  rw [II]
  by_cases h : Co p <;> simp [h]
theorem O4 {p : Nat} (h : GM p) : Cv p (-1) = some (decide (p = 18442240474082181120)) := by
  unfold Cv
  rw [if_neg (by decide), if_pos (by decide), Option.bind_some, O0 h, IX]
  congr 1
  refine decide_eq_decide.2 ?_
  have hm := Cp (b := 9218868437227405311) (by decide)
  by_cases h1 : p < 9223372036854775808
  · rw [if_pos h1]
    have := Cp (b := 9223372036854775808 + p) (by omega)
    omega
  · rw [if_neg h1]
    have := Cp (b := p - 9223372036854775808) (by unfold GM at h; omega)
    omega
theorem OJ {p : Nat} (h : GM p) : Cv p 1 = some (decide (p = 9218868437227405312)) := by
  unfold Cv
  rw [if_neg (by decide), if_neg (by decide), Option.bind_some, IX]
  congr 1
  refine decide_eq_decide.2 ?_
  have hm := Cp (b := 9218868437227405311) (by decide)
  have := Cp h
  omega
def cls (p : Nat) : Int := if Co p then 0 else if p = 18442240474082181120 then 1 else if 9223372036854775808 < p then 2 else if p = 9218868437227405312 then 6 else if p = 9223372036854775808 then 3 else if p = 0 then 4 else 5
theorem Pe {p : Nat} (h : GM p) : CS p = decide (9223372036854775808 ≤ p) := by
  unfold CS GM at *
  refine decide_eq_decide.2 ?_
  rw [ON]; split <;> omega
theorem Nf {p : Nat} (h : GM p) : C9 p = some (cls p) := by
  unfold C9 cls
  rw [KI, O4 h, OJ h, J8, IX, Pe h]
  have hk := Cp h
  have h0 := Cp (b := 0) (by decide)
  simp only [Option.bind_some, decide_eq_true_eq]
  by_cases h1 : Co p
  · rw [if_pos h1, if_pos h1]
  · rw [if_neg h1, if_neg h1]
    by_cases h2 : p = 18442240474082181120
    · rw [if_pos h2, if_pos h2]
    · rw [if_neg h2, if_neg h2]
      by_cases h3 : 9223372036854775808 < p
      · rw [if_pos h3, if_pos (by omega)]
      · rw [if_neg h3, if_neg (by omega)]
        by_cases h4 : p = 9218868437227405312
        · rw [if_pos h4, if_pos h4]
        · rw [if_neg h4, if_neg h4]
          by_cases h5 : p = 9223372036854775808
          · rw [if_neg (by omega), if_pos (by omega), if_pos h5]
          · rw [if_neg h5]
            by_cases h6 : p = 0
            · rw [if_neg (by omega), if_neg (by omega), if_pos h6]
            · rw [if_pos (by omega), if_neg h6]
theorem J6 {p : Nat} (h : Co p) : FX p = 9221120237041090561 := if_pos h
theorem IP {p : Nat} (h : ¬ Co p) : FX p = p := if_neg h
theorem Jo (p : Nat) : Bn p = FX p := by
  unfold Bn FX
  rw [KI]
  unfold Co
  simp only [decide_eq_true_eq]
theorem NG {p : Nat} (h : GM p) : GM (FX p) := by
  by_cases h1 : Co p
  · rw [J6 h1]; unfold GM; decide
  · rw [IP h1]; exact h
def rk (p : Nat) : Int := if cls p ≠ 0 then cls p else 7
theorem LZ {p : Nat} (h : GM p) : C7 p = some (rk p) := by
  unfold C7 rk
  rw [Nf h, Option.bind_some]
  split <;> rfl
def Jg (p : Nat) : Int := if 9223372036854775808 ≤ FX p then 9223372036854775807 - ((FX p % 9223372036854775808 : Nat) : Int) else 9223372036854775808 + ((FX p : Nat) : Int)
theorem Hf {p : Nat} (h : GM p) : (Co p ∧ rk p = 7 ∧ Jg p = 18444492273895866369) ∨ (¬ Co p ∧ ((p = 18442240474082181120 ∧ rk p = 1 ∧ Jg p = 4503599627370495 ∧ B9 p = -9218868437227405312) ∨ (9223372036854775808 < p ∧ p < 18442240474082181120 ∧ rk p = 2 ∧ Jg p = 18446744073709551615 - (p : Int) ∧ B9 p = 9223372036854775808 - (p : Int))
    ∨ (p = 9223372036854775808 ∧ rk p = 3 ∧ Jg p = 9223372036854775807 ∧ B9 p = 0) ∨ (p = 0 ∧ rk p = 4 ∧ Jg p = 9223372036854775808 ∧ B9 p = 0) ∨ (0 < p ∧ p < 9218868437227405312 ∧ rk p = 5 ∧ Jg p = 9223372036854775808 + (p : Int) ∧ B9 p = (p : Int)) ∨ (p = 9218868437227405312 ∧ rk p = 6 ∧ Jg p = 18442240474082181120 ∧ B9 p = 9218868437227405312))) := by
  have hk := Cp h
  have hw := IM h
  unfold GM at h
  by_cases h1 : Co p
  · left
    refine ⟨h1, ?_, ?_⟩
    · unfold rk cls; rw [if_pos h1]; decide
    · unfold Jg; rw [J6 h1]; decide
  · right
    refine ⟨h1, ?_⟩
    have e2 : rk p = (if p = 18442240474082181120 then 1 else if 9223372036854775808 < p then 2 else if p = 9218868437227405312 then 6 else if p = 9223372036854775808 then 3 else if p = 0 then 4 else 5) := by
      unfold rk cls
      rw [if_neg h1]
      by_cases c1 : p = 18442240474082181120 <;> by_cases c2 : 9223372036854775808 < p <;> by_cases c3 : p = 9218868437227405312 <;> by_cases c4 : p = 9223372036854775808 <;> by_cases c5 : p = 0 <;> simp only [c1, c2, c3, c4, c5, if_true, if_false] <;> decide
    have e3 : Jg p = (if 9223372036854775808 ≤ p then 9223372036854775807 - ((p % 9223372036854775808 : Nat) : Int) else 9223372036854775808 + (p : Int)) := by
      unfold Jg; rw [IP h1]
    generalize rk p = a at *
    generalize Jg p = b at *
    generalize B9 p = c at *
    by_cases c1 : p = 18442240474082181120
    · rw [if_pos c1] at e2; rw [if_pos (by omega)] at e3; left; omega
    · rw [if_neg c1] at e2
      by_cases c2 : 9223372036854775808 < p
      · rw [if_pos c2] at e2; rw [if_pos (by omega)] at e3; right; left; omega
      · rw [if_neg c2] at e2
        by_cases c3 : p = 9218868437227405312
        · rw [if_pos c3] at e2; rw [if_neg (by omega)] at e3; right; right; right; right; right; omega
        · rw [if_neg c3] at e2
          by_cases c4 : p = 9223372036854775808
          · rw [if_pos c4] at e2; rw [if_pos (by omega)] at e3; right; right; left; omega
          · rw [if_neg c4] at e2
            by_cases c5 : p = 0
            · rw [if_pos c5] at e2; rw [if_neg (by omega)] at e3; right; right; right; left; omega
            · rw [if_neg c5] at e2; rw [if_neg (by omega)] at e3; right; right; right; right; left; omega
def KP (a b : Int) : Int := if a < b then -1 else if b < a then 1 else 0
theorem LJ (a b : Int) : (a < b ∧ KP a b = -1) ∨ (b < a ∧ KP a b = 1) ∨ (a = b ∧ KP a b = 0) := by
  unfold KP
  by_cases h1 : a < b
  · rw [if_pos h1]; exact .inl ⟨h1, rfl⟩
  · rw [if_neg h1]
    by_cases h2 : b < a
    · rw [if_pos h2]; exact .inr (.inl ⟨h2, rfl⟩)
    · rw [if_neg h2]; exact .inr (.inr ⟨by omega, rfl⟩)
theorem PA {p q : Nat} (hp : GM p) (hq : GM q) : (Kr p q = true ↔ rk p ≠ 7 ∧ rk q ≠ 7 ∧ B9 p < B9 q) ∧ (Nb p q = true ↔ rk p ≠ 7 ∧ rk q ≠ 7 ∧ B9 q < B9 p) ∧ (JP p q = true ↔ rk p ≠ 7 ∧ rk q ≠ 7 ∧ B9 p = B9 q) := by
  have n1 : Co p ↔ rk p = 7 := by
    rcases Hf hp with ⟨h, h2, _⟩ | ⟨h, h2⟩
    · simp [h, h2]
    · simp only [h, false_iff]; omega
  have n2 : Co q ↔ rk q = 7 := by
    rcases Hf hq with ⟨h, h2, _⟩ | ⟨h, h2⟩
    · simp [h, h2]
    · simp only [h, false_iff]; omega
  rw [J8, IX, II]
  simp only [decide_eq_true_eq]
  rw [n1, n2]
  exact ⟨Iff.rfl, Iff.rfl, Iff.rfl⟩
theorem LE {p q : Nat} (hp : GM p) (hq : GM q) : Cw p q = some (KP (Jg p) (Jg q)) := by
  unfold Cw KP
  rw [LZ hp, Option.bind_some, LZ hq, Option.bind_some]
  obtain ⟨l1, l2, l3⟩ := PA hp hq
  simp only [l1, l2]
  have cp : (rk p = 7 ∧ Jg p = 18444492273895866369) ∨ _ := (Hf hp).imp (fun h => h.2) (fun h => h.2)
  have cq : (rk q = 7 ∧ Jg q = 18444492273895866369) ∨ _ := (Hf hq).imp (fun h => h.2) (fun h => h.2)
  clear l1 l2 l3
  generalize rk p = a1 at *
  generalize Jg p = a2 at *
  generalize B9 p = a3 at *
  generalize rk q = b1 at *
  generalize Jg q = b2 at *
  generalize B9 q = b3 at *
  by_cases h1 : a1 < b1
  · rw [if_pos h1, if_pos (by omega)]
  · rw [if_neg h1]
    by_cases h2 : b1 < a1
    · rw [if_pos h2, if_neg (by omega), if_pos (by omega)]
    · rw [if_neg h2]
      by_cases h3 : a1 ≠ 7 ∧ b1 ≠ 7 ∧ a3 < b3
      · rw [if_pos h3, if_pos (by omega)]
      · rw [if_neg h3]
        by_cases h4 : a1 ≠ 7 ∧ b1 ≠ 7 ∧ b3 < a3
        · rw [if_pos h4, if_neg (by omega), if_pos (by omega)]
        · rw [if_neg h4, if_neg (by omega), if_neg (by omega)]
theorem PI {n : Int} (h : (Lit.int .u64 n).wf = true) : ∃ p : Nat, n = (p : Int) ∧ GM p := by
  simp only [Lit.wf, IntKind.has] at h
  have : 0 ≤ n ∧ n ≤ 18446744073709551615 := by simpa [IntKind.min, IntKind.max, IntKind.bits, IntKind.signed] using h
  exact ⟨n.toNat, by omega, by unfold GM; omega⟩
theorem Qg (p : Nat) : C4 (p : Int) = FX p := by unfold C4; rw [Jo]; simp
theorem OM (a b : Nat) : A4 a b = if FX (FK a b) = 9223372036854775808 then 0 else FX (FK a b) := by
  unfold A4
  rw [Jo, II]
  have h := NG (O9 a b)
  have hk := Cp h
  have hw := IM h
  have h0 := Cp (b := 0) (by decide)
  simp only [decide_eq_true_eq]
  generalize FX (FK a b) = s at *
  by_cases h1 : s = 9223372036854775808
  · rw [if_pos h1, if_pos (by omega)]
  · rw [if_neg h1]
    by_cases h2 : s = 0
    · subst h2; split <;> rfl
    · rw [if_neg (by omega)]
theorem O1 {p : Nat} (h : GM p) : Cy p = C8 (p : Int) := by
  unfold Cy C8
  rw [IX, II, ← Bool.decide_or, ← Bool.decide_or]
  refine decide_eq_decide.2 ?_
  have hk := Cp h
  have h0 := Cp (b := 0) (by decide)
  omega
theorem QT {l : List Int} (h : OD (fun n => (Lit.int .u64 n).wf = true) l) : ∃ L : List Nat, l = L.map (fun n : Nat => (n : Int)) ∧ ∀ x ∈ L, GM x := by
  have key : ∀ l : List Int, (∀ x ∈ l, (Lit.int .u64 x).wf = true) → ∃ L : List Nat, l = L.map (fun n : Nat => (n : Int)) ∧ ∀ x ∈ L, GM x := by
    intro l
    induction l with
    | nil => exact fun _ => ⟨[], rfl, by simp⟩
    | cons a l ih =>
      intro h
      obtain ⟨L, rfl, hL⟩ := ih fun x hx => h x (List.mem_cons_of_mem _ hx)
      obtain ⟨n, rfl, hn⟩ := PI (h a (List.mem_cons_self ..))
      exact ⟨n :: L, rfl, fun x hx => (List.mem_cons.1 hx).elim (fun e => e ▸ hn) (hL x)⟩
  exact key l h.2
theorem OQ (a b : Int) : KP a b < 0 ↔ a < b := by have := LJ a b; omega
theorem Ly : CV 1 = some 9218868437227405312 ∧ CV (-1) = some 18442240474082181120 := ⟨by unfold CV; rfl, by unfold CV; rfl⟩
def rn (p : Nat) : Nat := if p = 9223372036854775808 then 0 else p
theorem Po {p : Nat} (h : BH p) : rn p ≤ 9218868437227405312 := by unfold rn BH at *; split <;> omega
theorem Ez {p : Nat} (h : BH p) : B9 p = (rn p : Int) ∧ ¬ Co p := by
  unfold BH at h
  have hk := Cp (b := p) (by omega)
  unfold rn
  split <;> omega
theorem Kc (p : Nat) : FN p = E3 (rn p) := by
  unfold FN rn
  split
  · decide
  · rfl
theorem Mm (W : Nat) : HD W ≤ 9218868437227405312 := by unfold HD; omega
theorem Eh {a b : Nat} (ha : BH a) (hb : BH b) : A4 a b = if a = 9218868437227405312 ∨ b = 9218868437227405312 then 9218868437227405312 else HD (FN a + FN b) := by
  rw [OM]
  rcases NY ha hb with ⟨h1, h2, h3⟩ | ⟨h1, h2⟩ | ⟨h1, h2, h3, h4⟩
  · have e : FX (FK a b) = 9223372036854775808 := by rw [h1]; decide
    rw [e, if_pos rfl, if_neg (by omega), h2, h3]; decide
  · have e : FX (FK a b) = 9218868437227405312 := by rw [h2]; decide
    rw [e, if_neg (by decide), if_pos h1]
  · have hr := Mm (FN a + FN b)
    have e : FX (FK a b) = HD (FN a + FN b) := by rw [h4]; exact IP (by omega)
    rw [e, if_neg (by omega), if_neg (by omega)]
theorem LS {a b : Nat} (ha : BH a) (hb : BH b) : A4 a b ≤ 9218868437227405312 := by
  rw [Eh ha hb]
  have := Mm (FN a + FN b)
  split <;> omega
theorem Pa {a b : Nat} (ha : BH a) (hb : BH b) : rn a ≤ A4 a b := by
  rw [Eh ha hb]
  have h1 := Po ha
  by_cases h : a = 9218868437227405312 ∨ b = 9218868437227405312
  · rw [if_pos h]; exact h1
  · rw [if_neg h]
    have h2 : HD (FN a) = rn a := by rw [Kc]; exact Ny (by have h9 := ha; unfold BH at h9; unfold rn; split <;> omega)
    have h3 := Jr (Nat.le_add_right (FN a) (FN b))
    omega
theorem M9 {a b : Nat} (ha : BH a) (hb : BH b) : A4 a b = A4 b a := by
  rw [Eh ha hb, Eh hb ha, Nat.add_comm]
  by_cases h : a = 9218868437227405312 ∨ b = 9218868437227405312
  · rw [if_pos h, if_pos h.symm]
  · rw [if_neg h, if_neg (fun h2 => h h2.symm)]
theorem MD {a b c : Nat} (ha : BH a) (hb : BH b) (hc : BH c) (h : rn b ≤ rn c) : A4 a b ≤ A4 a c := by
  have h1 := LS ha hb
  rw [Eh ha hc]
  by_cases hi : a = 9218868437227405312 ∨ c = 9218868437227405312
  · rw [if_pos hi]; exact h1
  · rw [if_neg hi, Eh ha hb]
    have hb2 : ¬ (a = 9218868437227405312 ∨ b = 9218868437227405312) := by
      unfold BH rn at *
      split at h <;> split at h <;> omega
    rw [if_neg hb2]
    refine Jr ?_
    rw [Kc b, Kc c]
    have := Hq (rn c) (rn b)
    omega
theorem IL {p : Nat} : C8 (p : Int) = true ↔ BH p := by
  unfold C8 BH
  simp only [Bool.or_eq_true, decide_eq_true_eq]
  omega
theorem OY {α : Type} (l : List α) : (OA l).map (·.2) = l.reverse := by
  unfold OA
  rw [List.map_reverse, List.map_map]
  congr 1
  refine List.ext_getElem (by simp) fun i h1 h2 => by simp
theorem OX {α β : Type} (t : α) (k : α → Option β) : Ii (some (Sum.inl t)) k = k t := rfl
theorem JG {α σ ε : Type} (step : α → σ → Option (σ ⊕ ε)) (B : List α) : ∀ (A : List α) (s : σ), FS step (A ++ B) s = (FS step A s).bind fun o => match o with | .inl s' => FS step B s' | .inr e => some (.inr e)
  | [], s => rfl
  | x :: A, s => by
    show (step x s).bind _ = ((step x s).bind _).bind _
    cases step x s with
    | none => rfl
    | some o =>
      cases o with
      | inl s' => exact JG step B A s'
      | inr e => rfl
theorem Jt {α β σ ε : Type} (step : (β × α) → σ → Option (σ ⊕ ε)) (g : α → σ → Option (σ ⊕ ε)) (h : ∀ x s, step x s = g x.2 s) : ∀ (L : List (β × α)) (s : σ), FS step L s = FS g (L.map (·.2)) s
  | [], s => rfl
  | x :: L, s => by
    show (step x s).bind _ = (g x.2 s).bind _
    rw [h]
    congr 1
    funext o
    cases o with
    | inl s' => exact Jt step g h L s'
    | inr e => rfl
abbrev In (w : List Nat) (i : Int) : Prop := 0 ≤ i ∧ i < (w.length : Int)
abbrev wg (w : List Nat) (i : Int) : Nat := w.getD i.toNat 0
abbrev DP : Nat := 9218868437227405312
def Hg (a b : Nat) : Nat := A4 a b
def Mz (w : List Nat) (l : List Int) : Nat := l.foldr (fun i c => Hg (wg w i) c) 0
def Py (w : List Nat) (l : List Int) : Nat := if ∀ i ∈ l, In w i then Mz w l else DP
theorem GB {w : List Nat} {i : Int} (h : In w i) : ix w i = some (wg w i) := by
  have h2 : i.toNat < w.length := by omega
  rw [show i = ((i.toNat : Nat) : Int) by omega]
  refine (BS (List.getElem?_eq_getElem h2)).trans ?_
  congr 1
  unfold wg
  rw [Int.toNat_natCast, List.getD_eq_getElem?_getD, List.getElem?_eq_getElem h2]; rfl
theorem Jv (w : List Nat) (i : Int) : B2 w i = decide (In w i) := by unfold B2; rw [← Bool.decide_and]
def JB (w : List Nat) (i : Int) (c : Nat) : Option (Nat ⊕ Nat) := if In w i then some (.inl (Hg (wg w i) c)) else some (.inr DP)
theorem OP (w : List Nat) (x : Int × Int) (c : Nat) : Dt w x c = JB w x.2 c := by
  rw [Dt, Jv]
  unfold JB
  by_cases h : In w x.2
  · rw [decide_eq_true h, if_neg (by decide), if_pos h, GB h]; rfl
  · rw [decide_eq_false h, if_pos (by decide), if_neg h, Ly.1]; rfl
theorem Jp (w : List Nat) : ∀ (l : List Int), FS (JB w) l.reverse 0 = some (if ∀ i ∈ l, In w i then .inl (Mz w l) else .inr DP)
  | [] => by rw [if_pos (by simp)]; rfl
  | i :: l => by
    rw [List.reverse_cons, JG, Jp w l]
    by_cases h : ∀ i ∈ l, In w i
    · rw [if_pos h]
      show (JB w i (Mz w l)).bind _ = _
      unfold JB
      by_cases hi : In w i
      · rw [if_pos hi, if_pos (by simpa using ⟨hi, h⟩)]; rfl
      · rw [if_neg hi, if_neg (fun hc => hi (hc i (by simp)))]; rfl
    · rw [if_neg h, if_neg (fun hc => h fun x hx => hc x (by simp [hx]))]; rfl
theorem OZ (w : List Nat) {l : List Int} (hl : l.length ≤ 1000000000) : EW w l = some (Py w l) := by
  unfold EW
  rw [if_pos hl |> (fun h => show back l = some (OA l) from h), Option.bind_some, Jt (Dt w) (JB w) (OP w), OY, Jp]
  unfold Py
  by_cases h : ∀ i ∈ l, In w i
  · rw [if_pos h, if_pos h]; rfl
  · rw [if_neg h, if_neg h]; rfl
abbrev nz (L : List Nat) : List Int := L.map (fun n : Nat => (n : Int))
theorem OV {L : List Nat} (hl : L.length ≤ 1000000) : F0 (nz L) = some (L.map FX) := by
  unfold F0
  rw [MB (nz L) (by simp; omega) (fun x => C4 x) (Ey (nz L)) (fun k hk out ho => by
    rw [Ey, if_pos (by omega), BS (List.getElem?_eq_getElem hk), Option.bind_some]) (fun out => by rw [Ey, if_neg (by omega)]), Option.bind_some, List.map_map]
  congr 1
  refine List.map_congr_left fun x _ => ?_
  exact Qg x
theorem N7 {x : Nat} (h : GM x) : BH (FX x) ↔ BH x := by
  by_cases hn : Co x
  · rw [J6 hn]
    have hw := (IM h).1 hn
    unfold BH
    omega
  · rw [IP hn]
abbrev Pm (L : List Nat) : Prop := ∀ x ∈ L, BH x
noncomputable instance (L : List Nat) : Decidable (Pm L) := Classical.propDecidable _
theorem MG {L : List Nat} (hl : L.length ≤ 1000000) (links : Int) : Fu (nz L) links = some (decide (Pm L ∧ (L.length : Int) = links)) := by
  have hd : DecidablePred fun x : Int => ¬ C8 x = true := fun _ => inferInstance
  unfold Fu
  rw [Gp (nz L) (by simp; omega) (DT (nz L)) (fun x => ¬ C8 x = true) false (fun k hk => by
    rw [DT, if_pos (by omega), BS (List.getElem?_eq_getElem hk), Option.bind_some]
    by_cases c : C8 (nz L)[k] = true
    · rw [if_neg (by rw [c]; decide), if_neg (fun h => h c)]
    · rw [if_pos (by rw [Bool.eq_false_iff.2 c]; rfl), if_pos c]) (by rw [DT, if_neg (by omega)])]
  by_cases h : Pm L
  · rw [if_neg (fun ⟨x, hx, hn⟩ => by
      obtain ⟨y, hy, rfl⟩ := List.mem_map.1 hx
      exact hn (IL.2 (h y hy))), OX]
    congr 1
    exact decide_eq_decide.2 ⟨fun h1 => ⟨h, by simpa using h1⟩, fun h1 => by simpa using h1.2⟩
  · have hx : ∃ x ∈ L, ¬ BH x := Classical.byContradiction fun hc => h fun x hx => Classical.byContradiction fun hn => hc ⟨x, hx, hn⟩
    obtain ⟨x, hx, hn⟩ := hx
    rw [if_pos ⟨(x : Int), List.mem_map.2 ⟨x, hx, rfl⟩, fun hc => hn (IL.1 hc)⟩]
    show some false = _
    rw [decide_eq_false (fun hc => h hc.1)]
theorem Nk {L : List Nat} (hL : ∀ x ∈ L, GM x) (hl : L.length ≤ 1000000) (links : Int) : C6 (L.map FX) links = some (decide (Pm L ∧ (L.length : Int) = links)) := by
  unfold C6
  by_cases he : ((L.map FX).length : Int) ≠ links
  · rw [if_pos he, decide_eq_false (fun h => he (by rw [List.length_map]; exact h.2))]
  · have he' : (L.length : Int) = links := by
      have := Classical.byContradiction he
      rw [List.length_map] at this; exact this
    rw [if_neg he, Gp (L.map FX) (by simp; omega) (Cj (L.map FX)) (fun x => ¬ Cy x = true) false (fun k hk => by
      rw [Cj, if_pos (by omega), BS (List.getElem?_eq_getElem hk), Option.bind_some]
      by_cases c : Cy (L.map FX)[k] = true
      · rw [if_neg (by rw [c]; decide), if_neg (fun h => h c)]
      · rw [if_pos (by rw [Bool.eq_false_iff.2 c]; rfl), if_pos c]) (by rw [Cj, if_neg (by omega)])]
    have hc : ∀ x ∈ L, Cy (FX x) = true ↔ BH x := fun x hx => by
      rw [O1 (NG (hL x hx)), IL, N7 (hL x hx)]
    by_cases h : Pm L
    · rw [if_neg (fun ⟨x, hx, hn⟩ => by
        obtain ⟨y, hy, rfl⟩ := List.mem_map.1 hx
        exact hn ((hc y hy).2 (h y hy))), decide_eq_true ⟨h, he'⟩]; rfl
    · have hx : ∃ x ∈ L, ¬ BH x := Classical.byContradiction fun hc => h fun x hx => Classical.byContradiction fun hn => hc ⟨x, hx, hn⟩
      obtain ⟨x, hx, hn⟩ := hx
      rw [if_pos ⟨FX x, List.mem_map.2 ⟨x, hx, rfl⟩, fun h2 => hn ((hc x hx).1 h2)⟩, decide_eq_false (fun hc => h hc.1)]; rfl
def Ow (x : Nat) : Bool := decide (¬ Co x ∧ B9 x < 9218868437227405312)
theorem PM (x : Nat) : Kr x 9218868437227405312 = Ow x := by
  rw [J8]
  unfold Ow
  have h1 : ¬ Co 9218868437227405312 := by decide
  have h2 : B9 9218868437227405312 = 9218868437227405312 := by decide
  rw [h2]
  exact decide_eq_decide.2 ⟨fun h => ⟨h.1, h.2.2⟩, fun h => ⟨h.1, h1, h.2⟩⟩
theorem NK (w : List Nat) (i : Int) : Dv w i = some (decide (In w i) && Ow (wg w i)) := by
  unfold Dv
  rw [Jv]
  by_cases h : In w i
  · rw [decide_eq_true h, if_pos rfl, GB h, Option.bind_some, Ly.1, Option.bind_some, PM]; rfl
  · rw [decide_eq_false h]; rfl
theorem GN {p : Nat} (h : p ≤ DP) : rn p = p := by unfold rn; rw [if_neg (by unfold DP at h; omega)]
theorem C0 {p : Nat} (h : p ≤ DP) : BH p := .inl h
theorem cost_cfn' {p : Nat} (h : BH p) : FX p = p := IP (Ez h).2
theorem O2 {L : List Nat} (h : Pm L) {i : Int} (hi : In L i) : BH (wg L i) := h _ (by
  have h2 : i.toNat < L.length := by omega
  unfold wg
  rw [List.getD_eq_getElem?_getD, List.getElem?_eq_getElem h2]
  exact List.getElem_mem h2)
end Go.Proofs.Ytbogijdfacoccaa
