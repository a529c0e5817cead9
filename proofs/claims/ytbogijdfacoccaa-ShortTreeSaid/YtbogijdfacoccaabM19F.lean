/- Layer 19: numbers. Conditions: none. -/
import Derived.Test.YtbogijdfacoccaabLP
import Derived.Test.YtbogijdfacoccaabMR
import Derived.Test.YtbogijdfacoccaabRF
import Derived.Test.YtbogijdfacoccaabA6
namespace Go.Proofs.Ytbogijdfacoccaa
set_option linter.unusedVariables false
set_option linter.unusedSimpArgs false
open Go Go.RowKit
abbrev Gi (p : Nat) : Prop := p < 18446744073709551616
theorem HU {p : Nat} (h : Gi p) : Ch p ↔ (9218868437227405312 < p ∧ p < 9223372036854775808) ∨ 18442240474082181120 < p := by
  rcases CA h with h1 | h1 <;> omega
theorem LT (p : Nat) : B4 p = decide (Ch p) := by
  unfold B4
  rw [Jc]
  by_cases h : Ch p <;> simp [h]
theorem PL {p : Nat} (h : Gi p) : CI p (-1) = some (decide (p = 18442240474082181120)) := by
  unfold CI
  rw [if_neg (by decide), if_pos (by decide), Option.bind_some, PQ h, Jp]
  congr 1
  refine decide_eq_decide.2 ?_
  have hm := CA (b := 9218868437227405311) (by decide)
  by_cases h1 : p < 9223372036854775808
  · rw [if_pos h1]
    have := CA (b := 9223372036854775808 + p) (by omega)
    omega
  · rw [if_neg h1]
    have := CA (b := p - 9223372036854775808) (by unfold Gi at h; omega)
    omega
theorem PG {p : Nat} (h : Gi p) : CI p 1 = some (decide (p = 9218868437227405312)) := by
  unfold CI
  rw [if_neg (by decide), if_neg (by decide), Option.bind_some, Jp]
  congr 1
  refine decide_eq_decide.2 ?_
  have hm := CA (b := 9218868437227405311) (by decide)
  have := CA h
  omega
def cls (p : Nat) : Int := if Ch p then 0 else if p = 18442240474082181120 then 1 else if 9223372036854775808 < p then 2 else if p = 9218868437227405312 then 6 else if p = 9223372036854775808 then 3 else if p = 0 then 4 else 5
theorem PD {p : Nat} (h : Gi p) : C3 p = decide (9223372036854775808 ≤ p) := by
  unfold C3 Gi at *
  refine decide_eq_decide.2 ?_
  rw [PI]; split <;> omega
theorem OH {p : Nat} (h : Gi p) : Dr p = some (cls p) := by
  unfold Dr cls
  rw [LT, PL h, PG h, Md, Jp, PD h]
  have hk := CA h
  have h0 := CA (b := 0) (by decide)
  simp only [Option.bind_some, decide_eq_true_eq]
  by_cases h1 : Ch p
  · rw [if_pos h1, if_pos h1]
  · rw [if_neg h1, if_neg h1]
    by_cases h2 : p = 18442240474082181120
    · rw [if_pos h2, if_pos h2]
    · rw [if_neg h2, if_neg h2]
      by_cases h3 : 9223372036854775808 < p
      · rw [if_pos h3, if_pos (by omega)]
      · rw [if_neg h3, if_neg (by omega)]
        by_cases h4 : p = 9218868437227405312
        · rw [if_pos h4, if_pos h4]
        · rw [if_neg h4, if_neg h4]
          by_cases h5 : p = 9223372036854775808
          · rw [if_neg (by omega), if_pos (by omega), if_pos h5]
          · rw [if_neg h5]
            by_cases h6 : p = 0
            · rw [if_neg (by omega), if_neg (by omega), if_pos h6]
            · rw [if_pos (by omega), if_neg h6]
theorem J1 {p : Nat} (h : Gi p) : Cq (p : Int) = ((FG p : Nat) : Int) := by
  unfold Cq FG
  rw [Int.tmod_eq_emod_of_nonneg (by omega)]
  by_cases h1 : 9218868437227405312 < p % 9223372036854775808
  · rw [if_pos h1, if_pos (by omega)]; rfl
  · rw [if_neg h1, if_neg (by omega)]
theorem Hp {p : Nat} (h : Ch p) : FG p = 9221120237041090561 := if_pos h
theorem Gn {p : Nat} (h : ¬ Ch p) : FG p = p := if_neg h
theorem P2 {p : Nat} (h : Gi p) : FG p = 9221120237041090561 ↔ Ch p := by
  by_cases h1 : Ch p
  · simp [Hp h1, h1]
  · rw [Gn h1]
    simp only [h1, iff_false]
    rintro rfl
    exact h1 (by unfold Ch; decide)
theorem NO {p : Nat} (h : Gi p) : GO (p : Int) = cls p := by
  unfold GO cls
  rw [J1 h]
  have hw := HU h
  by_cases h1 : Ch p
  · rw [if_pos h1, Hp h1, if_pos (by decide)]
  · rw [if_neg h1, Gn h1, if_neg (by rintro h9; exact h1 ((P2 h).1 (by rw [Gn h1]; omega)))]
    by_cases h2 : p = 18442240474082181120
    · rw [if_pos h2, if_pos (by omega)]
    · rw [if_neg h2, if_neg (by omega)]
      by_cases h3 : 9223372036854775808 < p
      · rw [if_pos h3, if_pos (by omega)]
      · rw [if_neg h3, if_neg (by omega)]
        by_cases h4 : p = 9218868437227405312
        · rw [if_pos h4, if_neg (by omega), if_neg (by omega), if_neg (by omega)]
        · rw [if_neg h4]
          by_cases h5 : p = 9223372036854775808
          · rw [if_pos (by omega), if_pos h5]
          · rw [if_neg (by omega), if_neg h5]
            by_cases h6 : p = 0
            · rw [if_pos (by omega), if_pos h6]
            · rw [if_neg (by omega), if_neg h6, if_pos (by omega)]
theorem Kk (p : Nat) : Bx p = FG p := by
  unfold Bx FG
  rw [LT]
  unfold Ch
  simp only [decide_eq_true_eq]
theorem O3 {p : Nat} (h : Gi p) : Gi (FG p) := by
  by_cases h1 : Ch p
  · rw [Hp h1]; unfold Gi; decide
  · rw [Gn h1]; exact h
def rk (p : Nat) : Int := if cls p ≠ 0 then cls p else 7
theorem M8 {p : Nat} (h : Gi p) : Dm p = some (rk p) := by
  unfold Dm rk
  rw [OH h, Option.bind_some]
  split <;> rfl
def JY (p : Nat) : Int := if 9223372036854775808 ≤ FG p then 9223372036854775807 - ((FG p % 9223372036854775808 : Nat) : Int) else 9223372036854775808 + ((FG p : Nat) : Int)
theorem GJ {p : Nat} (h : Gi p) : (Ch p ∧ rk p = 7 ∧ JY p = 18444492273895866369) ∨ (¬ Ch p ∧ ((p = 18442240474082181120 ∧ rk p = 1 ∧ JY p = 4503599627370495 ∧ Ci p = -9218868437227405312) ∨ (9223372036854775808 < p ∧ p < 18442240474082181120 ∧ rk p = 2 ∧ JY p = 18446744073709551615 - (p : Int) ∧ Ci p = 9223372036854775808 - (p : Int))
    ∨ (p = 9223372036854775808 ∧ rk p = 3 ∧ JY p = 9223372036854775807 ∧ Ci p = 0) ∨ (p = 0 ∧ rk p = 4 ∧ JY p = 9223372036854775808 ∧ Ci p = 0) ∨ (0 < p ∧ p < 9218868437227405312 ∧ rk p = 5 ∧ JY p = 9223372036854775808 + (p : Int) ∧ Ci p = (p : Int)) ∨ (p = 9218868437227405312 ∧ rk p = 6 ∧ JY p = 18442240474082181120 ∧ Ci p = 9218868437227405312))) := by
  have hk := CA h
  have hw := HU h
  unfold Gi at h
  by_cases h1 : Ch p
  · left
    refine ⟨h1, ?_, ?_⟩
    · unfold rk cls; rw [if_pos h1]; decide
    · unfold JY; rw [Hp h1]; decide
  · right
    refine ⟨h1, ?_⟩
    have e2 : rk p = (if p = 18442240474082181120 then 1 else if 9223372036854775808 < p then 2 else if p = 9218868437227405312 then 6 else if p = 9223372036854775808 then 3 else if p = 0 then 4 else 5) := by
      unfold rk cls
      rw [if_neg h1]
      by_cases c1 : p = 18442240474082181120 <;> by_cases c2 : 9223372036854775808 < p <;> by_cases c3 : p = 9218868437227405312 <;> by_cases c4 : p = 9223372036854775808 <;> by_cases c5 : p = 0 <;> simp only [c1, c2, c3, c4, c5, if_true, if_false] <;> decide
    have e3 : JY p = (if 9223372036854775808 ≤ p then 9223372036854775807 - ((p % 9223372036854775808 : Nat) : Int) else 9223372036854775808 + (p : Int)) := by
      unfold JY; rw [Gn h1]
    generalize rk p = a at *
    generalize JY p = b at *
    generalize Ci p = c at *
    by_cases c1 : p = 18442240474082181120
    · rw [if_pos c1] at e2; rw [if_pos (by omega)] at e3; left; omega
    · rw [if_neg c1] at e2
      by_cases c2 : 9223372036854775808 < p
      · rw [if_pos c2] at e2; rw [if_pos (by omega)] at e3; right; left; omega
      · rw [if_neg c2] at e2
        by_cases c3 : p = 9218868437227405312
        · rw [if_pos c3] at e2; rw [if_neg (by omega)] at e3; right; right; right; right; right; omega
        · rw [if_neg c3] at e2
          by_cases c4 : p = 9223372036854775808
          · rw [if_pos c4] at e2; rw [if_pos (by omega)] at e3; right; right; left; omega
          · rw [if_neg c4] at e2
            by_cases c5 : p = 0
            · rw [if_pos c5] at e2; rw [if_neg (by omega)] at e3; right; right; right; left; omega
            · rw [if_neg c5] at e2; rw [if_neg (by omega)] at e3; right; right; right; right; left; omega
def LP (a b : Int) : Int := if a < b then -1 else if b < a then 1 else 0
theorem Mo (a b : Int) : (a < b ∧ LP a b = -1) ∨ (b < a ∧ LP a b = 1) ∨ (a = b ∧ LP a b = 0) := by
  unfold LP
  by_cases h1 : a < b
  · rw [if_pos h1]; exact .inl ⟨h1, rfl⟩
  · rw [if_neg h1]
    by_cases h2 : b < a
    · rw [if_pos h2]; exact .inr (.inl ⟨h2, rfl⟩)
    · rw [if_neg h2]; exact .inr (.inr ⟨by omega, rfl⟩)
theorem QK {p q : Nat} (hp : Gi p) (hq : Gi q) : (Ng p q = true ↔ rk p ≠ 7 ∧ rk q ≠ 7 ∧ Ci p < Ci q) ∧ (N8 p q = true ↔ rk p ≠ 7 ∧ rk q ≠ 7 ∧ Ci q < Ci p) ∧ (LM p q = true ↔ rk p ≠ 7 ∧ rk q ≠ 7 ∧ Ci p = Ci q) := by
  have n1 : Ch p ↔ rk p = 7 := by
    rcases GJ hp with ⟨h, h2, _⟩ | ⟨h, h2⟩
    · simp [h, h2]
    · simp only [h, false_iff]; omega
  have n2 : Ch q ↔ rk q = 7 := by
    rcases GJ hq with ⟨h, h2, _⟩ | ⟨h, h2⟩
    · simp [h, h2]
    · simp only [h, false_iff]; omega
  rw [Md, Jp, Jc]
  simp only [decide_eq_true_eq]
  rw [n1, n2]
  exact ⟨Iff.rfl, Iff.rfl, Iff.rfl⟩
theorem Mc {p q : Nat} (hp : Gi p) (hq : Gi q) : CH p q = some (LP (JY p) (JY q)) := by
  unfold CH LP
  rw [M8 hp, Option.bind_some, M8 hq, Option.bind_some]
  obtain ⟨l1, l2, l3⟩ := QK hp hq
  simp only [l1, l2]
  have cp : (rk p = 7 ∧ JY p = 18444492273895866369) ∨ _ := (GJ hp).imp (fun h => h.2) (fun h => h.2)
  have cq : (rk q = 7 ∧ JY q = 18444492273895866369) ∨ _ := (GJ hq).imp (fun h => h.2) (fun h => h.2)
  clear l1 l2 l3
  generalize rk p = a1 at *
  generalize JY p = a2 at *
  generalize Ci p = a3 at *
  generalize rk q = b1 at *
  generalize JY q = b2 at *
  generalize Ci q = b3 at *
  by_cases h1 : a1 < b1
  · rw [if_pos h1, if_pos (by omega)]
  · rw [if_neg h1]
    by_cases h2 : b1 < a1
    · rw [if_pos h2, if_neg (by omega), if_pos (by omega)]
    · rw [if_neg h2]
      by_cases h3 : a1 ≠ 7 ∧ b1 ≠ 7 ∧ a3 < b3
      · rw [if_pos h3, if_pos (by omega)]
      · rw [if_neg h3]
        by_cases h4 : a1 ≠ 7 ∧ b1 ≠ 7 ∧ b3 < a3
        · rw [if_pos h4, if_neg (by omega), if_pos (by omega)]
        · rw [if_neg h4, if_neg (by omega), if_neg (by omega)]
theorem QE {n : Int} (h : (Lit.int .u64 n).wf = true) : ∃ p : Nat, n = (p : Int) ∧ Gi p := by
  simp only [Lit.wf, IntKind.has] at h
  have : 0 ≤ n ∧ n ≤ 18446744073709551615 := by simpa [IntKind.min, IntKind.max, IntKind.bits, IntKind.signed] using h
  exact ⟨n.toNat, by omega, by unfold Gi; omega⟩
theorem Q3 (p : Nat) : Dh (p : Int) = FG p := by unfold Dh; rw [Kk]; simp
theorem Nh (a b : Nat) : A6 a b = if FG (Fy a b) = 9223372036854775808 then 0 else FG (Fy a b) := by
  unfold A6
  rw [Kk, Jc]
  have h := O3 (Ni a b)
  have hk := CA h
  have hw := HU h
  have h0 := CA (b := 0) (by decide)
  simp only [decide_eq_true_eq]
  generalize FG (Fy a b) = s at *
  by_cases h1 : s = 9223372036854775808
  · rw [if_pos h1, if_pos (by omega)]
  · rw [if_neg h1]
    by_cases h2 : s = 0
    · subst h2; split <;> rfl
    · rw [if_neg (by omega)]
theorem PR {p : Nat} (h : Gi p) : CG p = Dl (p : Int) := by
  unfold CG Dl
  rw [Jp, Jc, ← Bool.decide_or, ← Bool.decide_or]
  refine decide_eq_decide.2 ?_
  have hk := CA h
  have h0 := CA (b := 0) (by decide)
  omega
theorem Ry {l : List Int} (h : Qc (fun n => (Lit.int .u64 n).wf = true) l) : ∃ L : List Nat, l = L.map (fun n : Nat => (n : Int)) ∧ ∀ x ∈ L, Gi x := by
  have key : ∀ l : List Int, (∀ x ∈ l, (Lit.int .u64 x).wf = true) → ∃ L : List Nat, l = L.map (fun n : Nat => (n : Int)) ∧ ∀ x ∈ L, Gi x := by
    intro l
    induction l with
    | nil => exact fun _ => ⟨[], rfl, by simp⟩
    | cons a l ih =>
      intro h
      obtain ⟨L, rfl, hL⟩ := ih fun x hx => h x (List.mem_cons_of_mem _ hx)
      obtain ⟨n, rfl, hn⟩ := QE (h a (List.mem_cons_self ..))
      exact ⟨n :: L, rfl, fun x hx => (List.mem_cons.1 hx).elim (fun e => e ▸ hn) (hL x)⟩
  exact key l h.2
theorem Lc {p : Nat} : cls p = 0 ↔ Ch p := by
  unfold cls
  by_cases h : Ch p
  · simp [h]
  · rw [if_neg h]
    simp only [h, iff_false]
    repeat' split
    all_goals decide
theorem PZ (a b : Int) : LP a b < 0 ↔ a < b := by have := Mo a b; omega
theorem KD : C6 1 = some 9218868437227405312 ∧ C6 (-1) = some 18442240474082181120 := ⟨by unfold C6; rfl, by unfold C6; rfl⟩
def rn (p : Nat) : Nat := if p = 9223372036854775808 then 0 else p
theorem Qd {p : Nat} (h : BL p) : rn p ≤ 9218868437227405312 := by unfold rn BL at *; split <;> omega
theorem FH {p : Nat} (h : BL p) : Ci p = (rn p : Int) ∧ ¬ Ch p := by
  unfold BL at h
  have hk := CA (b := p) (by omega)
  unfold rn
  split <;> omega
theorem Kv (p : Nat) : F3 p = Fg (rn p) := by
  unfold F3 rn
  split
  · decide
  · rfl
theorem MV (W : Nat) : Ih W ≤ 9218868437227405312 := by unfold Ih; omega
theorem EF {a b : Nat} (ha : BL a) (hb : BL b) : A6 a b = if a = 9218868437227405312 ∨ b = 9218868437227405312 then 9218868437227405312 else Ih (F3 a + F3 b) := by
  rw [Nh]
  rcases O9 ha hb with ⟨h1, h2, h3⟩ | ⟨h1, h2⟩ | ⟨h1, h2, h3, h4⟩
  · have e : FG (Fy a b) = 9223372036854775808 := by rw [h1]; decide
    rw [e, if_pos rfl, if_neg (by omega), h2, h3]; decide
  · have e : FG (Fy a b) = 9218868437227405312 := by rw [h2]; decide
    rw [e, if_neg (by decide), if_pos h1]
  · have hr := MV (F3 a + F3 b)
    have e : FG (Fy a b) = Ih (F3 a + F3 b) := by rw [h4]; exact Gn (by omega)
    rw [e, if_neg (by omega), if_neg (by omega)]
theorem MY {a b : Nat} (ha : BL a) (hb : BL b) : A6 a b ≤ 9218868437227405312 := by
  rw [EF ha hb]
  have := MV (F3 a + F3 b)
  split <;> omega
theorem Ps {a b : Nat} (ha : BL a) (hb : BL b) : rn a ≤ A6 a b := by
  rw [EF ha hb]
  have h1 := Qd ha
  by_cases h : a = 9218868437227405312 ∨ b = 9218868437227405312
  · rw [if_pos h]; exact h1
  · rw [if_neg h]
    have h2 : Ih (F3 a) = rn a := by rw [Kv]; exact OW (by have h9 := ha; unfold BL at h9; unfold rn; split <;> omega)
    have h3 := Kc (Nat.le_add_right (F3 a) (F3 b))
    omega
theorem N4 {a b : Nat} (ha : BL a) (hb : BL b) : A6 a b = A6 b a := by
  rw [EF ha hb, EF hb ha, Nat.add_comm]
  by_cases h : a = 9218868437227405312 ∨ b = 9218868437227405312
  · rw [if_pos h, if_pos h.symm]
  · rw [if_neg h, if_neg (fun h2 => h h2.symm)]
theorem N5 {a b c : Nat} (ha : BL a) (hb : BL b) (hc : BL c) (h : rn b ≤ rn c) : A6 a b ≤ A6 a c := by
  have h1 := MY ha hb
  rw [EF ha hc]
  by_cases hi : a = 9218868437227405312 ∨ c = 9218868437227405312
  · rw [if_pos hi]; exact h1
  · rw [if_neg hi, EF ha hb]
    have hb2 : ¬ (a = 9218868437227405312 ∨ b = 9218868437227405312) := by
      unfold BL rn at *
      split at h <;> split at h <;> omega
    rw [if_neg hb2]
    refine Kc ?_
    rw [Kv b, Kv c]
    have := HK (rn c) (rn b)
    omega
theorem I1 {p : Nat} : Dl (p : Int) = true ↔ BL p := by
  unfold Dl BL
  simp only [Bool.or_eq_true, decide_eq_true_eq]
  omega
theorem P5 {α : Type} (l : List α) : (Po l).map (·.2) = l.reverse := by
  unfold Po
  rw [List.map_reverse, List.map_map]
  congr 1
  refine List.ext_getElem (by simp) fun i h1 h2 => by simp
theorem PM {α β : Type} (t : α) (k : α → Option β) : IW (some (Sum.inl t)) k = k t := rfl
theorem Kl {α σ ε : Type} (step : α → σ → Option (σ ⊕ ε)) (B : List α) : ∀ (A : List α) (s : σ), Gb step (A ++ B) s = (Gb step A s).bind fun o => match o with | .inl s' => Gb step B s' | .inr e => some (.inr e)
  | [], s => rfl
  | x :: A, s => by
    show (step x s).bind _ = ((step x s).bind _).bind _
    cases step x s with
    | none => rfl
    | some o =>
      cases o with
      | inl s' => exact Kl step B A s'
      | inr e => rfl
theorem J4 {α β σ ε : Type} (step : (β × α) → σ → Option (σ ⊕ ε)) (g : α → σ → Option (σ ⊕ ε)) (h : ∀ x s, step x s = g x.2 s) : ∀ (L : List (β × α)) (s : σ), Gb step L s = Gb g (L.map (·.2)) s
  | [], s => rfl
  | x :: L, s => by
    show (step x s).bind _ = (g x.2 s).bind _
    rw [h]
    congr 1
    funext o
    cases o with
    | inl s' => exact J4 step g h L s'
    | inr e => rfl
abbrev In (w : List Nat) (i : Int) : Prop := 0 ≤ i ∧ i < (w.length : Int)
abbrev wg (w : List Nat) (i : Int) : Nat := w.getD i.toNat 0
abbrev CU : Nat := 9218868437227405312
def Fu (a b : Nat) : Nat := A6 a b
def NF (w : List Nat) (l : List Int) : Nat := l.foldr (fun i c => Fu (wg w i) c) 0
def Qh (w : List Nat) (l : List Int) : Nat := if ∀ i ∈ l, In w i then NF w l else CU
theorem Gd {w : List Nat} {i : Int} (h : In w i) : ix w i = some (wg w i) := by
  have h2 : i.toNat < w.length := by omega
  rw [show i = ((i.toNat : Nat) : Int) by omega]
  refine (Bl (List.getElem?_eq_getElem h2)).trans ?_
  congr 1
  unfold wg
  rw [Int.toNat_natCast, List.getD_eq_getElem?_getD, List.getElem?_eq_getElem h2]; rfl
theorem Kq (w : List Nat) (i : Int) : B8 w i = decide (In w i) := by unfold B8; rw [← Bool.decide_and]
def J2 (w : List Nat) (i : Int) (c : Nat) : Option (Nat ⊕ Nat) := if In w i then some (.inl (Fu (wg w i) c)) else some (.inr CU)
theorem PS (w : List Nat) (x : Int × Int) (c : Nat) : DO w x c = J2 w x.2 c := by
  rw [DO, Kq]
  unfold J2
  by_cases h : In w x.2
  · rw [decide_eq_true h, if_neg (by decide), if_pos h, Gd h]; rfl
  · rw [decide_eq_false h, if_pos (by decide), if_neg h, KD.1]; rfl
theorem Kb (w : List Nat) : ∀ (l : List Int), Gb (J2 w) l.reverse 0 = some (if ∀ i ∈ l, In w i then .inl (NF w l) else .inr CU)
  | [] => by rw [if_pos (by simp)]; rfl
  | i :: l => by
    rw [List.reverse_cons, Kl, Kb w l]
    by_cases h : ∀ i ∈ l, In w i
    · rw [if_pos h]
      show (J2 w i (NF w l)).bind _ = _
      unfold J2
      by_cases hi : In w i
      · rw [if_pos hi, if_pos (by simpa using ⟨hi, h⟩)]; rfl
      · rw [if_neg hi, if_neg (fun hc => hi (hc i (by simp)))]; rfl
    · rw [if_neg h, if_neg (fun hc => h fun x hx => hc x (by simp [hx]))]; rfl
theorem PC (w : List Nat) {l : List Int} (hl : l.length ≤ 1000000000) : DX w l = some (Qh w l) := by
  unfold DX
  rw [if_pos hl |> (fun h => show back l = some (Po l) from h), Option.bind_some, J4 (DO w) (J2 w) (PS w), P5, Kb]
  unfold Qh
  by_cases h : ∀ i ∈ l, In w i
  · rw [if_pos h, if_pos h]; rfl
  · rw [if_neg h, if_neg h]; rfl
theorem Re (a b : Nat) : Fu a b = if FG (Fy a b) = 9223372036854775808 then 0 else FG (Fy a b) := Nh a b
abbrev nz (L : List Nat) : List Int := L.map (fun n : Nat => (n : Int))
theorem IB {L : List Nat} {i : Int} (h : In L i) : ix (nz L) i = some ((wg L i : Nat) : Int) := by
  have h2 : i.toNat < L.length := by omega
  rw [show i = ((i.toNat : Nat) : Int) by omega]
  refine (Bl (x := ((L[i.toNat]'h2 : Nat) : Int)) (by rw [List.getElem?_map, List.getElem?_eq_getElem h2]; rfl)).trans ?_
  congr 2
  unfold wg
  rw [Int.toNat_natCast, List.getD_eq_getElem?_getD, List.getElem?_eq_getElem h2]; rfl
theorem KW {a b : Nat} : GC (a : Int) (b : Int) = ((Fu a b : Nat) : Int) := by
  unfold GC
  simp only [Int.toNat_natCast]
  rw [J1 (Ni a b), Re]
  split
  · rename_i h
    rw [if_pos (by omega)]; rfl
  · rename_i h
    rw [if_neg (by omega)]
theorem PE {L : List Nat} (hl : L.length ≤ 1000000) : Gj (nz L) = some (L.map FG) := by
  unfold Gj
  rw [Nz (nz L) (by simp; omega) (fun x => Dh x) (EM (nz L)) (fun k hk out ho => by
    rw [EM, if_pos (by omega), Bl (List.getElem?_eq_getElem hk), Option.bind_some]) (fun out => by rw [EM, if_neg (by omega)]), Option.bind_some, List.map_map]
  congr 1
  refine List.map_congr_left fun x _ => ?_
  exact Q3 x
theorem Oj {x : Nat} (h : Gi x) : BL (FG x) ↔ BL x := by
  by_cases hn : Ch x
  · rw [Hp hn]
    have hw := (HU h).1 hn
    unfold BL
    omega
  · rw [Gn hn]
abbrev P7 (L : List Nat) : Prop := ∀ x ∈ L, BL x
noncomputable instance (L : List Nat) : Decidable (P7 L) := Classical.propDecidable _
theorem Ki {L : List Nat} (hl : L.length ≤ 1000000) (links : Int) : FS (nz L) links = some (decide (P7 L ∧ (L.length : Int) = links)) := by
  have hd : DecidablePred fun x : Int => ¬ Dl x = true := fun _ => inferInstance
  unfold FS
  rw [GV (nz L) (by simp; omega) (Eu (nz L)) (fun x => ¬ Dl x = true) false (fun k hk => by
    rw [Eu, if_pos (by omega), Bl (List.getElem?_eq_getElem hk), Option.bind_some]
    by_cases c : Dl (nz L)[k] = true
    · rw [if_neg (by rw [c]; decide), if_neg (fun h => h c)]
    · rw [if_pos (by rw [Bool.eq_false_iff.2 c]; rfl), if_pos c]) (by rw [Eu, if_neg (by omega)])]
  by_cases h : P7 L
  · rw [if_neg (fun ⟨x, hx, hn⟩ => by
      obtain ⟨y, hy, rfl⟩ := List.mem_map.1 hx
      exact hn (I1.2 (h y hy))), PM]
    congr 1
    exact decide_eq_decide.2 ⟨fun h1 => ⟨h, by simpa using h1⟩, fun h1 => by simpa using h1.2⟩
  · have hx : ∃ x ∈ L, ¬ BL x := Classical.byContradiction fun hc => h fun x hx => Classical.byContradiction fun hn => hc ⟨x, hx, hn⟩
    obtain ⟨x, hx, hn⟩ := hx
    rw [if_pos ⟨(x : Int), List.mem_map.2 ⟨x, hx, rfl⟩, fun hc => hn (I1.1 hc)⟩]
    show some false = _
    rw [decide_eq_false (fun hc => h hc.1)]
theorem Pg {L : List Nat} (hL : ∀ x ∈ L, Gi x) (hl : L.length ≤ 1000000) (links : Int) : Do (L.map FG) links = some (decide (P7 L ∧ (L.length : Int) = links)) := by
  unfold Do
  by_cases he : ((L.map FG).length : Int) ≠ links
  · rw [if_pos he, decide_eq_false (fun h => he (by rw [List.length_map]; exact h.2))]
  · have he' : (L.length : Int) = links := by
      have := Classical.byContradiction he
      rw [List.length_map] at this; exact this
    rw [if_neg he, GV (L.map FG) (by simp; omega) (Cv (L.map FG)) (fun x => ¬ CG x = true) false (fun k hk => by
      rw [Cv, if_pos (by omega), Bl (List.getElem?_eq_getElem hk), Option.bind_some]
      by_cases c : CG (L.map FG)[k] = true
      · rw [if_neg (by rw [c]; decide), if_neg (fun h => h c)]
      · rw [if_pos (by rw [Bool.eq_false_iff.2 c]; rfl), if_pos c]) (by rw [Cv, if_neg (by omega)])]
    have hc : ∀ x ∈ L, CG (FG x) = true ↔ BL x := fun x hx => by
      rw [PR (O3 (hL x hx)), I1, Oj (hL x hx)]
    by_cases h : P7 L
    · rw [if_neg (fun ⟨x, hx, hn⟩ => by
        obtain ⟨y, hy, rfl⟩ := List.mem_map.1 hx
        exact hn ((hc y hy).2 (h y hy))), decide_eq_true ⟨h, he'⟩]; rfl
    · have hx : ∃ x ∈ L, ¬ BL x := Classical.byContradiction fun hc => h fun x hx => Classical.byContradiction fun hn => hc ⟨x, hx, hn⟩
      obtain ⟨x, hx, hn⟩ := hx
      rw [if_pos ⟨FG x, List.mem_map.2 ⟨x, hx, rfl⟩, fun h2 => hn ((hc x hx).1 h2)⟩, decide_eq_false (fun hc => h hc.1)]; rfl
def LB (x : Nat) : Bool := decide (¬ Ch x ∧ Ci x < 9218868437227405312)
theorem OB (x : Nat) : Ng x 9218868437227405312 = LB x := by
  rw [Md]
  unfold LB
  have h1 : ¬ Ch 9218868437227405312 := by decide
  have h2 : Ci 9218868437227405312 = 9218868437227405312 := by decide
  rw [h2]
  exact decide_eq_decide.2 ⟨fun h => ⟨h.1, h.2.2⟩, fun h => ⟨h.1, h1, h.2⟩⟩
theorem MJ (w : List Nat) (i : Int) : Di w i = some (decide (In w i) && LB (wg w i)) := by
  unfold Di
  rw [Kq]
  by_cases h : In w i
  · rw [decide_eq_true h, if_pos rfl, Gd h, Option.bind_some, KD.1, Option.bind_some, OB]; rfl
  · rw [decide_eq_false h]; rfl
theorem QG {x : Nat} (h : Gi x) : (decide (0 < cls x) && decide (cls x < 6)) = LB x := by
  rw [← Bool.decide_and]
  unfold LB
  refine decide_eq_decide.2 ?_
  have hr := GJ h
  unfold rk at hr
  by_cases h0 : cls x ≠ 0
  · rw [if_pos h0] at hr
    rcases hr with ⟨hn, h1, _⟩ | ⟨hn, h1⟩
    · exact absurd ((Lc).2 hn) h0
    · constructor
      · rintro ⟨h2, h3⟩
        refine ⟨hn, ?_⟩
        rcases h1 with h1 | h1 | h1 | h1 | h1 | h1 <;> omega
      · rintro ⟨_, h3⟩
        rcases h1 with h1 | h1 | h1 | h1 | h1 | h1 <;> omega
  · have h0 : cls x = 0 := Classical.byContradiction h0
    have hn := Lc.1 h0
    exact ⟨fun hc => by omega, fun hc => absurd hn hc.1⟩
theorem Qi {L : List Nat} (hL : ∀ x ∈ L, Gi x) (i : Int) : LY (nz L) i = some (decide (In L i) && LB (wg L i)) := by
  unfold LY
  by_cases h : In L i
  · rw [if_neg (by simp; omega), IB h, Option.bind_some]
    have hw : Gi (wg L i) := hL _ (by
      have h2 : i.toNat < L.length := by omega
      unfold wg
      rw [List.getD_eq_getElem?_getD, List.getElem?_eq_getElem h2]
      exact List.getElem_mem h2)
    rw [NO hw, QG hw, decide_eq_true h]; rfl
  · rw [if_pos (by simp; omega), decide_eq_false h]; rfl
theorem Iv {p : Nat} (h : p ≤ CU) : rn p = p := by unfold rn; rw [if_neg (by unfold CU at h; omega)]
theorem Dz {p : Nat} (h : p ≤ CU) : BL p := .inl h
theorem cost_cfn' {p : Nat} (h : BL p) : FG p = p := Gn (FH h).2
theorem PB {L : List Nat} (h : P7 L) {i : Int} (hi : In L i) : BL (wg L i) := h _ (by
  have h2 : i.toNat < L.length := by omega
  unfold wg
  rw [List.getD_eq_getElem?_getD, List.getElem?_eq_getElem h2]
  exact List.getElem_mem h2)
end Go.Proofs.Ytbogijdfacoccaa
