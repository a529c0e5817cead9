/- Layer 19: numbers. Conditions: none. -/
import Derived.Test.YtbogijdfacoccaabLP
import Derived.Test.YtbogijdfacoccaabMR
import Derived.Test.YtbogijdfacoccaabRF
import Derived.Test.YtbogijdfacoccaabA6
namespace Go.Proofs.Ytbogijdfacoccaa
set_option linter.unusedVariables false
set_option linter.unusedSimpArgs false
open Go Go.RowKit
abbrev F9 (p : Nat) : Prop := p < 18446744073709551616
theorem Hh {p : Nat} (h : F9 p) : B9 p ↔ (9218868437227405312 < p ∧ p < 9223372036854775808) ∨ 18442240474082181120 < p := by
  rcases Cr h with h1 | h1 <;> omega
theorem Lh (p : Nat) : BW p = decide (B9 p) := by
  unfold BW
  rw [IM]
  by_cases h : B9 p <;> simp [h]
theorem OT {p : Nat} (h : F9 p) : Cz p (-1) = some (decide (p = 18442240474082181120)) := by
  unfold Cz
  rw [if_neg (by decide), if_pos (by decide), Option.bind_some, Pl h, Jh]
  congr 1
  refine decide_eq_decide.2 ?_
  have hm := Cr (b := 9218868437227405311) (by decide)
  by_cases h1 : p < 9223372036854775808
  · rw [if_pos h1]
    have := Cr (b := 9223372036854775808 + p) (by omega)
    omega
  · rw [if_neg h1]
    have := Cr (b := p - 9223372036854775808) (by unfold F9 at h; omega)
    omega
theorem Pf {p : Nat} (h : F9 p) : Cz p 1 = some (decide (p = 9218868437227405312)) := by
  unfold Cz
  rw [if_neg (by decide), if_neg (by decide), Option.bind_some, Jh]
  congr 1
  refine decide_eq_decide.2 ?_
  have hm := Cr (b := 9218868437227405311) (by decide)
  have := Cr h
  omega
def cls (p : Nat) : Int := if B9 p then 0 else if p = 18442240474082181120 then 1 else if 9223372036854775808 < p then 2 else if p = 9218868437227405312 then 6 else if p = 9223372036854775808 then 3 else if p = 0 then 4 else 5
theorem OM {p : Nat} (h : F9 p) : CQ p = decide (9223372036854775808 ≤ p) := by
  unfold CQ F9 at *
  refine decide_eq_decide.2 ?_
  rw [O9]; split <;> omega
theorem NJ {p : Nat} (h : F9 p) : C6 p = some (cls p) := by
  unfold C6 cls
  rw [Lh, OT h, Pf h, L8, Jh, OM h]
  have hk := Cr h
  have h0 := Cr (b := 0) (by decide)
  simp only [Option.bind_some, decide_eq_true_eq]
  by_cases h1 : B9 p
  · rw [if_pos h1, if_pos h1]
  · rw [if_neg h1, if_neg h1]
    by_cases h2 : p = 18442240474082181120
    · rw [if_pos h2, if_pos h2]
    · rw [if_neg h2, if_neg h2]
      by_cases h3 : 9223372036854775808 < p
      · rw [if_pos h3, if_pos (by omega)]
      · rw [if_neg h3, if_neg (by omega)]
        by_cases h4 : p = 9218868437227405312
        · rw [if_pos h4, if_pos h4]
        · rw [if_neg h4, if_neg h4]
          by_cases h5 : p = 9223372036854775808
          · rw [if_neg (by omega), if_pos (by omega), if_pos h5]
          · rw [if_neg h5]
            by_cases h6 : p = 0
            · rw [if_neg (by omega), if_neg (by omega), if_pos h6]
            · rw [if_pos (by omega), if_neg h6]
theorem JX {p : Nat} (h : F9 p) : Ch (p : Int) = ((FB p : Nat) : Int) := by
  unfold Ch FB
  rw [Int.tmod_eq_emod_of_nonneg (by omega)]
  by_cases h1 : 9218868437227405312 < p % 9223372036854775808
  · rw [if_pos h1, if_pos (by omega)]; rfl
  · rw [if_neg h1, if_neg (by omega)]
theorem Hb {p : Nat} (h : B9 p) : FB p = 9221120237041090561 := if_pos h
theorem Gm {p : Nat} (h : ¬ B9 p) : FB p = p := if_neg h
theorem OP {p : Nat} (h : F9 p) : FB p = 9221120237041090561 ↔ B9 p := by
  by_cases h1 : B9 p
  · simp [Hb h1, h1]
  · rw [Gm h1]
    simp only [h1, iff_false]
    rintro rfl
    exact h1 (by unfold B9; decide)
theorem Na {p : Nat} (h : F9 p) : GJ (p : Int) = cls p := by
  unfold GJ cls
  rw [JX h]
  have hw := Hh h
  by_cases h1 : B9 p
  · rw [if_pos h1, Hb h1, if_pos (by decide)]
  · rw [if_neg h1, Gm h1, if_neg (by rintro h9; exact h1 ((OP h).1 (by rw [Gm h1]; omega)))]
    by_cases h2 : p = 18442240474082181120
    · rw [if_pos h2, if_pos (by omega)]
    · rw [if_neg h2, if_neg (by omega)]
      by_cases h3 : 9223372036854775808 < p
      · rw [if_pos h3, if_pos (by omega)]
      · rw [if_neg h3, if_neg (by omega)]
        by_cases h4 : p = 9218868437227405312
        · rw [if_pos h4, if_neg (by omega), if_neg (by omega), if_neg (by omega)]
        · rw [if_neg h4]
          by_cases h5 : p = 9223372036854775808
          · rw [if_pos (by omega), if_pos h5]
          · rw [if_neg (by omega), if_neg h5]
            by_cases h6 : p = 0
            · rw [if_pos (by omega), if_pos h6]
            · rw [if_neg (by omega), if_neg h6, if_pos (by omega)]
theorem JI (p : Nat) : Bp p = FB p := by
  unfold Bp FB
  rw [Lh]
  unfold B9
  simp only [decide_eq_true_eq]
theorem OB {p : Nat} (h : F9 p) : F9 (FB p) := by
  by_cases h1 : B9 p
  · rw [Hb h1]; unfold F9; decide
  · rw [Gm h1]; exact h
def rk (p : Nat) : Int := if cls p ≠ 0 then cls p else 7
theorem MC {p : Nat} (h : F9 p) : Dc p = some (rk p) := by
  unfold Dc rk
  rw [NJ h, Option.bind_some]
  split <;> rfl
def Jy (p : Nat) : Int := if 9223372036854775808 ≤ FB p then 9223372036854775807 - ((FB p % 9223372036854775808 : Nat) : Int) else 9223372036854775808 + ((FB p : Nat) : Int)
theorem Gw {p : Nat} (h : F9 p) : (B9 p ∧ rk p = 7 ∧ Jy p = 18444492273895866369) ∨ (¬ B9 p ∧ ((p = 18442240474082181120 ∧ rk p = 1 ∧ Jy p = 4503599627370495 ∧ Ca p = -9218868437227405312) ∨ (9223372036854775808 < p ∧ p < 18442240474082181120 ∧ rk p = 2 ∧ Jy p = 18446744073709551615 - (p : Int) ∧ Ca p = 9223372036854775808 - (p : Int))
    ∨ (p = 9223372036854775808 ∧ rk p = 3 ∧ Jy p = 9223372036854775807 ∧ Ca p = 0) ∨ (p = 0 ∧ rk p = 4 ∧ Jy p = 9223372036854775808 ∧ Ca p = 0) ∨ (0 < p ∧ p < 9218868437227405312 ∧ rk p = 5 ∧ Jy p = 9223372036854775808 + (p : Int) ∧ Ca p = (p : Int)) ∨ (p = 9218868437227405312 ∧ rk p = 6 ∧ Jy p = 18442240474082181120 ∧ Ca p = 9218868437227405312))) := by
  have hk := Cr h
  have hw := Hh h
  unfold F9 at h
  by_cases h1 : B9 p
  · left
    refine ⟨h1, ?_, ?_⟩
    · unfold rk cls; rw [if_pos h1]; decide
    · unfold Jy; rw [Hb h1]; decide
  · right
    refine ⟨h1, ?_⟩
    have e2 : rk p = (if p = 18442240474082181120 then 1 else if 9223372036854775808 < p then 2 else if p = 9218868437227405312 then 6 else if p = 9223372036854775808 then 3 else if p = 0 then 4 else 5) := by
      unfold rk cls
      rw [if_neg h1]
      by_cases c1 : p = 18442240474082181120 <;> by_cases c2 : 9223372036854775808 < p <;> by_cases c3 : p = 9218868437227405312 <;> by_cases c4 : p = 9223372036854775808 <;> by_cases c5 : p = 0 <;> simp only [c1, c2, c3, c4, c5, if_true, if_false] <;> decide
    have e3 : Jy p = (if 9223372036854775808 ≤ p then 9223372036854775807 - ((p % 9223372036854775808 : Nat) : Int) else 9223372036854775808 + (p : Int)) := by
      unfold Jy; rw [Gm h1]
    generalize rk p = a at *
    generalize Jy p = b at *
    generalize Ca p = c at *
    by_cases c1 : p = 18442240474082181120
    · rw [if_pos c1] at e2; rw [if_pos (by omega)] at e3; left; omega
    · rw [if_neg c1] at e2
      by_cases c2 : 9223372036854775808 < p
      · rw [if_pos c2] at e2; rw [if_pos (by omega)] at e3; right; left; omega
      · rw [if_neg c2] at e2
        by_cases c3 : p = 9218868437227405312
        · rw [if_pos c3] at e2; rw [if_neg (by omega)] at e3; right; right; right; right; right; omega
        · rw [if_neg c3] at e2
          by_cases c4 : p = 9223372036854775808
          · rw [if_pos c4] at e2; rw [if_pos (by omega)] at e3; right; right; left; omega
          · rw [if_neg c4] at e2
            by_cases c5 : p = 0
            · rw [if_pos c5] at e2; rw [if_neg (by omega)] at e3; right; right; right; left; omega
            · rw [if_neg c5] at e2; rw [if_neg (by omega)] at e3; right; right; right; right; left; omega
def KK (a b : Int) : Int := if a < b then -1 else if b < a then 1 else 0
theorem LQ (a b : Int) : (a < b ∧ KK a b = -1) ∨ (b < a ∧ KK a b = 1) ∨ (a = b ∧ KK a b = 0) := by
  unfold KK
  by_cases h1 : a < b
  · rw [if_pos h1]; exact .inl ⟨h1, rfl⟩
  · rw [if_neg h1]
    by_cases h2 : b < a
    · rw [if_pos h2]; exact .inr (.inl ⟨h2, rfl⟩)
    · rw [if_neg h2]; exact .inr (.inr ⟨by omega, rfl⟩)
theorem Py {p q : Nat} (hp : F9 p) (hq : F9 q) : (Mv p q = true ↔ rk p ≠ 7 ∧ rk q ≠ 7 ∧ Ca p < Ca q) ∧ (Ns p q = true ↔ rk p ≠ 7 ∧ rk q ≠ 7 ∧ Ca q < Ca p) ∧ (KR p q = true ↔ rk p ≠ 7 ∧ rk q ≠ 7 ∧ Ca p = Ca q) := by
  have n1 : B9 p ↔ rk p = 7 := by
    rcases Gw hp with ⟨h, h2, _⟩ | ⟨h, h2⟩
    · simp [h, h2]
    · simp only [h, false_iff]; omega
  have n2 : B9 q ↔ rk q = 7 := by
    rcases Gw hq with ⟨h, h2, _⟩ | ⟨h, h2⟩
    · simp [h, h2]
    · simp only [h, false_iff]; omega
  rw [L8, Jh, IM]
  simp only [decide_eq_true_eq]
  rw [n1, n2]
  exact ⟨Iff.rfl, Iff.rfl, Iff.rfl⟩
theorem LZ {p q : Nat} (hp : F9 p) (hq : F9 q) : Cu p q = some (KK (Jy p) (Jy q)) := by
  unfold Cu KK
  rw [MC hp, Option.bind_some, MC hq, Option.bind_some]
  obtain ⟨l1, l2, l3⟩ := Py hp hq
  simp only [l1, l2]
  have cp : (rk p = 7 ∧ Jy p = 18444492273895866369) ∨ _ := (Gw hp).imp (fun h => h.2) (fun h => h.2)
  have cq : (rk q = 7 ∧ Jy q = 18444492273895866369) ∨ _ := (Gw hq).imp (fun h => h.2) (fun h => h.2)
  clear l1 l2 l3
  generalize rk p = a1 at *
  generalize Jy p = a2 at *
  generalize Ca p = a3 at *
  generalize rk q = b1 at *
  generalize Jy q = b2 at *
  generalize Ca q = b3 at *
  by_cases h1 : a1 < b1
  · rw [if_pos h1, if_pos (by omega)]
  · rw [if_neg h1]
    by_cases h2 : b1 < a1
    · rw [if_pos h2, if_neg (by omega), if_pos (by omega)]
    · rw [if_neg h2]
      by_cases h3 : a1 ≠ 7 ∧ b1 ≠ 7 ∧ a3 < b3
      · rw [if_pos h3, if_pos (by omega)]
      · rw [if_neg h3]
        by_cases h4 : a1 ≠ 7 ∧ b1 ≠ 7 ∧ b3 < a3
        · rw [if_pos h4, if_neg (by omega), if_pos (by omega)]
        · rw [if_neg h4, if_neg (by omega), if_neg (by omega)]
theorem Px {n : Int} (h : (Lit.int .u64 n).wf = true) : ∃ p : Nat, n = (p : Int) ∧ F9 p := by
  simp only [Lit.wf, IntKind.has] at h
  have : 0 ≤ n ∧ n ≤ 18446744073709551615 := by simpa [IntKind.min, IntKind.max, IntKind.bits, IntKind.signed] using h
  exact ⟨n.toNat, by omega, by unfold F9; omega⟩
theorem Qe (p : Nat) : C5 (p : Int) = FB p := by unfold C5; rw [JI]; simp
theorem Mq (a b : Nat) : AX a b = if FB (Fo a b) = 9223372036854775808 then 0 else FB (Fo a b) := by
  unfold AX
  rw [JI, IM]
  have h := OB (Md a b)
  have hk := Cr h
  have hw := Hh h
  have h0 := Cr (b := 0) (by decide)
  simp only [decide_eq_true_eq]
  generalize FB (Fo a b) = s at *
  by_cases h1 : s = 9223372036854775808
  · rw [if_pos h1, if_pos (by omega)]
  · rw [if_neg h1]
    by_cases h2 : s = 0
    · subst h2; split <;> rfl
    · rw [if_neg (by omega)]
theorem OQ {p : Nat} (h : F9 p) : Cy p = C4 (p : Int) := by
  unfold Cy C4
  rw [Jh, IM, ← Bool.decide_or, ← Bool.decide_or]
  refine decide_eq_decide.2 ?_
  have hk := Cr h
  have h0 := Cr (b := 0) (by decide)
  omega
theorem QO {l : List Int} (h : Pr (fun n => (Lit.int .u64 n).wf = true) l) : ∃ L : List Nat, l = L.map (fun n : Nat => (n : Int)) ∧ ∀ x ∈ L, F9 x := by
  have key : ∀ l : List Int, (∀ x ∈ l, (Lit.int .u64 x).wf = true) → ∃ L : List Nat, l = L.map (fun n : Nat => (n : Int)) ∧ ∀ x ∈ L, F9 x := by
    intro l
    induction l with
    | nil => exact fun _ => ⟨[], rfl, by simp⟩
    | cons a l ih =>
      intro h
      obtain ⟨L, rfl, hL⟩ := ih fun x hx => h x (List.mem_cons_of_mem _ hx)
      obtain ⟨n, rfl, hn⟩ := Px (h a (List.mem_cons_self ..))
      exact ⟨n :: L, rfl, fun x hx => (List.mem_cons.1 hx).elim (fun e => e ▸ hn) (hL x)⟩
  exact key l h.2
theorem KB {p : Nat} : cls p = 0 ↔ B9 p := by
  unfold cls
  by_cases h : B9 p
  · simp [h]
  · rw [if_neg h]
    simp only [h, iff_false]
    repeat' split
    all_goals decide
theorem Pd (a b : Int) : KK a b < 0 ↔ a < b := by have := LQ a b; omega
theorem Ke : CU 1 = some 9218868437227405312 ∧ CU (-1) = some 18442240474082181120 := ⟨by unfold CU; rfl, by unfold CU; rfl⟩
def rn (p : Nat) : Nat := if p = 9223372036854775808 then 0 else p
theorem Pm {p : Nat} (h : BH p) : rn p ≤ 9218868437227405312 := by unfold rn BH at *; split <;> omega
theorem FC {p : Nat} (h : BH p) : Ca p = (rn p : Int) ∧ ¬ B9 p := by
  unfold BH at h
  have hk := Cr (b := p) (by omega)
  unfold rn
  split <;> omega
theorem Kf (p : Nat) : FX p = Fa (rn p) := by
  unfold FX rn
  split
  · decide
  · rfl
theorem Mf (W : Nat) : HV W ≤ 9218868437227405312 := by unfold HV; omega
theorem En {a b : Nat} (ha : BH a) (hb : BH b) : AX a b = if a = 9218868437227405312 ∨ b = 9218868437227405312 then 9218868437227405312 else HV (FX a + FX b) := by
  rw [Mq]
  rcases NO ha hb with ⟨h1, h2, h3⟩ | ⟨h1, h2⟩ | ⟨h1, h2, h3, h4⟩
  · have e : FB (Fo a b) = 9223372036854775808 := by rw [h1]; decide
    rw [e, if_pos rfl, if_neg (by omega), h2, h3]; decide
  · have e : FB (Fo a b) = 9218868437227405312 := by rw [h2]; decide
    rw [e, if_neg (by decide), if_pos h1]
  · have hr := Mf (FX a + FX b)
    have e : FB (Fo a b) = HV (FX a + FX b) := by rw [h4]; exact Gm (by omega)
    rw [e, if_neg (by omega), if_neg (by omega)]
theorem MF {a b : Nat} (ha : BH a) (hb : BH b) : AX a b ≤ 9218868437227405312 := by
  rw [En ha hb]
  have := Mf (FX a + FX b)
  split <;> omega
theorem OY {a b : Nat} (ha : BH a) (hb : BH b) : rn a ≤ AX a b := by
  rw [En ha hb]
  have h1 := Pm ha
  by_cases h : a = 9218868437227405312 ∨ b = 9218868437227405312
  · rw [if_pos h]; exact h1
  · rw [if_neg h]
    have h2 : HV (FX a) = rn a := by rw [Kf]; exact Om (by have h9 := ha; unfold BH at h9; unfold rn; split <;> omega)
    have h3 := JM (Nat.le_add_right (FX a) (FX b))
    omega
theorem Np {a b : Nat} (ha : BH a) (hb : BH b) : AX a b = AX b a := by
  rw [En ha hb, En hb ha, Nat.add_comm]
  by_cases h : a = 9218868437227405312 ∨ b = 9218868437227405312
  · rw [if_pos h, if_pos h.symm]
  · rw [if_neg h, if_neg (fun h2 => h h2.symm)]
theorem MJ {a b c : Nat} (ha : BH a) (hb : BH b) (hc : BH c) (h : rn b ≤ rn c) : AX a b ≤ AX a c := by
  have h1 := MF ha hb
  rw [En ha hc]
  by_cases hi : a = 9218868437227405312 ∨ c = 9218868437227405312
  · rw [if_pos hi]; exact h1
  · rw [if_neg hi, En ha hb]
    have hb2 : ¬ (a = 9218868437227405312 ∨ b = 9218868437227405312) := by
      unfold BH rn at *
      split at h <;> split at h <;> omega
    rw [if_neg hb2]
    refine JM ?_
    rw [Kf b, Kf c]
    have := Hm (rn c) (rn b)
    omega
theorem Je {p : Nat} : C4 (p : Int) = true ↔ BH p := by
  unfold C4 BH
  simp only [Bool.or_eq_true, decide_eq_true_eq]
  omega
theorem OO {α : Type} (l : List α) : (OI l).map (·.2) = l.reverse := by
  unfold OI
  rw [List.map_reverse, List.map_map]
  congr 1
  refine List.ext_getElem (by simp) fun i h1 h2 => by simp
theorem O0 {α β : Type} (t : α) (k : α → Option β) : Jj (some (Sum.inl t)) k = k t := rfl
theorem JO {α σ ε : Type} (step : α → σ → Option (σ ⊕ ε)) (B : List α) : ∀ (A : List α) (s : σ), F2 step (A ++ B) s = (F2 step A s).bind fun o => match o with | .inl s' => F2 step B s' | .inr e => some (.inr e)
  | [], s => rfl
  | x :: A, s => by
    show (step x s).bind _ = ((step x s).bind _).bind _
    cases step x s with
    | none => rfl
    | some o =>
      cases o with
      | inl s' => exact JO step B A s'
      | inr e => rfl
theorem JK {α β σ ε : Type} (step : (β × α) → σ → Option (σ ⊕ ε)) (g : α → σ → Option (σ ⊕ ε)) (h : ∀ x s, step x s = g x.2 s) : ∀ (L : List (β × α)) (s : σ), F2 step L s = F2 g (L.map (·.2)) s
  | [], s => rfl
  | x :: L, s => by
    show (step x s).bind _ = (g x.2 s).bind _
    rw [h]
    congr 1
    funext o
    cases o with
    | inl s' => exact JK step g h L s'
    | inr e => rfl
abbrev In (w : List Nat) (i : Int) : Prop := 0 ≤ i ∧ i < (w.length : Int)
abbrev wg (w : List Nat) (i : Int) : Nat := w.getD i.toNat 0
abbrev CG : Nat := 9218868437227405312
def Fv (a b : Nat) : Nat := AX a b
def Nf (w : List Nat) (l : List Int) : Nat := l.foldr (fun i c => Fv (wg w i) c) 0
def P0 (w : List Nat) (l : List Int) : Nat := if ∀ i ∈ l, In w i then Nf w l else CG
theorem F8 {w : List Nat} {i : Int} (h : In w i) : ix w i = some (wg w i) := by
  have h2 : i.toNat < w.length := by omega
  rw [show i = ((i.toNat : Nat) : Int) by omega]
  refine (Cj (List.getElem?_eq_getElem h2)).trans ?_
  congr 1
  unfold wg
  rw [Int.toNat_natCast, List.getD_eq_getElem?_getD, List.getElem?_eq_getElem h2]; rfl
theorem JT (w : List Nat) (i : Int) : B1 w i = decide (In w i) := by unfold B1; rw [← Bool.decide_and]
def J3 (w : List Nat) (i : Int) (c : Nat) : Option (Nat ⊕ Nat) := if In w i then some (.inl (Fv (wg w i) c)) else some (.inr CG)
theorem OW (w : List Nat) (x : Int × Int) (c : Nat) : DB w x c = J3 w x.2 c := by
  rw [DB, JT]
  unfold J3
  by_cases h : In w x.2
  · rw [decide_eq_true h, if_neg (by decide), if_pos h, F8 h]; rfl
  · rw [decide_eq_false h, if_pos (by decide), if_neg h, Ke.1]; rfl
theorem J4 (w : List Nat) : ∀ (l : List Int), F2 (J3 w) l.reverse 0 = some (if ∀ i ∈ l, In w i then .inl (Nf w l) else .inr CG)
  | [] => by rw [if_pos (by simp)]; rfl
  | i :: l => by
    rw [List.reverse_cons, JO, J4 w l]
    by_cases h : ∀ i ∈ l, In w i
    · rw [if_pos h]
      show (J3 w i (Nf w l)).bind _ = _
      unfold J3
      by_cases hi : In w i
      · rw [if_pos hi, if_pos (by simpa using ⟨hi, h⟩)]; rfl
      · rw [if_neg hi, if_neg (fun hc => hi (hc i (by simp)))]; rfl
    · rw [if_neg h, if_neg (fun hc => h fun x hx => hc x (by simp [hx]))]; rfl
theorem OV (w : List Nat) {l : List Int} (hl : l.length ≤ 1000000000) : DL w l = some (P0 w l) := by
  unfold DL
  rw [if_pos hl |> (fun h => show back l = some (OI l) from h), Option.bind_some, JK (DB w) (J3 w) (OW w), OO, J4]
  unfold P0
  by_cases h : ∀ i ∈ l, In w i
  · rw [if_pos h, if_pos h]; rfl
  · rw [if_neg h, if_neg h]; rfl
theorem Qp (a b : Nat) : Fv a b = if FB (Fo a b) = 9223372036854775808 then 0 else FB (Fo a b) := Mq a b
abbrev nz (L : List Nat) : List Int := L.map (fun n : Nat => (n : Int))
theorem Ih {L : List Nat} {i : Int} (h : In L i) : ix (nz L) i = some ((wg L i : Nat) : Int) := by
  have h2 : i.toNat < L.length := by omega
  rw [show i = ((i.toNat : Nat) : Int) by omega]
  refine (Cj (x := ((L[i.toNat]'h2 : Nat) : Int)) (by rw [List.getElem?_map, List.getElem?_eq_getElem h2]; rfl)).trans ?_
  congr 2
  unfold wg
  rw [Int.toNat_natCast, List.getD_eq_getElem?_getD, List.getElem?_eq_getElem h2]; rfl
theorem Lj {a b : Nat} : Gz (a : Int) (b : Int) = ((Fv a b : Nat) : Int) := by
  unfold Gz
  simp only [Int.toNat_natCast]
  rw [JX (Md a b), Qp]
  split
  · rename_i h
    rw [if_pos (by omega)]; rfl
  · rename_i h
    rw [if_neg (by omega)]
theorem Pc {L : List Nat} (hl : L.length ≤ 1000000) : Gk (nz L) = some (L.map FB) := by
  unfold Gk
  rw [Nj (nz L) (by simp; omega) (fun x => C5 x) (Ez (nz L)) (fun k hk out ho => by
    rw [Ez, if_pos (by omega), Cj (List.getElem?_eq_getElem hk), Option.bind_some]) (fun out => by rw [Ez, if_neg (by omega)]), Option.bind_some, List.map_map]
  congr 1
  refine List.map_congr_left fun x _ => ?_
  exact Qe x
theorem Og {x : Nat} (h : F9 x) : BH (FB x) ↔ BH x := by
  by_cases hn : B9 x
  · rw [Hb hn]
    have hw := (Hh h).1 hn
    unfold BH
    omega
  · rw [Gm hn]
abbrev Pn (L : List Nat) : Prop := ∀ x ∈ L, BH x
noncomputable instance (L : List Nat) : Decidable (Pn L) := Classical.propDecidable _
theorem JG {L : List Nat} (hl : L.length ≤ 1000000) (links : Int) : FJ (nz L) links = some (decide (Pn L ∧ (L.length : Int) = links)) := by
  have hd : DecidablePred fun x : Int => ¬ C4 x = true := fun _ => inferInstance
  unfold FJ
  rw [GF (nz L) (by simp; omega) (DU (nz L)) (fun x => ¬ C4 x = true) false (fun k hk => by
    rw [DU, if_pos (by omega), Cj (List.getElem?_eq_getElem hk), Option.bind_some]
    by_cases c : C4 (nz L)[k] = true
    · rw [if_neg (by rw [c]; decide), if_neg (fun h => h c)]
    · rw [if_pos (by rw [Bool.eq_false_iff.2 c]; rfl), if_pos c]) (by rw [DU, if_neg (by omega)])]
  by_cases h : Pn L
  · rw [if_neg (fun ⟨x, hx, hn⟩ => by
      obtain ⟨y, hy, rfl⟩ := List.mem_map.1 hx
      exact hn (Je.2 (h y hy))), O0]
    congr 1
    exact decide_eq_decide.2 ⟨fun h1 => ⟨h, by simpa using h1⟩, fun h1 => by simpa using h1.2⟩
  · have hx : ∃ x ∈ L, ¬ BH x := Classical.byContradiction fun hc => h fun x hx => Classical.byContradiction fun hn => hc ⟨x, hx, hn⟩
    obtain ⟨x, hx, hn⟩ := hx
    rw [if_pos ⟨(x : Int), List.mem_map.2 ⟨x, hx, rfl⟩, fun hc => hn (Je.1 hc)⟩]
    show some false = _
    rw [decide_eq_false (fun hc => h hc.1)]
theorem Od {L : List Nat} (hL : ∀ x ∈ L, F9 x) (hl : L.length ≤ 1000000) (links : Int) : C7 (L.map FB) links = some (decide (Pn L ∧ (L.length : Int) = links)) := by
  unfold C7
  by_cases he : ((L.map FB).length : Int) ≠ links
  · rw [if_pos he, decide_eq_false (fun h => he (by rw [List.length_map]; exact h.2))]
  · have he' : (L.length : Int) = links := by
      have := Classical.byContradiction he
      rw [List.length_map] at this; exact this
    rw [if_neg he, GF (L.map FB) (by simp; omega) (Cm (L.map FB)) (fun x => ¬ Cy x = true) false (fun k hk => by
      rw [Cm, if_pos (by omega), Cj (List.getElem?_eq_getElem hk), Option.bind_some]
      by_cases c : Cy (L.map FB)[k] = true
      · rw [if_neg (by rw [c]; decide), if_neg (fun h => h c)]
      · rw [if_pos (by rw [Bool.eq_false_iff.2 c]; rfl), if_pos c]) (by rw [Cm, if_neg (by omega)])]
    have hc : ∀ x ∈ L, Cy (FB x) = true ↔ BH x := fun x hx => by
      rw [OQ (OB (hL x hx)), Je, Og (hL x hx)]
    by_cases h : Pn L
    · rw [if_neg (fun ⟨x, hx, hn⟩ => by
        obtain ⟨y, hy, rfl⟩ := List.mem_map.1 hx
        exact hn ((hc y hy).2 (h y hy))), decide_eq_true ⟨h, he'⟩]; rfl
    · have hx : ∃ x ∈ L, ¬ BH x := Classical.byContradiction fun hc => h fun x hx => Classical.byContradiction fun hn => hc ⟨x, hx, hn⟩
      obtain ⟨x, hx, hn⟩ := hx
      rw [if_pos ⟨FB x, List.mem_map.2 ⟨x, hx, rfl⟩, fun h2 => hn ((hc x hx).1 h2)⟩, decide_eq_false (fun hc => h hc.1)]; rfl
def Lr (x : Nat) : Bool := decide (¬ B9 x ∧ Ca x < 9218868437227405312)
theorem Ol (x : Nat) : Mv x 9218868437227405312 = Lr x := by
  rw [L8]
  unfold Lr
  have h1 : ¬ B9 9218868437227405312 := by decide
  have h2 : Ca 9218868437227405312 = 9218868437227405312 := by decide
  rw [h2]
  exact decide_eq_decide.2 ⟨fun h => ⟨h.1, h.2.2⟩, fun h => ⟨h.1, h1, h.2⟩⟩
theorem Mj (w : List Nat) (i : Int) : Db w i = some (decide (In w i) && Lr (wg w i)) := by
  unfold Db
  rw [JT]
  by_cases h : In w i
  · rw [decide_eq_true h, if_pos rfl, F8 h, Option.bind_some, Ke.1, Option.bind_some, Ol]; rfl
  · rw [decide_eq_false h]; rfl
theorem PJ {x : Nat} (h : F9 x) : (decide (0 < cls x) && decide (cls x < 6)) = Lr x := by
  rw [← Bool.decide_and]
  unfold Lr
  refine decide_eq_decide.2 ?_
  have hr := Gw h
  unfold rk at hr
  by_cases h0 : cls x ≠ 0
  · rw [if_pos h0] at hr
    rcases hr with ⟨hn, h1, _⟩ | ⟨hn, h1⟩
    · exact absurd ((KB).2 hn) h0
    · constructor
      · rintro ⟨h2, h3⟩
        refine ⟨hn, ?_⟩
        rcases h1 with h1 | h1 | h1 | h1 | h1 | h1 <;> omega
      · rintro ⟨_, h3⟩
        rcases h1 with h1 | h1 | h1 | h1 | h1 | h1 <;> omega
  · have h0 : cls x = 0 := Classical.byContradiction h0
    have hn := KB.1 h0
    exact ⟨fun hc => by omega, fun hc => absurd hn hc.1⟩
theorem Pw {L : List Nat} (hL : ∀ x ∈ L, F9 x) (i : Int) : LG (nz L) i = some (decide (In L i) && Lr (wg L i)) := by
  unfold LG
  by_cases h : In L i
  · rw [if_neg (by simp; omega), Ih h, Option.bind_some]
    have hw : F9 (wg L i) := hL _ (by
      have h2 : i.toNat < L.length := by omega
      unfold wg
      rw [List.getD_eq_getElem?_getD, List.getElem?_eq_getElem h2]
      exact List.getElem_mem h2)
    rw [Na hw, PJ hw, decide_eq_true h]; rfl
  · rw [if_pos (by simp; omega), decide_eq_false h]; rfl
theorem Ij {p : Nat} (h : p ≤ CG) : rn p = p := by unfold rn; rw [if_neg (by unfold CG at h; omega)]
theorem Dm {p : Nat} (h : p ≤ CG) : BH p := .inl h
theorem cost_cfn' {p : Nat} (h : BH p) : FB p = p := Gm (FC h).2
theorem OS {L : List Nat} (h : Pn L) {i : Int} (hi : In L i) : BH (wg L i) := h _ (by
  have h2 : i.toNat < L.length := by omega
  unfold wg
  rw [List.getD_eq_getElem?_getD, List.getElem?_eq_getElem h2]
  exact List.getElem_mem h2)
end Go.Proofs.Ytbogijdfacoccaa
