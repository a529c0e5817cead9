/- Layer 19: numbers. Conditions: none. -/
import Derived.Test.YtbogijdfacoccaaeLP
import Derived.Test.YtbogijdfacoccaaeMR
import Derived.Test.YtbogijdfacoccaaeRF
import Derived.Test.YtbogijdfacoccaaeA6
namespace Go.Proofs.Ytbogijdfacoccaa
set_option linter.unusedVariables false
set_option linter.unusedSimpArgs false
open Go Go.RowKit
abbrev FX (p : Nat) : Prop := p < 18446744073709551616
theorem Ip {p : Nat} (h : FX p) : Cr p ↔ (9218868437227405312 < p ∧ p < 9223372036854775808) ∨ 18442240474082181120 < p := by
  rcases CU h with h1 | h1 <;> omega
theorem JS (p : Nat) : BW p = decide (Cr p) := by
  unfold BW
  rw [JO]
  by_cases h : Cr p <;> simp [h]
theorem Qk {p : Nat} (h : FX p) : C1 p (-1) = some (decide (p = 18442240474082181120)) := by
  unfold C1
  rw [if_neg (by decide), if_pos (by decide), Option.bind_some, P4 h, Kc]
  congr 1
  refine decide_eq_decide.2 ?_
  have hm := CU (b := 9218868437227405311) (by decide)
  by_cases h1 : p < 9223372036854775808
  · rw [if_pos h1]
    have := CU (b := 9223372036854775808 + p) (by omega)
    omega
  · rw [if_neg h1]
    have := CU (b := p - 9223372036854775808) (by unfold FX at h; omega)
    omega
theorem Ql {p : Nat} (h : FX p) : C1 p 1 = some (decide (p = 9218868437227405312)) := by
  unfold C1
  rw [if_neg (by decide), if_neg (by decide), Option.bind_some, Kc]
  congr 1
  refine decide_eq_decide.2 ?_
  have hm := CU (b := 9218868437227405311) (by decide)
  have := CU h
  omega
def cls (p : Nat) : Int := if Cr p then 0 else if p = 18442240474082181120 then 1 else if 9223372036854775808 < p then 2 else if p = 9218868437227405312 then 6 else if p = 9223372036854775808 then 3 else if p = 0 then 4 else 5
theorem P3 {p : Nat} (h : FX p) : Dk p = decide (9223372036854775808 ≤ p) := by
  unfold Dk FX at *
  refine decide_eq_decide.2 ?_
  rw [Qi]; split <;> omega
theorem PF {p : Nat} (h : FX p) : DR p = some (cls p) := by
  unfold DR cls
  rw [JS, Qk h, Ql h, MK, Kc, P3 h]
  have hk := CU h
  have h0 := CU (b := 0) (by decide)
  simp only [Option.bind_some, decide_eq_true_eq]
  by_cases h1 : Cr p
  · rw [if_pos h1, if_pos h1]
  · rw [if_neg h1, if_neg h1]
    by_cases h2 : p = 18442240474082181120
    · rw [if_pos h2, if_pos h2]
    · rw [if_neg h2, if_neg h2]
      by_cases h3 : 9223372036854775808 < p
      · rw [if_pos h3, if_pos (by omega)]
      · rw [if_neg h3, if_neg (by omega)]
        by_cases h4 : p = 9218868437227405312
        · rw [if_pos h4, if_pos h4]
        · rw [if_neg h4, if_neg h4]
          by_cases h5 : p = 9223372036854775808
          · rw [if_neg (by omega), if_pos (by omega), if_pos h5]
          · rw [if_neg h5]
            by_cases h6 : p = 0
            · rw [if_neg (by omega), if_neg (by omega), if_pos h6]
            · rw [if_pos (by omega), if_neg h6]
theorem KP {p : Nat} (h : FX p) : BF (p : Int) = ((EU p : Nat) : Int) := by
  unfold BF EU
  rw [Int.tmod_eq_emod_of_nonneg (by omega)]
  by_cases h1 : 9218868437227405312 < p % 9223372036854775808
  · rw [if_pos h1, if_pos (by omega)]; rfl
  · rw [if_neg h1, if_neg (by omega)]
theorem Im {p : Nat} (h : Cr p) : EU p = 9221120237041090561 := if_pos h
theorem GX {p : Nat} (h : ¬ Cr p) : EU p = p := if_neg h
theorem Qf {p : Nat} (h : FX p) : EU p = 9221120237041090561 ↔ Cr p := by
  by_cases h1 : Cr p
  · simp [Im h1, h1]
  · rw [GX h1]
    simp only [h1, iff_false]
    rintro rfl
    exact h1 (by unfold Cr; decide)
theorem Of {p : Nat} (h : FX p) : Cd (p : Int) = cls p := by
  unfold Cd cls
  rw [KP h]
  have hw := Ip h
  by_cases h1 : Cr p
  · rw [if_pos h1, Im h1, if_pos (by decide)]
  · rw [if_neg h1, GX h1, if_neg (by rintro h9; exact h1 ((Qf h).1 (by rw [GX h1]; omega)))]
    by_cases h2 : p = 18442240474082181120
    · rw [if_pos h2, if_pos (by omega)]
    · rw [if_neg h2, if_neg (by omega)]
      by_cases h3 : 9223372036854775808 < p
      · rw [if_pos h3, if_pos (by omega)]
      · rw [if_neg h3, if_neg (by omega)]
        by_cases h4 : p = 9218868437227405312
        · rw [if_pos h4, if_neg (by omega), if_neg (by omega), if_neg (by omega)]
        · rw [if_neg h4]
          by_cases h5 : p = 9223372036854775808
          · rw [if_pos (by omega), if_pos h5]
          · rw [if_neg (by omega), if_neg h5]
            by_cases h6 : p = 0
            · rw [if_pos (by omega), if_pos h6]
            · rw [if_neg (by omega), if_neg h6, if_pos (by omega)]
theorem KT (p : Nat) : BH p = EU p := by
  unfold BH EU
  rw [JS]
  unfold Cr
  simp only [decide_eq_true_eq]
theorem O4 (p : Nat) : CJ p = ((EU p : Nat) : Int) := by
  unfold CJ EU
  rw [JS]
  unfold Cr
  simp only [decide_eq_true_eq]
  split <;> rfl
theorem Pf {p : Nat} (h : FX p) : FX (EU p) := by
  by_cases h1 : Cr p
  · rw [Im h1]; unfold FX; decide
  · rw [GX h1]; exact h
def rk (p : Nat) : Int := if cls p ≠ 0 then cls p else 7
theorem Nv {p : Nat} (h : FX p) : DQ p = some (rk p) := by
  unfold DQ rk
  rw [PF h, Option.bind_some]
  split <;> rfl
def Ku (p : Nat) : Int := if 9223372036854775808 ≤ EU p then 9223372036854775807 - ((EU p % 9223372036854775808 : Nat) : Int) else 9223372036854775808 + ((EU p : Nat) : Int)
theorem Hf {p : Nat} (h : FX p) : (Cr p ∧ rk p = 7 ∧ Ku p = 18444492273895866369) ∨ (¬ Cr p ∧ ((p = 18442240474082181120 ∧ rk p = 1 ∧ Ku p = 4503599627370495 ∧ Cv p = -9218868437227405312) ∨ (9223372036854775808 < p ∧ p < 18442240474082181120 ∧ rk p = 2 ∧ Ku p = 18446744073709551615 - (p : Int) ∧ Cv p = 9223372036854775808 - (p : Int))
    ∨ (p = 9223372036854775808 ∧ rk p = 3 ∧ Ku p = 9223372036854775807 ∧ Cv p = 0) ∨ (p = 0 ∧ rk p = 4 ∧ Ku p = 9223372036854775808 ∧ Cv p = 0) ∨ (0 < p ∧ p < 9218868437227405312 ∧ rk p = 5 ∧ Ku p = 9223372036854775808 + (p : Int) ∧ Cv p = (p : Int)) ∨ (p = 9218868437227405312 ∧ rk p = 6 ∧ Ku p = 18442240474082181120 ∧ Cv p = 9218868437227405312))) := by
  have hk := CU h
  have hw := Ip h
  unfold FX at h
  by_cases h1 : Cr p
  · left
    refine ⟨h1, ?_, ?_⟩
    · unfold rk cls; rw [if_pos h1]; decide
    · unfold Ku; rw [Im h1]; decide
  · right
    refine ⟨h1, ?_⟩
    have e2 : rk p = (if p = 18442240474082181120 then 1 else if 9223372036854775808 < p then 2 else if p = 9218868437227405312 then 6 else if p = 9223372036854775808 then 3 else if p = 0 then 4 else 5) := by
      unfold rk cls
      rw [if_neg h1]
      by_cases c1 : p = 18442240474082181120 <;> by_cases c2 : 9223372036854775808 < p <;> by_cases c3 : p = 9218868437227405312 <;> by_cases c4 : p = 9223372036854775808 <;> by_cases c5 : p = 0 <;> simp only [c1, c2, c3, c4, c5, if_true, if_false] <;> decide
    have e3 : Ku p = (if 9223372036854775808 ≤ p then 9223372036854775807 - ((p % 9223372036854775808 : Nat) : Int) else 9223372036854775808 + (p : Int)) := by
      unfold Ku; rw [GX h1]
    generalize rk p = a at *
    generalize Ku p = b at *
    generalize Cv p = c at *
    by_cases c1 : p = 18442240474082181120
    · rw [if_pos c1] at e2; rw [if_pos (by omega)] at e3; left; omega
    · rw [if_neg c1] at e2
      by_cases c2 : 9223372036854775808 < p
      · rw [if_pos c2] at e2; rw [if_pos (by omega)] at e3; right; left; omega
      · rw [if_neg c2] at e2
        by_cases c3 : p = 9218868437227405312
        · rw [if_pos c3] at e2; rw [if_neg (by omega)] at e3; right; right; right; right; right; omega
        · rw [if_neg c3] at e2
          by_cases c4 : p = 9223372036854775808
          · rw [if_pos c4] at e2; rw [if_pos (by omega)] at e3; right; right; left; omega
          · rw [if_neg c4] at e2
            by_cases c5 : p = 0
            · rw [if_pos c5] at e2; rw [if_neg (by omega)] at e3; right; right; right; left; omega
            · rw [if_neg c5] at e2; rw [if_neg (by omega)] at e3; right; right; right; right; left; omega
def LU (a b : Int) : Int := if a < b then -1 else if b < a then 1 else 0
theorem MT (a b : Int) : (a < b ∧ LU a b = -1) ∨ (b < a ∧ LU a b = 1) ∨ (a = b ∧ LU a b = 0) := by
  unfold LU
  by_cases h1 : a < b
  · rw [if_pos h1]; exact .inl ⟨h1, rfl⟩
  · rw [if_neg h1]
    by_cases h2 : b < a
    · rw [if_pos h2]; exact .inr (.inl ⟨h2, rfl⟩)
    · rw [if_neg h2]; exact .inr (.inr ⟨by omega, rfl⟩)
theorem QU {p q : Nat} (hp : FX p) (hq : FX q) : (NW p q = true ↔ rk p ≠ 7 ∧ rk q ≠ 7 ∧ Cv p < Cv q) ∧ (OC p q = true ↔ rk p ≠ 7 ∧ rk q ≠ 7 ∧ Cv q < Cv p) ∧ (M5 p q = true ↔ rk p ≠ 7 ∧ rk q ≠ 7 ∧ Cv p = Cv q) := by
  have n1 : Cr p ↔ rk p = 7 := by
    rcases Hf hp with ⟨h, h2, _⟩ | ⟨h, h2⟩
    · simp [h, h2]
    · simp only [h, false_iff]; omega
  have n2 : Cr q ↔ rk q = 7 := by
    rcases Hf hq with ⟨h, h2, _⟩ | ⟨h, h2⟩
    · simp [h, h2]
    · simp only [h, false_iff]; omega
  rw [MK, Kc, JO]
  simp only [decide_eq_true_eq]
  rw [n1, n2]
  exact ⟨Iff.rfl, Iff.rfl, Iff.rfl⟩
theorem MN {p q : Nat} (hp : FX p) (hq : FX q) : C3 p q = some (LU (Ku p) (Ku q)) := by
  unfold C3 LU
  rw [Nv hp, Option.bind_some, Nv hq, Option.bind_some]
  obtain ⟨l1, l2, l3⟩ := QU hp hq
  simp only [l1, l2]
  have cp : (rk p = 7 ∧ Ku p = 18444492273895866369) ∨ _ := (Hf hp).imp (fun h => h.2) (fun h => h.2)
  have cq : (rk q = 7 ∧ Ku q = 18444492273895866369) ∨ _ := (Hf hq).imp (fun h => h.2) (fun h => h.2)
  clear l1 l2 l3
  generalize rk p = a1 at *
  generalize Ku p = a2 at *
  generalize Cv p = a3 at *
  generalize rk q = b1 at *
  generalize Ku q = b2 at *
  generalize Cv q = b3 at *
  by_cases h1 : a1 < b1
  · rw [if_pos h1, if_pos (by omega)]
  · rw [if_neg h1]
    by_cases h2 : b1 < a1
    · rw [if_pos h2, if_neg (by omega), if_pos (by omega)]
    · rw [if_neg h2]
      by_cases h3 : a1 ≠ 7 ∧ b1 ≠ 7 ∧ a3 < b3
      · rw [if_pos h3, if_pos (by omega)]
      · rw [if_neg h3]
        by_cases h4 : a1 ≠ 7 ∧ b1 ≠ 7 ∧ b3 < a3
        · rw [if_pos h4, if_neg (by omega), if_pos (by omega)]
        · rw [if_neg h4, if_neg (by omega), if_neg (by omega)]
theorem QT {n : Int} (h : (Lit.int .u64 n).wf = true) : ∃ p : Nat, n = (p : Int) ∧ FX p := by
  simp only [Lit.wf, IntKind.has] at h
  have : 0 ≤ n ∧ n ≤ 18446744073709551615 := by simpa [IntKind.min, IntKind.max, IntKind.bits, IntKind.signed] using h
  exact ⟨n.toNat, by omega, by unfold FX; omega⟩
theorem Rh (p : Nat) : DN (p : Int) = EU p := by unfold DN; rw [KT]; simp
theorem NT (a b : Nat) : Br a b = if EU (FV a b) = 9223372036854775808 then 0 else EU (FV a b) := by
  unfold Br
  rw [KT, JO]
  have h := Pf (NK a b)
  have hk := CU h
  have hw := Ip h
  have h0 := CU (b := 0) (by decide)
  simp only [decide_eq_true_eq]
  generalize EU (FV a b) = s at *
  by_cases h1 : s = 9223372036854775808
  · rw [if_pos h1, if_pos (by omega)]
  · rw [if_neg h1]
    by_cases h2 : s = 0
    · subst h2; split <;> rfl
    · rw [if_neg (by omega)]
theorem Qg {p : Nat} (h : FX p) : C2 p = DP (p : Int) := by
  unfold C2 DP
  rw [Kc, JO, ← Bool.decide_or, ← Bool.decide_or]
  refine decide_eq_decide.2 ?_
  have hk := CU h
  have h0 := CU (b := 0) (by decide)
  omega
theorem Sg {l : List Int} (h : Qy (fun n => (Lit.int .u64 n).wf = true) l) : ∃ L : List Nat, l = L.map (fun n : Nat => (n : Int)) ∧ ∀ x ∈ L, FX x := by
  have key : ∀ l : List Int, (∀ x ∈ l, (Lit.int .u64 x).wf = true) → ∃ L : List Nat, l = L.map (fun n : Nat => (n : Int)) ∧ ∀ x ∈ L, FX x := by
    intro l
    induction l with
    | nil => exact fun _ => ⟨[], rfl, by simp⟩
    | cons a l ih =>
      intro h
      obtain ⟨L, rfl, hL⟩ := ih fun x hx => h x (List.mem_cons_of_mem _ hx)
      obtain ⟨n, rfl, hn⟩ := QT (h a (List.mem_cons_self ..))
      exact ⟨n :: L, rfl, fun x hx => (List.mem_cons.1 hx).elim (fun e => e ▸ hn) (hL x)⟩
  exact key l h.2
theorem Mf {p : Nat} : cls p = 0 ↔ Cr p := by
  unfold cls
  by_cases h : Cr p
  · simp [h]
  · rw [if_neg h]
    simp only [h, iff_false]
    repeat' split
    all_goals decide
theorem Qs (a b : Int) : LU a b < 0 ↔ a < b := by have := MT a b; omega
theorem MW : DK 1 = some 9218868437227405312 ∧ DK (-1) = some 18442240474082181120 := ⟨by unfold DK; rfl, by unfold DK; rfl⟩
def rn (p : Nat) : Nat := if p = 9223372036854775808 then 0 else p
theorem Qv {p : Nat} (h : BR p) : rn p ≤ 9218868437227405312 := by unfold rn BR at *; split <;> omega
theorem F1 {p : Nat} (h : BR p) : Cv p = (rn p : Int) ∧ ¬ Cr p := by
  unfold BR at h
  have hk := CU (b := p) (by omega)
  unfold rn
  split <;> omega
theorem Ln (p : Nat) : Gi p = FG (rn p) := by
  unfold Gi rn
  split
  · decide
  · rfl
theorem NR (W : Nat) : IL W ≤ 9218868437227405312 := by unfold IL; omega
theorem EW {a b : Nat} (ha : BR a) (hb : BR b) : Br a b = if a = 9218868437227405312 ∨ b = 9218868437227405312 then 9218868437227405312 else IL (Gi a + Gi b) := by
  rw [NT]
  rcases PJ ha hb with ⟨h1, h2, h3⟩ | ⟨h1, h2⟩ | ⟨h1, h2, h3, h4⟩
  · have e : EU (FV a b) = 9223372036854775808 := by rw [h1]; decide
    rw [e, if_pos rfl, if_neg (by omega), h2, h3]; decide
  · have e : EU (FV a b) = 9218868437227405312 := by rw [h2]; decide
    rw [e, if_neg (by decide), if_pos h1]
  · have hr := NR (Gi a + Gi b)
    have e : EU (FV a b) = IL (Gi a + Gi b) := by rw [h4]; exact GX (by omega)
    rw [e, if_neg (by omega), if_neg (by omega)]
theorem Nt {a b : Nat} (ha : BR a) (hb : BR b) : Br a b ≤ 9218868437227405312 := by
  rw [EW ha hb]
  have := NR (Gi a + Gi b)
  split <;> omega
theorem Qj {a b : Nat} (ha : BR a) (hb : BR b) : rn a ≤ Br a b := by
  rw [EW ha hb]
  have h1 := Qv ha
  by_cases h : a = 9218868437227405312 ∨ b = 9218868437227405312
  · rw [if_pos h]; exact h1
  · rw [if_neg h]
    have h2 : IL (Gi a) = rn a := by rw [Ln]; exact OZ (by have h9 := ha; unfold BR at h9; unfold rn; split <;> omega)
    have h3 := KD (Nat.le_add_right (Gi a) (Gi b))
    omega
theorem N5 {a b : Nat} (ha : BR a) (hb : BR b) : Br a b = Br b a := by
  rw [EW ha hb, EW hb ha, Nat.add_comm]
  by_cases h : a = 9218868437227405312 ∨ b = 9218868437227405312
  · rw [if_pos h, if_pos h.symm]
  · rw [if_neg h, if_neg (fun h2 => h h2.symm)]
theorem OB {a b c : Nat} (ha : BR a) (hb : BR b) (hc : BR c) (h : rn b ≤ rn c) : Br a b ≤ Br a c := by
  have h1 := Nt ha hb
  rw [EW ha hc]
  by_cases hi : a = 9218868437227405312 ∨ c = 9218868437227405312
  · rw [if_pos hi]; exact h1
  · rw [if_neg hi, EW ha hb]
    have hb2 : ¬ (a = 9218868437227405312 ∨ b = 9218868437227405312) := by
      unfold BR rn at *
      split at h <;> split at h <;> omega
    rw [if_neg hb2]
    refine KD ?_
    rw [Ln b, Ln c]
    have := H5 (rn c) (rn b)
    omega
theorem JW {p : Nat} : DP (p : Int) = true ↔ BR p := by
  unfold DP BR
  simp only [Bool.or_eq_true, decide_eq_true_eq]
  omega
theorem Qr {α β : Type} (t : α) (k : α → Option β) : HK (some (Sum.inl t)) k = k t := rfl
abbrev In (w : List Nat) (i : Int) : Prop := 0 ≤ i ∧ i < (w.length : Int)
abbrev wg (w : List Nat) (i : Int) : Nat := w.getD i.toNat 0
abbrev Dm : Nat := 9218868437227405312
def Gg (a b : Nat) : Nat := Br a b
theorem HD {w : List Nat} {i : Int} (h : In w i) : ix w i = some (wg w i) := by
  have h2 : i.toNat < w.length := by omega
  rw [show i = ((i.toNat : Nat) : Int) by omega]
  refine (Bp (List.getElem?_eq_getElem h2)).trans ?_
  congr 1
  unfold wg
  rw [Int.toNat_natCast, List.getD_eq_getElem?_getD, List.getElem?_eq_getElem h2]; rfl
theorem Ox (w : List Nat) (i : Int) : CW w i = decide (In w i) := by unfold CW; rw [← Bool.decide_and]
theorem Rm (a b : Nat) : Gg a b = if EU (FV a b) = 9223372036854775808 then 0 else EU (FV a b) := NT a b
abbrev nz (L : List Nat) : List Int := L.map (fun n : Nat => (n : Int))
theorem I4 {L : List Nat} {i : Int} (h : In L i) : ix (nz L) i = some ((wg L i : Nat) : Int) := by
  have h2 : i.toNat < L.length := by omega
  rw [show i = ((i.toNat : Nat) : Int) by omega]
  refine (Bp (x := ((L[i.toNat]'h2 : Nat) : Int)) (by rw [List.getElem?_map, List.getElem?_eq_getElem h2]; rfl)).trans ?_
  congr 2
  unfold wg
  rw [Int.toNat_natCast, List.getD_eq_getElem?_getD, List.getElem?_eq_getElem h2]; rfl
theorem Md {a b : Nat} : EC (a : Int) (b : Int) = ((Gg a b : Nat) : Int) := by
  unfold EC
  simp only [Int.toNat_natCast]
  rw [KP (NK a b), Rm]
  split
  · rename_i h
    rw [if_pos (by omega)]; rfl
  · rename_i h
    rw [if_neg (by omega)]
theorem P8 {L : List Nat} (hl : L.length ≤ 1000000) : Hg (nz L) = some (L.map EU) := by
  unfold Hg
  rw [Kx (nz L) (by simp; omega) (fun x => DN x) (E5 (nz L)) (fun k hk out ho => by
    rw [E5, if_pos (by omega), Bp (List.getElem?_eq_getElem hk), Option.bind_some]) (fun out => by rw [E5, if_neg (by omega)]), Option.bind_some, List.map_map]
  congr 1
  refine List.map_congr_left fun x _ => ?_
  exact Rh x
theorem Oa {w : List Nat} (hl : w.length ≤ 1000000) : FE w = some (nz (w.map EU)) := by
  unfold FE
  rw [Kx w (by omega) (fun x => CJ x) (Ef w) (fun k hk out ho => by
    rw [Ef, if_pos (by omega), Bp (List.getElem?_eq_getElem hk), Option.bind_some]) (fun out => by rw [Ef, if_neg (by omega)]), Option.bind_some]
  show some (w.map _) = some ((w.map EU).map _)
  rw [List.map_map]
  congr 1
  refine List.map_congr_left fun x _ => ?_
  exact O4 x
theorem OL {x : Nat} (h : FX x) : BR (EU x) ↔ BR x := by
  by_cases hn : Cr x
  · rw [Im hn]
    have hw := (Ip h).1 hn
    unfold BR
    omega
  · rw [GX hn]
abbrev Qz (L : List Nat) : Prop := ∀ x ∈ L, BR x
noncomputable instance (L : List Nat) : Decidable (Qz L) := Classical.propDecidable _
theorem KJ {L : List Nat} (hl : L.length ≤ 1000000) (links : Int) : FZ (nz L) links = some (decide (Qz L ∧ (L.length : Int) = links)) := by
  have hd : DecidablePred fun x : Int => ¬ DP x = true := fun _ => inferInstance
  unfold FZ
  rw [Hl (nz L) (by simp; omega) (EL (nz L)) (fun x => ¬ DP x = true) false (fun k hk => by
    rw [EL, if_pos (by omega), Bp (List.getElem?_eq_getElem hk), Option.bind_some]
    by_cases c : DP (nz L)[k] = true
    · rw [if_neg (by rw [c]; decide), if_neg (fun h => h c)]
    · rw [if_pos (by rw [Bool.eq_false_iff.2 c]; rfl), if_pos c]) (by rw [EL, if_neg (by omega)])]
  by_cases h : Qz L
  · rw [if_neg (fun ⟨x, hx, hn⟩ => by
      obtain ⟨y, hy, rfl⟩ := List.mem_map.1 hx
      exact hn (JW.2 (h y hy))), Qr]
    congr 1
    exact decide_eq_decide.2 ⟨fun h1 => ⟨h, by simpa using h1⟩, fun h1 => by simpa using h1.2⟩
  · have hx : ∃ x ∈ L, ¬ BR x := Classical.byContradiction fun hc => h fun x hx => Classical.byContradiction fun hn => hc ⟨x, hx, hn⟩
    obtain ⟨x, hx, hn⟩ := hx
    rw [if_pos ⟨(x : Int), List.mem_map.2 ⟨x, hx, rfl⟩, fun hc => hn (JW.1 hc)⟩]
    show some false = _
    rw [decide_eq_false (fun hc => h hc.1)]
theorem Pu {L : List Nat} (hL : ∀ x ∈ L, FX x) (hl : L.length ≤ 1000000) (links : Int) : DI (L.map EU) links = some (decide (Qz L ∧ (L.length : Int) = links)) := by
  unfold DI
  by_cases he : ((L.map EU).length : Int) ≠ links
  · rw [if_pos he, decide_eq_false (fun h => he (by rw [List.length_map]; exact h.2))]
  · have he' : (L.length : Int) = links := by
      have := Classical.byContradiction he
      rw [List.length_map] at this; exact this
    rw [if_neg he, Hl (L.map EU) (by simp; omega) (CG (L.map EU)) (fun x => ¬ C2 x = true) false (fun k hk => by
      rw [CG, if_pos (by omega), Bp (List.getElem?_eq_getElem hk), Option.bind_some]
      by_cases c : C2 (L.map EU)[k] = true
      · rw [if_neg (by rw [c]; decide), if_neg (fun h => h c)]
      · rw [if_pos (by rw [Bool.eq_false_iff.2 c]; rfl), if_pos c]) (by rw [CG, if_neg (by omega)])]
    have hc : ∀ x ∈ L, C2 (EU x) = true ↔ BR x := fun x hx => by
      rw [Qg (Pf (hL x hx)), JW, OL (hL x hx)]
    by_cases h : Qz L
    · rw [if_neg (fun ⟨x, hx, hn⟩ => by
        obtain ⟨y, hy, rfl⟩ := List.mem_map.1 hx
        exact hn ((hc y hy).2 (h y hy))), decide_eq_true ⟨h, he'⟩]; rfl
    · have hx : ∃ x ∈ L, ¬ BR x := Classical.byContradiction fun hc => h fun x hx => Classical.byContradiction fun hn => hc ⟨x, hx, hn⟩
      obtain ⟨x, hx, hn⟩ := hx
      rw [if_pos ⟨EU x, List.mem_map.2 ⟨x, hx, rfl⟩, fun h2 => hn ((hc x hx).1 h2)⟩, decide_eq_false (fun hc => h hc.1)]; rfl
def LO (x : Nat) : Bool := decide (¬ Cr x ∧ Cv x < 9218868437227405312)
theorem O9 (x : Nat) : NW x 9218868437227405312 = LO x := by
  rw [MK]
  unfold LO
  have h1 : ¬ Cr 9218868437227405312 := by decide
  have h2 : Cv 9218868437227405312 = 9218868437227405312 := by decide
  rw [h2]
  exact decide_eq_decide.2 ⟨fun h => ⟨h.1, h.2.2⟩, fun h => ⟨h.1, h1, h.2⟩⟩
theorem QA (w : List Nat) (i : Int) : EB w i = some (decide (In w i) && LO (wg w i)) := by
  unfold EB
  rw [Ox]
  by_cases h : In w i
  · rw [decide_eq_true h, if_pos rfl, HD h, Option.bind_some, MW.1, Option.bind_some, O9]; rfl
  · rw [decide_eq_false h]; rfl
theorem QG {x : Nat} (h : FX x) : (decide (0 < cls x) && decide (cls x < 6)) = LO x := by
  rw [← Bool.decide_and]
  unfold LO
  refine decide_eq_decide.2 ?_
  have hr := Hf h
  unfold rk at hr
  by_cases h0 : cls x ≠ 0
  · rw [if_pos h0] at hr
    rcases hr with ⟨hn, h1, _⟩ | ⟨hn, h1⟩
    · exact absurd ((Mf).2 hn) h0
    · constructor
      · rintro ⟨h2, h3⟩
        refine ⟨hn, ?_⟩
        rcases h1 with h1 | h1 | h1 | h1 | h1 | h1 <;> omega
      · rintro ⟨_, h3⟩
        rcases h1 with h1 | h1 | h1 | h1 | h1 | h1 <;> omega
  · have h0 : cls x = 0 := Classical.byContradiction h0
    have hn := Mf.1 h0
    exact ⟨fun hc => by omega, fun hc => absurd hn hc.1⟩
theorem Q9 {L : List Nat} (hL : ∀ x ∈ L, FX x) (i : Int) : JK (nz L) i = some (decide (In L i) && LO (wg L i)) := by
  unfold JK
  by_cases h : In L i
  · rw [if_neg (by simp; omega), I4 h, Option.bind_some]
    have hw : FX (wg L i) := hL _ (by
      have h2 : i.toNat < L.length := by omega
      unfold wg
      rw [List.getD_eq_getElem?_getD, List.getElem?_eq_getElem h2]
      exact List.getElem_mem h2)
    rw [Of hw, QG hw, decide_eq_true h]; rfl
  · rw [if_pos (by simp; omega), decide_eq_false h]; rfl
theorem Jd {p : Nat} (h : p ≤ Dm) : rn p = p := by unfold rn; rw [if_neg (by unfold Dm at h; omega)]
theorem DA {p : Nat} (h : p ≤ Dm) : BR p := .inl h
theorem cost_cfn' {p : Nat} (h : BR p) : EU p = p := GX (F1 h).2
theorem P0 {L : List Nat} (h : Qz L) {i : Int} (hi : In L i) : BR (wg L i) := h _ (by
  have h2 : i.toNat < L.length := by omega
  unfold wg
  rw [List.getD_eq_getElem?_getD, List.getElem?_eq_getElem h2]
  exact List.getElem_mem h2)
end Go.Proofs.Ytbogijdfacoccaa
