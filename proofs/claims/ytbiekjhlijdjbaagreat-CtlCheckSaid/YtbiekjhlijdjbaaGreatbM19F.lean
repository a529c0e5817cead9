/- Layer 19: numbers. Conditions: none. -/
import Derived.Test.YtbiekjhlijdjbaaGreatbLP
import Derived.Test.YtbiekjhlijdjbaaGreatbMR
import Derived.Test.YtbiekjhlijdjbaaGreatbRF
import Derived.Test.YtbiekjhlijdjbaaGreatbM19D
set_option linter.unusedVariables false
set_option linter.unusedSimpArgs false
open Go Go.RowKit
namespace Go.Proofs.YtbiekjhlijdjbaaGreat
abbrev GT (p : Nat) : Prop := p < 18446744073709551616
theorem Jr {p : Nat} (h : GT p) : Ce p ↔ (9218868437227405312 < p ∧ p < 9223372036854775808) ∨ 18442240474082181120 < p := by
  rcases CB h with h1 | h1 <;> omega
theorem Oo (p : Nat) : Ca p = decide (Ce p) := by
  unfold Ca
  rw [LE]
  by_cases h : Ce p <;> simp [h]
theorem Vm {p : Nat} (h : GT p) : DD p (-1) = some (decide (p = 18442240474082181120)) := by
  unfold DD
  rw [if_neg (by decide),if_pos (by decide),za,Vl h,LL]
  congr 1
  refine decide_eq_decide.2 ?_
  have hm := CB (b := 9218868437227405311) (by decide)
  by_cases h1 : p < 9223372036854775808
  · rw [if_pos h1]
    have := CB (b := 9223372036854775808 + p) (by omega)
    omega
  · rw [if_neg h1]
    have := CB (b := p - 9223372036854775808) (by unfold GT at h; omega)
    omega
theorem UO {p : Nat} (h : GT p) : DD p 1 = some (decide (p = 9218868437227405312)) := by
  unfold DD
  rw [if_neg (by decide),if_neg (by decide),za,LL]
  congr 1
  refine decide_eq_decide.2 ?_
  have hm := CB (b := 9218868437227405311) (by decide)
  have := CB h
  omega
def cls (p : Nat) : Int := if Ce p then 0 else if p = 18442240474082181120 then 1 else if 9223372036854775808 < p then 2 else if p = 9218868437227405312 then 6 else if p = 9223372036854775808 then 3 else if p = 0 then 4 else 5
theorem Vz {p : Nat} (h : GT p) : DY p = decide (9223372036854775808 ≤ p) := by
  unfold DY GT at *
  refine decide_eq_decide.2 ?_
  rw [Vx]; split <;> omega
theorem T2 {p : Nat} (h : GT p) : E4 p = some (cls p) := by
  unfold E4 cls
  rw [Oo,Vm h,UO h,Qe,LL,Vz h]
  have hk := CB h
  have h0 := CB (b := 0) (by decide)
  simp only [za,decide_eq_true_eq]
  by_cases h1 : Ce p
  · rw [if_pos h1,if_pos h1]
  · rw [if_neg h1,if_neg h1]
    by_cases h2 : p = 18442240474082181120
    · rw [if_pos h2,if_pos h2]
    · rw [if_neg h2,if_neg h2]
      by_cases h3 : 9223372036854775808 < p
      · rw [if_pos h3,if_pos (by omega)]
      · rw [if_neg h3,if_neg (by omega)]
        by_cases h4 : p = 9218868437227405312
        · rw [if_pos h4,if_pos h4]
        · rw [if_neg h4,if_neg h4]
          by_cases h5 : p = 9223372036854775808
          · rw [if_neg (by omega),if_pos (by omega),if_pos h5]
          · rw [if_neg h5]
            by_cases h6 : p = 0
            · rw [if_neg (by omega),if_neg (by omega),if_pos h6]
            · rw [if_pos (by omega),if_neg h6]
theorem MY {p : Nat} (h : GT p) : Bp (p : Int) = ((FE p : Nat) : Int) := by
  unfold Bp FE
  rw [Int.tmod_eq_emod_of_nonneg (by omega)]
  by_cases h1 : 9218868437227405312 < p % 9223372036854775808
  · rw [if_pos h1,if_pos (by omega)]; rfl
  · rw [if_neg h1,if_neg (by omega)]
theorem IQ {p : Nat} (h : Ce p) : FE p = 9221120237041090561 := if_pos h
theorem GZ {p : Nat} (h : ¬ Ce p) : FE p = p := if_neg h
theorem UM {p : Nat} (h : GT p) : FE p = 9221120237041090561 ↔ Ce p := by
  by_cases h1 : Ce p
  · simp [IQ h1,h1]
  · rw [GZ h1]
    simp only [h1,iff_false]
    rintro rfl
    exact h1 (by unfold Ce; decide)
theorem R5 {p : Nat} (h : GT p) : Dg (p : Int) = cls p := by
  unfold Dg cls
  rw [MY h]
  have hw := Jr h
  by_cases h1 : Ce p
  · rw [if_pos h1,IQ h1,if_pos (by decide)]
  · rw [if_neg h1,GZ h1,if_neg (by rintro h9; exact h1 ((UM h).1 (by rw [GZ h1]; omega)))]
    by_cases h2 : p = 18442240474082181120
    · rw [if_pos h2,if_pos (by omega)]
    · rw [if_neg h2,if_neg (by omega)]
      by_cases h3 : 9223372036854775808 < p
      · rw [if_pos h3,if_pos (by omega)]
      · rw [if_neg h3,if_neg (by omega)]
        by_cases h4 : p = 9218868437227405312
        · rw [if_pos h4,if_neg (by omega),if_neg (by omega),if_neg (by omega)]
        · rw [if_neg h4]
          by_cases h5 : p = 9223372036854775808
          · rw [if_pos (by omega),if_pos h5]
          · rw [if_neg (by omega),if_neg h5]
            by_cases h6 : p = 0
            · rw [if_pos (by omega),if_pos h6]
            · rw [if_neg (by omega),if_neg h6,if_pos (by omega)]
theorem Mx (p : Nat) : Bv p = FE p := by
  unfold Bv FE
  rw [Oo]
  unfold Ce
  simp only [decide_eq_true_eq]
theorem To {p : Nat} (h : GT p) : GT (FE p) := by
  by_cases h1 : Ce p
  · rw [IQ h1]; unfold GT; decide
  · rw [GZ h1]; exact h
def rk (p : Nat) : Int := if cls p ≠ 0 then cls p else 7
theorem Rj {p : Nat} (h : GT p) : ET p = some (rk p) := by
  unfold ET rk
  rw [T2 h,za]
  split <;> rfl
def Mu (p : Nat) : Int := if 9223372036854775808 ≤ FE p then 9223372036854775807 - ((FE p % 9223372036854775808 : Nat) : Int) else 9223372036854775808 + ((FE p : Nat) : Int)
theorem Hh {p : Nat} (h : GT p) : (Ce p ∧ rk p = 7 ∧ Mu p = 18444492273895866369) ∨ (¬ Ce p ∧ ((p = 18442240474082181120 ∧ rk p = 1 ∧ Mu p = 4503599627370495 ∧ Ci p = -9218868437227405312) ∨ (9223372036854775808 < p ∧ p < 18442240474082181120 ∧ rk p = 2 ∧ Mu p = 18446744073709551615 - (p : Int) ∧ Ci p = 9223372036854775808 - (p : Int))
    ∨ (p = 9223372036854775808 ∧ rk p = 3 ∧ Mu p = 9223372036854775807 ∧ Ci p = 0) ∨ (p = 0 ∧ rk p = 4 ∧ Mu p = 9223372036854775808 ∧ Ci p = 0) ∨ (0 < p ∧ p < 9218868437227405312 ∧ rk p = 5 ∧ Mu p = 9223372036854775808 + (p : Int) ∧ Ci p = (p : Int)) ∨ (p = 9218868437227405312 ∧ rk p = 6 ∧ Mu p = 18442240474082181120 ∧ Ci p = 9218868437227405312))) := by
  have hk := CB h
  have hw := Jr h
  unfold GT at h
  by_cases h1 : Ce p
  · left
    refine ⟨h1, ?_, ?_⟩
    · unfold rk cls; rw [if_pos h1]; decide
    · unfold Mu; rw [IQ h1]; decide
  · right
    refine ⟨h1, ?_⟩
    have e2 : rk p = (if p = 18442240474082181120 then 1 else if 9223372036854775808 < p then 2 else if p = 9218868437227405312 then 6 else if p = 9223372036854775808 then 3 else if p = 0 then 4 else 5) := by
      unfold rk cls
      rw [if_neg h1]
      by_cases c1 : p = 18442240474082181120 <;> by_cases c2 : 9223372036854775808 < p <;> by_cases c3 : p = 9218868437227405312 <;> by_cases c4 : p = 9223372036854775808 <;> by_cases c5 : p = 0 <;> simp only [c1,c2,c3,c4,c5,if_true,if_false] <;> decide
    have e3 : Mu p = (if 9223372036854775808 ≤ p then 9223372036854775807 - ((p % 9223372036854775808 : Nat) : Int) else 9223372036854775808 + (p : Int)) := by
      unfold Mu; rw [GZ h1]
    generalize rk p = a at *
    generalize Mu p = b at *
    generalize Ci p = c at *
    by_cases c1 : p = 18442240474082181120
    · rw [if_pos c1] at e2; rw [if_pos (by omega)] at e3; left; omega
    · rw [if_neg c1] at e2
      by_cases c2 : 9223372036854775808 < p
      · rw [if_pos c2] at e2; rw [if_pos (by omega)] at e3; right; left; omega
      · rw [if_neg c2] at e2
        by_cases c3 : p = 9218868437227405312
        · rw [if_pos c3] at e2; rw [if_neg (by omega)] at e3; right; right; right; right; right; omega
        · rw [if_neg c3] at e2
          by_cases c4 : p = 9223372036854775808
          · rw [if_pos c4] at e2; rw [if_pos (by omega)] at e3; right; right; left; omega
          · rw [if_neg c4] at e2
            by_cases c5 : p = 0
            · rw [if_pos c5] at e2; rw [if_neg (by omega)] at e3; right; right; right; left; omega
            · rw [if_neg c5] at e2; rw [if_neg (by omega)] at e3; right; right; right; right; left; omega
def OL (a b : Int) : Int := if a < b then -1 else if b < a then 1 else 0
theorem Pt (a b : Int) : (a < b ∧ OL a b = -1) ∨ (b < a ∧ OL a b = 1) ∨ (a = b ∧ OL a b = 0) := by
  unfold OL
  by_cases h1 : a < b
  · rw [if_pos h1]; exact .inl ⟨h1,rfl⟩
  · rw [if_neg h1]
    by_cases h2 : b < a
    · rw [if_pos h2]; exact .inr (.inl ⟨h2,rfl⟩)
    · rw [if_neg h2]; exact .inr (.inr ⟨by omega,rfl⟩)
theorem WB {p q : Nat} (hp : GT p) (hq : GT q) : (RO p q = true ↔ rk p ≠ 7 ∧ rk q ≠ 7 ∧ Ci p < Ci q) ∧ (SF p q = true ↔ rk p ≠ 7 ∧ rk q ≠ 7 ∧ Ci q < Ci p) ∧ (Ni p q = true ↔ rk p ≠ 7 ∧ rk q ≠ 7 ∧ Ci p = Ci q) := by
  have n1 : Ce p ↔ rk p = 7 := by
    rcases Hh hp with ⟨h,h2,_⟩ | ⟨h,h2⟩
    · simp [h,h2]
    · simp only [h,false_iff]; omega
  have n2 : Ce q ↔ rk q = 7 := by
    rcases Hh hq with ⟨h,h2,_⟩ | ⟨h,h2⟩
    · simp [h,h2]
    · simp only [h,false_iff]; omega
  rw [Qe,LL,LE]
  simp only [decide_eq_true_eq]
  rw [n1,n2]
  exact ⟨Iff.rfl,Iff.rfl,Iff.rfl⟩
theorem Pz {p q : Nat} (hp : GT p) (hq : GT q) : D8 p q = some (OL (Mu p) (Mu q)) := by
  unfold D8 OL
  rw [Rj hp,za,Rj hq,za]
  obtain ⟨l1,l2,l3⟩ := WB hp hq
  simp only [l1,l2]
  have cp : (rk p = 7 ∧ Mu p = 18444492273895866369) ∨ _ := (Hh hp).imp (fun h => h.2) (fun h => h.2)
  have cq : (rk q = 7 ∧ Mu q = 18444492273895866369) ∨ _ := (Hh hq).imp (fun h => h.2) (fun h => h.2)
  clear l1 l2 l3
  generalize rk p = a1 at *
  generalize Mu p = a2 at *
  generalize Ci p = a3 at *
  generalize rk q = b1 at *
  generalize Mu q = b2 at *
  generalize Ci q = b3 at *
  by_cases h1 : a1 < b1
  · rw [if_pos h1,if_pos (by omega)]
  · rw [if_neg h1]
    by_cases h2 : b1 < a1
    · rw [if_pos h2,if_neg (by omega),if_pos (by omega)]
    · rw [if_neg h2]
      by_cases h3 : a1 ≠ 7 ∧ b1 ≠ 7 ∧ a3 < b3
      · rw [if_pos h3,if_pos (by omega)]
      · rw [if_neg h3]
        by_cases h4 : a1 ≠ 7 ∧ b1 ≠ 7 ∧ b3 < a3
        · rw [if_pos h4,if_neg (by omega),if_pos (by omega)]
        · rw [if_neg h4,if_neg (by omega),if_neg (by omega)]
theorem WO {n : Int} (h : (Lit.int .u64 n).wf = true) : ∃ p : Nat,n = (p : Int) ∧ GT p := by
  simp only [Lit.wf,IntKind.has] at h
  have : 0 ≤ n ∧ n ≤ 18446744073709551615 := by simpa [IntKind.min,IntKind.max,IntKind.bits,IntKind.signed] using h
  exact ⟨n.toNat,by omega,by unfold GT; omega⟩
theorem Ze (p : Nat) : DB (p : Int) = FE p := by unfold DB; rw [Mx]; simp
theorem Rm (a b : Nat) : Bm a b = if FE (FS a b) = 9223372036854775808 then 0 else FE (FS a b) := by
  unfold Bm
  rw [Mx,LE]
  have h := To (Rh a b)
  have hk := CB h
  have hw := Jr h
  have h0 := CB (b := 0) (by decide)
  simp only [decide_eq_true_eq]
  generalize FE (FS a b) = s at *
  by_cases h1 : s = 9223372036854775808
  · rw [if_pos h1,if_pos (by omega)]
  · rw [if_neg h1]
    by_cases h2 : s = 0
    · subst h2; split <;> rfl
    · rw [if_neg (by omega)]
theorem Vr {p : Nat} (h : GT p) : CY p = DC (p : Int) := by
  unfold CY DC
  rw [LL,LE, ← Bool.decide_or, ← Bool.decide_or]
  refine decide_eq_decide.2 ?_
  have hk := CB h
  have h0 := CB (b := 0) (by decide)
  omega
theorem dD {l : List Int} (h : Mp (fun n => (Lit.int .u64 n).wf = true) l) : ∃ L : List Nat,l = L.map (fun n : Nat => (n : Int)) ∧ ∀ x ∈ L,GT x := by
  have key : ∀ l : List Int,(∀ x ∈ l,(Lit.int .u64 x).wf = true) → ∃ L : List Nat,l = L.map (fun n : Nat => (n : Int)) ∧ ∀ x ∈ L,GT x := by
    intro l
    induction l with
    | nil => exact fun _ => ⟨[],rfl,by simp⟩
    | cons a l ih =>
      intro h
      obtain ⟨L,rfl,hL⟩ := ih fun x hx => h x (zc _ hx)
      obtain ⟨n,rfl,hn⟩ := WO (h a (List.mem_cons_self ..))
      exact ⟨n :: L,rfl,fun x hx => (List.mem_cons.1 hx).elim (fun e => e ▸ hn) (hL x)⟩
  exact key l h.2
theorem Od {p : Nat} : cls p = 0 ↔ Ce p := by
  unfold cls
  by_cases h : Ce p
  · simp [h]
  · rw [if_neg h]
    simp only [h,iff_false]
    repeat' split
    all_goals decide
theorem U0 (a b : Int) : OL a b < 0 ↔ a < b := by have := Pt a b; omega
theorem Qf : EK 1 = some 9218868437227405312 ∧ EK (-1) = some 18442240474082181120 := ⟨by unfold EK; rfl,by unfold EK; rfl⟩
def rn (p : Nat) : Nat := if p = 9223372036854775808 then 0 else p
theorem V7 {p : Nat} (h : BH p) : rn p ≤ 9218868437227405312 := by unfold rn BH at *; split <;> omega
theorem FX {p : Nat} (h : BH p) : Ci p = (rn p : Int) ∧ ¬ Ce p := by
  unfold BH at h
  have hk := CB (b := p) (by omega)
  unfold rn
  split <;> omega
theorem M3 (p : Nat) : Gu p = Fu (rn p) := by
  unfold Gu rn
  split
  · decide
  · rfl
theorem QX (W : Nat) : JC W ≤ 9218868437227405312 := by unfold JC; omega
theorem EW {a b : Nat} (ha : BH a) (hb : BH b) : Bm a b = if a = 9218868437227405312 ∨ b = 9218868437227405312 then 9218868437227405312 else JC (Gu a + Gu b) := by
  rw [Rm]
  rcases SP ha hb with ⟨h1,h2,h3⟩ | ⟨h1,h2⟩ | ⟨h1,h2,h3,h4⟩
  · have e : FE (FS a b) = 9223372036854775808 := by rw [h1]; decide
    rw [e,if_pos rfl,if_neg (by omega),h2,h3]; decide
  · have e : FE (FS a b) = 9218868437227405312 := by rw [h2]; decide
    rw [e,if_neg (by decide),if_pos h1]
  · have hr := QX (Gu a + Gu b)
    have e : FE (FS a b) = JC (Gu a + Gu b) := by rw [h4]; exact GZ (by omega)
    rw [e,if_neg (by omega),if_neg (by omega)]
theorem Rr {a b : Nat} (ha : BH a) (hb : BH b) : Bm a b ≤ 9218868437227405312 := by
  rw [EW ha hb]
  have := QX (Gu a + Gu b)
  split <;> omega
theorem UR {a b : Nat} (ha : BH a) (hb : BH b) : rn a ≤ Bm a b := by
  rw [EW ha hb]
  have h1 := V7 ha
  by_cases h : a = 9218868437227405312 ∨ b = 9218868437227405312
  · rw [if_pos h]; exact h1
  · rw [if_neg h]
    have h2 : JC (Gu a) = rn a := by rw [M3]; exact SA (by have h9 := ha; unfold BH at h9; unfold rn; split <;> omega)
    have h3 := ML (Nat.le_add_right (Gu a) (Gu b))
    omega
theorem Se {a b : Nat} (ha : BH a) (hb : BH b) : Bm a b = Bm b a := by
  rw [EW ha hb,EW hb ha,Nat.add_comm]
  by_cases h : a = 9218868437227405312 ∨ b = 9218868437227405312
  · rw [if_pos h,if_pos h.symm]
  · rw [if_neg h,if_neg (fun h2 => h h2.symm)]
theorem Sb {a b c : Nat} (ha : BH a) (hb : BH b) (hc : BH c) (h : rn b ≤ rn c) : Bm a b ≤ Bm a c := by
  have h1 := Rr ha hb
  rw [EW ha hc]
  by_cases hi : a = 9218868437227405312 ∨ c = 9218868437227405312
  · rw [if_pos hi]; exact h1
  · rw [if_neg hi,EW ha hb]
    have hb2 : ¬ (a = 9218868437227405312 ∨ b = 9218868437227405312) := by
      unfold BH rn at *
      split at h <;> split at h <;> omega
    rw [if_neg hb2]
    refine ML ?_
    rw [M3 b,M3 c]
    have := Jd (rn c) (rn b)
    omega
theorem Ls {p : Nat} : DC (p : Int) = true ↔ BH p := by
  unfold DC BH
  simp only [Bool.or_eq_true,decide_eq_true_eq]
  omega
theorem NA {α β : Type} (t : α) (k : α → Option β) : GU (some (Sum.inl t)) k = k t := rfl
abbrev In (w : List Nat) (i : Int) : Prop := 0 ≤ i ∧ i < (w.length : Int)
abbrev wg (w : List Nat) (i : Int) : Nat := w.getD i.toNat 0
abbrev C7 : Nat := 9218868437227405312
def GD (a b : Nat) : Nat := Bm a b
theorem Ih {w : List Nat} {i : Int} (h : In w i) : ix w i = some (wg w i) := by
  have h2 : i.toNat < w.length := by omega
  rw [show i = ((i.toNat : Nat) : Int) by omega]
  refine (AO (zb h2)).trans ?_
  congr 1
  unfold wg
  rw [Int.toNat_natCast,List.getD_eq_getElem?_getD,zb h2]; rfl
theorem RR (w : List Nat) (i : Int) : C5 w i = decide (In w i) := by unfold C5; rw [← Bool.decide_and]
theorem Y3 (a b : Nat) : GD a b = if FE (FS a b) = 9223372036854775808 then 0 else FE (FS a b) := Rm a b
abbrev nz (L : List Nat) : List Int := L.map (fun n : Nat => (n : Int))
theorem JV {L : List Nat} {i : Int} (h : In L i) : ix (nz L) i = some ((wg L i : Nat) : Int) := by
  have h2 : i.toNat < L.length := by omega
  rw [show i = ((i.toNat : Nat) : Int) by omega]
  refine (AO (x := ((L[i.toNat]'h2 : Nat) : Int)) (by rw [List.getElem?_map,zb h2]; rfl)).trans ?_
  congr 2
  unfold wg
  rw [Int.toNat_natCast,List.getD_eq_getElem?_getD,zb h2]; rfl
theorem Pd {a b : Nat} : EM (a : Int) (b : Int) = ((GD a b : Nat) : Int) := by
  unfold EM
  simp only [Int.toNat_natCast]
  rw [MY (Rh a b),Y3]
  split
  · rename_i h
    rw [if_pos (by omega)]; rfl
  · rename_i h
    rw [if_neg (by omega)]
theorem UW {L : List Nat} (hl : L.length ≤ 1000000) : Hx (nz L) = some (L.map FE) := by
  unfold Hx
  rw [RI (nz L) (by simp; omega) (fun x => DB x) (E7 (nz L)) (fun k hk out ho => by
    rw [E7,if_pos (by omega),AO (zb hk),za]) (fun out => by rw [E7,if_neg (by omega)]),za,List.map_map]
  congr 1
  refine List.map_congr_left fun x _ => ?_
  exact Ze x
theorem TP {x : Nat} (h : GT x) : BH (FE x) ↔ BH x := by
  by_cases hn : Ce x
  · rw [IQ hn]
    have hw := (Jr h).1 hn
    unfold BH
    omega
  · rw [GZ hn]
abbrev Wc (L : List Nat) : Prop := ∀ x ∈ L,BH x
noncomputable instance (L : List Nat) : Decidable (Wc L) := Classical.propDecidable _
theorem MQ {L : List Nat} (hl : L.length ≤ 1000000) (links : Int) : Gj (nz L) links = some (decide (Wc L ∧ (L.length : Int) = links)) := by
  have hd : DecidablePred fun x : Int => ¬ DC x = true := fun _ => inferInstance
  unfold Gj
  rw [EX (nz L) (by simp; omega) (EL (nz L)) (fun x => ¬ DC x = true) false (fun k hk => by
    rw [EL,if_pos (by omega),AO (zb hk),za]
    by_cases c : DC (nz L)[k] = true
    · rw [if_neg (by rw [c]; decide),if_neg (fun h => h c)]
    · rw [if_pos (by rw [Bool.eq_false_iff.2 c]; rfl),if_pos c]) (by rw [EL,if_neg (by omega)])]
  by_cases h : Wc L
  · rw [if_neg (fun ⟨x,hx,hn⟩ => by
      obtain ⟨y,hy,rfl⟩ := List.mem_map.1 hx
      exact hn (Ls.2 (h y hy))),NA]
    congr 1
    exact decide_eq_decide.2 ⟨fun h1 => ⟨h,by simpa using h1⟩,fun h1 => by simpa using h1.2⟩
  · have hx : ∃ x ∈ L, ¬ BH x := Classical.byContradiction fun hc => h fun x hx => Classical.byContradiction fun hn => hc ⟨x,hx,hn⟩
    obtain ⟨x,hx,hn⟩ := hx
    rw [if_pos ⟨(x : Int),List.mem_map.2 ⟨x,hx,rfl⟩,fun hc => hn (Ls.1 hc)⟩]
    show some false = _
    rw [decide_eq_false (fun hc => h hc.1)]
theorem TG {L : List Nat} (hL : ∀ x ∈ L,GT x) (hl : L.length ≤ 1000000) (links : Int) : E2 (L.map FE) links = some (decide (Wc L ∧ (L.length : Int) = links)) := by
  unfold E2
  by_cases he : ((L.map FE).length : Int) ≠ links
  · rw [if_pos he,decide_eq_false (fun h => he (by rw [List.length_map]; exact h.2))]
  · have he' : (L.length : Int) = links := by
      have := Classical.byContradiction he
      rw [List.length_map] at this; exact this
    rw [if_neg he,EX (L.map FE) (by simp; omega) (DA (L.map FE)) (fun x => ¬ CY x = true) false (fun k hk => by
      rw [DA,if_pos (by omega),AO (zb hk),za]
      by_cases c : CY (L.map FE)[k] = true
      · rw [if_neg (by rw [c]; decide),if_neg (fun h => h c)]
      · rw [if_pos (by rw [Bool.eq_false_iff.2 c]; rfl),if_pos c]) (by rw [DA,if_neg (by omega)])]
    have hc : ∀ x ∈ L,CY (FE x) = true ↔ BH x := fun x hx => by
      rw [Vr (To (hL x hx)),Ls,TP (hL x hx)]
    by_cases h : Wc L
    · rw [if_neg (fun ⟨x,hx,hn⟩ => by
        obtain ⟨y,hy,rfl⟩ := List.mem_map.1 hx
        exact hn ((hc y hy).2 (h y hy))),decide_eq_true ⟨h,he'⟩]; rfl
    · have hx : ∃ x ∈ L, ¬ BH x := Classical.byContradiction fun hc => h fun x hx => Classical.byContradiction fun hn => hc ⟨x,hx,hn⟩
      obtain ⟨x,hx,hn⟩ := hx
      rw [if_pos ⟨FE x,List.mem_map.2 ⟨x,hx,rfl⟩,fun h2 => hn ((hc x hx).1 h2)⟩,decide_eq_false (fun hc => h hc.1)]; rfl
def Pg (x : Nat) : Bool := decide (¬ Ce x ∧ Ci x < 9218868437227405312)
theorem TJ (x : Nat) : RO x 9218868437227405312 = Pg x := by
  rw [Qe]
  unfold Pg
  have h1 : ¬ Ce 9218868437227405312 := by decide
  have h2 : Ci 9218868437227405312 = 9218868437227405312 := by decide
  rw [h2]
  exact decide_eq_decide.2 ⟨fun h => ⟨h.1,h.2.2⟩,fun h => ⟨h.1,h1,h.2⟩⟩
theorem VM (w : List Nat) (i : Int) : FC w i = some (decide (In w i) && Pg (wg w i)) := by
  unfold FC
  rw [RR]
  by_cases h : In w i
  · rw [decide_eq_true h,if_pos rfl,Ih h,za,Qf.1,za,TJ]; rfl
  · rw [decide_eq_false h]; rfl
theorem Wz {x : Nat} (h : GT x) : (decide (0 < cls x) && decide (cls x < 6)) = Pg x := by
  rw [← Bool.decide_and]
  unfold Pg
  refine decide_eq_decide.2 ?_
  have hr := Hh h
  unfold rk at hr
  by_cases h0 : cls x ≠ 0
  · rw [if_pos h0] at hr
    rcases hr with ⟨hn,h1,_⟩ | ⟨hn,h1⟩
    · exact absurd ((Od).2 hn) h0
    · constructor
      · rintro ⟨h2,h3⟩
        refine ⟨hn, ?_⟩
        rcases h1 with h1 | h1 | h1 | h1 | h1 | h1 <;> omega
      · rintro ⟨_,h3⟩
        rcases h1 with h1 | h1 | h1 | h1 | h1 | h1 <;> omega
  · have h0 : cls x = 0 := Classical.byContradiction h0
    have hn := Od.1 h0
    exact ⟨fun hc => by omega,fun hc => absurd hn hc.1⟩
theorem Xo {L : List Nat} (hL : ∀ x ∈ L,GT x) (i : Int) : LI (nz L) i = some (decide (In L i) && Pg (wg L i)) := by
  unfold LI
  by_cases h : In L i
  · rw [if_neg (by simp; omega),JV h,za]
    have hw : GT (wg L i) := hL _ (by
      have h2 : i.toNat < L.length := by omega
      unfold wg
      rw [List.getD_eq_getElem?_getD,zb h2]
      exact List.getElem_mem h2)
    rw [R5 hw,Wz hw,decide_eq_true h]; rfl
  · rw [if_pos (by simp; omega),decide_eq_false h]; rfl
theorem J1 {p : Nat} (h : p ≤ C7) : rn p = p := by unfold rn; rw [if_neg (by unfold C7 at h; omega)]
theorem DQ {p : Nat} (h : p ≤ C7) : BH p := .inl h
theorem cost_cfn' {p : Nat} (h : BH p) : FE p = p := GZ (FX h).2
theorem UZ {L : List Nat} (h : Wc L) {i : Int} (hi : In L i) : BH (wg L i) := h _ (by
  have h2 : i.toNat < L.length := by omega
  unfold wg
  rw [List.getD_eq_getElem?_getD,zb h2]
  exact List.getElem_mem h2)
end Go.Proofs.YtbiekjhlijdjbaaGreat
