/- Layer 30: the order of packets; the sort's parts, first half. Conditions: none. -/
import Derived.Test.YtgoifghhcekahaaGreatDooreMP
import Derived.Test.YtgoifghhcekahaaGreatDooreA3
namespace Go.Proofs.YtgoifghhcekahaaGreatDoor
set_option linter.unusedVariables false
set_option linter.unusedSimpArgs false
open Go Go.RowKit
abbrev Se := Int × Int × Int × Int × Int
instance : Inhabited Se := ⟨(0,0,0,0,0)⟩
theorem mQ (a b : Int) : Ay a b = if a < b then -1 else if b < a then 1 else 0 := by
  unfold Ay Ea
  simp
def cT : List Int → List Int → Int
  | x :: a,y :: b => if Ay x y ≠ 0 then Ay x y else cT a b
  | _,_ => 0
theorem YH : ∀ a b : List Int,a.length = b.length → (cT a b < 0 ↔ IE a b = true)
  | [],[],_ => by simp [cT,IE]
  | [],y :: b,h => by simp at h
  | x :: a,[],h => by simp at h
  | x :: a,y :: b,h => by
    unfold cT IE
    have ih := YH a b (by simpa using h)
    rw [mQ]
    by_cases h1 : x < y
    · simp [h1]
    · by_cases h2 : y < x
      · have : ¬ x = y := by omega
        simp [h1,h2,this]
      · have : x = y := by omega
        subst this
        simp [h1,ih]
theorem or2 (a b : Int) : IY [a,b] = some (if a ≠ 0 then a else b) := by
  unfold IY
  by_cases ha : a ≠ 0
  · rw [if_pos ha,Af (e := .inr a) (by rw [F4,if_pos (by show (0 : Int) < 2; decide)]; show (some a).bind _ = _; rw [Option.bind_some,if_pos ha])]; rfl
  · rw [if_neg ha,AH (s' := 1) (by rw [F4,if_pos (by show (0 : Int) < 2; decide)]; show (some a).bind _ = _; rw [Option.bind_some,if_neg ha]; rfl)]
    by_cases hb : b ≠ 0
    · rw [Af (e := .inr b) (by rw [F4,if_pos (by show (1 : Int) < 2; decide)]; show (some b).bind _ = _; rw [Option.bind_some,if_pos hb])]; rfl
    · rw [AH (s' := 2) (by rw [F4,if_pos (by show (1 : Int) < 2; decide)]; show (some b).bind _ = _; rw [Option.bind_some,if_neg hb]; rfl),Af (e := .inl ()) (by rw [F4,if_neg (by show ¬ (2 : Int) < 2; decide)])]
      rw [Decidable.not_not.1 hb]; rfl
theorem sc4 (a b c d x y z u : Int) : DC [a,b,c,d] [x,y,z,u] = some (cT [a,b,c,d] [x,y,z,u]) := by
  have st : ∀ (i : Nat) (p q : Int) (s : Int),s = (i : Int) → i < 4 → [a,b,c,d][i]? = some p → [x,y,z,u][i]? = some q → DV [a,b,c,d] [x,y,z,u] s = if Ay p q ≠ 0 then some (.inr (.inr (Ay p q))) else some (.inl ((i : Int) + 1)) := fun i p q s hs hi hp hq => by
    subst hs
    rw [DV,if_pos (by show (i : Int) < 4; omega),Bh hp,Option.bind_some,if_neg (by show ¬ (4 : Int) ≤ i; omega),Bh hq,Option.bind_some]
    by_cases h : Ay p q ≠ 0
    · rw [if_pos h,if_pos h]
    · rw [if_neg h,if_neg h]
      have : Ae ((i : Int) + 1) = (i : Int) + 1 := Ab ⟨by omega,by omega⟩
      rw [this]
  unfold DC
  unfold cT
  by_cases h0 : Ay a x ≠ 0
  · rw [if_pos h0,Af (e := .inr (Ay a x)) (by rw [st 0 a x 0 rfl (by decide) rfl rfl,if_pos h0])]; rfl
  rw [if_neg h0,AH (s' := 1) (by rw [st 0 a x 0 rfl (by decide) rfl rfl,if_neg h0]; rfl)]
  unfold cT
  by_cases h1 : Ay b y ≠ 0
  · rw [if_pos h1,Af (e := .inr (Ay b y)) (by rw [st 1 b y 1 rfl (by decide) rfl rfl,if_pos h1])]; rfl
  rw [if_neg h1,AH (s' := 2) (by rw [st 1 b y 1 rfl (by decide) rfl rfl,if_neg h1]; rfl)]
  unfold cT
  by_cases h2 : Ay c z ≠ 0
  · rw [if_pos h2,Af (e := .inr (Ay c z)) (by rw [st 2 c z 2 rfl (by decide) rfl rfl,if_pos h2])]; rfl
  rw [if_neg h2,AH (s' := 3) (by rw [st 2 c z 2 rfl (by decide) rfl rfl,if_neg h2]; rfl)]
  unfold cT
  by_cases h3 : Ay d u ≠ 0
  · rw [if_pos h3,Af (e := .inr (Ay d u)) (by rw [st 3 d u 3 rfl (by decide) rfl rfl,if_pos h3])]; rfl
  rw [if_neg h3,AH (s' := 4) (by rw [st 3 d u 3 rfl (by decide) rfl rfl,if_neg h3]; rfl),Af (e := .inl ()) (by rw [DV,if_neg (by show ¬ (4 : Int) < 4; decide)])]
  rfl
def jZ (p q : Se) : Int := cT (Yg p) (Yg q)
theorem Hp (p q : Se) : BD p q = some (jZ p q) := by
  unfold BD
  rw [sc4,Option.bind_some,or2]
  rfl
def Au (p q : Se) : Bool := decide (jZ p q < 0)
theorem Rn (x y : Se) : (jZ x y < 0) = (Au x y = true) := by unfold Au; simp
theorem Pi (p q : Se) : Au p q = A7 p q := by
  rw [Bool.eq_iff_iff, ← Rn]
  exact YH _ _ rfl
theorem kW : Go.Sort.SWO Au := ⟨fun x => by rw [Pi]; exact LW.irr x,fun x y z h1 h2 => by rw [Pi] at *; exact LW.tr h1 h2,fun x y z h1 h2 => by
  rw [Pi] at *
  cases h : A7 x z with
  | false => rfl
  | true =>
    cases h3 : A7 y x with
    | true => rw [LW.tr h3 h] at h2; cases h2
    | false => rw [LW.tot h1 h3,h2] at h; cases h⟩
section
open Go.Sort
theorem UR {a : Nat} : ∀ (j : Nat) (d : Array (Int × Int × Int × Int × Int)),j < d.size → d.size ≤ 1000000000 → Ac (AY (a : Int)) (d.toList,(j : Int)) = some (insInner Au a j d).toList
  | 0,d,hj,hb => Af (by rw [AY,if_neg (by omega),Option.bind_some,if_neg (by decide)]; rfl)
  | j + 1, d, hj, hb => by
    have e1 : Ae (((j + 1 : Nat) : Int) - 1) = (j : Int) := by rw [Ab (by omega)]; omega
    have h1 := Du (d := d) hj
    have h0 := Du (d := d) (show j < d.size by omega)
    rw [insInner]
    by_cases c : a < j + 1
    · by_cases c2 : Au d[j + 1]! d[j]! = true
      · rw [if_pos (by simp [c,c2])]
        have hst : AY (a : Int) (d.toList,((j + 1 : Nat) : Int)) = some (.inl ((swp d (j + 1) j).toList,(j : Int))) := by
          rw [AY,if_pos (by omega),e1]
          simp only [h1,h0,Option.bind_some,Hp,Rn,Bool.decide_eq_true,c2,if_true,FC,Du (show j < (d.setIfInBounds (j + 1) d[j]!).size by simp; omega)]
          rfl
        rw [AH hst]
        exact UR j _ (by rw [size_swp]; omega) (by rw [size_swp]; exact hb)
      · rw [if_neg (by simp [c2])]
        refine Af ?_
        rw [AY,if_pos (by omega),e1]
        simp only [h1,h0,Option.bind_some,Hp,Rn,Bool.decide_eq_true,c2,Bool.false_eq_true,if_false]
    · rw [if_neg (by simp; omega)]
      exact Af (by rw [AY,if_neg (by omega),Option.bind_some,if_neg (by decide)])
theorem XI {a b : Nat} : ∀ (m i : Nat) (d : Array (Int × Int × Int × Int × Int)),b - i = m → b ≤ d.size → d.size ≤ 1000000000 → Ac (Bv (a : Int) (b : Int)) (d.toList,(i : Int)) = some (insOuter Au a b i d).toList := by
  intro m
  induction m with
  | zero =>
    intro i d hm hb hs
    rw [insOuter,if_neg (by omega)]
    exact Af (by rw [Bv,if_neg (by omega)])
  | succ m ih =>
    intro i d hm hb hs
    rw [insOuter,if_pos (by omega)]
    have hst : Bv (a : Int) (b : Int) (d.toList,(i : Int)) = some (.inl ((insInner Au a i d).toList,((i + 1 : Nat) : Int))) := by
      rw [Bv,if_pos (by omega),UR i d (by omega) hs,Option.bind_some,Ab (by omega)]; rfl
    rw [AH hst]
    exact ih (i + 1) _ (by omega) (by rw [GW]; exact hb) (by rw [GW]; exact hs)
theorem sE (d : Array (Int × Int × Int × Int × Int)) (a b : Nat) (hb : b ≤ d.size) (hs : d.size ≤ 1000000000) (ha : a ≤ b) : BG d.toList (a : Int) (b : Int) = some (insertionSort Au d a b).toList := by
  unfold BG
  rw [Ab (by omega)]
  exact XI _ (a + 1) d rfl hb hs
theorem Zt {hi first : Nat} : ∀ (m root : Nat) (d : Array (Int × Int × Int × Int × Int)),hi - root ≤ m → first + hi ≤ d.size → d.size ≤ 1000000000 → root < 2000000000 → Ac (AD (hi : Int) (first : Int)) (d.toList,(root : Int)) = some (siftDown Au hi first root d).toList ∧ (siftDown Au hi first root d).size = d.size := by
  intro m
  induction m with
  | zero =>
    intro root d hm hf hs hr
    have e1 : Ae ((Ae (2 * (root : Int))) + 1) = ((2 * root + 1 : Nat) : Int) := by rw [Ab (x := 2 * (root : Int)) (by omega),Ab (by omega)]; omega
    rw [siftDown,dif_pos (by omega)]
    exact ⟨Af (by rw [AD,e1,if_pos (by omega)]),rfl⟩
  | succ m ih =>
    intro root d hm hf hs hr
    have e1 : Ae ((Ae (2 * (root : Int))) + 1) = ((2 * root + 1 : Nat) : Int) := by rw [Ab (x := 2 * (root : Int)) (by omega),Ab (by omega)]; omega
    rw [siftDown]
    by_cases c : 2 * root + 1 ≥ hi
    · rw [dif_pos c]
      exact ⟨Af (by rw [AD,e1,if_pos (by omega)]),rfl⟩
    · rw [dif_neg c]
      have e2 : Ae (((2 * root + 1 : Nat) : Int) + 1) = ((2 * root + 2 : Nat) : Int) := by rw [Ab (by omega)]; omega
      have e3 : Ae ((first : Int) + ((2 * root + 1 : Nat) : Int)) = ((first + (2 * root + 1) : Nat) : Int) := by rw [Ab (by omega)]; omega
      have e4 : Ae (((first + (2 * root + 1) : Nat) : Int) + 1) = ((first + (2 * root + 1) + 1 : Nat) : Int) := by rw [Ab (by omega)]; omega
      have e5 : Ae ((first : Int) + (root : Int)) = ((first + root : Nat) : Int) := by rw [Ab (by omega)]; omega
      have e6 : Ae ((first : Int) + ((2 * root + 2 : Nat) : Int)) = ((first + (2 * root + 2) : Nat) : Int) := by rw [Ab (by omega)]; omega
      have g0 := Du (d := d) (show first + root < d.size by omega)
      have g1 := Du (d := d) (show first + (2 * root + 1) < d.size by omega)
      by_cases c2 : (decide (2 * root + 1 + 1 < hi) && Au d[first + (2 * root + 1)]! d[first + (2 * root + 1) + 1]!) = true
      · have c3 : 2 * root + 2 < hi := by have := (Bool.and_eq_true _ _ ▸ c2).1; simpa using this
        have c4 := (Bool.and_eq_true _ _ ▸ c2).2
        have g2 := Du (d := d) (show first + (2 * root + 1) + 1 < d.size by omega)
        have g3 := Du (d := d) (show first + (2 * root + 2) < d.size by omega)
        rw [if_pos c2]
        by_cases c5 : Au d[first + root]! d[first + (2 * root + 2)]! = true
        · rw [if_neg (by rw [c5]; decide),dif_pos c3]
          have hst : AD (hi : Int) (first : Int) (d.toList,(root : Int)) = some (.inl ((swp d (first + root) (first + (2 * root + 2))).toList,((2 * root + 2 : Nat) : Int))) := by
            rw [AD,e1,if_neg (by omega),e2,if_pos (by omega),e3,e4]
            simp only [g1,g2,Option.bind_some,Hp,Rn,Bool.decide_eq_true,c4,if_true,e5,e6,g0,g3,c5,Bool.not_true,Bool.false_eq_true,if_false,FC,Du (show first + (2 * root + 2) < (d.setIfInBounds (first + root) d[first + (2 * root + 2)]!).size by simp; omega)]
            rfl
          rw [AH hst]
          have := ih (2 * root + 2) (swp d (first + root) (first + (2 * root + 2))) (by omega) (by rw [size_swp]; exact hf) (by rw [size_swp]; exact hs) (by omega)
          exact ⟨this.1,by rw [this.2,size_swp]⟩
        · rw [if_pos (by simpa using c5)]
          refine ⟨Af ?_,rfl⟩
          rw [AD,e1,if_neg (by omega),e2,if_pos (by omega),e3,e4]
          simp only [g1,g2,Option.bind_some,Hp,Rn,Bool.decide_eq_true,c4,if_true,e5,e6,g0,g3,c5,Bool.not_false]
      · rw [if_neg c2]
        have hpick : (if ((2 * root + 2 : Nat) : Int) < (hi : Int) then (ix d.toList ((first + (2 * root + 1) + 1 : Nat) : Int)).bind fun x6 => some (Au d[first + (2 * root + 1)]! x6) else some false) = some false := by
          by_cases c3 : 2 * root + 2 < hi
          · rw [if_pos (by omega),Du (d := d) (show first + (2 * root + 1) + 1 < d.size by omega),Option.bind_some]
            congr 1
            by_cases c4 : Au d[first + (2 * root + 1)]! d[first + (2 * root + 1) + 1]! = true
            · exact absurd (by rw [c4]; simp; omega) c2
            · simpa using c4
          · rw [if_neg (by omega)]
        by_cases c5 : Au d[first + root]! d[first + (2 * root + 1)]! = true
        · rw [if_neg (by rw [c5]; decide)]
          have hst : AD (hi : Int) (first : Int) (d.toList,(root : Int)) = some (.inl ((swp d (first + root) (first + (2 * root + 1))).toList,((2 * root + 1 : Nat) : Int))) := by
            rw [AD,e1,if_neg (by omega),e2,e3,e4]
            simp only [Hp,Rn,Bool.decide_eq_true,g1,hpick,Option.bind_some,Bool.false_eq_true,if_false,e3,e5,g0,g1,c5,Bool.not_true,FC,Du (show first + (2 * root + 1) < (d.setIfInBounds (first + root) d[first + (2 * root + 1)]!).size by simp; omega)]
            rfl
          rw [AH hst]
          have := ih (2 * root + 1) (swp d (first + root) (first + (2 * root + 1))) (by omega) (by rw [size_swp]; exact hf) (by rw [size_swp]; exact hs) (by omega)
          exact ⟨this.1,by rw [this.2,size_swp]⟩
        · rw [if_pos (by simpa using c5)]
          refine ⟨Af ?_,rfl⟩
          rw [AD,e1,if_neg (by omega),e2,e3,e4]
          simp only [Hp,Rn,Bool.decide_eq_true,g1,hpick,Option.bind_some,Bool.false_eq_true,if_false,e3,e5,g0,g1,c5,Bool.not_false,if_true]
theorem WD (hi first root : Nat) (d : Array (Int × Int × Int × Int × Int)) (hf : first + hi ≤ d.size) (hs : d.size ≤ 1000000000) (hr : root < 2000000000) : Cg d.toList (root : Int) (hi : Int) (first : Int) = some (siftDown Au hi first root d).toList := (Zt _ root d (Nat.le_refl _) hf hs hr).1
theorem OC (hi first root : Nat) (d : Array (Int × Int × Int × Int × Int)) (hf : first + hi ≤ d.size) (hs : d.size ≤ 1000000000) (hr : root < 2000000000) : (siftDown Au hi first root d).size = d.size := (Zt _ root d (Nat.le_refl _) hf hs hr).2
theorem Wk {a b : Nat} (hab : a ≤ b) : ∀ (k : Nat) (d : Array (Int × Int × Int × Int × Int)),b ≤ d.size → d.size ≤ 1000000000 → k ≤ 1000000000 → Ac (BQ (a : Int) (b : Int)) (d.toList,(k : Int) - 1) = some (heapBuild Au (b - a) a k d).toList ∧ (heapBuild Au (b - a) a k d).size = d.size
  | 0,d,hb,hs,hk => ⟨Af (by rw [BQ,if_neg (by omega)]; rfl),rfl⟩
  | k + 1,d,hb,hs,hk => by
    have e1 : Ae ((b : Int) - (a : Int)) = ((b - a : Nat) : Int) := by rw [Ab (by omega)]; omega
    have hst : BQ (a : Int) (b : Int) (d.toList,((k + 1 : Nat) : Int) - 1) = some (.inl ((siftDown Au (b - a) a k d).toList,(k : Int) - 1)) := by
      rw [BQ,if_pos (by omega),e1,show ((k + 1 : Nat) : Int) - 1 = (k : Int) by omega,WD _ _ _ _ (by omega) hs (by omega),Option.bind_some,Ab (by omega)]
    rw [AH hst]
    have hz := OC (b - a) a k d (by omega) hs (by omega)
    have := Wk hab k (siftDown Au (b - a) a k d) (by omega) (by omega) (by omega)
    rw [heapBuild]
    exact ⟨this.1,by rw [this.2,hz]⟩
theorem iH {a : Nat} : ∀ (k : Nat) (d : Array (Int × Int × Int × Int × Int)),a + k ≤ d.size → d.size ≤ 1000000000 → Ac (BT (a : Int)) (d.toList,(k : Int) - 1) = some (heapPop Au a k d).toList
  | 0,d,hb,hs => Af (by rw [BT,if_neg (by omega)]; rfl)
  | k + 1,d,hb,hs => by
    have e1 : ((k + 1 : Nat) : Int) - 1 = (k : Int) := by omega
    have e2 : Ae ((a : Int) + (k : Int)) = ((a + k : Nat) : Int) := by rw [Ab (by omega)]; omega
    have h0 := Du (d := d) (show a < d.size by omega)
    have h1 := Du (d := d) (show a + k < d.size by omega)
    have hz := size_swp d a (a + k)
    have hst : BT (a : Int) (d.toList,((k + 1 : Nat) : Int) - 1) = some (.inl ((siftDown Au k a 0 (swp d a (a + k))).toList,(k : Int) - 1)) := by
      rw [BT,e1,if_pos (by omega),e2]
      simp only [h1,h0,Option.bind_some,FC,Du (show a + k < (d.setIfInBounds a d[a + k]!).size by simp; omega)]
      show (Cg (swp d a (a + k)).toList ((0 : Nat) : Int) (k : Int) (a : Int)).bind _ = _
      rw [WD _ _ _ _ (by omega) (by omega) (by omega),Option.bind_some,Ab (by omega)]
    rw [AH hst,heapPop]
    have hz2 := OC k a 0 (swp d a (a + k)) (by omega) (by omega) (by omega)
    exact iH k _ (by omega) (by omega)
theorem m6 (d : Array (Int × Int × Int × Int × Int)) (a b : Nat) (hb : b ≤ d.size) (hs : d.size ≤ 1000000000) (ha : a < b) : Ci d.toList (a : Int) (b : Int) = some (heapSort Au d a b).toList := by
  unfold Ci
  have e1 : Ae ((b : Int) - (a : Int)) = ((b - a : Nat) : Int) := by rw [Ab (by omega)]; omega
  have e2 : Ae (((b - a : Nat) : Int) - 1) = ((b - a : Nat) : Int) - 1 := Ab (by omega)
  have e3 : Ae (Int.tdiv (((b - a : Nat) : Int) - 1) 2) = (((b - a - 1) / 2 + 1 : Nat) : Int) - 1 := by
    rw [Int.tdiv_eq_ediv_of_nonneg (by omega),Ab (by omega)]; omega
  rw [e1,e2,e3]
  have h := Wk (Nat.le_of_lt ha) ((b - a - 1) / 2 + 1) d hb hs (by omega)
  rw [h.1,Option.bind_some,iH _ _ (by rw [h.2]; omega) (by rw [h.2]; exact hs)]
  rfl
theorem V9 (d : Array (Int × Int × Int × Int × Int)) (a b s : Nat) (ha : a < d.size) (hb : b < d.size) (hs : s < 1000) : B0 d.toList (a : Int) (b : Int) (s : Int) = some (((order2 Au d a b s).1 : Int),((order2 Au d a b s).2.1 : Int),((order2 Au d a b s).2.2 : Int)) := by
  unfold B0 order2
  have h0 := Du (d := d) ha
  have h1 := Du (d := d) hb
  by_cases c : Au d[b]! d[a]! = true
  · simp only [h0,h1,Option.bind_some,Hp,Rn,Bool.decide_eq_true,c,if_true,Ab (show -9223372036854775808 ≤ (s : Int) + 1 ∧ (s : Int) + 1 ≤ 9223372036854775807 by omega)]; rfl
  · simp only [h0,h1,Option.bind_some,Hp,Rn,Bool.decide_eq_true,c,Bool.false_eq_true,if_false]
theorem YC (d : Array (Int × Int × Int × Int × Int)) (a b c s : Nat) (ha : a < d.size) (hb : b < d.size) (hc : c < d.size) (hs : s < 900) : B4 d.toList (a : Int) (b : Int) (c : Int) (s : Int) = some (((median Au d a b c s).1 : Int),((median Au d a b c s).2 : Int)) := by
  unfold B4 median
  have m1 := order2_mem Au d a b s
  have k1 := order2_count Au d a b s
  rw [V9 d a b s ha hb (by omega),Option.bind_some]
  have m2 := order2_mem Au d (order2 Au d a b s).2.1 c (order2 Au d a b s).2.2
  have k2 := order2_count Au d (order2 Au d a b s).2.1 c (order2 Au d a b s).2.2
  rw [V9 d _ c _ (by omega) hc (by omega),Option.bind_some,V9 d _ _ _ (by omega) (by omega) (by omega)]; rfl
theorem VP (d : Array (Int × Int × Int × Int × Int)) (a s : Nat) (h0 : 0 < a) (ha : a + 1 < d.size) (hb : d.size ≤ 1000000000) (hs : s < 900) : A2 d.toList (a : Int) (s : Int) = some (((medianAdjacent Au d a s).1 : Int),((medianAdjacent Au d a s).2 : Int)) := by
  unfold A2 medianAdjacent
  rw [Ab (x := (a : Int) - 1) (by omega),Ab (x := (a : Int) + 1) (by omega),show (a : Int) - 1 = ((a - 1 : Nat) : Int) by omega,show (a : Int) + 1 = ((a + 1 : Nat) : Int) by omega,YC d _ _ _ _ (by omega) (by omega) (by omega) hs]; rfl
def KV : Hint → Int
  | .unknown => 0
  | .increasing => 1
  | .decreasing => 2
theorem iO (j s : Nat) : ((some ((j : Int),(s : Int))).bind fun (x : Int × Int) => match x with | (x1,x2) => (if x2 = 0 then some (x1,1) else (if x2 = 12 then some (x1,2) else some (x1,(0 : Int))))) = some ((j : Int),KV (if s = 0 then .increasing else if s = 12 then .decreasing else .unknown)) := by
  rw [Option.bind_some]
  show (if (s : Int) = 0 then some ((j : Int),(1 : Int)) else (if (s : Int) = 12 then some ((j : Int),2) else some ((j : Int),0))) = _
  by_cases c1 : s = 0
  · rw [if_pos (by omega),if_pos c1]; rfl
  · rw [if_neg (by omega),if_neg c1]
    by_cases c2 : s = 12
    · rw [if_pos (by omega),if_pos c2]; rfl
    · rw [if_neg (by omega),if_neg c2]; rfl
theorem tJ (d : Array (Int × Int × Int × Int × Int)) (a b : Nat) (hb : b ≤ d.size) (hs : d.size ≤ 1000000000) (ha : a + 12 < b) : BR d.toList (a : Int) (b : Int) = some (((choosePivot Au d a b).1 : Int),KV (choosePivot Au d a b).2) := by
  unfold BR
  have e1 : Ae ((b : Int) - (a : Int)) = ((b - a : Nat) : Int) := by rw [Ab (by omega)]; omega
  have e2 : Ae (Int.tdiv ((b - a : Nat) : Int) 4) = (((b - a) / 4 : Nat) : Int) := by rw [Int.tdiv_eq_ediv_of_nonneg (by omega),Ab (by omega)]; omega
  have f1 : Ae ((a : Int) + Ae ((((b - a) / 4 : Nat) : Int) * 1)) = ((a + (b - a) / 4 * 1 : Nat) : Int) := by rw [Ab (x := (((b - a) / 4 : Nat) : Int) * 1) (by omega),Ab (by omega)]; omega
  have f2 : Ae ((a : Int) + Ae ((((b - a) / 4 : Nat) : Int) * 2)) = ((a + (b - a) / 4 * 2 : Nat) : Int) := by rw [Ab (x := (((b - a) / 4 : Nat) : Int) * 2) (by omega),Ab (by omega)]; omega
  have f3 : Ae ((a : Int) + Ae ((((b - a) / 4 : Nat) : Int) * 3)) = ((a + (b - a) / 4 * 3 : Nat) : Int) := by rw [Ab (x := (((b - a) / 4 : Nat) : Int) * 3) (by omega),Ab (by omega)]; omega
  rw [e1,e2,f1,f2,f3,if_pos (by omega),choosePivot_eq]
  unfold rawPivot
  rw [if_pos (show b - a ≥ 8 by omega)]
  have b1 : a < a + (b - a) / 4 * 1 ∧ a + (b - a) / 4 * 3 + 1 < b := by omega
  have b2 : a + (b - a) / 4 * 1 < a + (b - a) / 4 * 2 ∧ a + (b - a) / 4 * 2 < a + (b - a) / 4 * 3 := by omega
  generalize a + (b - a) / 4 * 1 = i at b1 b2 ⊢
  generalize a + (b - a) / 4 * 2 = j at b2 ⊢
  generalize a + (b - a) / 4 * 3 = k at b1 b2 ⊢
  by_cases c : b - a ≥ 50
  · rw [if_pos (show (50 : Int) ≤ ((b - a : Nat) : Int) by omega),if_pos c]
    have g1 := medianAdjacent_count Au d i 0
    have n1 := medianAdjacent_mem Au d i 0
    have q1 := VP d i 0 (by omega) (by omega) hs (by omega)
    generalize medianAdjacent Au d i 0 = r1 at g1 n1 q1 ⊢
    have g2 := medianAdjacent_count Au d j r1.2
    have n2 := medianAdjacent_mem Au d j r1.2
    have q2 := VP d j r1.2 (by omega) (by omega) hs (by omega)
    generalize medianAdjacent Au d j r1.2 = r2 at g2 n2 q2 ⊢
    have g3 := medianAdjacent_count Au d k r2.2
    have n3 := medianAdjacent_mem Au d k r2.2
    have q3 := VP d k r2.2 (by omega) (by omega) hs (by omega)
    generalize medianAdjacent Au d k r2.2 = r3 at g3 n3 q3 ⊢
    have q4 := YC d r1.1 r2.1 r3.1 r3.2 (by omega) (by omega) (by omega) (by omega)
    generalize median Au d r1.1 r2.1 r3.1 r3.2 = r4 at q4 ⊢
    have q1' : A2 d.toList (i : Int) 0 = some ((r1.1 : Int),(r1.2 : Int)) := q1
    rw [q1',Option.bind_some]
    simp only []
    rw [q2,Option.bind_some]
    simp only []
    rw [q3,Option.bind_some,Option.bind_some]
    simp only []
    rw [q4,Option.bind_some]
    exact iO r4.1 r4.2
  · rw [if_neg (show ¬ (50 : Int) ≤ ((b - a : Nat) : Int) by omega),if_neg c]
    have q4 := YC d i j k 0 (by omega) (by omega) (by omega) (by omega)
    generalize median Au d i j k 0 = r4 at q4 ⊢
    have q4' : B4 d.toList (i : Int) (j : Int) (k : Int) 0 = some ((r4.1 : Int),(r4.2 : Int)) := q4
    rw [Option.bind_some]
    simp only []
    rw [q4',Option.bind_some]
    exact iO r4.1 r4.2
theorem bQ : ∀ (m i j : Nat) (d : Array (Int × Int × Int × Int × Int)),j - i ≤ m → j < d.size → d.size ≤ 1000000000 → Ac Ba (d.toList,(i : Int),(j : Int)) = some (reverseLoop i j d).toList := by
  intro m
  induction m with
  | zero =>
    intro i j d hm hj hs
    rw [reverseLoop,if_neg (by omega)]
    exact Af (by rw [Ba,if_neg (by omega)])
  | succ m ih =>
    intro i j d hm hj hs
    rw [reverseLoop]
    by_cases c : i < j
    · rw [if_pos c]
      have h0 := Du (d := d) (show i < d.size by omega)
      have h1 := Du (d := d) hj
      have hst : Ba (d.toList,(i : Int),(j : Int)) = some (.inl ((swp d i j).toList,((i + 1 : Nat) : Int),((j - 1 : Nat) : Int))) := by
        rw [Ba,if_pos (by omega)]
        simp only [h0,h1,Option.bind_some,FC,Du (show j < (d.setIfInBounds i d[j]!).size by simp; omega)]
        rw [Ab (x := (i : Int) + 1) (by omega),Ab (x := (j : Int) - 1) (by omega),show (j : Int) - 1 = ((j - 1 : Nat) : Int) by omega]; rfl
      rw [AH hst]
      exact ih (i + 1) (j - 1) _ (by omega) (by rw [size_swp]; omega) (by rw [size_swp]; exact hs)
    · rw [if_neg c]
      exact Af (by rw [Ba,if_neg (by omega)])
theorem oY (d : Array (Int × Int × Int × Int × Int)) (a b : Nat) (hb : b ≤ d.size) (hs : d.size ≤ 1000000000) (ha : a < b) : Bl d.toList (a : Int) (b : Int) = some (reverseRange d a b).toList := by
  unfold Bl
  rw [Ab (by omega),show (b : Int) - 1 = ((b - 1 : Nat) : Int) by omega]
  exact bQ _ a (b - 1) d (Nat.le_refl _) (by omega) hs
end
end Go.Proofs.YtgoifghhcekahaaGreatDoor
