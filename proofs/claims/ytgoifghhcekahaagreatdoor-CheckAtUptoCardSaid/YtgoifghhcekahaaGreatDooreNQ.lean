/- Layer 30: the order of numbers; the sort's parts, first half. Conditions: none. -/
import Derived.Test.YtgoifghhcekahaaGreatDooreMP
import Derived.Test.YtgoifghhcekahaaGreatDooreA3
namespace Go.Proofs.YtgoifghhcekahaaGreatDoor
set_option linter.unusedVariables false
set_option linter.unusedSimpArgs false
open Go Go.RowKit
def As (x y : Int) : Bool := decide (x < y)
theorem RY (x y : Int) : Bz x y = As x y := by
  unfold Bz Ea As
  simp
section
open Go.Sort
theorem UM {a : Nat} : ∀ (j : Nat) (d : Array Int),j < d.size → d.size ≤ 1000000000 → Ac (A8 (a : Int)) (d.toList,(j : Int)) = some (insInner As a j d).toList
  | 0,d,hj,hb => Af (by rw [A8,if_neg (by omega),Option.bind_some,if_neg (by decide)]; rfl)
  | j + 1, d, hj, hb => by
    have e1 : Ae (((j + 1 : Nat) : Int) - 1) = (j : Int) := by rw [Ab (by omega)]; omega
    have h1 := Du (d := d) hj
    have h0 := Du (d := d) (show j < d.size by omega)
    rw [insInner]
    by_cases c : a < j + 1
    · by_cases c2 : As d[j + 1]! d[j]! = true
      · rw [if_pos (by simp [c,c2])]
        have hst : A8 (a : Int) (d.toList,((j + 1 : Nat) : Int)) = some (.inl ((swp d (j + 1) j).toList,(j : Int))) := by
          rw [A8,if_pos (by omega),e1]
          simp only [h1,h0,Option.bind_some,RY,c2,if_true,FC,Du (show j < (d.setIfInBounds (j + 1) d[j]!).size by simp; omega)]
          rfl
        rw [AH hst]
        exact UM j _ (by rw [size_swp]; omega) (by rw [size_swp]; exact hb)
      · rw [if_neg (by simp [c2])]
        refine Af ?_
        rw [A8,if_pos (by omega),e1]
        simp only [h1,h0,Option.bind_some,RY,c2,Bool.false_eq_true,if_false]
    · rw [if_neg (by simp; omega)]
      exact Af (by rw [A8,if_neg (by omega),Option.bind_some,if_neg (by decide)])
theorem X6 {a b : Nat} : ∀ (m i : Nat) (d : Array Int),b - i = m → b ≤ d.size → d.size ≤ 1000000000 → Ac (BS (a : Int) (b : Int)) (d.toList,(i : Int)) = some (insOuter As a b i d).toList := by
  intro m
  induction m with
  | zero =>
    intro i d hm hb hs
    rw [insOuter,if_neg (by omega)]
    exact Af (by rw [BS,if_neg (by omega)])
  | succ m ih =>
    intro i d hm hb hs
    rw [insOuter,if_pos (by omega)]
    have hst : BS (a : Int) (b : Int) (d.toList,(i : Int)) = some (.inl ((insInner As a i d).toList,((i + 1 : Nat) : Int))) := by
      rw [BS,if_pos (by omega),UM i d (by omega) hs,Option.bind_some,Ab (by omega)]; rfl
    rw [AH hst]
    exact ih (i + 1) _ (by omega) (by rw [GW]; exact hb) (by rw [GW]; exact hs)
theorem oM (d : Array Int) (a b : Nat) (hb : b ≤ d.size) (hs : d.size ≤ 1000000000) (ha : a ≤ b) : Ch d.toList (a : Int) (b : Int) = some (insertionSort As d a b).toList := by
  unfold Ch
  rw [Ab (by omega)]
  exact X6 _ (a + 1) d rfl hb hs
theorem ZS {hi first : Nat} : ∀ (m root : Nat) (d : Array Int),hi - root ≤ m → first + hi ≤ d.size → d.size ≤ 1000000000 → root < 2000000000 → Ac (AX (hi : Int) (first : Int)) (d.toList,(root : Int)) = some (siftDown As hi first root d).toList ∧ (siftDown As hi first root d).size = d.size := by
  intro m
  induction m with
  | zero =>
    intro root d hm hf hs hr
    have e1 : Ae ((Ae (2 * (root : Int))) + 1) = ((2 * root + 1 : Nat) : Int) := by rw [Ab (x := 2 * (root : Int)) (by omega),Ab (by omega)]; omega
    rw [siftDown,dif_pos (by omega)]
    exact ⟨Af (by rw [AX,e1,if_pos (by omega)]),rfl⟩
  | succ m ih =>
    intro root d hm hf hs hr
    have e1 : Ae ((Ae (2 * (root : Int))) + 1) = ((2 * root + 1 : Nat) : Int) := by rw [Ab (x := 2 * (root : Int)) (by omega),Ab (by omega)]; omega
    rw [siftDown]
    by_cases c : 2 * root + 1 ≥ hi
    · rw [dif_pos c]
      exact ⟨Af (by rw [AX,e1,if_pos (by omega)]),rfl⟩
    · rw [dif_neg c]
      have e2 : Ae (((2 * root + 1 : Nat) : Int) + 1) = ((2 * root + 2 : Nat) : Int) := by rw [Ab (by omega)]; omega
      have e3 : Ae ((first : Int) + ((2 * root + 1 : Nat) : Int)) = ((first + (2 * root + 1) : Nat) : Int) := by rw [Ab (by omega)]; omega
      have e4 : Ae (((first + (2 * root + 1) : Nat) : Int) + 1) = ((first + (2 * root + 1) + 1 : Nat) : Int) := by rw [Ab (by omega)]; omega
      have e5 : Ae ((first : Int) + (root : Int)) = ((first + root : Nat) : Int) := by rw [Ab (by omega)]; omega
      have e6 : Ae ((first : Int) + ((2 * root + 2 : Nat) : Int)) = ((first + (2 * root + 2) : Nat) : Int) := by rw [Ab (by omega)]; omega
      have g0 := Du (d := d) (show first + root < d.size by omega)
      have g1 := Du (d := d) (show first + (2 * root + 1) < d.size by omega)
      by_cases c2 : (decide (2 * root + 1 + 1 < hi) && As d[first + (2 * root + 1)]! d[first + (2 * root + 1) + 1]!) = true
      · have c3 : 2 * root + 2 < hi := by have := (Bool.and_eq_true _ _ ▸ c2).1; simpa using this
        have c4 := (Bool.and_eq_true _ _ ▸ c2).2
        have g2 := Du (d := d) (show first + (2 * root + 1) + 1 < d.size by omega)
        have g3 := Du (d := d) (show first + (2 * root + 2) < d.size by omega)
        rw [if_pos c2]
        by_cases c5 : As d[first + root]! d[first + (2 * root + 2)]! = true
        · rw [if_neg (by rw [c5]; decide),dif_pos c3]
          have hst : AX (hi : Int) (first : Int) (d.toList,(root : Int)) = some (.inl ((swp d (first + root) (first + (2 * root + 2))).toList,((2 * root + 2 : Nat) : Int))) := by
            rw [AX,e1,if_neg (by omega),e2,if_pos (by omega),e3,e4]
            simp only [g1,g2,Option.bind_some,RY,c4,if_true,e5,e6,g0,g3,c5,Bool.not_true,Bool.false_eq_true,if_false,FC,Du (show first + (2 * root + 2) < (d.setIfInBounds (first + root) d[first + (2 * root + 2)]!).size by simp; omega)]
            rfl
          rw [AH hst]
          have := ih (2 * root + 2) (swp d (first + root) (first + (2 * root + 2))) (by omega) (by rw [size_swp]; exact hf) (by rw [size_swp]; exact hs) (by omega)
          exact ⟨this.1,by rw [this.2,size_swp]⟩
        · rw [if_pos (by simpa using c5)]
          refine ⟨Af ?_,rfl⟩
          rw [AX,e1,if_neg (by omega),e2,if_pos (by omega),e3,e4]
          simp only [g1,g2,Option.bind_some,RY,c4,if_true,e5,e6,g0,g3,c5,Bool.not_false]
      · rw [if_neg c2]
        have hpick : (if ((2 * root + 2 : Nat) : Int) < (hi : Int) then (ix d.toList ((first + (2 * root + 1) + 1 : Nat) : Int)).bind fun x6 => some (As d[first + (2 * root + 1)]! x6) else some false) = some false := by
          by_cases c3 : 2 * root + 2 < hi
          · rw [if_pos (by omega),Du (d := d) (show first + (2 * root + 1) + 1 < d.size by omega),Option.bind_some]
            congr 1
            by_cases c4 : As d[first + (2 * root + 1)]! d[first + (2 * root + 1) + 1]! = true
            · exact absurd (by rw [c4]; simp; omega) c2
            · simpa using c4
          · rw [if_neg (by omega)]
        by_cases c5 : As d[first + root]! d[first + (2 * root + 1)]! = true
        · rw [if_neg (by rw [c5]; decide)]
          have hst : AX (hi : Int) (first : Int) (d.toList,(root : Int)) = some (.inl ((swp d (first + root) (first + (2 * root + 1))).toList,((2 * root + 1 : Nat) : Int))) := by
            rw [AX,e1,if_neg (by omega),e2,e3,e4]
            simp only [RY,g1,hpick,Option.bind_some,Bool.false_eq_true,if_false,e3,e5,g0,g1,c5,Bool.not_true,FC,Du (show first + (2 * root + 1) < (d.setIfInBounds (first + root) d[first + (2 * root + 1)]!).size by simp; omega)]
            rfl
          rw [AH hst]
          have := ih (2 * root + 1) (swp d (first + root) (first + (2 * root + 1))) (by omega) (by rw [size_swp]; exact hf) (by rw [size_swp]; exact hs) (by omega)
          exact ⟨this.1,by rw [this.2,size_swp]⟩
        · rw [if_pos (by simpa using c5)]
          refine ⟨Af ?_,rfl⟩
          rw [AX,e1,if_neg (by omega),e2,e3,e4]
          simp only [RY,g1,hpick,Option.bind_some,Bool.false_eq_true,if_false,e3,e5,g0,g1,c5,Bool.not_false,if_true]
theorem Wi (hi first root : Nat) (d : Array Int) (hf : first + hi ≤ d.size) (hs : d.size ≤ 1000000000) (hr : root < 2000000000) : CZ d.toList (root : Int) (hi : Int) (first : Int) = some (siftDown As hi first root d).toList := (ZS _ root d (Nat.le_refl _) hf hs hr).1
theorem Ov (hi first root : Nat) (d : Array Int) (hf : first + hi ≤ d.size) (hs : d.size ≤ 1000000000) (hr : root < 2000000000) : (siftDown As hi first root d).size = d.size := (ZS _ root d (Nat.le_refl _) hf hs hr).2
theorem Xn {a b : Nat} (hab : a ≤ b) : ∀ (k : Nat) (d : Array Int),b ≤ d.size → d.size ≤ 1000000000 → k ≤ 1000000000 → Ac (CA (a : Int) (b : Int)) (d.toList,(k : Int) - 1) = some (heapBuild As (b - a) a k d).toList ∧ (heapBuild As (b - a) a k d).size = d.size
  | 0,d,hb,hs,hk => ⟨Af (by rw [CA,if_neg (by omega)]; rfl),rfl⟩
  | k + 1,d,hb,hs,hk => by
    have e1 : Ae ((b : Int) - (a : Int)) = ((b - a : Nat) : Int) := by rw [Ab (by omega)]; omega
    have hst : CA (a : Int) (b : Int) (d.toList,((k + 1 : Nat) : Int) - 1) = some (.inl ((siftDown As (b - a) a k d).toList,(k : Int) - 1)) := by
      rw [CA,if_pos (by omega),e1,show ((k + 1 : Nat) : Int) - 1 = (k : Int) by omega,Wi _ _ _ _ (by omega) hs (by omega),Option.bind_some,Ab (by omega)]
    rw [AH hst]
    have hz := Ov (b - a) a k d (by omega) hs (by omega)
    have := Xn hab k (siftDown As (b - a) a k d) (by omega) (by omega) (by omega)
    rw [heapBuild]
    exact ⟨this.1,by rw [this.2,hz]⟩
theorem iW {a : Nat} : ∀ (k : Nat) (d : Array Int),a + k ≤ d.size → d.size ≤ 1000000000 → Ac (Cz (a : Int)) (d.toList,(k : Int) - 1) = some (heapPop As a k d).toList
  | 0,d,hb,hs => Af (by rw [Cz,if_neg (by omega)]; rfl)
  | k + 1,d,hb,hs => by
    have e1 : ((k + 1 : Nat) : Int) - 1 = (k : Int) := by omega
    have e2 : Ae ((a : Int) + (k : Int)) = ((a + k : Nat) : Int) := by rw [Ab (by omega)]; omega
    have h0 := Du (d := d) (show a < d.size by omega)
    have h1 := Du (d := d) (show a + k < d.size by omega)
    have hz := size_swp d a (a + k)
    have hst : Cz (a : Int) (d.toList,((k + 1 : Nat) : Int) - 1) = some (.inl ((siftDown As k a 0 (swp d a (a + k))).toList,(k : Int) - 1)) := by
      rw [Cz,e1,if_pos (by omega),e2]
      simp only [h1,h0,Option.bind_some,FC,Du (show a + k < (d.setIfInBounds a d[a + k]!).size by simp; omega)]
      show (CZ (swp d a (a + k)).toList ((0 : Nat) : Int) (k : Int) (a : Int)).bind _ = _
      rw [Wi _ _ _ _ (by omega) (by omega) (by omega),Option.bind_some,Ab (by omega)]
    rw [AH hst,heapPop]
    have hz2 := Ov k a 0 (swp d a (a + k)) (by omega) (by omega) (by omega)
    exact iW k _ (by omega) (by omega)
theorem mD (d : Array Int) (a b : Nat) (hb : b ≤ d.size) (hs : d.size ≤ 1000000000) (ha : a < b) : C1 d.toList (a : Int) (b : Int) = some (heapSort As d a b).toList := by
  unfold C1
  have e1 : Ae ((b : Int) - (a : Int)) = ((b - a : Nat) : Int) := by rw [Ab (by omega)]; omega
  have e2 : Ae (((b - a : Nat) : Int) - 1) = ((b - a : Nat) : Int) - 1 := Ab (by omega)
  have e3 : Ae (Int.tdiv (((b - a : Nat) : Int) - 1) 2) = (((b - a - 1) / 2 + 1 : Nat) : Int) - 1 := by
    rw [Int.tdiv_eq_ediv_of_nonneg (by omega),Ab (by omega)]; omega
  rw [e1,e2,e3]
  have h := Xn (Nat.le_of_lt ha) ((b - a - 1) / 2 + 1) d hb hs (by omega)
  rw [h.1,Option.bind_some,iW _ _ (by rw [h.2]; omega) (by rw [h.2]; exact hs)]
  rfl
theorem V1 (d : Array Int) (a b s : Nat) (ha : a < d.size) (hb : b < d.size) (hs : s < 1000) : CM d.toList (a : Int) (b : Int) (s : Int) = some (((order2 As d a b s).1 : Int),((order2 As d a b s).2.1 : Int),((order2 As d a b s).2.2 : Int)) := by
  unfold CM order2
  have h0 := Du (d := d) ha
  have h1 := Du (d := d) hb
  by_cases c : As d[b]! d[a]! = true
  · simp only [h0,h1,Option.bind_some,RY,c,if_true,Ab (show -9223372036854775808 ≤ (s : Int) + 1 ∧ (s : Int) + 1 ≤ 9223372036854775807 by omega)]; rfl
  · simp only [h0,h1,Option.bind_some,RY,c,Bool.false_eq_true,if_false]
theorem bY (d : Array Int) (a b c s : Nat) (ha : a < d.size) (hb : b < d.size) (hc : c < d.size) (hs : s < 900) : CL d.toList (a : Int) (b : Int) (c : Int) (s : Int) = some (((median As d a b c s).1 : Int),((median As d a b c s).2 : Int)) := by
  unfold CL median
  have m1 := order2_mem As d a b s
  have k1 := order2_count As d a b s
  rw [V1 d a b s ha hb (by omega),Option.bind_some]
  have m2 := order2_mem As d (order2 As d a b s).2.1 c (order2 As d a b s).2.2
  have k2 := order2_count As d (order2 As d a b s).2.1 c (order2 As d a b s).2.2
  rw [V1 d _ c _ (by omega) hc (by omega),Option.bind_some,V1 d _ _ _ (by omega) (by omega) (by omega)]; rfl
theorem V8 (d : Array Int) (a s : Nat) (h0 : 0 < a) (ha : a + 1 < d.size) (hb : d.size ≤ 1000000000) (hs : s < 900) : Be d.toList (a : Int) (s : Int) = some (((medianAdjacent As d a s).1 : Int),((medianAdjacent As d a s).2 : Int)) := by
  unfold Be medianAdjacent
  rw [Ab (x := (a : Int) - 1) (by omega),Ab (x := (a : Int) + 1) (by omega),show (a : Int) - 1 = ((a - 1 : Nat) : Int) by omega,show (a : Int) + 1 = ((a + 1 : Nat) : Int) by omega,bY d _ _ _ _ (by omega) (by omega) (by omega) hs]; rfl
def Lc : Hint → Int
  | .unknown => 0
  | .increasing => 1
  | .decreasing => 2
theorem iL (j s : Nat) : ((some ((j : Int),(s : Int))).bind fun (x : Int × Int) => match x with | (x1,x2) => (if x2 = 0 then some (x1,1) else (if x2 = 12 then some (x1,2) else some (x1,(0 : Int))))) = some ((j : Int),Lc (if s = 0 then .increasing else if s = 12 then .decreasing else .unknown)) := by
  rw [Option.bind_some]
  show (if (s : Int) = 0 then some ((j : Int),(1 : Int)) else (if (s : Int) = 12 then some ((j : Int),2) else some ((j : Int),0))) = _
  by_cases c1 : s = 0
  · rw [if_pos (by omega),if_pos c1]; rfl
  · rw [if_neg (by omega),if_neg c1]
    by_cases c2 : s = 12
    · rw [if_pos (by omega),if_pos c2]; rfl
    · rw [if_neg (by omega),if_neg c2]; rfl
theorem wN (d : Array Int) (a b : Nat) (hb : b ≤ d.size) (hs : d.size ≤ 1000000000) (ha : a + 12 < b) : Cy d.toList (a : Int) (b : Int) = some (((choosePivot As d a b).1 : Int),Lc (choosePivot As d a b).2) := by
  unfold Cy
  have e1 : Ae ((b : Int) - (a : Int)) = ((b - a : Nat) : Int) := by rw [Ab (by omega)]; omega
  have e2 : Ae (Int.tdiv ((b - a : Nat) : Int) 4) = (((b - a) / 4 : Nat) : Int) := by rw [Int.tdiv_eq_ediv_of_nonneg (by omega),Ab (by omega)]; omega
  have f1 : Ae ((a : Int) + Ae ((((b - a) / 4 : Nat) : Int) * 1)) = ((a + (b - a) / 4 * 1 : Nat) : Int) := by rw [Ab (x := (((b - a) / 4 : Nat) : Int) * 1) (by omega),Ab (by omega)]; omega
  have f2 : Ae ((a : Int) + Ae ((((b - a) / 4 : Nat) : Int) * 2)) = ((a + (b - a) / 4 * 2 : Nat) : Int) := by rw [Ab (x := (((b - a) / 4 : Nat) : Int) * 2) (by omega),Ab (by omega)]; omega
  have f3 : Ae ((a : Int) + Ae ((((b - a) / 4 : Nat) : Int) * 3)) = ((a + (b - a) / 4 * 3 : Nat) : Int) := by rw [Ab (x := (((b - a) / 4 : Nat) : Int) * 3) (by omega),Ab (by omega)]; omega
  rw [e1,e2,f1,f2,f3,if_pos (by omega),choosePivot_eq]
  unfold rawPivot
  rw [if_pos (show b - a ≥ 8 by omega)]
  have b1 : a < a + (b - a) / 4 * 1 ∧ a + (b - a) / 4 * 3 + 1 < b := by omega
  have b2 : a + (b - a) / 4 * 1 < a + (b - a) / 4 * 2 ∧ a + (b - a) / 4 * 2 < a + (b - a) / 4 * 3 := by omega
  generalize a + (b - a) / 4 * 1 = i at b1 b2 ⊢
  generalize a + (b - a) / 4 * 2 = j at b2 ⊢
  generalize a + (b - a) / 4 * 3 = k at b1 b2 ⊢
  by_cases c : b - a ≥ 50
  · rw [if_pos (show (50 : Int) ≤ ((b - a : Nat) : Int) by omega),if_pos c]
    have g1 := medianAdjacent_count As d i 0
    have n1 := medianAdjacent_mem As d i 0
    have q1 := V8 d i 0 (by omega) (by omega) hs (by omega)
    generalize medianAdjacent As d i 0 = r1 at g1 n1 q1 ⊢
    have g2 := medianAdjacent_count As d j r1.2
    have n2 := medianAdjacent_mem As d j r1.2
    have q2 := V8 d j r1.2 (by omega) (by omega) hs (by omega)
    generalize medianAdjacent As d j r1.2 = r2 at g2 n2 q2 ⊢
    have g3 := medianAdjacent_count As d k r2.2
    have n3 := medianAdjacent_mem As d k r2.2
    have q3 := V8 d k r2.2 (by omega) (by omega) hs (by omega)
    generalize medianAdjacent As d k r2.2 = r3 at g3 n3 q3 ⊢
    have q4 := bY d r1.1 r2.1 r3.1 r3.2 (by omega) (by omega) (by omega) (by omega)
    generalize median As d r1.1 r2.1 r3.1 r3.2 = r4 at q4 ⊢
    have q1' : Be d.toList (i : Int) 0 = some ((r1.1 : Int),(r1.2 : Int)) := q1
    rw [q1',Option.bind_some]
    simp only []
    rw [q2,Option.bind_some]
    simp only []
    rw [q3,Option.bind_some,Option.bind_some]
    simp only []
    rw [q4,Option.bind_some]
    exact iL r4.1 r4.2
  · rw [if_neg (show ¬ (50 : Int) ≤ ((b - a : Nat) : Int) by omega),if_neg c]
    have q4 := bY d i j k 0 (by omega) (by omega) (by omega) (by omega)
    generalize median As d i j k 0 = r4 at q4 ⊢
    have q4' : CL d.toList (i : Int) (j : Int) (k : Int) 0 = some ((r4.1 : Int),(r4.2 : Int)) := q4
    rw [Option.bind_some]
    simp only []
    rw [q4',Option.bind_some]
    exact iL r4.1 r4.2
theorem bP : ∀ (m i j : Nat) (d : Array Int),j - i ≤ m → j < d.size → d.size ≤ 1000000000 → Ac BA (d.toList,(i : Int),(j : Int)) = some (reverseLoop i j d).toList := by
  intro m
  induction m with
  | zero =>
    intro i j d hm hj hs
    rw [reverseLoop,if_neg (by omega)]
    exact Af (by rw [BA,if_neg (by omega)])
  | succ m ih =>
    intro i j d hm hj hs
    rw [reverseLoop]
    by_cases c : i < j
    · rw [if_pos c]
      have h0 := Du (d := d) (show i < d.size by omega)
      have h1 := Du (d := d) hj
      have hst : BA (d.toList,(i : Int),(j : Int)) = some (.inl ((swp d i j).toList,((i + 1 : Nat) : Int),((j - 1 : Nat) : Int))) := by
        rw [BA,if_pos (by omega)]
        simp only [h0,h1,Option.bind_some,FC,Du (show j < (d.setIfInBounds i d[j]!).size by simp; omega)]
        rw [Ab (x := (i : Int) + 1) (by omega),Ab (x := (j : Int) - 1) (by omega),show (j : Int) - 1 = ((j - 1 : Nat) : Int) by omega]; rfl
      rw [AH hst]
      exact ih (i + 1) (j - 1) _ (by omega) (by rw [size_swp]; omega) (by rw [size_swp]; exact hs)
    · rw [if_neg c]
      exact Af (by rw [BA,if_neg (by omega)])
theorem qV (d : Array Int) (a b : Nat) (hb : b ≤ d.size) (hs : d.size ≤ 1000000000) (ha : a < b) : BN d.toList (a : Int) (b : Int) = some (reverseRange d a b).toList := by
  unfold BN
  rw [Ab (by omega),show (b : Int) - 1 = ((b - 1 : Nat) : Int) by omega]
  exact bP _ a (b - 1) d (Nat.le_refl _) (by omega) hs
end
end Go.Proofs.YtgoifghhcekahaaGreatDoor
