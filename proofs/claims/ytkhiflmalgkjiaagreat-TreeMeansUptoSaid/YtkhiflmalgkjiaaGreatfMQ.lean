/- Layer 31: the order of packets; the sort's parts, first half. Conditions: none. -/
import Derived.Test.YtkhiflmalgkjiaaGreatfMP
import Derived.Test.YtkhiflmalgkjiaaGreatfA2
set_option linter.unusedVariables false
set_option linter.unusedSimpArgs false
open Go Go.RowKit
namespace Go.Proofs.YtkhiflmalgkjiaaGreat
abbrev Se := Int × Int × Int × Int × Int
instance : Inhabited Se := ⟨(0,0,0,0,0)⟩
theorem pR (a b : Int) : Ao a b = if a < b then -1 else if b < a then 1 else 0 := by
  unfold Ao F4
  simp
def jB : List Int → List Int → Int
  | x :: a,y :: b => if Ao x y ≠ 0 then Ao x y else jB a b
  | _,_ => 0
theorem c9 : ∀ a b : List Int,a.length = b.length → (jB a b < 0 ↔ JM a b = true)
  | [],[],_ => by simp [jB,JM]
  | [],y :: b,h => by simp at h
  | x :: a,[],h => by simp at h
  | x :: a,y :: b,h => by
    unfold jB JM
    have ih := c9 a b (by simpa using h)
    rw [pR]
    by_cases h1 : x < y
    · simp [h1]
    · by_cases h2 : y < x
      · have : ¬ x = y := by omega
        simp [h1,h2,this]
      · have : x = y := by omega
        subst this
        simp [h1,ih]
theorem or2 (a b : Int) : JA [a,b] = some (if a ≠ 0 then a else b) := by
  unfold JA
  by_cases ha : a ≠ 0
  · rw [if_pos ha,Ap (e := .inr a) (by rw [F3,if_pos (by show (0 : Int) < 2; decide)]; show (some a).bind _ = _; rw [za,if_pos ha])]; rfl
  · rw [if_neg ha,Bi (s' := 1) (by rw [F3,if_pos (by show (0 : Int) < 2; decide)]; show (some a).bind _ = _; rw [za,if_neg ha]; rfl)]
    by_cases hb : b ≠ 0
    · rw [Ap (e := .inr b) (by rw [F3,if_pos (by show (1 : Int) < 2; decide)]; show (some b).bind _ = _; rw [za,if_pos hb])]; rfl
    · rw [Bi (s' := 2) (by rw [F3,if_pos (by show (1 : Int) < 2; decide)]; show (some b).bind _ = _; rw [za,if_neg hb]; rfl),Ap (e := .inl ()) (by rw [F3,if_neg (by show ¬ (2 : Int) < 2; decide)])]
      rw [Decidable.not_not.1 hb]; rfl
theorem sc4 (a b c d x y z u : Int) : Du [a,b,c,d] [x,y,z,u] = some (jB [a,b,c,d] [x,y,z,u]) := by
  have st : ∀ (i : Nat) (p q : Int) (s : Int),s = (i : Int) → i < 4 → [a,b,c,d][i]? = some p → [x,y,z,u][i]? = some q → DN [a,b,c,d] [x,y,z,u] s = if Ao p q ≠ 0 then some (.inr (.inr (Ao p q))) else some (.inl ((i : Int) + 1)) := fun i p q s hs hi hp hq => by
    subst hs
    rw [DN,if_pos (by show (i : Int) < 4; omega),A9 hp,za,if_neg (by show ¬ (4 : Int) ≤ i; omega),A9 hq,za]
    by_cases h : Ao p q ≠ 0
    · rw [if_pos h,if_pos h]
    · rw [if_neg h,if_neg h]
      have : w64 ((i : Int) + 1) = (i : Int) + 1 := Ah ⟨by omega,by omega⟩
      rw [this]
  unfold Du
  unfold jB
  by_cases h0 : Ao a x ≠ 0
  · rw [if_pos h0,Ap (e := .inr (Ao a x)) (by rw [st 0 a x 0 rfl (by decide) rfl rfl,if_pos h0])]; rfl
  rw [if_neg h0,Bi (s' := 1) (by rw [st 0 a x 0 rfl (by decide) rfl rfl,if_neg h0]; rfl)]
  unfold jB
  by_cases h1 : Ao b y ≠ 0
  · rw [if_pos h1,Ap (e := .inr (Ao b y)) (by rw [st 1 b y 1 rfl (by decide) rfl rfl,if_pos h1])]; rfl
  rw [if_neg h1,Bi (s' := 2) (by rw [st 1 b y 1 rfl (by decide) rfl rfl,if_neg h1]; rfl)]
  unfold jB
  by_cases h2 : Ao c z ≠ 0
  · rw [if_pos h2,Ap (e := .inr (Ao c z)) (by rw [st 2 c z 2 rfl (by decide) rfl rfl,if_pos h2])]; rfl
  rw [if_neg h2,Bi (s' := 3) (by rw [st 2 c z 2 rfl (by decide) rfl rfl,if_neg h2]; rfl)]
  unfold jB
  by_cases h3 : Ao d u ≠ 0
  · rw [if_pos h3,Ap (e := .inr (Ao d u)) (by rw [st 3 d u 3 rfl (by decide) rfl rfl,if_pos h3])]; rfl
  rw [if_neg h3,Bi (s' := 4) (by rw [st 3 d u 3 rfl (by decide) rfl rfl,if_neg h3]; rfl),Ap (e := .inl ()) (by rw [DN,if_neg (by show ¬ (4 : Int) < 4; decide)])]
  rfl
def pQ (p q : Se) : Int := jB (bL p) (bL q)
theorem HE (p q : Se) : Bn p q = some (pQ p q) := by
  unfold Bn
  rw [sc4,za,or2]
  rfl
def AB (p q : Se) : Bool := decide (pQ p q < 0)
theorem TW (x y : Se) : (pQ x y < 0) = (AB x y = true) := by unfold AB; simp
theorem OB (p q : Se) : AB p q = AQ p q := by
  rw [Bool.eq_iff_iff, ← TW]
  exact c9 _ _ rfl
theorem cL : Go.Sort.SWO AB := ⟨fun x => by rw [OB]; exact Gz.irr x,fun x y z h1 h2 => by rw [OB] at *; exact Gz.tr h1 h2,fun x y z h1 h2 => by
  rw [OB] at *
  cases h : AQ x z with
  | false => rfl
  | true =>
    cases h3 : AQ y x with
    | true => rw [Gz.tr h3 h] at h2; cases h2
    | false => rw [Gz.tot h1 h3,h2] at h; cases h⟩
section
open Go.Sort
theorem Xu {a : Nat} : ∀ (j : Nat) (d : Array (Int × Int × Int × Int × Int)),j < d.size → d.size ≤ 1000000000 → Aj (A0 (a : Int)) (d.toList,(j : Int)) = some (insInner AB a j d).toList
  | 0,d,hj,hb => Ap (by rw [A0,if_neg (by omega),za,if_neg (by decide)]; rfl)
  | j + 1, d, hj, hb => by
    have e1 : w64 (((j + 1 : Nat) : Int) - 1) = (j : Int) := by rw [Ah (by omega)]; omega
    have h1 := Hd (d := d) hj
    have h0 := Hd (d := d) (show j < d.size by omega)
    rw [insInner]
    by_cases c : a < j + 1
    · by_cases c2 : AB d[j + 1]! d[j]! = true
      · rw [if_pos (by simp [c,c2])]
        have hst : A0 (a : Int) (d.toList,((j + 1 : Nat) : Int)) = some (.inl ((swp d (j + 1) j).toList,(j : Int))) := by
          rw [A0,if_pos (by omega),e1]
          simp only [h1,h0,za,HE,TW,Bool.decide_eq_true,c2,if_true,Lm,Hd (show j < (d.setIfInBounds (j + 1) d[j]!).size by simp; omega)]
          rfl
        rw [Bi hst]
        exact Xu j _ (by rw [size_swp]; omega) (by rw [size_swp]; exact hb)
      · rw [if_neg (by simp [c2])]
        refine Ap ?_
        rw [A0,if_pos (by omega),e1]
        simp only [h1,h0,za,HE,TW,Bool.decide_eq_true,c2,Bool.false_eq_true,if_false]
    · rw [if_neg (by simp; omega)]
      exact Ap (by rw [A0,if_neg (by omega),za,if_neg (by decide)])
theorem bJ {a b : Nat} : ∀ (m i : Nat) (d : Array (Int × Int × Int × Int × Int)),b - i = m → b ≤ d.size → d.size ≤ 1000000000 → Aj (BH (a : Int) (b : Int)) (d.toList,(i : Int)) = some (insOuter AB a b i d).toList := by
  intro m
  induction m with
  | zero =>
    intro i d hm hb hs
    rw [insOuter,if_neg (by omega)]
    exact Ap (by rw [BH,if_neg (by omega)])
  | succ m ih =>
    intro i d hm hb hs
    rw [insOuter,if_pos (by omega)]
    have hst : BH (a : Int) (b : Int) (d.toList,(i : Int)) = some (.inl ((insInner AB a i d).toList,((i + 1 : Nat) : Int))) := by
      rw [BH,if_pos (by omega),Xu i d (by omega) hs,za,Ah (by omega)]; rfl
    rw [Bi hst]
    exact ih (i + 1) _ (by omega) (by rw [KH]; exact hb) (by rw [KH]; exact hs)
theorem vW (d : Array (Int × Int × Int × Int × Int)) (a b : Nat) (hb : b ≤ d.size) (hs : d.size ≤ 1000000000) (ha : a ≤ b) : Bp d.toList (a : Int) (b : Int) = some (insertionSort AB d a b).toList := by
  unfold Bp
  rw [Ah (by omega)]
  exact bJ _ (a + 1) d rfl hb hs
theorem iS {hi first : Nat} : ∀ (m root : Nat) (d : Array (Int × Int × Int × Int × Int)),hi - root ≤ m → first + hi ≤ d.size → d.size ≤ 1000000000 → root < 2000000000 → Aj (AN (hi : Int) (first : Int)) (d.toList,(root : Int)) = some (siftDown AB hi first root d).toList ∧ (siftDown AB hi first root d).size = d.size := by
  intro m
  induction m with
  | zero =>
    intro root d hm hf hs hr
    have e1 : w64 ((w64 (2 * (root : Int))) + 1) = ((2 * root + 1 : Nat) : Int) := by rw [Ah (x := 2 * (root : Int)) (by omega),Ah (by omega)]; omega
    rw [siftDown,dif_pos (by omega)]
    exact ⟨Ap (by rw [AN,e1,if_pos (by omega)]),rfl⟩
  | succ m ih =>
    intro root d hm hf hs hr
    have e1 : w64 ((w64 (2 * (root : Int))) + 1) = ((2 * root + 1 : Nat) : Int) := by rw [Ah (x := 2 * (root : Int)) (by omega),Ah (by omega)]; omega
    rw [siftDown]
    by_cases c : 2 * root + 1 ≥ hi
    · rw [dif_pos c]
      exact ⟨Ap (by rw [AN,e1,if_pos (by omega)]),rfl⟩
    · rw [dif_neg c]
      have e2 : w64 (((2 * root + 1 : Nat) : Int) + 1) = ((2 * root + 2 : Nat) : Int) := by rw [Ah (by omega)]; omega
      have e3 : w64 ((first : Int) + ((2 * root + 1 : Nat) : Int)) = ((first + (2 * root + 1) : Nat) : Int) := by rw [Ah (by omega)]; omega
      have e4 : w64 (((first + (2 * root + 1) : Nat) : Int) + 1) = ((first + (2 * root + 1) + 1 : Nat) : Int) := by rw [Ah (by omega)]; omega
      have e5 : w64 ((first : Int) + (root : Int)) = ((first + root : Nat) : Int) := by rw [Ah (by omega)]; omega
      have e6 : w64 ((first : Int) + ((2 * root + 2 : Nat) : Int)) = ((first + (2 * root + 2) : Nat) : Int) := by rw [Ah (by omega)]; omega
      have g0 := Hd (d := d) (show first + root < d.size by omega)
      have g1 := Hd (d := d) (show first + (2 * root + 1) < d.size by omega)
      by_cases c2 : (decide (2 * root + 1 + 1 < hi) && AB d[first + (2 * root + 1)]! d[first + (2 * root + 1) + 1]!) = true
      · have c3 : 2 * root + 2 < hi := by have := (zg _ _ ▸ c2).1; simpa using this
        have c4 := (zg _ _ ▸ c2).2
        have g2 := Hd (d := d) (show first + (2 * root + 1) + 1 < d.size by omega)
        have g3 := Hd (d := d) (show first + (2 * root + 2) < d.size by omega)
        rw [if_pos c2]
        by_cases c5 : AB d[first + root]! d[first + (2 * root + 2)]! = true
        · rw [if_neg (by rw [c5]; decide),dif_pos c3]
          have hst : AN (hi : Int) (first : Int) (d.toList,(root : Int)) = some (.inl ((swp d (first + root) (first + (2 * root + 2))).toList,((2 * root + 2 : Nat) : Int))) := by
            rw [AN,e1,if_neg (by omega),e2,if_pos (by omega),e3,e4]
            simp only [g1,g2,za,HE,TW,Bool.decide_eq_true,c4,if_true,e5,e6,g0,g3,c5,Bool.not_true,Bool.false_eq_true,if_false,Lm,Hd (show first + (2 * root + 2) < (d.setIfInBounds (first + root) d[first + (2 * root + 2)]!).size by simp; omega)]
            rfl
          rw [Bi hst]
          have := ih (2 * root + 2) (swp d (first + root) (first + (2 * root + 2))) (by omega) (by rw [size_swp]; exact hf) (by rw [size_swp]; exact hs) (by omega)
          exact ⟨this.1,by rw [this.2,size_swp]⟩
        · rw [if_pos (by simpa using c5)]
          refine ⟨Ap ?_,rfl⟩
          rw [AN,e1,if_neg (by omega),e2,if_pos (by omega),e3,e4]
          simp only [g1,g2,za,HE,TW,Bool.decide_eq_true,c4,if_true,e5,e6,g0,g3,c5,Bool.not_false]
      · rw [if_neg c2]
        have hpick : (if ((2 * root + 2 : Nat) : Int) < (hi : Int) then (ix d.toList ((first + (2 * root + 1) + 1 : Nat) : Int)).bind fun x6 => some (AB d[first + (2 * root + 1)]! x6) else some false) = some false := by
          by_cases c3 : 2 * root + 2 < hi
          · rw [if_pos (by omega),Hd (d := d) (show first + (2 * root + 1) + 1 < d.size by omega),za]
            congr 1
            by_cases c4 : AB d[first + (2 * root + 1)]! d[first + (2 * root + 1) + 1]! = true
            · exact absurd (by rw [c4]; simp; omega) c2
            · simpa using c4
          · rw [if_neg (by omega)]
        by_cases c5 : AB d[first + root]! d[first + (2 * root + 1)]! = true
        · rw [if_neg (by rw [c5]; decide)]
          have hst : AN (hi : Int) (first : Int) (d.toList,(root : Int)) = some (.inl ((swp d (first + root) (first + (2 * root + 1))).toList,((2 * root + 1 : Nat) : Int))) := by
            rw [AN,e1,if_neg (by omega),e2,e3,e4]
            simp only [HE,TW,Bool.decide_eq_true,g1,hpick,za,Bool.false_eq_true,if_false,e3,e5,g0,g1,c5,Bool.not_true,Lm,Hd (show first + (2 * root + 1) < (d.setIfInBounds (first + root) d[first + (2 * root + 1)]!).size by simp; omega)]
            rfl
          rw [Bi hst]
          have := ih (2 * root + 1) (swp d (first + root) (first + (2 * root + 1))) (by omega) (by rw [size_swp]; exact hf) (by rw [size_swp]; exact hs) (by omega)
          exact ⟨this.1,by rw [this.2,size_swp]⟩
        · rw [if_pos (by simpa using c5)]
          refine ⟨Ap ?_,rfl⟩
          rw [AN,e1,if_neg (by omega),e2,e3,e4]
          simp only [HE,TW,Bool.decide_eq_true,g1,hpick,za,Bool.false_eq_true,if_false,e3,e5,g0,g1,c5,Bool.not_false,if_true]
theorem Y1 (hi first root : Nat) (d : Array (Int × Int × Int × Int × Int)) (hf : first + hi ≤ d.size) (hs : d.size ≤ 1000000000) (hr : root < 2000000000) : BU d.toList (root : Int) (hi : Int) (first : Int) = some (siftDown AB hi first root d).toList := (iS _ root d (Nat.le_refl _) hf hs hr).1
theorem Qk (hi first root : Nat) (d : Array (Int × Int × Int × Int × Int)) (hf : first + hi ≤ d.size) (hs : d.size ≤ 1000000000) (hr : root < 2000000000) : (siftDown AB hi first root d).size = d.size := (iS _ root d (Nat.le_refl _) hf hs hr).2
theorem Zg {a b : Nat} (hab : a ≤ b) : ∀ (k : Nat) (d : Array (Int × Int × Int × Int × Int)),b ≤ d.size → d.size ≤ 1000000000 → k ≤ 1000000000 → Aj (B9 (a : Int) (b : Int)) (d.toList,(k : Int) - 1) = some (heapBuild AB (b - a) a k d).toList ∧ (heapBuild AB (b - a) a k d).size = d.size
  | 0,d,hb,hs,hk => ⟨Ap (by rw [B9,if_neg (by omega)]; rfl),rfl⟩
  | k + 1,d,hb,hs,hk => by
    have e1 : w64 ((b : Int) - (a : Int)) = ((b - a : Nat) : Int) := by rw [Ah (by omega)]; omega
    have hst : B9 (a : Int) (b : Int) (d.toList,((k + 1 : Nat) : Int) - 1) = some (.inl ((siftDown AB (b - a) a k d).toList,(k : Int) - 1)) := by
      rw [B9,if_pos (by omega),e1,show ((k + 1 : Nat) : Int) - 1 = (k : Int) by omega,Y1 _ _ _ _ (by omega) hs (by omega),za,Ah (by omega)]
    rw [Bi hst]
    have hz := Qk (b - a) a k d (by omega) hs (by omega)
    have := Zg hab k (siftDown AB (b - a) a k d) (by omega) (by omega) (by omega)
    rw [heapBuild]
    exact ⟨this.1,by rw [this.2,hz]⟩
theorem m7 {a : Nat} : ∀ (k : Nat) (d : Array (Int × Int × Int × Int × Int)),a + k ≤ d.size → d.size ≤ 1000000000 → Aj (B7 (a : Int)) (d.toList,(k : Int) - 1) = some (heapPop AB a k d).toList
  | 0,d,hb,hs => Ap (by rw [B7,if_neg (by omega)]; rfl)
  | k + 1,d,hb,hs => by
    have e1 : ((k + 1 : Nat) : Int) - 1 = (k : Int) := by omega
    have e2 : w64 ((a : Int) + (k : Int)) = ((a + k : Nat) : Int) := by rw [Ah (by omega)]; omega
    have h0 := Hd (d := d) (show a < d.size by omega)
    have h1 := Hd (d := d) (show a + k < d.size by omega)
    have hz := size_swp d a (a + k)
    have hst : B7 (a : Int) (d.toList,((k + 1 : Nat) : Int) - 1) = some (.inl ((siftDown AB k a 0 (swp d a (a + k))).toList,(k : Int) - 1)) := by
      rw [B7,e1,if_pos (by omega),e2]
      simp only [h1,h0,za,Lm,Hd (show a + k < (d.setIfInBounds a d[a + k]!).size by simp; omega)]
      show (BU (swp d a (a + k)).toList ((0 : Nat) : Int) (k : Int) (a : Int)).bind _ = _
      rw [Y1 _ _ _ _ (by omega) (by omega) (by omega),za,Ah (by omega)]
    rw [Bi hst,heapPop]
    have hz2 := Qk k a 0 (swp d a (a + k)) (by omega) (by omega) (by omega)
    exact m7 k _ (by omega) (by omega)
theorem qX (d : Array (Int × Int × Int × Int × Int)) (a b : Nat) (hb : b ≤ d.size) (hs : d.size ≤ 1000000000) (ha : a < b) : BW d.toList (a : Int) (b : Int) = some (heapSort AB d a b).toList := by
  unfold BW
  have e1 : w64 ((b : Int) - (a : Int)) = ((b - a : Nat) : Int) := by rw [Ah (by omega)]; omega
  have e2 : w64 (((b - a : Nat) : Int) - 1) = ((b - a : Nat) : Int) - 1 := Ah (by omega)
  have e3 : w64 (Int.tdiv (((b - a : Nat) : Int) - 1) 2) = (((b - a - 1) / 2 + 1 : Nat) : Int) - 1 := by
    rw [Int.tdiv_eq_ediv_of_nonneg (by omega),Ah (by omega)]; omega
  rw [e1,e2,e3]
  have h := Zg (Nat.le_of_lt ha) ((b - a - 1) / 2 + 1) d hb hs (by omega)
  rw [h.1,za,m7 _ _ (by rw [h.2]; omega) (by rw [h.2]; exact hs)]
  rfl
theorem XL (d : Array (Int × Int × Int × Int × Int)) (a b s : Nat) (ha : a < d.size) (hb : b < d.size) (hs : s < 1000) : BM d.toList (a : Int) (b : Int) (s : Int) = some (((order2 AB d a b s).1 : Int),((order2 AB d a b s).2.1 : Int),((order2 AB d a b s).2.2 : Int)) := by
  unfold BM order2
  have h0 := Hd (d := d) ha
  have h1 := Hd (d := d) hb
  by_cases c : AB d[b]! d[a]! = true
  · simp only [h0,h1,za,HE,TW,Bool.decide_eq_true,c,if_true,Ah (show -9223372036854775808 ≤ (s : Int) + 1 ∧ (s : Int) + 1 ≤ 9223372036854775807 by omega)]; rfl
  · simp only [h0,h1,za,HE,TW,Bool.decide_eq_true,c,Bool.false_eq_true,if_false]
theorem fR (d : Array (Int × Int × Int × Int × Int)) (a b c s : Nat) (ha : a < d.size) (hb : b < d.size) (hc : c < d.size) (hs : s < 900) : BL d.toList (a : Int) (b : Int) (c : Int) (s : Int) = some (((median AB d a b c s).1 : Int),((median AB d a b c s).2 : Int)) := by
  unfold BL median
  have m1 := order2_mem AB d a b s
  have k1 := order2_count AB d a b s
  rw [XL d a b s ha hb (by omega),za]
  have m2 := order2_mem AB d (order2 AB d a b s).2.1 c (order2 AB d a b s).2.2
  have k2 := order2_count AB d (order2 AB d a b s).2.1 c (order2 AB d a b s).2.2
  rw [XL d _ c _ (by omega) hc (by omega),za,XL d _ _ _ (by omega) (by omega) (by omega)]; rfl
theorem XR (d : Array (Int × Int × Int × Int × Int)) (a s : Nat) (h0 : 0 < a) (ha : a + 1 < d.size) (hb : d.size ≤ 1000000000) (hs : s < 900) : AX d.toList (a : Int) (s : Int) = some (((medianAdjacent AB d a s).1 : Int),((medianAdjacent AB d a s).2 : Int)) := by
  unfold AX medianAdjacent
  rw [Ah (x := (a : Int) - 1) (by omega),Ah (x := (a : Int) + 1) (by omega),show (a : Int) - 1 = ((a - 1 : Nat) : Int) by omega,show (a : Int) + 1 = ((a + 1 : Nat) : Int) by omega,fR d _ _ _ _ (by omega) (by omega) (by omega) hs]; rfl
def M5 : Hint → Int
  | .unknown => 0
  | .increasing => 1
  | .decreasing => 2
theorem nD (j s : Nat) : ((some ((j : Int),(s : Int))).bind fun (x : Int × Int) => match x with | (x1,x2) => (if x2 = 0 then some (x1,1) else (if x2 = 12 then some (x1,2) else some (x1,(0 : Int))))) = some ((j : Int),M5 (if s = 0 then .increasing else if s = 12 then .decreasing else .unknown)) := by
  rw [za]
  show (if (s : Int) = 0 then some ((j : Int),(1 : Int)) else (if (s : Int) = 12 then some ((j : Int),2) else some ((j : Int),0))) = _
  by_cases c1 : s = 0
  · rw [if_pos (by omega),if_pos c1]; rfl
  · rw [if_neg (by omega),if_neg c1]
    by_cases c2 : s = 12
    · rw [if_pos (by omega),if_pos c2]; rfl
    · rw [if_neg (by omega),if_neg c2]; rfl
theorem Abm (d : Array (Int × Int × Int × Int × Int)) (a b : Nat) (hb : b ≤ d.size) (hs : d.size ≤ 1000000000) (ha : a + 12 < b) : BF d.toList (a : Int) (b : Int) = some (((choosePivot AB d a b).1 : Int),M5 (choosePivot AB d a b).2) := by
  unfold BF
  have e1 : w64 ((b : Int) - (a : Int)) = ((b - a : Nat) : Int) := by rw [Ah (by omega)]; omega
  have e2 : w64 (Int.tdiv ((b - a : Nat) : Int) 4) = (((b - a) / 4 : Nat) : Int) := by rw [Int.tdiv_eq_ediv_of_nonneg (by omega),Ah (by omega)]; omega
  have f1 : w64 ((a : Int) + w64 ((((b - a) / 4 : Nat) : Int) * 1)) = ((a + (b - a) / 4 * 1 : Nat) : Int) := by rw [Ah (x := (((b - a) / 4 : Nat) : Int) * 1) (by omega),Ah (by omega)]; omega
  have f2 : w64 ((a : Int) + w64 ((((b - a) / 4 : Nat) : Int) * 2)) = ((a + (b - a) / 4 * 2 : Nat) : Int) := by rw [Ah (x := (((b - a) / 4 : Nat) : Int) * 2) (by omega),Ah (by omega)]; omega
  have f3 : w64 ((a : Int) + w64 ((((b - a) / 4 : Nat) : Int) * 3)) = ((a + (b - a) / 4 * 3 : Nat) : Int) := by rw [Ah (x := (((b - a) / 4 : Nat) : Int) * 3) (by omega),Ah (by omega)]; omega
  rw [e1,e2,f1,f2,f3,if_pos (by omega),choosePivot_eq]
  unfold rawPivot
  rw [if_pos (show b - a ≥ 8 by omega)]
  have b1 : a < a + (b - a) / 4 * 1 ∧ a + (b - a) / 4 * 3 + 1 < b := by omega
  have b2 : a + (b - a) / 4 * 1 < a + (b - a) / 4 * 2 ∧ a + (b - a) / 4 * 2 < a + (b - a) / 4 * 3 := by omega
  generalize a + (b - a) / 4 * 1 = i at b1 b2 ⊢
  generalize a + (b - a) / 4 * 2 = j at b2 ⊢
  generalize a + (b - a) / 4 * 3 = k at b1 b2 ⊢
  by_cases c : b - a ≥ 50
  · rw [if_pos (show (50 : Int) ≤ ((b - a : Nat) : Int) by omega),if_pos c]
    have g1 := medianAdjacent_count AB d i 0
    have n1 := medianAdjacent_mem AB d i 0
    have q1 := XR d i 0 (by omega) (by omega) hs (by omega)
    generalize medianAdjacent AB d i 0 = r1 at g1 n1 q1 ⊢
    have g2 := medianAdjacent_count AB d j r1.2
    have n2 := medianAdjacent_mem AB d j r1.2
    have q2 := XR d j r1.2 (by omega) (by omega) hs (by omega)
    generalize medianAdjacent AB d j r1.2 = r2 at g2 n2 q2 ⊢
    have g3 := medianAdjacent_count AB d k r2.2
    have n3 := medianAdjacent_mem AB d k r2.2
    have q3 := XR d k r2.2 (by omega) (by omega) hs (by omega)
    generalize medianAdjacent AB d k r2.2 = r3 at g3 n3 q3 ⊢
    have q4 := fR d r1.1 r2.1 r3.1 r3.2 (by omega) (by omega) (by omega) (by omega)
    generalize median AB d r1.1 r2.1 r3.1 r3.2 = r4 at q4 ⊢
    have q1' : AX d.toList (i : Int) 0 = some ((r1.1 : Int),(r1.2 : Int)) := q1
    rw [q1',za]
    simp only []
    rw [q2,za]
    simp only []
    rw [q3,za,za]
    simp only []
    rw [q4,za]
    exact nD r4.1 r4.2
  · rw [if_neg (show ¬ (50 : Int) ≤ ((b - a : Nat) : Int) by omega),if_neg c]
    have q4 := fR d i j k 0 (by omega) (by omega) (by omega) (by omega)
    generalize median AB d i j k 0 = r4 at q4 ⊢
    have q4' : BL d.toList (i : Int) (j : Int) (k : Int) 0 = some ((r4.1 : Int),(r4.2 : Int)) := q4
    rw [za]
    simp only []
    rw [q4',za]
    exact nD r4.1 r4.2
theorem fE : ∀ (m i j : Nat) (d : Array (Int × Int × Int × Int × Int)),j - i ≤ m → j < d.size → d.size ≤ 1000000000 → Aj Bg (d.toList,(i : Int),(j : Int)) = some (reverseLoop i j d).toList := by
  intro m
  induction m with
  | zero =>
    intro i j d hm hj hs
    rw [reverseLoop,if_neg (by omega)]
    exact Ap (by rw [Bg,if_neg (by omega)])
  | succ m ih =>
    intro i j d hm hj hs
    rw [reverseLoop]
    by_cases c : i < j
    · rw [if_pos c]
      have h0 := Hd (d := d) (show i < d.size by omega)
      have h1 := Hd (d := d) hj
      have hst : Bg (d.toList,(i : Int),(j : Int)) = some (.inl ((swp d i j).toList,((i + 1 : Nat) : Int),((j - 1 : Nat) : Int))) := by
        rw [Bg,if_pos (by omega)]
        simp only [h0,h1,za,Lm,Hd (show j < (d.setIfInBounds i d[j]!).size by simp; omega)]
        rw [Ah (x := (i : Int) + 1) (by omega),Ah (x := (j : Int) - 1) (by omega),show (j : Int) - 1 = ((j - 1 : Nat) : Int) by omega]; rfl
      rw [Bi hst]
      exact ih (i + 1) (j - 1) _ (by omega) (by rw [size_swp]; omega) (by rw [size_swp]; exact hs)
    · rw [if_neg c]
      exact Ap (by rw [Bg,if_neg (by omega)])
theorem xB (d : Array (Int × Int × Int × Int × Int)) (a b : Nat) (hb : b ≤ d.size) (hs : d.size ≤ 1000000000) (ha : a < b) : Ba d.toList (a : Int) (b : Int) = some (reverseRange d a b).toList := by
  unfold Ba
  rw [Ah (by omega),show (b : Int) - 1 = ((b - 1 : Nat) : Int) by omega]
  exact fE _ a (b - 1) d (Nat.le_refl _) (by omega) hs
end
end Go.Proofs.YtkhiflmalgkjiaaGreat
