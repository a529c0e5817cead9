/- Layer 27: the order of packets; the sort's parts, first half. Conditions: none. -/
import Derived.Test.YtpckgggmgijiiaaGreatDooreMP
import Derived.Test.YtpckgggmgijiiaaGreatDooreA3
namespace Go.Proofs.YtpckgggmgijiiaaGreatDoor
set_option linter.unusedVariables false
set_option linter.unusedSimpArgs false
open Go Go.RowKit
abbrev Se := Int × Int × Int × Int × Int
instance : Inhabited Se := ⟨(0,0,0,0,0)⟩
theorem m7 (a b : Int) : Ay a b = if a < b then -1 else if b < a then 1 else 0 := by
  unfold Ay FQ
  simp
def gJ : List Int → List Int → Int
  | x :: a,y :: b => if Ay x y ≠ 0 then Ay x y else gJ a b
  | _,_ => 0
theorem b8 : ∀ a b : List Int,a.length = b.length → (gJ a b < 0 ↔ GI a b = true)
  | [],[],_ => by simp [gJ,GI]
  | [],y :: b,h => by simp at h
  | x :: a,[],h => by simp at h
  | x :: a,y :: b,h => by
    unfold gJ GI
    have ih := b8 a b (by simpa using h)
    rw [m7]
    by_cases h1 : x < y
    · simp [h1]
    · by_cases h2 : y < x
      · have : ¬ x = y := by omega
        simp [h1,h2,this]
      · have : x = y := by omega
        subst this
        simp [h1,ih]
theorem or2 (a b : Int) : IF [a,b] = some (if a ≠ 0 then a else b) := by
  unfold IF
  by_cases ha : a ≠ 0
  · rw [if_pos ha,An (e := .inr a) (by rw [FP,if_pos (by show (0 : Int) < 2; decide)]; show (some a).bind _ = _; rw [Option.bind_some,if_pos ha])]; rfl
  · rw [if_neg ha,A0 (s' := 1) (by rw [FP,if_pos (by show (0 : Int) < 2; decide)]; show (some a).bind _ = _; rw [Option.bind_some,if_neg ha]; rfl)]
    by_cases hb : b ≠ 0
    · rw [An (e := .inr b) (by rw [FP,if_pos (by show (1 : Int) < 2; decide)]; show (some b).bind _ = _; rw [Option.bind_some,if_pos hb])]; rfl
    · rw [A0 (s' := 2) (by rw [FP,if_pos (by show (1 : Int) < 2; decide)]; show (some b).bind _ = _; rw [Option.bind_some,if_neg hb]; rfl),An (e := .inl ()) (by rw [FP,if_neg (by show ¬ (2 : Int) < 2; decide)])]
      rw [Decidable.not_not.1 hb]; rfl
theorem sc4 (a b c d x y z u : Int) : C8 [a,b,c,d] [x,y,z,u] = some (gJ [a,b,c,d] [x,y,z,u]) := by
  have st : ∀ (i : Nat) (p q : Int) (s : Int),s = (i : Int) → i < 4 → [a,b,c,d][i]? = some p → [x,y,z,u][i]? = some q → Do [a,b,c,d] [x,y,z,u] s = if Ay p q ≠ 0 then some (.inr (.inr (Ay p q))) else some (.inl ((i : Int) + 1)) := fun i p q s hs hi hp hq => by
    subst hs
    rw [Do,if_pos (by show (i : Int) < 4; omega),A7 hp,Option.bind_some,if_neg (by show ¬ (4 : Int) ≤ i; omega),A7 hq,Option.bind_some]
    by_cases h : Ay p q ≠ 0
    · rw [if_pos h,if_pos h]
    · rw [if_neg h,if_neg h]
      have : Aq ((i : Int) + 1) = (i : Int) + 1 := Ad ⟨by omega,by omega⟩
      rw [this]
  unfold C8
  unfold gJ
  by_cases h0 : Ay a x ≠ 0
  · rw [if_pos h0,An (e := .inr (Ay a x)) (by rw [st 0 a x 0 rfl (by decide) rfl rfl,if_pos h0])]; rfl
  rw [if_neg h0,A0 (s' := 1) (by rw [st 0 a x 0 rfl (by decide) rfl rfl,if_neg h0]; rfl)]
  unfold gJ
  by_cases h1 : Ay b y ≠ 0
  · rw [if_pos h1,An (e := .inr (Ay b y)) (by rw [st 1 b y 1 rfl (by decide) rfl rfl,if_pos h1])]; rfl
  rw [if_neg h1,A0 (s' := 2) (by rw [st 1 b y 1 rfl (by decide) rfl rfl,if_neg h1]; rfl)]
  unfold gJ
  by_cases h2 : Ay c z ≠ 0
  · rw [if_pos h2,An (e := .inr (Ay c z)) (by rw [st 2 c z 2 rfl (by decide) rfl rfl,if_pos h2])]; rfl
  rw [if_neg h2,A0 (s' := 3) (by rw [st 2 c z 2 rfl (by decide) rfl rfl,if_neg h2]; rfl)]
  unfold gJ
  by_cases h3 : Ay d u ≠ 0
  · rw [if_pos h3,An (e := .inr (Ay d u)) (by rw [st 3 d u 3 rfl (by decide) rfl rfl,if_pos h3])]; rfl
  rw [if_neg h3,A0 (s' := 4) (by rw [st 3 d u 3 rfl (by decide) rfl rfl,if_neg h3]; rfl),An (e := .inl ()) (by rw [Do,if_neg (by show ¬ (4 : Int) < 4; decide)])]
  rfl
def nA (p q : Se) : Int := gJ (Zv p) (Zv q)
theorem Ha (p q : Se) : Bw p q = some (nA p q) := by
  unfold Bw
  rw [sc4,Option.bind_some,or2]
  rfl
def Aw (p q : Se) : Bool := decide (nA p q < 0)
theorem Td (x y : Se) : (nA x y < 0) = (Aw x y = true) := by unfold Aw; simp
theorem Qk (p q : Se) : Aw p q = AC p q := by
  rw [Bool.eq_iff_iff, ← Td]
  exact b8 _ _ rfl
theorem n9 : Go.Sort.SWO Aw := ⟨fun x => by rw [Qk]; exact KD.irr x,fun x y z h1 h2 => by rw [Qk] at *; exact KD.tr h1 h2,fun x y z h1 h2 => by
  rw [Qk] at *
  cases h : AC x z with
  | false => rfl
  | true =>
    cases h3 : AC y x with
    | true => rw [KD.tr h3 h] at h2; cases h2
    | false => rw [KD.tot h1 h3,h2] at h; cases h⟩
section
open Go.Sort
theorem WX {a : Nat} : ∀ (j : Nat) (d : Array (Int × Int × Int × Int × Int)),j < d.size → d.size ≤ 1000000000 → Af (AP (a : Int)) (d.toList,(j : Int)) = some (insInner Aw a j d).toList
  | 0,d,hj,hb => An (by rw [AP,if_neg (by omega),Option.bind_some,if_neg (by decide)]; rfl)
  | j + 1, d, hj, hb => by
    have e1 : Aq (((j + 1 : Nat) : Int) - 1) = (j : Int) := by rw [Ad (by omega)]; omega
    have h1 := GX (d := d) hj
    have h0 := GX (d := d) (show j < d.size by omega)
    rw [insInner]
    by_cases c : a < j + 1
    · by_cases c2 : Aw d[j + 1]! d[j]! = true
      · rw [if_pos (by simp [c,c2])]
        have hst : AP (a : Int) (d.toList,((j + 1 : Nat) : Int)) = some (.inl ((swp d (j + 1) j).toList,(j : Int))) := by
          rw [AP,if_pos (by omega),e1]
          simp only [h1,h0,Option.bind_some,Ha,Td,Bool.decide_eq_true,c2,if_true,J7,GX (show j < (d.setIfInBounds (j + 1) d[j]!).size by simp; omega)]
          rfl
        rw [A0 hst]
        exact WX j _ (by rw [size_swp]; omega) (by rw [size_swp]; exact hb)
      · rw [if_neg (by simp [c2])]
        refine An ?_
        rw [AP,if_pos (by omega),e1]
        simp only [h1,h0,Option.bind_some,Ha,Td,Bool.decide_eq_true,c2,Bool.false_eq_true,if_false]
    · rw [if_neg (by simp; omega)]
      exact An (by rw [AP,if_neg (by omega),Option.bind_some,if_neg (by decide)])
theorem ZT {a b : Nat} : ∀ (m i : Nat) (d : Array (Int × Int × Int × Int × Int)),b - i = m → b ≤ d.size → d.size ≤ 1000000000 → Af (Bp (a : Int) (b : Int)) (d.toList,(i : Int)) = some (insOuter Aw a b i d).toList := by
  intro m
  induction m with
  | zero =>
    intro i d hm hb hs
    rw [insOuter,if_neg (by omega)]
    exact An (by rw [Bp,if_neg (by omega)])
  | succ m ih =>
    intro i d hm hb hs
    rw [insOuter,if_pos (by omega)]
    have hst : Bp (a : Int) (b : Int) (d.toList,(i : Int)) = some (.inl ((insInner Aw a i d).toList,((i + 1 : Nat) : Int))) := by
      rw [Bp,if_pos (by omega),WX i d (by omega) hs,Option.bind_some,Ad (by omega)]; rfl
    rw [A0 hst]
    exact ih (i + 1) _ (by omega) (by rw [JJ]; exact hb) (by rw [JJ]; exact hs)
theorem r9 (d : Array (Int × Int × Int × Int × Int)) (a b : Nat) (hb : b ≤ d.size) (hs : d.size ≤ 1000000000) (ha : a ≤ b) : BB d.toList (a : Int) (b : Int) = some (insertionSort Aw d a b).toList := by
  unfold BB
  rw [Ad (by omega)]
  exact ZT _ (a + 1) d rfl hb hs
theorem eQ {hi first : Nat} : ∀ (m root : Nat) (d : Array (Int × Int × Int × Int × Int)),hi - root ≤ m → first + hi ≤ d.size → d.size ≤ 1000000000 → root < 2000000000 → Af (AF (hi : Int) (first : Int)) (d.toList,(root : Int)) = some (siftDown Aw hi first root d).toList ∧ (siftDown Aw hi first root d).size = d.size := by
  intro m
  induction m with
  | zero =>
    intro root d hm hf hs hr
    have e1 : Aq ((Aq (2 * (root : Int))) + 1) = ((2 * root + 1 : Nat) : Int) := by rw [Ad (x := 2 * (root : Int)) (by omega),Ad (by omega)]; omega
    rw [siftDown,dif_pos (by omega)]
    exact ⟨An (by rw [AF,e1,if_pos (by omega)]),rfl⟩
  | succ m ih =>
    intro root d hm hf hs hr
    have e1 : Aq ((Aq (2 * (root : Int))) + 1) = ((2 * root + 1 : Nat) : Int) := by rw [Ad (x := 2 * (root : Int)) (by omega),Ad (by omega)]; omega
    rw [siftDown]
    by_cases c : 2 * root + 1 ≥ hi
    · rw [dif_pos c]
      exact ⟨An (by rw [AF,e1,if_pos (by omega)]),rfl⟩
    · rw [dif_neg c]
      have e2 : Aq (((2 * root + 1 : Nat) : Int) + 1) = ((2 * root + 2 : Nat) : Int) := by rw [Ad (by omega)]; omega
      have e3 : Aq ((first : Int) + ((2 * root + 1 : Nat) : Int)) = ((first + (2 * root + 1) : Nat) : Int) := by rw [Ad (by omega)]; omega
      have e4 : Aq (((first + (2 * root + 1) : Nat) : Int) + 1) = ((first + (2 * root + 1) + 1 : Nat) : Int) := by rw [Ad (by omega)]; omega
      have e5 : Aq ((first : Int) + (root : Int)) = ((first + root : Nat) : Int) := by rw [Ad (by omega)]; omega
      have e6 : Aq ((first : Int) + ((2 * root + 2 : Nat) : Int)) = ((first + (2 * root + 2) : Nat) : Int) := by rw [Ad (by omega)]; omega
      have g0 := GX (d := d) (show first + root < d.size by omega)
      have g1 := GX (d := d) (show first + (2 * root + 1) < d.size by omega)
      by_cases c2 : (decide (2 * root + 1 + 1 < hi) && Aw d[first + (2 * root + 1)]! d[first + (2 * root + 1) + 1]!) = true
      · have c3 : 2 * root + 2 < hi := by have := (Bool.and_eq_true _ _ ▸ c2).1; simpa using this
        have c4 := (Bool.and_eq_true _ _ ▸ c2).2
        have g2 := GX (d := d) (show first + (2 * root + 1) + 1 < d.size by omega)
        have g3 := GX (d := d) (show first + (2 * root + 2) < d.size by omega)
        rw [if_pos c2]
        by_cases c5 : Aw d[first + root]! d[first + (2 * root + 2)]! = true
        · rw [if_neg (by rw [c5]; decide),dif_pos c3]
          have hst : AF (hi : Int) (first : Int) (d.toList,(root : Int)) = some (.inl ((swp d (first + root) (first + (2 * root + 2))).toList,((2 * root + 2 : Nat) : Int))) := by
            rw [AF,e1,if_neg (by omega),e2,if_pos (by omega),e3,e4]
            simp only [g1,g2,Option.bind_some,Ha,Td,Bool.decide_eq_true,c4,if_true,e5,e6,g0,g3,c5,Bool.not_true,Bool.false_eq_true,if_false,J7,GX (show first + (2 * root + 2) < (d.setIfInBounds (first + root) d[first + (2 * root + 2)]!).size by simp; omega)]
            rfl
          rw [A0 hst]
          have := ih (2 * root + 2) (swp d (first + root) (first + (2 * root + 2))) (by omega) (by rw [size_swp]; exact hf) (by rw [size_swp]; exact hs) (by omega)
          exact ⟨this.1,by rw [this.2,size_swp]⟩
        · rw [if_pos (by simpa using c5)]
          refine ⟨An ?_,rfl⟩
          rw [AF,e1,if_neg (by omega),e2,if_pos (by omega),e3,e4]
          simp only [g1,g2,Option.bind_some,Ha,Td,Bool.decide_eq_true,c4,if_true,e5,e6,g0,g3,c5,Bool.not_false]
      · rw [if_neg c2]
        have hpick : (if ((2 * root + 2 : Nat) : Int) < (hi : Int) then (ix d.toList ((first + (2 * root + 1) + 1 : Nat) : Int)).bind fun x6 => some (Aw d[first + (2 * root + 1)]! x6) else some false) = some false := by
          by_cases c3 : 2 * root + 2 < hi
          · rw [if_pos (by omega),GX (d := d) (show first + (2 * root + 1) + 1 < d.size by omega),Option.bind_some]
            congr 1
            by_cases c4 : Aw d[first + (2 * root + 1)]! d[first + (2 * root + 1) + 1]! = true
            · exact absurd (by rw [c4]; simp; omega) c2
            · simpa using c4
          · rw [if_neg (by omega)]
        by_cases c5 : Aw d[first + root]! d[first + (2 * root + 1)]! = true
        · rw [if_neg (by rw [c5]; decide)]
          have hst : AF (hi : Int) (first : Int) (d.toList,(root : Int)) = some (.inl ((swp d (first + root) (first + (2 * root + 1))).toList,((2 * root + 1 : Nat) : Int))) := by
            rw [AF,e1,if_neg (by omega),e2,e3,e4]
            simp only [Ha,Td,Bool.decide_eq_true,g1,hpick,Option.bind_some,Bool.false_eq_true,if_false,e3,e5,g0,g1,c5,Bool.not_true,J7,GX (show first + (2 * root + 1) < (d.setIfInBounds (first + root) d[first + (2 * root + 1)]!).size by simp; omega)]
            rfl
          rw [A0 hst]
          have := ih (2 * root + 1) (swp d (first + root) (first + (2 * root + 1))) (by omega) (by rw [size_swp]; exact hf) (by rw [size_swp]; exact hs) (by omega)
          exact ⟨this.1,by rw [this.2,size_swp]⟩
        · rw [if_pos (by simpa using c5)]
          refine ⟨An ?_,rfl⟩
          rw [AF,e1,if_neg (by omega),e2,e3,e4]
          simp only [Ha,Td,Bool.decide_eq_true,g1,hpick,Option.bind_some,Bool.false_eq_true,if_false,e3,e5,g0,g1,c5,Bool.not_false,if_true]
theorem Yc (hi first root : Nat) (d : Array (Int × Int × Int × Int × Int)) (hf : first + hi ≤ d.size) (hs : d.size ≤ 1000000000) (hr : root < 2000000000) : BT d.toList (root : Int) (hi : Int) (first : Int) = some (siftDown Aw hi first root d).toList := (eQ _ root d (Nat.le_refl _) hf hs hr).1
theorem Pw (hi first root : Nat) (d : Array (Int × Int × Int × Int × Int)) (hf : first + hi ≤ d.size) (hs : d.size ≤ 1000000000) (hr : root < 2000000000) : (siftDown Aw hi first root d).size = d.size := (eQ _ root d (Nat.le_refl _) hf hs hr).2
theorem X7 {a b : Nat} (hab : a ≤ b) : ∀ (k : Nat) (d : Array (Int × Int × Int × Int × Int)),b ≤ d.size → d.size ≤ 1000000000 → k ≤ 1000000000 → Af (BH (a : Int) (b : Int)) (d.toList,(k : Int) - 1) = some (heapBuild Aw (b - a) a k d).toList ∧ (heapBuild Aw (b - a) a k d).size = d.size
  | 0,d,hb,hs,hk => ⟨An (by rw [BH,if_neg (by omega)]; rfl),rfl⟩
  | k + 1,d,hb,hs,hk => by
    have e1 : Aq ((b : Int) - (a : Int)) = ((b - a : Nat) : Int) := by rw [Ad (by omega)]; omega
    have hst : BH (a : Int) (b : Int) (d.toList,((k + 1 : Nat) : Int) - 1) = some (.inl ((siftDown Aw (b - a) a k d).toList,(k : Int) - 1)) := by
      rw [BH,if_pos (by omega),e1,show ((k + 1 : Nat) : Int) - 1 = (k : Int) by omega,Yc _ _ _ _ (by omega) hs (by omega),Option.bind_some,Ad (by omega)]
    rw [A0 hst]
    have hz := Pw (b - a) a k d (by omega) hs (by omega)
    have := X7 hab k (siftDown Aw (b - a) a k d) (by omega) (by omega) (by omega)
    rw [heapBuild]
    exact ⟨this.1,by rw [this.2,hz]⟩
theorem lE {a : Nat} : ∀ (k : Nat) (d : Array (Int × Int × Int × Int × Int)),a + k ≤ d.size → d.size ≤ 1000000000 → Af (BG (a : Int)) (d.toList,(k : Int) - 1) = some (heapPop Aw a k d).toList
  | 0,d,hb,hs => An (by rw [BG,if_neg (by omega)]; rfl)
  | k + 1,d,hb,hs => by
    have e1 : ((k + 1 : Nat) : Int) - 1 = (k : Int) := by omega
    have e2 : Aq ((a : Int) + (k : Int)) = ((a + k : Nat) : Int) := by rw [Ad (by omega)]; omega
    have h0 := GX (d := d) (show a < d.size by omega)
    have h1 := GX (d := d) (show a + k < d.size by omega)
    have hz := size_swp d a (a + k)
    have hst : BG (a : Int) (d.toList,((k + 1 : Nat) : Int) - 1) = some (.inl ((siftDown Aw k a 0 (swp d a (a + k))).toList,(k : Int) - 1)) := by
      rw [BG,e1,if_pos (by omega),e2]
      simp only [h1,h0,Option.bind_some,J7,GX (show a + k < (d.setIfInBounds a d[a + k]!).size by simp; omega)]
      show (BT (swp d a (a + k)).toList ((0 : Nat) : Int) (k : Int) (a : Int)).bind _ = _
      rw [Yc _ _ _ _ (by omega) (by omega) (by omega),Option.bind_some,Ad (by omega)]
    rw [A0 hst,heapPop]
    have hz2 := Pw k a 0 (swp d a (a + k)) (by omega) (by omega) (by omega)
    exact lE k _ (by omega) (by omega)
theorem qB (d : Array (Int × Int × Int × Int × Int)) (a b : Nat) (hb : b ≤ d.size) (hs : d.size ≤ 1000000000) (ha : a < b) : BU d.toList (a : Int) (b : Int) = some (heapSort Aw d a b).toList := by
  unfold BU
  have e1 : Aq ((b : Int) - (a : Int)) = ((b - a : Nat) : Int) := by rw [Ad (by omega)]; omega
  have e2 : Aq (((b - a : Nat) : Int) - 1) = ((b - a : Nat) : Int) - 1 := Ad (by omega)
  have e3 : Aq (Int.tdiv (((b - a : Nat) : Int) - 1) 2) = (((b - a - 1) / 2 + 1 : Nat) : Int) - 1 := by
    rw [Int.tdiv_eq_ediv_of_nonneg (by omega),Ad (by omega)]; omega
  rw [e1,e2,e3]
  have h := X7 (Nat.le_of_lt ha) ((b - a - 1) / 2 + 1) d hb hs (by omega)
  rw [h.1,Option.bind_some,lE _ _ (by rw [h.2]; omega) (by rw [h.2]; exact hs)]
  rfl
theorem Xr (d : Array (Int × Int × Int × Int × Int)) (a b s : Nat) (ha : a < d.size) (hb : b < d.size) (hs : s < 1000) : BL d.toList (a : Int) (b : Int) (s : Int) = some (((order2 Aw d a b s).1 : Int),((order2 Aw d a b s).2.1 : Int),((order2 Aw d a b s).2.2 : Int)) := by
  unfold BL order2
  have h0 := GX (d := d) ha
  have h1 := GX (d := d) hb
  by_cases c : Aw d[b]! d[a]! = true
  · simp only [h0,h1,Option.bind_some,Ha,Td,Bool.decide_eq_true,c,if_true,Ad (show -9223372036854775808 ≤ (s : Int) + 1 ∧ (s : Int) + 1 ≤ 9223372036854775807 by omega)]; rfl
  · simp only [h0,h1,Option.bind_some,Ha,Td,Bool.decide_eq_true,c,Bool.false_eq_true,if_false]
theorem e7 (d : Array (Int × Int × Int × Int × Int)) (a b c s : Nat) (ha : a < d.size) (hb : b < d.size) (hc : c < d.size) (hs : s < 900) : BK d.toList (a : Int) (b : Int) (c : Int) (s : Int) = some (((median Aw d a b c s).1 : Int),((median Aw d a b c s).2 : Int)) := by
  unfold BK median
  have m1 := order2_mem Aw d a b s
  have k1 := order2_count Aw d a b s
  rw [Xr d a b s ha hb (by omega),Option.bind_some]
  have m2 := order2_mem Aw d (order2 Aw d a b s).2.1 c (order2 Aw d a b s).2.2
  have k2 := order2_count Aw d (order2 Aw d a b s).2.1 c (order2 Aw d a b s).2.2
  rw [Xr d _ c _ (by omega) hc (by omega),Option.bind_some,Xr d _ _ _ (by omega) (by omega) (by omega)]; rfl
theorem Xb (d : Array (Int × Int × Int × Int × Int)) (a s : Nat) (h0 : 0 < a) (ha : a + 1 < d.size) (hb : d.size ≤ 1000000000) (hs : s < 900) : AX d.toList (a : Int) (s : Int) = some (((medianAdjacent Aw d a s).1 : Int),((medianAdjacent Aw d a s).2 : Int)) := by
  unfold AX medianAdjacent
  rw [Ad (x := (a : Int) - 1) (by omega),Ad (x := (a : Int) + 1) (by omega),show (a : Int) - 1 = ((a - 1 : Nat) : Int) by omega,show (a : Int) + 1 = ((a + 1 : Nat) : Int) by omega,e7 d _ _ _ _ (by omega) (by omega) (by omega) hs]; rfl
def Mc : Hint → Int
  | .unknown => 0
  | .increasing => 1
  | .decreasing => 2
theorem lM (j s : Nat) : ((some ((j : Int),(s : Int))).bind fun (x : Int × Int) => match x with | (x1,x2) => (if x2 = 0 then some (x1,1) else (if x2 = 12 then some (x1,2) else some (x1,(0 : Int))))) = some ((j : Int),Mc (if s = 0 then .increasing else if s = 12 then .decreasing else .unknown)) := by
  rw [Option.bind_some]
  show (if (s : Int) = 0 then some ((j : Int),(1 : Int)) else (if (s : Int) = 12 then some ((j : Int),2) else some ((j : Int),0))) = _
  by_cases c1 : s = 0
  · rw [if_pos (by omega),if_pos c1]; rfl
  · rw [if_neg (by omega),if_neg c1]
    by_cases c2 : s = 12
    · rw [if_pos (by omega),if_pos c2]; rfl
    · rw [if_neg (by omega),if_neg c2]; rfl
theorem wE (d : Array (Int × Int × Int × Int × Int)) (a b : Nat) (hb : b ≤ d.size) (hs : d.size ≤ 1000000000) (ha : a + 12 < b) : BF d.toList (a : Int) (b : Int) = some (((choosePivot Aw d a b).1 : Int),Mc (choosePivot Aw d a b).2) := by
  unfold BF
  have e1 : Aq ((b : Int) - (a : Int)) = ((b - a : Nat) : Int) := by rw [Ad (by omega)]; omega
  have e2 : Aq (Int.tdiv ((b - a : Nat) : Int) 4) = (((b - a) / 4 : Nat) : Int) := by rw [Int.tdiv_eq_ediv_of_nonneg (by omega),Ad (by omega)]; omega
  have f1 : Aq ((a : Int) + Aq ((((b - a) / 4 : Nat) : Int) * 1)) = ((a + (b - a) / 4 * 1 : Nat) : Int) := by rw [Ad (x := (((b - a) / 4 : Nat) : Int) * 1) (by omega),Ad (by omega)]; omega
  have f2 : Aq ((a : Int) + Aq ((((b - a) / 4 : Nat) : Int) * 2)) = ((a + (b - a) / 4 * 2 : Nat) : Int) := by rw [Ad (x := (((b - a) / 4 : Nat) : Int) * 2) (by omega),Ad (by omega)]; omega
  have f3 : Aq ((a : Int) + Aq ((((b - a) / 4 : Nat) : Int) * 3)) = ((a + (b - a) / 4 * 3 : Nat) : Int) := by rw [Ad (x := (((b - a) / 4 : Nat) : Int) * 3) (by omega),Ad (by omega)]; omega
  rw [e1,e2,f1,f2,f3,if_pos (by omega),choosePivot_eq]
  unfold rawPivot
  rw [if_pos (show b - a ≥ 8 by omega)]
  have b1 : a < a + (b - a) / 4 * 1 ∧ a + (b - a) / 4 * 3 + 1 < b := by omega
  have b2 : a + (b - a) / 4 * 1 < a + (b - a) / 4 * 2 ∧ a + (b - a) / 4 * 2 < a + (b - a) / 4 * 3 := by omega
  generalize a + (b - a) / 4 * 1 = i at b1 b2 ⊢
  generalize a + (b - a) / 4 * 2 = j at b2 ⊢
  generalize a + (b - a) / 4 * 3 = k at b1 b2 ⊢
  by_cases c : b - a ≥ 50
  · rw [if_pos (show (50 : Int) ≤ ((b - a : Nat) : Int) by omega),if_pos c]
    have g1 := medianAdjacent_count Aw d i 0
    have n1 := medianAdjacent_mem Aw d i 0
    have q1 := Xb d i 0 (by omega) (by omega) hs (by omega)
    generalize medianAdjacent Aw d i 0 = r1 at g1 n1 q1 ⊢
    have g2 := medianAdjacent_count Aw d j r1.2
    have n2 := medianAdjacent_mem Aw d j r1.2
    have q2 := Xb d j r1.2 (by omega) (by omega) hs (by omega)
    generalize medianAdjacent Aw d j r1.2 = r2 at g2 n2 q2 ⊢
    have g3 := medianAdjacent_count Aw d k r2.2
    have n3 := medianAdjacent_mem Aw d k r2.2
    have q3 := Xb d k r2.2 (by omega) (by omega) hs (by omega)
    generalize medianAdjacent Aw d k r2.2 = r3 at g3 n3 q3 ⊢
    have q4 := e7 d r1.1 r2.1 r3.1 r3.2 (by omega) (by omega) (by omega) (by omega)
    generalize median Aw d r1.1 r2.1 r3.1 r3.2 = r4 at q4 ⊢
    have q1' : AX d.toList (i : Int) 0 = some ((r1.1 : Int),(r1.2 : Int)) := q1
    rw [q1',Option.bind_some]
    simp only []
    rw [q2,Option.bind_some]
    simp only []
    rw [q3,Option.bind_some,Option.bind_some]
    simp only []
    rw [q4,Option.bind_some]
    exact lM r4.1 r4.2
  · rw [if_neg (show ¬ (50 : Int) ≤ ((b - a : Nat) : Int) by omega),if_neg c]
    have q4 := e7 d i j k 0 (by omega) (by omega) (by omega) (by omega)
    generalize median Aw d i j k 0 = r4 at q4 ⊢
    have q4' : BK d.toList (i : Int) (j : Int) (k : Int) 0 = some ((r4.1 : Int),(r4.2 : Int)) := q4
    rw [Option.bind_some]
    simp only []
    rw [q4',Option.bind_some]
    exact lM r4.1 r4.2
theorem f8 : ∀ (m i j : Nat) (d : Array (Int × Int × Int × Int × Int)),j - i ≤ m → j < d.size → d.size ≤ 1000000000 → Af A6 (d.toList,(i : Int),(j : Int)) = some (reverseLoop i j d).toList := by
  intro m
  induction m with
  | zero =>
    intro i j d hm hj hs
    rw [reverseLoop,if_neg (by omega)]
    exact An (by rw [A6,if_neg (by omega)])
  | succ m ih =>
    intro i j d hm hj hs
    rw [reverseLoop]
    by_cases c : i < j
    · rw [if_pos c]
      have h0 := GX (d := d) (show i < d.size by omega)
      have h1 := GX (d := d) hj
      have hst : A6 (d.toList,(i : Int),(j : Int)) = some (.inl ((swp d i j).toList,((i + 1 : Nat) : Int),((j - 1 : Nat) : Int))) := by
        rw [A6,if_pos (by omega)]
        simp only [h0,h1,Option.bind_some,J7,GX (show j < (d.setIfInBounds i d[j]!).size by simp; omega)]
        rw [Ad (x := (i : Int) + 1) (by omega),Ad (x := (j : Int) - 1) (by omega),show (j : Int) - 1 = ((j - 1 : Nat) : Int) by omega]; rfl
      rw [A0 hst]
      exact ih (i + 1) (j - 1) _ (by omega) (by rw [size_swp]; omega) (by rw [size_swp]; exact hs)
    · rw [if_neg c]
      exact An (by rw [A6,if_neg (by omega)])
theorem q6 (d : Array (Int × Int × Int × Int × Int)) (a b : Nat) (hb : b ≤ d.size) (hs : d.size ≤ 1000000000) (ha : a < b) : Bh d.toList (a : Int) (b : Int) = some (reverseRange d a b).toList := by
  unfold Bh
  rw [Ad (by omega),show (b : Int) - 1 = ((b - 1 : Nat) : Int) by omega]
  exact f8 _ a (b - 1) d (Nat.le_refl _) (by omega) hs
end
end Go.Proofs.YtpckgggmgijiiaaGreatDoor
