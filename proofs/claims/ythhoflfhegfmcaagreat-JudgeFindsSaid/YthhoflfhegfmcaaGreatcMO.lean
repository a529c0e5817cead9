/- Layer 25: numbers in order. Conditions: none. -/
import Derived.Test.YthhoflfhegfmcaaGreatcMS
import Derived.Test.YthhoflfhegfmcaaGreatcA7
namespace Go.Proofs.YthhoflfhegfmcaaGreat
set_option linter.unusedVariables false
set_option linter.unusedSimpArgs false
open Go Go.RowKit
def CY (x y : Int) : Bool := decide (x < y)
theorem UV (x y : Int) : CM x y = CY x y := by
  unfold CM Ck CY
  simp
section
open Go.Sort
theorem QM {a : Nat} : ∀ (j : Nat) (d : Array Int), j < d.size → d.size ≤ 1000000000 → Aq (Bj (a : Int)) (d.toList, (j : Int)) = some (insInner CY a j d).toList
  | 0, d, hj, hb => Av (by rw [Bj, if_neg (by omega), Option.bind_some, if_neg (by decide)]; rfl)
  | j + 1, d, hj, hb => by
    have e1 : An (((j + 1 : Nat) : Int) - 1) = (j : Int) := by rw [Aj (by omega)]; omega
    have h1 := C1 (d := d) hj
    have h0 := C1 (d := d) (show j < d.size by omega)
    rw [insInner]
    by_cases c : a < j + 1
    · by_cases c2 : CY d[j + 1]! d[j]! = true
      · rw [if_pos (by simp [c, c2])]
        have hst : Bj (a : Int) (d.toList, ((j + 1 : Nat) : Int)) = some (.inl ((swp d (j + 1) j).toList, (j : Int))) := by
          rw [Bj, if_pos (by omega), e1]
          simp only [h1, h0, Option.bind_some, UV, c2, if_true, IH, C1 (show j < (d.setIfInBounds (j + 1) d[j]!).size by simp; omega)]
          rfl
        rw [A7 hst]
        exact QM j _ (by rw [size_swp]; omega) (by rw [size_swp]; exact hb)
      · rw [if_neg (by simp [c2])]
        refine Av ?_
        rw [Bj, if_pos (by omega), e1]
        simp only [h1, h0, Option.bind_some, UV, c2, Bool.false_eq_true, if_false]
    · rw [if_neg (by simp; omega)]
      exact Av (by rw [Bj, if_neg (by omega), Option.bind_some, if_neg (by decide)])
theorem S6 {a b : Nat} : ∀ (m i : Nat) (d : Array Int), b - i = m → b ≤ d.size → d.size ≤ 1000000000 → Aq (BV (a : Int) (b : Int)) (d.toList, (i : Int)) = some (insOuter CY a b i d).toList := by
  intro m
  induction m with
  | zero =>
    intro i d hm hb hs
    rw [insOuter, if_neg (by omega)]
    exact Av (by rw [BV, if_neg (by omega)])
  | succ m ih =>
    intro i d hm hb hs
    rw [insOuter, if_pos (by omega)]
    have hst : BV (a : Int) (b : Int) (d.toList, (i : Int)) = some (.inl ((insInner CY a i d).toList, ((i + 1 : Nat) : Int))) := by
      rw [BV, if_pos (by omega), QM i d (by omega) hs, Option.bind_some, Aj (by omega)]; rfl
    rw [A7 hst]
    exact ih (i + 1) _ (by omega) (by rw [GR]; exact hb) (by rw [GR]; exact hs)
theorem XL (d : Array Int) (a b : Nat) (hb : b ≤ d.size) (hs : d.size ≤ 1000000000) (ha : a ≤ b) : Cf d.toList (a : Int) (b : Int) = some (insertionSort CY d a b).toList := by
  unfold Cf
  rw [Aj (by omega)]
  exact S6 _ (a + 1) d rfl hb hs
theorem Q8 (d : Array Int) (a b s : Nat) (ha : a < d.size) (hb : b < d.size) (hs : s < 1000) : CE d.toList (a : Int) (b : Int) (s : Int) = some (((order2 CY d a b s).1 : Int), ((order2 CY d a b s).2.1 : Int), ((order2 CY d a b s).2.2 : Int)) := by
  unfold CE order2
  have h0 := C1 (d := d) ha
  have h1 := C1 (d := d) hb
  by_cases c : CY d[b]! d[a]! = true
  · simp only [h0, h1, Option.bind_some, UV, c, if_true, Aj (show -9223372036854775808 ≤ (s : Int) + 1 ∧ (s : Int) + 1 ≤ 9223372036854775807 by omega)]; rfl
  · simp only [h0, h1, Option.bind_some, UV, c, Bool.false_eq_true, if_false]
theorem Up (d : Array Int) (a b c s : Nat) (ha : a < d.size) (hb : b < d.size) (hc : c < d.size) (hs : s < 900) : CF d.toList (a : Int) (b : Int) (c : Int) (s : Int) = some (((median CY d a b c s).1 : Int), ((median CY d a b c s).2 : Int)) := by
  unfold CF median
  have m1 := order2_mem CY d a b s
  have k1 := order2_count CY d a b s
  rw [Q8 d a b s ha hb (by omega), Option.bind_some]
  have m2 := order2_mem CY d (order2 CY d a b s).2.1 c (order2 CY d a b s).2.2
  have k2 := order2_count CY d (order2 CY d a b s).2.1 c (order2 CY d a b s).2.2
  rw [Q8 d _ c _ (by omega) hc (by omega), Option.bind_some, Q8 d _ _ _ (by omega) (by omega) (by omega)]; rfl
theorem Ru (d : Array Int) (a s : Nat) (h0 : 0 < a) (ha : a + 1 < d.size) (hb : d.size ≤ 1000000000) (hs : s < 900) : Bw d.toList (a : Int) (s : Int) = some (((medianAdjacent CY d a s).1 : Int), ((medianAdjacent CY d a s).2 : Int)) := by
  unfold Bw medianAdjacent
  rw [Aj (x := (a : Int) - 1) (by omega), Aj (x := (a : Int) + 1) (by omega), show (a : Int) - 1 = ((a - 1 : Nat) : Int) by omega, show (a : Int) + 1 = ((a + 1 : Nat) : Int) by omega, Up d _ _ _ _ (by omega) (by omega) (by omega) hs]; rfl
def OA : Hint → Int
  | .unknown => 0
  | .increasing => 1
  | .decreasing => 2
theorem Wi (j s : Nat) : ((some ((j : Int), (s : Int))).bind fun (x : Int × Int) => match x with | (x1, x2) => (if x2 = 0 then some (x1, 1) else (if x2 = 12 then some (x1, 2) else some (x1, (0 : Int))))) = some ((j : Int), OA (if s = 0 then .increasing else if s = 12 then .decreasing else .unknown)) := by
  rw [Option.bind_some]
  show (if (s : Int) = 0 then some ((j : Int), (1 : Int)) else (if (s : Int) = 12 then some ((j : Int), 2) else some ((j : Int), 0))) = _
  by_cases c1 : s = 0
  · rw [if_pos (by omega), if_pos c1]; rfl
  · rw [if_neg (by omega), if_neg c1]
    by_cases c2 : s = 12
    · rw [if_pos (by omega), if_pos c2]; rfl
    · rw [if_neg (by omega), if_neg c2]; rfl
theorem YJ (d : Array Int) (a b : Nat) (hb : b ≤ d.size) (hs : d.size ≤ 1000000000) (ha : a + 12 < b) : Cu d.toList (a : Int) (b : Int) = some (((choosePivot CY d a b).1 : Int), OA (choosePivot CY d a b).2) := by
  unfold Cu
  have e1 : An ((b : Int) - (a : Int)) = ((b - a : Nat) : Int) := by rw [Aj (by omega)]; omega
  have e2 : An (Int.tdiv ((b - a : Nat) : Int) 4) = (((b - a) / 4 : Nat) : Int) := by rw [Int.tdiv_eq_ediv_of_nonneg (by omega), Aj (by omega)]; omega
  have f1 : An ((a : Int) + An ((((b - a) / 4 : Nat) : Int) * 1)) = ((a + (b - a) / 4 * 1 : Nat) : Int) := by rw [Aj (x := (((b - a) / 4 : Nat) : Int) * 1) (by omega), Aj (by omega)]; omega
  have f2 : An ((a : Int) + An ((((b - a) / 4 : Nat) : Int) * 2)) = ((a + (b - a) / 4 * 2 : Nat) : Int) := by rw [Aj (x := (((b - a) / 4 : Nat) : Int) * 2) (by omega), Aj (by omega)]; omega
  have f3 : An ((a : Int) + An ((((b - a) / 4 : Nat) : Int) * 3)) = ((a + (b - a) / 4 * 3 : Nat) : Int) := by rw [Aj (x := (((b - a) / 4 : Nat) : Int) * 3) (by omega), Aj (by omega)]; omega
  rw [e1, e2, f1, f2, f3, if_pos (by omega), choosePivot_eq]
  unfold rawPivot
  rw [if_pos (show b - a ≥ 8 by omega)]
  have b1 : a < a + (b - a) / 4 * 1 ∧ a + (b - a) / 4 * 3 + 1 < b := by omega
  have b2 : a + (b - a) / 4 * 1 < a + (b - a) / 4 * 2 ∧ a + (b - a) / 4 * 2 < a + (b - a) / 4 * 3 := by omega
  generalize a + (b - a) / 4 * 1 = i at b1 b2 ⊢
  generalize a + (b - a) / 4 * 2 = j at b2 ⊢
  generalize a + (b - a) / 4 * 3 = k at b1 b2 ⊢
  by_cases c : b - a ≥ 50
  · rw [if_pos (show (50 : Int) ≤ ((b - a : Nat) : Int) by omega), if_pos c]
    have g1 := medianAdjacent_count CY d i 0
    have n1 := medianAdjacent_mem CY d i 0
    have q1 := Ru d i 0 (by omega) (by omega) hs (by omega)
    generalize medianAdjacent CY d i 0 = r1 at g1 n1 q1 ⊢
    have g2 := medianAdjacent_count CY d j r1.2
    have n2 := medianAdjacent_mem CY d j r1.2
    have q2 := Ru d j r1.2 (by omega) (by omega) hs (by omega)
    generalize medianAdjacent CY d j r1.2 = r2 at g2 n2 q2 ⊢
    have g3 := medianAdjacent_count CY d k r2.2
    have n3 := medianAdjacent_mem CY d k r2.2
    have q3 := Ru d k r2.2 (by omega) (by omega) hs (by omega)
    generalize medianAdjacent CY d k r2.2 = r3 at g3 n3 q3 ⊢
    have q4 := Up d r1.1 r2.1 r3.1 r3.2 (by omega) (by omega) (by omega) (by omega)
    generalize median CY d r1.1 r2.1 r3.1 r3.2 = r4 at q4 ⊢
    have q1' : Bw d.toList (i : Int) 0 = some ((r1.1 : Int), (r1.2 : Int)) := q1
    rw [q1', Option.bind_some]
    simp only []
    rw [q2, Option.bind_some]
    simp only []
    rw [q3, Option.bind_some, Option.bind_some]
    simp only []
    rw [q4, Option.bind_some]
    exact Wi r4.1 r4.2
  · rw [if_neg (show ¬ (50 : Int) ≤ ((b - a : Nat) : Int) by omega), if_neg c]
    have q4 := Up d i j k 0 (by omega) (by omega) (by omega) (by omega)
    generalize median CY d i j k 0 = r4 at q4 ⊢
    have q4' : CF d.toList (i : Int) (j : Int) (k : Int) 0 = some ((r4.1 : Int), (r4.2 : Int)) := q4
    rw [Option.bind_some]
    simp only []
    rw [q4', Option.bind_some]
    exact Wi r4.1 r4.2
theorem V6 : ∀ (j : Nat) (d : Array Int), j < d.size → d.size ≤ 1000000000 → Aq AP (d.toList, (j : Int)) = some (shiftDown CY j d).toList ∧ (shiftDown CY j d).size = d.size
  | 0, d, hj, hs => ⟨Av (by rw [AP, if_neg (by omega)]; rfl), rfl⟩
  | j + 1, d, hj, hs => by
    have e1 : An (((j + 1 : Nat) : Int) - 1) = (j : Int) := by rw [Aj (by omega)]; omega
    have h1 := C1 (d := d) hj
    have h0 := C1 (d := d) (show j < d.size by omega)
    rw [shiftDown]
    by_cases c : CY d[j + 1]! d[j]! = true
    · rw [if_neg (by rw [c]; decide)]
      have hst : AP (d.toList, ((j + 1 : Nat) : Int)) = some (.inl ((swp d (j + 1) j).toList, (j : Int))) := by
        rw [AP, if_pos (by omega), e1]
        simp only [h1, h0, Option.bind_some, UV, c, Bool.not_true, Bool.false_eq_true, if_false, IH, C1 (show j < (d.setIfInBounds (j + 1) d[j]!).size by simp; omega)]
        rfl
      rw [A7 hst]
      obtain ⟨k1, k2⟩ := V6 j (swp d (j + 1) j) (by rw [size_swp]; omega) (by rw [size_swp]; exact hs)
      exact ⟨k1, by rw [k2, size_swp]⟩
    · rw [if_pos (by simpa using c)]
      refine ⟨Av ?_, rfl⟩
      rw [AP, if_pos (by omega), e1]
      simp only [h1, h0, Option.bind_some, UV, c, Bool.not_false, if_true]
theorem XP {b : Nat} (x7 : Int) : ∀ (m j : Nat) (d : Array Int), b - j = m → 0 < j → b ≤ d.size → d.size ≤ 1000000000 → Aq (A3 (b : Int) x7) (d.toList, (j : Int)) = some (.inl ((shiftUp CY b j d).toList, x7)) ∧ (shiftUp CY b j d).size = d.size := by
  intro m
  induction m with
  | zero =>
    intro j d hm h0 hb hs
    rw [shiftUp, if_neg (by omega)]
    exact ⟨Av (by rw [A3, if_neg (by omega)]), rfl⟩
  | succ m ih =>
    intro j d hm h0 hb hs
    have e1 : An ((j : Int) - 1) = ((j - 1 : Nat) : Int) := by rw [Aj (by omega)]; omega
    have e2 : An ((j : Int) + 1) = ((j + 1 : Nat) : Int) := by rw [Aj (by omega)]; omega
    have g1 := C1 (d := d) (show j < d.size by omega)
    have g0 := C1 (d := d) (show j - 1 < d.size by omega)
    rw [shiftUp, if_pos (by omega)]
    by_cases c : CY d[j]! d[j - 1]! = true
    · rw [if_neg (by rw [c]; decide)]
      have hst : A3 (b : Int) x7 (d.toList, (j : Int)) = some (.inl ((swp d j (j - 1)).toList, ((j + 1 : Nat) : Int))) := by
        rw [A3, if_pos (by omega), e1, e2]
        simp only [g1, g0, Option.bind_some, UV, c, Bool.not_true, Bool.false_eq_true, if_false, IH, C1 (show j - 1 < (d.setIfInBounds j d[j - 1]!).size by simp; omega)]
        rfl
      rw [A7 hst]
      obtain ⟨k1, k2⟩ := ih (j + 1) (swp d j (j - 1)) (by omega) (by omega) (by rw [size_swp]; exact hb) (by rw [size_swp]; exact hs)
      exact ⟨k1, by rw [k2, size_swp]⟩
    · rw [if_pos (by simpa using c)]
      refine ⟨Av ?_, rfl⟩
      rw [A3, if_pos (by omega), e1, e2]
      simp only [g1, g0, Option.bind_some, UV, c, Bool.not_false, if_true]
theorem VF {a b : Nat} (hab : a + 1 < b) : ∀ (s i : Nat) (d : Array Int), s ≤ 5 → a < i → i ≤ b → b ≤ d.size → d.size ≤ 1000000000 →
    GT (Aq (A4 (a : Int) (b : Int)) (d.toList, (i : Int), ((5 - s : Nat) : Int))) (fun x1 => some (false, x1)) = some ((partialIns CY a b s i d).2, (partialIns CY a b s i d).1.toList) ∧ (partialIns CY a b s i d).1.size = d.size := by
  intro s
  induction s with
  | zero =>
    intro i d _ _ _ _ _
    exact ⟨by rw [Av (by rw [A4, if_neg (by omega)])]; rfl, rfl⟩
  | succ s ih =>
    intro i d h5 ha hib hb hs
    have hsc : Aq (BO (b : Int) d.toList) (i : Int) = some ((scanSorted CY d b i : Nat) : Int) ∧ i ≤ scanSorted CY d b i ∧ (i ≤ b → scanSorted CY d b i ≤ b) := M5 CY d b
      (fun i h0 hi => by
        rw [BO, if_pos (by omega)]
        simp only [S8 (show 0 < i by omega) (show i ≤ 1000000000 by omega), C1 (d := d) (show i < d.size by omega), C1 (d := d) (show i - 1 < d.size by omega), Option.bind_some, UV, SV (show i ≤ 1000000000 by omega)]
        split <;> rfl)
      (fun i hi => by rw [BO, if_neg (by omega), Option.bind_some, if_neg (by decide)]) _ i rfl (by omega)
    rw [partialIns_succ]
    generalize scanSorted CY d b i = i2 at hsc ⊢
    obtain ⟨k1, k2, k3⟩ := hsc
    have k3 := k3 hib
    have e1 : An ((b : Int) - (a : Int)) = ((b - a : Nat) : Int) := by rw [Aj (by omega)]; omega
    by_cases c1 : i2 = b
    · rw [if_pos c1]
      refine ⟨?_, rfl⟩
      rw [Av (by rw [A4, if_pos (by omega), k1, Option.bind_some, if_pos (by omega)]; rfl)]; rfl
    · rw [if_neg c1]
      by_cases c2 : b - a < 50
      · rw [if_pos c2]
        refine ⟨?_, rfl⟩
        rw [Av (by rw [A4, if_pos (by omega), k1, Option.bind_some, if_neg (by omega), e1, if_pos (by omega)]; rfl)]; rfl
      · rw [if_neg c2]
        have e2 : An ((i2 : Int) - 1) = ((i2 - 1 : Nat) : Int) := by rw [Aj (by omega)]; omega
        have e3 : An ((i2 : Int) - (a : Int)) = ((i2 - a : Nat) : Int) := by rw [Aj (by omega)]; omega
        have e4 : An ((b : Int) - (i2 : Int)) = ((b - i2 : Nat) : Int) := by rw [Aj (by omega)]; omega
        have e5 : An ((i2 : Int) + 1) = ((i2 + 1 : Nat) : Int) := by rw [Aj (by omega)]; omega
        have z1 := size_swp d i2 (i2 - 1)
        have hD : (if (2 : Int) ≤ ((i2 - a : Nat) : Int) then Aq AP ((swp d i2 (i2 - 1)).toList, ((i2 - 1 : Nat) : Int)) else some (swp d i2 (i2 - 1)).toList) = some (fixDown CY a i2 (swp d i2 (i2 - 1))).toList ∧ (fixDown CY a i2 (swp d i2 (i2 - 1))).size = d.size := by
          unfold fixDown
          by_cases c : i2 - a ≥ 2
          · rw [if_pos (by omega), if_pos c]
            obtain ⟨q1, q2⟩ := V6 (i2 - 1) (swp d i2 (i2 - 1)) (by omega) (by omega)
            exact ⟨q1, by rw [q2, z1]⟩
          · rw [if_neg (by omega), if_neg c]; exact ⟨rfl, z1⟩
        generalize fixDown CY a i2 (swp d i2 (i2 - 1)) = D at hD ⊢
        obtain ⟨hD1, hD2⟩ := hD
        have hU : (if (2 : Int) ≤ ((b - i2 : Nat) : Int) then Aq (A3 (b : Int) (i2 : Int)) (D.toList, ((i2 + 1 : Nat) : Int)) else some (.inl (D.toList, (i2 : Int)))) = some (.inl ((fixUp CY b i2 D).toList, (i2 : Int))) ∧ (fixUp CY b i2 D).size = d.size := by
          unfold fixUp
          by_cases c : b - i2 ≥ 2
          · rw [if_pos (by omega), if_pos c]
            obtain ⟨q1, q2⟩ := XP (b := b) (i2 : Int) _ (i2 + 1) D rfl (by omega) (by omega) (by omega)
            exact ⟨q1, by rw [q2, hD2]⟩
          · rw [if_neg (by omega), if_neg c]; exact ⟨rfl, hD2⟩
        generalize fixUp CY b i2 D = U at hU ⊢
        obtain ⟨hU1, hU2⟩ := hU
        have hst : A4 (a : Int) (b : Int) (d.toList, (i : Int), ((5 - (s + 1) : Nat) : Int)) = some (.inl (U.toList, (i2 : Int), ((5 - s : Nat) : Int))) := by
          rw [A4, if_pos (by omega), k1, Option.bind_some, if_neg (by omega), e1, if_neg (by omega), e2, e3, e4, e5]
          simp only [C1 (d := d) (show i2 < d.size by omega), C1 (d := d) (show i2 - 1 < d.size by omega), Option.bind_some, IH, C1 (show i2 - 1 < (d.setIfInBounds i2 d[i2 - 1]!).size by simp; omega)]
          show GT ((if (2 : Int) ≤ ((i2 - a : Nat) : Int) then Aq AP ((swp d i2 (i2 - 1)).toList, ((i2 - 1 : Nat) : Int)) else some (swp d i2 (i2 - 1)).toList).bind _) _ = _
          rw [hD1, Option.bind_some, hU1]
          show some (Sum.inl (U.toList, (i2 : Int), An (((5 - (s + 1) : Nat) : Int) + 1))) = _
          rw [Aj (by omega), show ((5 - (s + 1) : Nat) : Int) + 1 = ((5 - s : Nat) : Int) by omega]
        rw [A7 hst]
        obtain ⟨r1, r2⟩ := ih i2 U (by omega) (by omega) k3 (by omega) (by omega)
        exact ⟨r1, by rw [r2, hU2]⟩
theorem Xo (d : Array Int) (a b : Nat) (hab : a + 1 < b) (hb : b ≤ d.size) (hs : d.size ≤ 1000000000) :
    BD d.toList (a : Int) (b : Int) = some ((partialInsertionSort CY d a b).2, (partialInsertionSort CY d a b).1.toList) ∧ (partialInsertionSort CY d a b).1.size = d.size := by
  unfold BD partialInsertionSort
  rw [Aj (by omega), show (a : Int) + 1 = ((a + 1 : Nat) : Int) by omega]
  exact VF hab 5 (a + 1) d (by omega) (by omega) (by omega) hb hs
end
section
open Go.Sort
def Sx (d : Array Int) : Prop := ∀ i j, i < j → j < d.size → CY d[j]! d[i]! = false
theorem Sx.le {d : Array Int} (h : Sx d) {i j : Nat} (hij : i ≤ j) (hj : j < d.size) : CY d[j]! d[i]! = false := by
  rcases Nat.lt_or_ge i j with c | c
  · exact h i j c hj
  · obtain rfl : i = j := by omega
    unfold CY; simp
theorem Sx.ins {d : Array Int} (h : Sx d) (a : Nat) : ∀ j, j < d.size → insInner CY a j d = d
  | 0, _ => rfl
  | j + 1, hj => by
    rw [insInner, h j (j + 1) (by omega) hj]
    simp
theorem Sx.insO {d : Array Int} (h : Sx d) (a b : Nat) (hb : b ≤ d.size) : ∀ m i, b - i = m → insOuter CY a b i d = d := by
  intro m
  induction m with
  | zero => intro i hi; rw [insOuter, if_neg (by omega)]
  | succ m ih => intro i hi; rw [insOuter, if_pos (by omega), h.ins a i (by omega)]; exact ih (i + 1) (by omega)
theorem Sx.med {d : Array Int} (h : Sx d) {a b c : Nat} (hab : a ≤ b) (hbc : b ≤ c) (hc : c < d.size) (s : Nat) : median CY d a b c s = (b, s) := by
  have e1 : order2 CY d a b s = (a, b, s) := by unfold order2; rw [h.le hab (by omega)]; rfl
  have e2 : order2 CY d b c s = (b, c, s) := by unfold order2; rw [h.le hbc hc]; rfl
  have e3 : order2 CY d a b s = (a, b, s) := e1
  unfold median
  simp only [e1, e2]
theorem Sx.cp {d : Array Int} (h : Sx d) {b : Nat} (hb : b ≤ d.size) (h12 : 12 < b) : (choosePivot CY d 0 b).2 = .increasing := by
  rw [choosePivot_eq]
  show hintOf (rawPivot CY d 0 b).2 = _
  have : (rawPivot CY d 0 b).2 = 0 := by
    unfold rawPivot
    rw [if_pos (by omega)]
    by_cases c : b - 0 ≥ 50
    · rw [if_pos c]
      unfold medianAdjacent
      have e1 := h.med (a := 0 + (b - 0) / 4 * 1 - 1) (b := 0 + (b - 0) / 4 * 1) (c := 0 + (b - 0) / 4 * 1 + 1) (by omega) (by omega) (by omega) 0
      have e2 := h.med (a := 0 + (b - 0) / 4 * 2 - 1) (b := 0 + (b - 0) / 4 * 2) (c := 0 + (b - 0) / 4 * 2 + 1) (by omega) (by omega) (by omega) 0
      have e3 := h.med (a := 0 + (b - 0) / 4 * 3 - 1) (b := 0 + (b - 0) / 4 * 3) (c := 0 + (b - 0) / 4 * 3 + 1) (by omega) (by omega) (by omega) 0
      have e4 := h.med (a := 0 + (b - 0) / 4 * 1) (b := 0 + (b - 0) / 4 * 2) (c := 0 + (b - 0) / 4 * 3) (by omega) (by omega) (by omega) 0
      simp only [e1, e2, e3, e4]
    · rw [if_neg c, h.med (by omega) (by omega) (by omega)]
  rw [this]; rfl
theorem Sx.scan {d : Array Int} (h : Sx d) {b : Nat} (hb : b ≤ d.size) : ∀ m i, b - i = m → 0 < i → i ≤ b → scanSorted CY d b i = b := by
  intro m
  induction m with
  | zero => intro i hi h0 hib; rw [scanSorted, if_neg (by simp; omega)]; omega
  | succ m ih =>
    intro i hi h0 hib
    rw [scanSorted, if_pos (by rw [h.le (show i - 1 ≤ i by omega) (by omega)]; simp; omega)]
    exact ih (i + 1) (by omega) (by omega) (by omega)
theorem Wl {L : List Int} (hs : L.Pairwise (· ≤ ·)) : Sx L.toArray := fun i j hij hj => by
  have hj' : j < L.length := by simpa using hj
  rw [getElem!_pos L.toArray j hj, getElem!_pos L.toArray i (by omega)]
  have := List.pairwise_iff_getElem.1 hs i j (by omega) hj' hij
  unfold CY
  simp only [List.getElem_toArray, decide_eq_false_iff_not]
  omega
theorem Pd {L : List Int} (hl : L.length ≤ 1000000) (hs : L.Pairwise (· ≤ ·)) : DW L = some L := by
  have h := Wl hs
  have hz : L.toArray.size = L.length := by simp
  have hb : 12 < L.length → bitsLen L.length ≠ 0 := fun h12 e => by
    have := (bitsLen_le_iff L.length 0).1 (by omega)
    omega
  unfold DW
  rw [RD (by omega), Option.bind_some]
  have hp : Dv L 0 (L.length : Int) ((bitsLen L.length : Nat) : Int) = some L := by
    unfold Dv
    refine Av ?_
    rw [Ep, Aj (by omega)]
    by_cases c : L.length ≤ 12
    · rw [if_pos (by omega)]
      have hi := XL L.toArray 0 L.length (by omega) (by omega) (Nat.zero_le _)
      have hi' : Cf L 0 (L.length : Int) = some (insertionSort CY L.toArray 0 L.length).toList := hi
      have hO : insertionSort CY L.toArray 0 L.length = L.toArray := h.insO 0 L.length (by omega) _ (0 + 1) rfl
      rw [hi', Option.bind_some, hO]
    · rw [if_neg (by omega), if_neg (by have := hb (by omega); omega)]
      have hc := YJ L.toArray 0 L.length (by omega) (by omega) (by omega)
      have hc' : Cu L 0 (L.length : Int) = some (((choosePivot CY L.toArray 0 L.length).1 : Int), OA (choosePivot CY L.toArray 0 L.length).2) := hc
      rw [hc', Option.bind_some, h.cp (by omega) (by omega)]
      rw [if_neg (show ¬ (OA .increasing = 2) by decide), if_pos (show OA .increasing = 1 by decide)]
      have hq := (Xo L.toArray 0 L.length (by omega) (by omega) (by omega)).1
      have hpi : partialInsertionSort CY L.toArray 0 L.length = (L.toArray, true) := by
        unfold partialInsertionSort
        rw [partialIns_succ, if_pos (h.scan (by omega) _ (0 + 1) rfl (by omega) (by omega))]
      have hq' : BD L 0 (L.length : Int) = some ((partialInsertionSort CY L.toArray 0 L.length).2, (partialInsertionSort CY L.toArray 0 L.length).1.toList) := hq
      rw [hq', Option.bind_some, hpi]; rfl
  rw [hp]; rfl
end
theorem Ki {L : List Int} (hs : L.Pairwise (· ≤ ·)) {i j : Nat} (hij : i ≤ j) (hj : j < L.length) : L[i]'(by omega) ≤ L[j] := by
  rcases Nat.lt_or_ge i j with h | h
  · exact List.pairwise_iff_getElem.1 hs i j (by omega) hj h
  · obtain rfl : i = j := by omega
    exact Int.le_refl _
theorem Mu {L : List Int} {x : Int} {m : Nat} : x ∈ L.take m ↔ ∃ i, ∃ h : i < L.length, i < m ∧ L[i] = x := by
  constructor
  · intro h
    obtain ⟨i, hi, e⟩ := List.mem_iff_getElem.1 h
    rw [List.length_take] at hi
    exact ⟨i, by omega, by omega, by rw [← e, List.getElem_take]⟩
  · rintro ⟨i, h1, h2, e⟩
    exact List.mem_iff_getElem.2 ⟨i, by rw [List.length_take]; omega, by rw [List.getElem_take, e]⟩
theorem Re {L : List Int} (hl : L.length ≤ 1000000) (hs : L.Pairwise (· ≤ ·)) {k : Nat} (hk : k < L.length) :
    ∀ (d j q : Nat) (X : List Int), k + j + d = L.length → X.length = L.length → k ≤ q → q + 1 ≤ k + j → (∀ i, q ≤ i → X[i]? = L[i]?) → (X.take q).Pairwise (· < ·) → (∀ x, x ∈ X.take q ↔ x ∈ L.take (k + j)) → 1 ≤ j →
    ∃ (X' : List Int) (q' : Nat), Aq (Cx L (k : Int)) (X, (q : Int), (j : Int)) = some (X', (q' : Int)) ∧ X'.length = L.length ∧ q' ≤ L.length ∧ (X'.take q').Pairwise (· < ·) ∧ ∀ x, x ∈ X'.take q' ↔ x ∈ L := by
  intro d
  induction d with
  | zero =>
    intro j q X h1 h2 h3 h4 h5 h6 h7 h8
    refine ⟨X, q, Av ?_, h2, by omega, h6, fun x => by rw [h7 x, List.take_of_length_le (by omega)]⟩
    rw [Cx, IJ (by omega), Option.bind_some, if_neg (by simp; omega)]
  | succ d ih =>
    intro j q X h1 h2 h3 h4 h5 h6 h7 h8
    have hkj : k + j < L.length := by omega
    have hdrop : (X.take ((L.length : Int)).toNat).drop ((k : Int)).toNat = X.drop k := by simp [← h2]
    have hx1 : ix (X.drop k) (j : Int) = some L[k + j] := BA (by rw [List.getElem?_drop, h5 _ (by omega), List.getElem?_eq_getElem hkj])
    have hx2 : ix (X.drop k) ((j - 1 : Nat) : Int) = some (L[k + (j - 1)]'(by omega)) := BA (by rw [List.getElem?_drop, h5 _ (by omega), List.getElem?_eq_getElem (by omega)])
    have hq : ix X (q : Int) = some (X[q]'(by omega)) := BA (List.getElem?_eq_getElem _)
    have hstep := Ki hs (show k + (j - 1) ≤ k + j by omega) hkj
    have hhead : Cx L (k : Int) (X, (q : Int), (j : Int)) = (if L[k + j] ≠ L[k + (j - 1)]'(by omega) then some (.inl (Ah X (q : Int) L[k + j], ((q + 1 : Nat) : Int), ((j + 1 : Nat) : Int))) else some (.inl (X, (q : Int), ((j + 1 : Nat) : Int)))) := by
      rw [Cx, IJ (by omega), Option.bind_some, hdrop, if_pos (by simp; omega), Aj (x := (j : Int) - 1) (by omega), show (j : Int) - 1 = ((j - 1 : Nat) : Int) by omega, hx1, Option.bind_some, hx2, Option.bind_some]
      by_cases c : L[k + j] ≠ L[k + (j - 1)]'(by omega)
      · rw [if_pos c, if_pos c, Option.bind_some, hq, Option.bind_some, Option.bind_some, Aj (by omega), Aj (by omega)]; rfl
      · rw [if_neg c, if_neg c, Option.bind_some, Aj (by omega)]; rfl
    by_cases c : L[k + j] ≠ L[k + (j - 1)]'(by omega)
    · rw [A7 (by rw [hhead, if_pos c])]
      have hset : Ah X (q : Int) L[k + j] = X.set q L[k + j] := by unfold Ah; simp
      have htake : (X.set q L[k + j]).take (q + 1) = X.take q ++ [L[k + j]] := by
        rw [List.take_succ_eq_append_getElem (by simp; omega), List.getElem_set_self, List.take_set_of_le (Nat.le_refl _)]
      rw [hset]
      refine ih (j + 1) (q + 1) _ (by omega) (by simp [h2]) (by omega) (by omega) (fun i hi => ?_) ?_ (fun x => ?_) (by omega)
      · rw [List.getElem?_set_ne (by omega)]; exact h5 i (by omega)
      · rw [htake, List.pairwise_append]
        refine ⟨h6, List.pairwise_singleton _ _, fun a ha b hb => ?_⟩
        rw [List.mem_singleton.1 hb]
        obtain ⟨i, i1, i2, i3⟩ := Mu.1 ((h7 a).1 ha)
        have := Ki hs (show i ≤ k + (j - 1) by omega) (by omega)
        omega
      · rw [htake, List.mem_append, List.mem_singleton, h7 x, show k + (j + 1) = (k + j) + 1 by omega, List.take_succ_eq_append_getElem hkj, List.mem_append, List.mem_singleton]
    · rw [A7 (by rw [hhead, if_neg c])]
      refine ih (j + 1) q X (by omega) h2 h3 (by omega) h5 h6 (fun x => ?_) (by omega)
      rw [h7 x, show k + (j + 1) = (k + j) + 1 by omega, List.take_succ_eq_append_getElem hkj, List.mem_append, List.mem_singleton]
      constructor
      · exact .inl
      · rintro (h | h)
        · exact h
        · rw [h, Decidable.not_not.1 c]
          exact Mu.2 ⟨k + (j - 1), by omega, by omega, rfl⟩
theorem NO {L : List Int} (hl : L.length ≤ 1000000) (hs : L.Pairwise (· ≤ ·)) : ∃ R, Du L = some R ∧ R.Pairwise (· < ·) ∧ ∀ x, x ∈ R ↔ x ∈ L := by
  unfold Du
  by_cases c : L.length < 2
  · rw [if_pos (by omega)]
    refine ⟨L, rfl, ?_, fun _ => Iff.rfl⟩
    match L, c with
    | [], _ => exact List.Pairwise.nil
    | [a], _ => exact List.pairwise_singleton _ _
  · rw [if_neg (by omega)]
    have key : ∀ (d k : Nat), k + d = L.length → 1 ≤ k → (L.take k).Pairwise (· < ·) → ∃ R, GT (Aq (Cd L) (k : Int)) (fun _ => some L) = some R ∧ R.Pairwise (· < ·) ∧ ∀ x, x ∈ R ↔ x ∈ L := by
      intro d
      induction d with
      | zero =>
        intro k hk h1 hp
        rw [List.take_of_length_le (by omega)] at hp
        exact ⟨L, by rw [Av (by rw [Cd, if_neg (by omega)])]; rfl, hp, fun _ => Iff.rfl⟩
      | succ d ih =>
        intro k hk h1 hp
        have hkl : k < L.length := by omega
        have hx1 : ix L (k : Int) = some L[k] := BA (List.getElem?_eq_getElem hkl)
        have hx2 : ix L ((k - 1 : Nat) : Int) = some (L[k - 1]'(by omega)) := BA (List.getElem?_eq_getElem (by omega))
        have e1 : An ((k : Int) - 1) = ((k - 1 : Nat) : Int) := by rw [Aj (by omega)]; omega
        by_cases c2 : L[k] = L[k - 1]'(by omega)
        · obtain ⟨X, q, a1, a2, a3, a4, a5⟩ := Re hl hs hkl (L.length - (k + 1)) 1 k L (by omega) rfl (Nat.le_refl _) (Nat.le_refl _) (fun _ _ => rfl) hp (fun x => by
            rw [List.take_succ_eq_append_getElem hkl, List.mem_append, List.mem_singleton]
            constructor
            · exact .inl
            · rintro (h | h)
              · exact h
              · rw [h, c2]; exact Mu.2 ⟨k - 1, by omega, by omega, rfl⟩) (Nat.le_refl _)
          refine ⟨X.take q, ?_, a4, a5⟩
          have hst : Cd L (k : Int) = some (.inr (.inr (X.take q))) := by
            rw [Cd, if_pos (by omega), hx1, Option.bind_some, e1, hx2, Option.bind_some, if_pos c2, IJ (by omega), Option.bind_some, show Aq (Cx L (k : Int)) (L, (k : Int), 1) = some (X, (q : Int)) from a1, Option.bind_some]
            simp only []
            rw [IJ (by omega), Option.bind_some]
            have hd : ((X.take ((X.length : Int)).toNat).drop ((q : Int)).toNat).length = X.length - q := by simp
            rw [hd]
            have hspl : Xc X (q : Int) (List.replicate (X.length - q) (0 : Int)) = some (X.take q ++ List.replicate (X.length - q) 0 ++ X.drop (q + (X.length - q))) := by
              unfold Xc
              rw [if_pos (by simp; omega)]; simp
            rw [hspl, Option.bind_some, IJ (by simp; omega), Option.bind_some]
            have ht : ((X.take q ++ List.replicate (X.length - q) (0 : Int) ++ X.drop (q + (X.length - q))).take ((q : Int)).toNat).drop ((0 : Int)).toNat = X.take q := by
              rw [Int.toNat_natCast]
              show List.drop 0 _ = _
              rw [List.drop_zero, List.append_assoc, List.take_append_of_le_length (by simp; omega), List.take_take, Nat.min_self]
            rw [ht]; rfl
          rw [Av hst]; rfl
        · have hst : Cd L (k : Int) = some (.inl ((k + 1 : Nat) : Int)) := by
            rw [Cd, if_pos (by omega), hx1, Option.bind_some, e1, hx2, Option.bind_some, if_neg c2, Aj (by omega)]; rfl
          rw [A7 hst]
          refine ih (k + 1) (by omega) (by omega) ?_
          rw [List.take_succ_eq_append_getElem hkl, List.pairwise_append]
          refine ⟨hp, List.pairwise_singleton _ _, fun a ha b hb => ?_⟩
          rw [List.mem_singleton.1 hb]
          obtain ⟨i, i1, i2, i3⟩ := Mu.1 ha
          have h2 := Ki hs (show i ≤ k - 1 by omega) (by omega)
          have h3 := Ki hs (show k - 1 ≤ k by omega) hkl
          omega
    exact key (L.length - 1) 1 (by omega) (Nat.le_refl _) (by
      cases L with
      | nil => exact absurd (by simp) c
      | cons a l => exact List.pairwise_singleton _ _)
theorem NS : ∀ {A B : List Int}, A.Pairwise (· < ·) → B.Pairwise (· < ·) → (∀ x, x ∈ A ↔ x ∈ B) → A = B
  | [], [], _, _, _ => rfl
  | [], b :: B, _, _, h => by have := (h b).2 (List.mem_cons_self ..); cases this
  | a :: A, [], _, _, h => by have := (h a).1 (List.mem_cons_self ..); cases this
  | a :: A, b :: B, ha, hb, h => by
    rw [List.pairwise_cons] at ha hb
    have hab : a = b := by
      have h1 := (h a).1 (List.mem_cons_self ..)
      have h2 := (h b).2 (List.mem_cons_self ..)
      rcases List.mem_cons.1 h1 with e | e
      · exact e
      · rcases List.mem_cons.1 h2 with e2 | e2
        · exact e2.symm
        · have := ha.1 b e2
          have := hb.1 a e
          omega
    subst hab
    rw [NS ha.2 hb.2 fun x => ?_]
    constructor
    · intro hx
      rcases List.mem_cons.1 ((h x).1 (List.mem_cons_of_mem _ hx)) with e | e
      · have := ha.1 x hx; omega
      · exact e
    · intro hx
      rcases List.mem_cons.1 ((h x).2 (List.mem_cons_of_mem _ hx)) with e | e
      · have := hb.1 x hx; omega
      · exact e
end Go.Proofs.YthhoflfhegfmcaaGreat
