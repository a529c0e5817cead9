/- Layer 43: the sort's parts, second half. Conditions: none. -/
import Derived.Test.YtdogfpoekndknaaMQ
namespace Go.Proofs.Ytdogfpoekndknaa
set_option linter.unusedVariables false
set_option linter.unusedSimpArgs false
open Go Go.RowKit
/-! ### The library's sort, CmpFunc_float64: partitions, patterns, the recursion -/
section
open Go.Sort
/-- What two scans find. -/
theorem foscans {p q : Nat → Bool} (hq : ∀ x, q x = !p x) (d : Array Nat) {i j : Nat} (hi : 0 < i) (hij : i ≤ j + 1) :
    i ≤ scanUp p d j i ∧ scanUp p d j i ≤ j + 1 ∧ scanDown q d (scanUp p d j i) j ≤ j ∧ scanUp p d j i ≤ scanDown q d (scanUp p d j i) j + 1 ∧ scanUp p d j i ≠ scanDown q d (scanUp p d j i) j := by
  obtain ⟨h1, h2, _, h4⟩ := scanUp_spec p d j _ i rfl
  obtain ⟨g1, g2, _, g4⟩ := scanDown_spec q d (scanUp p d j i) j
  refine ⟨h1, h2 hij, g1, g2 (h2 hij), fun e => ?_⟩
  have k1 := h4 (by omega)
  have k2 := g4 (by omega) (by omega)
  rw [← e, hq, k1] at k2
  cases k2
theorem fopeq_l {a : Nat} : ∀ (m i j : Nat) (d : Array Nat), j + 1 - i < m → a < i → i ≤ j + 1 → j < d.size → d.size ≤ 1000000000 →
    loopW (slices_partitionEqualCmpFunc_float64_l1 (a : Int)) (d.toList, (i : Int), (j : Int)) = some (((partEqLoop folt a i j d).1 : Int), (partEqLoop folt a i j d).2.toList) ∧ (partEqLoop folt a i j d).1 ≤ j + 1 ∧ (partEqLoop folt a i j d).2.size = d.size := by
  intro m
  induction m with
  | zero => intro i j d hm; omega
  | succ m ih =>
    intro i j d hm ha hij hj hs
    have g0 := ixA (d := d) (show a < d.size by omega)
    have hup : loopW (slices_partitionEqualCmpFunc_float64_l2 (a : Int) d.toList (j : Int)) (i : Int) = some ((scanUp (fun x => !folt d[a]! x) d j i : Nat) : Int) := scan_up (fun x => !folt d[a]! x) d j
      (fun i hi => by
        rw [slices_partitionEqualCmpFunc_float64_l2, if_pos (by omega)]
        simp only [g0, ixA (d := d) (show i < d.size by omega), Option.bind_some, fo_cm, foP, Bool.decide_eq_true, w64p (show i ≤ 1000000000 by omega)]
        split <;> rfl)
      (fun i hi => by rw [slices_partitionEqualCmpFunc_float64_l2, if_neg (by omega), Option.bind_some, if_neg (by decide)]) _ i rfl
    obtain ⟨s1, s2, s3, s4, s5⟩ := foscans (p := fun x => !folt d[a]! x) (q := fun x => folt d[a]! x) (fun x => by simp) d (show 0 < i by omega) hij
    rw [partEqLoop_eq]
    generalize scanUp (fun x => !folt d[a]! x) d j i = i2 at hup s1 s2 s3 s4 s5 ⊢
    have hdn : loopW (slices_partitionEqualCmpFunc_float64_l3 (a : Int) d.toList (i2 : Int)) (j : Int) = some ((scanDown (fun x => folt d[a]! x) d i2 j : Nat) : Int) := scan_down (fun x => folt d[a]! x) d i2 (by omega)
      (fun j hj1 hj2 => by
        rw [slices_partitionEqualCmpFunc_float64_l3, if_pos (by omega)]
        simp only [g0, ixA (d := d) hj2, Option.bind_some, fo_cm, foP, Bool.decide_eq_true, w64s (show 0 < j by omega) (show j ≤ 1000000000 by omega)]
        split <;> rfl)
      (fun j hj1 => by rw [slices_partitionEqualCmpFunc_float64_l3, if_neg (by omega), Option.bind_some, if_neg (by decide)]) j hj
    generalize scanDown (fun x => folt d[a]! x) d i2 j = j2 at hdn s3 s4 s5 ⊢
    by_cases c : i2 > j2
    · rw [if_pos c]
      refine ⟨loopW_end ?_, s2, rfl⟩
      rw [slices_partitionEqualCmpFunc_float64_l1, hup, Option.bind_some, hdn, Option.bind_some, if_pos (by omega)]
    · rw [if_neg c]
      have hst : slices_partitionEqualCmpFunc_float64_l1 (a : Int) (d.toList, (i : Int), (j : Int)) = some (.inl ((swp d i2 j2).toList, ((i2 + 1 : Nat) : Int), ((j2 - 1 : Nat) : Int))) := by
        rw [slices_partitionEqualCmpFunc_float64_l1, hup, Option.bind_some, hdn, Option.bind_some, if_neg (by omega)]
        simp only [ixA (d := d) (show i2 < d.size by omega), ixA (d := d) (show j2 < d.size by omega), Option.bind_some, setA, ixA (show j2 < (d.setIfInBounds i2 d[j2]!).size by simp; omega)]
        rw [w64_id (x := (i2 : Int) + 1) (by omega), w64_id (x := (j2 : Int) - 1) (by omega), show (j2 : Int) - 1 = ((j2 - 1 : Nat) : Int) by omega]; rfl
      rw [loopW_go hst]
      obtain ⟨h1, h2, h3⟩ := ih (i2 + 1) (j2 - 1) (swp d i2 j2) (by omega) (by omega) (by omega) (by rw [size_swp]; omega) (by rw [size_swp]; exact hs)
      exact ⟨h1, by omega, by rw [h3, size_swp]⟩
theorem fopeq (d : Array Nat) (a b p : Nat) (h1 : a ≤ p) (h2 : p < b) (hb : b ≤ d.size) (hs : d.size ≤ 1000000000) (hab : a + 1 < b) :
    slices_partitionEqualCmpFunc_float64 d.toList (a : Int) (b : Int) (p : Int) = some (((partitionEqual folt d a b p).1 : Int), (partitionEqual folt d a b p).2.toList) := by
  unfold slices_partitionEqualCmpFunc_float64 partitionEqual
  rw [ixA (d := d) (show p < d.size by omega), Option.bind_some, ixA (d := d) (show a < d.size by omega), Option.bind_some, Option.bind_some, setA, ixA (by simp; omega), Option.bind_some, setA]
  show (loopW _ ((swp d a p).toList, _, _)).bind _ = _
  rw [w64_id (x := (a : Int) + 1) (by omega), w64_id (x := (b : Int) - 1) (by omega), show (a : Int) + 1 = ((a + 1 : Nat) : Int) by omega, show (b : Int) - 1 = ((b - 1 : Nat) : Int) by omega,
    (fopeq_l _ (a + 1) (b - 1) (swp d a p) (Nat.lt_succ_self _) (by omega) (by omega) (by rw [size_swp]; omega) (by rw [size_swp]; exact hs)).1, Option.bind_some]
theorem fopart_l {a : Nat} : ∀ (m i j : Nat) (d : Array Nat), j + 1 - i < m → a < i → i ≤ j + 1 → j < d.size → d.size ≤ 1000000000 →
    loopW (slices_partitionCmpFunc_float64_l3 (a : Int)) (d.toList, (i : Int), (j : Int)) = some ((partLoop folt a i j d).2.toList, ((partLoop folt a i j d).1 : Int)) ∧ (partLoop folt a i j d).1 ≤ j ∧ (partLoop folt a i j d).2.size = d.size := by
  intro m
  induction m with
  | zero => intro i j d hm; omega
  | succ m ih =>
    intro i j d hm ha hij hj hs
    have g0 := ixA (d := d) (show a < d.size by omega)
    have hup : loopW (slices_partitionCmpFunc_float64_l4 (a : Int) d.toList (j : Int)) (i : Int) = some ((scanUp (fun x => folt x d[a]!) d j i : Nat) : Int) := scan_up (fun x => folt x d[a]!) d j
      (fun i hi => by
        rw [slices_partitionCmpFunc_float64_l4, if_pos (by omega)]
        simp only [g0, ixA (d := d) (show i < d.size by omega), Option.bind_some, fo_cm, foP, Bool.decide_eq_true, w64p (show i ≤ 1000000000 by omega)]
        split <;> rfl)
      (fun i hi => by rw [slices_partitionCmpFunc_float64_l4, if_neg (by omega), Option.bind_some, if_neg (by decide)]) _ i rfl
    obtain ⟨s1, s2, s3, s4, s5⟩ := foscans (p := fun x => folt x d[a]!) (q := fun x => !folt x d[a]!) (fun x => rfl) d (show 0 < i by omega) hij
    rw [partLoop_eq]
    generalize scanUp (fun x => folt x d[a]!) d j i = i2 at hup s1 s2 s3 s4 s5 ⊢
    have hdn : loopW (slices_partitionCmpFunc_float64_l5 (a : Int) d.toList (i2 : Int)) (j : Int) = some ((scanDown (fun x => !folt x d[a]!) d i2 j : Nat) : Int) := scan_down (fun x => !folt x d[a]!) d i2 (by omega)
      (fun j hj1 hj2 => by
        rw [slices_partitionCmpFunc_float64_l5, if_pos (by omega)]
        simp only [g0, ixA (d := d) hj2, Option.bind_some, fo_cm, foP, Bool.decide_eq_true, w64s (show 0 < j by omega) (show j ≤ 1000000000 by omega)]
        split <;> rfl)
      (fun j hj1 => by rw [slices_partitionCmpFunc_float64_l5, if_neg (by omega), Option.bind_some, if_neg (by decide)]) j hj
    generalize scanDown (fun x => !folt x d[a]!) d i2 j = j2 at hdn s3 s4 s5 ⊢
    by_cases c : i2 > j2
    · rw [if_pos c]
      refine ⟨loopW_end ?_, s3, rfl⟩
      rw [slices_partitionCmpFunc_float64_l3, hup, Option.bind_some, hdn, Option.bind_some, if_pos (by omega)]
    · rw [if_neg c]
      have hst : slices_partitionCmpFunc_float64_l3 (a : Int) (d.toList, (i : Int), (j : Int)) = some (.inl ((swp d i2 j2).toList, ((i2 + 1 : Nat) : Int), ((j2 - 1 : Nat) : Int))) := by
        rw [slices_partitionCmpFunc_float64_l3, hup, Option.bind_some, hdn, Option.bind_some, if_neg (by omega)]
        simp only [ixA (d := d) (show i2 < d.size by omega), ixA (d := d) (show j2 < d.size by omega), Option.bind_some, setA, ixA (show j2 < (d.setIfInBounds i2 d[j2]!).size by simp; omega)]
        rw [w64_id (x := (i2 : Int) + 1) (by omega), w64_id (x := (j2 : Int) - 1) (by omega), show (j2 : Int) - 1 = ((j2 - 1 : Nat) : Int) by omega]; rfl
      rw [loopW_go hst]
      obtain ⟨h1, h2, h3⟩ := ih (i2 + 1) (j2 - 1) (swp d i2 j2) (by omega) (by omega) (by omega) (by rw [size_swp]; omega) (by rw [size_swp]; exact hs)
      exact ⟨h1, by omega, by rw [h3, size_swp]⟩
theorem fopart (d : Array Nat) (a b p : Nat) (h1 : a ≤ p) (h2 : p < b) (hb : b ≤ d.size) (hs : d.size ≤ 1000000000) (hab : a + 1 < b) :
    slices_partitionCmpFunc_float64 d.toList (a : Int) (b : Int) (p : Int) = some (((partition folt d a b p).1 : Int), (partition folt d a b p).2.1, (partition folt d a b p).2.2.toList) := by
  unfold slices_partitionCmpFunc_float64 partition
  rw [ixA (d := d) (show p < d.size by omega), Option.bind_some, ixA (d := d) (show a < d.size by omega), Option.bind_some, Option.bind_some, setA, ixA (by simp; omega), Option.bind_some, setA]
  have hL : setAt (setAt d.toList (a : Int) d[p]!) (p : Int) d[a]! = (swp d a p).toList := by rw [setA, setA]; rfl
  show (loopW (slices_partitionCmpFunc_float64_l1 d.toList (a : Int) (b : Int) (p : Int) d[p]! d[a]!) _).bind _ = _
  have eD : ((d.setIfInBounds a d[p]!).setIfInBounds p d[a]!).toList = (swp d a p).toList := rfl
  rw [eD]
  have hz := size_swp d a p
  generalize swp d a p = D at hL hz ⊢
  have g0 := ixA (d := D) (show a < D.size by omega)
  have ea : w64 ((a : Int) + 1) = ((a + 1 : Nat) : Int) := by rw [w64_id (by omega)]; omega
  have eb : w64 ((b : Int) - 1) = ((b - 1 : Nat) : Int) := by rw [w64_id (by omega)]; omega
  have hup : loopW (slices_partitionCmpFunc_float64_l1 d.toList (a : Int) (b : Int) (p : Int) d[p]! d[a]!) ((a + 1 : Nat) : Int) = some ((scanUp (fun x => folt x D[a]!) D (b - 1) (a + 1) : Nat) : Int) := scan_up (fun x => folt x D[a]!) D (b - 1)
    (fun i hi => by
      rw [slices_partitionCmpFunc_float64_l1, hL, eb, if_pos (by omega)]
      simp only [g0, ixA (d := D) (show i < D.size by omega), Option.bind_some, fo_cm, foP, Bool.decide_eq_true, w64p (show i ≤ 1000000000 by omega)]
      split <;> rfl)
    (fun i hi => by rw [slices_partitionCmpFunc_float64_l1, eb, if_neg (by omega), Option.bind_some, if_neg (by decide)]) _ (a + 1) rfl
  obtain ⟨s1, s2, s3, s4, s5⟩ := foscans (p := fun x => folt x D[a]!) (q := fun x => !folt x D[a]!) (fun x => rfl) D (show 0 < a + 1 by omega) (show a + 1 ≤ b - 1 + 1 by omega)
  rw [ea, hup, Option.bind_some]
  simp only []
  generalize scanUp (fun x => folt x D[a]!) D (b - 1) (a + 1) = i2 at hup s1 s2 s3 s4 s5 ⊢
  have hdn : loopW (slices_partitionCmpFunc_float64_l2 d.toList (a : Int) (p : Int) d[p]! d[a]! (i2 : Int)) ((b - 1 : Nat) : Int) = some ((scanDown (fun x => !folt x D[a]!) D i2 (b - 1) : Nat) : Int) := scan_down (fun x => !folt x D[a]!) D i2 (by omega)
    (fun j hj1 hj2 => by
      rw [slices_partitionCmpFunc_float64_l2, hL, if_pos (by omega)]
      simp only [g0, ixA (d := D) hj2, Option.bind_some, fo_cm, foP, Bool.decide_eq_true, w64s (show 0 < j by omega) (show j ≤ 1000000000 by omega)]
      split <;> rfl)
    (fun j hj1 => by rw [slices_partitionCmpFunc_float64_l2, if_neg (by omega), Option.bind_some, if_neg (by decide)]) (b - 1) (by omega)
  rw [eb, hdn, Option.bind_some]
  generalize scanDown (fun x => !folt x D[a]!) D i2 (b - 1) = j2 at hdn s3 s4 s5 ⊢
  by_cases c : i2 > j2
  · rw [if_pos (show (j2 : Int) < (i2 : Int) by omega), if_pos c]
    simp only [g0, ixA (d := D) (show j2 < D.size by omega), Option.bind_some, setA, ixA (show a < (D.setIfInBounds j2 D[a]!).size by simp; omega)]
    rfl
  · rw [if_neg (show ¬ (j2 : Int) < (i2 : Int) by omega), if_neg c]
    simp only [ixA (d := D) (show i2 < D.size by omega), ixA (d := D) (show j2 < D.size by omega), Option.bind_some, setA, ixA (show j2 < (D.setIfInBounds i2 D[j2]!).size by simp; omega)]
    show (loopW (slices_partitionCmpFunc_float64_l3 (a : Int)) ((swp D i2 j2).toList, _, _)).bind _ = _
    have hz2 := size_swp D i2 j2
    obtain ⟨k1, k2, k3⟩ := fopart_l (a := a) _ (i2 + 1) (j2 - 1) (swp D i2 j2) (Nat.lt_succ_self _) (by omega) (by omega) (by omega) (by omega)
    rw [w64_id (x := (i2 : Int) + 1) (by omega), w64_id (x := (j2 : Int) - 1) (by omega), show (i2 : Int) + 1 = ((i2 + 1 : Nat) : Int) by omega, show (j2 : Int) - 1 = ((j2 - 1 : Nat) : Int) by omega, k1, Option.bind_some]
    generalize partLoop folt a (i2 + 1) (j2 - 1) (swp D i2 j2) = r at k2 k3 ⊢
    simp only [ixA (d := r.2) (show a < r.2.size by omega), ixA (d := r.2) (show r.1 < r.2.size by omega), Option.bind_some, setA, ixA (show a < (r.2.setIfInBounds r.1 r.2[a]!).size by simp; omega)]
    rfl
theorem fosdn : ∀ (j : Nat) (d : Array Nat), j < d.size → d.size ≤ 1000000000 → loopW slices_partialInsertionSortCmpFunc_float64_l3 (d.toList, (j : Int)) = some (shiftDown folt j d).toList ∧ (shiftDown folt j d).size = d.size
  | 0, d, hj, hs => ⟨loopW_end (by rw [slices_partialInsertionSortCmpFunc_float64_l3, if_neg (by omega)]; rfl), rfl⟩
  | j + 1, d, hj, hs => by
    have e1 : w64 (((j + 1 : Nat) : Int) - 1) = (j : Int) := by rw [w64_id (by omega)]; omega
    have h1 := ixA (d := d) hj
    have h0 := ixA (d := d) (show j < d.size by omega)
    rw [shiftDown]
    by_cases c : folt d[j + 1]! d[j]! = true
    · rw [if_neg (by rw [c]; decide)]
      have hst : slices_partialInsertionSortCmpFunc_float64_l3 (d.toList, ((j + 1 : Nat) : Int)) = some (.inl ((swp d (j + 1) j).toList, (j : Int))) := by
        rw [slices_partialInsertionSortCmpFunc_float64_l3, if_pos (by omega), e1]
        simp only [h1, h0, Option.bind_some, fo_cm, foP, Bool.decide_eq_true, c, Bool.not_true, Bool.false_eq_true, if_false, setA, ixA (show j < (d.setIfInBounds (j + 1) d[j]!).size by simp; omega)]
        rfl
      rw [loopW_go hst]
      obtain ⟨k1, k2⟩ := fosdn j (swp d (j + 1) j) (by rw [size_swp]; omega) (by rw [size_swp]; exact hs)
      exact ⟨k1, by rw [k2, size_swp]⟩
    · rw [if_pos (by simpa using c)]
      refine ⟨loopW_end ?_, rfl⟩
      rw [slices_partialInsertionSortCmpFunc_float64_l3, if_pos (by omega), e1]
      simp only [h1, h0, Option.bind_some, fo_cm, foP, Bool.decide_eq_true, c, Bool.not_false, if_true]
theorem fosup {b : Nat} (x7 : Int) : ∀ (m j : Nat) (d : Array Nat), b - j = m → 0 < j → b ≤ d.size → d.size ≤ 1000000000 → loopW (slices_partialInsertionSortCmpFunc_float64_l4 (b : Int) x7) (d.toList, (j : Int)) = some (.inl ((shiftUp folt b j d).toList, x7)) ∧ (shiftUp folt b j d).size = d.size := by
  intro m
  induction m with
  | zero =>
    intro j d hm h0 hb hs
    rw [shiftUp, if_neg (by omega)]
    exact ⟨loopW_end (by rw [slices_partialInsertionSortCmpFunc_float64_l4, if_neg (by omega)]), rfl⟩
  | succ m ih =>
    intro j d hm h0 hb hs
    have e1 : w64 ((j : Int) - 1) = ((j - 1 : Nat) : Int) := by rw [w64_id (by omega)]; omega
    have e2 : w64 ((j : Int) + 1) = ((j + 1 : Nat) : Int) := by rw [w64_id (by omega)]; omega
    have g1 := ixA (d := d) (show j < d.size by omega)
    have g0 := ixA (d := d) (show j - 1 < d.size by omega)
    rw [shiftUp, if_pos (by omega)]
    by_cases c : folt d[j]! d[j - 1]! = true
    · rw [if_neg (by rw [c]; decide)]
      have hst : slices_partialInsertionSortCmpFunc_float64_l4 (b : Int) x7 (d.toList, (j : Int)) = some (.inl ((swp d j (j - 1)).toList, ((j + 1 : Nat) : Int))) := by
        rw [slices_partialInsertionSortCmpFunc_float64_l4, if_pos (by omega), e1, e2]
        simp only [g1, g0, Option.bind_some, fo_cm, foP, Bool.decide_eq_true, c, Bool.not_true, Bool.false_eq_true, if_false, setA, ixA (show j - 1 < (d.setIfInBounds j d[j - 1]!).size by simp; omega)]
        rfl
      rw [loopW_go hst]
      obtain ⟨k1, k2⟩ := ih (j + 1) (swp d j (j - 1)) (by omega) (by omega) (by rw [size_swp]; exact hb) (by rw [size_swp]; exact hs)
      exact ⟨k1, by rw [k2, size_swp]⟩
    · rw [if_pos (by simpa using c)]
      refine ⟨loopW_end ?_, rfl⟩
      rw [slices_partialInsertionSortCmpFunc_float64_l4, if_pos (by omega), e1, e2]
      simp only [g1, g0, Option.bind_some, fo_cm, foP, Bool.decide_eq_true, c, Bool.not_false, if_true]
theorem fopis_l {a b : Nat} (hab : a + 1 < b) : ∀ (s i : Nat) (d : Array Nat), s ≤ 5 → a < i → i ≤ b → b ≤ d.size → d.size ≤ 1000000000 →
    orR (loopW (slices_partialInsertionSortCmpFunc_float64_l1 (a : Int) (b : Int)) (d.toList, (i : Int), ((5 - s : Nat) : Int))) (fun x1 => some (false, x1)) = some ((partialIns folt a b s i d).2, (partialIns folt a b s i d).1.toList) ∧ (partialIns folt a b s i d).1.size = d.size := by
  intro s
  induction s with
  | zero =>
    intro i d _ _ _ _ _
    exact ⟨by rw [loopW_end (by rw [slices_partialInsertionSortCmpFunc_float64_l1, if_neg (by omega)])]; rfl, rfl⟩
  | succ s ih =>
    intro i d h5 ha hib hb hs
    have hsc : loopW (slices_partialInsertionSortCmpFunc_float64_l2 (b : Int) d.toList) (i : Int) = some ((scanSorted folt d b i : Nat) : Int) ∧ i ≤ scanSorted folt d b i ∧ (i ≤ b → scanSorted folt d b i ≤ b) := scan_sorted folt d b
      (fun i h0 hi => by
        rw [slices_partialInsertionSortCmpFunc_float64_l2, if_pos (by omega)]
        simp only [w64s (show 0 < i by omega) (show i ≤ 1000000000 by omega), ixA (d := d) (show i < d.size by omega), ixA (d := d) (show i - 1 < d.size by omega), Option.bind_some, fo_cm, foP, Bool.decide_eq_true, w64p (show i ≤ 1000000000 by omega)]
        split <;> rfl)
      (fun i hi => by rw [slices_partialInsertionSortCmpFunc_float64_l2, if_neg (by omega), Option.bind_some, if_neg (by decide)]) _ i rfl (by omega)
    rw [partialIns_succ]
    generalize scanSorted folt d b i = i2 at hsc ⊢
    obtain ⟨k1, k2, k3⟩ := hsc
    have k3 := k3 hib
    have e1 : w64 ((b : Int) - (a : Int)) = ((b - a : Nat) : Int) := by rw [w64_id (by omega)]; omega
    by_cases c1 : i2 = b
    · rw [if_pos c1]
      refine ⟨?_, rfl⟩
      rw [loopW_end (by rw [slices_partialInsertionSortCmpFunc_float64_l1, if_pos (by omega), k1, Option.bind_some, if_pos (by omega)]; rfl)]; rfl
    · rw [if_neg c1]
      by_cases c2 : b - a < 50
      · rw [if_pos c2]
        refine ⟨?_, rfl⟩
        rw [loopW_end (by rw [slices_partialInsertionSortCmpFunc_float64_l1, if_pos (by omega), k1, Option.bind_some, if_neg (by omega), e1, if_pos (by omega)]; rfl)]; rfl
      · rw [if_neg c2]
        have e2 : w64 ((i2 : Int) - 1) = ((i2 - 1 : Nat) : Int) := by rw [w64_id (by omega)]; omega
        have e3 : w64 ((i2 : Int) - (a : Int)) = ((i2 - a : Nat) : Int) := by rw [w64_id (by omega)]; omega
        have e4 : w64 ((b : Int) - (i2 : Int)) = ((b - i2 : Nat) : Int) := by rw [w64_id (by omega)]; omega
        have e5 : w64 ((i2 : Int) + 1) = ((i2 + 1 : Nat) : Int) := by rw [w64_id (by omega)]; omega
        have z1 := size_swp d i2 (i2 - 1)
        have hD : (if (2 : Int) ≤ ((i2 - a : Nat) : Int) then loopW slices_partialInsertionSortCmpFunc_float64_l3 ((swp d i2 (i2 - 1)).toList, ((i2 - 1 : Nat) : Int)) else some (swp d i2 (i2 - 1)).toList) = some (fixDown folt a i2 (swp d i2 (i2 - 1))).toList ∧ (fixDown folt a i2 (swp d i2 (i2 - 1))).size = d.size := by
          unfold fixDown
          by_cases c : i2 - a ≥ 2
          · rw [if_pos (by omega), if_pos c]
            obtain ⟨q1, q2⟩ := fosdn (i2 - 1) (swp d i2 (i2 - 1)) (by omega) (by omega)
            exact ⟨q1, by rw [q2, z1]⟩
          · rw [if_neg (by omega), if_neg c]; exact ⟨rfl, z1⟩
        generalize fixDown folt a i2 (swp d i2 (i2 - 1)) = D at hD ⊢
        obtain ⟨hD1, hD2⟩ := hD
        have hU : (if (2 : Int) ≤ ((b - i2 : Nat) : Int) then loopW (slices_partialInsertionSortCmpFunc_float64_l4 (b : Int) (i2 : Int)) (D.toList, ((i2 + 1 : Nat) : Int)) else some (.inl (D.toList, (i2 : Int)))) = some (.inl ((fixUp folt b i2 D).toList, (i2 : Int))) ∧ (fixUp folt b i2 D).size = d.size := by
          unfold fixUp
          by_cases c : b - i2 ≥ 2
          · rw [if_pos (by omega), if_pos c]
            obtain ⟨q1, q2⟩ := fosup (b := b) (i2 : Int) _ (i2 + 1) D rfl (by omega) (by omega) (by omega)
            exact ⟨q1, by rw [q2, hD2]⟩
          · rw [if_neg (by omega), if_neg c]; exact ⟨rfl, hD2⟩
        generalize fixUp folt b i2 D = U at hU ⊢
        obtain ⟨hU1, hU2⟩ := hU
        have hst : slices_partialInsertionSortCmpFunc_float64_l1 (a : Int) (b : Int) (d.toList, (i : Int), ((5 - (s + 1) : Nat) : Int)) = some (.inl (U.toList, (i2 : Int), ((5 - s : Nat) : Int))) := by
          rw [slices_partialInsertionSortCmpFunc_float64_l1, if_pos (by omega), k1, Option.bind_some, if_neg (by omega), e1, if_neg (by omega), e2, e3, e4, e5]
          simp only [ixA (d := d) (show i2 < d.size by omega), ixA (d := d) (show i2 - 1 < d.size by omega), Option.bind_some, setA, ixA (show i2 - 1 < (d.setIfInBounds i2 d[i2 - 1]!).size by simp; omega)]
          show orR ((if (2 : Int) ≤ ((i2 - a : Nat) : Int) then loopW slices_partialInsertionSortCmpFunc_float64_l3 ((swp d i2 (i2 - 1)).toList, ((i2 - 1 : Nat) : Int)) else some (swp d i2 (i2 - 1)).toList).bind _) _ = _
          rw [hD1, Option.bind_some, hU1]
          show some (Sum.inl (U.toList, (i2 : Int), w64 (((5 - (s + 1) : Nat) : Int) + 1))) = _
          rw [w64_id (by omega), show ((5 - (s + 1) : Nat) : Int) + 1 = ((5 - s : Nat) : Int) by omega]
        rw [loopW_go hst]
        obtain ⟨r1, r2⟩ := ih i2 U (by omega) (by omega) k3 (by omega) (by omega)
        exact ⟨r1, by rw [r2, hU2]⟩
theorem fopis (d : Array Nat) (a b : Nat) (hab : a + 1 < b) (hb : b ≤ d.size) (hs : d.size ≤ 1000000000) :
    slices_partialInsertionSortCmpFunc_float64 d.toList (a : Int) (b : Int) = some ((partialInsertionSort folt d a b).2, (partialInsertionSort folt d a b).1.toList) ∧ (partialInsertionSort folt d a b).1.size = d.size := by
  unfold slices_partialInsertionSortCmpFunc_float64 partialInsertionSort
  rw [w64_id (by omega), show (a : Int) + 1 = ((a + 1 : Nat) : Int) by omega]
  exact fopis_l hab 5 (a + 1) d (by omega) (by omega) (by omega) hb hs
theorem fobp_step {a b : Nat} (hab : a + 12 < b) (st : UInt64 × Array Nat) (idx : Nat) (h1 : a ≤ idx) (h2 : idx ≤ a + (b - a) / 4 * 2 + 1) (hb : b ≤ st.2.size) (hs : st.2.size ≤ 1000000000) :
    slices_breakPatternsCmpFunc_float64_l1 (a : Int) (b : Int) ((1 <<< bitsLen (b - a) : Nat) : Int) (st.2.toList, (idx : Int), (st.1.toNat : Int)) = some (.inl ((breakStep a (b - a) (1 <<< bitsLen (b - a)) st idx).2.toList, ((idx + 1 : Nat) : Int), ((breakStep a (b - a) (1 <<< bitsLen (b - a)) st idx).1.toNat : Int))) ∧ (breakStep a (b - a) (1 <<< bitsLen (b - a)) st idx).2.size = st.2.size := by
  refine ⟨?_, by unfold breakStep; simp only []; rw [size_swp]⟩
  have hn : slices_xorshift_Next (st.1.toNat : Int) = (((xorNext st.1).toNat : Int), ((xorNext st.1).toNat : Int)) := by
    have hx : st.1.toNat < 18446744073709551616 := st.1.toNat_lt
    unfold slices_xorshift_Next
    have q1 := shl64 (x := st.1.toNat) 13 8192 (by decide) (by decide)
    have q1' : shlI .u64 (st.1.toNat : Int) 13 = ((st.1.toNat * 8192 % 18446744073709551616 : Nat) : Int) := q1
    rw [q1', xor64 hx (by omega)]
    have hA : st.1.toNat ^^^ (st.1.toNat * 8192 % 18446744073709551616) < 18446744073709551616 := xorlt hx (by omega)
    rw [xorNext_toNat]
    unfold xorNextN
    simp only []
    generalize st.1.toNat ^^^ (st.1.toNat * 8192 % 18446744073709551616) = A at hA ⊢
    have q2 : shrI .u64 (A : Int) 7 = ((A / 128 : Nat) : Int) := shr64 (x := A) 7 128 (by decide) (by decide)
    rw [q2, xor64 hA (by omega)]
    have hB : A ^^^ (A / 128) < 18446744073709551616 := xorlt hA (by omega)
    generalize A ^^^ (A / 128) = B at hB ⊢
    have q3 : shlI .u64 (B : Int) 17 = ((B * 131072 % 18446744073709551616 : Nat) : Int) := shl64 (x := B) 17 131072 (by decide) (by decide)
    rw [q3, xor64 hB (by omega)]
  have e1 : w64 ((b : Int) - (a : Int)) = ((b - a : Nat) : Int) := by rw [w64_id (by omega)]; omega
  have e2 : w64 (Int.tdiv ((b - a : Nat) : Int) 4) = (((b - a) / 4 : Nat) : Int) := by rw [Int.tdiv_eq_ediv_of_nonneg (by omega), w64_id (by omega)]; omega
  have f2 : w64 ((a : Int) + w64 ((((b - a) / 4 : Nat) : Int) * 2)) = ((a + (b - a) / 4 * 2 : Nat) : Int) := by rw [w64_id (x := (((b - a) / 4 : Nat) : Int) * 2) (by omega), w64_id (by omega)]; omega
  have f3 : w64 (((a + (b - a) / 4 * 2 : Nat) : Int) + 1) = ((a + (b - a) / 4 * 2 + 1 : Nat) : Int) := by rw [w64_id (by omega)]; omega
  have hm1 : 1 ≤ 1 <<< bitsLen (b - a) := by rw [Nat.one_shiftLeft]; exact Nat.two_pow_pos _
  have hm2 : 1 <<< bitsLen (b - a) ≤ 2 * (b - a) := by rw [Nat.one_shiftLeft]; exact two_pow_bitsLen_le (by omega)
  unfold breakStep
  generalize 1 <<< bitsLen (b - a) = md at hm1 hm2 ⊢
  have hr : (xorNext st.1).toNat < 18446744073709551616 := (xorNext st.1).toNat_lt
  rw [slices_breakPatternsCmpFunc_float64_l1, e1, e2, f2, f3, if_pos (by omega), hn]
  simp only []
  rw [show ((md : Nat) : Int) - 1 = ((md - 1 : Nat) : Int) by omega, w64u (x := md - 1) (by omega), and64 hr (by omega)]
  have ho : (xorNext st.1).toNat &&& (md - 1) ≤ md - 1 := Nat.and_le_right
  generalize (xorNext st.1).toNat &&& (md - 1) = ot at ho ⊢
  rw [w64_id (x := (ot : Int)) (by omega)]
  have hpick : (if ((b - a : Nat) : Int) ≤ (ot : Int) then some (w64 ((ot : Int) - ((b - a : Nat) : Int))) else some (ot : Int)) = some (((if ot ≥ b - a then ot - (b - a) else ot : Nat)) : Int) := by
    by_cases c : ot ≥ b - a
    · rw [if_pos (by omega), if_pos c, w64_id (by omega)]; congr 1; omega
    · rw [if_neg (by omega), if_neg c]
  have hlt : (if ot ≥ b - a then ot - (b - a) else ot) < b - a := by split <;> omega
  rw [hpick, Option.bind_some]
  generalize (if ot ≥ b - a then ot - (b - a) else ot) = o2 at hlt ⊢
  rw [w64_id (x := (a : Int) + (o2 : Int)) (by omega), show (a : Int) + (o2 : Int) = ((a + o2 : Nat) : Int) by omega]
  simp only [ixA (d := st.2) (show a + o2 < st.2.size by omega), ixA (d := st.2) (show idx < st.2.size by omega), Option.bind_some, setA, ixA (show a + o2 < (st.2.setIfInBounds idx st.2[a + o2]!).size by simp; omega)]
  rw [w64_id (by omega)]; rfl
theorem fobp (d : Array Nat) (a b : Nat) (hab : a + 12 < b) (hb : b ≤ d.size) (hs : d.size ≤ 1000000000) (hnp : slices_nextPowerOfTwo ((b - a : Nat) : Int) = some ((1 <<< bitsLen (b - a) : Nat) : Int)) :
    slices_breakPatternsCmpFunc_float64 d.toList (a : Int) (b : Int) = some (breakPatterns d a b).toList ∧ (breakPatterns d a b).size = d.size := by
  unfold slices_breakPatternsCmpFunc_float64 breakPatterns
  have e1 : w64 ((b : Int) - (a : Int)) = ((b - a : Nat) : Int) := by rw [w64_id (by omega)]; omega
  have e2 : w64 (Int.tdiv ((b - a : Nat) : Int) 4) = (((b - a) / 4 : Nat) : Int) := by rw [Int.tdiv_eq_ediv_of_nonneg (by omega), w64_id (by omega)]; omega
  have f2 : w64 ((a : Int) + w64 ((((b - a) / 4 : Nat) : Int) * 2)) = ((a + (b - a) / 4 * 2 : Nat) : Int) := by rw [w64_id (x := (((b - a) / 4 : Nat) : Int) * 2) (by omega), w64_id (by omega)]; omega
  have f3 : w64 (((a + (b - a) / 4 * 2 : Nat) : Int) - 1) = ((a + (b - a) / 4 * 2 - 1 : Nat) : Int) := by rw [w64_id (by omega)]; omega
  have hr : ((UInt64.ofNat (b - a)).toNat : Int) = ((b - a : Nat) : Int) := by
    rw [UInt64.toNat_ofNat_of_lt' (by show b - a < 18446744073709551616; omega)]
  simp only [if_pos (show b - a ≥ 8 by omega)]
  rw [e1, if_pos (by omega), e2, f2, f3, hnp, Option.bind_some, w64u (x := b - a) (by omega), ← hr]
  obtain ⟨p1, q1⟩ := fobp_step hab (UInt64.ofNat (b - a), d) (a + (b - a) / 4 * 2 - 1) (by omega) (by omega) hb hs
  generalize breakStep a (b - a) (1 <<< bitsLen (b - a)) (UInt64.ofNat (b - a), d) (a + (b - a) / 4 * 2 - 1) = s1 at p1 q1 ⊢
  simp only [] at q1
  obtain ⟨p2, q2⟩ := fobp_step hab s1 (a + (b - a) / 4 * 2 - 1 + 1) (by omega) (by omega) (by omega) (by omega)
  generalize breakStep a (b - a) (1 <<< bitsLen (b - a)) s1 (a + (b - a) / 4 * 2 - 1 + 1) = s2 at p2 q2 ⊢
  obtain ⟨p3, q3⟩ := fobp_step hab s2 (a + (b - a) / 4 * 2 - 1 + 2) (by omega) (by omega) (by omega) (by omega)
  generalize breakStep a (b - a) (1 <<< bitsLen (b - a)) s2 (a + (b - a) / 4 * 2 - 1 + 2) = s3 at p3 q3 ⊢
  refine ⟨?_, by omega⟩
  have p1' : slices_breakPatternsCmpFunc_float64_l1 (a : Int) (b : Int) ((1 <<< bitsLen (b - a) : Nat) : Int) (d.toList, ((a + (b - a) / 4 * 2 - 1 : Nat) : Int), ((UInt64.ofNat (b - a)).toNat : Int)) = some (.inl (s1.2.toList, ((a + (b - a) / 4 * 2 - 1 + 1 : Nat) : Int), (s1.1.toNat : Int))) := p1
  rw [loopW_go p1', loopW_go p2, loopW_go p3]
  refine loopW_end ?_
  have f4 : w64 (((a + (b - a) / 4 * 2 : Nat) : Int) + 1) = ((a + (b - a) / 4 * 2 + 1 : Nat) : Int) := by rw [w64_id (by omega)]; omega
  rw [slices_breakPatternsCmpFunc_float64_l1, e1, e2, f2, f4, if_neg (by omega)]
end
end Go.Proofs.Ytdogfpoekndknaa
