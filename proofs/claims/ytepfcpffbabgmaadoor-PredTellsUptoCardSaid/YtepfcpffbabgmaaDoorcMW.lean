/- Layer 26: the sort's parts, second half. Conditions: none. -/
import Derived.Test.YtepfcpffbabgmaaDoorcMQ
namespace Go.Proofs.YtepfcpffbabgmaaDoor
set_option linter.unusedVariables false
set_option linter.unusedSimpArgs false
open Go Go.RowKit
section
open Go.Sort
theorem ME {p q : Int → Bool} (hq : ∀ x, q x = !p x) (d : Array Int) {i j : Nat} (hi : 0 < i) (hij : i ≤ j + 1) :
    i ≤ scanUp p d j i ∧ scanUp p d j i ≤ j + 1 ∧ scanDown q d (scanUp p d j i) j ≤ j ∧ scanUp p d j i ≤ scanDown q d (scanUp p d j i) j + 1 ∧ scanUp p d j i ≠ scanDown q d (scanUp p d j i) j := by
  obtain ⟨h1, h2, _, h4⟩ := scanUp_spec p d j _ i rfl
  obtain ⟨g1, g2, _, g4⟩ := scanDown_spec q d (scanUp p d j i) j
  refine ⟨h1, h2 hij, g1, g2 (h2 hij), fun e => ?_⟩
  have k1 := h4 (by omega)
  have k2 := g4 (by omega) (by omega)
  rw [← e, hq, k1] at k2
  cases k2
theorem QF {a : Nat} : ∀ (m i j : Nat) (d : Array Int), j + 1 - i < m → a < i → i ≤ j + 1 → j < d.size → d.size ≤ 1000000000 →
    A3 (BH (a : Int)) (d.toList, (i : Int), (j : Int)) = some (((partEqLoop AY a i j d).1 : Int), (partEqLoop AY a i j d).2.toList) ∧ (partEqLoop AY a i j d).1 ≤ j + 1 ∧ (partEqLoop AY a i j d).2.size = d.size := by
  intro m
  induction m with
  | zero => intro i j d hm; omega
  | succ m ih =>
    intro i j d hm ha hij hj hs
    have g0 := Fe (d := d) (show a < d.size by omega)
    have hup : A3 (BU (a : Int) d.toList (j : Int)) (i : Int) = some ((scanUp (fun x => !AY d[a]! x) d j i : Nat) : Int) := Mt (fun x => !AY d[a]! x) d j
      (fun i hi => by
        rw [BU, if_pos (by omega)]
        simp only [g0, Fe (d := d) (show i < d.size by omega), Option.bind_some, LZ, P6 (show i ≤ 1000000000 by omega)]
        split <;> rfl)
      (fun i hi => by rw [BU, if_neg (by omega), Option.bind_some, if_neg (by decide)]) _ i rfl
    obtain ⟨s1, s2, s3, s4, s5⟩ := ME (p := fun x => !AY d[a]! x) (q := fun x => AY d[a]! x) (fun x => by simp) d (show 0 < i by omega) hij
    rw [partEqLoop_eq]
    generalize scanUp (fun x => !AY d[a]! x) d j i = i2 at hup s1 s2 s3 s4 s5 ⊢
    have hdn : A3 (BW (a : Int) d.toList (i2 : Int)) (j : Int) = some ((scanDown (fun x => AY d[a]! x) d i2 j : Nat) : Int) := H3 (fun x => AY d[a]! x) d i2 (by omega)
      (fun j hj1 hj2 => by
        rw [BW, if_pos (by omega)]
        simp only [g0, Fe (d := d) hj2, Option.bind_some, LZ, Pu (show 0 < j by omega) (show j ≤ 1000000000 by omega)]
        split <;> rfl)
      (fun j hj1 => by rw [BW, if_neg (by omega), Option.bind_some, if_neg (by decide)]) j hj
    generalize scanDown (fun x => AY d[a]! x) d i2 j = j2 at hdn s3 s4 s5 ⊢
    by_cases c : i2 > j2
    · rw [if_pos c]
      refine ⟨Bo ?_, s2, rfl⟩
      rw [BH, hup, Option.bind_some, hdn, Option.bind_some, if_pos (by omega)]
    · rw [if_neg c]
      have hst : BH (a : Int) (d.toList, (i : Int), (j : Int)) = some (.inl ((swp d i2 j2).toList, ((i2 + 1 : Nat) : Int), ((j2 - 1 : Nat) : Int))) := by
        rw [BH, hup, Option.bind_some, hdn, Option.bind_some, if_neg (by omega)]
        simp only [Fe (d := d) (show i2 < d.size by omega), Fe (d := d) (show j2 < d.size by omega), Option.bind_some, GX, Fe (show j2 < (d.setIfInBounds i2 d[j2]!).size by simp; omega)]
        rw [AE (x := (i2 : Int) + 1) (by omega), AE (x := (j2 : Int) - 1) (by omega), show (j2 : Int) - 1 = ((j2 - 1 : Nat) : Int) by omega]; rfl
      rw [Cr hst]
      obtain ⟨h1, h2, h3⟩ := ih (i2 + 1) (j2 - 1) (swp d i2 j2) (by omega) (by omega) (by omega) (by rw [size_swp]; omega) (by rw [size_swp]; exact hs)
      exact ⟨h1, by omega, by rw [h3, size_swp]⟩
theorem R1 (d : Array Int) (a b p : Nat) (h1 : a ≤ p) (h2 : p < b) (hb : b ≤ d.size) (hs : d.size ≤ 1000000000) (hab : a + 1 < b) :
    B8 d.toList (a : Int) (b : Int) (p : Int) = some (((partitionEqual AY d a b p).1 : Int), (partitionEqual AY d a b p).2.toList) := by
  unfold B8 partitionEqual
  rw [Fe (d := d) (show p < d.size by omega), Option.bind_some, Fe (d := d) (show a < d.size by omega), Option.bind_some, Option.bind_some, GX, Fe (by simp; omega), Option.bind_some, GX]
  show (A3 _ ((swp d a p).toList, _, _)).bind _ = _
  rw [AE (x := (a : Int) + 1) (by omega), AE (x := (b : Int) - 1) (by omega), show (a : Int) + 1 = ((a + 1 : Nat) : Int) by omega, show (b : Int) - 1 = ((b - 1 : Nat) : Int) by omega,
    (QF _ (a + 1) (b - 1) (swp d a p) (Nat.lt_succ_self _) (by omega) (by omega) (by rw [size_swp]; omega) (by rw [size_swp]; exact hs)).1, Option.bind_some]
theorem PE {a : Nat} : ∀ (m i j : Nat) (d : Array Int), j + 1 - i < m → a < i → i ≤ j + 1 → j < d.size → d.size ≤ 1000000000 →
    A3 (BK (a : Int)) (d.toList, (i : Int), (j : Int)) = some ((partLoop AY a i j d).2.toList, ((partLoop AY a i j d).1 : Int)) ∧ (partLoop AY a i j d).1 ≤ j ∧ (partLoop AY a i j d).2.size = d.size := by
  intro m
  induction m with
  | zero => intro i j d hm; omega
  | succ m ih =>
    intro i j d hm ha hij hj hs
    have g0 := Fe (d := d) (show a < d.size by omega)
    have hup : A3 (Cg (a : Int) d.toList (j : Int)) (i : Int) = some ((scanUp (fun x => AY x d[a]!) d j i : Nat) : Int) := Mt (fun x => AY x d[a]!) d j
      (fun i hi => by
        rw [Cg, if_pos (by omega)]
        simp only [g0, Fe (d := d) (show i < d.size by omega), Option.bind_some, LZ, P6 (show i ≤ 1000000000 by omega)]
        split <;> rfl)
      (fun i hi => by rw [Cg, if_neg (by omega), Option.bind_some, if_neg (by decide)]) _ i rfl
    obtain ⟨s1, s2, s3, s4, s5⟩ := ME (p := fun x => AY x d[a]!) (q := fun x => !AY x d[a]!) (fun x => rfl) d (show 0 < i by omega) hij
    rw [partLoop_eq]
    generalize scanUp (fun x => AY x d[a]!) d j i = i2 at hup s1 s2 s3 s4 s5 ⊢
    have hdn : A3 (Ci (a : Int) d.toList (i2 : Int)) (j : Int) = some ((scanDown (fun x => !AY x d[a]!) d i2 j : Nat) : Int) := H3 (fun x => !AY x d[a]!) d i2 (by omega)
      (fun j hj1 hj2 => by
        rw [Ci, if_pos (by omega)]
        simp only [g0, Fe (d := d) hj2, Option.bind_some, LZ, Pu (show 0 < j by omega) (show j ≤ 1000000000 by omega)]
        split <;> rfl)
      (fun j hj1 => by rw [Ci, if_neg (by omega), Option.bind_some, if_neg (by decide)]) j hj
    generalize scanDown (fun x => !AY x d[a]!) d i2 j = j2 at hdn s3 s4 s5 ⊢
    by_cases c : i2 > j2
    · rw [if_pos c]
      refine ⟨Bo ?_, s3, rfl⟩
      rw [BK, hup, Option.bind_some, hdn, Option.bind_some, if_pos (by omega)]
    · rw [if_neg c]
      have hst : BK (a : Int) (d.toList, (i : Int), (j : Int)) = some (.inl ((swp d i2 j2).toList, ((i2 + 1 : Nat) : Int), ((j2 - 1 : Nat) : Int))) := by
        rw [BK, hup, Option.bind_some, hdn, Option.bind_some, if_neg (by omega)]
        simp only [Fe (d := d) (show i2 < d.size by omega), Fe (d := d) (show j2 < d.size by omega), Option.bind_some, GX, Fe (show j2 < (d.setIfInBounds i2 d[j2]!).size by simp; omega)]
        rw [AE (x := (i2 : Int) + 1) (by omega), AE (x := (j2 : Int) - 1) (by omega), show (j2 : Int) - 1 = ((j2 - 1 : Nat) : Int) by omega]; rfl
      rw [Cr hst]
      obtain ⟨h1, h2, h3⟩ := ih (i2 + 1) (j2 - 1) (swp d i2 j2) (by omega) (by omega) (by omega) (by rw [size_swp]; omega) (by rw [size_swp]; exact hs)
      exact ⟨h1, by omega, by rw [h3, size_swp]⟩
theorem Rj (d : Array Int) (a b p : Nat) (h1 : a ≤ p) (h2 : p < b) (hb : b ≤ d.size) (hs : d.size ≤ 1000000000) (hab : a + 1 < b) :
    CA d.toList (a : Int) (b : Int) (p : Int) = some (((partition AY d a b p).1 : Int), (partition AY d a b p).2.1, (partition AY d a b p).2.2.toList) := by
  unfold CA partition
  rw [Fe (d := d) (show p < d.size by omega), Option.bind_some, Fe (d := d) (show a < d.size by omega), Option.bind_some, Option.bind_some, GX, Fe (by simp; omega), Option.bind_some, GX]
  have hL : Bd (Bd d.toList (a : Int) d[p]!) (p : Int) d[a]! = (swp d a p).toList := by rw [GX, GX]; rfl
  show (A3 (B0 d.toList (a : Int) (b : Int) (p : Int) d[p]! d[a]!) _).bind _ = _
  have eD : ((d.setIfInBounds a d[p]!).setIfInBounds p d[a]!).toList = (swp d a p).toList := rfl
  rw [eD]
  have hz := size_swp d a p
  generalize swp d a p = D at hL hz ⊢
  have g0 := Fe (d := D) (show a < D.size by omega)
  have ea : A1 ((a : Int) + 1) = ((a + 1 : Nat) : Int) := by rw [AE (by omega)]; omega
  have eb : A1 ((b : Int) - 1) = ((b - 1 : Nat) : Int) := by rw [AE (by omega)]; omega
  have hup : A3 (B0 d.toList (a : Int) (b : Int) (p : Int) d[p]! d[a]!) ((a + 1 : Nat) : Int) = some ((scanUp (fun x => AY x D[a]!) D (b - 1) (a + 1) : Nat) : Int) := Mt (fun x => AY x D[a]!) D (b - 1)
    (fun i hi => by
      rw [B0, hL, eb, if_pos (by omega)]
      simp only [g0, Fe (d := D) (show i < D.size by omega), Option.bind_some, LZ, P6 (show i ≤ 1000000000 by omega)]
      split <;> rfl)
    (fun i hi => by rw [B0, eb, if_neg (by omega), Option.bind_some, if_neg (by decide)]) _ (a + 1) rfl
  obtain ⟨s1, s2, s3, s4, s5⟩ := ME (p := fun x => AY x D[a]!) (q := fun x => !AY x D[a]!) (fun x => rfl) D (show 0 < a + 1 by omega) (show a + 1 ≤ b - 1 + 1 by omega)
  rw [ea, hup, Option.bind_some]
  simp only []
  generalize scanUp (fun x => AY x D[a]!) D (b - 1) (a + 1) = i2 at hup s1 s2 s3 s4 s5 ⊢
  have hdn : A3 (Ch d.toList (a : Int) (p : Int) d[p]! d[a]! (i2 : Int)) ((b - 1 : Nat) : Int) = some ((scanDown (fun x => !AY x D[a]!) D i2 (b - 1) : Nat) : Int) := H3 (fun x => !AY x D[a]!) D i2 (by omega)
    (fun j hj1 hj2 => by
      rw [Ch, hL, if_pos (by omega)]
      simp only [g0, Fe (d := D) hj2, Option.bind_some, LZ, Pu (show 0 < j by omega) (show j ≤ 1000000000 by omega)]
      split <;> rfl)
    (fun j hj1 => by rw [Ch, if_neg (by omega), Option.bind_some, if_neg (by decide)]) (b - 1) (by omega)
  rw [eb, hdn, Option.bind_some]
  generalize scanDown (fun x => !AY x D[a]!) D i2 (b - 1) = j2 at hdn s3 s4 s5 ⊢
  by_cases c : i2 > j2
  · rw [if_pos (show (j2 : Int) < (i2 : Int) by omega), if_pos c]
    simp only [g0, Fe (d := D) (show j2 < D.size by omega), Option.bind_some, GX, Fe (show a < (D.setIfInBounds j2 D[a]!).size by simp; omega)]
    rfl
  · rw [if_neg (show ¬ (j2 : Int) < (i2 : Int) by omega), if_neg c]
    simp only [Fe (d := D) (show i2 < D.size by omega), Fe (d := D) (show j2 < D.size by omega), Option.bind_some, GX, Fe (show j2 < (D.setIfInBounds i2 D[j2]!).size by simp; omega)]
    show (A3 (BK (a : Int)) ((swp D i2 j2).toList, _, _)).bind _ = _
    have hz2 := size_swp D i2 j2
    obtain ⟨k1, k2, k3⟩ := PE (a := a) _ (i2 + 1) (j2 - 1) (swp D i2 j2) (Nat.lt_succ_self _) (by omega) (by omega) (by omega) (by omega)
    rw [AE (x := (i2 : Int) + 1) (by omega), AE (x := (j2 : Int) - 1) (by omega), show (i2 : Int) + 1 = ((i2 + 1 : Nat) : Int) by omega, show (j2 : Int) - 1 = ((j2 - 1 : Nat) : Int) by omega, k1, Option.bind_some]
    generalize partLoop AY a (i2 + 1) (j2 - 1) (swp D i2 j2) = r at k2 k3 ⊢
    simp only [Fe (d := r.2) (show a < r.2.size by omega), Fe (d := r.2) (show r.1 < r.2.size by omega), Option.bind_some, GX, Fe (show a < (r.2.setIfInBounds r.1 r.2[a]!).size by simp; omega)]
    rfl
theorem Q4 : ∀ (j : Nat) (d : Array Int), j < d.size → d.size ≤ 1000000000 → A3 A0 (d.toList, (j : Int)) = some (shiftDown AY j d).toList ∧ (shiftDown AY j d).size = d.size
  | 0, d, hj, hs => ⟨Bo (by rw [A0, if_neg (by omega)]; rfl), rfl⟩
  | j + 1, d, hj, hs => by
    have e1 : A1 (((j + 1 : Nat) : Int) - 1) = (j : Int) := by rw [AE (by omega)]; omega
    have h1 := Fe (d := d) hj
    have h0 := Fe (d := d) (show j < d.size by omega)
    rw [shiftDown]
    by_cases c : AY d[j + 1]! d[j]! = true
    · rw [if_neg (by rw [c]; decide)]
      have hst : A0 (d.toList, ((j + 1 : Nat) : Int)) = some (.inl ((swp d (j + 1) j).toList, (j : Int))) := by
        rw [A0, if_pos (by omega), e1]
        simp only [h1, h0, Option.bind_some, LZ, c, Bool.not_true, Bool.false_eq_true, if_false, GX, Fe (show j < (d.setIfInBounds (j + 1) d[j]!).size by simp; omega)]
        rfl
      rw [Cr hst]
      obtain ⟨k1, k2⟩ := Q4 j (swp d (j + 1) j) (by rw [size_swp]; omega) (by rw [size_swp]; exact hs)
      exact ⟨k1, by rw [k2, size_swp]⟩
    · rw [if_pos (by simpa using c)]
      refine ⟨Bo ?_, rfl⟩
      rw [A0, if_pos (by omega), e1]
      simp only [h1, h0, Option.bind_some, LZ, c, Bool.not_false, if_true]
theorem Rz {b : Nat} (x7 : Int) : ∀ (m j : Nat) (d : Array Int), b - j = m → 0 < j → b ≤ d.size → d.size ≤ 1000000000 → A3 (Ba (b : Int) x7) (d.toList, (j : Int)) = some (.inl ((shiftUp AY b j d).toList, x7)) ∧ (shiftUp AY b j d).size = d.size := by
  intro m
  induction m with
  | zero =>
    intro j d hm h0 hb hs
    rw [shiftUp, if_neg (by omega)]
    exact ⟨Bo (by rw [Ba, if_neg (by omega)]), rfl⟩
  | succ m ih =>
    intro j d hm h0 hb hs
    have e1 : A1 ((j : Int) - 1) = ((j - 1 : Nat) : Int) := by rw [AE (by omega)]; omega
    have e2 : A1 ((j : Int) + 1) = ((j + 1 : Nat) : Int) := by rw [AE (by omega)]; omega
    have g1 := Fe (d := d) (show j < d.size by omega)
    have g0 := Fe (d := d) (show j - 1 < d.size by omega)
    rw [shiftUp, if_pos (by omega)]
    by_cases c : AY d[j]! d[j - 1]! = true
    · rw [if_neg (by rw [c]; decide)]
      have hst : Ba (b : Int) x7 (d.toList, (j : Int)) = some (.inl ((swp d j (j - 1)).toList, ((j + 1 : Nat) : Int))) := by
        rw [Ba, if_pos (by omega), e1, e2]
        simp only [g1, g0, Option.bind_some, LZ, c, Bool.not_true, Bool.false_eq_true, if_false, GX, Fe (show j - 1 < (d.setIfInBounds j d[j - 1]!).size by simp; omega)]
        rfl
      rw [Cr hst]
      obtain ⟨k1, k2⟩ := ih (j + 1) (swp d j (j - 1)) (by omega) (by omega) (by rw [size_swp]; exact hb) (by rw [size_swp]; exact hs)
      exact ⟨k1, by rw [k2, size_swp]⟩
    · rw [if_pos (by simpa using c)]
      refine ⟨Bo ?_, rfl⟩
      rw [Ba, if_pos (by omega), e1, e2]
      simp only [g1, g0, Option.bind_some, LZ, c, Bool.not_false, if_true]
theorem QD {a b : Nat} (hab : a + 1 < b) : ∀ (s i : Nat) (d : Array Int), s ≤ 5 → a < i → i ≤ b → b ≤ d.size → d.size ≤ 1000000000 →
    IX (A3 (A9 (a : Int) (b : Int)) (d.toList, (i : Int), ((5 - s : Nat) : Int))) (fun x1 => some (false, x1)) = some ((partialIns AY a b s i d).2, (partialIns AY a b s i d).1.toList) ∧ (partialIns AY a b s i d).1.size = d.size := by
  intro s
  induction s with
  | zero =>
    intro i d _ _ _ _ _
    exact ⟨by rw [Bo (by rw [A9, if_neg (by omega)])]; rfl, rfl⟩
  | succ s ih =>
    intro i d h5 ha hib hb hs
    have hsc : A3 (BE (b : Int) d.toList) (i : Int) = some ((scanSorted AY d b i : Nat) : Int) ∧ i ≤ scanSorted AY d b i ∧ (i ≤ b → scanSorted AY d b i ≤ b) := Nv AY d b
      (fun i h0 hi => by
        rw [BE, if_pos (by omega)]
        simp only [Pu (show 0 < i by omega) (show i ≤ 1000000000 by omega), Fe (d := d) (show i < d.size by omega), Fe (d := d) (show i - 1 < d.size by omega), Option.bind_some, LZ, P6 (show i ≤ 1000000000 by omega)]
        split <;> rfl)
      (fun i hi => by rw [BE, if_neg (by omega), Option.bind_some, if_neg (by decide)]) _ i rfl (by omega)
    rw [partialIns_succ]
    generalize scanSorted AY d b i = i2 at hsc ⊢
    obtain ⟨k1, k2, k3⟩ := hsc
    have k3 := k3 hib
    have e1 : A1 ((b : Int) - (a : Int)) = ((b - a : Nat) : Int) := by rw [AE (by omega)]; omega
    by_cases c1 : i2 = b
    · rw [if_pos c1]
      refine ⟨?_, rfl⟩
      rw [Bo (by rw [A9, if_pos (by omega), k1, Option.bind_some, if_pos (by omega)]; rfl)]; rfl
    · rw [if_neg c1]
      by_cases c2 : b - a < 50
      · rw [if_pos c2]
        refine ⟨?_, rfl⟩
        rw [Bo (by rw [A9, if_pos (by omega), k1, Option.bind_some, if_neg (by omega), e1, if_pos (by omega)]; rfl)]; rfl
      · rw [if_neg c2]
        have e2 : A1 ((i2 : Int) - 1) = ((i2 - 1 : Nat) : Int) := by rw [AE (by omega)]; omega
        have e3 : A1 ((i2 : Int) - (a : Int)) = ((i2 - a : Nat) : Int) := by rw [AE (by omega)]; omega
        have e4 : A1 ((b : Int) - (i2 : Int)) = ((b - i2 : Nat) : Int) := by rw [AE (by omega)]; omega
        have e5 : A1 ((i2 : Int) + 1) = ((i2 + 1 : Nat) : Int) := by rw [AE (by omega)]; omega
        have z1 := size_swp d i2 (i2 - 1)
        have hD : (if (2 : Int) ≤ ((i2 - a : Nat) : Int) then A3 A0 ((swp d i2 (i2 - 1)).toList, ((i2 - 1 : Nat) : Int)) else some (swp d i2 (i2 - 1)).toList) = some (fixDown AY a i2 (swp d i2 (i2 - 1))).toList ∧ (fixDown AY a i2 (swp d i2 (i2 - 1))).size = d.size := by
          unfold fixDown
          by_cases c : i2 - a ≥ 2
          · rw [if_pos (by omega), if_pos c]
            obtain ⟨q1, q2⟩ := Q4 (i2 - 1) (swp d i2 (i2 - 1)) (by omega) (by omega)
            exact ⟨q1, by rw [q2, z1]⟩
          · rw [if_neg (by omega), if_neg c]; exact ⟨rfl, z1⟩
        generalize fixDown AY a i2 (swp d i2 (i2 - 1)) = D at hD ⊢
        obtain ⟨hD1, hD2⟩ := hD
        have hU : (if (2 : Int) ≤ ((b - i2 : Nat) : Int) then A3 (Ba (b : Int) (i2 : Int)) (D.toList, ((i2 + 1 : Nat) : Int)) else some (.inl (D.toList, (i2 : Int)))) = some (.inl ((fixUp AY b i2 D).toList, (i2 : Int))) ∧ (fixUp AY b i2 D).size = d.size := by
          unfold fixUp
          by_cases c : b - i2 ≥ 2
          · rw [if_pos (by omega), if_pos c]
            obtain ⟨q1, q2⟩ := Rz (b := b) (i2 : Int) _ (i2 + 1) D rfl (by omega) (by omega) (by omega)
            exact ⟨q1, by rw [q2, hD2]⟩
          · rw [if_neg (by omega), if_neg c]; exact ⟨rfl, hD2⟩
        generalize fixUp AY b i2 D = U at hU ⊢
        obtain ⟨hU1, hU2⟩ := hU
        have hst : A9 (a : Int) (b : Int) (d.toList, (i : Int), ((5 - (s + 1) : Nat) : Int)) = some (.inl (U.toList, (i2 : Int), ((5 - s : Nat) : Int))) := by
          rw [A9, if_pos (by omega), k1, Option.bind_some, if_neg (by omega), e1, if_neg (by omega), e2, e3, e4, e5]
          simp only [Fe (d := d) (show i2 < d.size by omega), Fe (d := d) (show i2 - 1 < d.size by omega), Option.bind_some, GX, Fe (show i2 - 1 < (d.setIfInBounds i2 d[i2 - 1]!).size by simp; omega)]
          show IX ((if (2 : Int) ≤ ((i2 - a : Nat) : Int) then A3 A0 ((swp d i2 (i2 - 1)).toList, ((i2 - 1 : Nat) : Int)) else some (swp d i2 (i2 - 1)).toList).bind _) _ = _
          rw [hD1, Option.bind_some, hU1]
          show some (Sum.inl (U.toList, (i2 : Int), A1 (((5 - (s + 1) : Nat) : Int) + 1))) = _
          rw [AE (by omega), show ((5 - (s + 1) : Nat) : Int) + 1 = ((5 - s : Nat) : Int) by omega]
        rw [Cr hst]
        obtain ⟨r1, r2⟩ := ih i2 U (by omega) (by omega) k3 (by omega) (by omega)
        exact ⟨r1, by rw [r2, hU2]⟩
theorem RS (d : Array Int) (a b : Nat) (hab : a + 1 < b) (hb : b ≤ d.size) (hs : d.size ≤ 1000000000) :
    Bv d.toList (a : Int) (b : Int) = some ((partialInsertionSort AY d a b).2, (partialInsertionSort AY d a b).1.toList) ∧ (partialInsertionSort AY d a b).1.size = d.size := by
  unfold Bv partialInsertionSort
  rw [AE (by omega), show (a : Int) + 1 = ((a + 1 : Nat) : Int) by omega]
  exact QD hab 5 (a + 1) d (by omega) (by omega) (by omega) hb hs
theorem Jr {a b : Nat} (hab : a + 12 < b) (st : UInt64 × Array Int) (idx : Nat) (h1 : a ≤ idx) (h2 : idx ≤ a + (b - a) / 4 * 2 + 1) (hb : b ≤ st.2.size) (hs : st.2.size ≤ 1000000000) :
    BL (a : Int) (b : Int) ((1 <<< bitsLen (b - a) : Nat) : Int) (st.2.toList, (idx : Int), (st.1.toNat : Int)) = some (.inl ((breakStep a (b - a) (1 <<< bitsLen (b - a)) st idx).2.toList, ((idx + 1 : Nat) : Int), ((breakStep a (b - a) (1 <<< bitsLen (b - a)) st idx).1.toNat : Int))) ∧ (breakStep a (b - a) (1 <<< bitsLen (b - a)) st idx).2.size = st.2.size := by
  refine ⟨?_, by unfold breakStep; simp only []; rw [size_swp]⟩
  have hn : BF (st.1.toNat : Int) = (((xorNext st.1).toNat : Int), ((xorNext st.1).toNat : Int)) := by
    have hx : st.1.toNat < 18446744073709551616 := st.1.toNat_lt
    unfold BF
    have q1 := Qa (x := st.1.toNat) 13 8192 (by decide) (by decide)
    have q1' : DP .u64 (st.1.toNat : Int) 13 = ((st.1.toNat * 8192 % 18446744073709551616 : Nat) : Int) := q1
    rw [q1', PM hx (by omega)]
    have hA : st.1.toNat ^^^ (st.1.toNat * 8192 % 18446744073709551616) < 18446744073709551616 := QZ hx (by omega)
    rw [xorNext_toNat]
    unfold xorNextN
    simp only []
    generalize st.1.toNat ^^^ (st.1.toNat * 8192 % 18446744073709551616) = A at hA ⊢
    have q2 : FU .u64 (A : Int) 7 = ((A / 128 : Nat) : Int) := PW (x := A) 7 128 (by decide) (by decide)
    rw [q2, PM hA (by omega)]
    have hB : A ^^^ (A / 128) < 18446744073709551616 := QZ hA (by omega)
    generalize A ^^^ (A / 128) = B at hB ⊢
    have q3 : DP .u64 (B : Int) 17 = ((B * 131072 % 18446744073709551616 : Nat) : Int) := Qa (x := B) 17 131072 (by decide) (by decide)
    rw [q3, PM hB (by omega)]
  have e1 : A1 ((b : Int) - (a : Int)) = ((b - a : Nat) : Int) := by rw [AE (by omega)]; omega
  have e2 : A1 (Int.tdiv ((b - a : Nat) : Int) 4) = (((b - a) / 4 : Nat) : Int) := by rw [Int.tdiv_eq_ediv_of_nonneg (by omega), AE (by omega)]; omega
  have f2 : A1 ((a : Int) + A1 ((((b - a) / 4 : Nat) : Int) * 2)) = ((a + (b - a) / 4 * 2 : Nat) : Int) := by rw [AE (x := (((b - a) / 4 : Nat) : Int) * 2) (by omega), AE (by omega)]; omega
  have f3 : A1 (((a + (b - a) / 4 * 2 : Nat) : Int) + 1) = ((a + (b - a) / 4 * 2 + 1 : Nat) : Int) := by rw [AE (by omega)]; omega
  have hm1 : 1 ≤ 1 <<< bitsLen (b - a) := by rw [Nat.one_shiftLeft]; exact Nat.two_pow_pos _
  have hm2 : 1 <<< bitsLen (b - a) ≤ 2 * (b - a) := by rw [Nat.one_shiftLeft]; exact two_pow_bitsLen_le (by omega)
  unfold breakStep
  generalize 1 <<< bitsLen (b - a) = md at hm1 hm2 ⊢
  have hr : (xorNext st.1).toNat < 18446744073709551616 := (xorNext st.1).toNat_lt
  rw [BL, e1, e2, f2, f3, if_pos (by omega), hn]
  simp only []
  rw [show ((md : Nat) : Int) - 1 = ((md - 1 : Nat) : Int) by omega, PB (x := md - 1) (by omega), RW hr (by omega)]
  have ho : (xorNext st.1).toNat &&& (md - 1) ≤ md - 1 := Nat.and_le_right
  generalize (xorNext st.1).toNat &&& (md - 1) = ot at ho ⊢
  rw [AE (x := (ot : Int)) (by omega)]
  have hpick : (if ((b - a : Nat) : Int) ≤ (ot : Int) then some (A1 ((ot : Int) - ((b - a : Nat) : Int))) else some (ot : Int)) = some (((if ot ≥ b - a then ot - (b - a) else ot : Nat)) : Int) := by
    by_cases c : ot ≥ b - a
    · rw [if_pos (by omega), if_pos c, AE (by omega)]; congr 1; omega
    · rw [if_neg (by omega), if_neg c]
  have hlt : (if ot ≥ b - a then ot - (b - a) else ot) < b - a := by split <;> omega
  rw [hpick, Option.bind_some]
  generalize (if ot ≥ b - a then ot - (b - a) else ot) = o2 at hlt ⊢
  rw [AE (x := (a : Int) + (o2 : Int)) (by omega), show (a : Int) + (o2 : Int) = ((a + o2 : Nat) : Int) by omega]
  simp only [Fe (d := st.2) (show a + o2 < st.2.size by omega), Fe (d := st.2) (show idx < st.2.size by omega), Option.bind_some, GX, Fe (show a + o2 < (st.2.setIfInBounds idx st.2[a + o2]!).size by simp; omega)]
  rw [AE (by omega)]; rfl
theorem St (d : Array Int) (a b : Nat) (hab : a + 12 < b) (hb : b ≤ d.size) (hs : d.size ≤ 1000000000) (hnp : CO ((b - a : Nat) : Int) = some ((1 <<< bitsLen (b - a) : Nat) : Int)) :
    BT d.toList (a : Int) (b : Int) = some (breakPatterns d a b).toList ∧ (breakPatterns d a b).size = d.size := by
  unfold BT breakPatterns
  have e1 : A1 ((b : Int) - (a : Int)) = ((b - a : Nat) : Int) := by rw [AE (by omega)]; omega
  have e2 : A1 (Int.tdiv ((b - a : Nat) : Int) 4) = (((b - a) / 4 : Nat) : Int) := by rw [Int.tdiv_eq_ediv_of_nonneg (by omega), AE (by omega)]; omega
  have f2 : A1 ((a : Int) + A1 ((((b - a) / 4 : Nat) : Int) * 2)) = ((a + (b - a) / 4 * 2 : Nat) : Int) := by rw [AE (x := (((b - a) / 4 : Nat) : Int) * 2) (by omega), AE (by omega)]; omega
  have f3 : A1 (((a + (b - a) / 4 * 2 : Nat) : Int) - 1) = ((a + (b - a) / 4 * 2 - 1 : Nat) : Int) := by rw [AE (by omega)]; omega
  have hr : ((UInt64.ofNat (b - a)).toNat : Int) = ((b - a : Nat) : Int) := by
    rw [UInt64.toNat_ofNat_of_lt' (by show b - a < 18446744073709551616; omega)]
  simp only [if_pos (show b - a ≥ 8 by omega)]
  rw [e1, if_pos (by omega), e2, f2, f3, hnp, Option.bind_some, PB (x := b - a) (by omega), ← hr]
  obtain ⟨p1, q1⟩ := Jr hab (UInt64.ofNat (b - a), d) (a + (b - a) / 4 * 2 - 1) (by omega) (by omega) hb hs
  generalize breakStep a (b - a) (1 <<< bitsLen (b - a)) (UInt64.ofNat (b - a), d) (a + (b - a) / 4 * 2 - 1) = s1 at p1 q1 ⊢
  simp only [] at q1
  obtain ⟨p2, q2⟩ := Jr hab s1 (a + (b - a) / 4 * 2 - 1 + 1) (by omega) (by omega) (by omega) (by omega)
  generalize breakStep a (b - a) (1 <<< bitsLen (b - a)) s1 (a + (b - a) / 4 * 2 - 1 + 1) = s2 at p2 q2 ⊢
  obtain ⟨p3, q3⟩ := Jr hab s2 (a + (b - a) / 4 * 2 - 1 + 2) (by omega) (by omega) (by omega) (by omega)
  generalize breakStep a (b - a) (1 <<< bitsLen (b - a)) s2 (a + (b - a) / 4 * 2 - 1 + 2) = s3 at p3 q3 ⊢
  refine ⟨?_, by omega⟩
  have p1' : BL (a : Int) (b : Int) ((1 <<< bitsLen (b - a) : Nat) : Int) (d.toList, ((a + (b - a) / 4 * 2 - 1 : Nat) : Int), ((UInt64.ofNat (b - a)).toNat : Int)) = some (.inl (s1.2.toList, ((a + (b - a) / 4 * 2 - 1 + 1 : Nat) : Int), (s1.1.toNat : Int))) := p1
  rw [Cr p1', Cr p2, Cr p3]
  refine Bo ?_
  have f4 : A1 (((a + (b - a) / 4 * 2 : Nat) : Int) + 1) = ((a + (b - a) / 4 * 2 + 1 : Nat) : Int) := by rw [AE (by omega)]; omega
  rw [BL, e1, e2, f2, f4, if_neg (by omega)]
end
end Go.Proofs.YtepfcpffbabgmaaDoor
