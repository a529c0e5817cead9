/- Layer 31: the sort's parts, second half. Conditions: none. -/
import Derived.Test.YtkhiflmalgkjiaaGreatfMQ
set_option linter.unusedVariables false
set_option linter.unusedSimpArgs false
open Go Go.RowKit
namespace Go.Proofs.YtkhiflmalgkjiaaGreat
section
open Go.Sort
theorem Vp {p q : (Int × Int × Int × Int × Int) → Bool} (hq : ∀ x,q x = !p x) (d : Array (Int × Int × Int × Int × Int)) {i j : Nat} (hi : 0 < i) (hij : i ≤ j + 1) :
    i ≤ scanUp p d j i ∧ scanUp p d j i ≤ j + 1 ∧ scanDown q d (scanUp p d j i) j ≤ j ∧ scanUp p d j i ≤ scanDown q d (scanUp p d j i) j + 1 ∧ scanUp p d j i ≠ scanDown q d (scanUp p d j i) j := by
  obtain ⟨h1,h2,_,h4⟩ := scanUp_spec p d j _ i rfl
  obtain ⟨g1,g2,_,g4⟩ := scanDown_spec q d (scanUp p d j i) j
  refine ⟨h1,h2 hij,g1,g2 (h2 hij),fun e => ?_⟩
  have k1 := h4 (by omega)
  have k2 := g4 (by omega) (by omega)
  rw [← e,hq,k1] at k2
  cases k2
theorem lQ {a : Nat} : ∀ (m i j : Nat) (d : Array (Int × Int × Int × Int × Int)),j + 1 - i < m → a < i → i ≤ j + 1 → j < d.size → d.size ≤ 1000000000 →
    Aj (BA (a : Int)) (d.toList,(i : Int),(j : Int)) = some (((partEqLoop AB a i j d).1 : Int),(partEqLoop AB a i j d).2.toList) ∧ (partEqLoop AB a i j d).1 ≤ j + 1 ∧ (partEqLoop AB a i j d).2.size = d.size := by
  intro m
  induction m with
  | zero => intro i j d hm; omega
  | succ m ih =>
    intro i j d hm ha hij hj hs
    have g0 := Hd (d := d) (show a < d.size by omega)
    have hup : Aj (Cc (a : Int) d.toList (j : Int)) (i : Int) = some ((scanUp (fun x => !AB d[a]! x) d j i : Nat) : Int) := Vy (fun x => !AB d[a]! x) d j
      (fun i hi => by
        rw [Cc,if_pos (by omega)]
        simp only [g0,Hd (d := d) (show i < d.size by omega),za,HE,TW,Bool.decide_eq_true,fJ (show i ≤ 1000000000 by omega)]
        split <;> rfl)
      (fun i hi => by rw [Cc,if_neg (by omega),za,if_neg (by decide)]) _ i rfl
    obtain ⟨s1,s2,s3,s4,s5⟩ := Vp (p := fun x => !AB d[a]! x) (q := fun x => AB d[a]! x) (fun x => by simp) d (show 0 < i by omega) hij
    rw [partEqLoop_eq]
    generalize scanUp (fun x => !AB d[a]! x) d j i = i2 at hup s1 s2 s3 s4 s5 ⊢
    have hdn : Aj (Cb (a : Int) d.toList (i2 : Int)) (j : Int) = some ((scanDown (fun x => AB d[a]! x) d i2 j : Nat) : Int) := Nb (fun x => AB d[a]! x) d i2 (by omega)
      (fun j hj1 hj2 => by
        rw [Cb,if_pos (by omega)]
        simp only [g0,Hd (d := d) hj2,za,HE,TW,Bool.decide_eq_true,dJ (show 0 < j by omega) (show j ≤ 1000000000 by omega)]
        split <;> rfl)
      (fun j hj1 => by rw [Cb,if_neg (by omega),za,if_neg (by decide)]) j hj
    generalize scanDown (fun x => AB d[a]! x) d i2 j = j2 at hdn s3 s4 s5 ⊢
    by_cases c : i2 > j2
    · rw [if_pos c]
      refine ⟨Ap ?_,s2,rfl⟩
      rw [BA,hup,za,hdn,za,if_pos (by omega)]
    · rw [if_neg c]
      have hst : BA (a : Int) (d.toList,(i : Int),(j : Int)) = some (.inl ((swp d i2 j2).toList,((i2 + 1 : Nat) : Int),((j2 - 1 : Nat) : Int))) := by
        rw [BA,hup,za,hdn,za,if_neg (by omega)]
        simp only [Hd (d := d) (show i2 < d.size by omega),Hd (d := d) (show j2 < d.size by omega),za,Lm,Hd (show j2 < (d.setIfInBounds i2 d[j2]!).size by simp; omega)]
        rw [Ah (x := (i2 : Int) + 1) (by omega),Ah (x := (j2 : Int) - 1) (by omega),show (j2 : Int) - 1 = ((j2 - 1 : Nat) : Int) by omega]; rfl
      rw [Bi hst]
      obtain ⟨h1,h2,h3⟩ := ih (i2 + 1) (j2 - 1) (swp d i2 j2) (by omega) (by omega) (by omega) (by rw [size_swp]; omega) (by rw [size_swp]; exact hs)
      exact ⟨h1,by omega,by rw [h3,size_swp]⟩
theorem wH (d : Array (Int × Int × Int × Int × Int)) (a b p : Nat) (h1 : a ≤ p) (h2 : p < b) (hb : b ≤ d.size) (hs : d.size ≤ 1000000000) (hab : a + 1 < b) :
    Bl d.toList (a : Int) (b : Int) (p : Int) = some (((partitionEqual AB d a b p).1 : Int),(partitionEqual AB d a b p).2.toList) := by
  unfold Bl partitionEqual
  rw [Hd (d := d) (show p < d.size by omega),za,Hd (d := d) (show a < d.size by omega),za,za,Lm,Hd (by simp; omega),za,Lm]
  show (Aj _ ((swp d a p).toList,_,_)).bind _ = _
  rw [Ah (x := (a : Int) + 1) (by omega),Ah (x := (b : Int) - 1) (by omega),show (a : Int) + 1 = ((a + 1 : Nat) : Int) by omega,show (b : Int) - 1 = ((b - 1 : Nat) : Int) by omega,
    (lQ _ (a + 1) (b - 1) (swp d a p) (Nat.lt_succ_self _) (by omega) (by omega) (by rw [size_swp]; omega) (by rw [size_swp]; exact hs)).1,za]
theorem gP {a : Nat} : ∀ (m i j : Nat) (d : Array (Int × Int × Int × Int × Int)),j + 1 - i < m → a < i → i ≤ j + 1 → j < d.size → d.size ≤ 1000000000 →
    Aj (Bz (a : Int)) (d.toList,(i : Int),(j : Int)) = some ((partLoop AB a i j d).2.toList,((partLoop AB a i j d).1 : Int)) ∧ (partLoop AB a i j d).1 ≤ j ∧ (partLoop AB a i j d).2.size = d.size := by
  intro m
  induction m with
  | zero => intro i j d hm; omega
  | succ m ih =>
    intro i j d hm ha hij hj hs
    have g0 := Hd (d := d) (show a < d.size by omega)
    have hup : Aj (Cu (a : Int) d.toList (j : Int)) (i : Int) = some ((scanUp (fun x => AB x d[a]!) d j i : Nat) : Int) := Vy (fun x => AB x d[a]!) d j
      (fun i hi => by
        rw [Cu,if_pos (by omega)]
        simp only [g0,Hd (d := d) (show i < d.size by omega),za,HE,TW,Bool.decide_eq_true,fJ (show i ≤ 1000000000 by omega)]
        split <;> rfl)
      (fun i hi => by rw [Cu,if_neg (by omega),za,if_neg (by decide)]) _ i rfl
    obtain ⟨s1,s2,s3,s4,s5⟩ := Vp (p := fun x => AB x d[a]!) (q := fun x => !AB x d[a]!) (fun x => rfl) d (show 0 < i by omega) hij
    rw [partLoop_eq]
    generalize scanUp (fun x => AB x d[a]!) d j i = i2 at hup s1 s2 s3 s4 s5 ⊢
    have hdn : Aj (Cv (a : Int) d.toList (i2 : Int)) (j : Int) = some ((scanDown (fun x => !AB x d[a]!) d i2 j : Nat) : Int) := Nb (fun x => !AB x d[a]!) d i2 (by omega)
      (fun j hj1 hj2 => by
        rw [Cv,if_pos (by omega)]
        simp only [g0,Hd (d := d) hj2,za,HE,TW,Bool.decide_eq_true,dJ (show 0 < j by omega) (show j ≤ 1000000000 by omega)]
        split <;> rfl)
      (fun j hj1 => by rw [Cv,if_neg (by omega),za,if_neg (by decide)]) j hj
    generalize scanDown (fun x => !AB x d[a]!) d i2 j = j2 at hdn s3 s4 s5 ⊢
    by_cases c : i2 > j2
    · rw [if_pos c]
      refine ⟨Ap ?_,s3,rfl⟩
      rw [Bz,hup,za,hdn,za,if_pos (by omega)]
    · rw [if_neg c]
      have hst : Bz (a : Int) (d.toList,(i : Int),(j : Int)) = some (.inl ((swp d i2 j2).toList,((i2 + 1 : Nat) : Int),((j2 - 1 : Nat) : Int))) := by
        rw [Bz,hup,za,hdn,za,if_neg (by omega)]
        simp only [Hd (d := d) (show i2 < d.size by omega),Hd (d := d) (show j2 < d.size by omega),za,Lm,Hd (show j2 < (d.setIfInBounds i2 d[j2]!).size by simp; omega)]
        rw [Ah (x := (i2 : Int) + 1) (by omega),Ah (x := (j2 : Int) - 1) (by omega),show (j2 : Int) - 1 = ((j2 - 1 : Nat) : Int) by omega]; rfl
      rw [Bi hst]
      obtain ⟨h1,h2,h3⟩ := ih (i2 + 1) (j2 - 1) (swp d i2 j2) (by omega) (by omega) (by omega) (by rw [size_swp]; omega) (by rw [size_swp]; exact hs)
      exact ⟨h1,by omega,by rw [h3,size_swp]⟩
theorem q7 (d : Array (Int × Int × Int × Int × Int)) (a b p : Nat) (h1 : a ≤ p) (h2 : p < b) (hb : b ≤ d.size) (hs : d.size ≤ 1000000000) (hab : a + 1 < b) :
    BQ d.toList (a : Int) (b : Int) (p : Int) = some (((partition AB d a b p).1 : Int),(partition AB d a b p).2.1,(partition AB d a b p).2.2.toList) := by
  unfold BQ partition
  rw [Hd (d := d) (show p < d.size by omega),za,Hd (d := d) (show a < d.size by omega),za,za,Lm,Hd (by simp; omega),za,Lm]
  have hL : AU (AU d.toList (a : Int) d[p]!) (p : Int) d[a]! = (swp d a p).toList := by rw [Lm,Lm]; rfl
  show (Aj (B4 d.toList (a : Int) (b : Int) (p : Int) d[p]! d[a]!) _).bind _ = _
  have eD : ((d.setIfInBounds a d[p]!).setIfInBounds p d[a]!).toList = (swp d a p).toList := rfl
  rw [eD]
  have hz := size_swp d a p
  generalize swp d a p = D at hL hz ⊢
  have g0 := Hd (d := D) (show a < D.size by omega)
  have ea : w64 ((a : Int) + 1) = ((a + 1 : Nat) : Int) := by rw [Ah (by omega)]; omega
  have eb : w64 ((b : Int) - 1) = ((b - 1 : Nat) : Int) := by rw [Ah (by omega)]; omega
  have hup : Aj (B4 d.toList (a : Int) (b : Int) (p : Int) d[p]! d[a]!) ((a + 1 : Nat) : Int) = some ((scanUp (fun x => AB x D[a]!) D (b - 1) (a + 1) : Nat) : Int) := Vy (fun x => AB x D[a]!) D (b - 1)
    (fun i hi => by
      rw [B4,hL,eb,if_pos (by omega)]
      simp only [g0,Hd (d := D) (show i < D.size by omega),za,HE,TW,Bool.decide_eq_true,fJ (show i ≤ 1000000000 by omega)]
      split <;> rfl)
    (fun i hi => by rw [B4,eb,if_neg (by omega),za,if_neg (by decide)]) _ (a + 1) rfl
  obtain ⟨s1,s2,s3,s4,s5⟩ := Vp (p := fun x => AB x D[a]!) (q := fun x => !AB x D[a]!) (fun x => rfl) D (show 0 < a + 1 by omega) (show a + 1 ≤ b - 1 + 1 by omega)
  rw [ea,hup,za]
  simp only []
  generalize scanUp (fun x => AB x D[a]!) D (b - 1) (a + 1) = i2 at hup s1 s2 s3 s4 s5 ⊢
  have hdn : Aj (Cs d.toList (a : Int) (p : Int) d[p]! d[a]! (i2 : Int)) ((b - 1 : Nat) : Int) = some ((scanDown (fun x => !AB x D[a]!) D i2 (b - 1) : Nat) : Int) := Nb (fun x => !AB x D[a]!) D i2 (by omega)
    (fun j hj1 hj2 => by
      rw [Cs,hL,if_pos (by omega)]
      simp only [g0,Hd (d := D) hj2,za,HE,TW,Bool.decide_eq_true,dJ (show 0 < j by omega) (show j ≤ 1000000000 by omega)]
      split <;> rfl)
    (fun j hj1 => by rw [Cs,if_neg (by omega),za,if_neg (by decide)]) (b - 1) (by omega)
  rw [eb,hdn,za]
  generalize scanDown (fun x => !AB x D[a]!) D i2 (b - 1) = j2 at hdn s3 s4 s5 ⊢
  by_cases c : i2 > j2
  · rw [if_pos (show (j2 : Int) < (i2 : Int) by omega),if_pos c]
    simp only [g0,Hd (d := D) (show j2 < D.size by omega),za,Lm,Hd (show a < (D.setIfInBounds j2 D[a]!).size by simp; omega)]
    rfl
  · rw [if_neg (show ¬ (j2 : Int) < (i2 : Int) by omega),if_neg c]
    simp only [Hd (d := D) (show i2 < D.size by omega),Hd (d := D) (show j2 < D.size by omega),za,Lm,Hd (show j2 < (D.setIfInBounds i2 D[j2]!).size by simp; omega)]
    show (Aj (Bz (a : Int)) ((swp D i2 j2).toList,_,_)).bind _ = _
    have hz2 := size_swp D i2 j2
    obtain ⟨k1,k2,k3⟩ := gP (a := a) _ (i2 + 1) (j2 - 1) (swp D i2 j2) (Nat.lt_succ_self _) (by omega) (by omega) (by omega) (by omega)
    rw [Ah (x := (i2 : Int) + 1) (by omega),Ah (x := (j2 : Int) - 1) (by omega),show (i2 : Int) + 1 = ((i2 + 1 : Nat) : Int) by omega,show (j2 : Int) - 1 = ((j2 - 1 : Nat) : Int) by omega,k1,za]
    generalize partLoop AB a (i2 + 1) (j2 - 1) (swp D i2 j2) = r at k2 k3 ⊢
    simp only [Hd (d := r.2) (show a < r.2.size by omega),Hd (d := r.2) (show r.1 < r.2.size by omega),za,Lm,Hd (show a < (r.2.setIfInBounds r.1 r.2[a]!).size by simp; omega)]
    rfl
theorem mT : ∀ (j : Nat) (d : Array (Int × Int × Int × Int × Int)),j < d.size → d.size ≤ 1000000000 → Aj Ax (d.toList,(j : Int)) = some (shiftDown AB j d).toList ∧ (shiftDown AB j d).size = d.size
  | 0,d,hj,hs => ⟨Ap (by rw [Ax,if_neg (by omega)]; rfl),rfl⟩
  | j + 1,d,hj,hs => by
    have e1 : w64 (((j + 1 : Nat) : Int) - 1) = (j : Int) := by rw [Ah (by omega)]; omega
    have h1 := Hd (d := d) hj
    have h0 := Hd (d := d) (show j < d.size by omega)
    rw [shiftDown]
    by_cases c : AB d[j + 1]! d[j]! = true
    · rw [if_neg (by rw [c]; decide)]
      have hst : Ax (d.toList,((j + 1 : Nat) : Int)) = some (.inl ((swp d (j + 1) j).toList,(j : Int))) := by
        rw [Ax,if_pos (by omega),e1]
        simp only [h1,h0,za,HE,TW,Bool.decide_eq_true,c,Bool.not_true,Bool.false_eq_true,if_false,Lm,Hd (show j < (d.setIfInBounds (j + 1) d[j]!).size by simp; omega)]
        rfl
      rw [Bi hst]
      obtain ⟨k1,k2⟩ := mT j (swp d (j + 1) j) (by rw [size_swp]; omega) (by rw [size_swp]; exact hs)
      exact ⟨k1,by rw [k2,size_swp]⟩
    · rw [if_pos (by simpa using c)]
      refine ⟨Ap ?_,rfl⟩
      rw [Ax,if_pos (by omega),e1]
      simp only [h1,h0,za,HE,TW,Bool.decide_eq_true,c,Bool.not_false,if_true]
theorem u0 {b : Nat} (x7 : Int) : ∀ (m j : Nat) (d : Array (Int × Int × Int × Int × Int)),b - j = m → 0 < j → b ≤ d.size → d.size ≤ 1000000000 → Aj (AM (b : Int) x7) (d.toList,(j : Int)) = some (.inl ((shiftUp AB b j d).toList,x7)) ∧ (shiftUp AB b j d).size = d.size := by
  intro m
  induction m with
  | zero =>
    intro j d hm h0 hb hs
    rw [shiftUp,if_neg (by omega)]
    exact ⟨Ap (by rw [AM,if_neg (by omega)]),rfl⟩
  | succ m ih =>
    intro j d hm h0 hb hs
    have e1 : w64 ((j : Int) - 1) = ((j - 1 : Nat) : Int) := by rw [Ah (by omega)]; omega
    have e2 : w64 ((j : Int) + 1) = ((j + 1 : Nat) : Int) := by rw [Ah (by omega)]; omega
    have g1 := Hd (d := d) (show j < d.size by omega)
    have g0 := Hd (d := d) (show j - 1 < d.size by omega)
    rw [shiftUp,if_pos (by omega)]
    by_cases c : AB d[j]! d[j - 1]! = true
    · rw [if_neg (by rw [c]; decide)]
      have hst : AM (b : Int) x7 (d.toList,(j : Int)) = some (.inl ((swp d j (j - 1)).toList,((j + 1 : Nat) : Int))) := by
        rw [AM,if_pos (by omega),e1,e2]
        simp only [g1,g0,za,HE,TW,Bool.decide_eq_true,c,Bool.not_true,Bool.false_eq_true,if_false,Lm,Hd (show j - 1 < (d.setIfInBounds j d[j - 1]!).size by simp; omega)]
        rfl
      rw [Bi hst]
      obtain ⟨k1,k2⟩ := ih (j + 1) (swp d j (j - 1)) (by omega) (by omega) (by rw [size_swp]; exact hb) (by rw [size_swp]; exact hs)
      exact ⟨k1,by rw [k2,size_swp]⟩
    · rw [if_pos (by simpa using c)]
      refine ⟨Ap ?_,rfl⟩
      rw [AM,if_pos (by omega),e1,e2]
      simp only [g1,g0,za,HE,TW,Bool.decide_eq_true,c,Bool.not_false,if_true]
theorem lG {a b : Nat} (hab : a + 1 < b) : ∀ (s i : Nat) (d : Array (Int × Int × Int × Int × Int)),s ≤ 5 → a < i → i ≤ b → b ≤ d.size → d.size ≤ 1000000000 →
    GN (Aj (AL (a : Int) (b : Int)) (d.toList,(i : Int),((5 - s : Nat) : Int))) (fun x1 => some (false,x1)) = some ((partialIns AB a b s i d).2,(partialIns AB a b s i d).1.toList) ∧ (partialIns AB a b s i d).1.size = d.size := by
  intro s
  induction s with
  | zero =>
    intro i d _ _ _ _ _
    exact ⟨by rw [Ap (by rw [AL,if_neg (by omega)])]; rfl,rfl⟩
  | succ s ih =>
    intro i d h5 ha hib hb hs
    have hsc : Aj (BK (b : Int) d.toList) (i : Int) = some ((scanSorted AB d b i : Nat) : Int) ∧ i ≤ scanSorted AB d b i ∧ (i ≤ b → scanSorted AB d b i ≤ b) := Wm AB d b
      (fun i h0 hi => by
        rw [BK,if_pos (by omega)]
        simp only [dJ (show 0 < i by omega) (show i ≤ 1000000000 by omega),Hd (d := d) (show i < d.size by omega),Hd (d := d) (show i - 1 < d.size by omega),za,HE,TW,Bool.decide_eq_true,fJ (show i ≤ 1000000000 by omega)]
        split <;> rfl)
      (fun i hi => by rw [BK,if_neg (by omega),za,if_neg (by decide)]) _ i rfl (by omega)
    rw [partialIns_succ]
    generalize scanSorted AB d b i = i2 at hsc ⊢
    obtain ⟨k1,k2,k3⟩ := hsc
    have k3 := k3 hib
    have e1 : w64 ((b : Int) - (a : Int)) = ((b - a : Nat) : Int) := by rw [Ah (by omega)]; omega
    by_cases c1 : i2 = b
    · rw [if_pos c1]
      refine ⟨?_,rfl⟩
      rw [Ap (by rw [AL,if_pos (by omega),k1,za,if_pos (by omega)]; rfl)]; rfl
    · rw [if_neg c1]
      by_cases c2 : b - a < 50
      · rw [if_pos c2]
        refine ⟨?_,rfl⟩
        rw [Ap (by rw [AL,if_pos (by omega),k1,za,if_neg (by omega),e1,if_pos (by omega)]; rfl)]; rfl
      · rw [if_neg c2]
        have e2 : w64 ((i2 : Int) - 1) = ((i2 - 1 : Nat) : Int) := by rw [Ah (by omega)]; omega
        have e3 : w64 ((i2 : Int) - (a : Int)) = ((i2 - a : Nat) : Int) := by rw [Ah (by omega)]; omega
        have e4 : w64 ((b : Int) - (i2 : Int)) = ((b - i2 : Nat) : Int) := by rw [Ah (by omega)]; omega
        have e5 : w64 ((i2 : Int) + 1) = ((i2 + 1 : Nat) : Int) := by rw [Ah (by omega)]; omega
        have z1 := size_swp d i2 (i2 - 1)
        have hD : (if (2 : Int) ≤ ((i2 - a : Nat) : Int) then Aj Ax ((swp d i2 (i2 - 1)).toList,((i2 - 1 : Nat) : Int)) else some (swp d i2 (i2 - 1)).toList) = some (fixDown AB a i2 (swp d i2 (i2 - 1))).toList ∧ (fixDown AB a i2 (swp d i2 (i2 - 1))).size = d.size := by
          unfold fixDown
          by_cases c : i2 - a ≥ 2
          · rw [if_pos (by omega),if_pos c]
            obtain ⟨q1,q2⟩ := mT (i2 - 1) (swp d i2 (i2 - 1)) (by omega) (by omega)
            exact ⟨q1,by rw [q2,z1]⟩
          · rw [if_neg (by omega),if_neg c]; exact ⟨rfl,z1⟩
        generalize fixDown AB a i2 (swp d i2 (i2 - 1)) = D at hD ⊢
        obtain ⟨hD1,hD2⟩ := hD
        have hU : (if (2 : Int) ≤ ((b - i2 : Nat) : Int) then Aj (AM (b : Int) (i2 : Int)) (D.toList,((i2 + 1 : Nat) : Int)) else some (.inl (D.toList,(i2 : Int)))) = some (.inl ((fixUp AB b i2 D).toList,(i2 : Int))) ∧ (fixUp AB b i2 D).size = d.size := by
          unfold fixUp
          by_cases c : b - i2 ≥ 2
          · rw [if_pos (by omega),if_pos c]
            obtain ⟨q1,q2⟩ := u0 (b := b) (i2 : Int) _ (i2 + 1) D rfl (by omega) (by omega) (by omega)
            exact ⟨q1,by rw [q2,hD2]⟩
          · rw [if_neg (by omega),if_neg c]; exact ⟨rfl,hD2⟩
        generalize fixUp AB b i2 D = U at hU ⊢
        obtain ⟨hU1,hU2⟩ := hU
        have hst : AL (a : Int) (b : Int) (d.toList,(i : Int),((5 - (s + 1) : Nat) : Int)) = some (.inl (U.toList,(i2 : Int),((5 - s : Nat) : Int))) := by
          rw [AL,if_pos (by omega),k1,za,if_neg (by omega),e1,if_neg (by omega),e2,e3,e4,e5]
          simp only [Hd (d := d) (show i2 < d.size by omega),Hd (d := d) (show i2 - 1 < d.size by omega),za,Lm,Hd (show i2 - 1 < (d.setIfInBounds i2 d[i2 - 1]!).size by simp; omega)]
          show GN ((if (2 : Int) ≤ ((i2 - a : Nat) : Int) then Aj Ax ((swp d i2 (i2 - 1)).toList,((i2 - 1 : Nat) : Int)) else some (swp d i2 (i2 - 1)).toList).bind _) _ = _
          rw [hD1,za,hU1]
          show some (Sum.inl (U.toList,(i2 : Int),w64 (((5 - (s + 1) : Nat) : Int) + 1))) = _
          rw [Ah (by omega),show ((5 - (s + 1) : Nat) : Int) + 1 = ((5 - s : Nat) : Int) by omega]
        rw [Bi hst]
        obtain ⟨r1,r2⟩ := ih i2 U (by omega) (by omega) k3 (by omega) (by omega)
        exact ⟨r1,by rw [r2,hU2]⟩
theorem uD (d : Array (Int × Int × Int × Int × Int)) (a b : Nat) (hab : a + 1 < b) (hb : b ≤ d.size) (hs : d.size ≤ 1000000000) :
    AS d.toList (a : Int) (b : Int) = some ((partialInsertionSort AB d a b).2,(partialInsertionSort AB d a b).1.toList) ∧ (partialInsertionSort AB d a b).1.size = d.size := by
  unfold AS partialInsertionSort
  rw [Ah (by omega),show (a : Int) + 1 = ((a + 1 : Nat) : Int) by omega]
  exact lG hab 5 (a + 1) d (by omega) (by omega) (by omega) hb hs
theorem PQ {a b : Nat} (hab : a + 12 < b) (st : UInt64 × Array (Int × Int × Int × Int × Int)) (idx : Nat) (h1 : a ≤ idx) (h2 : idx ≤ a + (b - a) / 4 * 2 + 1) (hb : b ≤ st.2.size) (hs : st.2.size ≤ 1000000000) :
    BG (a : Int) (b : Int) ((1 <<< bitsLen (b - a) : Nat) : Int) (st.2.toList,(idx : Int),(st.1.toNat : Int)) = some (.inl ((breakStep a (b - a) (1 <<< bitsLen (b - a)) st idx).2.toList,((idx + 1 : Nat) : Int),((breakStep a (b - a) (1 <<< bitsLen (b - a)) st idx).1.toNat : Int))) ∧ (breakStep a (b - a) (1 <<< bitsLen (b - a)) st idx).2.size = st.2.size := by
  refine ⟨?_,by unfold breakStep; simp only []; rw [size_swp]⟩
  have hn : CC (st.1.toNat : Int) = (((xorNext st.1).toNat : Int),((xorNext st.1).toNat : Int)) := by
    have hx : st.1.toNat < 18446744073709551616 := st.1.toNat_lt
    unfold CC
    have q1 := cB (x := st.1.toNat) 13 8192 (by decide) (by decide)
    have q1' : JT .u64 (st.1.toNat : Int) 13 = ((st.1.toNat * 8192 % 18446744073709551616 : Nat) : Int) := q1
    rw [q1',gU hx (by omega)]
    have hA : st.1.toNat ^^^ (st.1.toNat * 8192 % 18446744073709551616) < 18446744073709551616 := nO hx (by omega)
    rw [xorNext_toNat]
    unfold xorNextN
    simp only []
    generalize st.1.toNat ^^^ (st.1.toNat * 8192 % 18446744073709551616) = A at hA ⊢
    have q2 : Mm .u64 (A : Int) 7 = ((A / 128 : Nat) : Int) := cQ (x := A) 7 128 (by decide) (by decide)
    rw [q2,gU hA (by omega)]
    have hB : A ^^^ (A / 128) < 18446744073709551616 := nO hA (by omega)
    generalize A ^^^ (A / 128) = B at hB ⊢
    have q3 : JT .u64 (B : Int) 17 = ((B * 131072 % 18446744073709551616 : Nat) : Int) := cB (x := B) 17 131072 (by decide) (by decide)
    rw [q3,gU hB (by omega)]
  have e1 : w64 ((b : Int) - (a : Int)) = ((b - a : Nat) : Int) := by rw [Ah (by omega)]; omega
  have e2 : w64 (Int.tdiv ((b - a : Nat) : Int) 4) = (((b - a) / 4 : Nat) : Int) := by rw [Int.tdiv_eq_ediv_of_nonneg (by omega),Ah (by omega)]; omega
  have f2 : w64 ((a : Int) + w64 ((((b - a) / 4 : Nat) : Int) * 2)) = ((a + (b - a) / 4 * 2 : Nat) : Int) := by rw [Ah (x := (((b - a) / 4 : Nat) : Int) * 2) (by omega),Ah (by omega)]; omega
  have f3 : w64 (((a + (b - a) / 4 * 2 : Nat) : Int) + 1) = ((a + (b - a) / 4 * 2 + 1 : Nat) : Int) := by rw [Ah (by omega)]; omega
  have hm1 : 1 ≤ 1 <<< bitsLen (b - a) := by rw [Nat.one_shiftLeft]; exact Nat.two_pow_pos _
  have hm2 : 1 <<< bitsLen (b - a) ≤ 2 * (b - a) := by rw [Nat.one_shiftLeft]; exact two_pow_bitsLen_le (by omega)
  unfold breakStep
  generalize 1 <<< bitsLen (b - a) = md at hm1 hm2 ⊢
  have hr : (xorNext st.1).toNat < 18446744073709551616 := (xorNext st.1).toNat_lt
  rw [BG,e1,e2,f2,f3,if_pos (by omega),hn]
  simp only []
  rw [show ((md : Nat) : Int) - 1 = ((md - 1 : Nat) : Int) by omega,cU (x := md - 1) (by omega),xW hr (by omega)]
  have ho : (xorNext st.1).toNat &&& (md - 1) ≤ md - 1 := Nat.and_le_right
  generalize (xorNext st.1).toNat &&& (md - 1) = ot at ho ⊢
  rw [Ah (x := (ot : Int)) (by omega)]
  have hpick : (if ((b - a : Nat) : Int) ≤ (ot : Int) then some (w64 ((ot : Int) - ((b - a : Nat) : Int))) else some (ot : Int)) = some (((if ot ≥ b - a then ot - (b - a) else ot : Nat)) : Int) := by
    by_cases c : ot ≥ b - a
    · rw [if_pos (by omega),if_pos c,Ah (by omega)]; congr 1; omega
    · rw [if_neg (by omega),if_neg c]
  have hlt : (if ot ≥ b - a then ot - (b - a) else ot) < b - a := by split <;> omega
  rw [hpick,za]
  generalize (if ot ≥ b - a then ot - (b - a) else ot) = o2 at hlt ⊢
  rw [Ah (x := (a : Int) + (o2 : Int)) (by omega),show (a : Int) + (o2 : Int) = ((a + o2 : Nat) : Int) by omega]
  simp only [Hd (d := st.2) (show a + o2 < st.2.size by omega),Hd (d := st.2) (show idx < st.2.size by omega),za,Lm,Hd (show a + o2 < (st.2.setIfInBounds idx st.2[a + o2]!).size by simp; omega)]
  rw [Ah (by omega)]; rfl
theorem zZ (d : Array (Int × Int × Int × Int × Int)) (a b : Nat) (hab : a + 12 < b) (hb : b ≤ d.size) (hs : d.size ≤ 1000000000) (hnp : DS ((b - a : Nat) : Int) = some ((1 <<< bitsLen (b - a) : Nat) : Int)) :
    A6 d.toList (a : Int) (b : Int) = some (breakPatterns d a b).toList ∧ (breakPatterns d a b).size = d.size := by
  unfold A6 breakPatterns
  have e1 : w64 ((b : Int) - (a : Int)) = ((b - a : Nat) : Int) := by rw [Ah (by omega)]; omega
  have e2 : w64 (Int.tdiv ((b - a : Nat) : Int) 4) = (((b - a) / 4 : Nat) : Int) := by rw [Int.tdiv_eq_ediv_of_nonneg (by omega),Ah (by omega)]; omega
  have f2 : w64 ((a : Int) + w64 ((((b - a) / 4 : Nat) : Int) * 2)) = ((a + (b - a) / 4 * 2 : Nat) : Int) := by rw [Ah (x := (((b - a) / 4 : Nat) : Int) * 2) (by omega),Ah (by omega)]; omega
  have f3 : w64 (((a + (b - a) / 4 * 2 : Nat) : Int) - 1) = ((a + (b - a) / 4 * 2 - 1 : Nat) : Int) := by rw [Ah (by omega)]; omega
  have hr : ((UInt64.ofNat (b - a)).toNat : Int) = ((b - a : Nat) : Int) := by
    rw [UInt64.toNat_ofNat_of_lt' (by show b - a < 18446744073709551616; omega)]
  simp only [if_pos (show b - a ≥ 8 by omega)]
  rw [e1,if_pos (by omega),e2,f2,f3,hnp,za,cU (x := b - a) (by omega), ← hr]
  obtain ⟨p1,q1⟩ := PQ hab (UInt64.ofNat (b - a),d) (a + (b - a) / 4 * 2 - 1) (by omega) (by omega) hb hs
  generalize breakStep a (b - a) (1 <<< bitsLen (b - a)) (UInt64.ofNat (b - a),d) (a + (b - a) / 4 * 2 - 1) = s1 at p1 q1 ⊢
  simp only [] at q1
  obtain ⟨p2,q2⟩ := PQ hab s1 (a + (b - a) / 4 * 2 - 1 + 1) (by omega) (by omega) (by omega) (by omega)
  generalize breakStep a (b - a) (1 <<< bitsLen (b - a)) s1 (a + (b - a) / 4 * 2 - 1 + 1) = s2 at p2 q2 ⊢
  obtain ⟨p3,q3⟩ := PQ hab s2 (a + (b - a) / 4 * 2 - 1 + 2) (by omega) (by omega) (by omega) (by omega)
  generalize breakStep a (b - a) (1 <<< bitsLen (b - a)) s2 (a + (b - a) / 4 * 2 - 1 + 2) = s3 at p3 q3 ⊢
  refine ⟨?_,by omega⟩
  have p1' : BG (a : Int) (b : Int) ((1 <<< bitsLen (b - a) : Nat) : Int) (d.toList,((a + (b - a) / 4 * 2 - 1 : Nat) : Int),((UInt64.ofNat (b - a)).toNat : Int)) = some (.inl (s1.2.toList,((a + (b - a) / 4 * 2 - 1 + 1 : Nat) : Int),(s1.1.toNat : Int))) := p1
  rw [Bi p1',Bi p2,Bi p3]
  refine Ap ?_
  have f4 : w64 (((a + (b - a) / 4 * 2 : Nat) : Int) + 1) = ((a + (b - a) / 4 * 2 + 1 : Nat) : Int) := by rw [Ah (by omega)]; omega
  rw [BG,e1,e2,f2,f4,if_neg (by omega)]
end
end Go.Proofs.YtkhiflmalgkjiaaGreat
