/- Layer 31: the sort's parts, second half. Conditions: none. -/
import Derived.Test.YtkhiflmalgkjiaaGreateMQ
set_option linter.unusedVariables false
set_option linter.unusedSimpArgs false
open Go Go.RowKit
namespace Go.Proofs.YtkhiflmalgkjiaaGreat
section
open Go.Sort
theorem VL {p q : (Int × Int × Int × Int × Int) → Bool} (hq : ∀ x,q x = !p x) (d : Array (Int × Int × Int × Int × Int)) {i j : Nat} (hi : 0 < i) (hij : i ≤ j + 1) :
    i ≤ scanUp p d j i ∧ scanUp p d j i ≤ j + 1 ∧ scanDown q d (scanUp p d j i) j ≤ j ∧ scanUp p d j i ≤ scanDown q d (scanUp p d j i) j + 1 ∧ scanUp p d j i ≠ scanDown q d (scanUp p d j i) j := by
  obtain ⟨h1,h2,_,h4⟩ := scanUp_spec p d j _ i rfl
  obtain ⟨g1,g2,_,g4⟩ := scanDown_spec q d (scanUp p d j i) j
  refine ⟨h1,h2 hij,g1,g2 (h2 hij),fun e => ?_⟩
  have k1 := h4 (by omega)
  have k2 := g4 (by omega) (by omega)
  rw [← e,hq,k1] at k2
  cases k2
theorem j8 {a : Nat} : ∀ (m i j : Nat) (d : Array (Int × Int × Int × Int × Int)),j + 1 - i < m → a < i → i ≤ j + 1 → j < d.size → d.size ≤ 1000000000 →
    Ah (BB (a : Int)) (d.toList,(i : Int),(j : Int)) = some (((partEqLoop Aw a i j d).1 : Int),(partEqLoop Aw a i j d).2.toList) ∧ (partEqLoop Aw a i j d).1 ≤ j + 1 ∧ (partEqLoop Aw a i j d).2.size = d.size := by
  intro m
  induction m with
  | zero => intro i j d hm; omega
  | succ m ih =>
    intro i j d hm ha hij hj hs
    have g0 := Hx (d := d) (show a < d.size by omega)
    have hup : Ah (B9 (a : Int) d.toList (j : Int)) (i : Int) = some ((scanUp (fun x => !Aw d[a]! x) d j i : Nat) : Int) := UM (fun x => !Aw d[a]! x) d j
      (fun i hi => by
        rw [B9,if_pos (by omega)]
        simp only [g0,Hx (d := d) (show i < d.size by omega),Option.bind_some,HP,T2,Bool.decide_eq_true,iH (show i ≤ 1000000000 by omega)]
        split <;> rfl)
      (fun i hi => by rw [B9,if_neg (by omega),Option.bind_some,if_neg (by decide)]) _ i rfl
    obtain ⟨s1,s2,s3,s4,s5⟩ := VL (p := fun x => !Aw d[a]! x) (q := fun x => Aw d[a]! x) (fun x => by simp) d (show 0 < i by omega) hij
    rw [partEqLoop_eq]
    generalize scanUp (fun x => !Aw d[a]! x) d j i = i2 at hup s1 s2 s3 s4 s5 ⊢
    have hdn : Ah (Cb (a : Int) d.toList (i2 : Int)) (j : Int) = some ((scanDown (fun x => Aw d[a]! x) d i2 j : Nat) : Int) := Nm (fun x => Aw d[a]! x) d i2 (by omega)
      (fun j hj1 hj2 => by
        rw [Cb,if_pos (by omega)]
        simp only [g0,Hx (d := d) hj2,Option.bind_some,HP,T2,Bool.decide_eq_true,cI (show 0 < j by omega) (show j ≤ 1000000000 by omega)]
        split <;> rfl)
      (fun j hj1 => by rw [Cb,if_neg (by omega),Option.bind_some,if_neg (by decide)]) j hj
    generalize scanDown (fun x => Aw d[a]! x) d i2 j = j2 at hdn s3 s4 s5 ⊢
    by_cases c : i2 > j2
    · rw [if_pos c]
      refine ⟨Ak ?_,s2,rfl⟩
      rw [BB,hup,Option.bind_some,hdn,Option.bind_some,if_pos (by omega)]
    · rw [if_neg c]
      have hst : BB (a : Int) (d.toList,(i : Int),(j : Int)) = some (.inl ((swp d i2 j2).toList,((i2 + 1 : Nat) : Int),((j2 - 1 : Nat) : Int))) := by
        rw [BB,hup,Option.bind_some,hdn,Option.bind_some,if_neg (by omega)]
        simp only [Hx (d := d) (show i2 < d.size by omega),Hx (d := d) (show j2 < d.size by omega),Option.bind_some,KX,Hx (show j2 < (d.setIfInBounds i2 d[j2]!).size by simp; omega)]
        rw [Ad (x := (i2 : Int) + 1) (by omega),Ad (x := (j2 : Int) - 1) (by omega),show (j2 : Int) - 1 = ((j2 - 1 : Nat) : Int) by omega]; rfl
      rw [A4 hst]
      obtain ⟨h1,h2,h3⟩ := ih (i2 + 1) (j2 - 1) (swp d i2 j2) (by omega) (by omega) (by omega) (by rw [size_swp]; omega) (by rw [size_swp]; exact hs)
      exact ⟨h1,by omega,by rw [h3,size_swp]⟩
theorem vT (d : Array (Int × Int × Int × Int × Int)) (a b p : Nat) (h1 : a ≤ p) (h2 : p < b) (hb : b ≤ d.size) (hs : d.size ≤ 1000000000) (hab : a + 1 < b) :
    Bj d.toList (a : Int) (b : Int) (p : Int) = some (((partitionEqual Aw d a b p).1 : Int),(partitionEqual Aw d a b p).2.toList) := by
  unfold Bj partitionEqual
  rw [Hx (d := d) (show p < d.size by omega),Option.bind_some,Hx (d := d) (show a < d.size by omega),Option.bind_some,Option.bind_some,KX,Hx (by simp; omega),Option.bind_some,KX]
  show (Ah _ ((swp d a p).toList,_,_)).bind _ = _
  rw [Ad (x := (a : Int) + 1) (by omega),Ad (x := (b : Int) - 1) (by omega),show (a : Int) + 1 = ((a + 1 : Nat) : Int) by omega,show (b : Int) - 1 = ((b - 1 : Nat) : Int) by omega,
    (j8 _ (a + 1) (b - 1) (swp d a p) (Nat.lt_succ_self _) (by omega) (by omega) (by rw [size_swp]; omega) (by rw [size_swp]; exact hs)).1,Option.bind_some]
theorem cZ {a : Nat} : ∀ (m i j : Nat) (d : Array (Int × Int × Int × Int × Int)),j + 1 - i < m → a < i → i ≤ j + 1 → j < d.size → d.size ≤ 1000000000 →
    Ah (Bx (a : Int)) (d.toList,(i : Int),(j : Int)) = some ((partLoop Aw a i j d).2.toList,((partLoop Aw a i j d).1 : Int)) ∧ (partLoop Aw a i j d).1 ≤ j ∧ (partLoop Aw a i j d).2.size = d.size := by
  intro m
  induction m with
  | zero => intro i j d hm; omega
  | succ m ih =>
    intro i j d hm ha hij hj hs
    have g0 := Hx (d := d) (show a < d.size by omega)
    have hup : Ah (Cs (a : Int) d.toList (j : Int)) (i : Int) = some ((scanUp (fun x => Aw x d[a]!) d j i : Nat) : Int) := UM (fun x => Aw x d[a]!) d j
      (fun i hi => by
        rw [Cs,if_pos (by omega)]
        simp only [g0,Hx (d := d) (show i < d.size by omega),Option.bind_some,HP,T2,Bool.decide_eq_true,iH (show i ≤ 1000000000 by omega)]
        split <;> rfl)
      (fun i hi => by rw [Cs,if_neg (by omega),Option.bind_some,if_neg (by decide)]) _ i rfl
    obtain ⟨s1,s2,s3,s4,s5⟩ := VL (p := fun x => Aw x d[a]!) (q := fun x => !Aw x d[a]!) (fun x => rfl) d (show 0 < i by omega) hij
    rw [partLoop_eq]
    generalize scanUp (fun x => Aw x d[a]!) d j i = i2 at hup s1 s2 s3 s4 s5 ⊢
    have hdn : Ah (Cu (a : Int) d.toList (i2 : Int)) (j : Int) = some ((scanDown (fun x => !Aw x d[a]!) d i2 j : Nat) : Int) := Nm (fun x => !Aw x d[a]!) d i2 (by omega)
      (fun j hj1 hj2 => by
        rw [Cu,if_pos (by omega)]
        simp only [g0,Hx (d := d) hj2,Option.bind_some,HP,T2,Bool.decide_eq_true,cI (show 0 < j by omega) (show j ≤ 1000000000 by omega)]
        split <;> rfl)
      (fun j hj1 => by rw [Cu,if_neg (by omega),Option.bind_some,if_neg (by decide)]) j hj
    generalize scanDown (fun x => !Aw x d[a]!) d i2 j = j2 at hdn s3 s4 s5 ⊢
    by_cases c : i2 > j2
    · rw [if_pos c]
      refine ⟨Ak ?_,s3,rfl⟩
      rw [Bx,hup,Option.bind_some,hdn,Option.bind_some,if_pos (by omega)]
    · rw [if_neg c]
      have hst : Bx (a : Int) (d.toList,(i : Int),(j : Int)) = some (.inl ((swp d i2 j2).toList,((i2 + 1 : Nat) : Int),((j2 - 1 : Nat) : Int))) := by
        rw [Bx,hup,Option.bind_some,hdn,Option.bind_some,if_neg (by omega)]
        simp only [Hx (d := d) (show i2 < d.size by omega),Hx (d := d) (show j2 < d.size by omega),Option.bind_some,KX,Hx (show j2 < (d.setIfInBounds i2 d[j2]!).size by simp; omega)]
        rw [Ad (x := (i2 : Int) + 1) (by omega),Ad (x := (j2 : Int) - 1) (by omega),show (j2 : Int) - 1 = ((j2 - 1 : Nat) : Int) by omega]; rfl
      rw [A4 hst]
      obtain ⟨h1,h2,h3⟩ := ih (i2 + 1) (j2 - 1) (swp d i2 j2) (by omega) (by omega) (by omega) (by rw [size_swp]; omega) (by rw [size_swp]; exact hs)
      exact ⟨h1,by omega,by rw [h3,size_swp]⟩
theorem qU (d : Array (Int × Int × Int × Int × Int)) (a b p : Nat) (h1 : a ≤ p) (h2 : p < b) (hb : b ≤ d.size) (hs : d.size ≤ 1000000000) (hab : a + 1 < b) :
    BO d.toList (a : Int) (b : Int) (p : Int) = some (((partition Aw d a b p).1 : Int),(partition Aw d a b p).2.1,(partition Aw d a b p).2.2.toList) := by
  unfold BO partition
  rw [Hx (d := d) (show p < d.size by omega),Option.bind_some,Hx (d := d) (show a < d.size by omega),Option.bind_some,Option.bind_some,KX,Hx (by simp; omega),Option.bind_some,KX]
  have hL : AP (AP d.toList (a : Int) d[p]!) (p : Int) d[a]! = (swp d a p).toList := by rw [KX,KX]; rfl
  show (Ah (BZ d.toList (a : Int) (b : Int) (p : Int) d[p]! d[a]!) _).bind _ = _
  have eD : ((d.setIfInBounds a d[p]!).setIfInBounds p d[a]!).toList = (swp d a p).toList := rfl
  rw [eD]
  have hz := size_swp d a p
  generalize swp d a p = D at hL hz ⊢
  have g0 := Hx (d := D) (show a < D.size by omega)
  have ea : w64 ((a : Int) + 1) = ((a + 1 : Nat) : Int) := by rw [Ad (by omega)]; omega
  have eb : w64 ((b : Int) - 1) = ((b - 1 : Nat) : Int) := by rw [Ad (by omega)]; omega
  have hup : Ah (BZ d.toList (a : Int) (b : Int) (p : Int) d[p]! d[a]!) ((a + 1 : Nat) : Int) = some ((scanUp (fun x => Aw x D[a]!) D (b - 1) (a + 1) : Nat) : Int) := UM (fun x => Aw x D[a]!) D (b - 1)
    (fun i hi => by
      rw [BZ,hL,eb,if_pos (by omega)]
      simp only [g0,Hx (d := D) (show i < D.size by omega),Option.bind_some,HP,T2,Bool.decide_eq_true,iH (show i ≤ 1000000000 by omega)]
      split <;> rfl)
    (fun i hi => by rw [BZ,eb,if_neg (by omega),Option.bind_some,if_neg (by decide)]) _ (a + 1) rfl
  obtain ⟨s1,s2,s3,s4,s5⟩ := VL (p := fun x => Aw x D[a]!) (q := fun x => !Aw x D[a]!) (fun x => rfl) D (show 0 < a + 1 by omega) (show a + 1 ≤ b - 1 + 1 by omega)
  rw [ea,hup,Option.bind_some]
  simp only []
  generalize scanUp (fun x => Aw x D[a]!) D (b - 1) (a + 1) = i2 at hup s1 s2 s3 s4 s5 ⊢
  have hdn : Ah (Cw d.toList (a : Int) (p : Int) d[p]! d[a]! (i2 : Int)) ((b - 1 : Nat) : Int) = some ((scanDown (fun x => !Aw x D[a]!) D i2 (b - 1) : Nat) : Int) := Nm (fun x => !Aw x D[a]!) D i2 (by omega)
    (fun j hj1 hj2 => by
      rw [Cw,hL,if_pos (by omega)]
      simp only [g0,Hx (d := D) hj2,Option.bind_some,HP,T2,Bool.decide_eq_true,cI (show 0 < j by omega) (show j ≤ 1000000000 by omega)]
      split <;> rfl)
    (fun j hj1 => by rw [Cw,if_neg (by omega),Option.bind_some,if_neg (by decide)]) (b - 1) (by omega)
  rw [eb,hdn,Option.bind_some]
  generalize scanDown (fun x => !Aw x D[a]!) D i2 (b - 1) = j2 at hdn s3 s4 s5 ⊢
  by_cases c : i2 > j2
  · rw [if_pos (show (j2 : Int) < (i2 : Int) by omega),if_pos c]
    simp only [g0,Hx (d := D) (show j2 < D.size by omega),Option.bind_some,KX,Hx (show a < (D.setIfInBounds j2 D[a]!).size by simp; omega)]
    rfl
  · rw [if_neg (show ¬ (j2 : Int) < (i2 : Int) by omega),if_neg c]
    simp only [Hx (d := D) (show i2 < D.size by omega),Hx (d := D) (show j2 < D.size by omega),Option.bind_some,KX,Hx (show j2 < (D.setIfInBounds i2 D[j2]!).size by simp; omega)]
    show (Ah (Bx (a : Int)) ((swp D i2 j2).toList,_,_)).bind _ = _
    have hz2 := size_swp D i2 j2
    obtain ⟨k1,k2,k3⟩ := cZ (a := a) _ (i2 + 1) (j2 - 1) (swp D i2 j2) (Nat.lt_succ_self _) (by omega) (by omega) (by omega) (by omega)
    rw [Ad (x := (i2 : Int) + 1) (by omega),Ad (x := (j2 : Int) - 1) (by omega),show (i2 : Int) + 1 = ((i2 + 1 : Nat) : Int) by omega,show (j2 : Int) - 1 = ((j2 - 1 : Nat) : Int) by omega,k1,Option.bind_some]
    generalize partLoop Aw a (i2 + 1) (j2 - 1) (swp D i2 j2) = r at k2 k3 ⊢
    simp only [Hx (d := r.2) (show a < r.2.size by omega),Hx (d := r.2) (show r.1 < r.2.size by omega),Option.bind_some,KX,Hx (show a < (r.2.setIfInBounds r.1 r.2[a]!).size by simp; omega)]
    rfl
theorem m8 : ∀ (j : Nat) (d : Array (Int × Int × Int × Int × Int)),j < d.size → d.size ≤ 1000000000 → Ah As (d.toList,(j : Int)) = some (shiftDown Aw j d).toList ∧ (shiftDown Aw j d).size = d.size
  | 0,d,hj,hs => ⟨Ak (by rw [As,if_neg (by omega)]; rfl),rfl⟩
  | j + 1,d,hj,hs => by
    have e1 : w64 (((j + 1 : Nat) : Int) - 1) = (j : Int) := by rw [Ad (by omega)]; omega
    have h1 := Hx (d := d) hj
    have h0 := Hx (d := d) (show j < d.size by omega)
    rw [shiftDown]
    by_cases c : Aw d[j + 1]! d[j]! = true
    · rw [if_neg (by rw [c]; decide)]
      have hst : As (d.toList,((j + 1 : Nat) : Int)) = some (.inl ((swp d (j + 1) j).toList,(j : Int))) := by
        rw [As,if_pos (by omega),e1]
        simp only [h1,h0,Option.bind_some,HP,T2,Bool.decide_eq_true,c,Bool.not_true,Bool.false_eq_true,if_false,KX,Hx (show j < (d.setIfInBounds (j + 1) d[j]!).size by simp; omega)]
        rfl
      rw [A4 hst]
      obtain ⟨k1,k2⟩ := m8 j (swp d (j + 1) j) (by rw [size_swp]; omega) (by rw [size_swp]; exact hs)
      exact ⟨k1,by rw [k2,size_swp]⟩
    · rw [if_pos (by simpa using c)]
      refine ⟨Ak ?_,rfl⟩
      rw [As,if_pos (by omega),e1]
      simp only [h1,h0,Option.bind_some,HP,T2,Bool.decide_eq_true,c,Bool.not_false,if_true]
theorem xG {b : Nat} (x7 : Int) : ∀ (m j : Nat) (d : Array (Int × Int × Int × Int × Int)),b - j = m → 0 < j → b ≤ d.size → d.size ≤ 1000000000 → Ah (AF (b : Int) x7) (d.toList,(j : Int)) = some (.inl ((shiftUp Aw b j d).toList,x7)) ∧ (shiftUp Aw b j d).size = d.size := by
  intro m
  induction m with
  | zero =>
    intro j d hm h0 hb hs
    rw [shiftUp,if_neg (by omega)]
    exact ⟨Ak (by rw [AF,if_neg (by omega)]),rfl⟩
  | succ m ih =>
    intro j d hm h0 hb hs
    have e1 : w64 ((j : Int) - 1) = ((j - 1 : Nat) : Int) := by rw [Ad (by omega)]; omega
    have e2 : w64 ((j : Int) + 1) = ((j + 1 : Nat) : Int) := by rw [Ad (by omega)]; omega
    have g1 := Hx (d := d) (show j < d.size by omega)
    have g0 := Hx (d := d) (show j - 1 < d.size by omega)
    rw [shiftUp,if_pos (by omega)]
    by_cases c : Aw d[j]! d[j - 1]! = true
    · rw [if_neg (by rw [c]; decide)]
      have hst : AF (b : Int) x7 (d.toList,(j : Int)) = some (.inl ((swp d j (j - 1)).toList,((j + 1 : Nat) : Int))) := by
        rw [AF,if_pos (by omega),e1,e2]
        simp only [g1,g0,Option.bind_some,HP,T2,Bool.decide_eq_true,c,Bool.not_true,Bool.false_eq_true,if_false,KX,Hx (show j - 1 < (d.setIfInBounds j d[j - 1]!).size by simp; omega)]
        rfl
      rw [A4 hst]
      obtain ⟨k1,k2⟩ := ih (j + 1) (swp d j (j - 1)) (by omega) (by omega) (by rw [size_swp]; exact hb) (by rw [size_swp]; exact hs)
      exact ⟨k1,by rw [k2,size_swp]⟩
    · rw [if_pos (by simpa using c)]
      refine ⟨Ak ?_,rfl⟩
      rw [AF,if_pos (by omega),e1,e2]
      simp only [g1,g0,Option.bind_some,HP,T2,Bool.decide_eq_true,c,Bool.not_false,if_true]
theorem jG {a b : Nat} (hab : a + 1 < b) : ∀ (s i : Nat) (d : Array (Int × Int × Int × Int × Int)),s ≤ 5 → a < i → i ≤ b → b ≤ d.size → d.size ≤ 1000000000 →
    GO (Ah (AD (a : Int) (b : Int)) (d.toList,(i : Int),((5 - s : Nat) : Int))) (fun x1 => some (false,x1)) = some ((partialIns Aw a b s i d).2,(partialIns Aw a b s i d).1.toList) ∧ (partialIns Aw a b s i d).1.size = d.size := by
  intro s
  induction s with
  | zero =>
    intro i d _ _ _ _ _
    exact ⟨by rw [Ak (by rw [AD,if_neg (by omega)])]; rfl,rfl⟩
  | succ s ih =>
    intro i d h5 ha hib hb hs
    have hsc : Ah (BJ (b : Int) d.toList) (i : Int) = some ((scanSorted Aw d b i : Nat) : Int) ∧ i ≤ scanSorted Aw d b i ∧ (i ≤ b → scanSorted Aw d b i ≤ b) := WD Aw d b
      (fun i h0 hi => by
        rw [BJ,if_pos (by omega)]
        simp only [cI (show 0 < i by omega) (show i ≤ 1000000000 by omega),Hx (d := d) (show i < d.size by omega),Hx (d := d) (show i - 1 < d.size by omega),Option.bind_some,HP,T2,Bool.decide_eq_true,iH (show i ≤ 1000000000 by omega)]
        split <;> rfl)
      (fun i hi => by rw [BJ,if_neg (by omega),Option.bind_some,if_neg (by decide)]) _ i rfl (by omega)
    rw [partialIns_succ]
    generalize scanSorted Aw d b i = i2 at hsc ⊢
    obtain ⟨k1,k2,k3⟩ := hsc
    have k3 := k3 hib
    have e1 : w64 ((b : Int) - (a : Int)) = ((b - a : Nat) : Int) := by rw [Ad (by omega)]; omega
    by_cases c1 : i2 = b
    · rw [if_pos c1]
      refine ⟨?_,rfl⟩
      rw [Ak (by rw [AD,if_pos (by omega),k1,Option.bind_some,if_pos (by omega)]; rfl)]; rfl
    · rw [if_neg c1]
      by_cases c2 : b - a < 50
      · rw [if_pos c2]
        refine ⟨?_,rfl⟩
        rw [Ak (by rw [AD,if_pos (by omega),k1,Option.bind_some,if_neg (by omega),e1,if_pos (by omega)]; rfl)]; rfl
      · rw [if_neg c2]
        have e2 : w64 ((i2 : Int) - 1) = ((i2 - 1 : Nat) : Int) := by rw [Ad (by omega)]; omega
        have e3 : w64 ((i2 : Int) - (a : Int)) = ((i2 - a : Nat) : Int) := by rw [Ad (by omega)]; omega
        have e4 : w64 ((b : Int) - (i2 : Int)) = ((b - i2 : Nat) : Int) := by rw [Ad (by omega)]; omega
        have e5 : w64 ((i2 : Int) + 1) = ((i2 + 1 : Nat) : Int) := by rw [Ad (by omega)]; omega
        have z1 := size_swp d i2 (i2 - 1)
        have hD : (if (2 : Int) ≤ ((i2 - a : Nat) : Int) then Ah As ((swp d i2 (i2 - 1)).toList,((i2 - 1 : Nat) : Int)) else some (swp d i2 (i2 - 1)).toList) = some (fixDown Aw a i2 (swp d i2 (i2 - 1))).toList ∧ (fixDown Aw a i2 (swp d i2 (i2 - 1))).size = d.size := by
          unfold fixDown
          by_cases c : i2 - a ≥ 2
          · rw [if_pos (by omega),if_pos c]
            obtain ⟨q1,q2⟩ := m8 (i2 - 1) (swp d i2 (i2 - 1)) (by omega) (by omega)
            exact ⟨q1,by rw [q2,z1]⟩
          · rw [if_neg (by omega),if_neg c]; exact ⟨rfl,z1⟩
        generalize fixDown Aw a i2 (swp d i2 (i2 - 1)) = D at hD ⊢
        obtain ⟨hD1,hD2⟩ := hD
        have hU : (if (2 : Int) ≤ ((b - i2 : Nat) : Int) then Ah (AF (b : Int) (i2 : Int)) (D.toList,((i2 + 1 : Nat) : Int)) else some (.inl (D.toList,(i2 : Int)))) = some (.inl ((fixUp Aw b i2 D).toList,(i2 : Int))) ∧ (fixUp Aw b i2 D).size = d.size := by
          unfold fixUp
          by_cases c : b - i2 ≥ 2
          · rw [if_pos (by omega),if_pos c]
            obtain ⟨q1,q2⟩ := xG (b := b) (i2 : Int) _ (i2 + 1) D rfl (by omega) (by omega) (by omega)
            exact ⟨q1,by rw [q2,hD2]⟩
          · rw [if_neg (by omega),if_neg c]; exact ⟨rfl,hD2⟩
        generalize fixUp Aw b i2 D = U at hU ⊢
        obtain ⟨hU1,hU2⟩ := hU
        have hst : AD (a : Int) (b : Int) (d.toList,(i : Int),((5 - (s + 1) : Nat) : Int)) = some (.inl (U.toList,(i2 : Int),((5 - s : Nat) : Int))) := by
          rw [AD,if_pos (by omega),k1,Option.bind_some,if_neg (by omega),e1,if_neg (by omega),e2,e3,e4,e5]
          simp only [Hx (d := d) (show i2 < d.size by omega),Hx (d := d) (show i2 - 1 < d.size by omega),Option.bind_some,KX,Hx (show i2 - 1 < (d.setIfInBounds i2 d[i2 - 1]!).size by simp; omega)]
          show GO ((if (2 : Int) ≤ ((i2 - a : Nat) : Int) then Ah As ((swp d i2 (i2 - 1)).toList,((i2 - 1 : Nat) : Int)) else some (swp d i2 (i2 - 1)).toList).bind _) _ = _
          rw [hD1,Option.bind_some,hU1]
          show some (Sum.inl (U.toList,(i2 : Int),w64 (((5 - (s + 1) : Nat) : Int) + 1))) = _
          rw [Ad (by omega),show ((5 - (s + 1) : Nat) : Int) + 1 = ((5 - s : Nat) : Int) by omega]
        rw [A4 hst]
        obtain ⟨r1,r2⟩ := ih i2 U (by omega) (by omega) k3 (by omega) (by omega)
        exact ⟨r1,by rw [r2,hU2]⟩
theorem wV (d : Array (Int × Int × Int × Int × Int)) (a b : Nat) (hab : a + 1 < b) (hb : b ≤ d.size) (hs : d.size ≤ 1000000000) :
    AO d.toList (a : Int) (b : Int) = some ((partialInsertionSort Aw d a b).2,(partialInsertionSort Aw d a b).1.toList) ∧ (partialInsertionSort Aw d a b).1.size = d.size := by
  unfold AO partialInsertionSort
  rw [Ad (by omega),show (a : Int) + 1 = ((a + 1 : Nat) : Int) by omega]
  exact jG hab 5 (a + 1) d (by omega) (by omega) (by omega) hb hs
theorem P8 {a b : Nat} (hab : a + 12 < b) (st : UInt64 × Array (Int × Int × Int × Int × Int)) (idx : Nat) (h1 : a ≤ idx) (h2 : idx ≤ a + (b - a) / 4 * 2 + 1) (hb : b ≤ st.2.size) (hs : st.2.size ≤ 1000000000) :
    BH (a : Int) (b : Int) ((1 <<< bitsLen (b - a) : Nat) : Int) (st.2.toList,(idx : Int),(st.1.toNat : Int)) = some (.inl ((breakStep a (b - a) (1 <<< bitsLen (b - a)) st idx).2.toList,((idx + 1 : Nat) : Int),((breakStep a (b - a) (1 <<< bitsLen (b - a)) st idx).1.toNat : Int))) ∧ (breakStep a (b - a) (1 <<< bitsLen (b - a)) st idx).2.size = st.2.size := by
  refine ⟨?_,by unfold breakStep; simp only []; rw [size_swp]⟩
  have hn : CB (st.1.toNat : Int) = (((xorNext st.1).toNat : Int),((xorNext st.1).toNat : Int)) := by
    have hx : st.1.toNat < 18446744073709551616 := st.1.toNat_lt
    unfold CB
    have q1 := cM (x := st.1.toNat) 13 8192 (by decide) (by decide)
    have q1' : JW .u64 (st.1.toNat : Int) 13 = ((st.1.toNat * 8192 % 18446744073709551616 : Nat) : Int) := q1
    rw [q1',eJ hx (by omega)]
    have hA : st.1.toNat ^^^ (st.1.toNat * 8192 % 18446744073709551616) < 18446744073709551616 := mX hx (by omega)
    rw [xorNext_toNat]
    unfold xorNextN
    simp only []
    generalize st.1.toNat ^^^ (st.1.toNat * 8192 % 18446744073709551616) = A at hA ⊢
    have q2 : Ms .u64 (A : Int) 7 = ((A / 128 : Nat) : Int) := fT (x := A) 7 128 (by decide) (by decide)
    rw [q2,eJ hA (by omega)]
    have hB : A ^^^ (A / 128) < 18446744073709551616 := mX hA (by omega)
    generalize A ^^^ (A / 128) = B at hB ⊢
    have q3 : JW .u64 (B : Int) 17 = ((B * 131072 % 18446744073709551616 : Nat) : Int) := cM (x := B) 17 131072 (by decide) (by decide)
    rw [q3,eJ hB (by omega)]
  have e1 : w64 ((b : Int) - (a : Int)) = ((b - a : Nat) : Int) := by rw [Ad (by omega)]; omega
  have e2 : w64 (Int.tdiv ((b - a : Nat) : Int) 4) = (((b - a) / 4 : Nat) : Int) := by rw [Int.tdiv_eq_ediv_of_nonneg (by omega),Ad (by omega)]; omega
  have f2 : w64 ((a : Int) + w64 ((((b - a) / 4 : Nat) : Int) * 2)) = ((a + (b - a) / 4 * 2 : Nat) : Int) := by rw [Ad (x := (((b - a) / 4 : Nat) : Int) * 2) (by omega),Ad (by omega)]; omega
  have f3 : w64 (((a + (b - a) / 4 * 2 : Nat) : Int) + 1) = ((a + (b - a) / 4 * 2 + 1 : Nat) : Int) := by rw [Ad (by omega)]; omega
  have hm1 : 1 ≤ 1 <<< bitsLen (b - a) := by rw [Nat.one_shiftLeft]; exact Nat.two_pow_pos _
  have hm2 : 1 <<< bitsLen (b - a) ≤ 2 * (b - a) := by rw [Nat.one_shiftLeft]; exact two_pow_bitsLen_le (by omega)
  unfold breakStep
  generalize 1 <<< bitsLen (b - a) = md at hm1 hm2 ⊢
  have hr : (xorNext st.1).toNat < 18446744073709551616 := (xorNext st.1).toNat_lt
  rw [BH,e1,e2,f2,f3,if_pos (by omega),hn]
  simp only []
  rw [show ((md : Nat) : Int) - 1 = ((md - 1 : Nat) : Int) by omega,cL (x := md - 1) (by omega),wG hr (by omega)]
  have ho : (xorNext st.1).toNat &&& (md - 1) ≤ md - 1 := Nat.and_le_right
  generalize (xorNext st.1).toNat &&& (md - 1) = ot at ho ⊢
  rw [Ad (x := (ot : Int)) (by omega)]
  have hpick : (if ((b - a : Nat) : Int) ≤ (ot : Int) then some (w64 ((ot : Int) - ((b - a : Nat) : Int))) else some (ot : Int)) = some (((if ot ≥ b - a then ot - (b - a) else ot : Nat)) : Int) := by
    by_cases c : ot ≥ b - a
    · rw [if_pos (by omega),if_pos c,Ad (by omega)]; congr 1; omega
    · rw [if_neg (by omega),if_neg c]
  have hlt : (if ot ≥ b - a then ot - (b - a) else ot) < b - a := by split <;> omega
  rw [hpick,Option.bind_some]
  generalize (if ot ≥ b - a then ot - (b - a) else ot) = o2 at hlt ⊢
  rw [Ad (x := (a : Int) + (o2 : Int)) (by omega),show (a : Int) + (o2 : Int) = ((a + o2 : Nat) : Int) by omega]
  simp only [Hx (d := st.2) (show a + o2 < st.2.size by omega),Hx (d := st.2) (show idx < st.2.size by omega),Option.bind_some,KX,Hx (show a + o2 < (st.2.setIfInBounds idx st.2[a + o2]!).size by simp; omega)]
  rw [Ad (by omega)]; rfl
theorem Aaj (d : Array (Int × Int × Int × Int × Int)) (a b : Nat) (hab : a + 12 < b) (hb : b ≤ d.size) (hs : d.size ≤ 1000000000) (hnp : DV ((b - a : Nat) : Int) = some ((1 <<< bitsLen (b - a) : Nat) : Int)) :
    A6 d.toList (a : Int) (b : Int) = some (breakPatterns d a b).toList ∧ (breakPatterns d a b).size = d.size := by
  unfold A6 breakPatterns
  have e1 : w64 ((b : Int) - (a : Int)) = ((b - a : Nat) : Int) := by rw [Ad (by omega)]; omega
  have e2 : w64 (Int.tdiv ((b - a : Nat) : Int) 4) = (((b - a) / 4 : Nat) : Int) := by rw [Int.tdiv_eq_ediv_of_nonneg (by omega),Ad (by omega)]; omega
  have f2 : w64 ((a : Int) + w64 ((((b - a) / 4 : Nat) : Int) * 2)) = ((a + (b - a) / 4 * 2 : Nat) : Int) := by rw [Ad (x := (((b - a) / 4 : Nat) : Int) * 2) (by omega),Ad (by omega)]; omega
  have f3 : w64 (((a + (b - a) / 4 * 2 : Nat) : Int) - 1) = ((a + (b - a) / 4 * 2 - 1 : Nat) : Int) := by rw [Ad (by omega)]; omega
  have hr : ((UInt64.ofNat (b - a)).toNat : Int) = ((b - a : Nat) : Int) := by
    rw [UInt64.toNat_ofNat_of_lt' (by show b - a < 18446744073709551616; omega)]
  simp only [if_pos (show b - a ≥ 8 by omega)]
  rw [e1,if_pos (by omega),e2,f2,f3,hnp,Option.bind_some,cL (x := b - a) (by omega), ← hr]
  obtain ⟨p1,q1⟩ := P8 hab (UInt64.ofNat (b - a),d) (a + (b - a) / 4 * 2 - 1) (by omega) (by omega) hb hs
  generalize breakStep a (b - a) (1 <<< bitsLen (b - a)) (UInt64.ofNat (b - a),d) (a + (b - a) / 4 * 2 - 1) = s1 at p1 q1 ⊢
  simp only [] at q1
  obtain ⟨p2,q2⟩ := P8 hab s1 (a + (b - a) / 4 * 2 - 1 + 1) (by omega) (by omega) (by omega) (by omega)
  generalize breakStep a (b - a) (1 <<< bitsLen (b - a)) s1 (a + (b - a) / 4 * 2 - 1 + 1) = s2 at p2 q2 ⊢
  obtain ⟨p3,q3⟩ := P8 hab s2 (a + (b - a) / 4 * 2 - 1 + 2) (by omega) (by omega) (by omega) (by omega)
  generalize breakStep a (b - a) (1 <<< bitsLen (b - a)) s2 (a + (b - a) / 4 * 2 - 1 + 2) = s3 at p3 q3 ⊢
  refine ⟨?_,by omega⟩
  have p1' : BH (a : Int) (b : Int) ((1 <<< bitsLen (b - a) : Nat) : Int) (d.toList,((a + (b - a) / 4 * 2 - 1 : Nat) : Int),((UInt64.ofNat (b - a)).toNat : Int)) = some (.inl (s1.2.toList,((a + (b - a) / 4 * 2 - 1 + 1 : Nat) : Int),(s1.1.toNat : Int))) := p1
  rw [A4 p1',A4 p2,A4 p3]
  refine Ak ?_
  have f4 : w64 (((a + (b - a) / 4 * 2 : Nat) : Int) + 1) = ((a + (b - a) / 4 * 2 + 1 : Nat) : Int) := by rw [Ad (by omega)]; omega
  rw [BH,e1,e2,f2,f4,if_neg (by omega)]
end
end Go.Proofs.YtkhiflmalgkjiaaGreat
