/- Layer 31: compact rows of packets. Conditions: none. -/
import Derived.Test.YtkhiflmalgkjiaaGreatfMW
set_option linter.unusedVariables false
set_option linter.unusedSimpArgs false
open Go Go.RowKit
namespace Go.Proofs.YtkhiflmalgkjiaaGreat
abbrev nM (a b : Se) : Prop := AQ b a = false
theorem Yd {a b : Se} (h : nM a b) (hn : a ≠ b) : AQ a b = true := by
  cases h1 : AQ a b with
  | true => rfl
  | false => exact absurd (Gz.tot h1 h) hn
theorem nI {a b c : Se} (k : nM a b) (h : AQ b c = true) : AQ a c = true := by
  by_cases e : a = b
  · rw [e]; exact h
  · exact Gz.tr (Yd k e) h
theorem vX {x y : Se} : (x.1 = y.1 ∧ x.2.1 = y.2.1 ∧ x.2.2.1 = y.2.2.1 ∧ x.2.2.2.1 = y.2.2.2.1 ∧ x.2.2.2.2 = y.2.2.2.2) ↔ x = y := by
  simp only [Prod.ext_iff]
theorem zA {x y : Se} : (!(decide (x.1 = y.1 ∧ x.2.1 = y.2.1 ∧ x.2.2.1 = y.2.2.1 ∧ x.2.2.2.1 = y.2.2.2.1 ∧ x.2.2.2.2 = y.2.2.2.2))) = true ↔ x ≠ y := by
  rw [Bool.not_eq_true',decide_eq_false_iff_not,vX]
theorem J8 {L : List Se} (hs : L.Pairwise nM) {i j : Nat} (hij : i ≤ j) (hj : j < L.length) : nM (L[i]'(by omega)) L[j] := by
  rcases Nat.lt_or_ge i j with h | h
  · exact List.pairwise_iff_getElem.1 hs i j (by omega) hj h
  · obtain rfl : i = j := by omega
    exact Gz.irr _
theorem Nj {L : List Se} {x : Se} {m : Nat} : x ∈ L.take m ↔ ∃ i, ∃ h : i < L.length,i < m ∧ L[i] = x := by
  constructor
  · intro h
    obtain ⟨i,hi,e⟩ := List.mem_iff_getElem.1 h
    rw [List.length_take] at hi
    exact ⟨i,by omega,by omega,by rw [← e,List.getElem_take]⟩
  · rintro ⟨i,h1,h2,e⟩
    exact List.mem_iff_getElem.2 ⟨i,by rw [List.length_take]; omega,by rw [List.getElem_take,e]⟩
theorem WQ {L : List Se} (hl : L.length ≤ 1000000) (hs : L.Pairwise nM) {k : Nat} (hk : k < L.length) :
    ∀ (d j q : Nat) (X : List Se),k + j + d = L.length → X.length = L.length → k ≤ q → q + 1 ≤ k + j → (∀ i,q ≤ i → X[i]? = L[i]?) → (X.take q).Pairwise (fun x y => AQ x y = true) → (∀ x,x ∈ X.take q ↔ x ∈ L.take (k + j)) → 1 ≤ j →
    ∃ (X' : List Se) (q' : Nat),Aj (Bb L (k : Int)) (X,(q : Int),(j : Int)) = some (X',(q' : Int)) ∧ X'.length = L.length ∧ q' ≤ L.length ∧ (X'.take q').Pairwise (fun x y => AQ x y = true) ∧ ∀ x,x ∈ X'.take q' ↔ x ∈ L := by
  intro d
  induction d with
  | zero =>
    intro j q X h1 h2 h3 h4 h5 h6 h7 h8
    refine ⟨X,q,Ap ?_,h2,by omega,h6,fun x => by rw [h7 x,List.take_of_length_le (by omega)]⟩
    rw [Bb,ON (by omega),za,if_neg (by simp; omega)]
  | succ d ih =>
    intro j q X h1 h2 h3 h4 h5 h6 h7 h8
    have hkj : k + j < L.length := by omega
    have hdrop : (X.take ((L.length : Int)).toNat).drop ((k : Int)).toNat = X.drop k := by simp [← h2]
    have hx1 : ix (X.drop k) (j : Int) = some L[k + j] := A9 (by rw [List.getElem?_drop,h5 _ (by omega),zb hkj])
    have hx2 : ix (X.drop k) ((j - 1 : Nat) : Int) = some (L[k + (j - 1)]'(by omega)) := A9 (by rw [List.getElem?_drop,h5 _ (by omega),zb (by omega)])
    have hq : ix X (q : Int) = some (X[q]'(by omega)) := A9 (zb _)
    have hstep := J8 hs (show k + (j - 1) ≤ k + j by omega) hkj
    have hhead : Bb L (k : Int) (X,(q : Int),(j : Int)) = (if L[k + j] ≠ L[k + (j - 1)]'(by omega) then some (.inl (AU X (q : Int) L[k + j],((q + 1 : Nat) : Int),((j + 1 : Nat) : Int))) else some (.inl (X,(q : Int),((j + 1 : Nat) : Int)))) := by
      rw [Bb,ON (by omega),za,hdrop,if_pos (by simp; omega),Ah (x := (j : Int) - 1) (by omega),show (j : Int) - 1 = ((j - 1 : Nat) : Int) by omega,hx1,za,hx2,za]
      by_cases c : L[k + j] ≠ L[k + (j - 1)]'(by omega)
      · rw [if_pos (zA.2 c),if_pos c,za,hq,za,za,Ah (by omega),Ah (by omega)]; rfl
      · rw [if_neg (fun h => c (zA.1 h)),if_neg c,za,Ah (by omega)]; rfl
    by_cases c : L[k + j] ≠ L[k + (j - 1)]'(by omega)
    · rw [Bi (by rw [hhead,if_pos c])]
      have hset : AU X (q : Int) L[k + j] = X.set q L[k + j] := by unfold AU; simp
      have htake : (X.set q L[k + j]).take (q + 1) = X.take q ++ [L[k + j]] := by
        rw [List.take_succ_eq_append_getElem (by simp; omega),List.getElem_set_self,List.take_set_of_le (Nat.le_refl _)]
      rw [hset]
      refine ih (j + 1) (q + 1) _ (by omega) (by simp [h2]) (by omega) (by omega) (fun i hi => ?_) ?_ (fun x => ?_) (by omega)
      · rw [List.getElem?_set_ne (by omega)]; exact h5 i (by omega)
      · rw [htake,List.pairwise_append]
        refine ⟨h6,List.pairwise_singleton _ _,fun a ha b hb => ?_⟩
        rw [List.mem_singleton.1 hb]
        obtain ⟨i,i1,i2,i3⟩ := Nj.1 ((h7 a).1 ha)
        have := J8 hs (show i ≤ k + (j - 1) by omega) (by omega)
        rw [← i3]
        exact nI this (Yd hstep (Ne.symm c))
      · rw [htake,List.mem_append,List.mem_singleton,h7 x,show k + (j + 1) = (k + j) + 1 by omega,List.take_succ_eq_append_getElem hkj,List.mem_append,List.mem_singleton]
    · rw [Bi (by rw [hhead,if_neg c])]
      refine ih (j + 1) q X (by omega) h2 h3 (by omega) h5 h6 (fun x => ?_) (by omega)
      rw [h7 x,show k + (j + 1) = (k + j) + 1 by omega,List.take_succ_eq_append_getElem hkj,List.mem_append,List.mem_singleton]
      constructor
      · exact .inl
      · rintro (h | h)
        · exact h
        · rw [h,Decidable.not_not.1 c]
          exact Nj.2 ⟨k + (j - 1),by omega,by omega,rfl⟩
theorem Qo {L : List Se} (hl : L.length ≤ 1000000) (hs : L.Pairwise nM) : ∃ R,A7 L = some R ∧ R.Pairwise (fun x y => AQ x y = true) ∧ R.length ≤ L.length ∧ ∀ x,x ∈ R ↔ x ∈ L := by
  unfold A7
  by_cases c : L.length < 2
  · rw [if_pos (by omega)]
    refine ⟨L,rfl, ?_,Nat.le_refl _,fun _ => Iff.rfl⟩
    match L,c with
    | [],_ => exact List.Pairwise.nil
    | [a],_ => exact List.pairwise_singleton _ _
  · rw [if_neg (by omega)]
    have key : ∀ (d k : Nat),k + d = L.length → 1 ≤ k → (L.take k).Pairwise (fun x y => AQ x y = true) → ∃ R,GN (Aj (AZ L) (k : Int)) (fun _ => some L) = some R ∧ R.Pairwise (fun x y => AQ x y = true) ∧ R.length ≤ L.length ∧ ∀ x,x ∈ R ↔ x ∈ L := by
      intro d
      induction d with
      | zero =>
        intro k hk h1 hp
        rw [List.take_of_length_le (by omega)] at hp
        exact ⟨L,by rw [Ap (by rw [AZ,if_neg (by omega)])]; rfl,hp,Nat.le_refl _,fun _ => Iff.rfl⟩
      | succ d ih =>
        intro k hk h1 hp
        have hkl : k < L.length := by omega
        have hx1 : ix L (k : Int) = some L[k] := A9 (zb hkl)
        have hx2 : ix L ((k - 1 : Nat) : Int) = some (L[k - 1]'(by omega)) := A9 (zb (by omega))
        have e1 : w64 ((k : Int) - 1) = ((k - 1 : Nat) : Int) := by rw [Ah (by omega)]; omega
        by_cases c2 : L[k] = L[k - 1]'(by omega)
        · obtain ⟨X,q,a1,a2,a3,a4,a5⟩ := WQ hl hs hkl (L.length - (k + 1)) 1 k L (by omega) rfl (Nat.le_refl _) (Nat.le_refl _) (fun _ _ => rfl) hp (fun x => by
            rw [List.take_succ_eq_append_getElem hkl,List.mem_append,List.mem_singleton]
            constructor
            · exact .inl
            · rintro (h | h)
              · exact h
              · rw [h,c2]; exact Nj.2 ⟨k - 1,by omega,by omega,rfl⟩) (Nat.le_refl _)
          refine ⟨X.take q, ?_,a4,by rw [List.length_take]; omega,a5⟩
          have hst : AZ L (k : Int) = some (.inr (.inr (X.take q))) := by
            rw [AZ,if_pos (by omega),hx1,za,e1,hx2,za,if_pos (vX.2 c2),ON (by omega),za,show Aj (Bb L (k : Int)) (L,(k : Int),1) = some (X,(q : Int)) from a1,za]
            simp only []
            rw [ON (by omega),za]
            have hd : ((X.take ((X.length : Int)).toNat).drop ((q : Int)).toNat).length = X.length - q := by simp
            rw [hd]
            have hspl : tP X (q : Int) (List.replicate (X.length - q) ((0,(0,0,0,0)) : Se)) = some (X.take q ++ List.replicate (X.length - q) ((0,(0,0,0,0)) : Se) ++ X.drop (q + (X.length - q))) := by
              unfold tP
              rw [if_pos (by simp; omega)]; simp
            rw [hspl,za,ON (by simp; omega),za]
            have ht : ((X.take q ++ List.replicate (X.length - q) ((0,(0,0,0,0)) : Se) ++ X.drop (q + (X.length - q))).take ((q : Int)).toNat).drop ((0 : Int)).toNat = X.take q := by
              rw [Int.toNat_natCast]
              show List.drop 0 _ = _
              rw [List.drop_zero,List.append_assoc,List.take_append_of_le_length (by simp; omega),List.take_take,Nat.min_self]
            rw [ht]; rfl
          rw [Ap hst]; rfl
        · have hst : AZ L (k : Int) = some (.inl ((k + 1 : Nat) : Int)) := by
            rw [AZ,if_pos (by omega),hx1,za,e1,hx2,za,if_neg (fun h => c2 (vX.1 h)),Ah (by omega)]; rfl
          rw [Bi hst]
          refine ih (k + 1) (by omega) (by omega) ?_
          rw [List.take_succ_eq_append_getElem hkl,List.pairwise_append]
          refine ⟨hp,List.pairwise_singleton _ _,fun a ha b hb => ?_⟩
          rw [List.mem_singleton.1 hb]
          obtain ⟨i,i1,i2,i3⟩ := Nj.1 ha
          have h2 := J8 hs (show i ≤ k - 1 by omega) (by omega)
          have h3 := J8 hs (show k - 1 ≤ k by omega) hkl
          rw [← i3]
          exact nI h2 (Yd h3 (Ne.symm c2))
    exact key (L.length - 1) 1 (by omega) (Nat.le_refl _) (by
      cases L with
      | nil => exact absurd (by simp) c
      | cons a l => exact List.pairwise_singleton _ _)
theorem sZ {a b : Se} (h : AQ a b = true) : nM a b := by
  cases h1 : AQ b a with
  | false => exact h1
  | true => have := Gz.tr h h1; rw [Gz.irr] at this; cases this
theorem Xj {L : List Se} (hA : Ku AQ L) (hl : L.length ≤ 1000000) : A7 L = some L := by
  obtain ⟨R,h1,h2,_,h3⟩ := Qo hl (hA.imp fun h => sZ h)
  rw [h1,Nl Gz h2 hA h3]
def jZ : List Se → Bool
  | [] => true
  | x :: l => (match l with | [] => true | y :: _ => AQ x y) && jZ l
theorem YN : ∀ {l : List Se},jZ l = true → Ku AQ l
  | [],_ => List.Pairwise.nil
  | [x],_ => List.pairwise_singleton _ _
  | x :: y :: l,h => by
    unfold jZ at h
    rw [zg] at h
    have ih := YN h.2
    refine List.pairwise_cons.2 ⟨fun z hz => ?_,ih⟩
    rcases List.mem_cons.1 hz with rfl | hz
    · exact h.1
    · exact Gz.tr h.1 ((List.pairwise_cons.1 ih).1 z hz)
abbrev y9 (l : List Se) : Bool := jZ l && decide (l.length ≤ 1000)
theorem XU {l : List Se} (h : y9 l = true) : Ku AQ l ∧ l.length ≤ 1000 := by
  rw [zg] at h
  exact ⟨YN h.1,of_decide_eq_true h.2⟩
theorem gK {L : List Se} (hl : L.length ≤ 1000000000) : ∃ L',AF L = some L' ∧ L'.Perm L ∧ L'.Pairwise nM := by
  obtain ⟨L',h1,h2,h3⟩ := fC cL (L := L) hl
  refine ⟨L', ?_,h2,h3.imp fun {x y} h => by rw [OB] at h; exact h⟩
  unfold AF
  rw [X9 hl,za,h1,za]
end Go.Proofs.YtkhiflmalgkjiaaGreat
