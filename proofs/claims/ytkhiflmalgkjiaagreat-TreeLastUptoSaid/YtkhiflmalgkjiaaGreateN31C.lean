/- Layer 31: compact rows of packets. Conditions: none. -/
import Derived.Test.YtkhiflmalgkjiaaGreateMW
set_option linter.unusedVariables false
set_option linter.unusedSimpArgs false
open Go Go.RowKit
namespace Go.Proofs.YtkhiflmalgkjiaaGreat
abbrev l9 (a b : Se) : Prop := AL b a = false
theorem XV {a b : Se} (h : l9 a b) (hn : a ≠ b) : AL a b = true := by
  cases h1 : AL a b with
  | true => rfl
  | false => exact absurd (H7.tot h1 h) hn
theorem nL {a b c : Se} (k : l9 a b) (h : AL b c = true) : AL a c = true := by
  by_cases e : a = b
  · rw [e]; exact h
  · exact H7.tr (XV k e) h
theorem eqS {x y : Se} : (x.1 = y.1 ∧ x.2.1 = y.2.1 ∧ x.2.2.1 = y.2.2.1 ∧ x.2.2.2.1 = y.2.2.2.1 ∧ x.2.2.2.2 = y.2.2.2.2) ↔ x = y := by
  simp only [Prod.ext_iff]
theorem neS {x y : Se} : (!(decide (x.1 = y.1 ∧ x.2.1 = y.2.1 ∧ x.2.2.1 = y.2.2.1 ∧ x.2.2.2.1 = y.2.2.2.1 ∧ x.2.2.2.2 = y.2.2.2.2))) = true ↔ x ≠ y := by
  rw [Bool.not_eq_true',decide_eq_false_iff_not,eqS]
theorem Kd {L : List Se} (hs : L.Pairwise l9) {i j : Nat} (hij : i ≤ j) (hj : j < L.length) : l9 (L[i]'(by omega)) L[j] := by
  rcases Nat.lt_or_ge i j with h | h
  · exact List.pairwise_iff_getElem.1 hs i j (by omega) hj h
  · obtain rfl : i = j := by omega
    exact H7.irr _
theorem Nn {L : List Se} {x : Se} {m : Nat} : x ∈ L.take m ↔ ∃ i, ∃ h : i < L.length,i < m ∧ L[i] = x := by
  constructor
  · intro h
    obtain ⟨i,hi,e⟩ := List.mem_iff_getElem.1 h
    rw [List.length_take] at hi
    exact ⟨i,by omega,by omega,by rw [← e,List.getElem_take]⟩
  · rintro ⟨i,h1,h2,e⟩
    exact List.mem_iff_getElem.2 ⟨i,by rw [List.length_take]; omega,by rw [List.getElem_take,e]⟩
theorem W0 {L : List Se} (hl : L.length ≤ 1000000) (hs : L.Pairwise l9) {k : Nat} (hk : k < L.length) :
    ∀ (d j q : Nat) (X : List Se),k + j + d = L.length → X.length = L.length → k ≤ q → q + 1 ≤ k + j → (∀ i,q ≤ i → X[i]? = L[i]?) → (X.take q).Pairwise (fun x y => AL x y = true) → (∀ x,x ∈ X.take q ↔ x ∈ L.take (k + j)) → 1 ≤ j →
    ∃ (X' : List Se) (q' : Nat),Ah (Bc L (k : Int)) (X,(q : Int),(j : Int)) = some (X',(q' : Int)) ∧ X'.length = L.length ∧ q' ≤ L.length ∧ (X'.take q').Pairwise (fun x y => AL x y = true) ∧ ∀ x,x ∈ X'.take q' ↔ x ∈ L := by
  intro d
  induction d with
  | zero =>
    intro j q X h1 h2 h3 h4 h5 h6 h7 h8
    refine ⟨X,q,Ak ?_,h2,by omega,h6,fun x => by rw [h7 x,List.take_of_length_le (by omega)]⟩
    rw [Bc,OK (by omega),Option.bind_some,if_neg (by simp; omega)]
  | succ d ih =>
    intro j q X h1 h2 h3 h4 h5 h6 h7 h8
    have hkj : k + j < L.length := by omega
    have hdrop : (X.take ((L.length : Int)).toNat).drop ((k : Int)).toNat = X.drop k := by simp [← h2]
    have hx1 : ix (X.drop k) (j : Int) = some L[k + j] := A5 (by rw [List.getElem?_drop,h5 _ (by omega),List.getElem?_eq_getElem hkj])
    have hx2 : ix (X.drop k) ((j - 1 : Nat) : Int) = some (L[k + (j - 1)]'(by omega)) := A5 (by rw [List.getElem?_drop,h5 _ (by omega),List.getElem?_eq_getElem (by omega)])
    have hq : ix X (q : Int) = some (X[q]'(by omega)) := A5 (List.getElem?_eq_getElem _)
    have hstep := Kd hs (show k + (j - 1) ≤ k + j by omega) hkj
    have hhead : Bc L (k : Int) (X,(q : Int),(j : Int)) = (if L[k + j] ≠ L[k + (j - 1)]'(by omega) then some (.inl (AP X (q : Int) L[k + j],((q + 1 : Nat) : Int),((j + 1 : Nat) : Int))) else some (.inl (X,(q : Int),((j + 1 : Nat) : Int)))) := by
      rw [Bc,OK (by omega),Option.bind_some,hdrop,if_pos (by simp; omega),Ad (x := (j : Int) - 1) (by omega),show (j : Int) - 1 = ((j - 1 : Nat) : Int) by omega,hx1,Option.bind_some,hx2,Option.bind_some]
      by_cases c : L[k + j] ≠ L[k + (j - 1)]'(by omega)
      · rw [if_pos (neS.2 c),if_pos c,Option.bind_some,hq,Option.bind_some,Option.bind_some,Ad (by omega),Ad (by omega)]; rfl
      · rw [if_neg (fun h => c (neS.1 h)),if_neg c,Option.bind_some,Ad (by omega)]; rfl
    by_cases c : L[k + j] ≠ L[k + (j - 1)]'(by omega)
    · rw [A4 (by rw [hhead,if_pos c])]
      have hset : AP X (q : Int) L[k + j] = X.set q L[k + j] := by unfold AP; simp
      have htake : (X.set q L[k + j]).take (q + 1) = X.take q ++ [L[k + j]] := by
        rw [List.take_succ_eq_append_getElem (by simp; omega),List.getElem_set_self,List.take_set_of_le (Nat.le_refl _)]
      rw [hset]
      refine ih (j + 1) (q + 1) _ (by omega) (by simp [h2]) (by omega) (by omega) (fun i hi => ?_) ?_ (fun x => ?_) (by omega)
      · rw [List.getElem?_set_ne (by omega)]; exact h5 i (by omega)
      · rw [htake,List.pairwise_append]
        refine ⟨h6,List.pairwise_singleton _ _,fun a ha b hb => ?_⟩
        rw [List.mem_singleton.1 hb]
        obtain ⟨i,i1,i2,i3⟩ := Nn.1 ((h7 a).1 ha)
        have := Kd hs (show i ≤ k + (j - 1) by omega) (by omega)
        rw [← i3]
        exact nL this (XV hstep (Ne.symm c))
      · rw [htake,List.mem_append,List.mem_singleton,h7 x,show k + (j + 1) = (k + j) + 1 by omega,List.take_succ_eq_append_getElem hkj,List.mem_append,List.mem_singleton]
    · rw [A4 (by rw [hhead,if_neg c])]
      refine ih (j + 1) q X (by omega) h2 h3 (by omega) h5 h6 (fun x => ?_) (by omega)
      rw [h7 x,show k + (j + 1) = (k + j) + 1 by omega,List.take_succ_eq_append_getElem hkj,List.mem_append,List.mem_singleton]
      constructor
      · exact .inl
      · rintro (h | h)
        · exact h
        · rw [h,Decidable.not_not.1 c]
          exact Nn.2 ⟨k + (j - 1),by omega,by omega,rfl⟩
theorem Qk {L : List Se} (hl : L.length ≤ 1000000) (hs : L.Pairwise l9) : ∃ R,A8 L = some R ∧ R.Pairwise (fun x y => AL x y = true) ∧ R.length ≤ L.length ∧ ∀ x,x ∈ R ↔ x ∈ L := by
  unfold A8
  by_cases c : L.length < 2
  · rw [if_pos (by omega)]
    refine ⟨L,rfl, ?_,Nat.le_refl _,fun _ => Iff.rfl⟩
    match L,c with
    | [],_ => exact List.Pairwise.nil
    | [a],_ => exact List.pairwise_singleton _ _
  · rw [if_neg (by omega)]
    have key : ∀ (d k : Nat),k + d = L.length → 1 ≤ k → (L.take k).Pairwise (fun x y => AL x y = true) → ∃ R,GO (Ah (AY L) (k : Int)) (fun _ => some L) = some R ∧ R.Pairwise (fun x y => AL x y = true) ∧ R.length ≤ L.length ∧ ∀ x,x ∈ R ↔ x ∈ L := by
      intro d
      induction d with
      | zero =>
        intro k hk h1 hp
        rw [List.take_of_length_le (by omega)] at hp
        exact ⟨L,by rw [Ak (by rw [AY,if_neg (by omega)])]; rfl,hp,Nat.le_refl _,fun _ => Iff.rfl⟩
      | succ d ih =>
        intro k hk h1 hp
        have hkl : k < L.length := by omega
        have hx1 : ix L (k : Int) = some L[k] := A5 (List.getElem?_eq_getElem hkl)
        have hx2 : ix L ((k - 1 : Nat) : Int) = some (L[k - 1]'(by omega)) := A5 (List.getElem?_eq_getElem (by omega))
        have e1 : w64 ((k : Int) - 1) = ((k - 1 : Nat) : Int) := by rw [Ad (by omega)]; omega
        by_cases c2 : L[k] = L[k - 1]'(by omega)
        · obtain ⟨X,q,a1,a2,a3,a4,a5⟩ := W0 hl hs hkl (L.length - (k + 1)) 1 k L (by omega) rfl (Nat.le_refl _) (Nat.le_refl _) (fun _ _ => rfl) hp (fun x => by
            rw [List.take_succ_eq_append_getElem hkl,List.mem_append,List.mem_singleton]
            constructor
            · exact .inl
            · rintro (h | h)
              · exact h
              · rw [h,c2]; exact Nn.2 ⟨k - 1,by omega,by omega,rfl⟩) (Nat.le_refl _)
          refine ⟨X.take q, ?_,a4,by rw [List.length_take]; omega,a5⟩
          have hst : AY L (k : Int) = some (.inr (.inr (X.take q))) := by
            rw [AY,if_pos (by omega),hx1,Option.bind_some,e1,hx2,Option.bind_some,if_pos (eqS.2 c2),OK (by omega),Option.bind_some,show Ah (Bc L (k : Int)) (L,(k : Int),1) = some (X,(q : Int)) from a1,Option.bind_some]
            simp only []
            rw [OK (by omega),Option.bind_some]
            have hd : ((X.take ((X.length : Int)).toNat).drop ((q : Int)).toNat).length = X.length - q := by simp
            rw [hd]
            have hspl : sI X (q : Int) (List.replicate (X.length - q) ((0,(0,0,0,0)) : Se)) = some (X.take q ++ List.replicate (X.length - q) ((0,(0,0,0,0)) : Se) ++ X.drop (q + (X.length - q))) := by
              unfold sI
              rw [if_pos (by simp; omega)]; simp
            rw [hspl,Option.bind_some,OK (by simp; omega),Option.bind_some]
            have ht : ((X.take q ++ List.replicate (X.length - q) ((0,(0,0,0,0)) : Se) ++ X.drop (q + (X.length - q))).take ((q : Int)).toNat).drop ((0 : Int)).toNat = X.take q := by
              rw [Int.toNat_natCast]
              show List.drop 0 _ = _
              rw [List.drop_zero,List.append_assoc,List.take_append_of_le_length (by simp; omega),List.take_take,Nat.min_self]
            rw [ht]; rfl
          rw [Ak hst]; rfl
        · have hst : AY L (k : Int) = some (.inl ((k + 1 : Nat) : Int)) := by
            rw [AY,if_pos (by omega),hx1,Option.bind_some,e1,hx2,Option.bind_some,if_neg (fun h => c2 (eqS.1 h)),Ad (by omega)]; rfl
          rw [A4 hst]
          refine ih (k + 1) (by omega) (by omega) ?_
          rw [List.take_succ_eq_append_getElem hkl,List.pairwise_append]
          refine ⟨hp,List.pairwise_singleton _ _,fun a ha b hb => ?_⟩
          rw [List.mem_singleton.1 hb]
          obtain ⟨i,i1,i2,i3⟩ := Nn.1 ha
          have h2 := Kd hs (show i ≤ k - 1 by omega) (by omega)
          have h3 := Kd hs (show k - 1 ≤ k by omega) hkl
          rw [← i3]
          exact nL h2 (XV h3 (Ne.symm c2))
    exact key (L.length - 1) 1 (by omega) (Nat.le_refl _) (by
      cases L with
      | nil => exact absurd (by simp) c
      | cons a l => exact List.pairwise_singleton _ _)
theorem oZ {a b : Se} (h : AL a b = true) : l9 a b := by
  cases h1 : AL b a with
  | false => exact h1
  | true => have := H7.tr h h1; rw [H7.irr] at this; cases this
theorem WJ {L : List Se} (hA : J3 AL L) (hl : L.length ≤ 1000000) : A8 L = some L := by
  obtain ⟨R,h1,h2,_,h3⟩ := Qk hl (hA.imp fun h => oZ h)
  rw [h1,LP H7 h2 hA h3]
def kV : List Se → Bool
  | [] => true
  | x :: l => (match l with | [] => true | y :: _ => AL x y) && kV l
theorem YG : ∀ {l : List Se},kV l = true → J3 AL l
  | [],_ => List.Pairwise.nil
  | [x],_ => List.pairwise_singleton _ _
  | x :: y :: l,h => by
    unfold kV at h
    rw [Bool.and_eq_true] at h
    have ih := YG h.2
    refine List.pairwise_cons.2 ⟨fun z hz => ?_,ih⟩
    rcases List.mem_cons.1 hz with rfl | hz
    · exact h.1
    · exact H7.tr h.1 ((List.pairwise_cons.1 ih).1 z hz)
abbrev xU (l : List Se) : Bool := kV l && decide (l.length ≤ 1000)
theorem XK {l : List Se} (h : xU l = true) : J3 AL l ∧ l.length ≤ 1000 := by
  rw [Bool.and_eq_true] at h
  exact ⟨YG h.1,of_decide_eq_true h.2⟩
theorem eL {L : List Se} (hl : L.length ≤ 1000000000) : ∃ L',AK L = some L' ∧ L'.Perm L ∧ L'.Pairwise l9 := by
  obtain ⟨L',h1,h2,h3⟩ := eZ gM (L := L) hl
  refine ⟨L', ?_,h2,h3.imp fun {x y} h => by rw [OM] at h; exact h⟩
  unfold AK
  rw [XS hl,Option.bind_some,h1,Option.bind_some]
end Go.Proofs.YtkhiflmalgkjiaaGreat
