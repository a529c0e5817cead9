/- Layer 42: guards. Conditions: none. -/
import Derived.Test.YtflaelbmglmmcaaeLP
import Derived.Test.YtflaelbmglmmcaaeEV
import Derived.Test.YtflaelbmglmmcaaeM41
import Derived.Test.YtflaelbmglmmcaaeA8
namespace Go.Proofs.Ytflaelbmglmmcaa
set_option linter.unusedVariables false
set_option linter.unusedSimpArgs false
open Go Go.RowKit
theorem He {α : Type} (l : List α) (i : Int) (x : α) : (Ax l i x).length = l.length := by unfold Ax; rw [List.length_set]
theorem Oc (l : List (Int × Int × Int)) (hl : l.length ≤ 1000000000) : AG l = some l.reverse := by
  unfold AG
  refine My (fun s => ∃ k : Nat, k ≤ l.length ∧ s.2.1 = (k : Int) ∧ s.2.2 = (l.length : Int) - 1 - k ∧ s.1.length = l.length ∧ ∀ idx : Nat, idx < l.length → s.1[idx]? = if idx < k ∨ l.length ≤ idx + k then l[l.length - 1 - idx]? else l[idx]?) (fun s => l.length - s.2.1.toNat) _ ?_ _ ⟨0, by omega, rfl, by rw [BE (by omega)]; simp, rfl, fun idx hi => by rw [if_neg (by omega)]⟩
  rintro ⟨m, i, j⟩ ⟨k, hk, hi, hj, hm, hg⟩
  simp only at hi hj hm hg
  subst hi hj
  by_cases h : (k : Int) < (l.length : Int) - 1 - k
  · left
    have hj' : (l.length : Int) - 1 - k = ((l.length - 1 - k : Nat) : Int) := by omega
    have g1 : ix m ((l.length - 1 - k : Nat) : Int) = some (l[l.length - 1 - k]'(by omega)) := A9 (by rw [hg _ (by omega), if_neg (by omega), List.getElem?_eq_getElem (by omega)])
    have g2 : ix m (k : Int) = some (l[k]'(by omega)) := A9 (by rw [hg _ (by omega), if_neg (by omega), List.getElem?_eq_getElem (by omega)])
    have g3 : ∃ y, ix (Ax m (k : Int) (l[l.length - 1 - k]'(by omega))) ((l.length - 1 - k : Nat) : Int) = some y := by
      obtain ⟨y, h1, _⟩ := Gm (l := Ax m (k : Int) (l[l.length - 1 - k]'(by omega))) (i := ((l.length - 1 - k : Nat) : Int)) (by omega) (by rw [He]; omega)
      exact ⟨y, h1⟩
    obtain ⟨y, g3⟩ := g3
    refine ⟨(Ax (Ax m (k : Int) (l[l.length - 1 - k]'(by omega))) ((l.length - 1 - k : Nat) : Int) (l[k]'(by omega)), ((k + 1 : Nat) : Int), (l.length : Int) - 1 - ((k + 1 : Nat) : Int)), ?_, ⟨k + 1, by omega, rfl, rfl, by rw [He, He]; exact hm, fun idx hx => ?_⟩, by simp; omega⟩
    · simp only [AS]
      rw [if_pos h, hj', g1, Option.bind_some, g2, Option.bind_some, Option.bind_some, g3, Option.bind_some, BE (by omega), BE (by omega)]
      congr 4
      omega
    · unfold Ax
      rw [List.getElem?_set, List.getElem?_set, Int.toNat_natCast, Int.toNat_natCast, List.length_set]
      by_cases e1 : l.length - 1 - k = idx
      · rw [if_pos e1, if_pos (by omega), if_pos (by omega)]
        have : l.length - 1 - idx = k := by omega
        simp only [this]
        rw [List.getElem?_eq_getElem (by omega)]
      · rw [if_neg e1]
        by_cases e2 : k = idx
        · subst e2
          rw [if_pos rfl, if_pos (by omega), if_pos (by omega), List.getElem?_eq_getElem (by omega)]
        · rw [if_neg e2, hg idx hx]
          by_cases e3 : idx < k ∨ l.length ≤ idx + k
          · rw [if_pos e3, if_pos (by omega)]
          · rw [if_neg e3, if_neg (by omega)]
  · right
    simp only [AS]
    rw [if_neg h]
    have : m = l.reverse := by
      refine List.ext_getElem? fun idx => ?_
      by_cases hx : idx < l.length
      · rw [hg idx hx, List.getElem?_reverse hx]
        by_cases e : idx < k ∨ l.length ≤ idx + k
        · rw [if_pos e]
        · rw [if_neg e, show l.length - 1 - idx = idx by omega]
      · rw [List.getElem?_eq_none (by omega), List.getElem?_eq_none (by simp; omega)]
    rw [this]
abbrev G3 := Int × Int × Int
def J4 (l : List Ev) (m : List (Int × Int)) (e : Ev) : Int := match CE m e.2.2.1 with
  | some j => match l[j.toNat]? with | some q => Cu e q | none => 0
  | none => 1125899906842624
def gd (l : List Ev) : List (Int × Ev) → List (Int × Int) → List G3
  | [], _ => []
  | x :: X, m => if x.2.1 = 9 ∨ x.2.1 = 10 then gd l X (CY m x.2.2.2.1 x.1) else if x.2.1 = 8 then (x.2.2.2.1, x.2.2.2.2.2.1, J4 l m x.2) :: gd l X m else gd l X m
def Wf (n : Nat) (m : List (Int × Int)) : Prop := ∀ u j, CE m u = some j → 0 ≤ j ∧ j < n
theorem Wf.put {n : Nat} {m : List (Int × Int)} (h : Wf n m) {u i : Int} (hi : 0 ≤ i ∧ i < n) : Wf n (CY m u i) := fun v j hj => by
  rw [Fx] at hj
  by_cases c : v = u
  · rw [if_pos c] at hj; cases hj; exact hi
  · rw [if_neg c] at hj; exact h v j hj
theorem IC (l : List Ev) : ∀ (X : List (Int × Ev)) (m : List (Int × Int)), (gd l X m).length ≤ X.length
  | [], _ => Nat.le_refl _
  | x :: X, m => by
    unfold gd
    by_cases c : x.2.1 = 9 ∨ x.2.1 = 10
    · rw [if_pos c]; exact Nat.le_succ_of_le (IC l X _)
    · rw [if_neg c]
      by_cases d : x.2.1 = 8
      · rw [if_pos d]; exact Nat.succ_le_succ (IC l X m)
      · rw [if_neg d]; exact Nat.le_succ_of_le (IC l X m)
theorem H1 (l : List Ev) : ∀ (X : List (Int × Ev)) (acc : List G3) (m : List (Int × Int)), Wf l.length m → (∀ x ∈ X, 0 ≤ x.1 ∧ x.1 < l.length) → acc.length + X.length ≤ 1000000 → ∃ m', EH (Cn l) X (acc, m) = some (.inl (acc ++ gd l X m, m'))
  | [], acc, m, _, _, _ => ⟨m, by rw [show gd l [] m = [] from rfl, List.append_nil]; rfl⟩
  | x :: X, acc, m, hm, hX, ha => by
    have hx := hX x (List.mem_cons_self ..)
    have hX2 : ∀ y ∈ X, 0 ≤ y.1 ∧ y.1 < l.length := fun y hy => hX y (List.mem_cons_of_mem _ hy)
    rw [List.length_cons] at ha
    have kd : ((if x.2.1 = 9 then some true else some (decide (x.2.1 = 10))) : Option Bool) = some (decide (x.2.1 = 9 ∨ x.2.1 = 10)) := by
      by_cases a : x.2.1 = 9 <;> simp [a]
    rw [EH, Cn, kd, Option.bind_some, gd]
    by_cases c : x.2.1 = 9 ∨ x.2.1 = 10
    · rw [if_pos (decide_eq_true c), if_pos c, Option.bind_some]
      exact H1 l X acc _ (hm.put hx) hX2 (by omega)
    · rw [if_neg (by rw [decide_eq_true_eq]; exact c), if_neg c]
      by_cases d : x.2.1 = 8
      · rw [if_pos d, if_pos d]
        have ht : ((if ((CE m x.2.2.2.1).isSome) = true then (ix l ((CE m x.2.2.2.1).getD 0)).bind fun x7 => some (Cu x.2 x7) else some 1125899906842624) : Option Int) = some (J4 l m x.2) := by
          unfold J4
          cases hg : CE m x.2.2.2.1 with
          | none => rfl
          | some j =>
            obtain ⟨h0, h1⟩ := hm _ _ hg
            have hq : l[j.toNat]? = some (l[j.toNat]'(by omega)) := List.getElem?_eq_getElem (by omega)
            have hi : ix l j = some (l[j.toNat]'(by omega)) := by
              have := A9 hq
              rw [show ((j.toNat : Nat) : Int) = j by omega] at this; exact this
            rw [if_pos (show (some j).isSome = true from rfl)]
            show (ix l j).bind _ = _
            rw [hi]
            simp only [hq]; rfl
        rw [ht, Option.bind_some, Ek (by simp; omega), Option.bind_some, Option.bind_some]
        obtain ⟨m', h⟩ := H1 l X (acc ++ [(x.2.2.2.1, x.2.2.2.2.2.1, J4 l m x.2)]) m hm hX2 (by simp; omega)
        refine ⟨m', ?_⟩
        show EH (Cn l) X (acc ++ [(x.2.2.2.1, x.2.2.2.2.2.1, J4 l m x.2)], m) = _
        rw [h]; simp
      · rw [if_neg d, if_neg d, Option.bind_some]
        exact H1 l X acc m hm hX2 (by omega)
theorem JP (l : List Ev) (e : Ev) : ∀ (X : List (Int × Ev)) (m : List (Int × Int)), Wf l.length m → (∀ x ∈ X, 0 ≤ x.1 ∧ x.1 < l.length) → gd (l ++ [e]) X m = gd l X m
  | [], _, _, _ => rfl
  | x :: X, m, hm, hX => by
    have hx := hX x (List.mem_cons_self ..)
    have hX2 : ∀ y ∈ X, 0 ≤ y.1 ∧ y.1 < l.length := fun y hy => hX y (List.mem_cons_of_mem _ hy)
    have ht : J4 (l ++ [e]) m x.2 = J4 l m x.2 := by
      unfold J4
      cases hg : CE m x.2.2.2.1 with
      | none => rfl
      | some j =>
        obtain ⟨h0, h1⟩ := hm _ _ hg
        show (match (l ++ [e])[j.toNat]? with | some q => Cu x.2 q | none => 0) = _
        rw [List.getElem?_append_left (by omega)]
    rw [gd, gd, ht, JP l e X m hm hX2, JP l e X _ (hm.put hx) hX2]
theorem Me {l : List Ev} : ∀ x ∈ HJ l, 0 ≤ x.1 ∧ x.1 < l.length := fun x hx => by
  unfold HJ at hx
  rw [List.mem_reverse, List.mem_map] at hx
  obtain ⟨p, hp, rfl⟩ := hx
  have := List.mem_zipIdx hp
  show (0 : Int) ≤ (p.2 : Int) ∧ ((p.2 : Int) < (l.length : Int))
  omega
theorem Mb (l : List Ev) (e : Ev) : HJ (l ++ [e]) = ((l.length : Int), e) :: HJ l := by
  have := Ha (l := l ++ [e]) (k := l.length) (x := e) (by simp)
  rw [List.take_of_length_le (by simp), List.take_left' rfl] at this; exact this
theorem JD {α : Type} (l : List α) : (HJ l).length = l.length := by unfold HJ; simp
theorem MP (n : Nat) : Wf n [] := fun u j h => by cases h
def Cr (l : List Ev) : List G3 := (gd l (HJ l) []).reverse
theorem Gu (l : List Ev) : (Cr l).length ≤ l.length := by
  have := IC l (HJ l) []
  rw [JD] at this
  unfold Cr; rw [List.length_reverse]; exact this
theorem Lx {l : List Ev} (h : l.length ≤ 1000) : C6 l = some (Cr l) := by
  obtain ⟨m', hf⟩ := H1 l (HJ l) [] [] (MP _) Me (by rw [JD]; simp; omega)
  have hl := IC l (HJ l) []
  rw [JD] at hl
  unfold C6 back
  rw [if_pos (by omega), Option.bind_some, hf, List.nil_append]
  show (AG (gd l (HJ l) [])).bind _ = _
  rw [Oc _ (by omega)]; rfl
def LT (at_ : Int) (g : G3) : Bool := decide (g.2.1 ≤ at_) && decide (at_ ≤ g.2.2)
theorem Kj (at_ : Int) (G : List G3) (hG : G.length ≤ 1000000) : ∀ (X : List G3) (k : Nat), G.drop k = X → k ≤ G.length → ∃ r, AQ (Av G at_) (k : Int) = some r ∧ ((r = .inl () ∧ X.any (LT at_) = false) ∨ ∃ j : Int, r = .inr j ∧ 0 ≤ j ∧ X.any (LT at_) = true)
  | [], k, hX, hk => by
    have : G.length ≤ k := List.drop_eq_nil_iff.1 hX
    exact ⟨.inl (), A1 (by rw [Av, if_neg (by omega)]), .inl ⟨rfl, rfl⟩⟩
  | x :: X, k, hX, hk => by
    have hg : G[k]? = some x := by rw [← List.head?_drop, hX]; rfl
    have hlt := (List.getElem?_eq_some_iff.1 hg).1
    have hd : G.drop (k + 1) = X := by rw [← List.tail_drop, hX]; rfl
    by_cases c : LT at_ x = true
    · exact ⟨.inr (k : Int), A1 (by rw [Av, if_pos (by omega), A9 hg, Option.bind_some, show Bh x at_ = true from c, if_pos rfl]), .inr ⟨(k : Int), rfl, by omega, by rw [List.any_cons, c]; rfl⟩⟩
    · obtain ⟨r, e1, e2⟩ := Kj at_ G hG X (k + 1) hd (by omega)
      have cf : LT at_ x = false := by cases h : LT at_ x with | true => exact absurd h c | false => rfl
      refine ⟨r, by rw [B8 (s' := ((k + 1 : Nat) : Int)) (by rw [Av, if_pos (by omega), A9 hg, Option.bind_some, if_neg (show ¬ Bh x at_ = true from c), BE (by omega)]; rfl)]; exact e1, ?_⟩
      rw [List.any_cons, cf, Bool.false_or]; exact e2
theorem Lz {G : List G3} (hG : G.length ≤ 1000000) (C : List (Int × Int)) (at_ : Int) : Be (G, C) at_ = some (G.any (LT at_)) := by
  obtain ⟨r, e1, e2⟩ := Kj at_ G hG G 0 rfl (Nat.zero_le _)
  have e1 : AQ (Av G at_) 0 = some r := e1
  unfold Be AL AV
  show (((D7 (AQ (Av G at_) 0) fun _ => some (-1)).bind _).bind _) = _
  rw [e1]
  rcases e2 with ⟨rfl, h⟩ | ⟨j, rfl, h0, h⟩
  · rw [h]; rfl
  · rw [h]
    show some (decide (0 ≤ j)) = _
    rw [decide_eq_true h0]
end Go.Proofs.Ytflaelbmglmmcaa
