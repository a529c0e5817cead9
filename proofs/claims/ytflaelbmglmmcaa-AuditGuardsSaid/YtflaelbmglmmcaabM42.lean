/- Layer 42: audits. Conditions: none. -/
import Derived.Test.YtflaelbmglmmcaabLP
import Derived.Test.YtflaelbmglmmcaabEV
import Derived.Test.YtflaelbmglmmcaabA3
namespace Go.Proofs.Ytflaelbmglmmcaa
set_option linter.unusedVariables false
set_option linter.unusedSimpArgs false
open Go Go.RowKit
theorem HI {κ ν : Type} [DecidableEq κ] : ∀ (l : List (κ × ν)) (x : κ) (v : ν) (y : κ), CP (CM l x v) y = if y = x then some v else CP l y
  | [], x, v, y => by
    show (if y = x then some v else none) = _
    rfl
  | p :: l, x, v, y => by
    unfold CM
    by_cases c : x = p.1
    · rw [if_pos c]
      show (if y = x then some v else CP l y) = if y = x then some v else if y = p.1 then some p.2 else CP l y
      by_cases d : y = x
      · rw [if_pos d, if_pos d]
      · rw [if_neg d, if_neg d, if_neg (by rw [← c]; exact d)]
    · rw [if_neg c]
      show (if y = p.1 then some p.2 else CP (CM l x v) y) = if y = x then some v else if y = p.1 then some p.2 else CP l y
      rw [HI l x v y]
      by_cases d : y = p.1
      · rw [if_pos d, if_pos d, if_neg (by rw [d]; exact fun h => c h.symm)]
      · rw [if_neg d, if_neg d]
theorem Ga {α : Type} (l : List α) (i : Int) (x : α) : (Ap l i x).length = l.length := by unfold Ap; rw [List.length_set]
theorem KK (l : List (Int × Int × Int)) (hl : l.length ≤ 1000000000) : Aw l = some l.reverse := by
  unfold Aw
  refine JV (fun s => ∃ k : Nat, k ≤ l.length ∧ s.2.1 = (k : Int) ∧ s.2.2 = (l.length : Int) - 1 - k ∧ s.1.length = l.length ∧ ∀ idx : Nat, idx < l.length → s.1[idx]? = if idx < k ∨ l.length ≤ idx + k then l[l.length - 1 - idx]? else l[idx]?) (fun s => l.length - s.2.1.toNat) _ ?_ _ ⟨0, by omega, rfl, by rw [Ez (by omega)]; simp, rfl, fun idx hi => by rw [if_neg (by omega)]⟩
  rintro ⟨m, i, j⟩ ⟨k, hk, hi, hj, hm, hg⟩
  simp only at hi hj hm hg
  subst hi hj
  by_cases h : (k : Int) < (l.length : Int) - 1 - k
  · left
    have hj' : (l.length : Int) - 1 - k = ((l.length - 1 - k : Nat) : Int) := by omega
    have g1 : ix m ((l.length - 1 - k : Nat) : Int) = some (l[l.length - 1 - k]'(by omega)) := D6 (by rw [hg _ (by omega), if_neg (by omega), List.getElem?_eq_getElem (by omega)])
    have g2 : ix m (k : Int) = some (l[k]'(by omega)) := D6 (by rw [hg _ (by omega), if_neg (by omega), List.getElem?_eq_getElem (by omega)])
    have g3 : ∃ y, ix (Ap m (k : Int) (l[l.length - 1 - k]'(by omega))) ((l.length - 1 - k : Nat) : Int) = some y := by
      obtain ⟨y, h1, _⟩ := Ko (l := Ap m (k : Int) (l[l.length - 1 - k]'(by omega))) (i := ((l.length - 1 - k : Nat) : Int)) (by omega) (by rw [Ga]; omega)
      exact ⟨y, h1⟩
    obtain ⟨y, g3⟩ := g3
    refine ⟨(Ap (Ap m (k : Int) (l[l.length - 1 - k]'(by omega))) ((l.length - 1 - k : Nat) : Int) (l[k]'(by omega)), ((k + 1 : Nat) : Int), (l.length : Int) - 1 - ((k + 1 : Nat) : Int)), ?_, ⟨k + 1, by omega, rfl, rfl, by rw [Ga, Ga]; exact hm, fun idx hx => ?_⟩, by simp; omega⟩
    · simp only [AA]
      rw [if_pos h, hj', g1, Option.bind_some, g2, Option.bind_some, Option.bind_some, g3, Option.bind_some, Ez (by omega), Ez (by omega)]
      congr 4
      omega
    · unfold Ap
      rw [List.getElem?_set, List.getElem?_set, Int.toNat_natCast, Int.toNat_natCast, List.length_set]
      by_cases e1 : l.length - 1 - k = idx
      · rw [if_pos e1, if_pos (by omega), if_pos (by omega)]
        have : l.length - 1 - idx = k := by omega
        simp only [this]
        rw [List.getElem?_eq_getElem (by omega)]
      · rw [if_neg e1]
        by_cases e2 : k = idx
        · subst e2
          rw [if_pos rfl, if_pos (by omega), if_pos (by omega), List.getElem?_eq_getElem (by omega)]
        · rw [if_neg e2, hg idx hx]
          by_cases e3 : idx < k ∨ l.length ≤ idx + k
          · rw [if_pos e3, if_pos (by omega)]
          · rw [if_neg e3, if_neg (by omega)]
  · right
    simp only [AA]
    rw [if_neg h]
    have : m = l.reverse := by
      refine List.ext_getElem? fun idx => ?_
      by_cases hx : idx < l.length
      · rw [hg idx hx, List.getElem?_reverse hx]
        by_cases e : idx < k ∨ l.length ≤ idx + k
        · rw [if_pos e]
        · rw [if_neg e, show l.length - 1 - idx = idx by omega]
      · rw [List.getElem?_eq_none (by omega), List.getElem?_eq_none (by simp; omega)]
    rw [this]
abbrev Ev := Int × Int × Int × Int × Int × Int
abbrev G3 := Int × Int × Int
def II (l : List Ev) (m : List (Int × Int)) (e : Ev) : Int := match CP m e.2.2.1 with
  | some j => match l[j.toNat]? with | some q => BV e q | none => 0
  | none => 1125899906842624
def gd (l : List Ev) : List (Int × Ev) → List (Int × Int) → List G3
  | [], _ => []
  | x :: X, m => if x.2.1 = 9 ∨ x.2.1 = 10 then gd l X (CM m x.2.2.2.1 x.1) else if x.2.1 = 8 then (x.2.2.2.1, x.2.2.2.2.2.1, II l m x.2) :: gd l X m else gd l X m
def Wf (n : Nat) (m : List (Int × Int)) : Prop := ∀ u j, CP m u = some j → 0 ≤ j ∧ j < n
theorem Wf.put {n : Nat} {m : List (Int × Int)} (h : Wf n m) {u i : Int} (hi : 0 ≤ i ∧ i < n) : Wf n (CM m u i) := fun v j hj => by
  rw [HI] at hj
  by_cases c : v = u
  · rw [if_pos c] at hj; cases hj; exact hi
  · rw [if_neg c] at hj; exact h v j hj
theorem Hn (l : List Ev) : ∀ (X : List (Int × Ev)) (m : List (Int × Int)), (gd l X m).length ≤ X.length
  | [], _ => Nat.le_refl _
  | x :: X, m => by
    unfold gd
    by_cases c : x.2.1 = 9 ∨ x.2.1 = 10
    · rw [if_pos c]; exact Nat.le_succ_of_le (Hn l X _)
    · rw [if_neg c]
      by_cases d : x.2.1 = 8
      · rw [if_pos d]; exact Nat.succ_le_succ (Hn l X m)
      · rw [if_neg d]; exact Nat.le_succ_of_le (Hn l X m)
theorem GN (l : List Ev) : ∀ (X : List (Int × Ev)) (acc : List G3) (m : List (Int × Int)), Wf l.length m → (∀ x ∈ X, 0 ≤ x.1 ∧ x.1 < l.length) → acc.length + X.length ≤ 1000000 → ∃ m', Eo (BR l) X (acc, m) = some (.inl (acc ++ gd l X m, m'))
  | [], acc, m, _, _, _ => ⟨m, by rw [show gd l [] m = [] from rfl, List.append_nil]; rfl⟩
  | x :: X, acc, m, hm, hX, ha => by
    have hx := hX x (List.mem_cons_self ..)
    have hX2 : ∀ y ∈ X, 0 ≤ y.1 ∧ y.1 < l.length := fun y hy => hX y (List.mem_cons_of_mem _ hy)
    rw [List.length_cons] at ha
    have kd : ((if x.2.1 = 9 then some true else some (decide (x.2.1 = 10))) : Option Bool) = some (decide (x.2.1 = 9 ∨ x.2.1 = 10)) := by
      by_cases a : x.2.1 = 9 <;> simp [a]
    rw [Eo, BR, kd, Option.bind_some, gd]
    by_cases c : x.2.1 = 9 ∨ x.2.1 = 10
    · rw [if_pos (decide_eq_true c), if_pos c, Option.bind_some]
      exact GN l X acc _ (hm.put hx) hX2 (by omega)
    · rw [if_neg (by rw [decide_eq_true_eq]; exact c), if_neg c]
      by_cases d : x.2.1 = 8
      · rw [if_pos d, if_pos d]
        have ht : ((if ((CP m x.2.2.2.1).isSome) = true then (ix l ((CP m x.2.2.2.1).getD 0)).bind fun x7 => some (BV x.2 x7) else some 1125899906842624) : Option Int) = some (II l m x.2) := by
          unfold II
          cases hg : CP m x.2.2.2.1 with
          | none => rfl
          | some j =>
            obtain ⟨h0, h1⟩ := hm _ _ hg
            have hq : l[j.toNat]? = some (l[j.toNat]'(by omega)) := List.getElem?_eq_getElem (by omega)
            have hi : ix l j = some (l[j.toNat]'(by omega)) := by
              have := D6 hq
              rw [show ((j.toNat : Nat) : Int) = j by omega] at this; exact this
            rw [if_pos (show (some j).isSome = true from rfl)]
            show (ix l j).bind _ = _
            rw [hi]
            simp only [hq]; rfl
        rw [ht, Option.bind_some, HU (by simp; omega), Option.bind_some, Option.bind_some]
        obtain ⟨m', h⟩ := GN l X (acc ++ [(x.2.2.2.1, x.2.2.2.2.2.1, II l m x.2)]) m hm hX2 (by simp; omega)
        refine ⟨m', ?_⟩
        show Eo (BR l) X (acc ++ [(x.2.2.2.1, x.2.2.2.2.2.1, II l m x.2)], m) = _
        rw [h]; simp
      · rw [if_neg d, if_neg d, Option.bind_some]
        exact GN l X acc m hm hX2 (by omega)
theorem HS (l : List Ev) (e : Ev) : ∀ (X : List (Int × Ev)) (m : List (Int × Int)), Wf l.length m → (∀ x ∈ X, 0 ≤ x.1 ∧ x.1 < l.length) → gd (l ++ [e]) X m = gd l X m
  | [], _, _, _ => rfl
  | x :: X, m, hm, hX => by
    have hx := hX x (List.mem_cons_self ..)
    have hX2 : ∀ y ∈ X, 0 ≤ y.1 ∧ y.1 < l.length := fun y hy => hX y (List.mem_cons_of_mem _ hy)
    have ht : II (l ++ [e]) m x.2 = II l m x.2 := by
      unfold II
      cases hg : CP m x.2.2.2.1 with
      | none => rfl
      | some j =>
        obtain ⟨h0, h1⟩ := hm _ _ hg
        show (match (l ++ [e])[j.toNat]? with | some q => BV x.2 q | none => 0) = _
        rw [List.getElem?_append_left (by omega)]
    rw [gd, gd, ht, HS l e X m hm hX2, HS l e X _ (hm.put hx) hX2]
theorem J3 {l : List Ev} : ∀ x ∈ HG l, 0 ≤ x.1 ∧ x.1 < l.length := fun x hx => by
  unfold HG at hx
  rw [List.mem_reverse, List.mem_map] at hx
  obtain ⟨p, hp, rfl⟩ := hx
  have := List.mem_zipIdx hp
  show (0 : Int) ≤ (p.2 : Int) ∧ ((p.2 : Int) < (l.length : Int))
  omega
theorem JU (l : List Ev) (e : Ev) : HG (l ++ [e]) = ((l.length : Int), e) :: HG l := by
  have := Hm (l := l ++ [e]) (k := l.length) (x := e) (by simp)
  rw [List.take_of_length_le (by simp), List.take_left' rfl] at this; exact this
theorem HV {α : Type} (l : List α) : (HG l).length = l.length := by unfold HG; simp
theorem JE (n : Nat) : Wf n [] := fun u j h => by cases h
def BH (l : List Ev) : List G3 := (gd l (HG l) []).reverse
theorem GT (l : List Ev) : (BH l).length ≤ l.length := by
  have := Hn l (HG l) []
  rw [HV] at this
  unfold BH; rw [List.length_reverse]; exact this
theorem Ge {l : List Ev} (h : l.length ≤ 1000) : BS l = some (BH l) := by
  obtain ⟨m', hf⟩ := GN l (HG l) [] [] (JE _) J3 (by rw [HV]; simp; omega)
  have hl := Hn l (HG l) []
  rw [HV] at hl
  unfold BS back
  rw [if_pos (by omega), Option.bind_some, hf, List.nil_append]
  show (Aw (gd l (HG l) [])).bind _ = _
  rw [KK _ (by omega)]; rfl
theorem IM (l : List Ev) : BH (l ++ [(8, 0, -1, 0, 7, 9)]) = BH l ++ [(-1, 7, 1125899906842624)] := by
  unfold BH
  rw [JU, gd, if_neg (show ¬ ((8 : Int) = 9 ∨ (8 : Int) = 10) by decide), if_pos rfl, HS l _ _ _ (JE _) J3, List.reverse_cons]; rfl
def Je (at_ : Int) (g : G3) : Bool := decide (g.2.1 ≤ at_) && decide (at_ ≤ g.2.2)
theorem IK (at_ : Int) (G : List G3) (hG : G.length ≤ 1000000) : ∀ (X : List G3) (k : Nat) (b : Bool), G.drop k = X → k ≤ G.length → Bj (BE at_ G) (b, (k : Int)) = some (b || X.any (Je at_))
  | [], k, b, hX, hk => by
    have : G.length ≤ k := List.drop_eq_nil_iff.1 hX
    rw [EG (by rw [BE, if_neg (by omega)])]; simp
  | x :: X, k, b, hX, hk => by
    have hg : G[k]? = some x := by rw [← List.head?_drop, hX]; rfl
    have hlt := (List.getElem?_eq_some_iff.1 hg).1
    have hd : G.drop (k + 1) = X := by rw [← List.tail_drop, hX]; rfl
    have ih := IK at_ G hG X (k + 1) (b || Je at_ x) hd (by omega)
    rw [EI (s' := (b || Je at_ x, ((k + 1 : Nat) : Int))) (by
      rw [BE, if_pos (by omega), Ez (by omega)]
      cases b with
      | true => rw [if_pos rfl]; rfl
      | false =>
        rw [if_neg (by decide), D6 hg, Option.bind_some, Option.bind_some]
        unfold Je
        by_cases c : x.2.1 ≤ at_
        · rw [if_pos c, decide_eq_true c]; rfl
        · rw [if_neg c, decide_eq_false c]; rfl), ih, List.any_cons, Bool.or_assoc]
theorem IA (at_ : Int) (G : List G3) (hG : G.length ≤ 1000000) : ∀ (X : List G3) (k : Nat), G.drop k = X → k ≤ G.length → ∃ r, Bj (Am G at_) (k : Int) = some r ∧ ((r = .inl () ∧ X.any (Je at_) = false) ∨ ∃ j : Int, r = .inr j ∧ 0 ≤ j ∧ X.any (Je at_) = true)
  | [], k, hX, hk => by
    have : G.length ≤ k := List.drop_eq_nil_iff.1 hX
    exact ⟨.inl (), EG (by rw [Am, if_neg (by omega)]), .inl ⟨rfl, rfl⟩⟩
  | x :: X, k, hX, hk => by
    have hg : G[k]? = some x := by rw [← List.head?_drop, hX]; rfl
    have hlt := (List.getElem?_eq_some_iff.1 hg).1
    have hd : G.drop (k + 1) = X := by rw [← List.tail_drop, hX]; rfl
    by_cases c : Je at_ x = true
    · exact ⟨.inr (k : Int), EG (by rw [Am, if_pos (by omega), D6 hg, Option.bind_some, show AQ x at_ = true from c, if_pos rfl]), .inr ⟨(k : Int), rfl, by omega, by rw [List.any_cons, c]; rfl⟩⟩
    · obtain ⟨r, e1, e2⟩ := IA at_ G hG X (k + 1) hd (by omega)
      have cf : Je at_ x = false := by cases h : Je at_ x with | true => exact absurd h c | false => rfl
      refine ⟨r, by rw [EI (s' := ((k + 1 : Nat) : Int)) (by rw [Am, if_pos (by omega), D6 hg, Option.bind_some, if_neg (show ¬ AQ x at_ = true from c), Ez (by omega)]; rfl)]; exact e1, ?_⟩
      rw [List.any_cons, cf, Bool.false_or]; exact e2
theorem Jk {G : List G3} (hG : G.length ≤ 1000000) (C : List (Int × Int)) (at_ : Int) : AO (G, C) at_ = some (G.any (Je at_)) := by
  obtain ⟨r, e1, e2⟩ := IA at_ G hG G 0 rfl (Nat.zero_le _)
  have e1 : Bj (Am G at_) 0 = some r := e1
  unfold AO Az AD
  show (((F6 (Bj (Am G at_) 0) fun _ => some (-1)).bind _).bind _) = _
  rw [e1]
  rcases e2 with ⟨rfl, h⟩ | ⟨j, rfl, h0, h⟩
  · rw [h]; rfl
  · rw [h]
    show some (decide (0 ≤ j)) = _
    rw [decide_eq_true h0]
theorem JF (G : List G3) (hG : G.length ≤ 1000) (e : Ev) : ∀ (d k : Nat) (C : List (Int × Int)), k + d = G.length → C.length + d ≤ 1000000 → ∃ C', Bj (BF G e) ((k : Int), C) = some C' ∧ C'.length ≤ C.length + d ∧ (d = 0 → C' = C)
  | 0, k, C, hk, hC => ⟨C, EG (by rw [BF, if_neg (by omega)]), Nat.le_refl _, fun _ => rfl⟩
  | d + 1, k, C, hk, hC => by
    have hg : G[k]? = some (G[k]'(by omega)) := List.getElem?_eq_getElem (by omega)
    by_cases c : (G[k]'(by omega)).1 = e.2.2.1
    · obtain ⟨C', h1, h2, h3⟩ := JF G hG e d (k + 1) (C ++ [(e.2.2.2.2.1, (G[k]'(by omega)).2.2)]) (by omega) (by simp; omega)
      refine ⟨C', ?_, by simp at h2; omega, fun h => by omega⟩
      rw [EI (s' := (((k + 1 : Nat) : Int), C ++ [(e.2.2.2.2.1, (G[k]'(by omega)).2.2)])) (by
        rw [BF, if_pos (by omega), D6 hg, Option.bind_some, if_pos c, HU (by simp; omega), Option.bind_some, Option.bind_some, Ez (by omega)]; rfl)]
      exact h1
    · obtain ⟨C', h1, h2, h3⟩ := JF G hG e d (k + 1) C (by omega) (by omega)
      refine ⟨C', ?_, by omega, fun h => by omega⟩
      rw [EI (s' := (((k + 1 : Nat) : Int), C)) (by
        rw [BF, if_pos (by omega), D6 hg, Option.bind_some, if_neg c, Option.bind_some, Ez (by omega)]; rfl)]
      exact h1
theorem JC (l : List Ev) (hl : l.length ≤ 200) (G : List G3) (hG : G.length ≤ 1000) : ∀ (d k : Nat) (C : List (Int × Int)), k + d = l.length → C.length + 1000 * d ≤ 500000 → ∃ C', Bj (BJ l G) ((k : Int), C) = some C' ∧ C'.length ≤ C.length + 1000 * d ∧ (G = [] → C' = C)
  | 0, k, C, hk, hC => ⟨C, EG (by rw [BJ, if_neg (by omega)]), by omega, fun _ => rfl⟩
  | d + 1, k, C, hk, hC => by
    have hk2 : k < l.length := by omega
    have hg : l[k]? = some (l[k]'hk2) := List.getElem?_eq_getElem hk2
    have hA : C.length + 1000 * d ≤ 500000 := by omega
    have hB : k + 1 + d = l.length := by omega
    have hD : ∀ n : Nat, n ≤ C.length + 1000 * d → n ≤ C.length + 1000 * (d + 1) := fun n h => by omega
    have hE : (k : Int) < (l.length : Int) := by omega
    have hF : D8 ((k : Int) + 1) = (k : Int) + 1 := Ez (by omega)
    by_cases c : (l[k]'hk2).1 = 9
    · obtain ⟨C1, g1, g2, g3⟩ := JF G hG (l[k]'hk2) G.length 0 C (by omega) (by omega)
      obtain ⟨C', h1, h2, h3⟩ := JC l hl G hG d (k + 1) C1 (by omega) (by omega)
      have g1 : Bj (BF G (l[k]'hk2)) (0, C) = some C1 := g1
      refine ⟨C', ?_, by omega, fun h => by rw [h3 h, g3 (by rw [h]; rfl)]⟩
      rw [EI (s' := (((k + 1 : Nat) : Int), C1)) (by
        rw [BJ, if_pos hE, D6 hg, Option.bind_some, if_neg (fun h => h c), g1, Option.bind_some, hF]; rfl)]
      exact h1
    · obtain ⟨C', h1, h2, h3⟩ := JC l hl G hG d (k + 1) C hB hA
      refine ⟨C', ?_, hD _ h2, h3⟩
      rw [EI (s' := (((k + 1 : Nat) : Int), C)) (by
        rw [BJ, if_pos hE, D6 hg, Option.bind_some, if_pos c, Option.bind_some, hF]; rfl)]
      exact h1
theorem Ks {l : List Ev} (hl : l.length ≤ 200) : ∃ C, Co l = some (BH l, C) ∧ (BH l = [] → C = []) := by
  have hg := GT l
  have hb : ([] : List (Int × Int)).length + 1000 * l.length ≤ 500000 := by rw [List.length_nil]; omega
  obtain ⟨C, hC⟩ := JC l hl (BH l) (by omega) l.length 0 [] (Nat.zero_add _) hb
  have h1 : Bj (BJ l (BH l)) (0, []) = some C := hC.1
  have h3 := hC.2.2
  refine ⟨C, ?_, h3⟩
  unfold Co
  rw [Ge (by omega), Option.bind_some, h1]; rfl
theorem Gh (p0 : List Ev) {A0 : Prop} (_ : A0) (p1 : Int) {A1 : Prop} (_ : A1) : CY p0 p1 = some true := by
  unfold CY
  rw [Ke]
  by_cases c : 100 < (p0.length : Int)
  · rw [if_pos c]; rfl
  · rw [if_neg c, Ge (by omega), Option.bind_some]
    have hg := GT p0
    obtain ⟨C, hr, hC⟩ := Ks (l := p0) (by omega)
    have hG : Cv p0 p1 = some ((BH p0).any (Je p1)) := by
      unfold Cv
      rw [hr, Option.bind_some, Jk (by omega)]; rfl
    have h1 : Bj (BE p1 (BH p0)) (false, 0) = some ((BH p0).any (Je p1)) := by
      have := IK p1 (BH p0) (by omega) (BH p0) 0 false rfl (Nat.zero_le _)
      rw [Bool.false_or] at this; exact this
    rw [h1, Option.bind_some, hG, Option.bind_some, if_neg (fun h => h rfl), HU (by simp; omega), Option.bind_some, List.nil_append, HU (by simp; omega), Option.bind_some, Ge (by simp; omega), Option.bind_some, IM]
    have hlen : ((BH p0 ++ [(-1, 7, 1125899906842624)] : List G3).length : Int) = (BH p0).length + 1 := by simp
    rw [hlen, Ez (by omega), if_neg (fun h => h rfl), Ez (by omega), show ((BH p0).length : Int) + 1 - 1 = ((BH p0).length : Nat) by omega, D6 (x := (-1, 7, 1125899906842624)) (by simp), Option.bind_some, Option.bind_some, if_neg (by decide)]
    by_cases d : 0 < ((BH p0).length : Int)
    · rw [if_pos d]; rfl
    · have he : BH p0 = [] := List.eq_nil_of_length_eq_zero (by omega)
      rw [if_neg d, Option.bind_some, he]
      have hF : CU p0 p1 = some 0 := by
        unfold CU
        rw [hr, Option.bind_some, hC he]; rfl
      rw [if_pos (show (!(([] : List G3).any (Je p1))) = true from rfl), hF, Option.bind_some, if_pos rfl]; rfl
end Go.Proofs.Ytflaelbmglmmcaa
