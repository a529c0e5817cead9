/- Layer 11: tables, who is found. Conditions: none. -/
import Derived.Test.YtkjjioigbpkifaaaM10
import Derived.Test.YtkjjioigbpkifaaaEV
namespace Go.Proofs.Ytkjjioigbpkifaa
set_option linter.unusedVariables false
set_option linter.unusedSimpArgs false
set_option synthInstance.maxSize 1000
open Go Go.RowKit
abbrev kq (a b : Rl) : Prop := a.1 = b.1 ∧ a.2.1 = b.2.1
abbrev Bf (a b : Rl) : Prop := b.1 ≤ a.1 ∧ ¬ kq a b
abbrev Ny (ports room : Int) (t : List Rl) : Prop := (t.length : Int) ≤ room ∧ (∀ x ∈ t, Jr ports x) ∧ t.Pairwise Bf
noncomputable instance (ports room : Int) (t : List Rl) : Decidable (Ny ports room t) := Classical.propDecidable _
theorem LN (x y : Rl) : G8 x y = decide (kq x y) := LE x y
theorem JU {t : List Rl} : t.Pairwise Bf ↔ ∀ (i j : Nat) (a b : Rl), i < j → t[i]? = some a → t[j]? = some b → Bf a b := by
  rw [List.pairwise_iff_getElem]
  constructor
  · intro h i j a b hij ha hb
    obtain ⟨hi, rfl⟩ := List.getElem?_eq_some_iff.1 ha
    obtain ⟨hj, rfl⟩ := List.getElem?_eq_some_iff.1 hb
    exact h i j hi hj hij
  · intro h i j hi hj hij
    exact h i j _ _ hij (List.getElem?_eq_getElem hi) (List.getElem?_eq_getElem hj)
theorem LZ {t : List Rl} (hl : t.length ≤ 1000) (hA : ∀ x ∈ t, x.2.2.length ≤ 1000) (ports room : Int) : EZ t ports room = some (decide (Ny ports room t)) := by
  have hd : DecidablePred fun i : Nat => ∃ x, t[i]? = some x ∧ (¬ Jr ports x ∨ ∃ k y, k < i ∧ t[k]? = some y ∧ (y.1 < x.1 ∨ kq y x)) := fun _ => Classical.propDecidable _
  unfold EZ
  rw [DG t.length (D0 t ports) (fun i : Nat => ∃ x, t[i]? = some x ∧ (¬ Jr ports x ∨ ∃ k y, k < i ∧ t[k]? = some y ∧ (y.1 < x.1 ∨ kq y x))) false (fun i hi => by
    have hx := Dw (List.getElem?_eq_getElem hi)
    have hm := hA _ (List.getElem_mem hi)
    rw [D0, if_pos (by omega), hx, Option.bind_some, KV (by omega), Option.bind_some, Cj (by omega)]
    by_cases c : Jr ports t[i]
    · have hd2 : DecidablePred fun k : Nat => ∃ y, t[k]? = some y ∧ (y.1 < t[i].1 ∨ kq y t[i]) := fun _ => Classical.propDecidable _
      rw [decide_eq_true c, if_neg (by decide), DG i (D8 t (i : Int)) (fun k : Nat => ∃ y, t[k]? = some y ∧ (y.1 < t[i].1 ∨ kq y t[i])) (.inr (.inr false)) (fun k hk => by
        have hk2 : k < t.length := by omega
        have hy := Dw (List.getElem?_eq_getElem hk2)
        rw [D8, if_pos (by omega), hy, hx, Option.bind_some, Option.bind_some, Cj (by omega)]
        have e : (∃ y, t[k]? = some y ∧ (y.1 < t[i].1 ∨ kq y t[i])) ↔ (t[k].1 < t[i].1 ∨ kq t[k] t[i]) := by
          rw [List.getElem?_eq_getElem hk2]
          exact ⟨fun ⟨y, h1, h2⟩ => by cases h1; exact h2, fun h => ⟨_, rfl, h⟩⟩
        by_cases c1 : t[k].1 < t[i].1
        · rw [if_pos c1, Option.bind_some, if_pos rfl, if_pos (e.2 (.inl c1))]
        · rw [if_neg c1, Option.bind_some, Option.bind_some, LN, Option.bind_some]
          by_cases c2 : kq t[k] t[i]
          · rw [decide_eq_true c2, if_pos rfl, if_pos (e.2 (.inr c2))]
          · rw [decide_eq_false c2, if_neg (by decide), if_neg (fun h => (e.1 h).elim c1 c2)]; rfl) (by rw [D8, if_neg (by omega)])]
      by_cases h : ∃ k, k < i ∧ ∃ y, t[k]? = some y ∧ (y.1 < t[i].1 ∨ kq y t[i])
      · obtain ⟨k, hk, y, h1, h2⟩ := h
        rw [if_pos ⟨k, hk, y, h1, h2⟩, if_pos ⟨t[i], List.getElem?_eq_getElem hi, .inr ⟨k, y, hk, h1, h2⟩⟩]; rfl
      · rw [if_neg h, if_neg (fun ⟨x, h1, h2⟩ => by
          rw [List.getElem?_eq_getElem hi] at h1
          cases h1
          rcases h2 with h2 | ⟨k, y, hk, h3, h4⟩
          · exact h2 c
          · exact h ⟨k, hk, y, h3, h4⟩)]; rfl
    · rw [decide_eq_false c, if_pos (by decide), if_pos ⟨t[i], List.getElem?_eq_getElem hi, .inl c⟩]; rfl) (by rw [D0, if_neg (by omega)])]
  by_cases h : ∃ i, i < t.length ∧ ∃ x, t[i]? = some x ∧ (¬ Jr ports x ∨ ∃ k y, k < i ∧ t[k]? = some y ∧ (y.1 < x.1 ∨ kq y x))
  · rw [if_pos h]
    show some false = _
    rw [decide_eq_false (fun hc => by
      obtain ⟨i, hi, x, h1, h2⟩ := h
      rcases h2 with h2 | ⟨k, y, hk, h3, h4⟩
      · exact h2 (hc.2.1 x (List.mem_of_getElem? h1))
      · have := JU.1 hc.2.2 k i y x hk h3 h1
        rcases h4 with h4 | h4
        · omega
        · exact this.2 h4)]
  · rw [if_neg h]
    show some (decide ((t.length : Int) ≤ room)) = _
    congr 1
    refine decide_eq_decide.2 ⟨fun h1 => ⟨h1, fun x hx => Classical.byContradiction fun hn => ?_, JU.2 fun i j a b hij ha hb => ?_⟩, fun h1 => h1.1⟩
    · obtain ⟨i, hi, rfl⟩ := List.getElem_of_mem hx
      exact h ⟨i, hi, _, List.getElem?_eq_getElem hi, .inl hn⟩
    · have hj := (List.getElem?_eq_some_iff.1 hb).1
      have hn : ¬ (a.1 < b.1 ∨ kq a b) := fun hc => h ⟨j, hj, b, hb, .inr ⟨i, a, hij, ha, hc⟩⟩
      exact ⟨by
        have := fun hc => hn (.inl hc)
        omega, fun hc => hn (.inr hc)⟩
section
variable {κ : Type} [DecidableEq κ]
def ky (m : List (κ × Unit)) : List κ := m.map (·.1)
theorem KR : ∀ (m : List (κ × Unit)) (x : κ), ky (GB m x ()) = if x ∈ ky m then ky m else ky m ++ [x]
  | [], x => rfl
  | p :: m, x => by
    unfold GB
    by_cases c : x = p.1
    · have e : x ∈ ky (p :: m) := by rw [c]; exact List.mem_cons_self ..
      rw [if_pos c, if_pos e, c]
    · rw [if_neg c]
      show p.1 :: ky (GB m x ()) = _
      rw [KR m x]
      by_cases h : x ∈ ky m
      · have e : x ∈ ky (p :: m) := List.mem_cons_of_mem _ h
        rw [if_pos h, if_pos e]; rfl
      · have e : ¬ x ∈ ky (p :: m) := fun hc => (List.mem_cons.1 hc).elim c h
        rw [if_neg h, if_neg e]; rfl
def GC (l : List κ) : List (κ × Unit) := l.foldl (fun m x => GB m x ()) []
theorem IU (l : List κ) (x : κ) : GC (l ++ [x]) = GB (GC l) x () := by unfold GC; rw [List.foldl_append]; rfl
theorem IL : ∀ (n : Nat) (l : List κ), l.length = n → (∀ x, x ∈ ky (GC l) ↔ x ∈ l) ∧ (GC l).length ≤ n ∧ ((GC l).length = n ↔ l.Nodup)
  | 0, l, h => by
    obtain rfl := List.eq_nil_of_length_eq_zero h
    exact ⟨fun x => Iff.rfl, Nat.le_refl _, ⟨fun _ => List.nodup_nil, fun _ => rfl⟩⟩
  | n + 1, l, h => by
    obtain ⟨l', x, rfl⟩ : ∃ l' x, l = l' ++ [x] := ⟨l.dropLast, l.getLast (by intro hc; rw [hc] at h; cases h), (List.dropLast_concat_getLast _).symm⟩
    have hl : l'.length = n := by simpa using h
    obtain ⟨i1, i2, i3⟩ := IL n l' hl
    have hk := KR (GC l') x
    rw [← IU] at hk
    have hlen : (GC (l' ++ [x])).length = (ky (GC (l' ++ [x]))).length := by unfold ky; rw [List.length_map]
    have hlen' : (GC l').length = (ky (GC l')).length := by unfold ky; rw [List.length_map]
    by_cases c : x ∈ ky (GC l')
    · rw [if_pos c] at hk
      have hx := (i1 x).1 c
      refine ⟨fun y => ?_, by rw [hlen, hk, ← hlen']; omega, ?_⟩
      · rw [hk, i1, List.mem_append, List.mem_singleton]
        exact ⟨.inl, fun h => h.elim id fun e => by rw [e]; exact hx⟩
      · rw [hlen, hk, ← hlen']
        refine ⟨fun h => by omega, fun h => ?_⟩
        exact absurd rfl ((List.nodup_append.1 h).2.2 x hx x (by simp))
    · rw [if_neg c] at hk
      have hx : ¬ x ∈ l' := fun h => c ((i1 x).2 h)
      refine ⟨fun y => ?_, by rw [hlen, hk, List.length_append, ← hlen']; simp; omega, ?_⟩
      · rw [hk, List.mem_append, i1, List.mem_append]
      · rw [hlen, hk, List.length_append, ← hlen']
        simp only [List.length_singleton]
        constructor
        · intro h
          refine List.nodup_append.2 ⟨i3.1 (by omega), by simp, fun a ha b hb hab => ?_⟩
          rw [List.mem_singleton] at hb
          subst hb; subst hab
          exact hx ha
        · intro h
          have := i3.2 (List.nodup_append.1 h).1
          omega
end
open Classical in
theorem KF {σ ε : Type} (n : Nat) (S : Nat → σ) (step : Int × σ → Option ((Int × σ) ⊕ (σ ⊕ ε))) (q : Nat → Prop) [DecidablePred q] (e : ε)
    (hs : ∀ k, k < n → step ((k : Int), S k) = some (if q k then .inr (.inr e) else .inl (((k + 1 : Nat) : Int), S (k + 1)))) (he : step ((n : Int), S n) = some (.inr (.inl (S n)))) :
    Bi step (0, S 0) = some (if ∃ k : Nat, k < n ∧ q k then .inr e else .inl (S n)) := by
  have key : ∀ (d k : Nat), k + d = n → Bi step ((k : Int), S k) = some (if ∃ j : Nat, k ≤ j ∧ j < n ∧ q j then .inr e else .inl (S n)) := by
    intro d
    induction d with
    | zero =>
      intro k hk
      obtain rfl : k = n := by omega
      rw [if_neg (fun ⟨j, h1, h2, _⟩ => by omega)]
      exact El he
    | succ d ih =>
      intro k hk
      have hs' := hs k (by omega)
      by_cases hq : q k
      · rw [if_pos hq] at hs'
        rw [if_pos ⟨k, Nat.le_refl _, by omega, hq⟩]
        exact El hs'
      · rw [if_neg hq] at hs'
        rw [Gp hs', ih (k + 1) (by omega)]
        by_cases h : ∃ j, k + 1 ≤ j ∧ j < n ∧ q j
        · obtain ⟨j, h1, h2, h3⟩ := h
          rw [if_pos ⟨j, h1, h2, h3⟩, if_pos ⟨j, by omega, h2, h3⟩]
        · rw [if_neg h, if_neg (fun ⟨j, h1, h2, h3⟩ => by
            by_cases e : j = k
            · subst e; exact hq h3
            · exact h ⟨j, by omega, h2, h3⟩)]
  have h0 := key n 0 (by omega)
  rw [show ((0 : Int), S 0) = (((0 : Nat) : Int), S 0) from rfl, h0]
  by_cases h : ∃ k, k < n ∧ q k
  · obtain ⟨k, h1, h2⟩ := h
    rw [if_pos ⟨k, Nat.zero_le _, h1, h2⟩, if_pos ⟨k, h1, h2⟩]
  · rw [if_neg h, if_neg (fun ⟨k, _, h1, h2⟩ => h ⟨k, h1, h2⟩)]
abbrev MW (x : Rl) : Int × Mt := (x.1, x.2.1)
theorem KN {t : List Rl} (hl : t.length ≤ 1000) (hI : ∀ x ∈ t, I4 x.2.1.2.1) (ports room : Int) : EH t ports room = some (decide (Ny ports room t)) := by
  unfold EH
  by_cases hr : room < (t.length : Int)
  · rw [if_pos hr, decide_eq_false (fun h => by have := h.1; omega)]
  · rw [if_neg hr]
    have hd : DecidablePred fun i : Nat => ∃ x, t[i]? = some x ∧ (¬ Jr ports x ∨ ∃ y, 0 < i ∧ t[i - 1]? = some y ∧ y.1 < x.1) := fun _ => Classical.propDecidable _
    have hS : ∀ k (hk : k < t.length), GC ((t.take (k + 1)).map MW) = GB (GC ((t.take k).map MW)) (t[k].1, t[k].2.1) () := fun k hk => by
      rw [List.take_succ_eq_append_getElem hk, List.map_append, List.map_singleton, IU]
    have hloop := KF t.length (fun k => GC ((t.take k).map MW)) (Dq t ports) (fun i : Nat => ∃ x, t[i]? = some x ∧ (¬ Jr ports x ∨ ∃ y, 0 < i ∧ t[i - 1]? = some y ∧ y.1 < x.1)) false (fun i hi => by
      have hx := Dw (List.getElem?_eq_getElem hi)
      have e : (∃ x, t[i]? = some x ∧ (¬ Jr ports x ∨ ∃ y, 0 < i ∧ t[i - 1]? = some y ∧ y.1 < x.1)) ↔ (¬ Jr ports t[i] ∨ ∃ y, 0 < i ∧ t[i - 1]? = some y ∧ y.1 < t[i].1) := by
        rw [List.getElem?_eq_getElem hi]
        exact ⟨fun ⟨y, h1, h2⟩ => by cases h1; exact h2, fun h => ⟨_, rfl, h⟩⟩
      rw [Dq, if_pos (by omega), hx, Option.bind_some, LX (hI _ (List.getElem_mem hi)), Option.bind_some, Cj (by omega)]
      by_cases c : Jr ports t[i]
      · rw [decide_eq_true c, if_neg (by decide)]
        by_cases h0 : 0 < i
        · have hi1 : i - 1 < t.length := by omega
          have hy := Dw (List.getElem?_eq_getElem hi1)
          rw [if_pos (by omega), Cj (by omega), show ((i : Int) - 1) = ((i - 1 : Nat) : Int) by omega, hy, Option.bind_some, Option.bind_some]
          unfold DQ
          by_cases c1 : t[i - 1].1 < t[i].1
          · rw [decide_eq_true c1, if_pos rfl, if_pos (e.2 (.inr ⟨_, h0, List.getElem?_eq_getElem hi1, c1⟩))]
          · rw [decide_eq_false c1, if_neg (by decide), if_neg (fun h => (e.1 h).elim (fun h => h c) fun ⟨y, _, h2, h3⟩ => by
              rw [List.getElem?_eq_getElem hi1] at h2
              cases h2
              exact c1 h3), hS i hi]; rfl
        · rw [if_neg (by omega), Option.bind_some, if_neg (by decide), if_neg (fun h => (e.1 h).elim (fun h => h c) fun ⟨y, h1, _⟩ => h0 h1), hS i hi, Cj (by omega)]; rfl
      · rw [decide_eq_false c, if_pos (by decide), Option.bind_some, if_pos rfl, if_pos (e.2 (.inl c))]) (by rw [Dq, if_neg (by omega)])
    have h0 : GC ((t.take 0).map MW) = [] := rfl
    simp only [h0] at hloop
    rw [hloop]
    by_cases h : ∃ i, i < t.length ∧ ∃ x, t[i]? = some x ∧ (¬ Jr ports x ∨ ∃ y, 0 < i ∧ t[i - 1]? = some y ∧ y.1 < x.1)
    · rw [if_pos h]
      show some false = _
      rw [decide_eq_false (fun hc => by
        obtain ⟨i, hi, x, h1, h2⟩ := h
        rcases h2 with h2 | ⟨y, hk, h3, h4⟩
        · exact h2 (hc.2.1 x (List.mem_of_getElem? h1))
        · have := (JU.1 hc.2.2 (i - 1) i y x (by omega) h3 h1).1
          omega)]
    · rw [if_neg h, IZ, List.take_length]
      congr 1
      have hok : ∀ x ∈ t, Jr ports x := fun x hx => Classical.byContradiction fun hn => by
        obtain ⟨i, hi, rfl⟩ := List.getElem_of_mem hx
        exact h ⟨i, hi, _, List.getElem?_eq_getElem hi, .inl hn⟩
      have hadj : ∀ i (hi : i + 1 < t.length), t[i + 1].1 ≤ t[i].1 := fun i hi => by
        have : ¬ t[i].1 < t[i + 1].1 := fun hc => h ⟨i + 1, hi, _, List.getElem?_eq_getElem hi, .inr ⟨t[i], by omega, by simp [List.getElem?_eq_getElem (show i < t.length by omega)], hc⟩⟩
        omega
      have hmono : ∀ (d i : Nat) (hi : i + d < t.length), t[i + d].1 ≤ (t[i]'(by omega)).1 := by
        intro d
        induction d with
        | zero => intro i hi; exact Int.le_refl _
        | succ d ih => intro i hi; exact Int.le_trans (hadj (i + d) (by omega)) (ih i (by omega))
      have hg := (IL t.length (t.map MW) (by simp)).2.2
      refine decide_eq_decide.2 ⟨fun h1 => ⟨by omega, hok, List.pairwise_iff_getElem.2 fun i j hi hj hij => ⟨?_, fun hc => ?_⟩⟩, fun h1 => ?_⟩
      · have := hmono (j - i) i (by omega)
        simp only [show i + (j - i) = j by omega] at this
        exact this
      · have hnd := hg.1 (by omega)
        have := (List.pairwise_iff_getElem.1 hnd) i j (by simpa using hi) (by simpa using hj) hij
        simp only [List.getElem_map] at this
        exact this (Prod.ext hc.1 hc.2)
      · have hnd : (t.map MW).Nodup := List.pairwise_iff_getElem.2 fun i j hi hj hij hc => by
          rw [List.getElem_map, List.getElem_map] at hc
          have hb := (List.pairwise_iff_getElem.1 h1.2.2) i j (by simpa using hi) (by simpa using hj) hij
          exact hb.2 ⟨congrArg (fun q : Int × Mt => q.1) hc, congrArg (fun q : Int × Mt => q.2) hc⟩
        have := hg.2 hnd
        omega
def IX {α : Type} (P : α → Bool) : List α → Nat → Int
  | [], _ => -1
  | x :: l, k => if P x = true then (k : Int) else IX P l (k + 1)
theorem JF {α : Type} (l : List α) (hl : l.length ≤ 1000000) (P : α → Bool) (step : Int → Option (Int ⊕ (Unit ⊕ Int)))
    (hs : ∀ k (hk : k < l.length), step (k : Int) = if P l[k] = true then some (.inr (.inr (k : Int))) else some (.inl (CL ((k : Int) + 1)))) (he : step (l.length : Int) = some (.inr (.inl ()))) :
    Fw (Bi step 0) (fun _ => some (-1)) = some (IX P l 0) := by
  have key : ∀ (d k : Nat), k + d = l.length → Fw (Bi step (k : Int)) (fun _ => some (-1)) = some (IX P (l.drop k) k) := by
    intro d
    induction d with
    | zero =>
      intro k hk
      obtain rfl : k = l.length := by omega
      rw [El he, List.drop_eq_nil_of_le (Nat.le_refl _)]; rfl
    | succ d ih =>
      intro k hk
      have hk2 : k < l.length := by omega
      have h := hs k hk2
      rw [List.drop_eq_getElem_cons hk2]
      show _ = some (if P l[k] = true then (k : Int) else IX P (l.drop (k + 1)) (k + 1))
      by_cases c : P l[k] = true
      · rw [if_pos c] at h
        rw [if_pos c, El h]; rfl
      · rw [if_neg c, Cj (by omega)] at h
        rw [if_neg c, Gp h]
        exact ih (k + 1) (by omega)
  exact key l.length 0 (by omega)
theorem Hi {α : Type} (P : α → Bool) : ∀ (l : List α) (k : Nat), (IX P l k = -1 ∧ ∀ x ∈ l, P x = false) ∨ ∃ (j : Nat) (x : α), l[j]? = some x ∧ P x = true ∧ IX P l k = ((k + j : Nat) : Int) ∧ ∀ (i : Nat) (y : α), i < j → l[i]? = some y → P y = false
  | [], k => .inl ⟨rfl, fun x hx => by cases hx⟩
  | x :: l, k => by
    by_cases c : P x = true
    · exact .inr ⟨0, x, rfl, c, if_pos c, fun i y hi => by omega⟩
    · have e : IX P (x :: l) k = IX P l (k + 1) := if_neg c
      rcases Hi P l (k + 1) with ⟨h1, h2⟩ | ⟨j, y, h1, h2, h3, h4⟩
      · exact .inl ⟨e.trans h1, fun y hy => by
          rcases List.mem_cons.1 hy with rfl | hy
          · simpa using c
          · exact h2 y hy⟩
      · refine .inr ⟨j + 1, y, h1, h2, by rw [e, h3]; omega, fun i z hi hz => ?_⟩
        cases i with
        | zero => simp at hz; subst hz; simpa using c
        | succ i => exact h4 i z (by omega) (by simpa using hz)
def GR (t : List Rl) (port : Int) (p : P4) : Int := IX (fun x => decide (LS x.2.1 port p)) t 0
theorem Kl {t : List Rl} (hl : t.length ≤ 1000) {ports : Int} (hok : ∀ x ∈ t, Jr ports x) (port : Int) {p : P4} (hp : MX p) : CY t port p = some (GR t port p) := by
  unfold CY AW
  rw [JF t (by omega) (fun x => decide (LS x.2.1 port p)) (AO t port p) (fun k hk => by
    rw [AO, if_pos (by omega), Dw (List.getElem?_eq_getElem hk), Option.bind_some]
    unfold Dy
    rw [Ma (hok _ (List.getElem_mem hk)).2.1 port hp, Option.bind_some, Option.bind_some]) (by rw [AO, if_neg (by omega)])]; rfl
theorem Jx {t : List Rl} (hl : t.length ≤ 1000) {ports : Int} (hok : ∀ x ∈ t, Jr ports x) (port : Int) {p : P4} (hp : MX p) : FE t port p = some (GR t port p) := by
  unfold FE
  rw [JF t (by omega) (fun x => decide (LS x.2.1 port p)) (EB t port p) (fun k hk => by
    rw [EB, if_pos (by omega), Dw (List.getElem?_eq_getElem hk), Option.bind_some, Lz (hok _ (List.getElem_mem hk)).2.1 port hp, Option.bind_some]) (by rw [EB, if_neg (by omega)])]; rfl
def LV (t : List Rl) (port : Int) (p : P4) : List Sd := if GR t port p < 0 then [] else (LM ((t.getD (GR t port p).toNat (0, (0, (0, 0, 0, 0), (0, 0, 0, 0)), [])).2.2) p).1
theorem LO {t : List Rl} {port : Int} {p : P4} (h : ¬ GR t port p < 0) : ∃ (j : Nat) (x : Rl), t[j]? = some x ∧ GR t port p = (j : Int) ∧ LS x.2.1 port p ∧ ∀ (i : Nat) (y : Rl), i < j → t[i]? = some y → ¬ LS y.2.1 port p := by
  rcases Hi (fun x : Rl => decide (LS x.2.1 port p)) t 0 with ⟨h1, _⟩ | ⟨j, x, h1, h2, h3, h4⟩
  · exact absurd (show GR t port p < 0 by unfold GR; rw [h1]; decide) h
  · exact ⟨j, x, h1, by unfold GR; rw [h3]; omega, of_decide_eq_true h2, fun i y hi hy => of_decide_eq_false (h4 i y hi hy)⟩
theorem Mh {t : List Rl} (hl : t.length ≤ 1000) {ports : Int} (hok : ∀ x ∈ t, Jr ports x) (port : Int) {p : P4} (hp : MX p) : DS t port p = some (LV t port p) ∧ GS t port p = some (LV t port p) ∧ (LV t port p).length ≤ 16 := by
  unfold DS GS
  rw [Kl hl hok port hp, Jx hl hok port hp, Option.bind_some, Option.bind_some]
  unfold LV
  by_cases h : GR t port p < 0
  · have h1 : GR t port p = -1 := by
      rcases Hi (fun x : Rl => decide (LS x.2.1 port p)) t 0 with ⟨h1, _⟩ | ⟨j, x, _, _, h3, _⟩
      · exact h1
      · exfalso; unfold GR at h; rw [h3] at h; omega
    rw [if_pos h, if_pos h1, if_pos h]
    exact ⟨rfl, rfl, Nat.zero_le _⟩
  · obtain ⟨j, x, h1, h2, _⟩ := LO h
    have hx := hok x (List.mem_of_getElem? h1)
    have hlen := hx.2.2.1
    have hd : t.getD (GR t port p).toNat (0, (0, (0, 0, 0, 0), (0, 0, 0, 0)), []) = x := by rw [h2, Int.toNat_natCast, List.getD_eq_getElem?_getD, h1]; rfl
    have r1 := Mu (l := x.2.2) (by omega) p
    rw [if_neg h, if_neg h, if_neg (show ¬ GR t port p = -1 by omega), hd, h2, Dw h1, Option.bind_some, Option.bind_some, r1.1, LW (by omega)]
    exact ⟨rfl, rfl, by omega⟩
theorem Lh {t : List Rl} (hl : t.length ≤ 1000) (hA : ∀ x ∈ t, x.2.2.length ≤ 1000) : E5 t t = some true := by
  unfold E5 AV
  rw [if_neg (by simp), Gz t (by omega) (AH t t) (fun _ => False) false (fun k hk => by
    have hm := hA _ (List.getElem_mem hk)
    rw [AH, if_pos (by omega), Dw (List.getElem?_eq_getElem hk), Option.bind_some, Option.bind_some, JN (by omega), decide_eq_true (LU.2 rfl), Option.bind_some, if_neg (by decide), if_neg (by simp)]) (by rw [AH, if_neg (by omega)]), if_neg (by simp), IZ]; rfl
abbrev O3 (t : List Rl) : Prop := (t.length : Int) ≤ 20 ∧ ∀ x ∈ t, x.2.2.length ≤ 10
theorem KY {t : List Rl} (hl : t.length ≤ 9223372036854775807) : ∃ b, FL t = some b ∧ (b = true ↔ O3 t) := by
  unfold FL
  rw [Gz t hl (D2 t) (fun x => 10 < (x.2.2.length : Int)) false (fun k hk => by
    rw [D2, if_pos (by omega), Dw (List.getElem?_eq_getElem hk), Option.bind_some]) (by rw [D2, if_neg (by omega)])]
  by_cases h : ∃ x ∈ t, 10 < (x.2.2.length : Int)
  · rw [if_pos h]
    refine ⟨false, rfl, ⟨fun hc => (by cases hc), fun hc => ?_⟩⟩
    obtain ⟨x, hx, h2⟩ := h
    have := hc.2 x hx
    omega
  · rw [if_neg h, IZ]
    refine ⟨_, rfl, ?_⟩
    rw [decide_eq_true_iff]
    exact ⟨fun hc => ⟨hc, fun x hx => Nat.le_of_not_lt fun h2 => h ⟨x, hx, by omega⟩⟩, fun hc => hc.1⟩
theorem HH {t : List Rl} (hl : t.length ≤ 9223372036854775807) (hI : ∀ x ∈ t, I4 x.2.1.2.1) (ports room port : Int) (p : P4) : Do t ports room port p = some true := by
  unfold Do
  rw [LR]
  obtain ⟨b, hb, hs⟩ := KY hl
  rw [hb, Option.bind_some]
  cases b with
  | false => rfl
  | true =>
    obtain ⟨s1, s2⟩ := hs.1 rfl
    have hA : ∀ x ∈ t, x.2.2.length ≤ 1000 := fun x hx => by have := s2 x hx; omega
    rw [if_neg (by decide), KN (by omega) hI, LZ (by omega) hA, Option.bind_some, Option.bind_some, if_neg (by simp), Lh (by omega) hA, Option.bind_some, Option.bind_some, if_neg (by decide), Option.bind_some]
    by_cases h : Ny ports room t
    · rw [decide_eq_true h, if_neg (by decide), JZ, Option.bind_some]
      by_cases hp : Nr p
      · rw [decide_eq_true hp]
        have hbp := Mx hp
        obtain ⟨r1, r2, r3⟩ := Mh (by omega) h.2.1 port hbp
        rw [show (!true) = false from rfl, Option.bind_some, if_neg (show ¬ (false = true) by decide), Kl (by omega) h.2.1 port hbp, Jx (by omega) h.2.1 port hbp, Option.bind_some, Option.bind_some, if_pos rfl, r1, r2, Option.bind_some, Option.bind_some, Lk (by omega), decide_eq_true rfl]
        rfl
      · rw [decide_eq_false hp]; rfl
    · rw [decide_eq_false h]; rfl
theorem HG (p0 : List Rl) (ok0 : My Nl p0) (p1 : Int) {A : Prop} (_ : A) (p2 : Int) {B : Prop} (_ : B) (p3 : Int) {C : Prop} (_ : C) (p4 : P4) {D : Prop} (_ : D) : Do p0 p1 p2 p3 p4 = some true := HH ok0.1 (fun x hx => MZ (ok0.2 x hx)) p1 p2 p3 p4
end Go.Proofs.Ytkjjioigbpkifaa
