/- Layer 11: tables, who is found. Conditions: none. -/
import Derived.Test.YtkjjioigbpkifaacM10
import Derived.Test.YtkjjioigbpkifaacEV
namespace Go.Proofs.Ytkjjioigbpkifaa
set_option linter.unusedVariables false
set_option linter.unusedSimpArgs false
set_option synthInstance.maxSize 1000
open Go Go.RowKit
abbrev kq (a b : Rl) : Prop := a.1 = b.1 ∧ a.2.1 = b.2.1
abbrev Bf (a b : Rl) : Prop := b.1 ≤ a.1 ∧ ¬ kq a b
abbrev I9 (ports room : Int) (t : List Rl) : Prop := (t.length : Int) ≤ room ∧ (∀ x ∈ t, Gl ports x) ∧ t.Pairwise Bf
noncomputable instance (ports room : Int) (t : List Rl) : Decidable (I9 ports room t) := Classical.propDecidable _
theorem LB (x y : Rl) : FE x y = decide (kq x y) := Mh x y
theorem KO {t : List Rl} : t.Pairwise Bf ↔ ∀ (i j : Nat) (a b : Rl), i < j → t[i]? = some a → t[j]? = some b → Bf a b := by
  rw [List.pairwise_iff_getElem]
  constructor
  · intro h i j a b hij ha hb
    obtain ⟨hi, rfl⟩ := List.getElem?_eq_some_iff.1 ha
    obtain ⟨hj, rfl⟩ := List.getElem?_eq_some_iff.1 hb
    exact h i j hi hj hij
  · intro h i j hi hj hij
    exact h i j _ _ hij (List.getElem?_eq_getElem hi) (List.getElem?_eq_getElem hj)
theorem ND {t : List Rl} (hl : t.length ≤ 1000) (hA : ∀ x ∈ t, x.2.2.length ≤ 1000) (ports room : Int) : F4 t ports room = some (decide (I9 ports room t)) := by
  have hd : DecidablePred fun i : Nat => ∃ x, t[i]? = some x ∧ (¬ Gl ports x ∨ ∃ k y, k < i ∧ t[k]? = some y ∧ (y.1 < x.1 ∨ kq y x)) := fun _ => Classical.propDecidable _
  unfold F4
  rw [ES t.length (El t ports) (fun i : Nat => ∃ x, t[i]? = some x ∧ (¬ Gl ports x ∨ ∃ k y, k < i ∧ t[k]? = some y ∧ (y.1 < x.1 ∨ kq y x))) false (fun i hi => by
    have hx := Cv (List.getElem?_eq_getElem hi)
    have hm := hA _ (List.getElem_mem hi)
    rw [El, if_pos (by omega), hx, Option.bind_some, IH (by omega), Option.bind_some, BC (by omega)]
    by_cases c : Gl ports t[i]
    · have hd2 : DecidablePred fun k : Nat => ∃ y, t[k]? = some y ∧ (y.1 < t[i].1 ∨ kq y t[i]) := fun _ => Classical.propDecidable _
      rw [decide_eq_true c, if_neg (by decide), ES i (Ed t (i : Int)) (fun k : Nat => ∃ y, t[k]? = some y ∧ (y.1 < t[i].1 ∨ kq y t[i])) (.inr (.inr false)) (fun k hk => by
        have hk2 : k < t.length := by omega
        have hy := Cv (List.getElem?_eq_getElem hk2)
        rw [Ed, if_pos (by omega), hy, hx, Option.bind_some, Option.bind_some, BC (by omega)]
        have e : (∃ y, t[k]? = some y ∧ (y.1 < t[i].1 ∨ kq y t[i])) ↔ (t[k].1 < t[i].1 ∨ kq t[k] t[i]) := by
          rw [List.getElem?_eq_getElem hk2]
          exact ⟨fun ⟨y, h1, h2⟩ => by cases h1; exact h2, fun h => ⟨_, rfl, h⟩⟩
        by_cases c1 : t[k].1 < t[i].1
        · rw [if_pos c1, Option.bind_some, if_pos rfl, if_pos (e.2 (.inl c1))]
        · rw [if_neg c1, Option.bind_some, Option.bind_some, LB, Option.bind_some]
          by_cases c2 : kq t[k] t[i]
          · rw [decide_eq_true c2, if_pos rfl, if_pos (e.2 (.inr c2))]
          · rw [decide_eq_false c2, if_neg (by decide), if_neg (fun h => (e.1 h).elim c1 c2)]; rfl) (by rw [Ed, if_neg (by omega)])]
      by_cases h : ∃ k, k < i ∧ ∃ y, t[k]? = some y ∧ (y.1 < t[i].1 ∨ kq y t[i])
      · obtain ⟨k, hk, y, h1, h2⟩ := h
        rw [if_pos ⟨k, hk, y, h1, h2⟩, if_pos ⟨t[i], List.getElem?_eq_getElem hi, .inr ⟨k, y, hk, h1, h2⟩⟩]; rfl
      · rw [if_neg h, if_neg (fun ⟨x, h1, h2⟩ => by
          rw [List.getElem?_eq_getElem hi] at h1
          cases h1
          rcases h2 with h2 | ⟨k, y, hk, h3, h4⟩
          · exact h2 c
          · exact h ⟨k, hk, y, h3, h4⟩)]; rfl
    · rw [decide_eq_false c, if_pos (by decide), if_pos ⟨t[i], List.getElem?_eq_getElem hi, .inl c⟩]; rfl) (by rw [El, if_neg (by omega)])]
  by_cases h : ∃ i, i < t.length ∧ ∃ x, t[i]? = some x ∧ (¬ Gl ports x ∨ ∃ k y, k < i ∧ t[k]? = some y ∧ (y.1 < x.1 ∨ kq y x))
  · rw [if_pos h]
    show some false = _
    rw [decide_eq_false (fun hc => by
      obtain ⟨i, hi, x, h1, h2⟩ := h
      rcases h2 with h2 | ⟨k, y, hk, h3, h4⟩
      · exact h2 (hc.2.1 x (List.mem_of_getElem? h1))
      · have := KO.1 hc.2.2 k i y x hk h3 h1
        rcases h4 with h4 | h4
        · omega
        · exact this.2 h4)]
  · rw [if_neg h]
    show some (decide ((t.length : Int) ≤ room)) = _
    congr 1
    refine decide_eq_decide.2 ⟨fun h1 => ⟨h1, fun x hx => Classical.byContradiction fun hn => ?_, KO.2 fun i j a b hij ha hb => ?_⟩, fun h1 => h1.1⟩
    · obtain ⟨i, hi, rfl⟩ := List.getElem_of_mem hx
      exact h ⟨i, hi, _, List.getElem?_eq_getElem hi, .inl hn⟩
    · have hj := (List.getElem?_eq_some_iff.1 hb).1
      have hn : ¬ (a.1 < b.1 ∨ kq a b) := fun hc => h ⟨j, hj, b, hb, .inr ⟨i, a, hij, ha, hc⟩⟩
      exact ⟨by
        have := fun hc => hn (.inl hc)
        omega, fun hc => hn (.inr hc)⟩
section
variable {κ : Type} [DecidableEq κ]
def ky (m : List (κ × Unit)) : List κ := m.map (·.1)
theorem MX : ∀ (m : List (κ × Unit)) (x : κ), ky (GP m x ()) = if x ∈ ky m then ky m else ky m ++ [x]
  | [], x => rfl
  | p :: m, x => by
    unfold GP
    by_cases c : x = p.1
    · have e : x ∈ ky (p :: m) := by rw [c]; exact List.mem_cons_self ..
      rw [if_pos c, if_pos e, c]
    · rw [if_neg c]
      show p.1 :: ky (GP m x ()) = _
      rw [MX m x]
      by_cases h : x ∈ ky m
      · have e : x ∈ ky (p :: m) := List.mem_cons_of_mem _ h
        rw [if_pos h, if_pos e]; rfl
      · have e : ¬ x ∈ ky (p :: m) := fun hc => (List.mem_cons.1 hc).elim c h
        rw [if_neg h, if_neg e]; rfl
def GR (l : List κ) : List (κ × Unit) := l.foldl (fun m x => GP m x ()) []
theorem Jw (l : List κ) (x : κ) : GR (l ++ [x]) = GP (GR l) x () := by unfold GR; rw [List.foldl_append]; rfl
theorem JD : ∀ (n : Nat) (l : List κ), l.length = n → (∀ x, x ∈ ky (GR l) ↔ x ∈ l) ∧ (GR l).length ≤ n ∧ ((GR l).length = n ↔ l.Nodup)
  | 0, l, h => by
    obtain rfl := List.eq_nil_of_length_eq_zero h
    exact ⟨fun x => Iff.rfl, Nat.le_refl _, ⟨fun _ => List.nodup_nil, fun _ => rfl⟩⟩
  | n + 1, l, h => by
    obtain ⟨l', x, rfl⟩ : ∃ l' x, l = l' ++ [x] := ⟨l.dropLast, l.getLast (by intro hc; rw [hc] at h; cases h), (List.dropLast_concat_getLast _).symm⟩
    have hl : l'.length = n := by simpa using h
    obtain ⟨i1, i2, i3⟩ := JD n l' hl
    have hk := MX (GR l') x
    rw [← Jw] at hk
    have hlen : (GR (l' ++ [x])).length = (ky (GR (l' ++ [x]))).length := by unfold ky; rw [List.length_map]
    have hlen' : (GR l').length = (ky (GR l')).length := by unfold ky; rw [List.length_map]
    by_cases c : x ∈ ky (GR l')
    · rw [if_pos c] at hk
      have hx := (i1 x).1 c
      refine ⟨fun y => ?_, by rw [hlen, hk, ← hlen']; omega, ?_⟩
      · rw [hk, i1, List.mem_append, List.mem_singleton]
        exact ⟨.inl, fun h => h.elim id fun e => by rw [e]; exact hx⟩
      · rw [hlen, hk, ← hlen']
        refine ⟨fun h => by omega, fun h => ?_⟩
        exact absurd rfl ((List.nodup_append.1 h).2.2 x hx x (by simp))
    · rw [if_neg c] at hk
      have hx : ¬ x ∈ l' := fun h => c ((i1 x).2 h)
      refine ⟨fun y => ?_, by rw [hlen, hk, List.length_append, ← hlen']; simp; omega, ?_⟩
      · rw [hk, List.mem_append, i1, List.mem_append]
      · rw [hlen, hk, List.length_append, ← hlen']
        simp only [List.length_singleton]
        constructor
        · intro h
          refine List.nodup_append.2 ⟨i3.1 (by omega), by simp, fun a ha b hb hab => ?_⟩
          rw [List.mem_singleton] at hb
          subst hb; subst hab
          exact hx ha
        · intro h
          have := i3.2 (List.nodup_append.1 h).1
          omega
end
open Classical in
theorem LM {σ ε : Type} (n : Nat) (S : Nat → σ) (step : Int × σ → Option ((Int × σ) ⊕ (σ ⊕ ε))) (q : Nat → Prop) [DecidablePred q] (e : ε)
    (hs : ∀ k, k < n → step ((k : Int), S k) = some (if q k then .inr (.inr e) else .inl (((k + 1 : Nat) : Int), S (k + 1)))) (he : step ((n : Int), S n) = some (.inr (.inl (S n)))) :
    A9 step (0, S 0) = some (if ∃ k : Nat, k < n ∧ q k then .inr e else .inl (S n)) := by
  have key : ∀ (d k : Nat), k + d = n → A9 step ((k : Int), S k) = some (if ∃ j : Nat, k ≤ j ∧ j < n ∧ q j then .inr e else .inl (S n)) := by
    intro d
    induction d with
    | zero =>
      intro k hk
      obtain rfl : k = n := by omega
      rw [if_neg (fun ⟨j, h1, h2, _⟩ => by omega)]
      exact B0 he
    | succ d ih =>
      intro k hk
      have hs' := hs k (by omega)
      by_cases hq : q k
      · rw [if_pos hq] at hs'
        rw [if_pos ⟨k, Nat.le_refl _, by omega, hq⟩]
        exact B0 hs'
      · rw [if_neg hq] at hs'
        rw [Ce hs', ih (k + 1) (by omega)]
        by_cases h : ∃ j, k + 1 ≤ j ∧ j < n ∧ q j
        · obtain ⟨j, h1, h2, h3⟩ := h
          rw [if_pos ⟨j, h1, h2, h3⟩, if_pos ⟨j, by omega, h2, h3⟩]
        · rw [if_neg h, if_neg (fun ⟨j, h1, h2, h3⟩ => by
            by_cases e : j = k
            · subst e; exact hq h3
            · exact h ⟨j, by omega, h2, h3⟩)]
  have h0 := key n 0 (by omega)
  rw [show ((0 : Int), S 0) = (((0 : Nat) : Int), S 0) from rfl, h0]
  by_cases h : ∃ k, k < n ∧ q k
  · obtain ⟨k, h1, h2⟩ := h
    rw [if_pos ⟨k, Nat.zero_le _, h1, h2⟩, if_pos ⟨k, h1, h2⟩]
  · rw [if_neg h, if_neg (fun ⟨k, _, h1, h2⟩ => h ⟨k, h1, h2⟩)]
abbrev Oo (x : Rl) : Int × Mt := (x.1, x.2.1)
theorem JB {t : List Rl} (hl : t.length ≤ 1000) (hI : ∀ x ∈ t, I4 x.2.1.2.1) (ports room : Int) : D8 t ports room = some (decide (I9 ports room t)) := by
  unfold D8
  by_cases hr : room < (t.length : Int)
  · rw [if_pos hr, decide_eq_false (fun h => by have := h.1; omega)]
  · rw [if_neg hr]
    have hd : DecidablePred fun i : Nat => ∃ x, t[i]? = some x ∧ (¬ Gl ports x ∨ ∃ y, 0 < i ∧ t[i - 1]? = some y ∧ y.1 < x.1) := fun _ => Classical.propDecidable _
    have hS : ∀ k (hk : k < t.length), GR ((t.take (k + 1)).map Oo) = GP (GR ((t.take k).map Oo)) (t[k].1, t[k].2.1) () := fun k hk => by
      rw [List.take_succ_eq_append_getElem hk, List.map_append, List.map_singleton, Jw]
    have hloop := LM t.length (fun k => GR ((t.take k).map Oo)) (DB t ports) (fun i : Nat => ∃ x, t[i]? = some x ∧ (¬ Gl ports x ∨ ∃ y, 0 < i ∧ t[i - 1]? = some y ∧ y.1 < x.1)) false (fun i hi => by
      have hx := Cv (List.getElem?_eq_getElem hi)
      have e : (∃ x, t[i]? = some x ∧ (¬ Gl ports x ∨ ∃ y, 0 < i ∧ t[i - 1]? = some y ∧ y.1 < x.1)) ↔ (¬ Gl ports t[i] ∨ ∃ y, 0 < i ∧ t[i - 1]? = some y ∧ y.1 < t[i].1) := by
        rw [List.getElem?_eq_getElem hi]
        exact ⟨fun ⟨y, h1, h2⟩ => by cases h1; exact h2, fun h => ⟨_, rfl, h⟩⟩
      rw [DB, if_pos (by omega), hx, Option.bind_some, K0 (hI _ (List.getElem_mem hi)), Option.bind_some, BC (by omega)]
      by_cases c : Gl ports t[i]
      · rw [decide_eq_true c, if_neg (by decide)]
        by_cases h0 : 0 < i
        · have hi1 : i - 1 < t.length := by omega
          have hy := Cv (List.getElem?_eq_getElem hi1)
          rw [if_pos (by omega), BC (by omega), show ((i : Int) - 1) = ((i - 1 : Nat) : Int) by omega, hy, Option.bind_some, Option.bind_some]
          unfold DZ
          by_cases c1 : t[i - 1].1 < t[i].1
          · rw [decide_eq_true c1, if_pos rfl, if_pos (e.2 (.inr ⟨_, h0, List.getElem?_eq_getElem hi1, c1⟩))]
          · rw [decide_eq_false c1, if_neg (by decide), if_neg (fun h => (e.1 h).elim (fun h => h c) fun ⟨y, _, h2, h3⟩ => by
              rw [List.getElem?_eq_getElem hi1] at h2
              cases h2
              exact c1 h3), hS i hi]; rfl
        · rw [if_neg (by omega), Option.bind_some, if_neg (by decide), if_neg (fun h => (e.1 h).elim (fun h => h c) fun ⟨y, h1, _⟩ => h0 h1), hS i hi, BC (by omega)]; rfl
      · rw [decide_eq_false c, if_pos (by decide), Option.bind_some, if_pos rfl, if_pos (e.2 (.inl c))]) (by rw [DB, if_neg (by omega)])
    have h0 : GR ((t.take 0).map Oo) = [] := rfl
    simp only [h0] at hloop
    rw [hloop]
    by_cases h : ∃ i, i < t.length ∧ ∃ x, t[i]? = some x ∧ (¬ Gl ports x ∨ ∃ y, 0 < i ∧ t[i - 1]? = some y ∧ y.1 < x.1)
    · rw [if_pos h]
      show some false = _
      rw [decide_eq_false (fun hc => by
        obtain ⟨i, hi, x, h1, h2⟩ := h
        rcases h2 with h2 | ⟨y, hk, h3, h4⟩
        · exact h2 (hc.2.1 x (List.mem_of_getElem? h1))
        · have := (KO.1 hc.2.2 (i - 1) i y x (by omega) h3 h1).1
          omega)]
    · rw [if_neg h, Hx, List.take_length]
      congr 1
      have hok : ∀ x ∈ t, Gl ports x := fun x hx => Classical.byContradiction fun hn => by
        obtain ⟨i, hi, rfl⟩ := List.getElem_of_mem hx
        exact h ⟨i, hi, _, List.getElem?_eq_getElem hi, .inl hn⟩
      have hadj : ∀ i (hi : i + 1 < t.length), t[i + 1].1 ≤ t[i].1 := fun i hi => by
        have : ¬ t[i].1 < t[i + 1].1 := fun hc => h ⟨i + 1, hi, _, List.getElem?_eq_getElem hi, .inr ⟨t[i], by omega, by simp [List.getElem?_eq_getElem (show i < t.length by omega)], hc⟩⟩
        omega
      have hmono : ∀ (d i : Nat) (hi : i + d < t.length), t[i + d].1 ≤ (t[i]'(by omega)).1 := by
        intro d
        induction d with
        | zero => intro i hi; exact Int.le_refl _
        | succ d ih => intro i hi; exact Int.le_trans (hadj (i + d) (by omega)) (ih i (by omega))
      have hg := (JD t.length (t.map Oo) (by simp)).2.2
      refine decide_eq_decide.2 ⟨fun h1 => ⟨by omega, hok, List.pairwise_iff_getElem.2 fun i j hi hj hij => ⟨?_, fun hc => ?_⟩⟩, fun h1 => ?_⟩
      · have := hmono (j - i) i (by omega)
        simp only [show i + (j - i) = j by omega] at this
        exact this
      · have hnd := hg.1 (by omega)
        have := (List.pairwise_iff_getElem.1 hnd) i j (by simpa using hi) (by simpa using hj) hij
        simp only [List.getElem_map] at this
        exact this (Prod.ext hc.1 hc.2)
      · have hnd : (t.map Oo).Nodup := List.pairwise_iff_getElem.2 fun i j hi hj hij hc => by
          rw [List.getElem_map, List.getElem_map] at hc
          have hb := (List.pairwise_iff_getElem.1 h1.2.2) i j (by simpa using hi) (by simpa using hj) hij
          exact hb.2 ⟨congrArg (fun q : Int × Mt => q.1) hc, congrArg (fun q : Int × Mt => q.2) hc⟩
        have := hg.2 hnd
        omega
def HQ {α : Type} (P : α → Bool) : List α → Nat → Int
  | [], _ => -1
  | x :: l, k => if P x = true then (k : Int) else HQ P l (k + 1)
theorem Hn {α : Type} (l : List α) (hl : l.length ≤ 1000000) (P : α → Bool) (step : Int → Option (Int ⊕ (Unit ⊕ Int)))
    (hs : ∀ k (hk : k < l.length), step (k : Int) = if P l[k] = true then some (.inr (.inr (k : Int))) else some (.inl (BT ((k : Int) + 1)))) (he : step (l.length : Int) = some (.inr (.inl ()))) :
    FB (A9 step 0) (fun _ => some (-1)) = some (HQ P l 0) := by
  have key : ∀ (d k : Nat), k + d = l.length → FB (A9 step (k : Int)) (fun _ => some (-1)) = some (HQ P (l.drop k) k) := by
    intro d
    induction d with
    | zero =>
      intro k hk
      obtain rfl : k = l.length := by omega
      rw [B0 he, List.drop_eq_nil_of_le (Nat.le_refl _)]; rfl
    | succ d ih =>
      intro k hk
      have hk2 : k < l.length := by omega
      have h := hs k hk2
      rw [List.drop_eq_getElem_cons hk2]
      show _ = some (if P l[k] = true then (k : Int) else HQ P (l.drop (k + 1)) (k + 1))
      by_cases c : P l[k] = true
      · rw [if_pos c] at h
        rw [if_pos c, B0 h]; rfl
      · rw [if_neg c, BC (by omega)] at h
        rw [if_neg c, Ce h]
        exact ih (k + 1) (by omega)
  exact key l.length 0 (by omega)
theorem F2 {α : Type} (P : α → Bool) : ∀ (l : List α) (k : Nat), (HQ P l k = -1 ∧ ∀ x ∈ l, P x = false) ∨ ∃ (j : Nat) (x : α), l[j]? = some x ∧ P x = true ∧ HQ P l k = ((k + j : Nat) : Int) ∧ ∀ (i : Nat) (y : α), i < j → l[i]? = some y → P y = false
  | [], k => .inl ⟨rfl, fun x hx => by cases hx⟩
  | x :: l, k => by
    by_cases c : P x = true
    · exact .inr ⟨0, x, rfl, c, if_pos c, fun i y hi => by omega⟩
    · have e : HQ P (x :: l) k = HQ P l (k + 1) := if_neg c
      rcases F2 P l (k + 1) with ⟨h1, h2⟩ | ⟨j, y, h1, h2, h3, h4⟩
      · exact .inl ⟨e.trans h1, fun y hy => by
          rcases List.mem_cons.1 hy with rfl | hy
          · simpa using c
          · exact h2 y hy⟩
      · refine .inr ⟨j + 1, y, h1, h2, by rw [e, h3]; omega, fun i z hi hz => ?_⟩
        cases i with
        | zero => simp at hz; subst hz; simpa using c
        | succ i => exact h4 i z (by omega) (by simpa using hz)
abbrev Qn (t : List Rl) : Prop := (t.length : Int) ≤ 20 ∧ ∀ x ∈ t, x.2.2.length ≤ 10
theorem MC {t : List Rl} (hl : t.length ≤ 9223372036854775807) : ∃ b, FX t = some b ∧ (b = true ↔ Qn t) := by
  unfold FX
  rw [FY t hl (Ee t) (fun x => 10 < (x.2.2.length : Int)) false (fun k hk => by
    rw [Ee, if_pos (by omega), Cv (List.getElem?_eq_getElem hk), Option.bind_some]) (by rw [Ee, if_neg (by omega)])]
  by_cases h : ∃ x ∈ t, 10 < (x.2.2.length : Int)
  · rw [if_pos h]
    refine ⟨false, rfl, ⟨fun hc => (by cases hc), fun hc => ?_⟩⟩
    obtain ⟨x, hx, h2⟩ := h
    have := hc.2 x hx
    omega
  · rw [if_neg h, Hx]
    refine ⟨_, rfl, ?_⟩
    rw [decide_eq_true_iff]
    exact ⟨fun hc => ⟨hc, fun x hx => Nat.le_of_not_lt fun h2 => h ⟨x, hx, by omega⟩⟩, fun hc => hc.1⟩
end Go.Proofs.Ytkjjioigbpkifaa
