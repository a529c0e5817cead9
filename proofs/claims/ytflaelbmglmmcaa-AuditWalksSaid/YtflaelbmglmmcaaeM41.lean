/- Layer 42: traces. Conditions: none. -/
import Derived.Test.YtflaelbmglmmcaaeLP
import Derived.Test.YtflaelbmglmmcaaeDR
import Derived.Test.YtflaelbmglmmcaaeA8
namespace Go.Proofs.Ytflaelbmglmmcaa
set_option linter.unusedVariables false
set_option linter.unusedSimpArgs false
open Go Go.RowKit
theorem Fx {κ ν : Type} [DecidableEq κ] : ∀ (l : List (κ × ν)) (x : κ) (v : ν) (y : κ), CE (CY l x v) y = if y = x then some v else CE l y
  | [], x, v, y => by
    show (if y = x then some v else none) = _
    rfl
  | p :: l, x, v, y => by
    unfold CY
    by_cases c : x = p.1
    · rw [if_pos c]
      show (if y = x then some v else CE l y) = if y = x then some v else if y = p.1 then some p.2 else CE l y
      by_cases d : y = x
      · rw [if_pos d, if_pos d]
      · rw [if_neg d, if_neg d, if_neg (by rw [← c]; exact d)]
    · rw [if_neg c]
      show (if y = p.1 then some p.2 else CE (CY l x v) y) = if y = x then some v else if y = p.1 then some p.2 else CE l y
      rw [Fx l x v y]
      by_cases d : y = p.1
      · rw [if_pos d, if_pos d, if_neg (by rw [d]; exact fun h => c h.symm)]
      · rw [if_neg d, if_neg d]
abbrev Ev := Int × Int × Int × Int × Int × Int
abbrev Tr := Int × Int × Int × Int × List Int × Int × Int × Int
abbrev OV := Int × Int × Int × Int × (Nat × List Int) × Int × Int × Int
def fl (t : Tr) : OV := (t.1, t.2.1, t.2.2.1, t.2.2.2.1, (2, t.2.2.2.2.1), t.2.2.2.2.2.1, t.2.2.2.2.2.2.1, t.2.2.2.2.2.2.2)
theorem LY : ∀ T : List Tr, Gf Lp (T.map fl) = some T
  | [] => rfl
  | t :: T => by
    show (Lp (fl t)).bind (fun a => (Gf Lp (T.map fl)).bind fun m => some (a :: m)) = _
    rw [LY T]; rfl
def Nx (e : Ev) : Tr := (e.2.2.1, e.2.2.2.2.1, e.2.2.2.2.2, e.2.1, [], 0, 0, e.2.1)
def op (u : Int) (t : Tr) : Prop := t.1 = u ∧ t.2.2.2.2.2.1 = 0
instance (u : Int) (t : Tr) : Decidable (op u t) := by unfold op; infer_instance
def lo (T : List Tr) (u : Int) : Nat → Int
  | 0 => -1
  | n + 1 => match T[n]? with | some t => if op u t then (n : Int) else lo T u n | none => lo T u n
def FM (e : Ev) (t : Tr) : Tr := if e.1 = 2 then (t.1, t.2.1, t.2.2.1, t.2.2.2.1, t.2.2.2.2.1 ++ [e.2.2.2.1], t.2.2.2.2.2.1, t.2.2.2.2.2.2.1, e.2.1) else (t.1, t.2.1, t.2.2.1, t.2.2.2.1, t.2.2.2.2.1, e.1, if e.1 = 3 then e.2.2.2.2.1 else t.2.2.2.2.2.2.1, e.2.1)
def D9 (T : List Tr) (e : Ev) : List Tr :=
  if e.1 = 1 then T ++ [Nx e]
  else if (e.1 = 2 ∨ e.1 = 3 ∨ e.1 = 4) ∧ lo T e.2.2.1 T.length ≠ -1 then match T[(lo T e.2.2.1 T.length).toNat]? with | some t => T.set (lo T e.2.2.1 T.length).toNat (FM e t) | none => T
  else T
theorem La (T : List Tr) (u : Int) : ∀ n, (lo T u n = -1 ∧ ∀ k t, k < n → T[k]? = some t → ¬ op u t) ∨ ∃ (k : Nat) (t : Tr), lo T u n = (k : Int) ∧ k < n ∧ T[k]? = some t ∧ op u t ∧ ∀ j s, k < j → j < n → T[j]? = some s → ¬ op u s
  | 0 => .inl ⟨rfl, fun k t h => absurd h (Nat.not_lt_zero k)⟩
  | n + 1 => by
    have ih := La T u n
    cases hg : T[n]? with
    | none =>
      have e : lo T u (n + 1) = lo T u n := by rw [lo, hg]
      rw [e]
      rcases ih with ⟨h1, h2⟩ | ⟨k, t, h1, h2, h3, h4, h5⟩
      · refine .inl ⟨h1, fun k t hk ht => ?_⟩
        by_cases c : k = n
        · subst c; rw [hg] at ht; cases ht
        · exact h2 k t (by omega) ht
      · refine .inr ⟨k, t, h1, by omega, h3, h4, fun j s hj hjn hs => ?_⟩
        by_cases c : j = n
        · subst c; rw [hg] at hs; cases hs
        · exact h5 j s hj (by omega) hs
    | some x =>
      by_cases ho : op u x
      · have e : lo T u (n + 1) = (n : Int) := by rw [lo, hg]; exact if_pos ho
        exact .inr ⟨n, x, e, by omega, hg, ho, fun j s hj hjn => by omega⟩
      · have e : lo T u (n + 1) = lo T u n := by rw [lo, hg]; exact if_neg ho
        rw [e]
        rcases ih with ⟨h1, h2⟩ | ⟨k, t, h1, h2, h3, h4, h5⟩
        · refine .inl ⟨h1, fun k t hk ht => ?_⟩
          by_cases c : k = n
          · subst c; rw [hg] at ht; cases ht; exact ho
          · exact h2 k t (by omega) ht
        · refine .inr ⟨k, t, h1, by omega, h3, h4, fun j s hj hjn hs => ?_⟩
          by_cases c : j = n
          · subst c; rw [hg] at hs; cases hs; exact ho
          · exact h5 j s hj (by omega) hs
theorem GY {T S : List Tr} {u v : Int} : ∀ {n : Nat}, (∀ k, k < n → ((∃ t, T[k]? = some t ∧ op u t) ↔ ∃ s, S[k]? = some s ∧ op v s)) → lo T u n = lo S v n
  | 0, _ => rfl
  | n + 1, h => by
    have ih := GY (n := n) fun k hk => h k (by omega)
    have hn := h n (by omega)
    have key : ∀ (T : List Tr) (u : Int), lo T u (n + 1) = (open Classical in if ∃ t, T[n]? = some t ∧ op u t then (n : Int) else lo T u n) := fun T u => by
      rw [lo]
      cases hg : T[n]? with
      | none => rw [if_neg (fun ⟨t, h, _⟩ => by cases h)]
      | some x =>
        by_cases ho : op u x
        · rw [if_pos ⟨x, rfl, ho⟩]; exact if_pos ho
        · rw [if_neg (fun ⟨t, h, h2⟩ => by cases h; exact ho h2)]; exact if_neg ho
    rw [key T u, key S v, ih]
    by_cases c : ∃ t, T[n]? = some t ∧ op u t
    · rw [if_pos c, if_pos (hn.1 c)]
    · rw [if_neg c, if_neg (fun h => c (hn.2 h))]
theorem LM (T : List Tr) (e : Ev) : (D9 T e).length = T.length + if e.1 = 1 then 1 else 0 := by
  unfold D9
  by_cases c : e.1 = 1
  · rw [if_pos c, if_pos c]; simp
  · rw [if_neg c, if_neg c]
    split
    · cases T[(lo T e.2.2.1 T.length).toNat]? <;> simp
    · rfl
theorem NR {T : List Tr} {k : Nat} {t : Tr} (h : T[k]? = some t) : ix (T.map fl) (k : Int) = some (fl t) := A9 (by rw [List.getElem?_map, h]; rfl)
theorem KR (T : List Tr) (k : Nat) (t : Tr) : Ax (T.map fl) (k : Int) (fl t) = (T.set k t).map fl := by
  unfold Ax
  rw [Int.toNat_natCast, List.map_set]
structure Inv (T : List Tr) (m : List (Int × Int)) (bf : List Int) : Prop where
  len : bf.length = T.length
  cur : ∀ u, (CE m u).getD (-1) = lo T u T.length
  bef : ∀ (i : Nat) (t : Tr), T[i]? = some t → t.2.2.2.2.2.1 = 0 → bf[i]? = some (lo T t.1 i)
theorem MN (T : List OV) (m : List (Int × Int)) (bf : List Int) (u : Int) : AC (T, m, bf) u = (CE m u).getD (-1) := by
  unfold AC
  cases h : CE m u with
  | none => rfl
  | some v => rfl
theorem KA (T : List Tr) (x : Tr) (u : Int) {n : Nat} (hn : n ≤ T.length) : lo (T ++ [x]) u n = lo T u n :=
  GY fun k hk => by rw [List.getElem?_append_left (by omega)]
theorem Jw (T : List Tr) (x : Tr) (u : Int) : lo (T ++ [x]) u (T ++ [x]).length = if op u x then (T.length : Int) else lo T u T.length := by
  have hg : (T ++ [x])[T.length]? = some x := by simp
  rw [show (T ++ [x]).length = T.length + 1 by simp, lo, hg]
  show (if op u x then (T.length : Int) else lo (T ++ [x]) u T.length) = _
  rw [KA T x u (Nat.le_refl _)]
theorem JO {T : List Tr} {u : Int} {k : Nat} : ∀ {n : Nat}, k ≤ n → (∀ j s, k ≤ j → j < n → T[j]? = some s → ¬ op u s) → lo T u n = lo T u k
  | 0, hk, _ => by rw [show k = 0 by omega]
  | n + 1, hk, h => by
    by_cases c : k = n + 1
    · rw [c]
    · rw [lo]
      cases hg : T[n]? with
      | none => exact JO (by omega) fun j s h1 h2 => h j s h1 (by omega)
      | some x =>
        show (if op u x then (n : Int) else lo T u n) = _
        rw [if_neg (h n x (by omega) (by omega) hg)]
        exact JO (by omega) fun j s h1 h2 => h j s h1 (by omega)
abbrev Kd (e : Ev) : Prop := e.1 = 2 ∨ e.1 = 3 ∨ e.1 = 4
theorem On (n : Int) : (if n = 2 then some true else (if n = 3 then some true else some (decide (n = 4)))) = some (decide (n = 2 ∨ n = 3 ∨ n = 4)) := by
  by_cases h0 : n = 2
  · simp [h0]
  · by_cases h1 : n = 3 <;> simp [h0, h1]
theorem IG {T : List Tr} {e : Ev} {k : Nat} {t : Tr} (c1 : ¬ e.1 = 1) (c2 : Kd e) (h1 : lo T e.2.2.1 T.length = (k : Int)) (h3 : T[k]? = some t) : D9 T e = T.set k (FM e t) := by
  unfold D9
  rw [if_neg c1, if_pos ⟨c2, by omega⟩, h1, Int.toNat_natCast, h3]
theorem MX {T : List Tr} {m : List (Int × Int)} {bf : List Int} (h : Inv T m bf) (hT : T.length ≤ 1000) (hs : ∀ t ∈ T, t.2.2.2.2.1.length ≤ 1000) (e : Ev) : ∃ m' bf', Cp (T.map fl, m, bf) e = some ((D9 T e).map fl, m', bf') ∧ Inv (D9 T e) m' bf' := by
  have hl := h.len
  unfold Cp
  by_cases c1 : e.1 = 1
  · have hst : D9 T e = T ++ [Nx e] := by unfold D9; rw [if_pos c1]
    rw [if_pos c1, hst]
    unfold CF
    refine ⟨CY m e.2.2.1 (T.length : Int), bf ++ [lo T e.2.2.1 T.length], ?_, ?_⟩
    · rw [MN, h.cur, Ek (by simp; omega), Option.bind_some, Ek (by simp; omega), Option.bind_some, Option.bind_some, List.map_append, List.length_map]; rfl
    · refine ⟨by simp [hl], fun u => ?_, fun i t hg h0 => ?_⟩
      · rw [Fx, Jw]
        by_cases c : u = e.2.2.1
        · rw [if_pos c, if_pos ⟨c.symm, rfl⟩]; rfl
        · rw [if_neg c, if_neg (fun h => c h.1.symm), h.cur]
      · by_cases hi : i < T.length
        · rw [List.getElem?_append_left hi] at hg
          rw [List.getElem?_append_left (by omega), h.bef i t hg h0, KA T _ _ (by omega)]
        · have hi2 := (List.getElem?_eq_some_iff.1 hg).1
          simp at hi2
          obtain rfl : i = T.length := by omega
          have : Nx e = t := by simpa using hg
          subst this
          rw [← hl, List.getElem?_append_right (Nat.le_refl _), Nat.sub_self, hl, KA T _ _ (Nat.le_refl _)]; rfl
  · rw [if_neg c1, On, Option.bind_some, MN, h.cur]
    by_cases c2 : Kd e
    · rw [if_pos (decide_eq_true c2)]
      rcases La T e.2.2.1 T.length with ⟨h1, _⟩ | ⟨k, t, h1, h2, h3, h4, h5⟩
      · rw [if_neg (by rw [h1]; exact fun h => h rfl)]
        have hst : D9 T e = T := by unfold D9; rw [if_neg c1, if_neg (fun h => h.2 h1)]
        rw [hst]
        exact ⟨m, bf, rfl, h⟩
      · rw [if_pos (by omega), h1, IG c1 c2 h1 h3]
        have hk : ix (T.map fl) (k : Int) = some (fl t) := NR h3
        have hset : ∀ b, ix (Ax (T.map fl) (k : Int) b) (k : Int) = some b := fun b => MK hk
        have hap : FR t.2.2.2.2.1 [e.2.2.2.1] = some (t.2.2.2.2.1 ++ [e.2.2.2.1]) := Ek (by have := hs t (List.mem_of_getElem? h3); simp; omega)
        have hbk := h.bef k t h3 h4.2
        rw [h4.1] at hbk
        have hbi : ix bf (k : Int) = some (lo T e.2.2.1 k) := A9 hbk
        have hset2 : ∀ j, j ≠ k → (T.set k (FM e t))[j]? = T[j]? := fun j hj => List.getElem?_set_ne (fun h => hj h.symm)
        have hsetk : (T.set k (FM e t))[k]? = some (FM e t) := List.getElem?_set_self h2
        by_cases ce : e.1 = 2
        · have hu : ∀ v, op v (FM e t) ↔ op v t := fun v => by unfold op FM; rw [if_pos ce]
          have hlo : ∀ v n, lo (T.set k (FM e t)) v n = lo T v n := fun v n => GY fun j _ => by
            by_cases hj : j = k
            · subst hj
              rw [hsetk, h3]
              exact ⟨fun ⟨s, a, b⟩ => ⟨t, rfl, by cases a; exact (hu v).1 b⟩, fun ⟨s, a, b⟩ => ⟨_, rfl, by cases a; exact (hu v).2 b⟩⟩
            · rw [hset2 j hj]
          refine ⟨m, bf, ?_, ⟨by simp [hl], fun u => by rw [h.cur, List.length_set, hlo], fun i s hg h0 => ?_⟩⟩
          · unfold B3
            simp only [hk, Option.bind_some, if_pos ce, hset, F0]
            rw [show MA (fl t).2.2.2.2.1.1 = some () from rfl, Option.bind_some]
            show (((FR t.2.2.2.2.1 [e.2.2.2.1]).bind fun _ => _).bind fun _ => _) = _
            rw [hap]
            simp only [Option.bind_some]
            rw [← KR]
            congr 3
            unfold FM
            rw [if_pos ce]; rfl
          · rw [hlo]
            by_cases hi : i = k
            · subst hi
              rw [hsetk] at hg; cases hg
              have h6 := h.bef i t h3 h4.2
              rw [h6]
              unfold FM
              rw [if_pos ce]
            · rw [hset2 i hi] at hg; exact h.bef i s hg h0
        · have hcl : ∀ v, ¬ op v (FM e t) := fun v hv => by
            have := hv.2
            unfold FM at this
            rw [if_neg ce] at this
            rcases c2 with c | c | c <;> simp only at this <;> omega
          have hlo : ∀ v n, (v ≠ e.2.2.1 ∨ n ≤ k) → lo (T.set k (FM e t)) v n = lo T v n := fun v n hv => GY fun j hj => by
            by_cases hjk : j = k
            · subst hjk
              have hv : v ≠ e.2.2.1 := hv.resolve_right (by omega)
              rw [hsetk, h3]
              exact ⟨fun ⟨s, a, b⟩ => by cases a; exact absurd b (hcl v), fun ⟨s, a, b⟩ => by cases a; exact absurd (b.1.symm.trans h4.1) hv⟩
            · rw [hset2 j hjk]
          have hlast : lo (T.set k (FM e t)) e.2.2.1 T.length = lo T e.2.2.1 k := by
            rw [JO (k := k) (by omega) fun j s h6 h7 h8 => ?_, hlo _ _ (.inr (Nat.le_refl _))]
            by_cases hj : j = k
            · subst hj; rw [hsetk] at h8; cases h8; exact hcl _
            · rw [hset2 j hj] at h8; exact h5 j s (by omega) h7 h8
          refine ⟨CY m e.2.2.1 (lo T e.2.2.1 k), bf, ?_, ⟨by simp [hl], fun u => ?_, fun i s hg h0 => ?_⟩⟩
          · unfold B3
            by_cases c3 : e.1 = 3
            · simp only [hk, Option.bind_some, if_neg ce, if_pos c3, hset, F0, hbi]
              rw [← KR]
              congr 3
              unfold FM
              rw [if_neg ce, if_pos c3]; rfl
            · simp only [hk, Option.bind_some, if_neg ce, if_neg c3, hset, F0, hbi]
              rw [← KR]
              congr 3
              unfold FM
              rw [if_neg ce, if_neg c3]; rfl
          · rw [Fx, List.length_set]
            by_cases c : u = e.2.2.1
            · rw [if_pos c, c, hlast]; rfl
            · rw [if_neg c, h.cur, hlo _ _ (.inl c)]
          · by_cases hi : i = k
            · subst hi
              rw [hsetk] at hg; cases hg
              exact absurd ⟨rfl, h0⟩ (hcl (FM e t).1)
            · rw [hset2 i hi] at hg
              rw [h.bef i s hg h0]
              by_cases c : i ≤ k
              · rw [hlo _ _ (.inr c)]
              · rw [hlo _ _ (.inl fun hq => h5 i s (by omega) (List.getElem?_eq_some_iff.1 hg).1 hg ⟨hq, h0⟩)]
    · have hst : D9 T e = T := by unfold D9; rw [if_neg c1, if_neg (fun h => c2 h.1)]
      rw [if_neg (by rw [decide_eq_false c2]; decide), hst]
      exact ⟨m, bf, rfl, h⟩
abbrev tr (l : List Ev) : List Tr := l.foldl D9 []
theorem GV (l : List Ev) (e : Ev) : tr (l ++ [e]) = D9 (tr l) e := by unfold tr; rw [List.foldl_append]; rfl
structure Okt (P : Int → Prop) (n : Nat) (t : Tr) : Prop where
  a : P t.1
  b : P t.2.1
  c : P t.2.2.1
  d : P t.2.2.2.1
  s : ∀ x ∈ t.2.2.2.2.1, P x
  n : t.2.2.2.2.1.length ≤ n
  h : P t.2.2.2.2.2.2.1
  l : P t.2.2.2.2.2.2.2
theorem Okt.up {P : Int → Prop} {n : Nat} {t : Tr} (h : Okt P n t) : Okt P (n + 1) t := ⟨h.a, h.b, h.c, h.d, h.s, by have := h.n; omega, h.h, h.l⟩
theorem M9 {P : Int → Prop} (h0 : P 0) {n : Nat} {T : List Tr} (hT : ∀ t ∈ T, Okt P n t) {e : Ev} (he : P e.2.1 ∧ P e.2.2.1 ∧ P e.2.2.2.1 ∧ P e.2.2.2.2.1 ∧ P e.2.2.2.2.2) : ∀ t ∈ D9 T e, Okt P (n + 1) t := by
  intro x hx
  unfold D9 at hx
  by_cases c : e.1 = 1
  · rw [if_pos c] at hx
    rcases List.mem_append.1 hx with hx | hx
    · exact (hT x hx).up
    · rw [List.mem_singleton.1 hx]
      exact ⟨he.2.1, he.2.2.2.1, he.2.2.2.2, he.1, (fun y hy => by cases hy), by simp [Nx], h0, he.1⟩
  · rw [if_neg c] at hx
    by_cases c2 : (e.1 = 2 ∨ e.1 = 3 ∨ e.1 = 4) ∧ lo T e.2.2.1 T.length ≠ -1
    · rw [if_pos c2] at hx
      cases hg : T[(lo T e.2.2.1 T.length).toNat]? with
      | none => rw [hg] at hx; exact (hT x hx).up
      | some t =>
        rw [hg] at hx
        rcases List.mem_or_eq_of_mem_set hx with hx | rfl
        · exact (hT x hx).up
        · have ht := hT t (List.mem_of_getElem? hg)
          unfold FM
          by_cases ce : e.1 = 2
          · rw [if_pos ce]
            refine ⟨ht.a, ht.b, ht.c, ht.d, fun y hy => ?_, by have := ht.n; simp; omega, ht.h, he.1⟩
            rcases List.mem_append.1 hy with hy | hy
            · exact ht.s y hy
            · rw [List.mem_singleton.1 hy]; exact he.2.2.1
          · rw [if_neg ce]
            refine ⟨ht.a, ht.b, ht.c, ht.d, ht.s, by have := ht.n; show t.2.2.2.2.1.length ≤ _; omega, ?_, he.1⟩
            show P (if e.1 = 3 then _ else _)
            split
            · exact he.2.2.2.1
            · exact ht.h
    · rw [if_neg c2] at hx; exact (hT x hx).up
theorem OD {P : Int → Prop} (h0 : P 0) : ∀ (l : List Ev), (∀ e ∈ l, P e.2.1 ∧ P e.2.2.1 ∧ P e.2.2.2.1 ∧ P e.2.2.2.2.1 ∧ P e.2.2.2.2.2) → ∀ t ∈ tr l, Okt P l.length t := by
  intro l
  refine F1 (Q := fun l => (∀ e ∈ l, P e.2.1 ∧ P e.2.2.1 ∧ P e.2.2.2.1 ∧ P e.2.2.2.2.1 ∧ P e.2.2.2.2.2) → ∀ t ∈ tr l, Okt P l.length t) ?_ ?_ l
  · intro _ t ht; cases ht
  · intro l e ih h
    rw [GV, List.length_append, List.length_singleton]
    exact M9 h0 (ih fun e he => h e (List.mem_append_left _ he)) (h e (List.mem_append_right _ (List.mem_singleton.2 rfl)))
theorem MF (l : List Ev) : (tr l).length ≤ l.length := by
  refine F1 (Q := fun l => (tr l).length ≤ l.length) (Nat.le_refl _) ?_ l
  · intro l e ih
    rw [GV, LM, List.length_append, List.length_singleton]
    split <;> omega
theorem Mf (l : List Ev) : ∀ t ∈ tr l, t.2.2.2.2.1.length ≤ l.length := fun t ht => (OD (P := fun _ => True) trivial l (fun _ _ => ⟨trivial, trivial, trivial, trivial, trivial⟩) t ht).n
theorem OB {l : List Ev} (hl : l.length ≤ 1000) : E3 l = some (tr l) := by
  unfold E3
  obtain ⟨⟨x1, x2, x3⟩, ⟨h1, h2⟩, h3⟩ := FB l.length (fun (s : List OV × List Int × List (Int × Int)) (k : Nat) => ((k : Int), s.1, s.2.1, s.2.2)) (C0 l) id
    (fun s k => s.1 = (tr (l.take k)).map fl ∧ Inv (tr (l.take k)) s.2.2 s.2.1) (fun s k hk => by
      obtain ⟨a, b, c⟩ := s
      rintro ⟨ha, hI⟩
      simp only at ha hI
      subst ha
      have hg : l[k]? = some l[k] := List.getElem?_eq_getElem hk
      have hlt : (l.take k).length = k := by simp; omega
      obtain ⟨m', bf', e1, e2⟩ := MX hI (by have := MF (l.take k); omega) (fun t ht => by have := Mf (l.take k) t ht; omega) l[k]
      have hsn : tr (l.take (k + 1)) = D9 (tr (l.take k)) l[k] := by rw [List.take_succ_eq_append_getElem hk, GV]
      refine ⟨((D9 (tr (l.take k)) l[k]).map fl, bf', m'), ?_, by rw [hsn], by rw [hsn]; exact e2⟩
      rw [C0, if_pos (by omega), A9 hg, Option.bind_some, e1, Option.bind_some, BE (by omega)]; rfl) (fun s _ => by
      obtain ⟨a, b, c⟩ := s
      rw [C0, if_neg (by omega)]; rfl) ([], [], []) ⟨rfl, ⟨rfl, fun u => rfl, fun i t h => by simp at h⟩⟩
  have h4 : AQ (C0 l) (0, [], [], []) = some (id (x1, x2, x3)) := h3
  rw [h4]
  simp only [id, Option.bind_some]
  simp only at h1
  rw [h1, LY, Option.bind_some, List.take_length]
theorem Jm {κ ν : Type} [DecidableEq κ] : ∀ (l : List (κ × ν)) (x : κ) (v : ν), (CY l x v).length = if (CE l x).isSome = true then l.length else l.length + 1
  | [], _, _ => rfl
  | p :: l, x, v => by
    unfold CY CE
    by_cases c : x = p.1
    · rw [if_pos c, if_pos c]; rfl
    · rw [if_neg c, if_neg c, List.length_cons, Jm l x v]
      by_cases d : (CE l x).isSome = true
      · rw [if_pos d, if_pos d]; rfl
      · rw [if_neg d, if_neg d]; rfl
def OE (l : List Int) (i : Nat) : Prop := ∃ hi : i < l.length, ∃ j, ∃ hj : j < i, l[i] = l[j]
noncomputable instance (l : List Int) : DecidablePred (OE l) := fun _ => Classical.propDecidable _
theorem Mj {t : Tr} (hl : t.2.2.2.2.1.length ≤ 1000000) : C3 t = some (decide (¬ t.2.2.2.2.1.Nodup)) := by
  unfold C3
  obtain ⟨l, hlx⟩ : ∃ l, l = t.2.2.2.2.1 := ⟨_, rfl⟩
  rw [← hlx] at hl
  obtain ⟨m, ⟨h1, h2, h3⟩, h4⟩ := FB l.length (fun (m : List (Int × Unit)) (k : Nat) => ((k : Int), m)) (Ck t) id (fun m k => (∀ y, (CE m y).isSome = true ↔ y ∈ l.take k) ∧ m.length ≤ k ∧ (m.length = k ↔ (l.take k).Nodup)) (fun m k hk => by
    rintro ⟨h1, h2, h3⟩
    have hg : l[k]? = some l[k] := List.getElem?_eq_getElem hk
    refine ⟨CY m l[k] (), ?_, fun y => ?_, ?_⟩
    · rw [Ck, ← hlx, if_pos (by omega), A9 hg, Option.bind_some, BE (by omega)]; rfl
    · rw [Fx, List.take_succ_eq_append_getElem hk, List.mem_append, List.mem_singleton, ← h1 y]
      by_cases c : y = l[k]
      · rw [if_pos c]; simp [c]
      · rw [if_neg c]; simp [c]
    · rw [Jm, List.take_succ_eq_append_getElem hk]
      have hn : (l.take k ++ [l[k]]).Nodup ↔ (l.take k).Nodup ∧ l[k] ∉ l.take k := by
        rw [List.nodup_append]
        constructor
        · rintro ⟨a, _, c⟩
          exact ⟨a, fun h => c _ h _ (List.mem_singleton.2 rfl) rfl⟩
        · rintro ⟨a, b⟩
          exact ⟨a, by simp, fun x hx y hy e => b (by rw [← List.mem_singleton.1 hy, ← e]; exact hx)⟩
      by_cases c : (CE m l[k]).isSome = true
      · rw [if_pos c, hn]
        have := (h1 _).1 c
        exact ⟨by omega, fun h => by omega, fun h => absurd this h.2⟩
      · rw [if_neg c, hn]
        have hc : l[k] ∉ l.take k := fun h => c ((h1 _).2 h)
        refine ⟨by omega, fun h => ⟨h3.1 (by omega), hc⟩, fun h => ?_⟩
        have := h3.2 h.1
        omega) (fun m _ => by rw [Ck, ← hlx, if_neg (by omega)]; rfl) [] ⟨fun y => by simp [CE], by simp, by simp⟩
  have h5 : AQ (Ck t) (0, []) = some (id m) := h4
  rw [h5, ← hlx]
  simp only [id, Option.bind_some]
  rw [List.take_length] at h3
  congr 1
  refine decide_eq_decide.2 ⟨fun h hn => ?_, fun h => ?_⟩
  · have := h3.2 hn; omega
  · have : m.length ≠ l.length := fun e => h (h3.1 e)
    omega
end Go.Proofs.Ytflaelbmglmmcaa
