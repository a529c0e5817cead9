/- Layer 42: traces. Conditions: none. -/
import Derived.Test.YtflaelbmglmmcaadLP
import Derived.Test.YtflaelbmglmmcaadDR
import Derived.Test.YtflaelbmglmmcaadA8
namespace Go.Proofs.Ytflaelbmglmmcaa
set_option linter.unusedVariables false
set_option linter.unusedSimpArgs false
open Go Go.RowKit
theorem Fx {κ ν : Type} [DecidableEq κ] : ∀ (l : List (κ × ν)) (x : κ) (v : ν) (y : κ), C2 (C5 l x v) y = if y = x then some v else C2 l y
  | [], x, v, y => by
    show (if y = x then some v else none) = _
    rfl
  | p :: l, x, v, y => by
    unfold C5
    by_cases c : x = p.1
    · rw [if_pos c]
      show (if y = x then some v else C2 l y) = if y = x then some v else if y = p.1 then some p.2 else C2 l y
      by_cases d : y = x
      · rw [if_pos d, if_pos d]
      · rw [if_neg d, if_neg d, if_neg (by rw [← c]; exact d)]
    · rw [if_neg c]
      show (if y = p.1 then some p.2 else C2 (C5 l x v) y) = if y = x then some v else if y = p.1 then some p.2 else C2 l y
      rw [Fx l x v y]
      by_cases d : y = p.1
      · rw [if_pos d, if_pos d, if_neg (by rw [d]; exact fun h => c h.symm)]
      · rw [if_neg d, if_neg d]
abbrev Ev := Int × Int × Int × Int × Int × Int
abbrev Tr := Int × Int × Int × Int × List Int × Int × Int × Int
abbrev P5 := Int × Int × Int × Int × (Nat × List Int) × Int × Int × Int
def fl (t : Tr) : P5 := (t.1, t.2.1, t.2.2.1, t.2.2.2.1, (2, t.2.2.2.2.1), t.2.2.2.2.2.1, t.2.2.2.2.2.2.1, t.2.2.2.2.2.2.2)
theorem NP : ∀ T : List Tr, FZ MX (T.map fl) = some T
  | [] => rfl
  | t :: T => by
    show (MX (fl t)).bind (fun a => (FZ MX (T.map fl)).bind fun m => some (a :: m)) = _
    rw [NP T]; rfl
theorem ND : ∀ T : List Tr, FZ Nv (T.map fl) = some T
  | [] => rfl
  | t :: T => by
    show (Nv (fl t)).bind (fun a => (FZ Nv (T.map fl)).bind fun m => some (a :: m)) = _
    rw [ND T]; rfl
def M6 (e : Ev) : Tr := (e.2.2.1, e.2.2.2.2.1, e.2.2.2.2.2, e.2.1, [], 0, 0, e.2.1)
def op (u : Int) (t : Tr) : Prop := t.1 = u ∧ t.2.2.2.2.2.1 = 0
instance (u : Int) (t : Tr) : Decidable (op u t) := by unfold op; infer_instance
def lo (T : List Tr) (u : Int) : Nat → Int
  | 0 => -1
  | n + 1 => match T[n]? with | some t => if op u t then (n : Int) else lo T u n | none => lo T u n
def F1 (e : Ev) (t : Tr) : Tr := if e.1 = 2 then (t.1, t.2.1, t.2.2.1, t.2.2.2.1, t.2.2.2.2.1 ++ [e.2.2.2.1], t.2.2.2.2.2.1, t.2.2.2.2.2.2.1, e.2.1) else (t.1, t.2.1, t.2.2.1, t.2.2.2.1, t.2.2.2.2.1, e.1, if e.1 = 3 then e.2.2.2.2.1 else t.2.2.2.2.2.2.1, e.2.1)
def DP (T : List Tr) (e : Ev) : List Tr :=
  if e.1 = 1 then T ++ [M6 e]
  else if (e.1 = 2 ∨ e.1 = 3 ∨ e.1 = 4) ∧ lo T e.2.2.1 T.length ≠ -1 then match T[(lo T e.2.2.1 T.length).toNat]? with | some t => T.set (lo T e.2.2.1 T.length).toNat (F1 e t) | none => T
  else T
theorem Ks (T : List Tr) (u : Int) : ∀ n, (lo T u n = -1 ∧ ∀ k t, k < n → T[k]? = some t → ¬ op u t) ∨ ∃ (k : Nat) (t : Tr), lo T u n = (k : Int) ∧ k < n ∧ T[k]? = some t ∧ op u t ∧ ∀ j s, k < j → j < n → T[j]? = some s → ¬ op u s
  | 0 => .inl ⟨rfl, fun k t h => absurd h (Nat.not_lt_zero k)⟩
  | n + 1 => by
    have ih := Ks T u n
    cases hg : T[n]? with
    | none =>
      have e : lo T u (n + 1) = lo T u n := by rw [lo, hg]
      rw [e]
      rcases ih with ⟨h1, h2⟩ | ⟨k, t, h1, h2, h3, h4, h5⟩
      · refine .inl ⟨h1, fun k t hk ht => ?_⟩
        by_cases c : k = n
        · subst c; rw [hg] at ht; cases ht
        · exact h2 k t (by omega) ht
      · refine .inr ⟨k, t, h1, by omega, h3, h4, fun j s hj hjn hs => ?_⟩
        by_cases c : j = n
        · subst c; rw [hg] at hs; cases hs
        · exact h5 j s hj (by omega) hs
    | some x =>
      by_cases ho : op u x
      · have e : lo T u (n + 1) = (n : Int) := by rw [lo, hg]; exact if_pos ho
        exact .inr ⟨n, x, e, by omega, hg, ho, fun j s hj hjn => by omega⟩
      · have e : lo T u (n + 1) = lo T u n := by rw [lo, hg]; exact if_neg ho
        rw [e]
        rcases ih with ⟨h1, h2⟩ | ⟨k, t, h1, h2, h3, h4, h5⟩
        · refine .inl ⟨h1, fun k t hk ht => ?_⟩
          by_cases c : k = n
          · subst c; rw [hg] at ht; cases ht; exact ho
          · exact h2 k t (by omega) ht
        · refine .inr ⟨k, t, h1, by omega, h3, h4, fun j s hj hjn hs => ?_⟩
          by_cases c : j = n
          · subst c; rw [hg] at hs; cases hs; exact ho
          · exact h5 j s hj (by omega) hs
theorem HM {T S : List Tr} {u v : Int} : ∀ {n : Nat}, (∀ k, k < n → ((∃ t, T[k]? = some t ∧ op u t) ↔ ∃ s, S[k]? = some s ∧ op v s)) → lo T u n = lo S v n
  | 0, _ => rfl
  | n + 1, h => by
    have ih := HM (n := n) fun k hk => h k (by omega)
    have hn := h n (by omega)
    have key : ∀ (T : List Tr) (u : Int), lo T u (n + 1) = (open Classical in if ∃ t, T[n]? = some t ∧ op u t then (n : Int) else lo T u n) := fun T u => by
      rw [lo]
      cases hg : T[n]? with
      | none => rw [if_neg (fun ⟨t, h, _⟩ => by cases h)]
      | some x =>
        by_cases ho : op u x
        · rw [if_pos ⟨x, rfl, ho⟩]; exact if_pos ho
        · rw [if_neg (fun ⟨t, h, h2⟩ => by cases h; exact ho h2)]; exact if_neg ho
    rw [key T u, key S v, ih]
    by_cases c : ∃ t, T[n]? = some t ∧ op u t
    · rw [if_pos c, if_pos (hn.1 c)]
    · rw [if_neg c, if_neg (fun h => c (hn.2 h))]
theorem ML (T : List Tr) (e : Ev) : (DP T e).length = T.length + if e.1 = 1 then 1 else 0 := by
  unfold DP
  by_cases c : e.1 = 1
  · rw [if_pos c, if_pos c]; simp
  · rw [if_neg c, if_neg c]
    split
    · cases T[(lo T e.2.2.1 T.length).toNat]? <;> simp
    · rfl
theorem Mc {T : List Tr} {k : Nat} {t : Tr} (h : T[k]? = some t) : ix (T.map fl) (k : Int) = some (fl t) := A4 (by rw [List.getElem?_map, h]; rfl)
theorem H2 (T : List Tr) (k : Nat) (t : Tr) : Aw (T.map fl) (k : Int) (fl t) = (T.set k t).map fl := by
  unfold Aw
  rw [Int.toNat_natCast, List.map_set]
structure Inv (T : List Tr) (m : List (Int × Int)) (bf : List Int) : Prop where
  len : bf.length = T.length
  cur : ∀ u, (C2 m u).getD (-1) = lo T u T.length
  bef : ∀ (i : Nat) (t : Tr), T[i]? = some t → t.2.2.2.2.2.1 = 0 → bf[i]? = some (lo T t.1 i)
theorem N5 (T : List P5) (m : List (Int × Int)) (bf : List Int) (u : Int) : AJ (T, m, bf) u = (C2 m u).getD (-1) := by
  unfold AJ
  cases h : C2 m u with
  | none => rfl
  | some v => rfl
theorem LY (T : List Tr) (x : Tr) (u : Int) {n : Nat} (hn : n ≤ T.length) : lo (T ++ [x]) u n = lo T u n :=
  HM fun k hk => by rw [List.getElem?_append_left (by omega)]
theorem Oj (T : List Tr) (x : Tr) (u : Int) : lo (T ++ [x]) u (T ++ [x]).length = if op u x then (T.length : Int) else lo T u T.length := by
  have hg : (T ++ [x])[T.length]? = some x := by simp
  rw [show (T ++ [x]).length = T.length + 1 by simp, lo, hg]
  show (if op u x then (T.length : Int) else lo (T ++ [x]) u T.length) = _
  rw [LY T x u (Nat.le_refl _)]
theorem KA {T : List Tr} {u : Int} {k : Nat} : ∀ {n : Nat}, k ≤ n → (∀ j s, k ≤ j → j < n → T[j]? = some s → ¬ op u s) → lo T u n = lo T u k
  | 0, hk, _ => by rw [show k = 0 by omega]
  | n + 1, hk, h => by
    by_cases c : k = n + 1
    · rw [c]
    · rw [lo]
      cases hg : T[n]? with
      | none => exact KA (by omega) fun j s h1 h2 => h j s h1 (by omega)
      | some x =>
        show (if op u x then (n : Int) else lo T u n) = _
        rw [if_neg (h n x (by omega) (by omega) hg)]
        exact KA (by omega) fun j s h1 h2 => h j s h1 (by omega)
abbrev Kd (e : Ev) : Prop := e.1 = 2 ∨ e.1 = 3 ∨ e.1 = 4
theorem PV (n : Int) : (if n = 2 then some true else (if n = 3 then some true else some (decide (n = 4)))) = some (decide (n = 2 ∨ n = 3 ∨ n = 4)) := by
  by_cases h0 : n = 2
  · simp [h0]
  · by_cases h1 : n = 3 <;> simp [h0, h1]
theorem LF {T : List Tr} {e : Ev} {k : Nat} {t : Tr} (c1 : ¬ e.1 = 1) (c2 : Kd e) (h1 : lo T e.2.2.1 T.length = (k : Int)) (h3 : T[k]? = some t) : DP T e = T.set k (F1 e t) := by
  unfold DP
  rw [if_neg c1, if_pos ⟨c2, by omega⟩, h1, Int.toNat_natCast, h3]
theorem Ou {T : List Tr} {m : List (Int × Int)} {bf : List Int} (h : Inv T m bf) (hT : T.length ≤ 1000) (hs : ∀ t ∈ T, t.2.2.2.2.1.length ≤ 1000) (e : Ev) : ∃ m' bf', Cz (T.map fl, m, bf) e = some ((DP T e).map fl, m', bf') ∧ Inv (DP T e) m' bf' := by
  have hl := h.len
  unfold Cz
  by_cases c1 : e.1 = 1
  · have hst : DP T e = T ++ [M6 e] := by unfold DP; rw [if_pos c1]
    rw [if_pos c1, hst]
    unfold CV
    refine ⟨C5 m e.2.2.1 (T.length : Int), bf ++ [lo T e.2.2.1 T.length], ?_, ?_⟩
    · rw [N5, h.cur, Eu (by simp; omega), Option.bind_some, Eu (by simp; omega), Option.bind_some, Option.bind_some, List.map_append, List.length_map]; rfl
    · refine ⟨by simp [hl], fun u => ?_, fun i t hg h0 => ?_⟩
      · rw [Fx, Oj]
        by_cases c : u = e.2.2.1
        · rw [if_pos c, if_pos ⟨c.symm, rfl⟩]; rfl
        · rw [if_neg c, if_neg (fun h => c h.1.symm), h.cur]
      · by_cases hi : i < T.length
        · rw [List.getElem?_append_left hi] at hg
          rw [List.getElem?_append_left (by omega), h.bef i t hg h0, LY T _ _ (by omega)]
        · have hi2 := (List.getElem?_eq_some_iff.1 hg).1
          simp at hi2
          obtain rfl : i = T.length := by omega
          have : M6 e = t := by simpa using hg
          subst this
          rw [← hl, List.getElem?_append_right (Nat.le_refl _), Nat.sub_self, hl, LY T _ _ (Nat.le_refl _)]; rfl
  · rw [if_neg c1, PV, Option.bind_some, N5, h.cur]
    by_cases c2 : Kd e
    · rw [if_pos (decide_eq_true c2)]
      rcases Ks T e.2.2.1 T.length with ⟨h1, _⟩ | ⟨k, t, h1, h2, h3, h4, h5⟩
      · rw [if_neg (by rw [h1]; exact fun h => h rfl)]
        have hst : DP T e = T := by unfold DP; rw [if_neg c1, if_neg (fun h => h.2 h1)]
        rw [hst]
        exact ⟨m, bf, rfl, h⟩
      · rw [if_pos (by omega), h1, LF c1 c2 h1 h3]
        have hk : ix (T.map fl) (k : Int) = some (fl t) := Mc h3
        have hset : ∀ b, ix (Aw (T.map fl) (k : Int) b) (k : Int) = some b := fun b => LE hk
        have hap : FR t.2.2.2.2.1 [e.2.2.2.1] = some (t.2.2.2.2.1 ++ [e.2.2.2.1]) := Eu (by have := hs t (List.mem_of_getElem? h3); simp; omega)
        have hbk := h.bef k t h3 h4.2
        rw [h4.1] at hbk
        have hbi : ix bf (k : Int) = some (lo T e.2.2.1 k) := A4 hbk
        have hset2 : ∀ j, j ≠ k → (T.set k (F1 e t))[j]? = T[j]? := fun j hj => List.getElem?_set_ne (fun h => hj h.symm)
        have hsetk : (T.set k (F1 e t))[k]? = some (F1 e t) := List.getElem?_set_self h2
        by_cases ce : e.1 = 2
        · have hu : ∀ v, op v (F1 e t) ↔ op v t := fun v => by unfold op F1; rw [if_pos ce]
          have hlo : ∀ v n, lo (T.set k (F1 e t)) v n = lo T v n := fun v n => HM fun j _ => by
            by_cases hj : j = k
            · subst hj
              rw [hsetk, h3]
              exact ⟨fun ⟨s, a, b⟩ => ⟨t, rfl, by cases a; exact (hu v).1 b⟩, fun ⟨s, a, b⟩ => ⟨_, rfl, by cases a; exact (hu v).2 b⟩⟩
            · rw [hset2 j hj]
          refine ⟨m, bf, ?_, ⟨by simp [hl], fun u => by rw [h.cur, List.length_set, hlo], fun i s hg h0 => ?_⟩⟩
          · unfold Cc
            simp only [hk, Option.bind_some, if_pos ce, hset, Ee]
            rw [show Mf (fl t).2.2.2.2.1.1 = some () from rfl, Option.bind_some]
            show (((FR t.2.2.2.2.1 [e.2.2.2.1]).bind fun _ => _).bind fun _ => _) = _
            rw [hap]
            simp only [Option.bind_some]
            rw [← H2]
            congr 3
            unfold F1
            rw [if_pos ce]; rfl
          · rw [hlo]
            by_cases hi : i = k
            · subst hi
              rw [hsetk] at hg; cases hg
              have h6 := h.bef i t h3 h4.2
              rw [h6]
              unfold F1
              rw [if_pos ce]
            · rw [hset2 i hi] at hg; exact h.bef i s hg h0
        · have hcl : ∀ v, ¬ op v (F1 e t) := fun v hv => by
            have := hv.2
            unfold F1 at this
            rw [if_neg ce] at this
            rcases c2 with c | c | c <;> simp only at this <;> omega
          have hlo : ∀ v n, (v ≠ e.2.2.1 ∨ n ≤ k) → lo (T.set k (F1 e t)) v n = lo T v n := fun v n hv => HM fun j hj => by
            by_cases hjk : j = k
            · subst hjk
              have hv : v ≠ e.2.2.1 := hv.resolve_right (by omega)
              rw [hsetk, h3]
              exact ⟨fun ⟨s, a, b⟩ => by cases a; exact absurd b (hcl v), fun ⟨s, a, b⟩ => by cases a; exact absurd (b.1.symm.trans h4.1) hv⟩
            · rw [hset2 j hjk]
          have hlast : lo (T.set k (F1 e t)) e.2.2.1 T.length = lo T e.2.2.1 k := by
            rw [KA (k := k) (by omega) fun j s h6 h7 h8 => ?_, hlo _ _ (.inr (Nat.le_refl _))]
            by_cases hj : j = k
            · subst hj; rw [hsetk] at h8; cases h8; exact hcl _
            · rw [hset2 j hj] at h8; exact h5 j s (by omega) h7 h8
          refine ⟨C5 m e.2.2.1 (lo T e.2.2.1 k), bf, ?_, ⟨by simp [hl], fun u => ?_, fun i s hg h0 => ?_⟩⟩
          · unfold Cc
            by_cases c3 : e.1 = 3
            · simp only [hk, Option.bind_some, if_neg ce, if_pos c3, hset, Ee, hbi]
              rw [← H2]
              congr 3
              unfold F1
              rw [if_neg ce, if_pos c3]; rfl
            · simp only [hk, Option.bind_some, if_neg ce, if_neg c3, hset, Ee, hbi]
              rw [← H2]
              congr 3
              unfold F1
              rw [if_neg ce, if_neg c3]; rfl
          · rw [Fx, List.length_set]
            by_cases c : u = e.2.2.1
            · rw [if_pos c, c, hlast]; rfl
            · rw [if_neg c, h.cur, hlo _ _ (.inl c)]
          · by_cases hi : i = k
            · subst hi
              rw [hsetk] at hg; cases hg
              exact absurd ⟨rfl, h0⟩ (hcl (F1 e t).1)
            · rw [hset2 i hi] at hg
              rw [h.bef i s hg h0]
              by_cases c : i ≤ k
              · rw [hlo _ _ (.inr c)]
              · rw [hlo _ _ (.inl fun hq => h5 i s (by omega) (List.getElem?_eq_some_iff.1 hg).1 hg ⟨hq, h0⟩)]
    · have hst : DP T e = T := by unfold DP; rw [if_neg c1, if_neg (fun h => c2 h.1)]
      rw [if_neg (by rw [decide_eq_false c2]; decide), hst]
      exact ⟨m, bf, rfl, h⟩
abbrev tr (l : List Ev) : List Tr := l.foldl DP []
theorem I3 (l : List Ev) (e : Ev) : tr (l ++ [e]) = DP (tr l) e := by unfold tr; rw [List.foldl_append]; rfl
structure Okt (P : Int → Prop) (n : Nat) (t : Tr) : Prop where
  a : P t.1
  b : P t.2.1
  c : P t.2.2.1
  d : P t.2.2.2.1
  s : ∀ x ∈ t.2.2.2.2.1, P x
  n : t.2.2.2.2.1.length ≤ n
  h : P t.2.2.2.2.2.2.1
  l : P t.2.2.2.2.2.2.2
theorem Okt.up {P : Int → Prop} {n : Nat} {t : Tr} (h : Okt P n t) : Okt P (n + 1) t := ⟨h.a, h.b, h.c, h.d, h.s, by have := h.n; omega, h.h, h.l⟩
theorem OC {P : Int → Prop} (h0 : P 0) {n : Nat} {T : List Tr} (hT : ∀ t ∈ T, Okt P n t) {e : Ev} (he : P e.2.1 ∧ P e.2.2.1 ∧ P e.2.2.2.1 ∧ P e.2.2.2.2.1 ∧ P e.2.2.2.2.2) : ∀ t ∈ DP T e, Okt P (n + 1) t := by
  intro x hx
  unfold DP at hx
  by_cases c : e.1 = 1
  · rw [if_pos c] at hx
    rcases List.mem_append.1 hx with hx | hx
    · exact (hT x hx).up
    · rw [List.mem_singleton.1 hx]
      exact ⟨he.2.1, he.2.2.2.1, he.2.2.2.2, he.1, (fun y hy => by cases hy), by simp [M6], h0, he.1⟩
  · rw [if_neg c] at hx
    by_cases c2 : (e.1 = 2 ∨ e.1 = 3 ∨ e.1 = 4) ∧ lo T e.2.2.1 T.length ≠ -1
    · rw [if_pos c2] at hx
      cases hg : T[(lo T e.2.2.1 T.length).toNat]? with
      | none => rw [hg] at hx; exact (hT x hx).up
      | some t =>
        rw [hg] at hx
        rcases List.mem_or_eq_of_mem_set hx with hx | rfl
        · exact (hT x hx).up
        · have ht := hT t (List.mem_of_getElem? hg)
          unfold F1
          by_cases ce : e.1 = 2
          · rw [if_pos ce]
            refine ⟨ht.a, ht.b, ht.c, ht.d, fun y hy => ?_, by have := ht.n; simp; omega, ht.h, he.1⟩
            rcases List.mem_append.1 hy with hy | hy
            · exact ht.s y hy
            · rw [List.mem_singleton.1 hy]; exact he.2.2.1
          · rw [if_neg ce]
            refine ⟨ht.a, ht.b, ht.c, ht.d, ht.s, by have := ht.n; show t.2.2.2.2.1.length ≤ _; omega, ?_, he.1⟩
            show P (if e.1 = 3 then _ else _)
            split
            · exact he.2.2.2.1
            · exact ht.h
    · rw [if_neg c2] at hx; exact (hT x hx).up
theorem PY {P : Int → Prop} (h0 : P 0) : ∀ (l : List Ev), (∀ e ∈ l, P e.2.1 ∧ P e.2.2.1 ∧ P e.2.2.2.1 ∧ P e.2.2.2.2.1 ∧ P e.2.2.2.2.2) → ∀ t ∈ tr l, Okt P l.length t := by
  intro l
  refine Jd (Q := fun l => (∀ e ∈ l, P e.2.1 ∧ P e.2.2.1 ∧ P e.2.2.2.1 ∧ P e.2.2.2.2.1 ∧ P e.2.2.2.2.2) → ∀ t ∈ tr l, Okt P l.length t) ?_ ?_ l
  · intro _ t ht; cases ht
  · intro l e ih h
    rw [I3, List.length_append, List.length_singleton]
    exact OC h0 (ih fun e he => h e (List.mem_append_left _ he)) (h e (List.mem_append_right _ (List.mem_singleton.2 rfl)))
theorem JB (l : List Ev) : (tr l).length ≤ l.length := by
  refine Jd (Q := fun l => (tr l).length ≤ l.length) (Nat.le_refl _) ?_ l
  · intro l e ih
    rw [I3, ML, List.length_append, List.length_singleton]
    split <;> omega
theorem KD (l : List Ev) : ∀ t ∈ tr l, t.2.2.2.2.1.length ≤ l.length := fun t ht => (PY (P := fun _ => True) trivial l (fun _ _ => ⟨trivial, trivial, trivial, trivial, trivial⟩) t ht).n
theorem PW {l : List Ev} (hl : l.length ≤ 1000) : FP l = some (tr l) := by
  unfold FP
  obtain ⟨⟨x1, x2, x3⟩, ⟨h1, h2⟩, h3⟩ := EC l.length (fun (s : List P5 × List Int × List (Int × Int)) (k : Nat) => ((k : Int), s.1, s.2.1, s.2.2)) (Dm l) id
    (fun s k => s.1 = (tr (l.take k)).map fl ∧ Inv (tr (l.take k)) s.2.2 s.2.1) (fun s k hk => by
      obtain ⟨a, b, c⟩ := s
      rintro ⟨ha, hI⟩
      simp only at ha hI
      subst ha
      have hg : l[k]? = some l[k] := List.getElem?_eq_getElem hk
      have hlt : (l.take k).length = k := by simp; omega
      obtain ⟨m', bf', e1, e2⟩ := Ou hI (by have := JB (l.take k); omega) (fun t ht => by have := KD (l.take k) t ht; omega) l[k]
      have hsn : tr (l.take (k + 1)) = DP (tr (l.take k)) l[k] := by rw [List.take_succ_eq_append_getElem hk, I3]
      refine ⟨((DP (tr (l.take k)) l[k]).map fl, bf', m'), ?_, by rw [hsn], by rw [hsn]; exact e2⟩
      rw [Dm, if_pos (by omega), A4 hg, Option.bind_some, e1, Option.bind_some, Bn (by omega)]; rfl) (fun s _ => by
      obtain ⟨a, b, c⟩ := s
      rw [Dm, if_neg (by omega)]; rfl) ([], [], []) ⟨rfl, ⟨rfl, fun u => rfl, fun i t h => by simp at h⟩⟩
  have h4 : AM (Dm l) (0, [], [], []) = some (id (x1, x2, x3)) := h3
  rw [h4]
  simp only [id, Option.bind_some]
  simp only at h1
  rw [h1, NP, Option.bind_some, List.take_length]
theorem KY (T : List Tr) (e : Ev) (hT : T.length ≤ 1000) : AM (EU e) (T.map fl, -1, 0) = some (T.map fl, lo T e.2.2.1 T.length) := by
  obtain ⟨s, h1, h2⟩ := EC T.length (fun (s : Int) (k : Nat) => (T.map fl, s, (k : Int))) (EU e) (fun s => (T.map fl, s)) (fun s k => s = lo T e.2.2.1 k) (fun s k hk hs => by
    have hg : T[k]? = some T[k] := List.getElem?_eq_getElem hk
    refine ⟨lo T e.2.2.1 (k + 1), ?_, rfl⟩
    have hx : ((ix (T.map fl) (k : Int)).bind fun x17 => (if x17.1 = e.2.2.1 then (ix (T.map fl) (k : Int)).bind fun x18 => some (T.map fl, decide (x18.2.2.2.2.2.1 = 0)) else some (T.map fl, false))) = some (T.map fl, decide (op e.2.2.1 T[k])) := by
      rw [Mc hg]
      simp only [Option.bind_some]
      by_cases c : T[k].1 = e.2.2.1
      · rw [if_pos (show (fl T[k]).1 = _ from c)]
        congr 2
        exact decide_eq_decide.2 ⟨fun h => ⟨c, h⟩, fun h => h.2⟩
      · rw [if_neg (show ¬ (fl T[k]).1 = _ from c), decide_eq_false (fun h => c h.1)]
    rw [EU, if_pos (by simp; omega), hx]
    simp only [Option.bind_some]
    have hlo : lo T e.2.2.1 (k + 1) = if op e.2.2.1 T[k] then (k : Int) else lo T e.2.2.1 k := by rw [lo, hg]
    rw [hlo]
    by_cases c : op e.2.2.1 T[k]
    · rw [if_pos (decide_eq_true c), if_pos c]
      simp only [Option.bind_some]
      rw [Bn (by omega)]; rfl
    · rw [if_neg (by rw [decide_eq_false c]; decide), if_neg c, hs]
      simp only [Option.bind_some]
      rw [Bn (by omega)]; rfl) (fun s _ => by rw [EU, if_neg (by simp)]) (-1) rfl
  have h3 : AM (EU e) (T.map fl, -1, 0) = some (T.map fl, s) := h2
  rw [h3, h1]
theorem O5 {l : List Ev} (hl : l.length ≤ 1000) : JA l = some (tr l) := by
  unfold JA
  obtain ⟨x, h1, h3⟩ := EC l.length (fun (s : List P5) (k : Nat) => (s, (k : Int))) (Fy l) id (fun s k => s = (tr (l.take k)).map fl) (fun s k hk hs => by
    have hg : l[k]? = some l[k] := List.getElem?_eq_getElem hk
    have hlt : (l.take k).length = k := by simp; omega
    have hsn : tr (l.take (k + 1)) = DP (tr (l.take k)) l[k] := by rw [List.take_succ_eq_append_getElem hk, I3]
    have hTl := JB (l.take k)
    have hTs := KD (l.take k)
    refine ⟨_, ?_, rfl⟩
    rw [hsn, hs, Fy, if_pos (by omega), A4 hg, Option.bind_some]
    generalize tr (l.take k) = T at *
    generalize l[k] = e at *
    by_cases c1 : e.1 = 1
    · have hst : DP T e = T ++ [M6 e] := by unfold DP; rw [if_pos c1]
      rw [if_pos c1, Eu (by simp; omega), hst]
      simp only [Option.bind_some]
      have e2 : T.map fl ++ [(e.2.2.1, e.2.2.2.2.1, e.2.2.2.2.2, e.2.1, ((2, []) : Nat × List Int), 0, 0, e.2.1)] = (T ++ [M6 e]).map fl := by rw [List.map_append]; rfl
      rw [e2, KY _ _ (by simp; omega)]
      simp only [Option.bind_some]
      rw [if_pos (by simp [c1])]
      simp only [Option.bind_some]
      rw [Bn (by omega)]; rfl
    · rw [if_neg c1]
      simp only [Option.bind_some]
      rw [KY _ _ (by omega)]
      simp only [Option.bind_some]
      by_cases c2 : Kd e ∧ lo T e.2.2.1 T.length ≠ -1
      · rcases Ks T e.2.2.1 T.length with ⟨h1, _⟩ | ⟨k', t, h1, h2, h3, h4, h5⟩
        · exact absurd h1 c2.2
        · have hk : ix (T.map fl) (k' : Int) = some (fl t) := Mc h3
          have hset : ∀ b, ix (Aw (T.map fl) (k' : Int) b) (k' : Int) = some b := fun b => LE hk
          have hap : FR t.2.2.2.2.1 [e.2.2.2.1] = some (t.2.2.2.2.1 ++ [e.2.2.2.1]) := Eu (by have := hTs t (List.mem_of_getElem? h3); simp; omega)
          have hcn : (decide (lo T e.2.2.1 T.length = -1) || (decide (e.1 < 2) || decide (4 < e.1))) = false := by
            rcases c2.1 with c | c | c <;> simp [c, c2.2]
          rw [if_neg (by rw [hcn]; decide), h1, LF c1 c2.1 h1 h3]
          by_cases ce : e.1 = 2
          · simp only [hk, Option.bind_some, if_pos ce, hset, Ee]
            rw [show Mf (fl t).2.2.2.2.1.1 = some () from rfl, Option.bind_some]
            show ((((FR t.2.2.2.2.1 [e.2.2.2.1]).bind fun _ => _).bind fun _ => _).bind fun _ => _) = _
            rw [hap]
            simp only [Option.bind_some]
            rw [if_neg (by omega)]
            simp only [Option.bind_some]
            rw [Bn (by omega), ← H2]
            unfold F1
            rw [if_pos ce]; rfl
          · by_cases c3 : e.1 = 3
            · simp only [hk, Option.bind_some, if_neg ce, if_pos c3, hset, Ee]
              rw [Bn (by omega), ← H2]
              unfold F1
              rw [if_neg ce, if_pos c3]; rfl
            · simp only [hk, Option.bind_some, if_neg ce, if_neg c3, hset, Ee]
              rw [Bn (by omega), ← H2]
              unfold F1
              rw [if_neg ce, if_neg c3]; rfl
      · have hst : DP T e = T := by unfold DP; rw [if_neg c1, if_neg c2]
        have hcn : (decide (lo T e.2.2.1 T.length = -1) || (decide (e.1 < 2) || decide (4 < e.1))) = true := by
          by_cases d : lo T e.2.2.1 T.length = -1
          · simp [d]
          · have : ¬ Kd e := fun h => c2 ⟨h, d⟩
            simp only [Bool.or_eq_true, decide_eq_true_eq]
            simp only [Kd] at this
            omega
        rw [if_pos hcn, hst]
        simp only [Option.bind_some]
        rw [Bn (by omega)]; rfl) (fun s _ => by rw [Fy, if_neg (by omega)]; rfl) [] rfl
  have h4 : AM (Fy l) ([], 0) = some (id x) := h3
  rw [h4]
  simp only [id, Option.bind_some]
  rw [h1, ND, Option.bind_some, List.take_length]
theorem Kp {κ ν : Type} [DecidableEq κ] : ∀ (l : List (κ × ν)) (x : κ) (v : ν), (C5 l x v).length = if (C2 l x).isSome = true then l.length else l.length + 1
  | [], _, _ => rfl
  | p :: l, x, v => by
    unfold C5 C2
    by_cases c : x = p.1
    · rw [if_pos c, if_pos c]; rfl
    · rw [if_neg c, if_neg c, List.length_cons, Kp l x v]
      by_cases d : (C2 l x).isSome = true
      · rw [if_pos d, if_pos d]; rfl
      · rw [if_neg d, if_neg d]; rfl
def NT (l : List Int) (i : Nat) : Prop := ∃ hi : i < l.length, ∃ j, ∃ hj : j < i, l[i] = l[j]
noncomputable instance (l : List Int) : DecidablePred (NT l) := fun _ => Classical.propDecidable _
theorem NV {t : Tr} (hl : t.2.2.2.2.1.length ≤ 1000000) : Dl t = some (decide (¬ t.2.2.2.2.1.Nodup)) := by
  unfold Dl
  obtain ⟨l, hlx⟩ : ∃ l, l = t.2.2.2.2.1 := ⟨_, rfl⟩
  rw [← hlx] at hl
  obtain ⟨m, ⟨h1, h2, h3⟩, h4⟩ := EC l.length (fun (m : List (Int × Unit)) (k : Nat) => ((k : Int), m)) (Cu t) id (fun m k => (∀ y, (C2 m y).isSome = true ↔ y ∈ l.take k) ∧ m.length ≤ k ∧ (m.length = k ↔ (l.take k).Nodup)) (fun m k hk => by
    rintro ⟨h1, h2, h3⟩
    have hg : l[k]? = some l[k] := List.getElem?_eq_getElem hk
    refine ⟨C5 m l[k] (), ?_, fun y => ?_, ?_⟩
    · rw [Cu, ← hlx, if_pos (by omega), A4 hg, Option.bind_some, Bn (by omega)]; rfl
    · rw [Fx, List.take_succ_eq_append_getElem hk, List.mem_append, List.mem_singleton, ← h1 y]
      by_cases c : y = l[k]
      · rw [if_pos c]; simp [c]
      · rw [if_neg c]; simp [c]
    · rw [Kp, List.take_succ_eq_append_getElem hk]
      have hn : (l.take k ++ [l[k]]).Nodup ↔ (l.take k).Nodup ∧ l[k] ∉ l.take k := by
        rw [List.nodup_append]
        constructor
        · rintro ⟨a, _, c⟩
          exact ⟨a, fun h => c _ h _ (List.mem_singleton.2 rfl) rfl⟩
        · rintro ⟨a, b⟩
          exact ⟨a, by simp, fun x hx y hy e => b (by rw [← List.mem_singleton.1 hy, ← e]; exact hx)⟩
      by_cases c : (C2 m l[k]).isSome = true
      · rw [if_pos c, hn]
        have := (h1 _).1 c
        exact ⟨by omega, fun h => by omega, fun h => absurd this h.2⟩
      · rw [if_neg c, hn]
        have hc : l[k] ∉ l.take k := fun h => c ((h1 _).2 h)
        refine ⟨by omega, fun h => ⟨h3.1 (by omega), hc⟩, fun h => ?_⟩
        have := h3.2 h.1
        omega) (fun m _ => by rw [Cu, ← hlx, if_neg (by omega)]; rfl) [] ⟨fun y => by simp [C2], by simp, by simp⟩
  have h5 : AM (Cu t) (0, []) = some (id m) := h4
  rw [h5, ← hlx]
  simp only [id, Option.bind_some]
  rw [List.take_length] at h3
  congr 1
  refine decide_eq_decide.2 ⟨fun h hn => ?_, fun h => ?_⟩
  · have := h3.2 hn; omega
  · have : m.length ≠ l.length := fun e => h (h3.1 e)
    omega
theorem Ln (l : List Int) : ¬ l.Nodup ↔ ∃ i, ∃ hi : i < l.length, ∃ j, ∃ hj : j < i, l[i] = l[j] := by
  constructor
  · intro h
    refine Classical.byContradiction fun hno => h ?_
    rw [List.nodup_iff_pairwise_ne, List.pairwise_iff_getElem]
    exact fun i j hi hj hij e => hno ⟨j, hj, i, hij, e.symm⟩
  · rintro ⟨i, hi, j, hj, e⟩ hn
    rw [List.nodup_iff_pairwise_ne, List.pairwise_iff_getElem] at hn
    exact hn j i (by omega) hi hj e.symm
theorem MK {l : List Int} (hl : l.length ≤ 1000000) : Fw l = some (decide (¬ l.Nodup)) := by
  unfold Fw
  have hin : ∀ i, (hi : i < l.length) → AM (DV l (i : Int)) 0 = some (open Classical in if ∃ j, ∃ hj : j < i, l[i] = l[j] then .inr (.inr (.inr true)) else .inl ()) := fun i hi => by
    have hgi : l[i]? = some l[i] := List.getElem?_eq_getElem hi
    rw [NN i (DV l (i : Int)) (fun k => if l[k]? = some l[i] then some (.inr (.inr true)) else none) (fun k hk => by
      have hgk : l[k]? = some l[k] := List.getElem?_eq_getElem (by omega)
      rw [DV, if_pos (by omega), A4 hgi, Option.bind_some, A4 hgk, Option.bind_some, hgk]
      by_cases c : l[i] = l[k]
      · rw [if_pos c, if_pos (by rw [c])]
      · rw [if_neg c, if_neg (fun h => c (Option.some.inj h).symm), Bn (by omega)]; rfl) (by rw [DV, if_neg (by omega)])]
    by_cases c : ∃ j, ∃ hj : j < i, l[i] = l[j]
    · rw [if_pos c]
      obtain ⟨j, hj, e⟩ := c
      cases hf : (List.range i).findSome? (fun k => if l[k]? = some l[i] then some ((.inr (.inr true)) : Int ⊕ (Unit ⊕ Bool)) else none) with
      | none =>
        rw [List.findSome?_eq_none_iff] at hf
        have := hf j (List.mem_range.2 hj)
        rw [if_pos (by rw [List.getElem?_eq_getElem (by omega), e])] at this
        cases this
      | some r =>
        obtain ⟨x, _, hx⟩ := List.exists_of_findSome?_eq_some hf
        split at hx
        · cases hx; rfl
        · cases hx
    · rw [if_neg c]
      rw [J7 fun k hk => if_neg fun h => c ⟨k, hk, by rw [List.getElem?_eq_getElem (by omega)] at h; exact (Option.some.inj h).symm⟩]
  rw [JC l.length (En l) (NT l) true (fun i hi => by
    rw [En, if_pos (by omega), hin i hi]
    by_cases c : ∃ j, ∃ hj : j < i, l[i] = l[j]
    · rw [if_pos c, if_pos ⟨hi, c⟩]; rfl
    · rw [if_neg c, if_neg (fun ⟨_, h⟩ => c h)]
      show some (Sum.inl (Dz ((i : Int) + 1))) = _
      rw [Bn (by omega)]; rfl) (by rw [En, if_neg (by omega)])]
  by_cases c : ∃ k, k < l.length ∧ NT l k
  · rw [if_pos c]
    obtain ⟨k, _, hi, j, hj, e⟩ := c
    rw [decide_eq_true ((Ln l).2 ⟨k, hi, j, hj, e⟩)]; rfl
  · rw [if_neg c, decide_eq_false (fun h => by
      obtain ⟨k, hi, j, hj, e⟩ := (Ln l).1 h
      exact c ⟨k, hi, hi, j, hj, e⟩)]; rfl
end Go.Proofs.Ytflaelbmglmmcaa
