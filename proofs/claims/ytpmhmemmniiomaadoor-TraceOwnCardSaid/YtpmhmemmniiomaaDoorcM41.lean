/- Layer 41: traces. Conditions: none. -/
import Derived.Test.YtpmhmemmniiomaaDoorcLD
import Derived.Test.YtpmhmemmniiomaaDoorcOB
import Derived.Test.YtpmhmemmniiomaaDoorcDR
import Derived.Test.YtpmhmemmniiomaaDoorcA3
namespace Go.Proofs.YtpmhmemmniiomaaDoor
set_option linter.unusedVariables false
set_option linter.unusedSimpArgs false
open Go Go.RowKit
theorem C7 {κ ν : Type} [DecidableEq κ] : ∀ (l : List (κ × ν)) (x : κ) (v : ν) (y : κ), BN (BU l x v) y = if y = x then some v else BN l y
  | [], x, v, y => by
    show (if y = x then some v else none) = _
    rfl
  | p :: l, x, v, y => by
    unfold BU
    by_cases c : x = p.1
    · rw [if_pos c]
      show (if y = x then some v else BN l y) = if y = x then some v else if y = p.1 then some p.2 else BN l y
      by_cases d : y = x
      · rw [if_pos d, if_pos d]
      · rw [if_neg d, if_neg d, if_neg (by rw [← c]; exact d)]
    · rw [if_neg c]
      show (if y = p.1 then some p.2 else BN (BU l x v) y) = if y = x then some v else if y = p.1 then some p.2 else BN l y
      rw [C7 l x v y]
      by_cases d : y = p.1
      · rw [if_pos d, if_pos d, if_neg (by rw [d]; exact fun h => c h.symm)]
      · rw [if_neg d, if_neg d]
abbrev Ev := Int × Int × Int × Int × Int × Int
abbrev Tr := Int × Int × Int × Int × List Int × Int × Int × Int
abbrev Ib := Int × Int × Int × Int × (Nat × List Int) × Int × Int × Int
def fl (t : Tr) : Ib := (t.1, t.2.1, t.2.2.1, t.2.2.2.1, (2, t.2.2.2.2.1), t.2.2.2.2.2.1, t.2.2.2.2.2.2.1, t.2.2.2.2.2.2.2)
theorem Gb : ∀ T : List Tr, Dc GB (T.map fl) = some T
  | [] => rfl
  | t :: T => by
    show (GB (fl t)).bind (fun a => (Dc GB (T.map fl)).bind fun m => some (a :: m)) = _
    rw [Gb T]; rfl
def GL (e : Ev) : Tr := (e.2.2.1, e.2.2.2.2.1, e.2.2.2.2.2, e.2.1, [], 0, 0, e.2.1)
def op (u : Int) (t : Tr) : Prop := t.1 = u ∧ t.2.2.2.2.2.1 = 0
instance (u : Int) (t : Tr) : Decidable (op u t) := by unfold op; infer_instance
def lo (T : List Tr) (u : Int) : Nat → Int
  | 0 => -1
  | n + 1 => match T[n]? with | some t => if op u t then (n : Int) else lo T u n | none => lo T u n
def CE (e : Ev) (t : Tr) : Tr := if e.1 = 2 then (t.1, t.2.1, t.2.2.1, t.2.2.2.1, t.2.2.2.2.1 ++ [e.2.2.2.1], t.2.2.2.2.2.1, t.2.2.2.2.2.2.1, e.2.1) else (t.1, t.2.1, t.2.2.1, t.2.2.2.1, t.2.2.2.2.1, e.1, if e.1 = 3 then e.2.2.2.2.1 else t.2.2.2.2.2.2.1, e.2.1)
def Bu (T : List Tr) (e : Ev) : List Tr :=
  if e.1 = 1 then T ++ [GL e]
  else if (e.1 = 2 ∨ e.1 = 3 ∨ e.1 = 4) ∧ lo T e.2.2.1 T.length ≠ -1 then match T[(lo T e.2.2.1 T.length).toNat]? with | some t => T.set (lo T e.2.2.1 T.length).toNat (CE e t) | none => T
  else T
theorem EJ (T : List Tr) (u : Int) : ∀ n, (lo T u n = -1 ∧ ∀ k t, k < n → T[k]? = some t → ¬ op u t) ∨ ∃ (k : Nat) (t : Tr), lo T u n = (k : Int) ∧ k < n ∧ T[k]? = some t ∧ op u t ∧ ∀ j s, k < j → j < n → T[j]? = some s → ¬ op u s
  | 0 => .inl ⟨rfl, fun k t h => absurd h (Nat.not_lt_zero k)⟩
  | n + 1 => by
    have ih := EJ T u n
    cases hg : T[n]? with
    | none =>
      have e : lo T u (n + 1) = lo T u n := by rw [lo, hg]
      rw [e]
      rcases ih with ⟨h1, h2⟩ | ⟨k, t, h1, h2, h3, h4, h5⟩
      · refine .inl ⟨h1, fun k t hk ht => ?_⟩
        by_cases c : k = n
        · subst c; rw [hg] at ht; cases ht
        · exact h2 k t (by omega) ht
      · refine .inr ⟨k, t, h1, by omega, h3, h4, fun j s hj hjn hs => ?_⟩
        by_cases c : j = n
        · subst c; rw [hg] at hs; cases hs
        · exact h5 j s hj (by omega) hs
    | some x =>
      by_cases ho : op u x
      · have e : lo T u (n + 1) = (n : Int) := by rw [lo, hg]; exact if_pos ho
        exact .inr ⟨n, x, e, by omega, hg, ho, fun j s hj hjn => by omega⟩
      · have e : lo T u (n + 1) = lo T u n := by rw [lo, hg]; exact if_neg ho
        rw [e]
        rcases ih with ⟨h1, h2⟩ | ⟨k, t, h1, h2, h3, h4, h5⟩
        · refine .inl ⟨h1, fun k t hk ht => ?_⟩
          by_cases c : k = n
          · subst c; rw [hg] at ht; cases ht; exact ho
          · exact h2 k t (by omega) ht
        · refine .inr ⟨k, t, h1, by omega, h3, h4, fun j s hj hjn hs => ?_⟩
          by_cases c : j = n
          · subst c; rw [hg] at hs; cases hs; exact ho
          · exact h5 j s hj (by omega) hs
theorem Dn {T S : List Tr} {u v : Int} : ∀ {n : Nat}, (∀ k, k < n → ((∃ t, T[k]? = some t ∧ op u t) ↔ ∃ s, S[k]? = some s ∧ op v s)) → lo T u n = lo S v n
  | 0, _ => rfl
  | n + 1, h => by
    have ih := Dn (n := n) fun k hk => h k (by omega)
    have hn := h n (by omega)
    have key : ∀ (T : List Tr) (u : Int), lo T u (n + 1) = (open Classical in if ∃ t, T[n]? = some t ∧ op u t then (n : Int) else lo T u n) := fun T u => by
      rw [lo]
      cases hg : T[n]? with
      | none => rw [if_neg (fun ⟨t, h, _⟩ => by cases h)]
      | some x =>
        by_cases ho : op u x
        · rw [if_pos ⟨x, rfl, ho⟩]; exact if_pos ho
        · rw [if_neg (fun ⟨t, h, h2⟩ => by cases h; exact ho h2)]; exact if_neg ho
    rw [key T u, key S v, ih]
    by_cases c : ∃ t, T[n]? = some t ∧ op u t
    · rw [if_pos c, if_pos (hn.1 c)]
    · rw [if_neg c, if_neg (fun h => c (hn.2 h))]
theorem Dz (T : List Tr) (e : Ev) : (Bu T e).length = T.length + if e.1 = 1 then 1 else 0 := by
  unfold Bu
  by_cases c : e.1 = 1
  · rw [if_pos c, if_pos c]; simp
  · rw [if_neg c, if_neg c]
    split
    · cases T[(lo T e.2.2.1 T.length).toNat]? <;> simp
    · rfl
theorem Hp {T : List Tr} {k : Nat} {t : Tr} (h : T[k]? = some t) : ix (T.map fl) (k : Int) = some (fl t) := Ct (by rw [List.getElem?_map, h]; rfl)
theorem Fs (T : List Tr) (k : Nat) (t : Tr) : Ak (T.map fl) (k : Int) (fl t) = (T.set k t).map fl := by
  unfold Ak
  rw [Int.toNat_natCast, List.map_set]
structure Inv (T : List Tr) (m : List (Int × Int)) (bf : List Int) : Prop where
  len : bf.length = T.length
  cur : ∀ u, (BN m u).getD (-1) = lo T u T.length
  bef : ∀ (i : Nat) (t : Tr), T[i]? = some t → t.2.2.2.2.2.1 = 0 → bf[i]? = some (lo T t.1 i)
theorem Gs (T : List Ib) (m : List (Int × Int)) (bf : List Int) (u : Int) : Aj (T, m, bf) u = (BN m u).getD (-1) := by
  unfold Aj
  cases h : BN m u with
  | none => rfl
  | some v => rfl
theorem Fi (T : List Tr) (x : Tr) (u : Int) {n : Nat} (hn : n ≤ T.length) : lo (T ++ [x]) u n = lo T u n :=
  Dn fun k hk => by rw [List.getElem?_append_left (by omega)]
theorem GR (T : List Tr) (x : Tr) (u : Int) : lo (T ++ [x]) u (T ++ [x]).length = if op u x then (T.length : Int) else lo T u T.length := by
  have hg : (T ++ [x])[T.length]? = some x := by simp
  rw [show (T ++ [x]).length = T.length + 1 by simp, lo, hg]
  show (if op u x then (T.length : Int) else lo (T ++ [x]) u T.length) = _
  rw [Fi T x u (Nat.le_refl _)]
theorem EO {T : List Tr} {u : Int} {k : Nat} : ∀ {n : Nat}, k ≤ n → (∀ j s, k ≤ j → j < n → T[j]? = some s → ¬ op u s) → lo T u n = lo T u k
  | 0, hk, _ => by rw [show k = 0 by omega]
  | n + 1, hk, h => by
    by_cases c : k = n + 1
    · rw [c]
    · rw [lo]
      cases hg : T[n]? with
      | none => exact EO (by omega) fun j s h1 h2 => h j s h1 (by omega)
      | some x =>
        show (if op u x then (n : Int) else lo T u n) = _
        rw [if_neg (h n x (by omega) (by omega) hg)]
        exact EO (by omega) fun j s h1 h2 => h j s h1 (by omega)
abbrev Kd (e : Ev) : Prop := e.1 = 2 ∨ e.1 = 3 ∨ e.1 = 4
theorem HK (n : Int) : (if n = 2 then some true else (if n = 3 then some true else some (decide (n = 4)))) = some (decide (n = 2 ∨ n = 3 ∨ n = 4)) := by
  by_cases h0 : n = 2
  · simp [h0]
  · by_cases h1 : n = 3 <;> simp [h0, h1]
theorem Gf {T : List Tr} {e : Ev} {k : Nat} {t : Tr} (c1 : ¬ e.1 = 1) (c2 : Kd e) (h1 : lo T e.2.2.1 T.length = (k : Int)) (h3 : T[k]? = some t) : Bu T e = T.set k (CE e t) := by
  unfold Bu
  rw [if_neg c1, if_pos ⟨c2, by omega⟩, h1, Int.toNat_natCast, h3]
theorem Hb {T : List Tr} {m : List (Int × Int)} {bf : List Int} (h : Inv T m bf) (hT : T.length ≤ 1000) (hs : ∀ t ∈ T, t.2.2.2.2.1.length ≤ 1000) (e : Ev) : ∃ m' bf', A8 (T.map fl, m, bf) e = some ((Bu T e).map fl, m', bf') ∧ Inv (Bu T e) m' bf' := by
  have hl := h.len
  unfold A8
  by_cases c1 : e.1 = 1
  · have hst : Bu T e = T ++ [GL e] := by unfold Bu; rw [if_pos c1]
    rw [if_pos c1, hst]
    unfold Bp
    refine ⟨BU m e.2.2.1 (T.length : Int), bf ++ [lo T e.2.2.1 T.length], ?_, ?_⟩
    · rw [Gs, h.cur, AX (by simp; omega), Option.bind_some, AX (by simp; omega), Option.bind_some, Option.bind_some, List.map_append, List.length_map]; rfl
    · refine ⟨by simp [hl], fun u => ?_, fun i t hg h0 => ?_⟩
      · rw [C7, GR]
        by_cases c : u = e.2.2.1
        · rw [if_pos c, if_pos ⟨c.symm, rfl⟩]; rfl
        · rw [if_neg c, if_neg (fun h => c h.1.symm), h.cur]
      · by_cases hi : i < T.length
        · rw [List.getElem?_append_left hi] at hg
          rw [List.getElem?_append_left (by omega), h.bef i t hg h0, Fi T _ _ (by omega)]
        · have hi2 := (List.getElem?_eq_some_iff.1 hg).1
          simp at hi2
          obtain rfl : i = T.length := by omega
          have : GL e = t := by simpa using hg
          subst this
          rw [← hl, List.getElem?_append_right (Nat.le_refl _), Nat.sub_self, hl, Fi T _ _ (Nat.le_refl _)]; rfl
  · rw [if_neg c1, HK, Option.bind_some, Gs, h.cur]
    by_cases c2 : Kd e
    · rw [if_pos (decide_eq_true c2)]
      rcases EJ T e.2.2.1 T.length with ⟨h1, _⟩ | ⟨k, t, h1, h2, h3, h4, h5⟩
      · rw [if_neg (by rw [h1]; exact fun h => h rfl)]
        have hst : Bu T e = T := by unfold Bu; rw [if_neg c1, if_neg (fun h => h.2 h1)]
        rw [hst]
        exact ⟨m, bf, rfl, h⟩
      · rw [if_pos (by omega), h1, Gf c1 c2 h1 h3]
        have hk : ix (T.map fl) (k : Int) = some (fl t) := Hp h3
        have hset : ∀ b, ix (Ak (T.map fl) (k : Int) b) (k : Int) = some b := fun b => F9 hk
        have hap : CL t.2.2.2.2.1 [e.2.2.2.1] = some (t.2.2.2.2.1 ++ [e.2.2.2.1]) := AX (by have := hs t (List.mem_of_getElem? h3); simp; omega)
        have hbk := h.bef k t h3 h4.2
        rw [h4.1] at hbk
        have hbi : ix bf (k : Int) = some (lo T e.2.2.1 k) := Ct hbk
        have hset2 : ∀ j, j ≠ k → (T.set k (CE e t))[j]? = T[j]? := fun j hj => List.getElem?_set_ne (fun h => hj h.symm)
        have hsetk : (T.set k (CE e t))[k]? = some (CE e t) := List.getElem?_set_self h2
        by_cases ce : e.1 = 2
        · have hu : ∀ v, op v (CE e t) ↔ op v t := fun v => by unfold op CE; rw [if_pos ce]
          have hlo : ∀ v n, lo (T.set k (CE e t)) v n = lo T v n := fun v n => Dn fun j _ => by
            by_cases hj : j = k
            · subst hj
              rw [hsetk, h3]
              exact ⟨fun ⟨s, a, b⟩ => ⟨t, rfl, by cases a; exact (hu v).1 b⟩, fun ⟨s, a, b⟩ => ⟨_, rfl, by cases a; exact (hu v).2 b⟩⟩
            · rw [hset2 j hj]
          refine ⟨m, bf, ?_, ⟨by simp [hl], fun u => by rw [h.cur, List.length_set, hlo], fun i s hg h0 => ?_⟩⟩
          · unfold AV
            simp only [hk, Option.bind_some, if_pos ce, hset, C0]
            rw [show Hc (fl t).2.2.2.2.1.1 = some () from rfl, Option.bind_some]
            show (((CL t.2.2.2.2.1 [e.2.2.2.1]).bind fun _ => _).bind fun _ => _) = _
            rw [hap]
            simp only [Option.bind_some]
            rw [← Fs]
            congr 3
            unfold CE
            rw [if_pos ce]; rfl
          · rw [hlo]
            by_cases hi : i = k
            · subst hi
              rw [hsetk] at hg; cases hg
              have h6 := h.bef i t h3 h4.2
              rw [h6]
              unfold CE
              rw [if_pos ce]
            · rw [hset2 i hi] at hg; exact h.bef i s hg h0
        · have hcl : ∀ v, ¬ op v (CE e t) := fun v hv => by
            have := hv.2
            unfold CE at this
            rw [if_neg ce] at this
            rcases c2 with c | c | c <;> simp only at this <;> omega
          have hlo : ∀ v n, (v ≠ e.2.2.1 ∨ n ≤ k) → lo (T.set k (CE e t)) v n = lo T v n := fun v n hv => Dn fun j hj => by
            by_cases hjk : j = k
            · subst hjk
              have hv : v ≠ e.2.2.1 := hv.resolve_right (by omega)
              rw [hsetk, h3]
              exact ⟨fun ⟨s, a, b⟩ => by cases a; exact absurd b (hcl v), fun ⟨s, a, b⟩ => by cases a; exact absurd (b.1.symm.trans h4.1) hv⟩
            · rw [hset2 j hjk]
          have hlast : lo (T.set k (CE e t)) e.2.2.1 T.length = lo T e.2.2.1 k := by
            rw [EO (k := k) (by omega) fun j s h6 h7 h8 => ?_, hlo _ _ (.inr (Nat.le_refl _))]
            by_cases hj : j = k
            · subst hj; rw [hsetk] at h8; cases h8; exact hcl _
            · rw [hset2 j hj] at h8; exact h5 j s (by omega) h7 h8
          refine ⟨BU m e.2.2.1 (lo T e.2.2.1 k), bf, ?_, ⟨by simp [hl], fun u => ?_, fun i s hg h0 => ?_⟩⟩
          · unfold AV
            by_cases c3 : e.1 = 3
            · simp only [hk, Option.bind_some, if_neg ce, if_pos c3, hset, C0, hbi]
              rw [← Fs]
              congr 3
              unfold CE
              rw [if_neg ce, if_pos c3]; rfl
            · simp only [hk, Option.bind_some, if_neg ce, if_neg c3, hset, C0, hbi]
              rw [← Fs]
              congr 3
              unfold CE
              rw [if_neg ce, if_neg c3]; rfl
          · rw [C7, List.length_set]
            by_cases c : u = e.2.2.1
            · rw [if_pos c, c, hlast]; rfl
            · rw [if_neg c, h.cur, hlo _ _ (.inl c)]
          · by_cases hi : i = k
            · subst hi
              rw [hsetk] at hg; cases hg
              exact absurd ⟨rfl, h0⟩ (hcl (CE e t).1)
            · rw [hset2 i hi] at hg
              rw [h.bef i s hg h0]
              by_cases c : i ≤ k
              · rw [hlo _ _ (.inr c)]
              · rw [hlo _ _ (.inl fun hq => h5 i s (by omega) (List.getElem?_eq_some_iff.1 hg).1 hg ⟨hq, h0⟩)]
    · have hst : Bu T e = T := by unfold Bu; rw [if_neg c1, if_neg (fun h => c2 h.1)]
      rw [if_neg (by rw [decide_eq_false c2]; decide), hst]
      exact ⟨m, bf, rfl, h⟩
abbrev tr (l : List Ev) : List Tr := l.foldl Bu []
theorem C6 (l : List Ev) (e : Ev) : tr (l ++ [e]) = Bu (tr l) e := by unfold tr; rw [List.foldl_append]; rfl
structure Okt (P : Int → Prop) (n : Nat) (t : Tr) : Prop where
  a : P t.1
  b : P t.2.1
  c : P t.2.2.1
  d : P t.2.2.2.1
  s : ∀ x ∈ t.2.2.2.2.1, P x
  n : t.2.2.2.2.1.length ≤ n
  h : P t.2.2.2.2.2.2.1
  l : P t.2.2.2.2.2.2.2
theorem Okt.up {P : Int → Prop} {n : Nat} {t : Tr} (h : Okt P n t) : Okt P (n + 1) t := ⟨h.a, h.b, h.c, h.d, h.s, by have := h.n; omega, h.h, h.l⟩
theorem Ha {P : Int → Prop} (h0 : P 0) {n : Nat} {T : List Tr} (hT : ∀ t ∈ T, Okt P n t) {e : Ev} (he : P e.2.1 ∧ P e.2.2.1 ∧ P e.2.2.2.1 ∧ P e.2.2.2.2.1 ∧ P e.2.2.2.2.2) : ∀ t ∈ Bu T e, Okt P (n + 1) t := by
  intro x hx
  unfold Bu at hx
  by_cases c : e.1 = 1
  · rw [if_pos c] at hx
    rcases List.mem_append.1 hx with hx | hx
    · exact (hT x hx).up
    · rw [List.mem_singleton.1 hx]
      exact ⟨he.2.1, he.2.2.2.1, he.2.2.2.2, he.1, (fun y hy => by cases hy), by simp [GL], h0, he.1⟩
  · rw [if_neg c] at hx
    by_cases c2 : (e.1 = 2 ∨ e.1 = 3 ∨ e.1 = 4) ∧ lo T e.2.2.1 T.length ≠ -1
    · rw [if_pos c2] at hx
      cases hg : T[(lo T e.2.2.1 T.length).toNat]? with
      | none => rw [hg] at hx; exact (hT x hx).up
      | some t =>
        rw [hg] at hx
        rcases List.mem_or_eq_of_mem_set hx with hx | rfl
        · exact (hT x hx).up
        · have ht := hT t (List.mem_of_getElem? hg)
          unfold CE
          by_cases ce : e.1 = 2
          · rw [if_pos ce]
            refine ⟨ht.a, ht.b, ht.c, ht.d, fun y hy => ?_, by have := ht.n; simp; omega, ht.h, he.1⟩
            rcases List.mem_append.1 hy with hy | hy
            · exact ht.s y hy
            · rw [List.mem_singleton.1 hy]; exact he.2.2.1
          · rw [if_neg ce]
            refine ⟨ht.a, ht.b, ht.c, ht.d, ht.s, by have := ht.n; show t.2.2.2.2.1.length ≤ _; omega, ?_, he.1⟩
            show P (if e.1 = 3 then _ else _)
            split
            · exact he.2.2.2.1
            · exact ht.h
    · rw [if_neg c2] at hx; exact (hT x hx).up
theorem Hl {P : Int → Prop} (h0 : P 0) : ∀ (l : List Ev), (∀ e ∈ l, P e.2.1 ∧ P e.2.2.1 ∧ P e.2.2.2.1 ∧ P e.2.2.2.2.1 ∧ P e.2.2.2.2.2) → ∀ t ∈ tr l, Okt P l.length t := by
  intro l
  refine EY (Q := fun l => (∀ e ∈ l, P e.2.1 ∧ P e.2.2.1 ∧ P e.2.2.2.1 ∧ P e.2.2.2.2.1 ∧ P e.2.2.2.2.2) → ∀ t ∈ tr l, Okt P l.length t) ?_ ?_ l
  · intro _ t ht; cases ht
  · intro l e ih h
    rw [C6, List.length_append, List.length_singleton]
    exact Ha h0 (ih fun e he => h e (List.mem_append_left _ he)) (h e (List.mem_append_right _ (List.mem_singleton.2 rfl)))
theorem ET (l : List Ev) : (tr l).length ≤ l.length := by
  refine EY (Q := fun l => (tr l).length ≤ l.length) (Nat.le_refl _) ?_ l
  · intro l e ih
    rw [C6, Dz, List.length_append, List.length_singleton]
    split <;> omega
theorem Fm (l : List Ev) : ∀ t ∈ tr l, t.2.2.2.2.1.length ≤ l.length := fun t ht => (Hl (P := fun _ => True) trivial l (fun _ _ => ⟨trivial, trivial, trivial, trivial, trivial⟩) t ht).n
theorem GE {l : List Ev} (hl : l.length ≤ 1000) : Ca l = some (tr l) := by
  unfold Ca
  obtain ⟨⟨x1, x2, x3⟩, ⟨h1, h2⟩, h3⟩ := CW l.length (fun (s : List Ib × List Int × List (Int × Int)) (k : Nat) => ((k : Int), s.1, s.2.1, s.2.2)) (Br l) id
    (fun s k => s.1 = (tr (l.take k)).map fl ∧ Inv (tr (l.take k)) s.2.2 s.2.1) (fun s k hk => by
      obtain ⟨a, b, c⟩ := s
      rintro ⟨ha, hI⟩
      simp only at ha hI
      subst ha
      have hg : l[k]? = some l[k] := List.getElem?_eq_getElem hk
      have hlt : (l.take k).length = k := by simp; omega
      obtain ⟨m', bf', e1, e2⟩ := Hb hI (by have := ET (l.take k); omega) (fun t ht => by have := Fm (l.take k) t ht; omega) l[k]
      have hsn : tr (l.take (k + 1)) = Bu (tr (l.take k)) l[k] := by rw [List.take_succ_eq_append_getElem hk, C6]
      refine ⟨((Bu (tr (l.take k)) l[k]).map fl, bf', m'), ?_, by rw [hsn], by rw [hsn]; exact e2⟩
      rw [Br, if_pos (by omega), Ct hg, Option.bind_some, e1, Option.bind_some, CD (by omega)]; rfl) (fun s _ => by
      obtain ⟨a, b, c⟩ := s
      rw [Br, if_neg (by omega)]; rfl) ([], [], []) ⟨rfl, ⟨rfl, fun u => rfl, fun i t h => by simp at h⟩⟩
  have h4 : AP (Br l) (0, [], [], []) = some (id (x1, x2, x3)) := h3
  rw [h4]
  simp only [id, Option.bind_some]
  simp only at h1
  rw [h1, Gb, Option.bind_some, List.take_length]
theorem Es {T : List Tr} (hT : T.length ≤ 1000000) : BE T = some T := by
  unfold BE
  rw [F0 T (by omega) id (Bo T) (fun k hk out _ => by rw [Bo, if_pos (by omega), Ct (List.getElem?_eq_getElem hk), Option.bind_some]; rfl) (fun out => by rw [Bo, if_neg (by omega)])]
  rw [List.map_id]; rfl
theorem Hn {a : List Int} (ha : a.length ≤ 1000000000) : C3 a a = some true := by
  unfold C3
  rw [if_neg (fun h => h rfl), DA a (by omega) (BQ a a) (fun _ => False) false (fun k hk => by
    rw [BQ, if_pos (by omega), Ct (List.getElem?_eq_getElem hk), Option.bind_some, Option.bind_some, if_neg (fun h => h rfl), if_neg (fun h => h)]) (by rw [BQ, if_neg (by omega)]), if_neg (fun ⟨_, _, h⟩ => h)]
  rfl
theorem Hz {T : List Tr} (hT : T.length ≤ 1000000) (hs : ∀ t ∈ T, t.2.2.2.2.1.length ≤ 1000000) : Cd T T = some true := by
  unfold Cd
  rw [if_neg (fun h => h rfl), DA T (by omega) (BR T T) (fun _ => False) false (fun k hk => by
    rw [BR, if_pos (by omega), Ct (List.getElem?_eq_getElem hk)]
    simp only [Option.bind_some, ne_eq, not_true, if_false]
    rw [Hn (by have := hs _ (List.getElem_mem hk); omega), Option.bind_some]
    rfl) (by rw [BR, if_neg (by omega)]), if_neg (fun ⟨_, _, h⟩ => h)]
  rfl
theorem Er {κ ν : Type} [DecidableEq κ] : ∀ (l : List (κ × ν)) (x : κ) (v : ν), (BU l x v).length = if (BN l x).isSome = true then l.length else l.length + 1
  | [], _, _ => rfl
  | p :: l, x, v => by
    unfold BU BN
    by_cases c : x = p.1
    · rw [if_pos c, if_pos c]; rfl
    · rw [if_neg c, if_neg c, List.length_cons, Er l x v]
      by_cases d : (BN l x).isSome = true
      · rw [if_pos d, if_pos d]; rfl
      · rw [if_neg d, if_neg d]; rfl
def HJ (l : List Int) (i : Nat) : Prop := ∃ hi : i < l.length, ∃ j, ∃ hj : j < i, l[i] = l[j]
noncomputable instance (l : List Int) : DecidablePred (HJ l) := fun _ => Classical.propDecidable _
theorem Gu {t : Tr} (hl : t.2.2.2.2.1.length ≤ 1000000) : BL t = some (decide (¬ t.2.2.2.2.1.Nodup)) := by
  unfold BL
  obtain ⟨l, hlx⟩ : ∃ l, l = t.2.2.2.2.1 := ⟨_, rfl⟩
  rw [← hlx] at hl
  obtain ⟨m, ⟨h1, h2, h3⟩, h4⟩ := CW l.length (fun (m : List (Int × Unit)) (k : Nat) => ((k : Int), m)) (A2 t) id (fun m k => (∀ y, (BN m y).isSome = true ↔ y ∈ l.take k) ∧ m.length ≤ k ∧ (m.length = k ↔ (l.take k).Nodup)) (fun m k hk => by
    rintro ⟨h1, h2, h3⟩
    have hg : l[k]? = some l[k] := List.getElem?_eq_getElem hk
    refine ⟨BU m l[k] (), ?_, fun y => ?_, ?_⟩
    · rw [A2, ← hlx, if_pos (by omega), Ct hg, Option.bind_some, CD (by omega)]; rfl
    · rw [C7, List.take_succ_eq_append_getElem hk, List.mem_append, List.mem_singleton, ← h1 y]
      by_cases c : y = l[k]
      · rw [if_pos c]; simp [c]
      · rw [if_neg c]; simp [c]
    · rw [Er, List.take_succ_eq_append_getElem hk]
      have hn : (l.take k ++ [l[k]]).Nodup ↔ (l.take k).Nodup ∧ l[k] ∉ l.take k := by
        rw [List.nodup_append]
        constructor
        · rintro ⟨a, _, c⟩
          exact ⟨a, fun h => c _ h _ (List.mem_singleton.2 rfl) rfl⟩
        · rintro ⟨a, b⟩
          exact ⟨a, by simp, fun x hx y hy e => b (by rw [← List.mem_singleton.1 hy, ← e]; exact hx)⟩
      by_cases c : (BN m l[k]).isSome = true
      · rw [if_pos c, hn]
        have := (h1 _).1 c
        exact ⟨by omega, fun h => by omega, fun h => absurd this h.2⟩
      · rw [if_neg c, hn]
        have hc : l[k] ∉ l.take k := fun h => c ((h1 _).2 h)
        refine ⟨by omega, fun h => ⟨h3.1 (by omega), hc⟩, fun h => ?_⟩
        have := h3.2 h.1
        omega) (fun m _ => by rw [A2, ← hlx, if_neg (by omega)]; rfl) [] ⟨fun y => by simp [BN], by simp, by simp⟩
  have h5 : AP (A2 t) (0, []) = some (id m) := h4
  rw [h5, ← hlx]
  simp only [id, Option.bind_some]
  rw [List.take_length] at h3
  congr 1
  refine decide_eq_decide.2 ⟨fun h hn => ?_, fun h => ?_⟩
  · have := h3.2 hn; omega
  · have : m.length ≠ l.length := fun e => h (h3.1 e)
    omega
def GH (t : Tr) : List UInt8 := Lib.itoa t.1 ++ [58, 32] ++ Lib.itoa t.2.1 ++ [62] ++ Lib.itoa t.2.2.1 ++ [32, 97, 116, 32] ++ Lib.itoa t.2.2.2.1 ++ [58]
def F2 (l : List Int) : List UInt8 := l.flatMap fun s => 32 :: Lib.itoa s
def HT (t : Tr) : List UInt8 := if t.2.2.2.2.2.1 = 3 then [32, 103, 111, 110, 101, 32] ++ Lib.itoa t.2.2.2.2.2.2.1 ++ [32, 97, 116, 32] ++ Lib.itoa t.2.2.2.2.2.2.2 else if t.2.2.2.2.2.1 = 4 then [32, 100, 114, 111, 112, 112, 101, 100, 32, 97, 116, 32] ++ Lib.itoa t.2.2.2.2.2.2.2 else [32, 111, 110, 32, 105, 116, 115, 32, 119, 97, 121]
theorem Gx (l : List Int) (x : Int) : F2 (l ++ [x]) = F2 l ++ 32 :: Lib.itoa x := by unfold F2; rw [List.flatMap_append]; simp
theorem FD {l : List Int} (h : ∀ x ∈ l, i64 x) : (F2 l).length ≤ 22 * l.length := by
  induction l with
  | nil => simp [F2]
  | cons x l ih =>
    have h1 := BO (h x (List.mem_cons_self ..))
    have h2 := ih fun y hy => h y (List.mem_cons_of_mem _ hy)
    have : F2 (x :: l) = (32 :: Lib.itoa x) ++ F2 l := rfl
    rw [this, List.length_append, List.length_cons, List.length_cons]; omega
theorem GT {t : Tr} (h : Okt i64 1000 t) : B4 t = some (GH t ++ F2 t.2.2.2.2.1 ++ HT t) := by
  have l1 := BO h.a
  have l2 := BO h.b
  have l3 := BO h.c
  have l4 := BO h.d
  have l5 := BO h.h
  have l6 := BO h.l
  have hn := h.n
  have hhd : (GH t).length ≤ 100 := by unfold GH; simp; omega
  have htl : (HT t).length ≤ 100 := by
    unfold HT
    split
    · simp; omega
    · split <;> simp; omega
  have hsw := FD h.s
  have hloop : AP (AY t) (0, GH t) = some (GH t ++ F2 t.2.2.2.2.1) := by
    obtain ⟨x, h1, h2⟩ := CW t.2.2.2.2.1.length (fun (x : List UInt8) (k : Nat) => ((k : Int), x)) (AY t) id (fun x k => x = GH t ++ F2 (t.2.2.2.2.1.take k)) (fun x k hk hx => by
      have hg : t.2.2.2.2.1[k]? = some t.2.2.2.2.1[k] := List.getElem?_eq_getElem hk
      have hi := h.s _ (List.getElem_mem hk)
      have hl := BO hi
      have hsk := FD (l := t.2.2.2.2.1.take k) fun y hy => h.s y (List.mem_of_mem_take hy)
      rw [List.length_take] at hsk
      refine ⟨GH t ++ F2 (t.2.2.2.2.1.take (k + 1)), ?_, rfl⟩
      rw [AY, if_pos (by omega), Ct hg, Option.bind_some, BP hi, Option.bind_some, AX (by simp; omega), Option.bind_some, AX (by rw [hx]; simp; omega), Option.bind_some, CD (by omega), hx, List.take_succ_eq_append_getElem hk, Gx, List.append_assoc]; rfl) (fun x _ => by rw [AY, if_neg (by omega)]; rfl) (GH t) (by simp [F2])
    have h3 : AP (AY t) (0, GH t) = some (id x) := h2
    rw [h3, h1, List.take_length]; rfl
  have hend : Bm t = some (HT t) := by
    unfold Bm HT
    by_cases c : t.2.2.2.2.2.1 = 3
    · rw [if_pos c, if_pos c, BP h.h, Option.bind_some, AX (by simp; omega), Option.bind_some, AX (by simp; omega), Option.bind_some, BP h.l, Option.bind_some, AX (by simp; omega)]; rfl
    · rw [if_neg c, if_neg c]
      by_cases c4 : t.2.2.2.2.2.1 = 4
      · rw [if_pos c4, if_pos c4, BP h.l, Option.bind_some, AX (by simp; omega)]; rfl
      · rw [if_neg c4, if_neg c4]
  unfold B4
  rw [BP h.a, Option.bind_some, AX (by simp; omega), Option.bind_some, BP h.b, Option.bind_some, AX (by simp; omega), Option.bind_some, AX (by simp; omega), Option.bind_some, BP h.c, Option.bind_some, AX (by simp; omega), Option.bind_some, AX (by simp; omega), Option.bind_some, BP h.d, Option.bind_some, AX (by simp; omega), Option.bind_some, AX (by simp; omega), Option.bind_some, AX (by simp; omega), Option.bind_some, List.nil_append]
  rw [show Lib.itoa t.1 ++ [58, 32] ++ Lib.itoa t.2.1 ++ [62] ++ Lib.itoa t.2.2.1 ++ [32, 97, 116, 32] ++ Lib.itoa t.2.2.2.1 ++ [58] = GH t from rfl, hloop, Option.bind_some, hend, Option.bind_some, AX (by simp; omega), Option.bind_some, Hf (by simp; omega)]; rfl
abbrev Iw : Ev → Prop := Fc (fun n => (Lit.int .i64 n).wf = true) (Fc (fun n => (Lit.int .i64 n).wf = true) (Fc (fun n => (Lit.int .i64 n).wf = true) (Fc (fun n => (Lit.int .i64 n).wf = true) (Fc (fun n => (Lit.int .i64 n).wf = true) (fun n => (Lit.int .i64 n).wf = true)))))
theorem He : B3 = some true := by
  have ho : ∀ t ∈ tr [(1, 5, 0, 0, 1, 0), (2, 5, 0, 0, 0, 0), (2, 9, 0, 2, 0, 0), (3, 9, 0, 2, 0, 0)], Okt i64 4 t := Hl (by constructor <;> decide) _ (by intro e he; simp only [List.mem_cons, List.not_mem_nil, or_false] at he; rcases he with rfl | rfl | rfl | rfl <;> refine ⟨?_, ?_, ?_, ?_, ?_⟩ <;> constructor <;> decide)
  have e : tr [(1, 5, 0, 0, 1, 0), (2, 5, 0, 0, 0, 0), (2, 9, 0, 2, 0, 0), (3, 9, 0, 2, 0, 0)] = [(0, 1, 0, 5, [0, 2], 3, 0, 9)] := by rfl
  unfold B3
  rw [GE (by decide), Option.bind_some]
  rw [e] at ho ⊢
  have h1 := ho _ (List.mem_singleton.2 rfl)
  have h2 : Okt i64 1000 (0, 1, 0, 5, [0, 2], 3, 0, 9) := ⟨h1.a, h1.b, h1.c, h1.d, h1.s, by decide, h1.h, h1.l⟩
  rw [if_pos (by decide), show ix [((0, 1, 0, 5, [0, 2], 3, 0, 9) : Tr)] 0 = some (0, 1, 0, 5, [0, 2], 3, 0, 9) from rfl]
  simp only [Option.bind_some]
  rw [GT h2, Option.bind_some, if_pos (by decide +kernel), if_pos (by decide), Gu (by decide)]
  decide
theorem Hy {l : List Ev} (hl : l.length ≤ 1000) : AP (AL l) (0, 0) = some ((tr l).length : Int) := by
  obtain ⟨x, h1, h2⟩ := CW l.length (fun (x : Int) (k : Nat) => (x, (k : Int))) (AL l) id (fun x k => x = ((tr (l.take k)).length : Int)) (fun x k hk hx => by
    have hg : l[k]? = some l[k] := List.getElem?_eq_getElem hk
    have hlt := ET (l.take k)
    rw [List.length_take] at hlt
    refine ⟨((tr (l.take (k + 1))).length : Int), ?_, rfl⟩
    rw [AL, if_pos (by omega), Ct hg, Option.bind_some, List.take_succ_eq_append_getElem hk, C6, Dz, hx]
    by_cases c : l[k].1 = 1
    · rw [if_pos c, if_pos c, Option.bind_some, CD (by omega), CD (by omega)]; rfl
    · rw [if_neg c, if_neg c, Option.bind_some, CD (by omega)]; rfl) (fun x _ => by rw [AL, if_neg (by omega)]; rfl) 0 rfl
  have h3 : AP (AL l) (0, 0) = some (id x) := h2
  rw [h3, h1, List.take_length]; rfl
theorem FN {T : List Tr} {e : Ev} {i : Nat} {t : Tr} (h : T[i]? = some t) (hc : t.1 ≠ e.2.2.1 ∨ t.2.2.2.2.2.1 ≠ 0) : (Bu T e)[i]? = some t := by
  have hi := (List.getElem?_eq_some_iff.1 h).1
  unfold Bu
  by_cases c : e.1 = 1
  · rw [if_pos c, List.getElem?_append_left hi]; exact h
  · rw [if_neg c]
    by_cases c2 : (e.1 = 2 ∨ e.1 = 3 ∨ e.1 = 4) ∧ lo T e.2.2.1 T.length ≠ -1
    · rw [if_pos c2]
      rcases EJ T e.2.2.1 T.length with ⟨h1, _⟩ | ⟨k, s, h1, h2, h3, h4, h5⟩
      · exact absurd h1 c2.2
      · rw [h1, Int.toNat_natCast, h3]
        have hk : k ≠ i := fun e => by
          subst e
          rw [h3] at h; cases h
          rcases hc with hc | hc
          · exact hc h4.1
          · exact hc h4.2
        show (T.set k (CE e s))[i]? = _
        rw [List.getElem?_set_ne hk]; exact h
    · rw [if_neg c2]; exact h
theorem El (p0 : List Ev) (ok0 : H0 Iw p0) (p1 : Ev) {A : Prop} (_ : A) : B2 p0 p1 = some true := by
  unfold B2
  rw [He]
  by_cases c : 100 < (p0.length : Int)
  · rw [if_pos c]; rfl
  · have hl := ET p0
    have hs := Fm p0
    have hl2 := ET (p0 ++ [p1])
    have hs2 := Fm (p0 ++ [p1])
    rw [List.length_append, List.length_singleton] at hl2 hs2
    have hst := Dz (tr p0) p1
    rw [if_neg c, Hy (by omega), Option.bind_some, AX (by simp; omega), Option.bind_some, List.nil_append, AX (by simp; omega), Option.bind_some, GE (by omega), Option.bind_some, Es (by omega), Option.bind_some, GE (by simp; omega), Option.bind_some, Es (by omega), Option.bind_some]
    have hge : (tr p0).length ≤ (tr (p0 ++ [p1])).length := by rw [C6, hst]; omega
    rw [if_neg (by rw [Bool.or_eq_true, decide_eq_true_eq, decide_eq_true_eq]; omega)]
    have hkey : ∀ (k : Nat) (hk : k < (tr p0).length), (tr p0)[k].1 ≠ p1.2.2.1 ∨ (tr p0)[k].2.2.2.2.2.1 ≠ 0 → (((CC (tr p0) (k : Int) (DS ((k : Int) + 1))).bind fun x16 => (CC (tr (p0 ++ [p1])) (k : Int) (DS ((k : Int) + 1))).bind fun x17 => (Cd x16 x17).bind fun x18 => some (!x18)) = some false) := fun k hk hc => by
      have hg : (tr p0)[k]? = some (tr p0)[k] := List.getElem?_eq_getElem hk
      have hg2 : (tr (p0 ++ [p1]))[k]? = some (tr p0)[k] := by rw [C6]; exact FN hg hc
      have hsub : ∀ {T : List Tr} {x : Tr}, T[k]? = some x → T.length ≤ 1000 → CC T (k : Int) (DS ((k : Int) + 1)) = some [x] := fun {T x} h hT => by
        have hkT := (List.getElem?_eq_some_iff.1 h).1
        rw [CD (by omega), GQ (by omega), Int.toNat_natCast, show ((k : Int) + 1).toNat = k + 1 by omega, List.take_succ_eq_append_getElem hkT, List.drop_append_of_le_length (by rw [List.length_take]; omega), List.drop_of_length_le (by rw [List.length_take]; omega), List.nil_append, (List.getElem?_eq_some_iff.1 h).2]
      rw [hsub hg (by omega), Option.bind_some, hsub hg2 (by omega), Option.bind_some, Hz (by simp) (fun t ht => by rw [List.mem_singleton.1 ht]; have := hs _ (List.getElem_mem hk); omega)]; rfl
    rw [DA (tr p0) (by omega) (Ba p1 ((tr p0).length : Int) (tr p0) (tr (p0 ++ [p1]))) (fun _ => False) false (fun k hk => by
      have hg : (tr p0)[k]? = some (tr p0)[k] := List.getElem?_eq_getElem hk
      rw [Ba, if_pos (by omega), Ct hg]
      simp only [Option.bind_some]
      by_cases d1 : (tr p0)[k].1 ≠ p1.2.2.1
      · rw [if_pos d1, hkey k hk (.inl d1)]; rfl
      · rw [if_neg d1]
        by_cases d2 : (tr p0)[k].2.2.2.2.2.1 ≠ 0
        · rw [if_pos d2, hkey k hk (.inr d2)]; rfl
        · rw [if_neg d2]; rfl) (by rw [Ba, if_neg (by omega)]), if_neg (fun ⟨_, _, h⟩ => h)]
    rfl
end Go.Proofs.YtpmhmemmniiomaaDoor
