/- Layer 22: the ring. Conditions: none. -/
import Derived.Test.YtnhoakboblfliaaM22
namespace Go.Proofs.Ytnhoakboblfliaa
set_option linter.unusedVariables false
set_option linter.unusedSimpArgs false
open Go Go.RowKit
/-! ### The ring -/
/-- What is known of the causes: when each variable rose last (T: by a count, R: by the round), and why. -/
structure Cz (n : Nat) (l : Afters) (r i : Nat) (x c : Nat → Int) (T R : Nat → Nat) (now : Nat) : Prop where
  past : ∀ v, T v ≤ now
  top : ∀ v, R v ≤ r
  one : ∀ u v, u < n → v < n → T u = T v → 0 < T u → u = v
  raised : ∀ v, v < n → (0 < R v ↔ 0 < T v)
  why : ∀ v, v < n → 0 < T v → ∃ (k : Nat) (a : Nat × Nat × Int), c v = (k : Int) ∧ l[k]? = some a ∧ a.2.1 = v ∧ x v ≤ x a.1 + a.2.2 ∧ ((T v < T a.1 ∨ a.1 = v) → x v < x a.1 + a.2.2) ∧ R v ≤ R a.1 + 1
  done : ∀ k a, l[k]? = some a → x a.1 + a.2.2 ≤ x a.2.1 ∨ (if k < i then r else r - 1) ≤ R a.1
theorem Cz.rise {n : Nat} {l : Afters} (hin : In n l) {r i : Nat} {x c : Nat → Int} {T R : Nat → Nat} {now : Nat} (g : Cz n l r i x c T R now) (hpos : 1 ≤ r) {a : Nat × Nat × Int} (ha : l[i]? = some a) (ht : x a.2.1 < x a.1 + a.2.2) :
    ∃ T' R' now', Cz n l r (i + 1) (upd x a.2.1 (x a.1 + a.2.2)) (upd c a.2.1 (i : Int)) T' R' now' ∧ R' a.2.1 = r := by
  have hm := List.mem_of_getElem? ha
  have hcn := hin a hm
  have hne : ∀ v, v ≠ a.2.1 → upd x a.2.1 (x a.1 + a.2.2) v = x v := fun v hv => upd_ne _ _ hv
  have hle : ∀ v, x v ≤ upd x a.2.1 (x a.1 + a.2.2) v := fun v => by unfold upd; split <;> (try subst_vars) <;> omega
  refine ⟨fun v => if v = a.2.1 then now + 1 else T v, fun v => if v = a.2.1 then r else R v, now + 1, ⟨fun v => ?_, fun v => ?_, fun u v hu hv he h0 => ?_, fun v hv => ?_, fun v hv h0 => ?_, fun k b hb => ?_⟩, if_pos rfl⟩
  · have := g.past v; (try dsimp only); split <;> omega
  · have := g.top v; (try dsimp only); split <;> omega
  · try dsimp only at he h0
    have h1 := g.past u
    have h2 := g.past v
    by_cases e1 : u = a.2.1
    · by_cases e2 : v = a.2.1
      · rw [e1, e2]
      · rw [if_pos e1, if_neg e2] at he; omega
    · by_cases e2 : v = a.2.1
      · rw [if_neg e1, if_pos e2] at he; omega
      · rw [if_neg e1, if_neg e2] at he; rw [if_neg e1] at h0
        exact g.one u v hu hv he h0
  · try dsimp only
    by_cases e : v = a.2.1
    · rw [if_pos e, if_pos e]; omega
    · rw [if_neg e, if_neg e]; exact g.raised v hv
  · by_cases e : v = a.2.1
    · subst e
      refine ⟨i, a, upd_same _ _ _, ha, rfl, ?_, fun h2 => ?_, ?_⟩
      · rw [upd_same]; have := hle a.1; omega
      · rw [upd_same]
        rcases h2 with h2 | h2
        · try dsimp only at h2
          rw [if_pos rfl] at h2
          by_cases e3 : a.1 = a.2.1
          · rw [if_pos e3] at h2; omega
          · rw [if_neg e3] at h2
            have := g.past a.1; omega
        · rw [h2, upd_same]; rw [h2] at ht; omega
      · try dsimp only
        rw [if_pos rfl]
        by_cases e3 : a.1 = a.2.1
        · rw [if_pos e3]; omega
        · rw [if_neg e3]
          rcases g.done i a ha with h1 | h1
          · omega
          · rw [if_neg (Nat.lt_irrefl _)] at h1; omega
    · try dsimp only at h0 ⊢
      rw [if_neg e] at h0
      obtain ⟨k, b, h1, h2, h3, h4, h5, h6⟩ := g.why v hv h0
      refine ⟨k, b, (upd_ne _ _ e).trans h1, h2, h3, ?_, fun h7 => ?_, ?_⟩
      · rw [hne v e]; have := hle b.1; omega
      · rw [hne v e]
        by_cases e2 : b.1 = a.2.1
        · have h8 : x b.1 < upd x a.2.1 (x a.1 + a.2.2) b.1 := by rw [e2, upd_same]; exact ht
          omega
        · rw [hne _ e2]
          rw [if_neg e, if_neg e2] at h7
          exact h5 h7
      · rw [if_neg e]
        split
        · have := g.top v; omega
        · exact h6
  · by_cases e : k = i
    · subst e
      rw [ha] at hb
      cases hb
      by_cases e3 : a.1 = a.2.1
      · right
        try dsimp only
        rw [if_pos e3]; split <;> omega
      · left
        rw [upd_same, hne _ e3]; omega
    · rcases g.done k b hb with h1 | h1
      · by_cases e2 : b.1 = a.2.1
        · right
          try dsimp only
          rw [if_pos e2]; split <;> omega
        · left
          rw [hne _ e2]
          have := hle b.2.1; omega
      · right
        try dsimp only
        have h2 : (if k < i + 1 then r else r - 1) ≤ r := by split <;> omega
        by_cases e2 : b.1 = a.2.1
        · rw [if_pos e2]; exact h2
        · rw [if_neg e2]
          refine Nat.le_trans (Nat.le_of_eq ?_) h1
          by_cases e4 : k < i
          · rw [if_pos e4, if_pos (by omega)]
          · rw [if_neg e4, if_neg (by omega)]
theorem Tr.cz {n : Nat} {l : Afters} (hin : In n l) {r i : Nat} {x c : Nat → Int} (h : Tr n l r i x c) : ∃ T R now, Cz n l r i x c T R now := by
  induction h with
  | start x c h => exact ⟨fun _ => 0, fun _ => 0, 0, fun _ => Nat.le_refl _, fun _ => Nat.zero_le _, fun _ _ _ _ _ h => by omega, fun _ _ => Iff.rfl, fun _ _ h => by omega, fun k a _ => .inr (by simp)⟩
  | @keep r i x c a h ha ht ih =>
    obtain ⟨T, R, now, g⟩ := ih
    refine ⟨T, R, now, g.past, g.top, g.one, g.raised, g.why, fun k b hb => ?_⟩
    by_cases e : k = i
    · subst e; rw [ha] at hb; cases hb; exact .inl ht
    · rcases g.done k b hb with h1 | h1
      · exact .inl h1
      · refine .inr (Nat.le_trans (Nat.le_of_eq ?_) h1)
        by_cases e2 : k < i
        · rw [if_pos e2, if_pos (by omega)]
        · rw [if_neg e2, if_neg (by omega)]
  | @rise r i x c a h ha ht ih =>
    obtain ⟨T, R, now, g⟩ := ih
    obtain ⟨T', R', now', g', _⟩ := g.rise hin h.pos ha ht
    exact ⟨T', R', now', g'⟩
  | @next r x c h ih =>
    obtain ⟨T, R, now, g⟩ := ih
    refine ⟨T, R, now, g.past, fun v => Nat.le_succ_of_le (g.top v), g.one, g.raised, g.why, fun k a ha => ?_⟩
    rcases g.done k a ha with h1 | h1
    · exact .inl h1
    · right
      have := (List.getElem?_eq_some_iff.1 ha).1
      rw [if_pos this] at h1
      rw [if_neg (by omega)]; omega

/-- Numbers below n that differ are at most n. -/
theorem nodup_nat : ∀ (m : Nat) (got : List Nat), got.Nodup → (∀ x ∈ got, x < m) → got.length ≤ m
  | 0, got, _, h => by
    cases got with
    | nil => simp
    | cons x l => have := h x (List.mem_cons_self ..); omega
  | m + 1, got, hn, h => by
    have h2 := nodup_nat m (got.erase m) (hn.erase _) (fun x hx => by
      have h3 := h x (List.mem_of_mem_erase hx)
      have h4 : x ≠ m := fun e => by
        subst e
        exact (List.Nodup.not_mem_erase hn) hx
      omega)
    by_cases hm : m ∈ got
    · rw [List.length_erase_of_mem hm] at h2; omega
    · rw [List.erase_of_not_mem hm] at h2; omega
theorem pigeon (n : Nat) (u : Nat → Nat) (h : ∀ j, j ≤ n → u j < n) : ∃ i j, i < j ∧ j ≤ n ∧ u i = u j := by
  refine Classical.byContradiction fun hno => ?_
  have := nodup_nat n ((List.range (n + 1)).map u) (by
    unfold List.Nodup
    rw [List.pairwise_map]
    refine List.Pairwise.imp_of_mem (fun {a b} ha hb hab he => hno ⟨a, b, hab, by have := List.mem_range.1 hb; omega, he⟩) List.pairwise_lt_range) (fun x hx => by
    obtain ⟨j, hj, rfl⟩ := List.mem_map.1 hx
    exact h j (by have := List.mem_range.1 hj; omega))
  simp at this
  omega
/-- What goes on from itself comes back: its places are among the first n; and it comes back to where it is after n. -/
theorem orbit (n : Nat) (f : Nat → Nat) (u : Nat → Nat) (hu : ∀ j, u (j + 1) = f (u j)) (h : ∀ j, j ≤ n → u j < n) : (∀ m, ∃ m', m' < n ∧ u m = u m') ∧ ∃ p, 1 ≤ p ∧ p ≤ n ∧ ∀ k, u (n + p + k) = u (n + k) := by
  obtain ⟨i, j, hij, hj, he⟩ := pigeon n u h
  have hs : ∀ k, u (i + k) = u (j + k) := fun k => by
    induction k with
    | zero => exact he
    | succ k ih => rw [← Nat.add_assoc, ← Nat.add_assoc, hu, hu, ih]
  refine ⟨fun m => ?_, j - i, by omega, by omega, fun k => ?_⟩
  · induction m using Nat.strongRecOn with
    | _ m ih =>
      by_cases hm : m < n
      · exact ⟨m, hm, rfl⟩
      · obtain ⟨m', h1, h2⟩ := ih (i + (m - j)) (by omega)
        refine ⟨m', h1, ?_⟩
        rw [← h2, hs, show j + (m - j) = m by omega]
  · have h1 := hs (n - i + k)
    rw [show i + (n - i + k) = n + k by omega, show j + (n - i + k) = n + (j - i) + k by omega] at h1
    exact h1.symm
/-- The least number of steps back to itself. -/
theorem back (u : Nat → Nat) (f : Nat → Nat) (hu : ∀ j, u (j + 1) = f (u j)) {p : Nat} (hp : 1 ≤ p) (h : u p = u 0) : ∃ q, 1 ≤ q ∧ q ≤ p ∧ u q = u 0 ∧ (∀ j, 1 ≤ j → j < q → u j ≠ u 0) ∧ ∀ i j, i < j → j < q → u i ≠ u j := by
  induction p using Nat.strongRecOn with
  | _ p ih =>
    by_cases hx : ∃ j, 1 ≤ j ∧ j < p ∧ u j = u 0
    · obtain ⟨j, h1, h2, h3⟩ := hx
      obtain ⟨q, g1, g2, g3⟩ := ih j h2 h1 h3
      exact ⟨q, g1, by omega, g3⟩
    · have hno : ∀ j, 1 ≤ j → j < p → u j ≠ u 0 := fun j h1 h2 h3 => hx ⟨j, h1, h2, h3⟩
      refine ⟨p, hp, Nat.le_refl _, h, hno, fun i j hij hjp he => ?_⟩
      have hs : ∀ k, u (i + k) = u (j + k) := fun k => by
        induction k with
        | zero => exact he
        | succ k ih => rw [← Nat.add_assoc, ← Nat.add_assoc, hu, hu, ih]
      have h1 := hs (p - j)
      rw [show j + (p - j) = p by omega, h] at h1
      exact hno (i + (p - j)) (by omega) (by omega) h1
theorem amax (T : Nat → Nat) : ∀ p, 1 ≤ p → ∃ m, m < p ∧ ∀ j, j < p → T j ≤ T m
  | 0, h => by omega
  | 1, _ => ⟨0, by omega, fun j hj => by rw [show j = 0 by omega]; exact Nat.le_refl _⟩
  | p + 2, _ => by
    obtain ⟨m, h1, h2⟩ := amax T (p + 1) (by omega)
    by_cases h : T (p + 1) ≤ T m
    · exact ⟨m, by omega, fun j hj => by
        by_cases e : j = p + 1
        · rw [e]; exact h
        · exact h2 j (by omega)⟩
    · exact ⟨p + 1, by omega, fun j hj => by
        by_cases e : j = p + 1
        · rw [e]; exact Nat.le_refl _
        · have := h2 j (by omega); omega⟩
def total (g : Nat → Int) : Nat → Int
  | 0 => 0
  | p + 1 => total g p + g p
theorem total_le (y g : Nat → Int) : ∀ p, (∀ j, j < p → y j ≤ y (j + 1) + g j) → y 0 ≤ y p + total g p
  | 0, _ => by simp [total]
  | p + 1, h => by
    have h1 := total_le y g p fun j hj => h j (by omega)
    have h2 := h p (by omega)
    simp only [total]; omega
theorem total_lt (y g : Nat → Int) : ∀ p, (∀ j, j < p → y j ≤ y (j + 1) + g j) → (∃ m, m < p ∧ y m < y (m + 1) + g m) → y 0 < y p + total g p
  | 0, _, ⟨m, h, _⟩ => by omega
  | p + 1, h, ⟨m, hm, hs⟩ => by
    have h2 := h p (by omega)
    simp only [total]
    by_cases e : m = p
    · subst e
      have h1 := total_le y g m fun j hj => h j (by omega)
      omega
    · have h1 := total_lt y g p (fun j hj => h j (by omega)) ⟨m, by omega, hs⟩
      omega
theorem rise_le (z g : Nat → Int) : ∀ p, (∀ j, j < p → z (j + 1) ≤ z j + g j) → z p ≤ z 0 + total g p
  | 0, _ => by simp [total]
  | p + 1, h => by
    have h1 := rise_le z g p fun j hj => h j (by omega)
    have h2 := h p (by omega)
    simp only [total]; omega
theorem rise_lt (z g : Nat → Int) : ∀ p, (∀ j, j < p → z (j + 1) ≤ z j + g j) → (∃ m, m < p ∧ z (m + 1) < z m + g m) → z p < z 0 + total g p
  | 0, _, ⟨m, h, _⟩ => by omega
  | p + 1, h, ⟨m, hm, hs⟩ => by
    have h2 := h p (by omega)
    simp only [total]
    by_cases e : m = p
    · subst e
      have h1 := rise_le z g m fun j hj => h j (by omega)
      omega
    · have h1 := rise_lt z g p (fun j hj => h j (by omega)) ⟨m, by omega, hs⟩
      omega
theorem rev_eq (l : List Int) (hl : l.length ≤ 1000000000) : slices_Reverse_int_int l = some l.reverse := by
  unfold slices_Reverse_int_int
  refine loopW_is (fun s => ∃ k : Nat, k ≤ l.length ∧ s.2.1 = (k : Int) ∧ s.2.2 = (l.length : Int) - 1 - k ∧ s.1.length = l.length ∧ ∀ idx : Nat, idx < l.length → s.1[idx]? = if idx < k ∨ l.length ≤ idx + k then l[l.length - 1 - idx]? else l[idx]?) (fun s => l.length - s.2.1.toNat) _ ?_ _ ⟨0, by omega, rfl, by rw [w64_id (by omega)]; simp, rfl, fun idx hi => by rw [if_neg (by omega)]⟩
  rintro ⟨m, i, j⟩ ⟨k, hk, hi, hj, hm, hg⟩
  simp only at hi hj hm hg
  subst hi hj
  by_cases h : (k : Int) < (l.length : Int) - 1 - k
  · left
    have hj' : (l.length : Int) - 1 - k = ((l.length - 1 - k : Nat) : Int) := by omega
    have g1 : ix m ((l.length - 1 - k : Nat) : Int) = some (l[l.length - 1 - k]'(by omega)) := ix_nat (by rw [hg _ (by omega), if_neg (by omega), List.getElem?_eq_getElem (by omega)])
    have g2 : ix m (k : Int) = some (l[k]'(by omega)) := ix_nat (by rw [hg _ (by omega), if_neg (by omega), List.getElem?_eq_getElem (by omega)])
    have g3 : ∃ y, ix (setAt m (k : Int) (l[l.length - 1 - k]'(by omega))) ((l.length - 1 - k : Nat) : Int) = some y := by
      obtain ⟨y, h1, _⟩ := ix_getD (l := setAt m (k : Int) (l[l.length - 1 - k]'(by omega))) (i := ((l.length - 1 - k : Nat) : Int)) (by omega) (by rw [setAt_len]; omega)
      exact ⟨y, h1⟩
    obtain ⟨y, g3⟩ := g3
    refine ⟨(setAt (setAt m (k : Int) (l[l.length - 1 - k]'(by omega))) ((l.length - 1 - k : Nat) : Int) (l[k]'(by omega)), ((k + 1 : Nat) : Int), (l.length : Int) - 1 - ((k + 1 : Nat) : Int)), ?_, ⟨k + 1, by omega, rfl, rfl, by rw [setAt_len, setAt_len]; exact hm, fun idx hx => ?_⟩, by simp; omega⟩
    · simp only [slices_Reverse_int_int_l1]
      rw [if_pos h, hj', g1, Option.bind_some, g2, Option.bind_some, Option.bind_some, g3, Option.bind_some, w64_id (by omega), w64_id (by omega)]
      congr 4
      omega
    · unfold setAt
      rw [List.getElem?_set, List.getElem?_set, Int.toNat_natCast, Int.toNat_natCast, List.length_set]
      by_cases e1 : l.length - 1 - k = idx
      · rw [if_pos e1, if_pos (by omega), if_pos (by omega)]
        have : l.length - 1 - idx = k := by omega
        simp only [this]
        rw [List.getElem?_eq_getElem (by omega)]
      · rw [if_neg e1]
        by_cases e2 : k = idx
        · subst e2
          rw [if_pos rfl, if_pos (by omega), if_pos (by omega), List.getElem?_eq_getElem (by omega)]
        · rw [if_neg e2, hg idx hx]
          by_cases e3 : idx < k ∨ l.length ≤ idx + k
          · rw [if_pos e3, if_pos (by omega)]
          · rw [if_neg e3, if_neg (by omega)]
  · right
    simp only [slices_Reverse_int_int_l1]
    rw [if_neg h]
    have : m = l.reverse := by
      refine List.ext_getElem? fun idx => ?_
      by_cases hx : idx < l.length
      · rw [hg idx hx, List.getElem?_reverse hx]
        by_cases e : idx < k ∨ l.length ≤ idx + k
        · rw [if_pos e]
        · rw [if_neg e, show l.length - 1 - idx = idx by omega]
      · rw [List.getElem?_eq_none (by omega), List.getElem?_eq_none (by simp; omega)]
    rw [this]
/-- Where a cause leads. -/
def fx (l : Afters) (c : Nat → Int) (v : Nat) : Nat := match l[(c v).toNat]? with | some a => a.1 | none => 0
def sq (f : Nat → Nat) (s : Nat) : Nat → Nat
  | 0 => s
  | j + 1 => f (sq f s j)
def gapAt (l : Cs) (k : Nat) : Int := match l[k]? with | some a => a.2.2 | none => 0
def cl (κ : Nat → Nat) (q : Nat) : List Int := (List.range q).map fun j => (κ j : Int)
theorem cl_succ (κ : Nat → Nat) (q : Nat) : cl κ (q + 1) = cl κ q ++ [(κ q : Int)] := by unfold cl; rw [List.range_succ, List.map_append]; rfl
theorem cl_len (κ : Nat → Nat) (q : Nat) : (cl κ q).length = q := by unfold cl; simp
theorem ring_eq {n : Nat} {l : Cs} (ok : Ok (n : Int) l) {x c : List Int} (hx : x.length = n) (hc : c.length = n) {k : Nat} (hk : k < l.length) (hT : Tr n (N l) n k (gx x) (gx c)) (hv : gx x l[k].2.1.toNat < gx x l[k].1.toNat + l[k].2.2)
    (hs : diff_solve (n : Int) l = some (setAt x l[k].2.1 (gx x l[k].1.toNat + l[k].2.2), setAt c l[k].2.1 (k : Int), l[k].2.1)) :
    ∃ (q : Nat) (w κ : Nat → Nat), 1 ≤ q ∧ q ≤ n ∧ diff_Ring (n : Int) l = some (cl κ q).reverse ∧ w q = w 0 ∧ (∀ i j, i < j → j < q → w i ≠ w j) ∧
      (∀ j, ∃ a, l[κ j]? = some a ∧ a.2.1 = (w j : Int) ∧ a.1 = (w (j + 1) : Int)) ∧ 0 < total (fun i => gapAt l (κ (q - 1 - i))) q := by
  have hn := ok.2.1
  have hl := ok.2.2.1
  have hin := N_in ok
  have ha := ok.2.2.2 _ (List.getElem_mem hk)
  obtain ⟨T0, R0, now0, g0⟩ := hT.cz hin
  obtain ⟨T, R, now, g, hR⟩ := g0.rise hin hT.pos (N_get hk) hv
  rw [show (l[k].1.toNat, l[k].2.1.toNat, l[k].2.2).2.1 = l[k].2.1.toNat from rfl] at g hR
  -- the causes
  generalize hX : upd (gx x) l[k].2.1.toNat (gx x l[k].1.toNat + l[k].2.2) = X at g
  have hC : gx (setAt c l[k].2.1 (k : Int)) = upd (gx c) l[k].2.1.toNat (k : Int) := gx_set (by omega)
  have hclen : (setAt c l[k].2.1 (k : Int)).length = n := by rw [setAt_len]; exact hc
  rw [← hC] at g
  generalize hc' : setAt c l[k].2.1 (k : Int) = c' at g hs hclen
  obtain ⟨u, hu⟩ : ∃ u, u = sq (fx (N l) (gx c')) l[k].2.1.toNat := ⟨_, rfl⟩
  have hu0 : u 0 = l[k].2.1.toNat := by rw [hu]; rfl
  have hus : ∀ j, u (j + 1) = fx (N l) (gx c') (u j) := fun j => by rw [hu]; rfl
  have hRT : ∀ v, v < n → 0 < T v → ∃ (k : Nat) (a : Int × Int × Int), gx c' v = (k : Int) ∧ l[k]? = some a ∧ a.2.1 = (v : Int) ∧ a.1 = (fx (N l) (gx c') v : Int) ∧ fx (N l) (gx c') v < n ∧ X v ≤ X (fx (N l) (gx c') v) + a.2.2 ∧ ((T v < T (fx (N l) (gx c') v) ∨ fx (N l) (gx c') v = v) → X v < X (fx (N l) (gx c') v) + a.2.2) ∧ R v ≤ R (fx (N l) (gx c') v) + 1 := fun v hv h0 => by
    obtain ⟨k, b, h1, h2, h3, h4, h5, h6⟩ := g.why v hv h0
    have hkl : k < l.length := by have := (List.getElem?_eq_some_iff.1 h2).1; rw [N_len] at this; exact this
    have hb := ok.2.2.2 _ (List.getElem_mem hkl)
    rw [N_get hkl] at h2
    cases h2
    have hf : fx (N l) (gx c') v = l[k].1.toNat := by unfold fx; rw [h1, Int.toNat_natCast, N_get hkl]
    simp only at h3 h4 h5 h6
    rw [hf]
    exact ⟨k, l[k], h1, List.getElem?_eq_getElem hkl, by omega, by omega, by omega, h4, h5, h6⟩
  have hA : ∀ j, j ≤ n → u j < n ∧ n ≤ R (u j) + j := fun j => by
    induction j with
    | zero => intro _; rw [hu0, hR]; omega
    | succ j ih =>
      intro hj
      obtain ⟨h1, h2⟩ := ih (by omega)
      obtain ⟨k, a, _, _, _, _, h3, _, _, h4⟩ := hRT (u j) h1 ((g.raised _ h1).1 (by omega))
      rw [hus]; exact ⟨h3, by omega⟩
  obtain ⟨ho, p, hp1, hpn, hp⟩ := orbit n (fx (N l) (gx c')) u hus fun j hj => (hA j hj).1
  have hall : ∀ m, u m < n ∧ 0 < T (u m) := fun m => by
    obtain ⟨m', h1, h2⟩ := ho m
    have h3 := hA m' (by omega)
    rw [h2]
    exact ⟨h3.1, (g.raised _ h3.1).1 (by omega)⟩
  have hw := fun m => hRT (u m) (hall m).1 (hall m).2
  obtain ⟨q, hq1, hqp, hq0, hqm, hqd⟩ := back (fun j => u (n + j)) (fx (N l) (gx c')) (fun j => hus (n + j)) hp1 (hp 0)
  -- the indices
  have hκ : ∀ m, gx c' (u m) = ((gx c' (u m)).toNat : Int) := fun m => by obtain ⟨k, a, h, _⟩ := hw m; rw [h, Int.toNat_natCast]
  have hone : ∀ m, ∃ a, l[(gx c' (u m)).toNat]? = some a ∧ a.2.1 = (u m : Int) ∧ a.1 = (u (m + 1) : Int) ∧ X (u m) ≤ X (u (m + 1)) + a.2.2 ∧ ((T (u m) < T (u (m + 1)) ∨ u (m + 1) = u m) → X (u m) < X (u (m + 1)) + a.2.2) := fun m => by
    obtain ⟨k, a, h1, h2, h3, h4, h5, h6, h7, h8⟩ := hw m
    rw [h1, Int.toNat_natCast, hus]
    exact ⟨a, h2, h3, h4, h6, h7⟩
  have hixc : ∀ m, ix c' (u m : Int) = some (gx c' (u m)) := fun m => by rw [ix_gx (by omega) (by have := (hall m).1; omega), Int.toNat_natCast]
  have hixl : ∀ m, ∃ a : Int × Int × Int, ix l (gx c' (u m)) = some a ∧ a.1 = (u (m + 1) : Int) := fun m => by
    obtain ⟨a, h1, _, h2, _⟩ := hone m
    rw [hκ m]
    exact ⟨a, ix_nat h1, h2⟩
  refine ⟨q, fun j => u (n + j), fun j => (gx c' (u (n + j))).toNat, hq1, by omega, ?_, hq0, hqd, fun j => ?_, ?_⟩
  · -- the program
    unfold diff_Ring
    rw [right_eq _ _ (by omega), decide_eq_true ok, Option.bind_some, if_neg (by decide), hs, Option.bind_some, if_neg (by simp only; omega)]
    have e1 : loopW (diff_Ring_l1 (n : Int) l (setAt x l[k].2.1 (gx x l[k].1.toNat + l[k].2.2), c', l[k].2.1)) (l[k].2.1, 0) = some (u n : Int) := by
      obtain ⟨s, h1, h2⟩ := loop_cnt n (fun (v : Int) (j : Nat) => (v, (j : Int))) (diff_Ring_l1 (n : Int) l (setAt x l[k].2.1 (gx x l[k].1.toNat + l[k].2.2), c', l[k].2.1)) id (fun v j => v = (u j : Int))
        (fun v j hj hI => by
          subst hI
          obtain ⟨a, b1, b2⟩ := hixl j
          refine ⟨(u (j + 1) : Int), ?_, rfl⟩
          rw [diff_Ring_l1, if_pos (by omega), hixc, Option.bind_some, b1, Option.bind_some, w64_id (by omega), b2]; rfl)
        (fun v hI => by rw [diff_Ring_l1, if_neg (by omega)]; rfl) l[k].2.1 (by rw [hu0]; omega)
      have h3 : loopW (diff_Ring_l1 (n : Int) l (setAt x l[k].2.1 (gx x l[k].1.toNat + l[k].2.2), c', l[k].2.1)) (l[k].2.1, 0) = some s := h2
      rw [h3, h1]
    rw [e1, Option.bind_some]
    have hixn := hixc n
    have hixn2 : ix (setAt x l[k].2.1 (gx x l[k].1.toNat + l[k].2.2), c', l[k].2.1).2.1 (u n : Int) = some (gx c' (u n)) := hixn
    obtain ⟨a0, b1, b2⟩ := hixl n
    rw [hixn2, Option.bind_some, Option.bind_some, b1, Option.bind_some, b2]
    have e2 : loopW (diff_Ring_l2 l (setAt x l[k].2.1 (gx x l[k].1.toNat + l[k].2.2), c', l[k].2.1) (u n : Int)) ([gx c' (u n)], (u (n + 1) : Int)) = some (cl (fun j => (gx c' (u (n + j))).toNat) q) := by
      refine loopW_is (fun s => ∃ j, 1 ≤ j ∧ j ≤ q ∧ s = (cl (fun j => (gx c' (u (n + j))).toNat) j, (u (n + j) : Int))) (fun s => q - s.1.length) _ ?_ _ ⟨1, by omega, hq1, by
        have h := hκ n
        show ([gx c' (u n)], (u (n + 1) : Int)) = (cl (fun j => (gx c' (u (n + j))).toNat) 1, (u (n + 1) : Int))
        unfold cl
        rw [h]; simp⟩
      rintro s ⟨j, hj1, hjq, rfl⟩
      by_cases e : j = q
      · right
        rw [e, diff_Ring_l2, if_neg (by have h : u (n + q) = u n := hq0; rw [h]; simp)]
      · left
        obtain ⟨a, b3, b4⟩ := hixl (n + j)
        have hne := hqm j hj1 (by omega)
        refine ⟨(cl (fun j => (gx c' (u (n + j))).toNat) (j + 1), (u (n + (j + 1)) : Int)), ?_, ⟨j + 1, by omega, by omega, rfl⟩, by rw [cl_len, cl_len]; omega⟩
        rw [diff_Ring_l2, if_pos (by intro h; exact hne (show u (n + j) = u n by omega)), hixc, Option.bind_some, app_is (by rw [cl_len]; simp; omega), Option.bind_some, Option.bind_some, b3, Option.bind_some, b4, cl_succ]
        rw [← hκ (n + j)]; rfl
    rw [e2, Option.bind_some, rev_eq _ (by rw [cl_len]; omega)]; rfl
  · obtain ⟨a, h1, h2, h3, _⟩ := hone (n + j)
    exact ⟨a, h1, h2, h3⟩
  · -- the sum of the gaps
    have hgap : ∀ m, X (u m) ≤ X (u (m + 1)) + gapAt l (gx c' (u m)).toNat ∧ ((T (u m) < T (u (m + 1)) ∨ u (m + 1) = u m) → X (u m) < X (u (m + 1)) + gapAt l (gx c' (u m)).toNat) := fun m => by
      obtain ⟨a, h1, h2, h3, h4, h5⟩ := hone m
      unfold gapAt
      rw [h1]; exact ⟨h4, h5⟩
    have key := rise_lt (fun i => X (u (n + (q - i)))) (fun i => gapAt l ((gx c' (u (n + (q - 1 - i)))).toNat)) q (fun i hi => by
      have := (hgap (n + (q - 1 - i))).1
      show X (u (n + (q - (i + 1)))) ≤ X (u (n + (q - i))) + gapAt l ((gx c' (u (n + (q - 1 - i)))).toNat)
      rw [show q - (i + 1) = q - 1 - i by omega, show q - i = q - 1 - i + 1 by omega]
      exact this) (by
      obtain ⟨m, hm, hmax⟩ := amax (fun j => T (u (n + (j + 1)))) q hq1
      refine ⟨q - 1 - m, by omega, ?_⟩
      show X (u (n + (q - (q - 1 - m + 1)))) < X (u (n + (q - (q - 1 - m)))) + gapAt l ((gx c' (u (n + (q - 1 - (q - 1 - m))))).toNat)
      rw [show q - (q - 1 - m + 1) = m by omega, show q - (q - 1 - m) = m + 1 by omega, show q - 1 - (q - 1 - m) = m by omega]
      refine (hgap (n + m)).2 ?_
      by_cases e : u (n + m + 1) = u (n + m)
      · exact .inr e
      · left
        have h1 : T (u (n + m)) ≤ T (u (n + m + 1)) := by
          by_cases e0 : m = 0
          · subst e0
            have := hmax (q - 1) (by omega)
            try simp only at this
            rw [show q - 1 + 1 = q by omega] at this
            have h2 := hq0
            try simp only at h2
            rw [h2] at this
            exact this
          · have := hmax (m - 1) (by omega)
            try simp only at this
            rw [show m - 1 + 1 = m by omega] at this
            exact this
        have h2 : T (u (n + m)) ≠ T (u (n + m + 1)) := fun h => e (g.one _ _ (hall _).1 (hall _).1 h (hall _).2).symm
        omega)
    have h0 : u (n + q) = u (n + 0) := hq0
    have key2 : X (u (n + (q - q))) < X (u (n + (q - 0))) + total (fun i => gapAt l ((gx c' (u (n + (q - 1 - i)))).toNat)) q := key
    rw [Nat.sub_self, Nat.sub_zero, h0] at key2
    show 0 < total (fun i => gapAt l ((gx c' (u (n + (q - 1 - i)))).toNat)) q
    omega

theorem total_bd (g : Nat → Int) (p : Nat) (h : ∀ j, j < p → -1073741824 ≤ g j ∧ g j ≤ 1073741824) : ∀ k, k ≤ p → -1073741824 * (k : Int) ≤ total g k ∧ total g k ≤ 1073741824 * (k : Int)
  | 0, _ => by simp [total]
  | k + 1, hk => by
    have h1 := total_bd g p h k (by omega)
    have h2 := h k (by omega)
    simp only [total]; omega
theorem DiffRing_true (p0 : Int) (ok0 : (Lit.int .i64 p0).wf = true) (p1 : List (Int × Int × Int)) (ok1 : okL (okP (fun n => (Lit.int .i64 n).wf = true) (okP (fun n => (Lit.int .i64 n).wf = true) (fun n => (Lit.int .i64 n).wf = true))) p1) : L22_DiffRing p0 p1 = some true := by
  unfold L22_DiffRing
  rw [awake22]
  by_cases h : 256 < (p1.length : Int)
  · rw [if_pos h]; rfl
  have hl : p1.length ≤ 256 := by omega
  rw [if_neg h, rright_eq _ _ (by omega)]
  by_cases ok : Ok p0 p1
  · rw [decide_eq_true ok, Option.bind_some, Option.bind_some, if_neg (by decide)]
    have hn := ok.2.1
    obtain ⟨n, rfl⟩ : ∃ n : Nat, p0 = (n : Int) := ⟨p0.toNat, by have := ok.1; omega⟩
    rw [mine_eq (by omega), Option.bind_some]
    rcases solve_eq ok with ⟨x, c, g1, g2, g3, g4⟩ | ⟨x, c, g1, g2, k, hk, g3, g4, g5⟩
    · have e1 : diff_Ring (n : Int) p1 = some [] := by
        unfold diff_Ring
        rw [right_eq _ _ (by omega), decide_eq_true ok, Option.bind_some, if_neg (by decide), g1, Option.bind_some, if_pos (show (-1 : Int) < 0 by decide)]
      have e2 : diff_Earliest (n : Int) p1 = some (x, true) := by
        unfold diff_Earliest
        rw [right_eq _ _ (by omega), decide_eq_true ok, Option.bind_some, if_neg (by decide), g1, Option.bind_some, if_neg (show ¬ (0 : Int) ≤ -1 by decide)]
      have e3 : loopW (L22_DiffRing_l1 p1 []) (0, 0) = some (.inl 0) := loopW_iff.2 ⟨1, by unfold loopN; rw [L22_DiffRing_l1, if_neg (by decide)]; rfl⟩
      rw [e2, Option.bind_some, Option.bind_some, e1, Option.bind_some, if_neg (by simp), e3]
      rfl
    · have ha := ok.2.2.2 _ (List.getElem_mem hk)
      have e2 : diff_Earliest (n : Int) p1 = some ([], false) := by
        unfold diff_Earliest
        rw [right_eq _ _ (by omega), decide_eq_true ok, Option.bind_some, if_neg (by decide), g5, Option.bind_some, if_pos (by exact ha.2.2.1)]
      obtain ⟨q, w, κ, q1, q2, q3, q4, q5, q6, q7⟩ := ring_eq ok g1 g2 hk g3 g4 g5
      have hr : ∀ i, i < q → (cl κ q).reverse[i]? = some (κ (q - 1 - i) : Int) := fun i hi => by
        rw [List.getElem?_reverse (by rw [cl_len]; exact hi), cl_len]
        unfold cl
        rw [List.getElem?_map, List.getElem?_range (by omega)]; rfl
      have hlen : (cl κ q).reverse.length = q := by rw [List.length_reverse, cl_len]
      have hgb : ∀ j, j < q → -1073741824 ≤ gapAt p1 (κ (q - 1 - j)) ∧ gapAt p1 (κ (q - 1 - j)) ≤ 1073741824 := fun j _ => by
        obtain ⟨a, h1, _⟩ := q6 (q - 1 - j)
        have := ok.2.2.2 a (List.mem_of_getElem? h1)
        unfold gapAt; rw [h1]; simp only; omega
      rw [e2, Option.bind_some, Option.bind_some, q3, Option.bind_some, if_neg (by simp [cl_len]; omega)]
      obtain ⟨s, s1, s2⟩ := loop_cnt q (fun (t : Int) (k : Nat) => (t, (k : Int))) (L22_DiffRing_l1 p1 (cl κ q).reverse) (fun t => .inl t) (fun t k => t = total (fun i => gapAt p1 (κ (q - 1 - i))) k)
        (fun t k hk hI => by
          subst hI
          have hb := total_bd (fun i => gapAt p1 (κ (q - 1 - i))) q hgb k (by omega)
          have hb2 := hgb k hk
          refine ⟨_, ?_, rfl⟩
          obtain ⟨a, a1, a2, a3⟩ := q6 (q - 1 - k)
          have hal : κ (q - 1 - k) < p1.length := (List.getElem?_eq_some_iff.1 a1).1
          -- the next one
          obtain ⟨m, m1, m2, m3⟩ : ∃ m, m < q ∧ rmI (w64 ((k : Int) + 1)) ((cl κ q).reverse.length : Int) = some (m : Int) ∧ w (q - 1 - m + 1) = w (q - 1 - k) := by
            rw [hlen, w64_id (by omega)]
            by_cases e : k + 1 = q
            · refine ⟨0, by omega, ?_, ?_⟩
              · unfold rmI
                rw [if_neg (by omega), show (k : Int) + 1 = (q : Int) by omega, Int.tmod_self]; rfl
              · rw [show q - 1 - 0 + 1 = q by omega, q4, show q - 1 - k = 0 by omega]
            · refine ⟨k + 1, by omega, ?_, by congr 1; omega⟩
              unfold rmI
              rw [if_neg (by omega), Int.tmod_eq_emod_of_nonneg (by omega), Int.emod_eq_of_lt (by omega) (by omega)]; rfl
          obtain ⟨b, b1, b2, b3⟩ := q6 (q - 1 - m)
          have hbl : κ (q - 1 - m) < p1.length := (List.getElem?_eq_some_iff.1 b1).1
          rw [L22_DiffRing_l1, if_pos (by rw [hlen]; omega), m2, Option.bind_some, ix_nat (hr m m1), Option.bind_some, ix_nat (hr k hk)]
          simp only [Option.bind_some]
          rw [if_neg (by omega), if_neg (by omega), if_neg (by omega), if_neg (by omega), ix_nat a1, ix_nat b1]
          simp only [Option.bind_some]
          rw [decide_eq_false (by rw [a2, b3, m3]; simp), if_neg (by decide)]
          have e4 : loopW (L22_DiffRing_l2 p1 (cl κ q).reverse (k : Int)) 0 = some (.inl ()) := by
            obtain ⟨z, _, z2⟩ := loop_cnt k (fun (_ : Unit) (j : Nat) => (j : Int)) (L22_DiffRing_l2 p1 (cl κ q).reverse (k : Int)) (fun _ => .inl ()) (fun _ _ => True)
              (fun _ j hj _ => by
                refine ⟨(), ?_, trivial⟩
                obtain ⟨d, d1, d2, d3⟩ := q6 (q - 1 - j)
                have hne := q5 (q - 1 - k) (q - 1 - j) (by omega) (by omega)
                rw [L22_DiffRing_l2, if_pos (by omega), ix_nat (hr j (by omega)), Option.bind_some, ix_nat d1, Option.bind_some, ix_nat (hr k hk), Option.bind_some, ix_nat a1, Option.bind_some, if_neg (by rw [a2, d2]; omega), w64_id (by omega)]; rfl)
              (fun _ _ => by rw [L22_DiffRing_l2, if_neg (by omega)]) () trivial
            exact z2
          rw [e4]
          simp only [orR, Option.bind_some]
          have hg : gapAt p1 (κ (q - 1 - k)) = a.2.2 := by unfold gapAt; rw [a1]
          rw [← hg, w64_id (by omega), w64_id (by omega)]; rfl)
        (fun t _ => by rw [L22_DiffRing_l1, if_neg (by rw [hlen]; omega)]) 0 rfl
      have e5 : loopW (L22_DiffRing_l1 p1 (cl κ q).reverse) (0, 0) = some (.inl s) := s2
      rw [e5]
      simp only [orR, Option.bind_some]
      rw [if_neg (by decide), if_pos (by rw [s1]; exact q7)]; rfl
  · rw [decide_eq_false ok]; rfl
end Go.Proofs.Ytnhoakboblfliaa
